/- Several texts in one: XW. -/
import Derived.Test.YtafnnfoejemdcaaKEqs15

/-! XW: What the walks of exact laws hold on to: parameters, answers of the specification, copies that are marked, answers of the program. Plain lemmas. -/
namespace Go.Proofs.Ytafnnfoejemdcaa
open Go.RowKit Go.Deep

/-- A box of a term; all in blocks below n. -/
structure Tq (n b : Nat) (s v : Int) (a : Option Addr) (c : Nat) (k : Fo) (w : World) : Prop where
  c0 : w.cell? ⟨b, 0, none⟩ = some (.int .i64 s)
  c1 : w.cell? ⟨b, 1, none⟩ = some (.int .i64 v)
  c2 : w.cell? ⟨b, 2, none⟩ = some (.slice a (flen k) c)
  lt : b < n
  sl : Sl w 0 n a k
  le : n ≤ w.heap.size
theorem Tq.go {n b : Nat} {s v : Int} {a : Option Addr} {c : Nat} {k : Fo} {w w2 : World} {B : Nat} (h : Tq n b s v a c k w) (hb : Below B w w2) (hB : n ≤ B) : Tq n b s v a c k w2 := by
  have hlt := h.lt
  exact ⟨by rw [hb.cell (show b < B by omega)]; exact h.c0, by rw [hb.cell (show b < B by omega)]; exact h.c1, by rw [hb.cell (show b < B by omega)]; exact h.c2, h.lt, h.sl.below (hb.mono hB), Nat.le_trans h.le hb.size⟩
theorem Tq.next {n b : Nat} {s v : Int} {a : Option Addr} {c : Nat} {k : Fo} {w w2 : World} (h : Tq n b s v a c k w) (hb : Below w.heap.size w w2) : Tq n b s v a c k w2 := h.go hb h.le
theorem Tq.top {n b : Nat} {s v : Int} {a : Option Addr} {c : Nat} {k : Fo} {w : World} (h : Tq n b s v a c k w) : Sl w 0 w.heap.size a k := h.sl.mono (Nat.le_refl _) h.le
/-- A row of binds; all in blocks below n. -/
structure Rw (n : Nat) (bs : List Bd) (A : Option Addr) (w : World) : Prop where
  sl : BSl w 0 n A bs
  le : n ≤ w.heap.size
theorem Rw.go {n : Nat} {bs : List Bd} {A : Option Addr} {w w2 : World} {B : Nat} (h : Rw n bs A w) (hb : Below B w w2) (hB : n ≤ B) : Rw n bs A w2 := ⟨h.sl.below (hb.mono hB), Nat.le_trans h.le hb.size⟩
theorem Rw.next {n : Nat} {bs : List Bd} {A : Option Addr} {w w2 : World} (h : Rw n bs A w) (hb : Below w.heap.size w w2) : Rw n bs A w2 := h.go hb h.le
theorem Rw.top {n : Nat} {bs : List Bd} {A : Option Addr} {w : World} (h : Rw n bs A w) : BSl w 0 w.heap.size A bs := h.sl.mono (Nat.le_refl _) h.le
/-- A box of a term that lies in blocks of its own. -/
structure Xb (lo hi b : Nat) (s v : Int) (a : Option Addr) (c : Nat) (k : Fo) (w : World) : Prop where
  c0 : w.cell? ⟨b, 0, none⟩ = some (.int .i64 s)
  c1 : w.cell? ⟨b, 1, none⟩ = some (.int .i64 v)
  c2 : w.cell? ⟨b, 2, none⟩ = some (.slice a (flen k) c)
  sx : SX w lo hi a k
  lh : lo ≤ hi
  hb : hi ≤ b
  lt : b < w.heap.size
theorem Xb.next {lo hi b : Nat} {s v : Int} {a : Option Addr} {c : Nat} {k : Fo} {w w2 : World} (h : Xb lo hi b s v a c k w) (hb : Below w.heap.size w w2) : Xb lo hi b s v a c k w2 := by
  have h1 := h.hb
  have h2 := h.lt
  exact ⟨cell_low hb h.c0, cell_low hb h.c1, cell_low hb h.c2, h.sx.same (Same.of_below (hb.mono (by omega))), h.lh, h.hb, Nat.lt_of_lt_of_le h.lt hb.size⟩
theorem Xb.far {lo hi b : Nat} {s v : Int} {a : Option Addr} {c : Nat} {k : Fo} {w w2 : World} {lo' hi' : Nat} (h : Xb lo hi b s v a c k w) (hm : Marked lo' hi' w w2) (hd : hi' ≤ lo) : Xb lo hi b s v a c k w2 := by
  have h0 := h.lh
  have h1 := h.hb
  have h2 := h.lt
  have e := hm.far b (by omega) h2
  exact ⟨by rw [World.cell?_of_block (a := ⟨b, 0, none⟩) e]; exact h.c0, by rw [World.cell?_of_block (a := ⟨b, 1, none⟩) e]; exact h.c1, by rw [World.cell?_of_block (a := ⟨b, 2, none⟩) e]; exact h.c2, h.sx.same (fun q q1 q2 => hm.far q (by omega) (by omega)), h.lh, h.hb, Nat.lt_of_lt_of_le h.lt hm.below.size⟩
theorem Xb.top {lo hi b : Nat} {s v : Int} {a : Option Addr} {c : Nat} {k : Fo} {w : World} (h : Xb lo hi b s v a c k w) : Sl w 0 w.heap.size a k := h.sx.1.mono (Nat.zero_le _) (by have := h.hb; have := h.lt; omega)
/-- A box of a copy, made behind it. -/
theorem Xb.new {s v : Int} {a : Option Addr} {c : Nat} {k : Fo} {w : World} {lo : Nat} (h : SX w lo w.heap.size a k) (hl : lo ≤ w.heap.size) (T : TypeId) : Xb lo w.heap.size w.heap.size s v a c k (w.alloc (.cells #[.int .i64 s, .int .i64 v, .slice a (flen k) c] T)) := by
  have hb : Below w.heap.size w (w.alloc (.cells #[.int .i64 s, .int .i64 v, .slice a (flen k) c] T)) := (Below.refl _ _).alloc (Nat.le_refl _) _
  refine ⟨?_, ?_, ?_, h.same (Same.of_below hb), hl, Nat.le_refl _, by simp⟩
  · rw [World.cell?_alloc_at _ _ _ _ (by simp)]; rfl
  · rw [World.cell?_alloc_at _ _ _ _ (by simp)]; rfl
  · rw [World.cell?_alloc_at _ _ _ _ (by simp)]; rfl
/-- A row of binds of the answer's own. -/
structure Gx (lo hi : Nat) (bs : List Bd) (A : Option Addr) (w : World) : Prop where
  bx : BX w lo hi bs A
  le : hi ≤ w.heap.size
theorem Gx.next {lo hi : Nat} {bs : List Bd} {A : Option Addr} {w w2 : World} (h : Gx lo hi bs A w) (hb : Below w.heap.size w w2) : Gx lo hi bs A w2 := ⟨h.bx.same (Same.of_below (hb.mono h.le)), Nat.le_trans h.le hb.size⟩
theorem Gx.far {lo hi : Nat} {bs : List Bd} {A : Option Addr} {w w2 : World} {lo' hi' : Nat} (h : Gx lo hi bs A w) (hm : Marked lo' hi' w w2) (hd : hi' ≤ lo) : Gx lo hi bs A w2 :=
  ⟨h.bx.same (fun q q1 q2 => hm.far q (by omega) (by have := h.le; omega)), Nat.le_trans h.le hm.below.size⟩
theorem Gx.top {lo hi : Nat} {bs : List Bd} {A : Option Addr} {w : World} (h : Gx lo hi bs A w) : BSl w 0 w.heap.size A bs := h.bx.bsl.mono (Nat.zero_le _) h.le
/-- A row of the answer's own that holds numbers from m on. -/
structure Gh (lo hi : Nat) (bs : List Bd) (A : Option Addr) (m : Int) (w : World) : Prop where
  bh : BH w lo hi bs A m
  le : hi ≤ w.heap.size
theorem Gh.next {lo hi : Nat} {bs : List Bd} {A : Option Addr} {m : Int} {w w2 : World} (h : Gh lo hi bs A m w) (hb : Below w.heap.size w w2) : Gh lo hi bs A m w2 := ⟨h.bh.same (Same.of_below (hb.mono h.le)), Nat.le_trans h.le hb.size⟩
theorem low_next {w0 w w2 : World} (h : Below w0.heap.size w0 w) (hb : Below w.heap.size w w2) : Below w0.heap.size w0 w2 := h.trans (hb.mono h.size)
theorem mcn_small : ∀ {bs : List Bd}, bs.length ≤ 100 → (∀ x ∈ bs, fsz x.2.2.2 ≤ 15) → mcn bs ≤ 33 * (bs.length : Int)
  | [], _, _ => by simp [mcn]
  | x :: r, hl, hz => by
    have h1 := mcn_small (bs := r) (by simp at hl; omega) fun y hy => hz y (List.mem_cons_of_mem _ hy)
    have h2 := hz x List.mem_cons_self
    simp only [mcn, List.length_cons]
    omega
end Go.Proofs.Ytafnnfoejemdcaa
