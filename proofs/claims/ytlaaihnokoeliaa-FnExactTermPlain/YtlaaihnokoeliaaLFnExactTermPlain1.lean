/- Several texts in one: XW2, PLiT, XPn. -/
import Derived.Test.YtlaaihnokoeliaaKMat23
import Derived.Test.YtlaaihnokoeliaaKMat21

/-! XW2: What the walks of exact laws hold on to: boxes of answers. Plain lemmas. -/
namespace Go.Proofs.Ytlaaihnokoeliaa
open Go.RowKit Go.Deep

/-- A box of a term of the answer's own. -/
structure Yb (lo hi b : Nat) (s v : Int) (a : Option Addr) (c : Nat) (k : Fo) (w : World) : Prop where
  c0 : w.cell? ⟨b, 0, none⟩ = some (.int .i64 s)
  c1 : w.cell? ⟨b, 1, none⟩ = some (.int .i64 v)
  c2 : w.cell? ⟨b, 2, none⟩ = some (.slice a (flen k) c)
  tx : TX w lo hi a k
  lh : lo ≤ hi
  hb : hi ≤ b
  lt : b < w.heap.size
theorem Yb.next {lo hi b : Nat} {s v : Int} {a : Option Addr} {c : Nat} {k : Fo} {w w2 : World} (h : Yb lo hi b s v a c k w) (hb : Below w.heap.size w w2) : Yb lo hi b s v a c k w2 := by
  have h1 := h.hb
  have h2 := h.lt
  exact ⟨cell_low hb h.c0, cell_low hb h.c1, cell_low hb h.c2, h.tx.same (Same.of_below (hb.mono (by omega))), h.lh, h.hb, Nat.lt_of_lt_of_le h.lt hb.size⟩
theorem Yb.far {lo hi b : Nat} {s v : Int} {a : Option Addr} {c : Nat} {k : Fo} {w w2 : World} {lo' hi' : Nat} (h : Yb lo hi b s v a c k w) (hm : Marked lo' hi' w w2) (hd : hi' ≤ lo) : Yb lo hi b s v a c k w2 := by
  have h0 := h.lh
  have h1 := h.hb
  have h2 := h.lt
  have e := hm.far b (by omega) h2
  exact ⟨by rw [World.cell?_of_block (a := ⟨b, 0, none⟩) e]; exact h.c0, by rw [World.cell?_of_block (a := ⟨b, 1, none⟩) e]; exact h.c1, by rw [World.cell?_of_block (a := ⟨b, 2, none⟩) e]; exact h.c2, h.tx.same (fun q q1 q2 => hm.far q (by omega) (by omega)), h.lh, h.hb, Nat.lt_of_lt_of_le h.lt hm.below.size⟩
theorem Yb.top {lo hi b : Nat} {s v : Int} {a : Option Addr} {c : Nat} {k : Fo} {w : World} (h : Yb lo hi b s v a c k w) : Sl w 0 w.heap.size a k := h.tx.1.mono (Nat.zero_le _) (by have := h.hb; have := h.lt; omega)
theorem Yb.new {s v : Int} {a : Option Addr} {c : Nat} {k : Fo} {w : World} {lo : Nat} (h : TX w lo w.heap.size a k) (hl : lo ≤ w.heap.size) (T : TypeId) : Yb lo w.heap.size w.heap.size s v a c k (w.alloc (.cells #[.int .i64 s, .int .i64 v, .slice a (flen k) c] T)) := by
  have hb : Below w.heap.size w (w.alloc (.cells #[.int .i64 s, .int .i64 v, .slice a (flen k) c] T)) := (Below.refl _ _).alloc (Nat.le_refl _) _
  refine ⟨?_, ?_, ?_, h.same (Same.of_below hb), hl, Nat.le_refl _, by simp⟩
  · rw [World.cell?_alloc_at _ _ _ _ (by simp)]; rfl
  · rw [World.cell?_alloc_at _ _ _ _ (by simp)]; rfl
  · rw [World.cell?_alloc_at _ _ _ _ (by simp)]; rfl
/-- The same, its tree holding numbers from m on. -/
structure Yh (lo hi b : Nat) (s v : Int) (a : Option Addr) (c : Nat) (k : Fo) (m : Int) (w : World) : Prop where
  c0 : w.cell? ⟨b, 0, none⟩ = some (.int .i64 s)
  c1 : w.cell? ⟨b, 1, none⟩ = some (.int .i64 v)
  c2 : w.cell? ⟨b, 2, none⟩ = some (.slice a (flen k) c)
  hd : HdS w lo hi a k m
  lh : lo ≤ hi
  hb : hi ≤ b
  lt : b < w.heap.size
theorem Yh.next {lo hi b : Nat} {s v : Int} {a : Option Addr} {c : Nat} {k : Fo} {m : Int} {w w2 : World} (h : Yh lo hi b s v a c k m w) (hb : Below w.heap.size w w2) : Yh lo hi b s v a c k m w2 := by
  have h1 := h.hb
  have h2 := h.lt
  exact ⟨cell_low hb h.c0, cell_low hb h.c1, cell_low hb h.c2, h.hd.same (Same.of_below (hb.mono (by omega))), h.lh, h.hb, Nat.lt_of_lt_of_le h.lt hb.size⟩
theorem Yh.far {lo hi b : Nat} {s v : Int} {a : Option Addr} {c : Nat} {k : Fo} {m : Int} {w w2 : World} {top : Nat} (h : Yh lo hi b s v a c k m w) (hs : w.heap.size ≤ w2.heap.size) (hm : ∀ q, top ≤ q → q < w.heap.size → w2.heap[q]? = w.heap[q]?) (hd : top ≤ lo) : Yh lo hi b s v a c k m w2 := by
  have h0 := h.lh
  have h1 := h.hb
  have h2 := h.lt
  have e := hm b (by omega) h2
  exact ⟨by rw [World.cell?_of_block (a := ⟨b, 0, none⟩) e]; exact h.c0, by rw [World.cell?_of_block (a := ⟨b, 1, none⟩) e]; exact h.c1, by rw [World.cell?_of_block (a := ⟨b, 2, none⟩) e]; exact h.c2, h.hd.same (fun q q1 q2 => hm q (by omega) (by omega)), h.lh, h.hb, Nat.lt_of_lt_of_le h.lt hs⟩
theorem Yb.held {lo hi b : Nat} {s v : Int} {a : Option Addr} {c : Nat} {k : Fo} {m : Int} {w w2 : World} (h : Yb lo hi b s v a c k w) (hm : Marked lo hi w w2) (hd : HdS w2 lo hi a k m) : Yh lo hi b s v a c k m w2 := by
  have h1 := h.hb
  have h2 := h.lt
  have e := hm.far b h1 h2
  exact ⟨by rw [World.cell?_of_block (a := ⟨b, 0, none⟩) e]; exact h.c0, by rw [World.cell?_of_block (a := ⟨b, 1, none⟩) e]; exact h.c1, by rw [World.cell?_of_block (a := ⟨b, 2, none⟩) e]; exact h.c2, hd, h.lh, h.hb, Nat.lt_of_lt_of_le h.lt hm.below.size⟩
theorem Gx.low {lo hi : Nat} {bs : List Bd} {A : Option Addr} {w w2 : World} {B : Nat} (h : Gx lo hi bs A w) (hb : Below B w w2) (hB : hi ≤ B) : Gx lo hi bs A w2 := ⟨h.bx.same (Same.of_below (hb.mono hB)), Nat.le_trans h.le hb.size⟩
end Go.Proofs.Ytlaaihnokoeliaa

/-! PLiT: - The program's TermPlain: its answers own their memory. -/
namespace Go.Proofs.Ytlaaihnokoeliaa
open Go.RowKit Go.Deep Go.Maps

def PlnPostT (s v : Int) (k : Fo) (w : World) (e : Ending) (w' : World) : Prop :=
  ∃ a c A C s' v' k' bs n, plR s v k = ((s', v', k'), bs) ∧ e = .returned (.tuple #[.agg #[.int .i64 s', .int .i64 v', .slice a (flen k') c], .slice A (List.length bs) C]) ∧ Below w.heap.size w w' ∧ BX w' w.heap.size n bs A ∧ TX w' n w'.heap.size a k' ∧ w.heap.size ≤ n ∧ n ≤ w'.heap.size
theorem pl_endT {w w1 : World} {s v s' v' : Int} {k k' : Fo} {a A : Option Addr} {c C n : Nat} {bs : List Bd} {o o' : Obj} (hr : plR s v k = ((s', v', k'), bs)) (hb : Below (w.heap.size + 2) ((w.alloc o).alloc o') w1) (hi : BX w1 (w.heap.size + 2) n bs A) (hl : TX w1 n w1.heap.size a k') (hn : w.heap.size + 2 ≤ n) (hn2 : n ≤ w1.heap.size) (x y z : Value) :
    PlnPostT s v k w (.returned (.tuple #[.agg #[.int .i64 s', .int .i64 v', .slice a (flen k') c], .slice A (List.length bs) C])) (((w1.setCell ⟨w.heap.size + 1, 0, none⟩ x).setCell ⟨w.heap.size + 1, 1, none⟩ y).setCell ⟨w.heap.size + 1, 2, none⟩ z) := by
  have h0 : Same (w.heap.size + 2) w1.heap.size w1 (((w1.setCell ⟨w.heap.size + 1, 0, none⟩ x).setCell ⟨w.heap.size + 1, 1, none⟩ y).setCell ⟨w.heap.size + 1, 2, none⟩ z) := ((Same.setCell (fun _ _ _ => rfl) (.inl (by simp)) _).setCell (.inl (by simp)) _).setCell (.inl (by simp)) _
  have hb' : Below w.heap.size w w1 := (((Below.refl _ _).alloc (Nat.le_refl _) o).alloc (by simp) o').trans (hb.mono (by omega))
  refine ⟨a, c, A, C, s', v', k', bs, n, hr, rfl, ((hb'.setCell (by simp) _).setCell (by simp) _).setCell (by simp) _, (hi.same (h0.mono (Nat.le_refl _) hn2)).mono (by omega) (Nat.le_refl _), ?_, by omega, by simpa using hn2⟩
  simpa using hl.same (h0.mono hn (Nat.le_refl _))

end Go.Proofs.Ytlaaihnokoeliaa

/-! XPn: - For every term, laws.FnExactTermPlain answers true and writes nothing that was there. -/
namespace Go.Proofs.Ytlaaihnokoeliaa
open Go.RowKit Go.Deep

theorem pl_tiny {s v : Int} {k : Fo} {s' v' : Int} {k' : Fo} {bs : List Bd} (h : plR s v k = ((s', v', k'), bs)) : fsz k' ≤ 15 ∧ bs.length ≤ 12 ∧ (∀ x ∈ bs, fsz x.2.2.2 ≤ 15) ∧ mcn bs ≤ 600 := by
  have h0 := plR_small h
  have h2 : ∀ x ∈ bs, fsz x.2.2.2 ≤ 15 := by
    rcases plR_cases h with ⟨_, _, _, _, rfl⟩ | ⟨hok, rfl, _⟩
    · intro x hx; cases hx
    · intro x hx
      have := (nms_bof hok x.1 x.2 (sv_mem (nms_in hok).1 hx)).2.2
      omega
  have h3 := mcn_small (bs := bs) (by have := h0.2.1; omega) h2
  exact ⟨h0.1, h0.2.1, h2, by have := h0.2.1; omega⟩

end Go.Proofs.Ytlaaihnokoeliaa
