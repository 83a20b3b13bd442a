/- Several texts in one: XB1, XW, MBt, XO0. -/
import Derived.Test.YtlaaihnokoeliaaKMat22
import Derived.Test.YtlaaihnokoeliaaKMat11
import Derived.Test.YtlaaihnokoeliaaKMat13
import Derived.Test.YtlaaihnokoeliaaKMat3
import Derived.Test.YtlaaihnokoeliaaKMat4

/-! XB1: - Rows of binds of one's own, their terms trees of one's own; eqBindS, markBindS, heldBindS. -/
namespace Go.Proofs.Ytlaaihnokoeliaa
open Go.RowKit Go.Deep

/-- How many numbers a row of binds holds. -/
def mcn : List Bd → Int
  | [] => 0
  | x :: r => 3 + 2 * (fsz x.2.2.2 : Int) + mcn r
theorem mcn_app : ∀ (xs ys : List Bd), mcn (xs ++ ys) = mcn xs + mcn ys
  | [], _ => by simp [mcn]
  | x :: r, ys => by simp only [List.cons_append, mcn, mcn_app r ys]; omega
theorem mcn_take {bs : List Bd} {j : Nat} {x : Bd} (h : bs[j]? = some x) : mcn (bs.take (j + 1)) = mcn (bs.take j) + (3 + 2 * (fsz x.2.2.2 : Int)) := by
  rw [List.take_add_one, h, mcn_app]; simp [mcn]
theorem mcn_pos : ∀ bs : List Bd, 0 ≤ mcn bs
  | [] => by simp [mcn]
  | x :: r => by have := mcn_pos r; simp only [mcn]; omega
theorem mcn_le {bs : List Bd} (j : Nat) : mcn (bs.take j) ≤ mcn bs := by
  have h := mcn_app (bs.take j) (bs.drop j)
  rw [List.take_append_drop] at h
  have := mcn_pos (bs.drop j)
  omega

/-- The bind at i, its cells, its term's tree. -/
def BCell (w : World) (g : Nat) (Ls Hs : Nat → Nat) (i : Nat) (x : Bd) : Prop :=
  ∃ a c, w.cell? ⟨g, i * 4, none⟩ = some (.int .i64 x.1) ∧ w.cell? ⟨g, i * 4 + 1, none⟩ = some (.int .i64 x.2.1) ∧ w.cell? ⟨g, i * 4 + 2, none⟩ = some (.int .i64 x.2.2.1) ∧ w.cell? ⟨g, i * 4 + 3, none⟩ = some (.slice a (flen x.2.2.2) c) ∧ TX w (Ls i) (Hs i) a x.2.2.2
/-- Where the trees lie: apart from one another and from the row. -/
structure RngX (base top g : Nat) (bs : List Bd) (Ls Hs : Nat → Nat) : Prop where
  gb : base ≤ g
  gt : g < top
  lo : ∀ i, i < bs.length → base ≤ Ls i
  le : ∀ i, i < bs.length → Ls i ≤ Hs i
  hi : ∀ i, i < bs.length → Hs i ≤ top
  off : ∀ i, i < bs.length → g < Ls i ∨ Hs i ≤ g
  ord : ∀ i j, i < j → j < bs.length → Hs i ≤ Ls j
/-- A row of binds of one's own. -/
def BX (w : World) (base top : Nat) (bs : List Bd) (A : Option Addr) : Prop :=
  bs = [] ∨ ∃ g Ls Hs, A = some ⟨g, 0, none⟩ ∧ RngX base top g bs Ls Hs ∧ (∀ o, w.frozen? ⟨g, o, none⟩ = false) ∧ ∀ i x, bs[i]? = some x → BCell w g Ls Hs i x
theorem BX.same {w w' : World} {base top : Nat} {bs : List Bd} {A : Option Addr} (h : BX w base top bs A) (hs : Same base top w w') : BX w' base top bs A := by
  rcases h with h | ⟨g, Ls, Hs, e, hr, hf, hc⟩
  · exact .inl h
  · refine .inr ⟨g, Ls, Hs, e, hr, fun o => by rw [frozen_same (hs g hr.gb hr.gt)]; exact hf o, fun i x hx => ?_⟩
    have hi := (List.getElem?_eq_some_iff.1 hx).1
    obtain ⟨a, c, c0, c1, c2, c3, ht⟩ := hc i x hx
    exact ⟨a, c, by rw [hs.cell hr.gb hr.gt]; exact c0, by rw [hs.cell hr.gb hr.gt]; exact c1, by rw [hs.cell hr.gb hr.gt]; exact c2, by rw [hs.cell hr.gb hr.gt]; exact c3, ht.same (hs.mono (hr.lo i hi) (hr.hi i hi))⟩
theorem BX.mono {w : World} {base base' top top' : Nat} {bs : List Bd} {A : Option Addr} (h : BX w base top bs A) (h1 : base' ≤ base) (h2 : top ≤ top') : BX w base' top' bs A := by
  rcases h with h | ⟨g, Ls, Hs, e, hr, hf, hc⟩
  · exact .inl h
  · exact .inr ⟨g, Ls, Hs, e, ⟨by have := hr.gb; omega, by have := hr.gt; omega, fun i hi => by have := hr.lo i hi; omega, hr.le, fun i hi => by have := hr.hi i hi; omega, hr.off, hr.ord⟩, hf, hc⟩
theorem BX.bsl {w : World} {base top : Nat} {bs : List Bd} {A : Option Addr} (h : BX w base top bs A) : BSl w base top A bs := by
  rcases h with h | ⟨g, Ls, Hs, e, hr, hf, hc⟩
  · exact .inl h
  · refine .inr ⟨g, 0, e, hr.gb, hr.gt, fun i x hx => ?_⟩
    have hi := (List.getElem?_eq_some_iff.1 hx).1
    obtain ⟨a, c, c0, c1, c2, c3, ht⟩ := hc i x hx
    exact ⟨a, c, by rw [Nat.zero_add]; exact c0, by rw [Nat.zero_add]; exact c1, by rw [Nat.zero_add]; exact c2, by rw [Nat.zero_add]; exact c3, ht.1.mono (hr.lo i hi) (hr.hi i hi)⟩

/-- The bind at i holds the numbers from m on. -/
def HCell (w : World) (g : Nat) (Ls Hs : Nat → Nat) (i : Nat) (x : Bd) (m : Int) : Prop :=
  ∃ a c, w.cell? ⟨g, i * 4, none⟩ = some (.int .i64 m) ∧ w.cell? ⟨g, i * 4 + 1, none⟩ = some (.int .i64 (m + 1)) ∧ w.cell? ⟨g, i * 4 + 2, none⟩ = some (.int .i64 (m + 1 + 1)) ∧ w.cell? ⟨g, i * 4 + 3, none⟩ = some (.slice a (flen x.2.2.2) c) ∧ HdS w (Ls i) (Hs i) a x.2.2.2 (m + 1 + 1 + 1)
/-- A row of binds that holds the numbers from m on. -/
def BH (w : World) (base top : Nat) (bs : List Bd) (A : Option Addr) (m : Int) : Prop :=
  bs = [] ∨ ∃ g Ls Hs, A = some ⟨g, 0, none⟩ ∧ RngX base top g bs Ls Hs ∧ ∀ i x, bs[i]? = some x → HCell w g Ls Hs i x (m + mcn (bs.take i))
theorem HCell.same {w w' : World} {base top g : Nat} {bs : List Bd} {Ls Hs : Nat → Nat} {i : Nat} {x : Bd} {m : Int} (h : HCell w g Ls Hs i x m) (hr : RngX base top g bs Ls Hs) (hi : i < bs.length) (hs : Same base top w w') : HCell w' g Ls Hs i x m := by
  obtain ⟨a, c, c0, c1, c2, c3, ht⟩ := h
  exact ⟨a, c, by rw [hs.cell hr.gb hr.gt]; exact c0, by rw [hs.cell hr.gb hr.gt]; exact c1, by rw [hs.cell hr.gb hr.gt]; exact c2, by rw [hs.cell hr.gb hr.gt]; exact c3, ht.same (hs.mono (hr.lo i hi) (hr.hi i hi))⟩
theorem BH.same {w w' : World} {base top : Nat} {bs : List Bd} {A : Option Addr} {m : Int} (h : BH w base top bs A m) (hs : Same base top w w') : BH w' base top bs A m := by
  rcases h with h | ⟨g, Ls, Hs, e, hr, hc⟩
  · exact .inl h
  · exact .inr ⟨g, Ls, Hs, e, hr, fun i x hx => (hc i x hx).same hr (List.getElem?_eq_some_iff.1 hx).1 hs⟩

/-- In the midst of the marking: j binds are marked. -/
structure MbAt (w : World) (base top g : Nat) (bs : List Bd) (Ls Hs : Nat → Nat) (m : Int) (j : Nat) (wr : World) : Prop where
  low : Below base w wr
  far : ∀ b, top ≤ b → b < w.heap.size → wr.heap[b]? = w.heap[b]?
  fr : ∀ o, wr.frozen? ⟨g, o, none⟩ = false
  hd : ∀ i x, i < j → bs[i]? = some x → HCell wr g Ls Hs i x (m + mcn (bs.take i))
  tl : ∀ i x, j ≤ i → bs[i]? = some x → BCell wr g Ls Hs i x
theorem ne_offB {b i j : Nat} (h : i ≠ j) : (⟨b, i, none⟩ : Addr) ≠ ⟨b, j, none⟩ := fun e => h (congrArg Addr.off e)
theorem MbAt.step {w wr w2 : World} {base top g : Nat} {bs : List Bd} {Ls Hs : Nat → Nat} {m : Int} {j : Nat} {x : Bd} {a : Option Addr} {c : Nat} (h : MbAt w base top g bs Ls Hs m j wr) (hr : RngX base top g bs Ls Hs) (htop : top ≤ w.heap.size) (hx : bs[j]? = some x)
    (c0 : wr.cell? ⟨g, j * 4, none⟩ = some (.int .i64 x.1)) (c1 : wr.cell? ⟨g, j * 4 + 1, none⟩ = some (.int .i64 x.2.1)) (c2 : wr.cell? ⟨g, j * 4 + 2, none⟩ = some (.int .i64 x.2.2.1)) (c3 : wr.cell? ⟨g, j * 4 + 3, none⟩ = some (.slice a (flen x.2.2.2) c))
    (hm : Marked (Ls j) (Hs j) (((wr.setCell ⟨g, j * 4, none⟩ (.int .i64 (m + mcn (bs.take j)))).setCell ⟨g, j * 4 + 1, none⟩ (.int .i64 (m + mcn (bs.take j) + 1))).setCell ⟨g, j * 4 + 2, none⟩ (.int .i64 (m + mcn (bs.take j) + 1 + 1))) w2) (hh : HdS w2 (Ls j) (Hs j) a x.2.2.2 (m + mcn (bs.take j) + 1 + 1 + 1)) : MbAt w base top g bs Ls Hs m (j + 1) w2 := by
  have hj := (List.getElem?_eq_some_iff.1 hx).1
  have hsz := h.low.size
  have hoff := hr.off j hj
  have hLj := hr.lo j hj
  have hHj := hr.hi j hj
  have hle := hr.le j hj
  have hgt := hr.gt
  have hgb := hr.gb
  generalize hM : m + mcn (bs.take j) = M at *
  have hfar2 : ∀ b, (b < Ls j ∨ Hs j ≤ b) → b < wr.heap.size → w2.heap[b]? = (((wr.setCell ⟨g, j * 4, none⟩ (.int .i64 M)).setCell ⟨g, j * 4 + 1, none⟩ (.int .i64 (M + 1))).setCell ⟨g, j * 4 + 2, none⟩ (.int .i64 (M + 1 + 1))).heap[b]? := fun b hb hlt => by
    rcases hb with hb | hb
    · exact hm.below.block b hb
    · exact hm.far b hb (by simpa using hlt)
  have hblk : ∀ b, b ≠ g → (b < Ls j ∨ Hs j ≤ b) → b < wr.heap.size → w2.heap[b]? = wr.heap[b]? := fun b hb hb2 hlt => by
    rw [hfar2 b hb2 hlt, Below.heap_setCell _ _ _ _ (by simpa using hb), Below.heap_setCell _ _ _ _ (by simpa using hb), Below.heap_setCell _ _ _ _ (by simpa using hb)]
  have hg2 : ∀ o, w2.cell? ⟨g, o, none⟩ = (((wr.setCell ⟨g, j * 4, none⟩ (.int .i64 M)).setCell ⟨g, j * 4 + 1, none⟩ (.int .i64 (M + 1))).setCell ⟨g, j * 4 + 2, none⟩ (.int .i64 (M + 1 + 1))).cell? ⟨g, o, none⟩ := fun o => World.cell?_of_block (a := ⟨g, o, none⟩) (hfar2 g hoff (by omega))
  have hgo : ∀ o, o ≠ j * 4 → o ≠ j * 4 + 1 → o ≠ j * 4 + 2 → w2.cell? ⟨g, o, none⟩ = wr.cell? ⟨g, o, none⟩ := fun o h0 h1 h2 => by
    rw [hg2 o, World.cell?_setCell_other _ _ _ _ (ne_offB (Ne.symm h2)), World.cell?_setCell_other _ _ _ _ (ne_offB (Ne.symm h1)), World.cell?_setCell_other _ _ _ _ (ne_offB (Ne.symm h0))]
  refine ⟨?_, fun b h1 h2 => ?_, fun o => ?_, fun i y hi hy => ?_, fun i y hi hy => ?_⟩
  · exact (((h.low.setCell hgb _).setCell hgb _).setCell hgb _).trans (hm.below.mono hLj)
  · rw [hblk b (by omega) (by omega) (by omega)]; exact h.far b h1 h2
  · have hfz : w2.frozen? ⟨g, o, none⟩ = wr.frozen? ⟨g, o, none⟩ := by
      rw [frozen_same (hfar2 g hoff (by omega)), World.frozen?_setCell, World.frozen?_setCell, World.frozen?_setCell]
    rw [hfz]; exact h.fr o
  · by_cases e : i = j
    · subst e
      rw [hx] at hy
      obtain rfl := Option.some.inj hy
      rw [hM]
      refine ⟨a, c, ?_, ?_, ?_, ?_, hh⟩
      · rw [hg2, World.cell?_setCell_other _ _ _ _ (ne_offB (by omega)), World.cell?_setCell_other _ _ _ _ (ne_offB (by omega))]; exact World.cell?_setCell_same _ _ _ c0
      · rw [hg2, World.cell?_setCell_other _ _ _ _ (ne_offB (by omega))]
        refine World.cell?_setCell_same _ _ _ (?_ : _ = some (.int .i64 x.2.1))
        rw [World.cell?_setCell_other _ _ _ _ (ne_offB (by omega))]; exact c1
      · rw [hg2]
        refine World.cell?_setCell_same _ _ _ (?_ : _ = some (.int .i64 x.2.2.1))
        rw [World.cell?_setCell_other _ _ _ _ (ne_offB (by omega)), World.cell?_setCell_other _ _ _ _ (ne_offB (by omega))]; exact c2
      · rw [hgo _ (by omega) (by omega) (by omega)]; exact c3
    · have hij : i < j := by omega
      have hi2 := (List.getElem?_eq_some_iff.1 hy).1
      obtain ⟨a', c', d0, d1, d2, d3, ht⟩ := h.hd i y hij hy
      have ho := hr.ord i j hij hj
      have hif := hr.off i hi2
      have hih := hr.hi i hi2
      refine ⟨a', c', by rw [hgo _ (by omega) (by omega) (by omega)]; exact d0, by rw [hgo _ (by omega) (by omega) (by omega)]; exact d1, by rw [hgo _ (by omega) (by omega) (by omega)]; exact d2, by rw [hgo _ (by omega) (by omega) (by omega)]; exact d3, ht.same fun b hb1 hb2 => hblk b (by omega) (by omega) (by omega)⟩
  · have hij : j < i := by omega
    have hi2 := (List.getElem?_eq_some_iff.1 hy).1
    obtain ⟨a', c', d0, d1, d2, d3, ht⟩ := h.tl i y (by omega) hy
    have ho := hr.ord j i hij hi2
    have hif := hr.off i hi2
    have hih := hr.hi i hi2
    exact ⟨a', c', by rw [hgo _ (by omega) (by omega) (by omega)]; exact d0, by rw [hgo _ (by omega) (by omega) (by omega)]; exact d1, by rw [hgo _ (by omega) (by omega) (by omega)]; exact d2, by rw [hgo _ (by omega) (by omega) (by omega)]; exact d3, ht.same fun b hb1 hb2 => hblk b (by omega) (by omega) (by omega)⟩

def MbPost (base top : Nat) (bs : List Bd) (A : Option Addr) (m : Int) (w : World) (e : Ending) (w' : World) : Prop :=
  e = .returned (.int .i64 (m + mcn bs)) ∧ Below base w w' ∧ (∀ b, top ≤ b → b < w.heap.size → w'.heap[b]? = w.heap[b]?) ∧ BH w' base top bs A m

end Go.Proofs.Ytlaaihnokoeliaa

/-! XW: What the walks of exact laws hold on to: parameters, answers of the specification, copies that are marked, answers of the program. Plain lemmas. -/
namespace Go.Proofs.Ytlaaihnokoeliaa
open Go.RowKit Go.Deep

/-- A box of a term; all in blocks below n. -/
structure Tq (n b : Nat) (s v : Int) (a : Option Addr) (c : Nat) (k : Fo) (w : World) : Prop where
  c0 : w.cell? ⟨b, 0, none⟩ = some (.int .i64 s)
  c1 : w.cell? ⟨b, 1, none⟩ = some (.int .i64 v)
  c2 : w.cell? ⟨b, 2, none⟩ = some (.slice a (flen k) c)
  lt : b < n
  sl : Sl w 0 n a k
  le : n ≤ w.heap.size
theorem Tq.go {n b : Nat} {s v : Int} {a : Option Addr} {c : Nat} {k : Fo} {w w2 : World} {B : Nat} (h : Tq n b s v a c k w) (hb : Below B w w2) (hB : n ≤ B) : Tq n b s v a c k w2 := by
  have hlt := h.lt
  exact ⟨by rw [hb.cell (show b < B by omega)]; exact h.c0, by rw [hb.cell (show b < B by omega)]; exact h.c1, by rw [hb.cell (show b < B by omega)]; exact h.c2, h.lt, h.sl.below (hb.mono hB), Nat.le_trans h.le hb.size⟩
theorem Tq.next {n b : Nat} {s v : Int} {a : Option Addr} {c : Nat} {k : Fo} {w w2 : World} (h : Tq n b s v a c k w) (hb : Below w.heap.size w w2) : Tq n b s v a c k w2 := h.go hb h.le
theorem Tq.top {n b : Nat} {s v : Int} {a : Option Addr} {c : Nat} {k : Fo} {w : World} (h : Tq n b s v a c k w) : Sl w 0 w.heap.size a k := h.sl.mono (Nat.le_refl _) h.le
/-- A row of binds; all in blocks below n. -/
structure Rw (n : Nat) (bs : List Bd) (A : Option Addr) (w : World) : Prop where
  sl : BSl w 0 n A bs
  le : n ≤ w.heap.size
theorem Rw.go {n : Nat} {bs : List Bd} {A : Option Addr} {w w2 : World} {B : Nat} (h : Rw n bs A w) (hb : Below B w w2) (hB : n ≤ B) : Rw n bs A w2 := ⟨h.sl.below (hb.mono hB), Nat.le_trans h.le hb.size⟩
theorem Rw.next {n : Nat} {bs : List Bd} {A : Option Addr} {w w2 : World} (h : Rw n bs A w) (hb : Below w.heap.size w w2) : Rw n bs A w2 := h.go hb h.le
theorem Rw.top {n : Nat} {bs : List Bd} {A : Option Addr} {w : World} (h : Rw n bs A w) : BSl w 0 w.heap.size A bs := h.sl.mono (Nat.le_refl _) h.le
/-- A box of a term that lies in blocks of its own. -/
structure Xb (lo hi b : Nat) (s v : Int) (a : Option Addr) (c : Nat) (k : Fo) (w : World) : Prop where
  c0 : w.cell? ⟨b, 0, none⟩ = some (.int .i64 s)
  c1 : w.cell? ⟨b, 1, none⟩ = some (.int .i64 v)
  c2 : w.cell? ⟨b, 2, none⟩ = some (.slice a (flen k) c)
  sx : SX w lo hi a k
  lh : lo ≤ hi
  hb : hi ≤ b
  lt : b < w.heap.size
theorem Xb.next {lo hi b : Nat} {s v : Int} {a : Option Addr} {c : Nat} {k : Fo} {w w2 : World} (h : Xb lo hi b s v a c k w) (hb : Below w.heap.size w w2) : Xb lo hi b s v a c k w2 := by
  have h1 := h.hb
  have h2 := h.lt
  exact ⟨cell_low hb h.c0, cell_low hb h.c1, cell_low hb h.c2, h.sx.same (Same.of_below (hb.mono (by omega))), h.lh, h.hb, Nat.lt_of_lt_of_le h.lt hb.size⟩
theorem Xb.far {lo hi b : Nat} {s v : Int} {a : Option Addr} {c : Nat} {k : Fo} {w w2 : World} {lo' hi' : Nat} (h : Xb lo hi b s v a c k w) (hm : Marked lo' hi' w w2) (hd : hi' ≤ lo) : Xb lo hi b s v a c k w2 := by
  have h0 := h.lh
  have h1 := h.hb
  have h2 := h.lt
  have e := hm.far b (by omega) h2
  exact ⟨by rw [World.cell?_of_block (a := ⟨b, 0, none⟩) e]; exact h.c0, by rw [World.cell?_of_block (a := ⟨b, 1, none⟩) e]; exact h.c1, by rw [World.cell?_of_block (a := ⟨b, 2, none⟩) e]; exact h.c2, h.sx.same (fun q q1 q2 => hm.far q (by omega) (by omega)), h.lh, h.hb, Nat.lt_of_lt_of_le h.lt hm.below.size⟩
theorem Xb.top {lo hi b : Nat} {s v : Int} {a : Option Addr} {c : Nat} {k : Fo} {w : World} (h : Xb lo hi b s v a c k w) : Sl w 0 w.heap.size a k := h.sx.1.mono (Nat.zero_le _) (by have := h.hb; have := h.lt; omega)
/-- A box of a copy, made behind it. -/
theorem Xb.new {s v : Int} {a : Option Addr} {c : Nat} {k : Fo} {w : World} {lo : Nat} (h : SX w lo w.heap.size a k) (hl : lo ≤ w.heap.size) (T : TypeId) : Xb lo w.heap.size w.heap.size s v a c k (w.alloc (.cells #[.int .i64 s, .int .i64 v, .slice a (flen k) c] T)) := by
  have hb : Below w.heap.size w (w.alloc (.cells #[.int .i64 s, .int .i64 v, .slice a (flen k) c] T)) := (Below.refl _ _).alloc (Nat.le_refl _) _
  refine ⟨?_, ?_, ?_, h.same (Same.of_below hb), hl, Nat.le_refl _, by simp⟩
  · rw [World.cell?_alloc_at _ _ _ _ (by simp)]; rfl
  · rw [World.cell?_alloc_at _ _ _ _ (by simp)]; rfl
  · rw [World.cell?_alloc_at _ _ _ _ (by simp)]; rfl
/-- A row of binds of the answer's own. -/
structure Gx (lo hi : Nat) (bs : List Bd) (A : Option Addr) (w : World) : Prop where
  bx : BX w lo hi bs A
  le : hi ≤ w.heap.size
theorem Gx.next {lo hi : Nat} {bs : List Bd} {A : Option Addr} {w w2 : World} (h : Gx lo hi bs A w) (hb : Below w.heap.size w w2) : Gx lo hi bs A w2 := ⟨h.bx.same (Same.of_below (hb.mono h.le)), Nat.le_trans h.le hb.size⟩
theorem Gx.far {lo hi : Nat} {bs : List Bd} {A : Option Addr} {w w2 : World} {lo' hi' : Nat} (h : Gx lo hi bs A w) (hm : Marked lo' hi' w w2) (hd : hi' ≤ lo) : Gx lo hi bs A w2 :=
  ⟨h.bx.same (fun q q1 q2 => hm.far q (by omega) (by have := h.le; omega)), Nat.le_trans h.le hm.below.size⟩
theorem Gx.top {lo hi : Nat} {bs : List Bd} {A : Option Addr} {w : World} (h : Gx lo hi bs A w) : BSl w 0 w.heap.size A bs := h.bx.bsl.mono (Nat.zero_le _) h.le
/-- A row of the answer's own that holds numbers from m on. -/
structure Gh (lo hi : Nat) (bs : List Bd) (A : Option Addr) (m : Int) (w : World) : Prop where
  bh : BH w lo hi bs A m
  le : hi ≤ w.heap.size
theorem Gh.next {lo hi : Nat} {bs : List Bd} {A : Option Addr} {m : Int} {w w2 : World} (h : Gh lo hi bs A m w) (hb : Below w.heap.size w w2) : Gh lo hi bs A m w2 := ⟨h.bh.same (Same.of_below (hb.mono h.le)), Nat.le_trans h.le hb.size⟩
theorem low_next {w0 w w2 : World} (h : Below w0.heap.size w0 w) (hb : Below w.heap.size w w2) : Below w0.heap.size w0 w2 := h.trans (hb.mono h.size)
theorem mcn_small : ∀ {bs : List Bd}, bs.length ≤ 100 → (∀ x ∈ bs, fsz x.2.2.2 ≤ 15) → mcn bs ≤ 33 * (bs.length : Int)
  | [], _, _ => by simp [mcn]
  | x :: r, hl, hz => by
    have h1 := mcn_small (bs := r) (by simp at hl; omega) fun y hy => hz y (List.mem_cons_of_mem _ hy)
    have h2 := hz x List.mem_cons_self
    simp only [mcn, List.length_cons]
    omega
end Go.Proofs.Ytlaaihnokoeliaa

/-! MBt: binds: the row that comes of it is one's own, its terms trees of one's own. -/
namespace Go.Proofs.Ytlaaihnokoeliaa
open Go.RowKit Go.Deep Go.Maps

/-- A row of binds of the call's own, its terms trees in blocks apart. -/
def BOwnT (w : World) (base : Nat) (bs : List Bd) (A : Option Addr) (C : Nat) : Prop :=
  ∃ xs, ∃ Ls Hs : Nat → Nat, w.ownsRow base 41 4 (.slice A bs.length C) bs.length xs ∧ (∀ (i : Nat) (x : Bd), bs[i]? = some x → ∃ a' c', xs[i * 4]? = some (.int .i64 x.1) ∧ xs[i * 4 + 1]? = some (.int .i64 x.2.1) ∧ xs[i * 4 + 2]? = some (.int .i64 x.2.2.1) ∧ xs[i * 4 + 3]? = some (.slice a' (flen x.2.2.2) c') ∧
    TX w (Ls i) (Hs i) a' x.2.2.2 ∧ base ≤ Ls i ∧ Ls i ≤ Hs i ∧ Hs i ≤ w.heap.size ∧ ∀ g, (Value.slice A bs.length C).ownBlock = some g → g < Ls i ∨ Hs i ≤ g) ∧ ∀ i j, i < j → j < bs.length → Hs i ≤ Ls j
theorem BOwnT.nil (w : World) (base : Nat) : BOwnT w base [] none 0 := ⟨[], fun _ => 0, fun _ => 0, World.ownsRow_nil _ _ _ _, fun i x hx => by simp at hx, fun i j _ hj => by simp at hj⟩
theorem BOwnT.append {w0 w w2 w3 : World} {base : Nat} {bs : List Bd} {A : Option Addr} {C g cap : Nat} {blk : Obj} {x s v : Int} {k : Fo} {a2 : Option Addr} {c2 : Nat} {xs : List Value} {Ls Hs : Nat → Nat} (hown : w.ownsRow base 41 4 (.slice A bs.length C) bs.length xs)
    (hall : ∀ (i : Nat) (x : Bd), bs[i]? = some x → ∃ a' c', xs[i * 4]? = some (.int .i64 x.1) ∧ xs[i * 4 + 1]? = some (.int .i64 x.2.1) ∧ xs[i * 4 + 2]? = some (.int .i64 x.2.2.1) ∧ xs[i * 4 + 3]? = some (.slice a' (flen x.2.2.2) c') ∧
      TX w (Ls i) (Hs i) a' x.2.2.2 ∧ base ≤ Ls i ∧ Ls i ≤ Hs i ∧ Hs i ≤ w.heap.size ∧ ∀ g, (Value.slice A bs.length C).ownBlock = some g → g < Ls i ∨ Hs i ≤ g) (hord : ∀ i j, i < j → j < bs.length → Hs i ≤ Ls j)
    (hown3 : w3.ownsRow base 41 4 (.slice (some ⟨g, 0, none⟩) (bs.length + 1) cap) (bs.length + 1) (xs ++ [.int .i64 x, .int .i64 s, .int .i64 v, .slice a2 (flen k) c2])) (ha : Below w.heap.size w w2) (hl2 : TX w2 w.heap.size w2.heap.size a2 k) (hbase : base ≤ w.heap.size)
    (hgrow : (w2.alloc blk).grownBy w3 (Value.slice A bs.length C).ownBlock) (hatg : (Value.slice A bs.length C).ownBlock = some g ∨ g = w2.heap.size + 1) (ha0 : Below w0.heap.size w0 w2) (hw0 : w0.heap.size ≤ base) : BOwnT w3 base (bs ++ [(x, s, v, k)]) (some ⟨g, 0, none⟩) cap ∧ Below w0.heap.size w0 w3 := by
  have hs2 := ha.size
  have hs3 := hgrow.size
  simp at hs3
  have hxl : xs.length = bs.length * 4 := hown.1
  have hl : (bs ++ [(x, s, v, k)]).length = bs.length + 1 := by simp
  refine ⟨⟨xs ++ [.int .i64 x, .int .i64 s, .int .i64 v, .slice a2 (flen k) c2], fun i => if i < bs.length then Ls i else w.heap.size, fun i => if i < bs.length then Hs i else w2.heap.size, by rw [hl]; exact hown3, fun i y hy => ?_, fun i j hij hj => ?_⟩, (ha0.alloc (by omega) blk).grown hgrow (by have := ha0.size; simp; omega) (fun q hq => by have := (hown.lt q hq).1; omega)⟩
  · rw [hl]
    by_cases hi : i < bs.length
    · rw [List.getElem?_append_left hi] at hy
      obtain ⟨a', c', c0, c1, c2', c3, hsl, h1, hLH, h2, h3⟩ := hall i y hy
      simp only [if_pos hi]
      refine ⟨a', c', by rw [List.getElem?_append_left (by omega)]; exact c0, by rw [List.getElem?_append_left (by omega)]; exact c1, by rw [List.getElem?_append_left (by omega)]; exact c2', by rw [List.getElem?_append_left (by omega)]; exact c3, hsl.same (fun b hb1 hb2 => ?_), h1, hLH, by omega, fun g' hg' => ?_⟩
      · rw [hgrow.block b (by simp; omega) (fun e => by have := h3 b e.symm; omega), Below.heap_alloc _ _ _ (by omega)]
        exact ha.block b (by omega)
      · have : g' = g := by simpa [Value.ownBlock] using hg'.symm
        subst this
        rcases hatg with hg1 | hg1
        · exact h3 _ hg1
        · omega
    · have hi' : i = bs.length := by have := (List.getElem?_eq_some_iff.1 hy).1; omega
      subst hi'
      simp at hy
      subst hy
      simp only [if_neg hi]
      refine ⟨a2, c2, ?_, ?_, ?_, ?_, hl2.same (fun b hb1 hb2 => ?_), hbase, hs2, by omega, fun g' hg' => ?_⟩
      · rw [List.getElem?_append_right (by omega), hxl]; simp
      · rw [List.getElem?_append_right (by omega), hxl, show bs.length * 4 + 1 - bs.length * 4 = 1 from by omega]; rfl
      · rw [List.getElem?_append_right (by omega), hxl, show bs.length * 4 + 2 - bs.length * 4 = 2 from by omega]; rfl
      · rw [List.getElem?_append_right (by omega), hxl, show bs.length * 4 + 3 - bs.length * 4 = 3 from by omega]; rfl
      · rw [hgrow.block b (by simp; omega) (fun e => by have := (hown.lt b e.symm).2; omega), Below.heap_alloc _ _ _ (by omega)]
      · have : g' = g := by simpa [Value.ownBlock] using hg'.symm
        subst this
        rcases hatg with hg1 | hg1
        · exact .inl (hown.lt _ hg1).2
        · exact .inr (by omega)
  · rw [hl] at hj
    simp only [if_pos (show i < bs.length by omega)]
    by_cases hj2 : j < bs.length
    · rw [if_pos hj2]; exact hord i j hij hj2
    · rw [if_neg hj2]
      obtain ⟨y, hy⟩ : ∃ y, bs[i]? = some y := ⟨bs[i], List.getElem?_eq_getElem (by omega)⟩
      obtain ⟨_, _, _, _, _, _, _, _, _, h2, _⟩ := hall i y hy
      exact h2
theorem BOwnT.bx {w : World} {base : Nat} {bs : List Bd} {A : Option Addr} {C : Nat} (h : BOwnT w base bs A C) : BX w base w.heap.size bs A := by
  obtain ⟨xs, Ls, Hs, hown, hall, hord⟩ := h
  rcases Nat.eq_zero_or_pos bs.length with h0 | h0
  · exact .inl (List.eq_nil_of_length_eq_zero h0)
  · obtain ⟨g, cap, hv, hb, hlt⟩ := hown.form h0
    have hA : A = some ⟨g, 0, none⟩ := by simp only [Value.slice.injEq] at hv; exact hv.1
    subst hA
    have hget : ∀ i, i < bs.length → ∃ y, bs[i]? = some y := fun i hi => ⟨bs[i], List.getElem?_eq_getElem hi⟩
    refine .inr ⟨g, Ls, Hs, rfl, ⟨hb, hlt, fun i hi => ?_, fun i hi => ?_, fun i hi => ?_, fun i hi => ?_, hord⟩, fun o => hown.frozenAt o, fun i x hx => ?_⟩
    · obtain ⟨y, hy⟩ := hget i hi
      obtain ⟨_, _, _, _, _, _, _, h1, _, _, _⟩ := hall i y hy
      exact h1
    · obtain ⟨y, hy⟩ := hget i hi
      obtain ⟨_, _, _, _, _, _, _, _, h1, _, _⟩ := hall i y hy
      exact h1
    · obtain ⟨y, hy⟩ := hget i hi
      obtain ⟨_, _, _, _, _, _, _, _, _, h1, _⟩ := hall i y hy
      exact h1
    · obtain ⟨y, hy⟩ := hget i hi
      obtain ⟨_, _, _, _, _, _, _, _, _, _, h1⟩ := hall i y hy
      exact h1 g rfl
    · have hi := (List.getElem?_eq_some_iff.1 hx).1
      obtain ⟨a', c', c0, c1, c2, c3, ht, _, _, _, _⟩ := hall i x hx
      exact ⟨a', c', by rw [hown.cellAt _ (by omega)]; exact c0, by rw [hown.cellAt _ (by omega)]; exact c1, by rw [hown.cellAt _ (by omega)]; exact c2, by rw [hown.cellAt _ (by omega)]; exact c3, ht⟩
def BiPostT (bs : List Bd) (lim : Int) (w : World) (e : Ending) (w' : World) : Prop :=
  Below w.heap.size w w' ∧ ((fits lim bs = true ∧ ∃ A C, e = .returned (.tuple #[.slice A (List.length bs) C, .bool true]) ∧ BX w' w.heap.size w'.heap.size bs A) ∨ (fits lim bs = false ∧ e = .returned (.tuple #[.slice none 0 0, .bool false])))

set_option maxRecDepth 100000 in
set_option maxHeartbeats 4000000 in
theorem bindsT_any (bs : List Bd) (b : Nat) (lim : Int) (w : World) (hm : MapIs w b bs) (ha : Asc bs) (hr : ∀ x, (sv bs x).isSome = true → 0 ≤ x ∧ x ≤ 11) (hbo : Bof bs 100000) :
    Calls Try.prog 31 #[.map (some b), .int .i64 lim] w (BiPostT bs lim w) := by
  obtain ⟨ti, hti, htz, hts, htb⟩ := Try.infoBind
  have HTI : Hid (Try.prog.info? 41 = some ti ∧ ti.zero = some (.agg #[.int .i64 0, .int .i64 0, .int .i64 0, .slice none 0 0]) ∧ ti.size = 4 ∧ ti.bytes = 48) := ⟨hti, htz, hts, htb⟩
  have HM := Lib.hid hm
  have HA := Lib.hid ha
  have HR := Lib.hid hr
  have HBO := Lib.hid hbo
  have hz := zeroE
  have HL0 : Hid (lows bs ((0 : Nat) : Int) = []) := lows_zero fun x hx => (low_mem ha hr hx).1
  have HLA : Hid (lows bs ((12 : Nat) : Int) = bs) := lows_all fun x hx => by have := low_mem ha hr hx; omega
  clear hti htz hts htb hm ha hr hbo
  go_enter Try.func31, Try.ntmps31
  go_wp2_with fail
  go_loopw [6, 10] (fun o i wr => ∃ (j : Nat) (out : List Bd) (A' : Option Addr) (C' : Nat), o = .slice A' out.length C' ∧ i = .int .i64 (j : Int) ∧ j ≤ 12 ∧ out.length ≤ j ∧ Hid (lows bs (j : Int) = out) ∧ Hid (fits lim out = true) ∧ Hid (BOwnT wr w.heap.size out A' C') ∧ Hid (Below w.heap.size w wr)) (fun _ i _ => 12 - (intOf i).toNat)
  case atStart => exact ⟨0, [], none, 0, rfl, rfl, by omega, by simp, HL0, rfl, BOwnT.nil _ _, Below.refl _ _⟩
  case round =>
    clear HL0
    obtain ⟨j, out, A', C', rfl, rfl, hj, hol, HLO, HFT, HO, HBW⟩ := hrel
    have hws := HBW.out.size
    by_cases hlt : j < 12
    · obtain ⟨n, D, hown, hn, hsv⟩ := HM.out.below HBW.out
      have HWF : Hid ((Lit.int .i64 (j : Int)).wf = true) := WalkArith.wf_i64 (by omega)
      have HOWNM := Lib.hid hown
      have HKEY := Lib.hid (key_of HWF.out)
      have hx := hsv (j : Int) HWF.out
      have g2 : (j : Int) < 12 := by omega
      clear hown hsv
      cases hs : sv bs (j : Int) with
      | none =>
        have hh := hx.1 hs
        have HLS : Hid (lows bs ((j + 1 : Nat) : Int) = out) := by rw [Hid, show ((j + 1 : Nat) : Int) = (j : Int) + 1 from by omega, lows_none HA.out hs]; exact HLO.out
        clear hx hs
        go_wp2_with (at_lookup; refine wpList_lookup_own_ok (H := Value) _ rfl _ _ 61 rfl 85 57 law underM rdV (zeroE _) (.held .nilIface) [] rfl b n D rfl HOWNM.out (.int .i64 (j : Int)) (.int .i64 (j : Int)) rfl HKEY.out ?_; intro nv ps hnv; rw [hh]; clear hnv)
        go_roundw
        case rel => exact ⟨j + 1, out, A', C', rfl, by go_num, by omega, by omega, HLS, HFT, HO, HBW⟩
        case measure => simp [intOf]; omega
      | some u =>
        obtain ⟨s', v', k'⟩ := u
        obtain ⟨hh, nv0, hat, hnode⟩ := hx.2 s' v' k' hs
        have hbo1 := HBO.out _ _ hs
        dsimp only at hbo1
        have HO1 := Lib.hid hbo1.1
        have HO2 := Lib.hid hbo1.2.1
        have hk9 := hbo1.2.2
        have HNODE := Lib.hid hnode
        have HAT := Lib.hid hat
        have HLS : Hid (lows bs ((j + 1 : Nat) : Int) = out ++ [((j : Int), s', v', k')]) := by rw [Hid, show ((j + 1 : Nat) : Int) = (j : Int) + 1 from by omega, lows_some HA.out hs, HLO.out]
        have HNO : Hid (¬ 1 + (fsz k' : Int) ≤ lim → fits lim bs = false) := fun h => fits_no hs h
        obtain ⟨xs, Ls0, Hs0, hownB, hallB, hordB⟩ := HO.out
        have HOWN := Lib.hid hownB
        have HALL := Lib.hid hallB
        have HORD := Lib.hid hordB
        clear hx hs hnode hat hbo1 hownB hallB hordB
        have hnd := HNODE.out
        rcases hnd with ⟨rfl, rfl, rfl⟩ | ⟨hs', a5, c5, rfl, hn2⟩
        · go_wp2_with (at_lookup; refine wpList_lookup_own_ok (H := Value) _ rfl _ _ 61 rfl 85 57 law underM rdV (zeroE _) (.held .nilIface) [] rfl b n D rfl HOWNM.out (.int .i64 (j : Int)) (.int .i64 (j : Int)) rfl HKEY.out ?_; intro nv ps hnv; rw [hh]; obtain rfl : nv = (.iface 85 (.int .i64 v')) := (by have := HAT.out; simp only [rdV, Option.some.injEq, Prod.mk.injEq] at hnv; rw [this] at hnv; exact DataW.held.inj hnv.1); clear hnv)
          refine upon_method 96 (by kernel_rfl) (by kernel_rfl) ?_
          go_simp
          with_reducible refine (varSize_any v' _).mono ?_
          rintro e w5 ⟨rfl, rfl⟩
          by_cases hbig : 1 + (fsz .nil : Int) ≤ lim
          case neg =>
            have e1 : decide ((1 : Int) > lim) = true := decide_eq_true (by simp [fsz] at hbig; omega)
            have HF := Lib.hid (HNO.out (by omega))
            clear hbig
            go_wp2_with fail
            refine bodyPost_ret (v := .tuple #[.slice none 0 0, .bool false]) ?_ rfl ⟨HBW.out, .inr ⟨HF.out, rfl⟩⟩
            simp [results, Try.results31, go_sem]
          have e1 : decide ((1 : Int) > lim) = false := decide_eq_false (by simp [fsz] at hbig; omega)
          have HFT2 : Hid (fits lim (out ++ [((j : Int), 0, v', (BT.nil : Fo))]) = true) := fits_snoc HFT.out hbig
          clear hbig
          go_wp2_with fail
          refine upon_method 97 (by kernel_rfl) (by kernel_rfl) ?_
          go_simp
          with_reducible refine (varTermT_any v' _).mono ?_
          rintro e w6 ⟨a6, c6, rfl, hb6, hl6⟩
          have hs6 := hb6.size
          have HB6 := Lib.hid hb6
          have HL6 := Lib.hid hl6
          have HBW6 := Lib.hid (HBW.out.trans (hb6.mono hws))
          have HOWN6 := Lib.hid (own_low hb6 HOWN.out)
          clear hb6 hl6
          go_wp2_with (at_builtin; refine wpList_append_lies _ rfl _ _ 28 rfl w.heap.size 41 ti _ 4 48 Try.underlying28 HTI.out.1 HTI.out.2.1 HTI.out.2.2.1 HTI.out.2.2.2 rfl (by omega) (.slice A' out.length C') out.length xs rfl (HOWN6.out.alloc _) ⟨w6.heap.size, 0, none⟩ 1 1 [.int .i64 (j : Int), .int .i64 0, .int .i64 v', .slice a6 (flen .nil) c6] rfl rfl (World.news_of_block (heap_alloc_new _ _)) (by simp [Value.oneCell']) (by omega) (by unfold maxLen; omega) (by omega) (by simp; omega) (w6.heap.size + 1) (by simp) ?_; intro g3 cap3 w3 hown3 hgrow3 hat3 hg3; have HX3 := Lib.hid (BOwnT.append (w0 := w) HOWN.out HALL.out HORD.out hown3 HB6.out HL6.out (by omega) hgrow3 hat3 HBW6.out (Nat.le_refl _)); clear hown3 hgrow3 hat3 hg3)
          have hl2' : (out ++ [((j : Int), 0, v', (BT.nil : Fo))]).length = out.length + 1 := by simp
          go_roundw
          case rel => exact ⟨j + 1, out ++ [((j : Int), 0, v', (BT.nil : Fo))], some ⟨g3, 0, none⟩, cap3, by rw [hl2'], by go_num, by omega, by rw [hl2']; omega, HLS, HFT2, HX3.out.1, HX3.out.2⟩
          case measure => simp [intOf]; omega
        · have HNS := Lib.hid hn2
          have hv0 : v' = 0 := ((okN_iff _ _ _).1 HO1.out).2.2 hs'
          subst hv0
          clear hn2
          go_wp2_with (at_lookup; refine wpList_lookup_own_ok (H := Value) _ rfl _ _ 61 rfl 85 57 law underM rdV (zeroE _) (.held .nilIface) [] rfl b n D rfl HOWNM.out (.int .i64 (j : Int)) (.int .i64 (j : Int)) rfl HKEY.out ?_; intro nv ps hnv; rw [hh]; obtain rfl : nv = (.iface 95 (.agg #[.int .i64 s', .slice a5 (flen k') c5])) := (by have := HAT.out; simp only [rdV, Option.some.injEq, Prod.mk.injEq] at hnv; rw [this] at hnv; exact DataW.held.inj hnv.1); clear hnv)
          refine upon_method 112 (by kernel_rfl) (by kernel_rfl) ?_
          go_simp
          with_reducible refine (symSize_any (fsz k') s' a5 c5 k' _ HNS.out (Nat.le_refl _) (by omega)).mono ?_
          rintro e w5 ⟨rfl, hb5⟩
          have hs5 := hb5.size
          have HNS5 := Lib.hid ((HNS.out.below hb5).mono (lo' := 0) (Nat.le_refl _) hs5)
          have HB5 := Lib.hid hb5
          clear hb5
          by_cases hbig : 1 + (fsz k' : Int) ≤ lim
          case neg =>
            have e1 : decide (1 + (fsz k' : Int) > lim) = true := decide_eq_true (by omega)
            have HF := Lib.hid (HNO.out (by omega))
            clear hbig
            go_wp2_with fail
            refine bodyPost_ret (v := .tuple #[.slice none 0 0, .bool false]) ?_ rfl ⟨HBW.out.trans (HB5.out.mono hws), .inr ⟨HF.out, rfl⟩⟩
            simp [results, Try.results31, go_sem]
          have e1 : decide (1 + (fsz k' : Int) > lim) = false := decide_eq_false (by omega)
          have HFT2 : Hid (fits lim (out ++ [((j : Int), s', 0, k')]) = true) := fits_snoc HFT.out hbig
          clear hbig
          go_wp2_with fail
          refine upon_method 113 (by kernel_rfl) (by kernel_rfl) ?_
          go_simp
          with_reducible refine (symTermT_any (fsz k') s' a5 c5 k' _ HNS5.out HO2.out (Nat.le_refl _) (by omega)).mono ?_
          rintro e w6 ⟨a6, c6, rfl, hb6, hl6⟩
          have hs6 := hb6.size
          have HB6 := Lib.hid (HB5.out.trans (hb6.mono hs5))
          have HL6 : Hid (TX w6 wr.heap.size w6.heap.size a6 k') := hl6.mono hs5 (Nat.le_refl _)
          have HBW6 := Lib.hid (HBW.out.trans (HB6.out.mono hws))
          have HOWN6 := Lib.hid (own_low HB6.out HOWN.out)
          clear hb6 hl6
          go_wp2_with (at_builtin; refine wpList_append_lies _ rfl _ _ 28 rfl w.heap.size 41 ti _ 4 48 Try.underlying28 HTI.out.1 HTI.out.2.1 HTI.out.2.2.1 HTI.out.2.2.2 rfl (by omega) (.slice A' out.length C') out.length xs rfl (HOWN6.out.alloc _) ⟨w6.heap.size, 0, none⟩ 1 1 [.int .i64 (j : Int), .int .i64 s', .int .i64 0, .slice a6 (flen k') c6] rfl rfl (World.news_of_block (heap_alloc_new _ _)) (by simp [Value.oneCell']) (by omega) (by unfold maxLen; omega) (by omega) (by simp; omega) (w6.heap.size + 1) (by simp) ?_; intro g3 cap3 w3 hown3 hgrow3 hat3 hg3; have HX3 := Lib.hid (BOwnT.append (w0 := w) HOWN.out HALL.out HORD.out hown3 HB6.out HL6.out (by omega) hgrow3 hat3 HBW6.out (Nat.le_refl _)); clear hown3 hgrow3 hat3 hg3)
          have hl2' : (out ++ [((j : Int), s', 0, k')]).length = out.length + 1 := by simp
          go_roundw
          case rel => exact ⟨j + 1, out ++ [((j : Int), s', 0, k')], some ⟨g3, 0, none⟩, cap3, by rw [hl2'], by go_num, by omega, by rw [hl2']; omega, HLS, HFT2, HX3.out.1, HX3.out.2⟩
          case measure => simp [intOf]; omega
    · have hje : j = 12 := by omega
      subst hje
      have HE : Hid (out = bs) := by rw [Hid, ← HLO.out]; exact HLA.out
      obtain rfl : out = bs := HE.out
      go_wp2_with fail
      refine bodyPost_ret (v := .tuple #[.slice A' out.length C', .bool true]) ?_ rfl ⟨HBW.out, .inl ⟨HFT.out, A', C', rfl, HO.out.bx⟩⟩
      simp [results, Try.results31, go_sem]
end Go.Proofs.Ytlaaihnokoeliaa

/-! XO0: Small lemmas of the exact laws. -/
namespace Go.Proofs.Ytlaaihnokoeliaa
open Go.RowKit Go.Deep

theorem szR_fit {k : Fo} (h : 0 ≤ szR k 1048576) : fsz k ≤ 1048576 := by
  unfold szR at h
  split at h
  · omega
  · omega
theorem cell_lowX {W w2 : World} {q : Addr} {x : Value} (hb : Below W.heap.size W w2) (h : W.cell? q = some x) : w2.cell? q = some x := by
  rw [hb.cell (World.block_lt_of_cell? _ _ h)]; exact h
end Go.Proofs.Ytlaaihnokoeliaa
