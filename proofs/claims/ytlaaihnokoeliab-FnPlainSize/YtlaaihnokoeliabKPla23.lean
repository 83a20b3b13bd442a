/- Several texts in one: XB1, XW. -/
import Derived.Test.YtlaaihnokoeliabKPla22
import Derived.Test.YtlaaihnokoeliabKPla10
import Derived.Test.YtlaaihnokoeliabKPla21
import Derived.Test.YtlaaihnokoeliabKPla14

/-! XB1: Rows of binds of one's own, their terms trees of one's own; eqBindS, markBindS, heldBindS. -/
namespace Go.Proofs.Ytlaaihnokoeliab
open Go.RowKit Go.Deep

/-- How many numbers a row of binds holds. -/
def mcn : List Bd → Int
  | [] => 0
  | x :: r => 3 + 2 * (fsz x.2.2.2 : Int) + mcn r
theorem mcn_app : ∀ (xs ys : List Bd), mcn (xs ++ ys) = mcn xs + mcn ys
  | [], _ => by simp [mcn]
  | x :: r, ys => by simp only [List.cons_append, mcn, mcn_app r ys]; omega
theorem mcn_take {bs : List Bd} {j : Nat} {x : Bd} (h : bs[j]? = some x) : mcn (bs.take (j + 1)) = mcn (bs.take j) + (3 + 2 * (fsz x.2.2.2 : Int)) := by
  rw [List.take_add_one, h, mcn_app]; simp [mcn]
theorem mcn_pos : ∀ bs : List Bd, 0 ≤ mcn bs
  | [] => by simp [mcn]
  | x :: r => by have := mcn_pos r; simp only [mcn]; omega
theorem mcn_le {bs : List Bd} (j : Nat) : mcn (bs.take j) ≤ mcn bs := by
  have h := mcn_app (bs.take j) (bs.drop j)
  rw [List.take_append_drop] at h
  have := mcn_pos (bs.drop j)
  omega

/-- The bind at i, its cells, its term's tree. -/
def BCell (w : World) (g : Nat) (Ls Hs : Nat → Nat) (i : Nat) (x : Bd) : Prop :=
  ∃ a c, w.cell? ⟨g, i * 4, none⟩ = some (.int .i64 x.1) ∧ w.cell? ⟨g, i * 4 + 1, none⟩ = some (.int .i64 x.2.1) ∧ w.cell? ⟨g, i * 4 + 2, none⟩ = some (.int .i64 x.2.2.1) ∧ w.cell? ⟨g, i * 4 + 3, none⟩ = some (.slice a (flen x.2.2.2) c) ∧ TX w (Ls i) (Hs i) a x.2.2.2
/-- Where the trees lie: apart from one another and from the row. -/
structure RngX (base top g : Nat) (bs : List Bd) (Ls Hs : Nat → Nat) : Prop where
  gb : base ≤ g
  gt : g < top
  lo : ∀ i, i < bs.length → base ≤ Ls i
  le : ∀ i, i < bs.length → Ls i ≤ Hs i
  hi : ∀ i, i < bs.length → Hs i ≤ top
  off : ∀ i, i < bs.length → g < Ls i ∨ Hs i ≤ g
  ord : ∀ i j, i < j → j < bs.length → Hs i ≤ Ls j
/-- A row of binds of one's own. -/
def BX (w : World) (base top : Nat) (bs : List Bd) (A : Option Addr) : Prop :=
  bs = [] ∨ ∃ g Ls Hs, A = some ⟨g, 0, none⟩ ∧ RngX base top g bs Ls Hs ∧ (∀ o, w.frozen? ⟨g, o, none⟩ = false) ∧ ∀ i x, bs[i]? = some x → BCell w g Ls Hs i x
theorem BX.same {w w' : World} {base top : Nat} {bs : List Bd} {A : Option Addr} (h : BX w base top bs A) (hs : Same base top w w') : BX w' base top bs A := by
  rcases h with h | ⟨g, Ls, Hs, e, hr, hf, hc⟩
  · exact .inl h
  · refine .inr ⟨g, Ls, Hs, e, hr, fun o => by rw [frozen_same (hs g hr.gb hr.gt)]; exact hf o, fun i x hx => ?_⟩
    have hi := (List.getElem?_eq_some_iff.1 hx).1
    obtain ⟨a, c, c0, c1, c2, c3, ht⟩ := hc i x hx
    exact ⟨a, c, by rw [hs.cell hr.gb hr.gt]; exact c0, by rw [hs.cell hr.gb hr.gt]; exact c1, by rw [hs.cell hr.gb hr.gt]; exact c2, by rw [hs.cell hr.gb hr.gt]; exact c3, ht.same (hs.mono (hr.lo i hi) (hr.hi i hi))⟩
theorem BX.mono {w : World} {base base' top top' : Nat} {bs : List Bd} {A : Option Addr} (h : BX w base top bs A) (h1 : base' ≤ base) (h2 : top ≤ top') : BX w base' top' bs A := by
  rcases h with h | ⟨g, Ls, Hs, e, hr, hf, hc⟩
  · exact .inl h
  · exact .inr ⟨g, Ls, Hs, e, ⟨by have := hr.gb; omega, by have := hr.gt; omega, fun i hi => by have := hr.lo i hi; omega, hr.le, fun i hi => by have := hr.hi i hi; omega, hr.off, hr.ord⟩, hf, hc⟩
theorem BX.bsl {w : World} {base top : Nat} {bs : List Bd} {A : Option Addr} (h : BX w base top bs A) : BSl w base top A bs := by
  rcases h with h | ⟨g, Ls, Hs, e, hr, hf, hc⟩
  · exact .inl h
  · refine .inr ⟨g, 0, e, hr.gb, hr.gt, fun i x hx => ?_⟩
    have hi := (List.getElem?_eq_some_iff.1 hx).1
    obtain ⟨a, c, c0, c1, c2, c3, ht⟩ := hc i x hx
    exact ⟨a, c, by rw [Nat.zero_add]; exact c0, by rw [Nat.zero_add]; exact c1, by rw [Nat.zero_add]; exact c2, by rw [Nat.zero_add]; exact c3, ht.1.mono (hr.lo i hi) (hr.hi i hi)⟩

/-- The bind at i holds the numbers from m on. -/
def HCell (w : World) (g : Nat) (Ls Hs : Nat → Nat) (i : Nat) (x : Bd) (m : Int) : Prop :=
  ∃ a c, w.cell? ⟨g, i * 4, none⟩ = some (.int .i64 m) ∧ w.cell? ⟨g, i * 4 + 1, none⟩ = some (.int .i64 (m + 1)) ∧ w.cell? ⟨g, i * 4 + 2, none⟩ = some (.int .i64 (m + 1 + 1)) ∧ w.cell? ⟨g, i * 4 + 3, none⟩ = some (.slice a (flen x.2.2.2) c) ∧ HdS w (Ls i) (Hs i) a x.2.2.2 (m + 1 + 1 + 1)
/-- A row of binds that holds the numbers from m on. -/
def BH (w : World) (base top : Nat) (bs : List Bd) (A : Option Addr) (m : Int) : Prop :=
  bs = [] ∨ ∃ g Ls Hs, A = some ⟨g, 0, none⟩ ∧ RngX base top g bs Ls Hs ∧ ∀ i x, bs[i]? = some x → HCell w g Ls Hs i x (m + mcn (bs.take i))
theorem HCell.same {w w' : World} {base top g : Nat} {bs : List Bd} {Ls Hs : Nat → Nat} {i : Nat} {x : Bd} {m : Int} (h : HCell w g Ls Hs i x m) (hr : RngX base top g bs Ls Hs) (hi : i < bs.length) (hs : Same base top w w') : HCell w' g Ls Hs i x m := by
  obtain ⟨a, c, c0, c1, c2, c3, ht⟩ := h
  exact ⟨a, c, by rw [hs.cell hr.gb hr.gt]; exact c0, by rw [hs.cell hr.gb hr.gt]; exact c1, by rw [hs.cell hr.gb hr.gt]; exact c2, by rw [hs.cell hr.gb hr.gt]; exact c3, ht.same (hs.mono (hr.lo i hi) (hr.hi i hi))⟩
theorem BH.same {w w' : World} {base top : Nat} {bs : List Bd} {A : Option Addr} {m : Int} (h : BH w base top bs A m) (hs : Same base top w w') : BH w' base top bs A m := by
  rcases h with h | ⟨g, Ls, Hs, e, hr, hc⟩
  · exact .inl h
  · exact .inr ⟨g, Ls, Hs, e, hr, fun i x hx => (hc i x hx).same hr (List.getElem?_eq_some_iff.1 hx).1 hs⟩

/-- In the midst of the marking: j binds are marked. -/
structure MbAt (w : World) (base top g : Nat) (bs : List Bd) (Ls Hs : Nat → Nat) (m : Int) (j : Nat) (wr : World) : Prop where
  low : Below base w wr
  far : ∀ b, top ≤ b → b < w.heap.size → wr.heap[b]? = w.heap[b]?
  fr : ∀ o, wr.frozen? ⟨g, o, none⟩ = false
  hd : ∀ i x, i < j → bs[i]? = some x → HCell wr g Ls Hs i x (m + mcn (bs.take i))
  tl : ∀ i x, j ≤ i → bs[i]? = some x → BCell wr g Ls Hs i x
theorem ne_offB {b i j : Nat} (h : i ≠ j) : (⟨b, i, none⟩ : Addr) ≠ ⟨b, j, none⟩ := fun e => h (congrArg Addr.off e)
theorem MbAt.step {w wr w2 : World} {base top g : Nat} {bs : List Bd} {Ls Hs : Nat → Nat} {m : Int} {j : Nat} {x : Bd} {a : Option Addr} {c : Nat} (h : MbAt w base top g bs Ls Hs m j wr) (hr : RngX base top g bs Ls Hs) (htop : top ≤ w.heap.size) (hx : bs[j]? = some x)
    (c0 : wr.cell? ⟨g, j * 4, none⟩ = some (.int .i64 x.1)) (c1 : wr.cell? ⟨g, j * 4 + 1, none⟩ = some (.int .i64 x.2.1)) (c2 : wr.cell? ⟨g, j * 4 + 2, none⟩ = some (.int .i64 x.2.2.1)) (c3 : wr.cell? ⟨g, j * 4 + 3, none⟩ = some (.slice a (flen x.2.2.2) c))
    (hm : Marked (Ls j) (Hs j) (((wr.setCell ⟨g, j * 4, none⟩ (.int .i64 (m + mcn (bs.take j)))).setCell ⟨g, j * 4 + 1, none⟩ (.int .i64 (m + mcn (bs.take j) + 1))).setCell ⟨g, j * 4 + 2, none⟩ (.int .i64 (m + mcn (bs.take j) + 1 + 1))) w2) (hh : HdS w2 (Ls j) (Hs j) a x.2.2.2 (m + mcn (bs.take j) + 1 + 1 + 1)) : MbAt w base top g bs Ls Hs m (j + 1) w2 := by
  have hj := (List.getElem?_eq_some_iff.1 hx).1
  have hsz := h.low.size
  have hoff := hr.off j hj
  have hLj := hr.lo j hj
  have hHj := hr.hi j hj
  have hle := hr.le j hj
  have hgt := hr.gt
  have hgb := hr.gb
  generalize hM : m + mcn (bs.take j) = M at *
  have hfar2 : ∀ b, (b < Ls j ∨ Hs j ≤ b) → b < wr.heap.size → w2.heap[b]? = (((wr.setCell ⟨g, j * 4, none⟩ (.int .i64 M)).setCell ⟨g, j * 4 + 1, none⟩ (.int .i64 (M + 1))).setCell ⟨g, j * 4 + 2, none⟩ (.int .i64 (M + 1 + 1))).heap[b]? := fun b hb hlt => by
    rcases hb with hb | hb
    · exact hm.below.block b hb
    · exact hm.far b hb (by simpa using hlt)
  have hblk : ∀ b, b ≠ g → (b < Ls j ∨ Hs j ≤ b) → b < wr.heap.size → w2.heap[b]? = wr.heap[b]? := fun b hb hb2 hlt => by
    rw [hfar2 b hb2 hlt, Below.heap_setCell _ _ _ _ (by simpa using hb), Below.heap_setCell _ _ _ _ (by simpa using hb), Below.heap_setCell _ _ _ _ (by simpa using hb)]
  have hg2 : ∀ o, w2.cell? ⟨g, o, none⟩ = (((wr.setCell ⟨g, j * 4, none⟩ (.int .i64 M)).setCell ⟨g, j * 4 + 1, none⟩ (.int .i64 (M + 1))).setCell ⟨g, j * 4 + 2, none⟩ (.int .i64 (M + 1 + 1))).cell? ⟨g, o, none⟩ := fun o => World.cell?_of_block (a := ⟨g, o, none⟩) (hfar2 g hoff (by omega))
  have hgo : ∀ o, o ≠ j * 4 → o ≠ j * 4 + 1 → o ≠ j * 4 + 2 → w2.cell? ⟨g, o, none⟩ = wr.cell? ⟨g, o, none⟩ := fun o h0 h1 h2 => by
    rw [hg2 o, World.cell?_setCell_other _ _ _ _ (ne_offB (Ne.symm h2)), World.cell?_setCell_other _ _ _ _ (ne_offB (Ne.symm h1)), World.cell?_setCell_other _ _ _ _ (ne_offB (Ne.symm h0))]
  refine ⟨?_, fun b h1 h2 => ?_, fun o => ?_, fun i y hi hy => ?_, fun i y hi hy => ?_⟩
  · exact (((h.low.setCell hgb _).setCell hgb _).setCell hgb _).trans (hm.below.mono hLj)
  · rw [hblk b (by omega) (by omega) (by omega)]; exact h.far b h1 h2
  · have hfz : w2.frozen? ⟨g, o, none⟩ = wr.frozen? ⟨g, o, none⟩ := by
      rw [frozen_same (hfar2 g hoff (by omega)), World.frozen?_setCell, World.frozen?_setCell, World.frozen?_setCell]
    rw [hfz]; exact h.fr o
  · by_cases e : i = j
    · subst e
      rw [hx] at hy
      obtain rfl := Option.some.inj hy
      rw [hM]
      refine ⟨a, c, ?_, ?_, ?_, ?_, hh⟩
      · rw [hg2, World.cell?_setCell_other _ _ _ _ (ne_offB (by omega)), World.cell?_setCell_other _ _ _ _ (ne_offB (by omega))]; exact World.cell?_setCell_same _ _ _ c0
      · rw [hg2, World.cell?_setCell_other _ _ _ _ (ne_offB (by omega))]
        refine World.cell?_setCell_same _ _ _ (?_ : _ = some (.int .i64 x.2.1))
        rw [World.cell?_setCell_other _ _ _ _ (ne_offB (by omega))]; exact c1
      · rw [hg2]
        refine World.cell?_setCell_same _ _ _ (?_ : _ = some (.int .i64 x.2.2.1))
        rw [World.cell?_setCell_other _ _ _ _ (ne_offB (by omega)), World.cell?_setCell_other _ _ _ _ (ne_offB (by omega))]; exact c2
      · rw [hgo _ (by omega) (by omega) (by omega)]; exact c3
    · have hij : i < j := by omega
      have hi2 := (List.getElem?_eq_some_iff.1 hy).1
      obtain ⟨a', c', d0, d1, d2, d3, ht⟩ := h.hd i y hij hy
      have ho := hr.ord i j hij hj
      have hif := hr.off i hi2
      have hih := hr.hi i hi2
      refine ⟨a', c', by rw [hgo _ (by omega) (by omega) (by omega)]; exact d0, by rw [hgo _ (by omega) (by omega) (by omega)]; exact d1, by rw [hgo _ (by omega) (by omega) (by omega)]; exact d2, by rw [hgo _ (by omega) (by omega) (by omega)]; exact d3, ht.same fun b hb1 hb2 => hblk b (by omega) (by omega) (by omega)⟩
  · have hij : j < i := by omega
    have hi2 := (List.getElem?_eq_some_iff.1 hy).1
    obtain ⟨a', c', d0, d1, d2, d3, ht⟩ := h.tl i y (by omega) hy
    have ho := hr.ord j i hij hi2
    have hif := hr.off i hi2
    have hih := hr.hi i hi2
    exact ⟨a', c', by rw [hgo _ (by omega) (by omega) (by omega)]; exact d0, by rw [hgo _ (by omega) (by omega) (by omega)]; exact d1, by rw [hgo _ (by omega) (by omega) (by omega)]; exact d2, by rw [hgo _ (by omega) (by omega) (by omega)]; exact d3, ht.same fun b hb1 hb2 => hblk b (by omega) (by omega) (by omega)⟩

def MbPost (base top : Nat) (bs : List Bd) (A : Option Addr) (m : Int) (w : World) (e : Ending) (w' : World) : Prop :=
  e = .returned (.int .i64 (m + mcn bs)) ∧ Below base w w' ∧ (∀ b, top ≤ b → b < w.heap.size → w'.heap[b]? = w.heap[b]?) ∧ BH w' base top bs A m

set_option maxRecDepth 100000 in
set_option maxHeartbeats 2000000 in
theorem markBindS_any (bs : List Bd) (A : Option Addr) (C base top : Nat) (m : Int) (w : World) (h : BX w base top bs A) (htop : top ≤ w.heap.size) (hl : bs.length ≤ 1000) (hz : ∀ x ∈ bs, fsz x.2.2.2 ≤ 1000) (hm0 : 0 ≤ m) (hm1 : m ≤ 1000) (hmm : mcn bs ≤ 4000000) :
    Calls Try.prog 29 #[.slice A bs.length C, .int .i64 m] w (MbPost base top bs A m w) := by
  have HZ := Lib.hid hz
  rcases h with rfl | ⟨g, Ls, Hs, rfl, hr, hf, hc⟩
  · go_enter Try.func29, Try.ntmps29
    go_wp2_with fail
    go_loopw [1, 5] (fun t i wr => t = .int .i64 m ∧ i = .int .i64 0 ∧ wr = w) (fun _ _ _ => 0)
    case atStart => exact ⟨rfl, rfl, rfl⟩
    case round =>
      obtain ⟨rfl, rfl, rfl⟩ := hrel
      go_wp2_with fail
      go_ret
      exact ⟨by simp [mcn], Below.refl _ _, fun _ _ _ => rfl, .inl rfl⟩
  have HR := Lib.hid hr
  have HST : Hid (MbAt w base top g bs Ls Hs m 0 w) := ⟨Below.refl _ _, fun _ _ _ => rfl, hf, fun i x hi _ => absurd hi (Nat.not_lt_zero _), fun i x _ hx => hc i x hx⟩
  clear hr hf hc hz
  go_enter Try.func29, Try.ntmps29
  go_wp2_with fail
  go_loopw [1, 5] (fun t i wr => ∃ j : Nat, t = .int .i64 (m + mcn (bs.take j)) ∧ i = .int .i64 j ∧ j ≤ bs.length ∧ Hid (MbAt w base top g bs Ls Hs m j wr)) (fun _ i _ => bs.length - (intOf i).toNat)
  case atStart => exact ⟨0, by simp [mcn], rfl, Nat.zero_le _, HST⟩
  case round =>
    clear HST
    obtain ⟨j, rfl, rfl, hj, HAT⟩ := hrel
    have hsz := HAT.out.low.size
    by_cases hlt : j < bs.length
    · obtain ⟨x, hx⟩ : ∃ x, bs[j]? = some x := ⟨bs[j], List.getElem?_eq_getElem hlt⟩
      obtain ⟨x1, x2, x3, xk⟩ := x
      obtain ⟨a, c, c0, c1, c2, c3, ht⟩ := HAT.out.tl j _ (Nat.le_refl _) hx
      dsimp only at c0 c1 c2 c3 ht
      have hxz := HZ.out _ (List.mem_of_getElem? hx)
      dsimp only at hxz
      have hp := mcn_pos (bs.take j)
      have hq := mcn_le (bs := bs) (j + 1)
      rw [mcn_take hx] at hq
      dsimp only at hq
      have HNX : Hid (mcn (bs.take (j + 1)) = mcn (bs.take j) + (3 + 2 * (fsz xk : Int))) := mcn_take hx
      have HX := Lib.hid hx
      have f0 := HAT.out.fr (j * 4)
      have f1 := HAT.out.fr (j * 4 + 1)
      have f2 := HAT.out.fr (j * 4 + 1 + 1)
      have g1 : (0 : Int) ≤ (j : Int) := by omega
      have g2 : (j : Int) < (bs.length : Int) := by omega
      have hjl := HR.out.off j hlt
      have hjh := HR.out.hi j hlt
      have hle := HR.out.le j hlt
      have hTr := ht.2
      have hS0 : Same (Ls j) (Hs j) wr (((wr.setCell ⟨g, j * 4, none⟩ (.int .i64 (m + mcn (bs.take j)))).setCell ⟨g, j * 4 + 1, none⟩ (.int .i64 (m + mcn (bs.take j) + 1))).setCell ⟨g, j * 4 + 1 + 1, none⟩ (.int .i64 (m + mcn (bs.take j) + 1 + 1))) := ((Same.setCell (fun _ _ _ => rfl) (by simpa using hjl) _).setCell (by simpa using hjl) _).setCell (by simpa using hjl) _
      have HTR := Lib.hid (hTr.same hS0)
      have HC := Lib.hid (And.intro c0 (And.intro c1 (And.intro c2 c3)))
      have d1 : (wr.setCell ⟨g, j * 4, none⟩ (.int .i64 (m + mcn (bs.take j)))).cell? ⟨g, j * 4 + 1, none⟩ = some (.int .i64 x2) := by rw [World.cell?_setCell_other _ _ _ _ (ne_offB (by omega))]; exact c1
      have d2 : ((wr.setCell ⟨g, j * 4, none⟩ (.int .i64 (m + mcn (bs.take j)))).setCell ⟨g, j * 4 + 1, none⟩ (.int .i64 (m + mcn (bs.take j) + 1))).cell? ⟨g, j * 4 + 1 + 1, none⟩ = some (.int .i64 x3) := by rw [World.cell?_setCell_other _ _ _ _ (ne_offB (by omega)), World.cell?_setCell_other _ _ _ _ (ne_offB (by omega))]; exact c2
      have d3 : (((wr.setCell ⟨g, j * 4, none⟩ (.int .i64 (m + mcn (bs.take j)))).setCell ⟨g, j * 4 + 1, none⟩ (.int .i64 (m + mcn (bs.take j) + 1))).setCell ⟨g, j * 4 + 1 + 1, none⟩ (.int .i64 (m + mcn (bs.take j) + 1 + 1))).cell? ⟨g, j * 4 + 1 + 2, none⟩ = some (.slice a (flen xk) c) := by
        rw [World.cell?_setCell_other _ _ _ _ (ne_offB (by omega)), World.cell?_setCell_other _ _ _ _ (ne_offB (by omega)), World.cell?_setCell_other _ _ _ _ (ne_offB (by omega))]; exact c3
      clear hx ht hTr hS0 c1 c2 c3
      have HCALL := Lib.hid (markTree_any (fsz xk) a c xk (Ls j) (Hs j) (m + mcn (bs.take j) + 1 + 1 + 1) (((wr.setCell ⟨g, j * 4, none⟩ (.int .i64 (m + mcn (bs.take j)))).setCell ⟨g, j * 4 + 1, none⟩ (.int .i64 (m + mcn (bs.take j) + 1))).setCell ⟨g, j * 4 + 1 + 1, none⟩ (.int .i64 (m + mcn (bs.take j) + 1 + 1))) HTR.out (Nat.le_refl _) (by omega) (by omega) (by omega) hle (by simp; omega))
      go_wp2_with fail
      with_reducible refine HCALL.out.mono ?_
      rintro e w2 ⟨rfl, hmk, hhd⟩
      have HAT2 := Lib.hid (HAT.out.step HR.out htop HX.out HC.out.1 HC.out.2.1 HC.out.2.2.1 HC.out.2.2.2 hmk hhd)
      clear hmk hhd HCALL HTR d1 d2 d3 c0 f0 f1 f2
      go_wp2_with fail
      go_roundw
      case rel => exact ⟨j + 1, by rw [HNX.out]; congr 1; omega, by go_num, by omega, HAT2⟩
      case measure => simp [intOf]; omega
    · have hje : j = bs.length := by omega
      subst hje
      have HE : Hid (bs.take bs.length = bs) := List.take_length
      have HP : Hid (MbPost base top bs (some ⟨g, 0, none⟩) m w (.returned (.int .i64 (m + mcn (bs.take bs.length)))) wr) := by
        refine ⟨by rw [HE.out], HAT.out.low, HAT.out.far, .inr ⟨g, Ls, Hs, rfl, HR.out, fun i x hx => HAT.out.hd i x (List.getElem?_eq_some_iff.1 hx).1 hx⟩⟩
      go_wp2_with fail
      go_ret
      exact HP.out

set_option maxRecDepth 100000 in
set_option maxHeartbeats 2000000 in
theorem heldBindS_any (bs : List Bd) (A : Option Addr) (C base top : Nat) (m : Int) (w : World) (h : BH w base top bs A m) (htop : top ≤ w.heap.size) (hl : bs.length ≤ 1000) (hz : ∀ x ∈ bs, fsz x.2.2.2 ≤ 1000) (hm0 : 0 ≤ m) (hm1 : m ≤ 1000) (hmm : mcn bs ≤ 4000000) :
    Calls Try.prog 30 #[.slice A bs.length C, .int .i64 m] w fun e w' => e = .returned (.int .i64 (m + mcn bs)) ∧ Below w.heap.size w w' := by
  have HZ := Lib.hid hz
  rcases h with rfl | ⟨g, Ls, Hs, rfl, hr, hc⟩
  · go_enter Try.func30, Try.ntmps30
    go_wp2_with fail
    go_loopw [1, 5] (fun t i wr => t = .int .i64 m ∧ i = .int .i64 0 ∧ wr = w) (fun _ _ _ => 0)
    case atStart => exact ⟨rfl, rfl, rfl⟩
    case round =>
      obtain ⟨rfl, rfl, rfl⟩ := hrel
      go_wp2_with fail
      go_ret
      exact ⟨by simp [mcn], Below.refl _ _⟩
  have HR := Lib.hid hr
  have HCC := Lib.hid hc
  clear hr hc hz
  go_enter Try.func30, Try.ntmps30
  go_wp2_with fail
  go_loopw [1, 5] (fun t i wr => ∃ j : Nat, t = .int .i64 (m + mcn (bs.take j)) ∧ i = .int .i64 j ∧ j ≤ bs.length ∧ Hid (Below w.heap.size w wr)) (fun _ i _ => bs.length - (intOf i).toNat)
  case atStart => exact ⟨0, by simp [mcn], rfl, Nat.zero_le _, Below.refl _ _⟩
  case round =>
    obtain ⟨j, rfl, rfl, hj, HB⟩ := hrel
    have hsz := HB.out.size
    by_cases hlt : j < bs.length
    · obtain ⟨x, hx⟩ : ∃ x, bs[j]? = some x := ⟨bs[j], List.getElem?_eq_getElem hlt⟩
      obtain ⟨x1, x2, x3, xk⟩ := x
      obtain ⟨a, c, c0, c1, c2, c3, ht⟩ := (HCC.out j _ hx).same HR.out hlt (Same.of_below (HB.out.mono htop))
      dsimp only at c0 c1 c2 c3 ht
      have hxz := HZ.out _ (List.mem_of_getElem? hx)
      dsimp only at hxz
      have hp := mcn_pos (bs.take j)
      have hq := mcn_le (bs := bs) (j + 1)
      rw [mcn_take hx] at hq
      dsimp only at hq
      have HNX : Hid (mcn (bs.take (j + 1)) = mcn (bs.take j) + (3 + 2 * (fsz xk : Int))) := mcn_take hx
      have g1 : (0 : Int) ≤ (j : Int) := by omega
      have g2 : (j : Int) < (bs.length : Int) := by omega
      have hjh := HR.out.hi j hlt
      have d2 : wr.cell? ⟨g, j * 4 + 1 + 1, none⟩ = some (.int .i64 (m + mcn (bs.take j) + 1 + 1)) := c2
      have d3 : wr.cell? ⟨g, j * 4 + 1 + 2, none⟩ = some (.slice a (flen xk) c) := c3
      have n0 : (m + mcn (bs.take j) != m + mcn (bs.take j)) = false := by simp
      have n1 : (m + mcn (bs.take j) + 1 != m + mcn (bs.take j) + 1) = false := by simp
      have n2 : (m + mcn (bs.take j) + 1 + 1 != m + mcn (bs.take j) + 1 + 1) = false := by simp
      have n3 : decide (m + mcn (bs.take j) + 1 + 1 + 1 + 2 * (fsz xk : Int) < 0) = false := decide_eq_false (by omega)
      have HCALL := Lib.hid (heldTermS_any (fsz xk) a c xk (Ls j) (Hs j) (m + mcn (bs.take j) + 1 + 1 + 1) wr ht (Nat.le_refl _) (by omega) (by omega) (by omega) (by omega))
      clear hx ht c2 c3
      go_wp2_with fail
      with_reducible refine HCALL.out.mono ?_
      rintro e w2 ⟨rfl, hb2⟩
      have HB2 := Lib.hid (HB.out.trans (hb2.mono hsz))
      clear hb2 HCALL c0 c1 d2 d3
      go_wp2_with fail
      go_roundw
      case rel => exact ⟨j + 1, by rw [HNX.out]; congr 1; omega, by go_num, by omega, HB2⟩
      case measure => simp [intOf]; omega
    · have hje : j = bs.length := by omega
      subst hje
      have HE : Hid (bs.take bs.length = bs) := List.take_length
      go_wp2_with fail
      go_ret
      exact ⟨by rw [HE.out]; rfl, HB.out⟩

set_option maxRecDepth 100000 in
set_option maxHeartbeats 1000000 in
theorem eqBind_same (x s v : Int) (a a' : Option Addr) (c c' : Nat) (k : Fo) (w : World) (hl : Sl w 0 w.heap.size a k) (hl' : Sl w 0 w.heap.size a' k) (hN : fsz k ≤ 1048576) :
    Calls Try.prog 51 #[.agg #[.int .i64 x, .int .i64 s, .int .i64 v, .slice a (flen k) c], .agg #[.int .i64 x, .int .i64 s, .int .i64 v, .slice a' (flen k) c']] w fun e w' => e = .returned (.bool true) ∧ Below w.heap.size w w' := by
  have hb0 : Below w.heap.size w ((w.alloc (.cells #[.int .i64 x, .int .i64 s, .int .i64 v, .slice a (flen k) c] 68)).alloc (.cells #[.int .i64 x, .int .i64 s, .int .i64 v, .slice a' (flen k) c'] 68)) := ((Below.refl _ _).alloc (Nat.le_refl _) _).alloc (by simp) _
  have HB0 := Lib.hid hb0
  have HL := Lib.hid ((hl.below hb0).mono (Nat.le_refl _) hb0.size)
  have HL' := Lib.hid ((hl'.below hb0).mono (Nat.le_refl _) hb0.size)
  have e0 : (x != x) = false := by simp
  clear hb0 hl hl'
  go_enter Try.func51, Try.ntmps51
  go_wp2_with fail
  with_reducible refine (eqTerm_any (k := k) HL.out HL'.out hN).mono ?_
  rintro e w2 ⟨rfl, hb2⟩
  have HB2 := Lib.hid (HB0.out.trans (hb2.mono HB0.out.size))
  clear hb2
  go_wp2_with fail
  go_ret
  exact ⟨rfl, HB2.out⟩

set_option maxRecDepth 100000 in
set_option maxHeartbeats 2000000 in
theorem eqBindS_same (bs : List Bd) (A B : Option Addr) (ca cb : Nat) (w : World) (hA : BSl w 0 w.heap.size A bs) (hB : BSl w 0 w.heap.size B bs) (hl : bs.length ≤ 1048576) (hz : ∀ x ∈ bs, fsz x.2.2.2 ≤ 1048576) :
    Calls Try.prog 26 #[.slice A bs.length ca, .slice B bs.length cb] w fun e w' => e = .returned (.bool true) ∧ Below w.heap.size w w' := by
  have HA := Lib.hid hA
  have HB := Lib.hid hB
  have HZ := Lib.hid hz
  clear hA hB hz
  go_enter Try.func26, Try.ntmps26
  go_wp2_with fail
  go_loopw [5] (fun i wr => ∃ j : Nat, i = .int .i64 j ∧ j ≤ bs.length ∧ Hid (Below w.heap.size w wr)) (fun i _ => bs.length - (intOf i).toNat)
  case atStart => exact ⟨0, rfl, Nat.zero_le _, Below.refl _ _⟩
  case round =>
    obtain ⟨j, rfl, hj, HW⟩ := hrel
    have hws := HW.out.size
    by_cases hlt : j < bs.length
    · obtain ⟨y, hy⟩ : ∃ y, bs[j]? = some y := ⟨bs[j], List.getElem?_eq_getElem hlt⟩
      obtain ⟨yx, ys, yv, yk⟩ := y
      have hyz := HZ.out _ (List.mem_of_getElem? hy)
      dsimp only at hyz
      have hbr := (HA.out.below HW.out).mono (Nat.le_refl _) hws
      rcases hbr with hbr | ⟨rb, ro, rfl, _, hbB, hcells⟩
      · subst hbr; simp at hy
      have hbr2 := (HB.out.below HW.out).mono (Nat.le_refl _) hws
      rcases hbr2 with hbr2 | ⟨rb2, ro2, rfl, _, hbB2, hcells2⟩
      · subst hbr2; simp at hy
      obtain ⟨ya, yc, d0, d1, d2, d3, hsl⟩ := hcells j _ hy
      obtain ⟨ya2, yc2, e0, e1, e2, e3, hsl2⟩ := hcells2 j _ hy
      dsimp only at d0 d1 d2 d3 hsl e0 e1 e2 e3 hsl2
      have g1 : (0 : Int) ≤ (j : Int) := by omega
      have g2 : (j : Int) < (bs.length : Int) := by omega
      clear hcells hcells2 hy
      have hu0 : ∀ u : After wr.heap.size wr, u.world.cell? ⟨rb, ro + j * 4, none⟩ = some (.int .i64 yx) := fun u => cell_low u.below d0
      have hu1 : ∀ u : After wr.heap.size wr, u.world.cell? ⟨rb, ro + j * 4 + 1, none⟩ = some (.int .i64 ys) := fun u => cell_low u.below d1
      have hu2 : ∀ u : After wr.heap.size wr, u.world.cell? ⟨rb, ro + j * 4 + 2, none⟩ = some (.int .i64 yv) := fun u => cell_low u.below d2
      have hu3 : ∀ u : After wr.heap.size wr, u.world.cell? ⟨rb, ro + j * 4 + 3, none⟩ = some (.slice ya (flen yk) yc) := fun u => cell_low u.below d3
      have hu4 : ∀ u : After wr.heap.size wr, u.world.cell? ⟨rb2, ro2 + j * 4, none⟩ = some (.int .i64 yx) := fun u => cell_low u.below e0
      have hu5 : ∀ u : After wr.heap.size wr, u.world.cell? ⟨rb2, ro2 + j * 4 + 1, none⟩ = some (.int .i64 ys) := fun u => cell_low u.below e1
      have hu6 : ∀ u : After wr.heap.size wr, u.world.cell? ⟨rb2, ro2 + j * 4 + 2, none⟩ = some (.int .i64 yv) := fun u => cell_low u.below e2
      have hu7 : ∀ u : After wr.heap.size wr, u.world.cell? ⟨rb2, ro2 + j * 4 + 3, none⟩ = some (.slice ya2 (flen yk) yc2) := fun u => cell_low u.below e3
      have HCALL : Hid (∀ u : After wr.heap.size wr, Calls Try.prog 51 #[.agg #[.int .i64 yx, .int .i64 ys, .int .i64 yv, .slice ya (flen yk) yc], .agg #[.int .i64 yx, .int .i64 ys, .int .i64 yv, .slice ya2 (flen yk) yc2]] u.world fun e w' => e = .returned (.bool true) ∧ Below u.world.heap.size u.world w') := fun u =>
        eqBind_same yx ys yv ya ya2 yc yc2 yk u.world ((hsl.below u.below).mono (Nat.le_refl _) u.below.size) ((hsl2.below u.below).mono (Nat.le_refl _) u.below.size) (by omega)
      clear hsl hsl2
      go_wp2_with fail
      refine wp_region_after wr.heap.size (by kernel_rfl) (by kernel_rfl) ?_
      repeat (go_big_quiet_step ((go_at_call 51; exact Calls.after (After.below ‹_›).size (HCALL.out _))))
      refine wpQuiet_nil ?_
      rintro u ⟨⟨_, hu⟩, rfl⟩
      have HW2 := Lib.hid (HW.out.trans (hu.mono hws))
      clear hu hu0 hu1 hu2 hu3 hu4 hu5 hu6 hu7 d0 d1 d2 d3 e0 e1 e2 e3
      go_wp2_with fail
      go_roundw
      case rel => exact ⟨j + 1, by go_num, by omega, HW2⟩
      case measure => simp [intOf]; omega
    · go_wp2_with fail
      go_ret
      exact ⟨rfl, HW.out⟩
end Go.Proofs.Ytlaaihnokoeliab

/-! XW: What the walks of exact laws hold on to: parameters, answers of the specification, copies that are marked, answers of the program. Plain lemmas. -/
namespace Go.Proofs.Ytlaaihnokoeliab
open Go.RowKit Go.Deep

/-- A box of a term; all in blocks below n. -/
structure Tq (n b : Nat) (s v : Int) (a : Option Addr) (c : Nat) (k : Fo) (w : World) : Prop where
  c0 : w.cell? ⟨b, 0, none⟩ = some (.int .i64 s)
  c1 : w.cell? ⟨b, 1, none⟩ = some (.int .i64 v)
  c2 : w.cell? ⟨b, 2, none⟩ = some (.slice a (flen k) c)
  lt : b < n
  sl : Sl w 0 n a k
  le : n ≤ w.heap.size
theorem Tq.go {n b : Nat} {s v : Int} {a : Option Addr} {c : Nat} {k : Fo} {w w2 : World} {B : Nat} (h : Tq n b s v a c k w) (hb : Below B w w2) (hB : n ≤ B) : Tq n b s v a c k w2 := by
  have hlt := h.lt
  exact ⟨by rw [hb.cell (show b < B by omega)]; exact h.c0, by rw [hb.cell (show b < B by omega)]; exact h.c1, by rw [hb.cell (show b < B by omega)]; exact h.c2, h.lt, h.sl.below (hb.mono hB), Nat.le_trans h.le hb.size⟩
theorem Tq.next {n b : Nat} {s v : Int} {a : Option Addr} {c : Nat} {k : Fo} {w w2 : World} (h : Tq n b s v a c k w) (hb : Below w.heap.size w w2) : Tq n b s v a c k w2 := h.go hb h.le
theorem Tq.top {n b : Nat} {s v : Int} {a : Option Addr} {c : Nat} {k : Fo} {w : World} (h : Tq n b s v a c k w) : Sl w 0 w.heap.size a k := h.sl.mono (Nat.le_refl _) h.le
/-- A row of binds; all in blocks below n. -/
structure Rw (n : Nat) (bs : List Bd) (A : Option Addr) (w : World) : Prop where
  sl : BSl w 0 n A bs
  le : n ≤ w.heap.size
theorem Rw.go {n : Nat} {bs : List Bd} {A : Option Addr} {w w2 : World} {B : Nat} (h : Rw n bs A w) (hb : Below B w w2) (hB : n ≤ B) : Rw n bs A w2 := ⟨h.sl.below (hb.mono hB), Nat.le_trans h.le hb.size⟩
theorem Rw.next {n : Nat} {bs : List Bd} {A : Option Addr} {w w2 : World} (h : Rw n bs A w) (hb : Below w.heap.size w w2) : Rw n bs A w2 := h.go hb h.le
theorem Rw.top {n : Nat} {bs : List Bd} {A : Option Addr} {w : World} (h : Rw n bs A w) : BSl w 0 w.heap.size A bs := h.sl.mono (Nat.le_refl _) h.le
/-- A box of a term that lies in blocks of its own. -/
structure Xb (lo hi b : Nat) (s v : Int) (a : Option Addr) (c : Nat) (k : Fo) (w : World) : Prop where
  c0 : w.cell? ⟨b, 0, none⟩ = some (.int .i64 s)
  c1 : w.cell? ⟨b, 1, none⟩ = some (.int .i64 v)
  c2 : w.cell? ⟨b, 2, none⟩ = some (.slice a (flen k) c)
  sx : SX w lo hi a k
  lh : lo ≤ hi
  hb : hi ≤ b
  lt : b < w.heap.size
theorem Xb.next {lo hi b : Nat} {s v : Int} {a : Option Addr} {c : Nat} {k : Fo} {w w2 : World} (h : Xb lo hi b s v a c k w) (hb : Below w.heap.size w w2) : Xb lo hi b s v a c k w2 := by
  have h1 := h.hb
  have h2 := h.lt
  exact ⟨cell_low hb h.c0, cell_low hb h.c1, cell_low hb h.c2, h.sx.same (Same.of_below (hb.mono (by omega))), h.lh, h.hb, Nat.lt_of_lt_of_le h.lt hb.size⟩
theorem Xb.far {lo hi b : Nat} {s v : Int} {a : Option Addr} {c : Nat} {k : Fo} {w w2 : World} {lo' hi' : Nat} (h : Xb lo hi b s v a c k w) (hm : Marked lo' hi' w w2) (hd : hi' ≤ lo) : Xb lo hi b s v a c k w2 := by
  have h0 := h.lh
  have h1 := h.hb
  have h2 := h.lt
  have e := hm.far b (by omega) h2
  exact ⟨by rw [World.cell?_of_block (a := ⟨b, 0, none⟩) e]; exact h.c0, by rw [World.cell?_of_block (a := ⟨b, 1, none⟩) e]; exact h.c1, by rw [World.cell?_of_block (a := ⟨b, 2, none⟩) e]; exact h.c2, h.sx.same (fun q q1 q2 => hm.far q (by omega) (by omega)), h.lh, h.hb, Nat.lt_of_lt_of_le h.lt hm.below.size⟩
theorem Xb.top {lo hi b : Nat} {s v : Int} {a : Option Addr} {c : Nat} {k : Fo} {w : World} (h : Xb lo hi b s v a c k w) : Sl w 0 w.heap.size a k := h.sx.1.mono (Nat.zero_le _) (by have := h.hb; have := h.lt; omega)
/-- A box of a copy, made behind it. -/
theorem Xb.new {s v : Int} {a : Option Addr} {c : Nat} {k : Fo} {w : World} {lo : Nat} (h : SX w lo w.heap.size a k) (hl : lo ≤ w.heap.size) (T : TypeId) : Xb lo w.heap.size w.heap.size s v a c k (w.alloc (.cells #[.int .i64 s, .int .i64 v, .slice a (flen k) c] T)) := by
  have hb : Below w.heap.size w (w.alloc (.cells #[.int .i64 s, .int .i64 v, .slice a (flen k) c] T)) := (Below.refl _ _).alloc (Nat.le_refl _) _
  refine ⟨?_, ?_, ?_, h.same (Same.of_below hb), hl, Nat.le_refl _, by simp⟩
  · rw [World.cell?_alloc_at _ _ _ _ (by simp)]; rfl
  · rw [World.cell?_alloc_at _ _ _ _ (by simp)]; rfl
  · rw [World.cell?_alloc_at _ _ _ _ (by simp)]; rfl
/-- A row of binds of the answer's own. -/
structure Gx (lo hi : Nat) (bs : List Bd) (A : Option Addr) (w : World) : Prop where
  bx : BX w lo hi bs A
  le : hi ≤ w.heap.size
theorem Gx.next {lo hi : Nat} {bs : List Bd} {A : Option Addr} {w w2 : World} (h : Gx lo hi bs A w) (hb : Below w.heap.size w w2) : Gx lo hi bs A w2 := ⟨h.bx.same (Same.of_below (hb.mono h.le)), Nat.le_trans h.le hb.size⟩
theorem Gx.far {lo hi : Nat} {bs : List Bd} {A : Option Addr} {w w2 : World} {lo' hi' : Nat} (h : Gx lo hi bs A w) (hm : Marked lo' hi' w w2) (hd : hi' ≤ lo) : Gx lo hi bs A w2 :=
  ⟨h.bx.same (fun q q1 q2 => hm.far q (by omega) (by have := h.le; omega)), Nat.le_trans h.le hm.below.size⟩
theorem Gx.top {lo hi : Nat} {bs : List Bd} {A : Option Addr} {w : World} (h : Gx lo hi bs A w) : BSl w 0 w.heap.size A bs := h.bx.bsl.mono (Nat.zero_le _) h.le
/-- A row of the answer's own that holds numbers from m on. -/
structure Gh (lo hi : Nat) (bs : List Bd) (A : Option Addr) (m : Int) (w : World) : Prop where
  bh : BH w lo hi bs A m
  le : hi ≤ w.heap.size
theorem Gh.next {lo hi : Nat} {bs : List Bd} {A : Option Addr} {m : Int} {w w2 : World} (h : Gh lo hi bs A m w) (hb : Below w.heap.size w w2) : Gh lo hi bs A m w2 := ⟨h.bh.same (Same.of_below (hb.mono h.le)), Nat.le_trans h.le hb.size⟩
theorem low_next {w0 w w2 : World} (h : Below w0.heap.size w0 w) (hb : Below w.heap.size w w2) : Below w0.heap.size w0 w2 := h.trans (hb.mono h.size)
theorem mcn_small : ∀ {bs : List Bd}, bs.length ≤ 100 → (∀ x ∈ bs, fsz x.2.2.2 ≤ 15) → mcn bs ≤ 33 * (bs.length : Int)
  | [], _, _ => by simp [mcn]
  | x :: r, hl, hz => by
    have h1 := mcn_small (bs := r) (by simp at hl; omega) fun y hy => hz y (List.mem_cons_of_mem _ hy)
    have h2 := hz x List.mem_cons_self
    simp only [mcn, List.length_cons]
    omega
end Go.Proofs.Ytlaaihnokoeliab
