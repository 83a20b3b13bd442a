/- Several texts in one: XB1, XO0, FrameO, ReadB, XS1. -/
import Derived.Test.YtoafleckcjanaaaKLk3
import Derived.Test.YtoafleckcjanaaaKLk8
import Derived.Test.YtoafleckcjanaaaKLk12
import Derived.Test.YtoafleckcjanaaaKLk2
import Derived.Test.YtoafleckcjanaaaKLk13
import Derived.Test.YtoafleckcjanaaaKLk4
import Derived.Test.YtoafleckcjanaaaKLk5
import Derived.Test.YtoafleckcjanaaaRows
import Derived.WalkKit
import Derived.ProofKit
import Derived.OpenShut
import Derived.ShutString
import Derived.ChangeOld
import Derived.Below
import Derived.Test.YtoafleckcjanaaaKLk1

/-! XB1: Rows of binds of one's own, their terms trees of one's own; eqBindS, markBindS, heldBindS. -/
namespace Go.Proofs.Ytoafleckcjanaaa
open Go.RowKit Go.Deep

/-- How many numbers a row of binds holds. -/
def mcn : List Bd → Int
  | [] => 0
  | x :: r => 3 + 2 * (fsz x.2.2.2 : Int) + mcn r
theorem mcn_app : ∀ (xs ys : List Bd), mcn (xs ++ ys) = mcn xs + mcn ys
  | [], _ => by simp [mcn]
  | x :: r, ys => by simp only [List.cons_append, mcn, mcn_app r ys]; omega
theorem mcn_take {bs : List Bd} {j : Nat} {x : Bd} (h : bs[j]? = some x) : mcn (bs.take (j + 1)) = mcn (bs.take j) + (3 + 2 * (fsz x.2.2.2 : Int)) := by
  rw [List.take_add_one, h, mcn_app]; simp [mcn]
theorem mcn_pos : ∀ bs : List Bd, 0 ≤ mcn bs
  | [] => by simp [mcn]
  | x :: r => by have := mcn_pos r; simp only [mcn]; omega
theorem mcn_le {bs : List Bd} (j : Nat) : mcn (bs.take j) ≤ mcn bs := by
  have h := mcn_app (bs.take j) (bs.drop j)
  rw [List.take_append_drop] at h
  have := mcn_pos (bs.drop j)
  omega

/-- The bind at i, its cells, its term's tree. -/
def BCell (w : World) (g : Nat) (Ls Hs : Nat → Nat) (i : Nat) (x : Bd) : Prop :=
  ∃ a c, w.cell? ⟨g, i * 4, none⟩ = some (.int .i64 x.1) ∧ w.cell? ⟨g, i * 4 + 1, none⟩ = some (.int .i64 x.2.1) ∧ w.cell? ⟨g, i * 4 + 2, none⟩ = some (.int .i64 x.2.2.1) ∧ w.cell? ⟨g, i * 4 + 3, none⟩ = some (.slice a (flen x.2.2.2) c) ∧ TX w (Ls i) (Hs i) a x.2.2.2
/-- Where the trees lie: apart from one another and from the row. -/
structure RngX (base top g : Nat) (bs : List Bd) (Ls Hs : Nat → Nat) : Prop where
  gb : base ≤ g
  gt : g < top
  lo : ∀ i, i < bs.length → base ≤ Ls i
  le : ∀ i, i < bs.length → Ls i ≤ Hs i
  hi : ∀ i, i < bs.length → Hs i ≤ top
  off : ∀ i, i < bs.length → g < Ls i ∨ Hs i ≤ g
  ord : ∀ i j, i < j → j < bs.length → Hs i ≤ Ls j
/-- A row of binds of one's own. -/
def BX (w : World) (base top : Nat) (bs : List Bd) (A : Option Addr) : Prop :=
  bs = [] ∨ ∃ g Ls Hs, A = some ⟨g, 0, none⟩ ∧ RngX base top g bs Ls Hs ∧ (∀ o, w.frozen? ⟨g, o, none⟩ = false) ∧ ∀ i x, bs[i]? = some x → BCell w g Ls Hs i x
theorem BX.same {w w' : World} {base top : Nat} {bs : List Bd} {A : Option Addr} (h : BX w base top bs A) (hs : Same base top w w') : BX w' base top bs A := by
  rcases h with h | ⟨g, Ls, Hs, e, hr, hf, hc⟩
  · exact .inl h
  · refine .inr ⟨g, Ls, Hs, e, hr, fun o => by rw [frozen_same (hs g hr.gb hr.gt)]; exact hf o, fun i x hx => ?_⟩
    have hi := (List.getElem?_eq_some_iff.1 hx).1
    obtain ⟨a, c, c0, c1, c2, c3, ht⟩ := hc i x hx
    exact ⟨a, c, by rw [hs.cell hr.gb hr.gt]; exact c0, by rw [hs.cell hr.gb hr.gt]; exact c1, by rw [hs.cell hr.gb hr.gt]; exact c2, by rw [hs.cell hr.gb hr.gt]; exact c3, ht.same (hs.mono (hr.lo i hi) (hr.hi i hi))⟩
theorem BX.mono {w : World} {base base' top top' : Nat} {bs : List Bd} {A : Option Addr} (h : BX w base top bs A) (h1 : base' ≤ base) (h2 : top ≤ top') : BX w base' top' bs A := by
  rcases h with h | ⟨g, Ls, Hs, e, hr, hf, hc⟩
  · exact .inl h
  · exact .inr ⟨g, Ls, Hs, e, ⟨by have := hr.gb; omega, by have := hr.gt; omega, fun i hi => by have := hr.lo i hi; omega, hr.le, fun i hi => by have := hr.hi i hi; omega, hr.off, hr.ord⟩, hf, hc⟩
theorem BX.bsl {w : World} {base top : Nat} {bs : List Bd} {A : Option Addr} (h : BX w base top bs A) : BSl w base top A bs := by
  rcases h with h | ⟨g, Ls, Hs, e, hr, hf, hc⟩
  · exact .inl h
  · refine .inr ⟨g, 0, e, hr.gb, hr.gt, fun i x hx => ?_⟩
    have hi := (List.getElem?_eq_some_iff.1 hx).1
    obtain ⟨a, c, c0, c1, c2, c3, ht⟩ := hc i x hx
    exact ⟨a, c, by rw [Nat.zero_add]; exact c0, by rw [Nat.zero_add]; exact c1, by rw [Nat.zero_add]; exact c2, by rw [Nat.zero_add]; exact c3, ht.1.mono (hr.lo i hi) (hr.hi i hi)⟩

/-- The bind at i holds the numbers from m on. -/
def HCell (w : World) (g : Nat) (Ls Hs : Nat → Nat) (i : Nat) (x : Bd) (m : Int) : Prop :=
  ∃ a c, w.cell? ⟨g, i * 4, none⟩ = some (.int .i64 m) ∧ w.cell? ⟨g, i * 4 + 1, none⟩ = some (.int .i64 (m + 1)) ∧ w.cell? ⟨g, i * 4 + 2, none⟩ = some (.int .i64 (m + 1 + 1)) ∧ w.cell? ⟨g, i * 4 + 3, none⟩ = some (.slice a (flen x.2.2.2) c) ∧ HdS w (Ls i) (Hs i) a x.2.2.2 (m + 1 + 1 + 1)
/-- A row of binds that holds the numbers from m on. -/
def BH (w : World) (base top : Nat) (bs : List Bd) (A : Option Addr) (m : Int) : Prop :=
  bs = [] ∨ ∃ g Ls Hs, A = some ⟨g, 0, none⟩ ∧ RngX base top g bs Ls Hs ∧ ∀ i x, bs[i]? = some x → HCell w g Ls Hs i x (m + mcn (bs.take i))
theorem HCell.same {w w' : World} {base top g : Nat} {bs : List Bd} {Ls Hs : Nat → Nat} {i : Nat} {x : Bd} {m : Int} (h : HCell w g Ls Hs i x m) (hr : RngX base top g bs Ls Hs) (hi : i < bs.length) (hs : Same base top w w') : HCell w' g Ls Hs i x m := by
  obtain ⟨a, c, c0, c1, c2, c3, ht⟩ := h
  exact ⟨a, c, by rw [hs.cell hr.gb hr.gt]; exact c0, by rw [hs.cell hr.gb hr.gt]; exact c1, by rw [hs.cell hr.gb hr.gt]; exact c2, by rw [hs.cell hr.gb hr.gt]; exact c3, ht.same (hs.mono (hr.lo i hi) (hr.hi i hi))⟩
theorem BH.same {w w' : World} {base top : Nat} {bs : List Bd} {A : Option Addr} {m : Int} (h : BH w base top bs A m) (hs : Same base top w w') : BH w' base top bs A m := by
  rcases h with h | ⟨g, Ls, Hs, e, hr, hc⟩
  · exact .inl h
  · exact .inr ⟨g, Ls, Hs, e, hr, fun i x hx => (hc i x hx).same hr (List.getElem?_eq_some_iff.1 hx).1 hs⟩

/-- In the midst of the marking: j binds are marked. -/
structure MbAt (w : World) (base top g : Nat) (bs : List Bd) (Ls Hs : Nat → Nat) (m : Int) (j : Nat) (wr : World) : Prop where
  low : Below base w wr
  far : ∀ b, top ≤ b → b < w.heap.size → wr.heap[b]? = w.heap[b]?
  fr : ∀ o, wr.frozen? ⟨g, o, none⟩ = false
  hd : ∀ i x, i < j → bs[i]? = some x → HCell wr g Ls Hs i x (m + mcn (bs.take i))
  tl : ∀ i x, j ≤ i → bs[i]? = some x → BCell wr g Ls Hs i x
theorem ne_offB {b i j : Nat} (h : i ≠ j) : (⟨b, i, none⟩ : Addr) ≠ ⟨b, j, none⟩ := fun e => h (congrArg Addr.off e)
theorem MbAt.step {w wr w2 : World} {base top g : Nat} {bs : List Bd} {Ls Hs : Nat → Nat} {m : Int} {j : Nat} {x : Bd} {a : Option Addr} {c : Nat} (h : MbAt w base top g bs Ls Hs m j wr) (hr : RngX base top g bs Ls Hs) (htop : top ≤ w.heap.size) (hx : bs[j]? = some x)
    (c0 : wr.cell? ⟨g, j * 4, none⟩ = some (.int .i64 x.1)) (c1 : wr.cell? ⟨g, j * 4 + 1, none⟩ = some (.int .i64 x.2.1)) (c2 : wr.cell? ⟨g, j * 4 + 2, none⟩ = some (.int .i64 x.2.2.1)) (c3 : wr.cell? ⟨g, j * 4 + 3, none⟩ = some (.slice a (flen x.2.2.2) c))
    (hm : Marked (Ls j) (Hs j) (((wr.setCell ⟨g, j * 4, none⟩ (.int .i64 (m + mcn (bs.take j)))).setCell ⟨g, j * 4 + 1, none⟩ (.int .i64 (m + mcn (bs.take j) + 1))).setCell ⟨g, j * 4 + 2, none⟩ (.int .i64 (m + mcn (bs.take j) + 1 + 1))) w2) (hh : HdS w2 (Ls j) (Hs j) a x.2.2.2 (m + mcn (bs.take j) + 1 + 1 + 1)) : MbAt w base top g bs Ls Hs m (j + 1) w2 := by
  have hj := (List.getElem?_eq_some_iff.1 hx).1
  have hsz := h.low.size
  have hoff := hr.off j hj
  have hLj := hr.lo j hj
  have hHj := hr.hi j hj
  have hle := hr.le j hj
  have hgt := hr.gt
  have hgb := hr.gb
  generalize hM : m + mcn (bs.take j) = M at *
  have hfar2 : ∀ b, (b < Ls j ∨ Hs j ≤ b) → b < wr.heap.size → w2.heap[b]? = (((wr.setCell ⟨g, j * 4, none⟩ (.int .i64 M)).setCell ⟨g, j * 4 + 1, none⟩ (.int .i64 (M + 1))).setCell ⟨g, j * 4 + 2, none⟩ (.int .i64 (M + 1 + 1))).heap[b]? := fun b hb hlt => by
    rcases hb with hb | hb
    · exact hm.below.block b hb
    · exact hm.far b hb (by simpa using hlt)
  have hblk : ∀ b, b ≠ g → (b < Ls j ∨ Hs j ≤ b) → b < wr.heap.size → w2.heap[b]? = wr.heap[b]? := fun b hb hb2 hlt => by
    rw [hfar2 b hb2 hlt, Below.heap_setCell _ _ _ _ (by simpa using hb), Below.heap_setCell _ _ _ _ (by simpa using hb), Below.heap_setCell _ _ _ _ (by simpa using hb)]
  have hg2 : ∀ o, w2.cell? ⟨g, o, none⟩ = (((wr.setCell ⟨g, j * 4, none⟩ (.int .i64 M)).setCell ⟨g, j * 4 + 1, none⟩ (.int .i64 (M + 1))).setCell ⟨g, j * 4 + 2, none⟩ (.int .i64 (M + 1 + 1))).cell? ⟨g, o, none⟩ := fun o => World.cell?_of_block (a := ⟨g, o, none⟩) (hfar2 g hoff (by omega))
  have hgo : ∀ o, o ≠ j * 4 → o ≠ j * 4 + 1 → o ≠ j * 4 + 2 → w2.cell? ⟨g, o, none⟩ = wr.cell? ⟨g, o, none⟩ := fun o h0 h1 h2 => by
    rw [hg2 o, World.cell?_setCell_other _ _ _ _ (ne_offB (Ne.symm h2)), World.cell?_setCell_other _ _ _ _ (ne_offB (Ne.symm h1)), World.cell?_setCell_other _ _ _ _ (ne_offB (Ne.symm h0))]
  refine ⟨?_, fun b h1 h2 => ?_, fun o => ?_, fun i y hi hy => ?_, fun i y hi hy => ?_⟩
  · exact (((h.low.setCell hgb _).setCell hgb _).setCell hgb _).trans (hm.below.mono hLj)
  · rw [hblk b (by omega) (by omega) (by omega)]; exact h.far b h1 h2
  · have hfz : w2.frozen? ⟨g, o, none⟩ = wr.frozen? ⟨g, o, none⟩ := by
      rw [frozen_same (hfar2 g hoff (by omega)), World.frozen?_setCell, World.frozen?_setCell, World.frozen?_setCell]
    rw [hfz]; exact h.fr o
  · by_cases e : i = j
    · subst e
      rw [hx] at hy
      obtain rfl := Option.some.inj hy
      rw [hM]
      refine ⟨a, c, ?_, ?_, ?_, ?_, hh⟩
      · rw [hg2, World.cell?_setCell_other _ _ _ _ (ne_offB (by omega)), World.cell?_setCell_other _ _ _ _ (ne_offB (by omega))]; exact World.cell?_setCell_same _ _ _ c0
      · rw [hg2, World.cell?_setCell_other _ _ _ _ (ne_offB (by omega))]
        refine World.cell?_setCell_same _ _ _ (?_ : _ = some (.int .i64 x.2.1))
        rw [World.cell?_setCell_other _ _ _ _ (ne_offB (by omega))]; exact c1
      · rw [hg2]
        refine World.cell?_setCell_same _ _ _ (?_ : _ = some (.int .i64 x.2.2.1))
        rw [World.cell?_setCell_other _ _ _ _ (ne_offB (by omega)), World.cell?_setCell_other _ _ _ _ (ne_offB (by omega))]; exact c2
      · rw [hgo _ (by omega) (by omega) (by omega)]; exact c3
    · have hij : i < j := by omega
      have hi2 := (List.getElem?_eq_some_iff.1 hy).1
      obtain ⟨a', c', d0, d1, d2, d3, ht⟩ := h.hd i y hij hy
      have ho := hr.ord i j hij hj
      have hif := hr.off i hi2
      have hih := hr.hi i hi2
      refine ⟨a', c', by rw [hgo _ (by omega) (by omega) (by omega)]; exact d0, by rw [hgo _ (by omega) (by omega) (by omega)]; exact d1, by rw [hgo _ (by omega) (by omega) (by omega)]; exact d2, by rw [hgo _ (by omega) (by omega) (by omega)]; exact d3, ht.same fun b hb1 hb2 => hblk b (by omega) (by omega) (by omega)⟩
  · have hij : j < i := by omega
    have hi2 := (List.getElem?_eq_some_iff.1 hy).1
    obtain ⟨a', c', d0, d1, d2, d3, ht⟩ := h.tl i y (by omega) hy
    have ho := hr.ord j i hij hi2
    have hif := hr.off i hi2
    have hih := hr.hi i hi2
    exact ⟨a', c', by rw [hgo _ (by omega) (by omega) (by omega)]; exact d0, by rw [hgo _ (by omega) (by omega) (by omega)]; exact d1, by rw [hgo _ (by omega) (by omega) (by omega)]; exact d2, by rw [hgo _ (by omega) (by omega) (by omega)]; exact d3, ht.same fun b hb1 hb2 => hblk b (by omega) (by omega) (by omega)⟩

def MbPost (base top : Nat) (bs : List Bd) (A : Option Addr) (m : Int) (w : World) (e : Ending) (w' : World) : Prop :=
  e = .returned (.int .i64 (m + mcn bs)) ∧ Below base w w' ∧ (∀ b, top ≤ b → b < w.heap.size → w'.heap[b]? = w.heap[b]?) ∧ BH w' base top bs A m

set_option maxRecDepth 100000 in
set_option maxHeartbeats 2000000 in
theorem markBindS_any (bs : List Bd) (A : Option Addr) (C base top : Nat) (m : Int) (w : World) (h : BX w base top bs A) (htop : top ≤ w.heap.size) (hl : bs.length ≤ 1000) (hz : ∀ x ∈ bs, fsz x.2.2.2 ≤ 1000) (hm0 : 0 ≤ m) (hm1 : m ≤ 1000) (hmm : mcn bs ≤ 4000000) :
    Calls Try.prog 64 #[.slice A bs.length C, .int .i64 m] w (MbPost base top bs A m w) := by
  have HZ := Lib.hid hz
  rcases h with rfl | ⟨g, Ls, Hs, rfl, hr, hf, hc⟩
  · go_enter Try.func64, Try.ntmps64
    go_wp2_with fail
    go_loopw [1, 5] (fun t i wr => t = .int .i64 m ∧ i = .int .i64 0 ∧ wr = w) (fun _ _ _ => 0)
    case atStart => exact ⟨rfl, rfl, rfl⟩
    case round =>
      obtain ⟨rfl, rfl, rfl⟩ := hrel
      go_wp2_with fail
      go_ret
      exact ⟨by simp [mcn], Below.refl _ _, fun _ _ _ => rfl, .inl rfl⟩
  have HR := Lib.hid hr
  have HST : Hid (MbAt w base top g bs Ls Hs m 0 w) := ⟨Below.refl _ _, fun _ _ _ => rfl, hf, fun i x hi _ => absurd hi (Nat.not_lt_zero _), fun i x _ hx => hc i x hx⟩
  clear hr hf hc hz
  go_enter Try.func64, Try.ntmps64
  go_wp2_with fail
  go_loopw [1, 5] (fun t i wr => ∃ j : Nat, t = .int .i64 (m + mcn (bs.take j)) ∧ i = .int .i64 j ∧ j ≤ bs.length ∧ Hid (MbAt w base top g bs Ls Hs m j wr)) (fun _ i _ => bs.length - (intOf i).toNat)
  case atStart => exact ⟨0, by simp [mcn], rfl, Nat.zero_le _, HST⟩
  case round =>
    clear HST
    obtain ⟨j, rfl, rfl, hj, HAT⟩ := hrel
    have hsz := HAT.out.low.size
    by_cases hlt : j < bs.length
    · obtain ⟨x, hx⟩ : ∃ x, bs[j]? = some x := ⟨bs[j], List.getElem?_eq_getElem hlt⟩
      obtain ⟨x1, x2, x3, xk⟩ := x
      obtain ⟨a, c, c0, c1, c2, c3, ht⟩ := HAT.out.tl j _ (Nat.le_refl _) hx
      dsimp only at c0 c1 c2 c3 ht
      have hxz := HZ.out _ (List.mem_of_getElem? hx)
      dsimp only at hxz
      have hp := mcn_pos (bs.take j)
      have hq := mcn_le (bs := bs) (j + 1)
      rw [mcn_take hx] at hq
      dsimp only at hq
      have HNX : Hid (mcn (bs.take (j + 1)) = mcn (bs.take j) + (3 + 2 * (fsz xk : Int))) := mcn_take hx
      have HX := Lib.hid hx
      have f0 := HAT.out.fr (j * 4)
      have f1 := HAT.out.fr (j * 4 + 1)
      have f2 := HAT.out.fr (j * 4 + 1 + 1)
      have g1 : (0 : Int) ≤ (j : Int) := by omega
      have g2 : (j : Int) < (bs.length : Int) := by omega
      have hjl := HR.out.off j hlt
      have hjh := HR.out.hi j hlt
      have hle := HR.out.le j hlt
      have hTr := ht.2
      have hS0 : Same (Ls j) (Hs j) wr (((wr.setCell ⟨g, j * 4, none⟩ (.int .i64 (m + mcn (bs.take j)))).setCell ⟨g, j * 4 + 1, none⟩ (.int .i64 (m + mcn (bs.take j) + 1))).setCell ⟨g, j * 4 + 1 + 1, none⟩ (.int .i64 (m + mcn (bs.take j) + 1 + 1))) := ((Same.setCell (fun _ _ _ => rfl) (by simpa using hjl) _).setCell (by simpa using hjl) _).setCell (by simpa using hjl) _
      have HTR := Lib.hid (hTr.same hS0)
      have HC := Lib.hid (And.intro c0 (And.intro c1 (And.intro c2 c3)))
      have d1 : (wr.setCell ⟨g, j * 4, none⟩ (.int .i64 (m + mcn (bs.take j)))).cell? ⟨g, j * 4 + 1, none⟩ = some (.int .i64 x2) := by rw [World.cell?_setCell_other _ _ _ _ (ne_offB (by omega))]; exact c1
      have d2 : ((wr.setCell ⟨g, j * 4, none⟩ (.int .i64 (m + mcn (bs.take j)))).setCell ⟨g, j * 4 + 1, none⟩ (.int .i64 (m + mcn (bs.take j) + 1))).cell? ⟨g, j * 4 + 1 + 1, none⟩ = some (.int .i64 x3) := by rw [World.cell?_setCell_other _ _ _ _ (ne_offB (by omega)), World.cell?_setCell_other _ _ _ _ (ne_offB (by omega))]; exact c2
      have d3 : (((wr.setCell ⟨g, j * 4, none⟩ (.int .i64 (m + mcn (bs.take j)))).setCell ⟨g, j * 4 + 1, none⟩ (.int .i64 (m + mcn (bs.take j) + 1))).setCell ⟨g, j * 4 + 1 + 1, none⟩ (.int .i64 (m + mcn (bs.take j) + 1 + 1))).cell? ⟨g, j * 4 + 1 + 2, none⟩ = some (.slice a (flen xk) c) := by
        rw [World.cell?_setCell_other _ _ _ _ (ne_offB (by omega)), World.cell?_setCell_other _ _ _ _ (ne_offB (by omega)), World.cell?_setCell_other _ _ _ _ (ne_offB (by omega))]; exact c3
      clear hx ht hTr hS0 c1 c2 c3
      have HCALL := Lib.hid (markTree_any (fsz xk) a c xk (Ls j) (Hs j) (m + mcn (bs.take j) + 1 + 1 + 1) (((wr.setCell ⟨g, j * 4, none⟩ (.int .i64 (m + mcn (bs.take j)))).setCell ⟨g, j * 4 + 1, none⟩ (.int .i64 (m + mcn (bs.take j) + 1))).setCell ⟨g, j * 4 + 1 + 1, none⟩ (.int .i64 (m + mcn (bs.take j) + 1 + 1))) HTR.out (Nat.le_refl _) (by omega) (by omega) (by omega) hle (by simp; omega))
      go_wp2_with fail
      with_reducible refine HCALL.out.mono ?_
      rintro e w2 ⟨rfl, hmk, hhd⟩
      have HAT2 := Lib.hid (HAT.out.step HR.out htop HX.out HC.out.1 HC.out.2.1 HC.out.2.2.1 HC.out.2.2.2 hmk hhd)
      clear hmk hhd HCALL HTR d1 d2 d3 c0 f0 f1 f2
      go_wp2_with fail
      go_roundw
      case rel => exact ⟨j + 1, by rw [HNX.out]; congr 1; omega, by go_num, by omega, HAT2⟩
      case measure => simp [intOf]; omega
    · have hje : j = bs.length := by omega
      subst hje
      have HE : Hid (bs.take bs.length = bs) := List.take_length
      have HP : Hid (MbPost base top bs (some ⟨g, 0, none⟩) m w (.returned (.int .i64 (m + mcn (bs.take bs.length)))) wr) := by
        refine ⟨by rw [HE.out], HAT.out.low, HAT.out.far, .inr ⟨g, Ls, Hs, rfl, HR.out, fun i x hx => HAT.out.hd i x (List.getElem?_eq_some_iff.1 hx).1 hx⟩⟩
      go_wp2_with fail
      go_ret
      exact HP.out

set_option maxRecDepth 100000 in
set_option maxHeartbeats 2000000 in
theorem heldBindS_any (bs : List Bd) (A : Option Addr) (C base top : Nat) (m : Int) (w : World) (h : BH w base top bs A m) (htop : top ≤ w.heap.size) (hl : bs.length ≤ 1000) (hz : ∀ x ∈ bs, fsz x.2.2.2 ≤ 1000) (hm0 : 0 ≤ m) (hm1 : m ≤ 1000) (hmm : mcn bs ≤ 4000000) :
    Calls Try.prog 83 #[.slice A bs.length C, .int .i64 m] w fun e w' => e = .returned (.int .i64 (m + mcn bs)) ∧ Below w.heap.size w w' := by
  have HZ := Lib.hid hz
  rcases h with rfl | ⟨g, Ls, Hs, rfl, hr, hc⟩
  · go_enter Try.func83, Try.ntmps83
    go_wp2_with fail
    go_loopw [1, 5] (fun t i wr => t = .int .i64 m ∧ i = .int .i64 0 ∧ wr = w) (fun _ _ _ => 0)
    case atStart => exact ⟨rfl, rfl, rfl⟩
    case round =>
      obtain ⟨rfl, rfl, rfl⟩ := hrel
      go_wp2_with fail
      go_ret
      exact ⟨by simp [mcn], Below.refl _ _⟩
  have HR := Lib.hid hr
  have HCC := Lib.hid hc
  clear hr hc hz
  go_enter Try.func83, Try.ntmps83
  go_wp2_with fail
  go_loopw [1, 5] (fun t i wr => ∃ j : Nat, t = .int .i64 (m + mcn (bs.take j)) ∧ i = .int .i64 j ∧ j ≤ bs.length ∧ Hid (Below w.heap.size w wr)) (fun _ i _ => bs.length - (intOf i).toNat)
  case atStart => exact ⟨0, by simp [mcn], rfl, Nat.zero_le _, Below.refl _ _⟩
  case round =>
    obtain ⟨j, rfl, rfl, hj, HB⟩ := hrel
    have hsz := HB.out.size
    by_cases hlt : j < bs.length
    · obtain ⟨x, hx⟩ : ∃ x, bs[j]? = some x := ⟨bs[j], List.getElem?_eq_getElem hlt⟩
      obtain ⟨x1, x2, x3, xk⟩ := x
      obtain ⟨a, c, c0, c1, c2, c3, ht⟩ := (HCC.out j _ hx).same HR.out hlt (Same.of_below (HB.out.mono htop))
      dsimp only at c0 c1 c2 c3 ht
      have hxz := HZ.out _ (List.mem_of_getElem? hx)
      dsimp only at hxz
      have hp := mcn_pos (bs.take j)
      have hq := mcn_le (bs := bs) (j + 1)
      rw [mcn_take hx] at hq
      dsimp only at hq
      have HNX : Hid (mcn (bs.take (j + 1)) = mcn (bs.take j) + (3 + 2 * (fsz xk : Int))) := mcn_take hx
      have g1 : (0 : Int) ≤ (j : Int) := by omega
      have g2 : (j : Int) < (bs.length : Int) := by omega
      have hjh := HR.out.hi j hlt
      have d2 : wr.cell? ⟨g, j * 4 + 1 + 1, none⟩ = some (.int .i64 (m + mcn (bs.take j) + 1 + 1)) := c2
      have d3 : wr.cell? ⟨g, j * 4 + 1 + 2, none⟩ = some (.slice a (flen xk) c) := c3
      have n0 : (m + mcn (bs.take j) != m + mcn (bs.take j)) = false := by simp
      have n1 : (m + mcn (bs.take j) + 1 != m + mcn (bs.take j) + 1) = false := by simp
      have n2 : (m + mcn (bs.take j) + 1 + 1 != m + mcn (bs.take j) + 1 + 1) = false := by simp
      have n3 : decide (m + mcn (bs.take j) + 1 + 1 + 1 + 2 * (fsz xk : Int) < 0) = false := decide_eq_false (by omega)
      have HCALL := Lib.hid (heldTermS_any (fsz xk) a c xk (Ls j) (Hs j) (m + mcn (bs.take j) + 1 + 1 + 1) wr ht (Nat.le_refl _) (by omega) (by omega) (by omega) (by omega))
      clear hx ht c2 c3
      go_wp2_with fail
      with_reducible refine HCALL.out.mono ?_
      rintro e w2 ⟨rfl, hb2⟩
      have HB2 := Lib.hid (HB.out.trans (hb2.mono hsz))
      clear hb2 HCALL c0 c1 d2 d3
      go_wp2_with fail
      go_roundw
      case rel => exact ⟨j + 1, by rw [HNX.out]; congr 1; omega, by go_num, by omega, HB2⟩
      case measure => simp [intOf]; omega
    · have hje : j = bs.length := by omega
      subst hje
      have HE : Hid (bs.take bs.length = bs) := List.take_length
      go_wp2_with fail
      go_ret
      exact ⟨by rw [HE.out]; rfl, HB.out⟩

set_option maxRecDepth 100000 in
set_option maxHeartbeats 1000000 in
theorem eqBind_same (x s v : Int) (a a' : Option Addr) (c c' : Nat) (k : Fo) (w : World) (hl : Sl w 0 w.heap.size a k) (hl' : Sl w 0 w.heap.size a' k) (hN : fsz k ≤ 1048576) :
    Calls Try.prog 89 #[.agg #[.int .i64 x, .int .i64 s, .int .i64 v, .slice a (flen k) c], .agg #[.int .i64 x, .int .i64 s, .int .i64 v, .slice a' (flen k) c']] w fun e w' => e = .returned (.bool true) ∧ Below w.heap.size w w' := by
  have hb0 : Below w.heap.size w ((w.alloc (.cells #[.int .i64 x, .int .i64 s, .int .i64 v, .slice a (flen k) c] 124)).alloc (.cells #[.int .i64 x, .int .i64 s, .int .i64 v, .slice a' (flen k) c'] 124)) := ((Below.refl _ _).alloc (Nat.le_refl _) _).alloc (by simp) _
  have HB0 := Lib.hid hb0
  have HL := Lib.hid ((hl.below hb0).mono (Nat.le_refl _) hb0.size)
  have HL' := Lib.hid ((hl'.below hb0).mono (Nat.le_refl _) hb0.size)
  have e0 : (x != x) = false := by simp
  clear hb0 hl hl'
  go_enter Try.func89, Try.ntmps89
  go_wp2_with fail
  with_reducible refine (eqTerm_any (k := k) HL.out HL'.out hN).mono ?_
  rintro e w2 ⟨rfl, hb2⟩
  have HB2 := Lib.hid (HB0.out.trans (hb2.mono HB0.out.size))
  clear hb2
  go_wp2_with fail
  go_ret
  exact ⟨rfl, HB2.out⟩

set_option maxRecDepth 100000 in
set_option maxHeartbeats 2000000 in
theorem eqBindS_same (bs : List Bd) (A B : Option Addr) (ca cb : Nat) (w : World) (hA : BSl w 0 w.heap.size A bs) (hB : BSl w 0 w.heap.size B bs) (hl : bs.length ≤ 1048576) (hz : ∀ x ∈ bs, fsz x.2.2.2 ≤ 1048576) :
    Calls Try.prog 61 #[.slice A bs.length ca, .slice B bs.length cb] w fun e w' => e = .returned (.bool true) ∧ Below w.heap.size w w' := by
  have HA := Lib.hid hA
  have HB := Lib.hid hB
  have HZ := Lib.hid hz
  clear hA hB hz
  go_enter Try.func61, Try.ntmps61
  go_wp2_with fail
  go_loopw [5] (fun i wr => ∃ j : Nat, i = .int .i64 j ∧ j ≤ bs.length ∧ Hid (Below w.heap.size w wr)) (fun i _ => bs.length - (intOf i).toNat)
  case atStart => exact ⟨0, rfl, Nat.zero_le _, Below.refl _ _⟩
  case round =>
    obtain ⟨j, rfl, hj, HW⟩ := hrel
    have hws := HW.out.size
    by_cases hlt : j < bs.length
    · obtain ⟨y, hy⟩ : ∃ y, bs[j]? = some y := ⟨bs[j], List.getElem?_eq_getElem hlt⟩
      obtain ⟨yx, ys, yv, yk⟩ := y
      have hyz := HZ.out _ (List.mem_of_getElem? hy)
      dsimp only at hyz
      have hbr := (HA.out.below HW.out).mono (Nat.le_refl _) hws
      rcases hbr with hbr | ⟨rb, ro, rfl, _, hbB, hcells⟩
      · subst hbr; simp at hy
      have hbr2 := (HB.out.below HW.out).mono (Nat.le_refl _) hws
      rcases hbr2 with hbr2 | ⟨rb2, ro2, rfl, _, hbB2, hcells2⟩
      · subst hbr2; simp at hy
      obtain ⟨ya, yc, d0, d1, d2, d3, hsl⟩ := hcells j _ hy
      obtain ⟨ya2, yc2, e0, e1, e2, e3, hsl2⟩ := hcells2 j _ hy
      dsimp only at d0 d1 d2 d3 hsl e0 e1 e2 e3 hsl2
      have g1 : (0 : Int) ≤ (j : Int) := by omega
      have g2 : (j : Int) < (bs.length : Int) := by omega
      clear hcells hcells2 hy
      have hu0 : ∀ u : After wr.heap.size wr, u.world.cell? ⟨rb, ro + j * 4, none⟩ = some (.int .i64 yx) := fun u => cell_low u.below d0
      have hu1 : ∀ u : After wr.heap.size wr, u.world.cell? ⟨rb, ro + j * 4 + 1, none⟩ = some (.int .i64 ys) := fun u => cell_low u.below d1
      have hu2 : ∀ u : After wr.heap.size wr, u.world.cell? ⟨rb, ro + j * 4 + 2, none⟩ = some (.int .i64 yv) := fun u => cell_low u.below d2
      have hu3 : ∀ u : After wr.heap.size wr, u.world.cell? ⟨rb, ro + j * 4 + 3, none⟩ = some (.slice ya (flen yk) yc) := fun u => cell_low u.below d3
      have hu4 : ∀ u : After wr.heap.size wr, u.world.cell? ⟨rb2, ro2 + j * 4, none⟩ = some (.int .i64 yx) := fun u => cell_low u.below e0
      have hu5 : ∀ u : After wr.heap.size wr, u.world.cell? ⟨rb2, ro2 + j * 4 + 1, none⟩ = some (.int .i64 ys) := fun u => cell_low u.below e1
      have hu6 : ∀ u : After wr.heap.size wr, u.world.cell? ⟨rb2, ro2 + j * 4 + 2, none⟩ = some (.int .i64 yv) := fun u => cell_low u.below e2
      have hu7 : ∀ u : After wr.heap.size wr, u.world.cell? ⟨rb2, ro2 + j * 4 + 3, none⟩ = some (.slice ya2 (flen yk) yc2) := fun u => cell_low u.below e3
      have HCALL : Hid (∀ u : After wr.heap.size wr, Calls Try.prog 89 #[.agg #[.int .i64 yx, .int .i64 ys, .int .i64 yv, .slice ya (flen yk) yc], .agg #[.int .i64 yx, .int .i64 ys, .int .i64 yv, .slice ya2 (flen yk) yc2]] u.world fun e w' => e = .returned (.bool true) ∧ Below u.world.heap.size u.world w') := fun u =>
        eqBind_same yx ys yv ya ya2 yc yc2 yk u.world ((hsl.below u.below).mono (Nat.le_refl _) u.below.size) ((hsl2.below u.below).mono (Nat.le_refl _) u.below.size) (by omega)
      clear hsl hsl2
      go_wp2_with fail
      refine wp_region_after wr.heap.size (by kernel_rfl) (by kernel_rfl) ?_
      repeat (go_big_quiet_step ((go_at_call 89; exact Calls.after (After.below ‹_›).size (HCALL.out _))))
      refine wpQuiet_nil ?_
      rintro u ⟨⟨_, hu⟩, rfl⟩
      have HW2 := Lib.hid (HW.out.trans (hu.mono hws))
      clear hu hu0 hu1 hu2 hu3 hu4 hu5 hu6 hu7 d0 d1 d2 d3 e0 e1 e2 e3
      go_wp2_with fail
      go_roundw
      case rel => exact ⟨j + 1, by go_num, by omega, HW2⟩
      case measure => simp [intOf]; omega
    · go_wp2_with fail
      go_ret
      exact ⟨rfl, HW.out⟩
end Go.Proofs.Ytoafleckcjanaaa

/-! XO0: Small lemmas of the exact laws. -/
namespace Go.Proofs.Ytoafleckcjanaaa
open Go.RowKit Go.Deep

theorem szR_fit {k : Fo} (h : 0 ≤ szR k 1048576) : fsz k ≤ 1048576 := by
  unfold szR at h
  split at h
  · omega
  · omega
theorem cell_lowX {W w2 : World} {q : Addr} {x : Value} (hb : Below W.heap.size W w2) (h : W.cell? q = some x) : w2.cell? q = some x := by
  rw [hb.cell (World.block_lt_of_cell? _ _ h)]; exact h
end Go.Proofs.Ytoafleckcjanaaa

/-! FrameO: What every row's closing text needs. -/
namespace Go.Proofs.Ytoafleckcjanaaa
theorem Try.own : ownKnob Try.prog.godebug = none := by kernel_rfl
theorem Try.laidOut : laidOutB Try.prog = true := by kernel_rfl
end Go.Proofs.Ytoafleckcjanaaa

/-! ReadB: A slice of binds that came in as an argument, as the walks take it. -/
namespace Go.Proofs.Ytoafleckcjanaaa
open Go.ChangeShapes Go.WideShapes Go.ChangeAt Go.RowKit Go.Deep Go.Joins

theorem Try.cellsBindL : Try.prog.cellsOf 127 = 4 := by kernel_rfl
theorem list_of_all {α : Type} {P : Nat → α → Prop} (n : Nat) (h : ∀ i, i < n → ∃ x, P i x) : ∃ xs : List α, xs.length = n ∧ ∀ (i : Nat) x, xs[i]? = some x → P i x := by
  induction n with
  | zero => exact ⟨[], rfl, fun i x hx => by simp at hx⟩
  | succ n ih =>
    obtain ⟨xs, hl, hall⟩ := ih fun i hi => h i (by omega)
    obtain ⟨y, hy⟩ := h n (by omega)
    refine ⟨xs ++ [y], by simp [hl], fun i x hx => ?_⟩
    by_cases hi : i < xs.length
    · rw [List.getElem?_append_left hi] at hx; exact hall i x hx
    · have : i = xs.length := by have := (List.getElem?_eq_some_iff.1 hx).1; simp at this; omega
      subst this
      simp at hx
      rw [← hx, hl]; exact hy

set_option maxRecDepth 100000 in
theorem read_bind {H : Type} {enc : TypeId × Value → H} {w : World} {sp : Nat → Bool} {hd : Bool} {fuel : Nat} {cs : List Value} {x : DataW H × List MemPlace} (h : DataW.trod enc Try.prog w 0 sp hd fuel 127 cs = some x) :
    ∃ b s v a c k, cs = [.int .i64 b, .int .i64 s, .int .i64 v, .slice a (flen k) c] ∧ Sl w 0 w.heap.size a k ∧ flen k ≤ maxLen ∧ fcap k := by
  obtain ⟨xs, n, rfl, _, hlen, hxl, hf⟩ := DataW.trod_struct Try.underlying127 h
  rw [Try.cellsBindL] at hlen
  match cs, hlen with
  | [c0, c1, c2, c3], _ =>
    have f0 : DataW.trod enc Try.prog w 0 sp hd n 3 (([c0, c1, c2, c3].drop 0).take (Try.prog.cellsOf 3)) = xs[0]? := hf 0 _ rfl
    have f1 : DataW.trod enc Try.prog w 0 sp hd n 25 (([c0, c1, c2, c3].drop 1).take (Try.prog.cellsOf 25)) = xs[1]? := hf 1 _ rfl
    simp only [Try.cellsInt, Try.cellsTerm, List.drop_zero, List.take_succ_cons, List.take_zero, List.drop_succ_cons] at f0 f1
    have hx0 : xs[0]? = some (xs[0]'(by rw [hxl]; decide)) := List.getElem?_eq_getElem _
    have hx1 : xs[1]? = some (xs[1]'(by rw [hxl]; decide)) := List.getElem?_eq_getElem _
    rw [hx0] at f0
    rw [hx1] at f1
    obtain ⟨b, e0, _, _⟩ := DataW.trod_int Try.underlying3 f0
    obtain ⟨s, v, a, c, k, e1, hs, hk1, hk2⟩ := read_term n _ _ f1
    simp only [List.cons.injEq, and_true] at e0 e1
    obtain ⟨rfl, rfl, rfl⟩ := e1
    subst e0
    exact ⟨b, s, v, a, c, k, rfl, hs, hk1, hk2⟩

set_option maxRecDepth 100000 in
/-- Out of the reading of an argument. -/
theorem binds_of_trod {H : Type} {enc : TypeId × Value → H} {w : World} {a : Option Addr} {len cap : Nat} {d : DataW H} {p : List MemPlace} (h : DataW.Trod enc Try.prog w 0 (fun _ => true) true 27 (.slice a len cap) d p) :
    ∃ bs : List Bd, len = bs.length ∧ BSl w 0 w.heap.size a bs ∧ bs.length ≤ maxLen ∧ ∀ x ∈ bs, flen x.2.2.2 ≤ maxLen ∧ fcap x.2.2.2 := by
  obtain ⟨fuel, hf⟩ := h
  rcases DataW.trod_slice Try.underlying27 hf with ⟨e2, _⟩ | ⟨a', len', cap', elems, rest, n', rfl, e2, _, _, hl, hcm, hel, hall, _⟩
  · simp [Value.cells] at e2
    obtain ⟨rfl, rfl, rfl⟩ := e2
    exact ⟨[], rfl, .inl rfl, Nat.zero_le _, fun x hx => by cases hx⟩
  · simp [Value.cells] at e2
    obtain ⟨rfl, rfl, rfl⟩ := e2
    obtain ⟨b, o, spot⟩ := a'
    rw [Try.cellsBindL] at hall
    by_cases hz : len = 0
    · subst hz
      exact ⟨[], rfl, .inl rfl, Nat.zero_le _, fun x hx => by cases hx⟩
    have key0 : ∀ i, i < len → ∃ x s v a c k, w.cell? (((⟨b, o, spot⟩ : Addr).add (i * 4)).add 0) = some (.int .i64 x) ∧ w.cell? (((⟨b, o, spot⟩ : Addr).add (i * 4)).add 1) = some (.int .i64 s) ∧ w.cell? (((⟨b, o, spot⟩ : Addr).add (i * 4)).add 2) = some (.int .i64 v) ∧ w.cell? (((⟨b, o, spot⟩ : Addr).add (i * 4)).add 3) = some (.slice a (flen k) c) ∧ Sl w 0 w.heap.size a k ∧ flen k ≤ maxLen ∧ fcap k := by
      intro i hi
      have h1 := hall i hi
      have h2 : elems[i]? = some (elems[i]'(by omega)) := List.getElem?_eq_getElem _
      rw [h2] at h1
      obtain ⟨cs', hc, ht⟩ := Option.bind_eq_some_iff.1 h1
      obtain ⟨x, s', v', a', c', k', rfl, hs, hk1, hk2⟩ := read_bind ht
      obtain ⟨_, _, hat⟩ := World.cells?_some hc
      have g0 := hat 0 (by omega)
      have g1 := hat 1 (by omega)
      have g2 := hat 2 (by omega)
      have g3 := hat 3 (by omega)
      exact ⟨x, s', v', a', c', k', by simpa using g0, by simpa using g1, by simpa using g2, by simpa using g3, hs, hk1, hk2⟩
    have hsp : spot = none := by
      obtain ⟨x, s, v, a, c, k, g0, _⟩ := key0 0 (by omega)
      simpa [Addr.add] using World.cell?_spot g0
    subst hsp
    obtain ⟨bs, hbl, hbs⟩ := list_of_all (P := fun i (y : Bd) => ∃ a c, w.cell? ⟨b, o + i * 4, none⟩ = some (.int .i64 y.1) ∧ w.cell? ⟨b, o + i * 4 + 1, none⟩ = some (.int .i64 y.2.1) ∧ w.cell? ⟨b, o + i * 4 + 1 + 1, none⟩ = some (.int .i64 y.2.2.1) ∧ w.cell? ⟨b, o + i * 4 + 1 + 2, none⟩ = some (.slice a (flen y.2.2.2) c) ∧ Sl w 0 w.heap.size a y.2.2.2 ∧ flen y.2.2.2 ≤ maxLen ∧ fcap y.2.2.2) len fun i hi => by
      obtain ⟨x, s, v, a, c, k, g0, g1, g2, g3, hs, hk1, hk2⟩ := key0 i hi
      rw [add_none, add_none] at g0 g1 g2 g3
      exact ⟨(x, s, v, k), a, c, by simpa using g0, g1, g2, g3, hs, hk1, hk2⟩
    refine ⟨bs, hbl.symm, .inr ⟨b, o, rfl, Nat.zero_le _, ?_, fun i x hx => ?_⟩, by rw [hbl]; omega, fun x hx => ?_⟩
    · obtain ⟨x, s, v, a, c, k, g0, _⟩ := key0 0 (by omega)
      rw [add_none, add_none] at g0
      exact World.block_lt_of_cell? _ _ g0
    · obtain ⟨a, c, g0, g1, g2, g3, hs, _, _⟩ := hbs i x hx
      exact ⟨a, c, g0, g1, g2, g3, hs⟩
    · obtain ⟨i, hi⟩ := List.mem_iff_getElem?.1 hx
      obtain ⟨_, _, _, _, _, _, _, hk1, hk2⟩ := hbs i x hi
      exact ⟨hk1, hk2⟩
end Go.Proofs.Ytoafleckcjanaaa

/-! XS1: Slices of binds in the exact laws: their size, copies of them, marks. -/
namespace Go.Proofs.Ytoafleckcjanaaa
open Go.RowKit Go.Deep

/-- How many terms lie in a row of binds. -/
def szT : List Bd → Nat
  | [] => 0
  | x :: r => fsz x.2.2.2 + szT r
/-- What is left of a size behind a row of binds. -/
def szB (bs : List Bd) (l : Int) : Int := if (szT bs : Int) ≤ l then l - szT bs else -1
def szBR (bs : List Bd) (left : Int) : Int := if (bs.length : Int) + szT bs ≤ left then left - (bs.length + szT bs) else -1
theorem szBR_start (bs : List Bd) (left : Int) : szBR bs left = szB bs (left - bs.length) := by
  unfold szBR szB
  by_cases h : (bs.length : Int) + szT bs ≤ left
  · rw [if_pos h, if_pos (by omega)]; omega
  · rw [if_neg h, if_neg (by omega)]
theorem szBR_over {bs : List Bd} {left : Int} (h : left < bs.length) : szBR bs left = -1 := by unfold szBR; rw [if_neg (by omega)]
theorem szBR_case (bs : List Bd) (left : Int) : szBR bs left = -1 ∨ 0 ≤ szBR bs left := by unfold szBR; split <;> omega
theorem szBR_fit {bs : List Bd} {left : Int} (h : 0 ≤ szBR bs left) (hl : left ≤ 1048576) : bs.length + szT bs ≤ 1048576 ∧ szBR bs left ≤ 1048576 := by
  unfold szBR at *
  split at h
  · rename_i hc; rw [if_pos hc]; omega
  · omega
theorem szT_mem : ∀ {bs : List Bd} {x : Bd}, x ∈ bs → fsz x.2.2.2 ≤ szT bs
  | [], _, h => by cases h
  | y :: r, x, h => by
    simp only [szT]
    rcases List.mem_cons.1 h with rfl | h
    · omega
    · have := szT_mem h; omega
theorem mcn_szT : ∀ bs : List Bd, mcn bs = 3 * (bs.length : Int) + 2 * (szT bs : Int)
  | [] => by simp [mcn, szT]
  | x :: r => by simp only [mcn, szT, List.length_cons, mcn_szT r]; push_cast; omega
theorem szT_cons (x : Bd) (r : List Bd) : (szT (x :: r) : Int) = (fsz x.2.2.2 : Int) + (szT r : Int) := by simp [szT]
theorem szB_cons {x : Bd} {r : List Bd} {l : Int} (_h : (fsz x.2.2.2 : Int) ≤ l) : szB (x :: r) l = szB r (l - fsz x.2.2.2) := by
  have e := szT_cons x r
  unfold szB
  by_cases h2 : (szT (x :: r) : Int) ≤ l
  · rw [if_pos h2, if_pos (by omega)]; omega
  · rw [if_neg h2, if_neg (by omega)]
theorem szB_over {x : Bd} {r : List Bd} {l : Int} (h : ¬ (fsz x.2.2.2 : Int) ≤ l) : szB (x :: r) l = -1 := by
  have e := szT_cons x r
  unfold szB
  rw [if_neg (by omega)]
theorem drop_bdX {bs : List Bd} {j : Nat} {x : Bd} (h : bs[j]? = some x) : bs.drop j = x :: bs.drop (j + 1) := by
  obtain ⟨hj, rfl⟩ := List.getElem?_eq_some_iff.1 h
  exact List.drop_eq_getElem_cons hj

set_option maxRecDepth 100000 in
theorem szBind_any (x s v : Int) (a : Option Addr) (c : Nat) (k : Fo) (left : Int) (w : World) (hl : Sl w 0 w.heap.size a k) (hc : fcap k) (hm : flen k ≤ maxLen) (h0 : 0 ≤ left) (h1 : left ≤ 1048576) :
    Calls Try.prog 84 #[.agg #[.int .i64 x, .int .i64 s, .int .i64 v, .slice a (flen k) c], .int .i64 left] w fun e w' => e = .returned (.int .i64 (szR k left)) ∧ Below w.heap.size w w' := by
  have hb0 : Below w.heap.size w (w.alloc (.cells #[.int .i64 x, .int .i64 s, .int .i64 v, .slice a (flen k) c] 127)) := (Below.refl _ _).alloc (Nat.le_refl _) _
  have HB0 := Lib.hid hb0
  have HL := Lib.hid ((hl.below hb0).mono (Nat.le_refl _) hb0.size)
  have HC := Lib.hid hc
  have HM := Lib.hid hm
  clear hb0 hl hc hm
  rcases szR_case k left with hz | hz
  · have HZ := Lib.hid hz
    clear hz
    go_enter Try.func84, Try.ntmps84
    go_wp2_with fail
    with_reducible refine (szTerm_any HL.out HC.out HM.out h0 h1).mono ?_
    rintro e w1 ⟨rfl, hb⟩
    have HB1 := Lib.hid (HB0.out.trans (hb.mono HB0.out.size))
    rw [HZ.out]
    clear hb
    go_wp2_with fail
    go_ret
    exact ⟨by rw [HZ.out]; rfl, HB1.out⟩
  · go_enter Try.func84, Try.ntmps84
    go_wp2_with fail
    with_reducible refine (szTerm_any HL.out HC.out HM.out h0 h1).mono ?_
    rintro e w1 ⟨rfl, hb⟩
    have HB1 := Lib.hid (HB0.out.trans (hb.mono HB0.out.size))
    obtain ⟨z, hzz⟩ : ∃ z, szR k left = z := ⟨_, rfl⟩
    rw [hzz]
    rw [hzz] at hz
    have HZZ := Lib.hid hzz
    clear hb hzz
    go_wp2_with fail
    go_ret
    exact ⟨by rw [HZZ.out]; rfl, HB1.out⟩

set_option maxRecDepth 100000 in
set_option maxHeartbeats 1000000 in
theorem szBindS_any (bs : List Bd) (A : Option Addr) (C : Nat) (left : Int) (w : World) (h : BSl w 0 w.heap.size A bs) (hml : bs.length ≤ maxLen) (hall : ∀ x ∈ bs, flen x.2.2.2 ≤ maxLen ∧ fcap x.2.2.2) (h0 : 0 ≤ left) (h1 : left ≤ 1048576) :
    Calls Try.prog 44 #[.slice A bs.length C, .int .i64 left] w fun e w' => e = .returned (.int .i64 (szBR bs left)) ∧ Below w.heap.size w w' := by
  by_cases hbig : 1048576 < bs.length
  · have hneg := sub_neg h0 h1 hbig hml
    have HE : Hid (szBR bs left = -1) := szBR_over (by omega)
    clear hml
    go_enter Try.func44, Try.ntmps44
    go_wp2_with fail
    go_ret
    exact ⟨by rw [HE.out]; rfl, Below.refl _ _⟩
  clear hml
  by_cases hov : left < bs.length
  · have HE : Hid (szBR bs left = -1) := szBR_over hov
    go_enter Try.func44, Try.ntmps44
    go_wp2_with fail
    go_ret
    exact ⟨by rw [HE.out]; rfl, Below.refl _ _⟩
  have HST : Hid (szBR bs left = szB (bs.drop 0) (left - bs.length)) := by rw [Hid, List.drop_zero]; exact szBR_start bs left
  have HA := Lib.hid hall
  have HB := Lib.hid h
  clear hall h
  go_enter Try.func44, Try.ntmps44
  go_wp2_with fail
  go_loopw [1, 5] (fun t i wr => ∃ (j : Nat) (l : Int), j ≤ bs.length ∧ i = .int .i64 j ∧ t = .int .i64 l ∧ 0 ≤ l ∧ l ≤ 1048576 ∧ Hid (szBR bs left = szB (bs.drop j) l) ∧ Hid (Below w.heap.size w wr)) (fun _ i _ => bs.length - (intOf i).toNat)
  case atStart => exact ⟨0, left - bs.length, by omega, rfl, rfl, by omega, by omega, HST, Below.refl _ _⟩
  case round =>
    clear HST
    obtain ⟨j, l, hj, rfl, rfl, hl0, hl1, HSZ, HBL⟩ := hrel
    have hbs := HBL.out.size
    by_cases hlt : j < bs.length
    · obtain ⟨y, hy⟩ : ∃ y, bs[j]? = some y := ⟨bs[j], List.getElem?_eq_getElem hlt⟩
      obtain ⟨x, s, v, k⟩ := y
      have hbr := (HB.out.below HBL.out).mono (Nat.le_refl _) hbs
      rcases hbr with hbr | ⟨rb, ro, rfl, _, hbB, hcells⟩
      · subst hbr; simp at hy
      obtain ⟨a, c, d0, d1, d2, d3, hsl⟩ := hcells j _ hy
      dsimp only at d0 d1 d2 d3 hsl
      have d2' : wr.cell? ⟨rb, ro + j * 4 + 2, none⟩ = some (.int .i64 v) := d2
      have d3' : wr.cell? ⟨rb, ro + j * 4 + 3, none⟩ = some (.slice a (flen k) c) := d3
      have HX := Lib.hid (HA.out _ (List.mem_of_getElem? hy))
      have HD := Lib.hid (drop_bdX hy)
      have HS := Lib.hid hsl
      have g1 : (0 : Int) ≤ (j : Int) := by omega
      have g2 : (j : Int) < (bs.length : Int) := by omega
      clear hcells hy hsl d2 d3
      go_wp2_with fail
      with_reducible refine (szBind_any x s v a c k l _ HS.out HX.out.2 HX.out.1 hl0 hl1).mono ?_
      rintro e w2 ⟨rfl, hb2⟩
      have HB2 := Lib.hid (HBL.out.trans (hb2.mono hbs))
      clear hb2 d0 d1 d2' d3'
      by_cases hok : (fsz k : Int) ≤ l
      · have he : szR k l = l - fsz k := by unfold szR; rw [if_pos hok]
        rw [he]
        clear he
        have HSZ2 : Hid (szBR bs left = szB (bs.drop (j + 1)) (l - fsz k)) := by rw [Hid, HSZ.out, HD.out]; exact szB_cons hok
        go_wp2_with fail
        go_roundw
        case rel => exact ⟨j + 1, _, by omega, by go_num, rfl, by omega, by omega, HSZ2, HB2⟩
        case measure => simp [intOf]; omega
      · have he : szR k l = -1 := by unfold szR; rw [if_neg hok]
        rw [he]
        clear he
        have HSZ2 : Hid (szBR bs left = -1) := by rw [Hid, HSZ.out, HD.out]; exact szB_over hok
        go_wp2_with fail
        go_ret
        exact ⟨by rw [HSZ2.out]; rfl, HB2.out⟩
    · have HE : Hid (szBR bs left = l) := by
        rw [Hid, HSZ.out, List.drop_eq_nil_of_le (by omega)]
        unfold szB szT; rw [if_pos (by simpa using hl0)]; simp
      clear HSZ
      go_wp2_with fail
      go_ret
      exact ⟨by rw [HE.out]; rfl, HBL.out⟩
end Go.Proofs.Ytoafleckcjanaaa
