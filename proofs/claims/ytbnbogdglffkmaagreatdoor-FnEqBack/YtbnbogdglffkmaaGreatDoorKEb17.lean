/- Several texts in one: S7, XB1, XO0, FrameO, ReadB, XS1, XS2, XE1, T1b. -/
import Derived.Test.YtbnbogdglffkmaaGreatDoorKEb4
import Derived.Test.YtbnbogdglffkmaaGreatDoorKEb16
import Derived.Deep.AppendLies
import Derived.Test.YtbnbogdglffkmaaGreatDoorKEb12
import Derived.Test.YtbnbogdglffkmaaGreatDoorKEb8
import Derived.Test.YtbnbogdglffkmaaGreatDoorKEb2
import Derived.Test.YtbnbogdglffkmaaGreatDoorKEb3
import Derived.Test.YtbnbogdglffkmaaGreatDoorRows
import Derived.WalkKit
import Derived.ProofKit
import Derived.OpenShut
import Derived.ShutString
import Derived.ChangeOld
import Derived.Below
import Derived.Test.YtbnbogdglffkmaaGreatDoorKEb11
import Derived.Test.YtbnbogdglffkmaaGreatDoorKEb15
import Derived.Test.YtbnbogdglffkmaaGreatDoorKEb10

/-! S7: l71Subst. -/
namespace Go.Proofs.YtbnbogdglffkmaaGreatDoor
open Go.RowKit Go.Deep

/-- The slice is a row of binds of the call's own; no term lies in the row's own block. -/
def BOwn (w : World) (base : Nat) (bs : List Bd) (A : Option Addr) (C : Nat) : Prop :=
  ∃ xs, w.ownsRow base 176 4 (.slice A bs.length C) bs.length xs ∧ ∀ (i : Nat) (x : Bd), bs[i]? = some x → ∃ a' c' L H, xs[i * 4]? = some (.int .i64 x.1) ∧ xs[i * 4 + 1]? = some (.int .i64 x.2.1) ∧ xs[i * 4 + 2]? = some (.int .i64 x.2.2.1) ∧ xs[i * 4 + 3]? = some (.slice a' (flen x.2.2.2) c') ∧
    Sl w L H a' x.2.2.2 ∧ base ≤ L ∧ H ≤ w.heap.size ∧ ∀ g, (Value.slice A bs.length C).ownBlock = some g → g < L ∨ H ≤ g
theorem BOwn.adv {w w2 : World} {base br p : Nat} {bs : List Bd} {A : Option Addr} {C : Nat} (h : BOwn w base bs A C) (ha : Adv w br p w2) (hb : br < base) : BOwn w2 base bs A C := by
  obtain ⟨xs, hown, hall⟩ := h
  have hs := ha.size
  refine ⟨xs, own_block hown fun g hg => ?_, fun i x hx => ?_⟩
  · have h1 := hown.lt g hg
    exact ha.same (lo := g) (B := g + 1) (by omega) (by omega) g (Nat.le_refl _) (by omega)
  · obtain ⟨a', c', L, H, c0, c1, c2, c3, hl, h1, h2, h3⟩ := hall i x hx
    exact ⟨a', c', L, H, c0, c1, c2, c3, hl.same (ha.same h2 (.inl (by omega))), h1, by omega, h3⟩
theorem BOwn.bsl {w : World} {base : Nat} {bs : List Bd} {A : Option Addr} {C : Nat} (h : BOwn w base bs A C) : BSl w base w.heap.size A bs := by
  obtain ⟨xs, hown, hall⟩ := h
  rcases Nat.eq_zero_or_pos bs.length with h0 | h0
  · exact .inl (List.eq_nil_of_length_eq_zero h0)
  · obtain ⟨g, cap, hv, hb, hlt⟩ := hown.form h0
    have hA : A = some ⟨g, 0, none⟩ := by simp only [Value.slice.injEq] at hv; exact hv.1
    subst hA
    refine .inr ⟨g, 0, rfl, hb, hlt, fun i x hx => ?_⟩
    have hi := (List.getElem?_eq_some_iff.1 hx).1
    obtain ⟨a', c', L, H, c0, c1, c2, c3, hl, h1, h2, h3⟩ := hall i x hx
    refine ⟨a', c', ?_, ?_, ?_, ?_, hl.mono h1 h2⟩
    · rw [Nat.zero_add, hown.cellAt _ (by omega)]; exact c0
    · rw [Nat.zero_add, hown.cellAt _ (by omega)]; exact c1
    · rw [Nat.zero_add, hown.cellAt _ (by omega)]; exact c2
    · rw [Nat.zero_add, hown.cellAt _ (by omega)]; exact c3
/-- One more bind. w: where the row stood; w2: where the new term lies too; blk: the block that shows it to append. -/
theorem BOwn.append {w0 w w2 w3 : World} {base br p : Nat} {bs : List Bd} {A : Option Addr} {C g cap : Nat} {blk : Obj} {x s v : Int} {k : Fo} {a2 : Option Addr} {c2 : Nat} {xs : List Value} (hown : w.ownsRow base 176 4 (.slice A bs.length C) bs.length xs)
    (hall : ∀ (i : Nat) (x : Bd), bs[i]? = some x → ∃ a' c' L H, xs[i * 4]? = some (.int .i64 x.1) ∧ xs[i * 4 + 1]? = some (.int .i64 x.2.1) ∧ xs[i * 4 + 2]? = some (.int .i64 x.2.2.1) ∧ xs[i * 4 + 3]? = some (.slice a' (flen x.2.2.2) c') ∧
      Sl w L H a' x.2.2.2 ∧ base ≤ L ∧ H ≤ w.heap.size ∧ ∀ g, (Value.slice A bs.length C).ownBlock = some g → g < L ∨ H ≤ g)
    (hown3 : w3.ownsRow base 176 4 (.slice (some ⟨g, 0, none⟩) (bs.length + 1) cap) (bs.length + 1) (xs ++ [.int .i64 x, .int .i64 s, .int .i64 v, .slice a2 (flen k) c2])) (ha : Adv w br p w2) (hbr : br < base) (hl2 : Sl w2 w.heap.size w2.heap.size a2 k) (hbase : base ≤ w.heap.size)
    (hgrow : (w2.alloc blk).grownBy w3 (Value.slice A bs.length C).ownBlock) (hatg : (Value.slice A bs.length C).ownBlock = some g ∨ g = w2.heap.size + 1) (ha0 : Adv w0 br p w2) (hw0 : w0.heap.size ≤ base) : BOwn w3 base (bs ++ [(x, s, v, k)]) (some ⟨g, 0, none⟩) cap ∧ Adv w0 br p w3 := by
  have hs2 := ha.size
  have hs3 := hgrow.size
  simp at hs3
  have hxl : xs.length = bs.length * 4 := hown.1
  have hl : (bs ++ [(x, s, v, k)]).length = bs.length + 1 := by simp
  refine ⟨⟨xs ++ [.int .i64 x, .int .i64 s, .int .i64 v, .slice a2 (flen k) c2], by rw [hl]; exact hown3, fun i y hy => ?_⟩, Below.grown (ha0.alloc blk) hgrow (by have := ha0.size; simp; omega) (fun q hq => by have := (hown.lt q hq).1; omega)⟩
  rw [hl]
  by_cases hi : i < bs.length
  · rw [List.getElem?_append_left hi] at hy
    obtain ⟨a', c', L, H, c0, c1, c2', c3, hsl, h1, h2, h3⟩ := hall i y hy
    refine ⟨a', c', L, H, by rw [List.getElem?_append_left (by omega)]; exact c0, by rw [List.getElem?_append_left (by omega)]; exact c1, by rw [List.getElem?_append_left (by omega)]; exact c2', by rw [List.getElem?_append_left (by omega)]; exact c3, hsl.same (fun b hb1 hb2 => ?_), h1, by omega, fun g' hg' => ?_⟩
    · rw [hgrow.block b (by simp; omega) (fun e => by have := h3 b e.symm; omega), Below.heap_alloc _ _ _ (by omega)]
      exact ha.same h2 (.inl (by omega)) b hb1 hb2
    · have : g' = g := by simpa [Value.ownBlock] using hg'.symm
      subst this
      rcases hatg with hg1 | hg1
      · exact h3 _ hg1
      · omega
  · have hi' : i = bs.length := by have := (List.getElem?_eq_some_iff.1 hy).1; omega
    subst hi'
    simp at hy
    subst hy
    refine ⟨a2, c2, w.heap.size, w2.heap.size, ?_, ?_, ?_, ?_, hl2.same (fun b hb1 hb2 => ?_), hbase, by omega, fun g' hg' => ?_⟩
    · rw [List.getElem?_append_right (by omega), hxl]; simp
    · rw [List.getElem?_append_right (by omega), hxl, show bs.length * 4 + 1 - bs.length * 4 = 1 from by omega]; rfl
    · rw [List.getElem?_append_right (by omega), hxl, show bs.length * 4 + 2 - bs.length * 4 = 2 from by omega]; rfl
    · rw [List.getElem?_append_right (by omega), hxl, show bs.length * 4 + 3 - bs.length * 4 = 3 from by omega]; rfl
    · rw [hgrow.block b (by simp; omega) (fun e => by have := (hown.lt b e.symm).2; omega), Below.heap_alloc _ _ _ (by omega)]
    · have : g' = g := by simpa [Value.ownBlock] using hg'.symm
      subst this
      rcases hatg with hg1 | hg1
      · exact .inl (hown.lt _ hg1).2
      · exact .inr (by omega)

theorem Tryz.infoBind : ∃ i, Tryz.prog.info? 176 = some i ∧ i.zero = some (.agg #[.int .i64 0, .int .i64 0, .int .i64 0, .slice none 0 0]) ∧ i.size = 4 ∧ i.bytes = 48 := by
  have h : (Tryz.prog.info? 176).map (fun i => (i.zero, i.size, i.bytes)) = some (some (.agg #[.int .i64 0, .int .i64 0, .int .i64 0, .slice none 0 0]), 4, 48) := by kernel_rfl
  obtain ⟨i, hi, hz⟩ := Option.map_eq_some_iff.1 h
  simp only [Prod.mk.injEq] at hz
  exact ⟨i, hi, hz.1, hz.2.1, hz.2.2⟩
/-- The first bind's term is another one. -/
theorem BOwn.set0 {w w2 : World} {base br p : Nat} {x s v s' v' : Int} {k k' : Fo} {r : List Bd} {g C : Nat} {a2 : Option Addr} {c2 : Nat} (h : BOwn w base ((x, s, v, k) :: r) (some ⟨g, 0, none⟩) C) (ha : Adv w br p w2) (hbr : br < base) (hl : Sl w2 w.heap.size w2.heap.size a2 k') :
    BOwn (((w2.setCell ⟨g, 1, none⟩ (.int .i64 s')).setCell ⟨g, 2, none⟩ (.int .i64 v')).setCell ⟨g, 3, none⟩ (.slice a2 (flen k') c2)) base ((x, s', v', k') :: r) (some ⟨g, 0, none⟩) C := by
  obtain ⟨xs, hown, hall⟩ := h.adv ha hbr
  obtain ⟨xs0, hown0, _⟩ := h
  have hs := ha.size
  have hgl := hown0.lt g rfl
  have h1 := (hown.stored 1 (.int .i64 s')).1
  have h2 := (h1.stored 2 (.int .i64 v')).1
  have h3 := (h2.stored 3 (.slice a2 (flen k') c2)).1
  have hxl : xs.length = (r.length + 1) * 4 := by have := hown.1; simpa using this
  have hS : ∀ {L H : Nat} {a : Option Addr} {kk : Fo}, Sl w2 L H a kk → (g < L ∨ H ≤ g) → Sl (((w2.setCell ⟨g, 1, none⟩ (.int .i64 s')).setCell ⟨g, 2, none⟩ (.int .i64 v')).setCell ⟨g, 3, none⟩ (.slice a2 (flen k') c2)) L H a kk := fun {L H a kk} hsl hg => by
    have h0 : Same L H w2 w2 := fun _ _ _ => rfl
    exact hsl.same (((h0.setCell hg _).setCell hg _).setCell hg _)
  refine ⟨_, h3, fun i y hy => ?_⟩
  cases i with
  | zero =>
    simp at hy
    subst hy
    refine ⟨a2, c2, w.heap.size, w2.heap.size, ?_, ?_, ?_, ?_, hS hl (.inl hgl.2), Nat.le_of_lt (Nat.lt_of_le_of_lt hgl.1 hgl.2), by simp, fun q hq => ?_⟩
    · obtain ⟨_, _, _, _, c0, _⟩ := hall 0 (x, s, v, k) rfl
      rw [List.getElem?_set_ne (by omega), List.getElem?_set_ne (by omega), List.getElem?_set_ne (by omega)]; exact c0
    · rw [List.getElem?_set_ne (by omega), List.getElem?_set_ne (by omega)]; exact List.getElem?_set_self (by omega)
    · rw [List.getElem?_set_ne (by omega)]; exact List.getElem?_set_self (by simp; omega)
    · exact List.getElem?_set_self (by simp; omega)
    · have : q = g := by simpa [Value.ownBlock] using hq.symm
      omega
  | succ n =>
    obtain ⟨a', c', L, H, c0, c1, c2', c3, hsl, e1, e2, e3⟩ := hall (n + 1) y (by simpa using hy)
    refine ⟨a', c', L, H, ?_, ?_, ?_, ?_, hS hsl (e3 g rfl), e1, by simpa using e2, e3⟩
    · rw [List.getElem?_set_ne (by omega), List.getElem?_set_ne (by omega), List.getElem?_set_ne (by omega)]; exact c0
    · rw [List.getElem?_set_ne (by omega), List.getElem?_set_ne (by omega), List.getElem?_set_ne (by omega)]; exact c1
    · rw [List.getElem?_set_ne (by omega), List.getElem?_set_ne (by omega), List.getElem?_set_ne (by omega)]; exact c2'
    · rw [List.getElem?_set_ne (by omega), List.getElem?_set_ne (by omega), List.getElem?_set_ne (by omega)]; exact c3
end Go.Proofs.YtbnbogdglffkmaaGreatDoor

/-! XB1: - Rows of binds of one's own, their terms trees of one's own; eqBindS, markBindS, heldBindS. -/
namespace Go.Proofs.YtbnbogdglffkmaaGreatDoor
open Go.RowKit Go.Deep

/-- How many numbers a row of binds holds. -/
def mcn : List Bd → Int
  | [] => 0
  | x :: r => 3 + 2 * (fsz x.2.2.2 : Int) + mcn r
theorem mcn_app : ∀ (xs ys : List Bd), mcn (xs ++ ys) = mcn xs + mcn ys
  | [], _ => by simp [mcn]
  | x :: r, ys => by simp only [List.cons_append, mcn, mcn_app r ys]; omega
theorem mcn_take {bs : List Bd} {j : Nat} {x : Bd} (h : bs[j]? = some x) : mcn (bs.take (j + 1)) = mcn (bs.take j) + (3 + 2 * (fsz x.2.2.2 : Int)) := by
  rw [List.take_add_one, h, mcn_app]; simp [mcn]
theorem mcn_pos : ∀ bs : List Bd, 0 ≤ mcn bs
  | [] => by simp [mcn]
  | x :: r => by have := mcn_pos r; simp only [mcn]; omega
theorem mcn_le {bs : List Bd} (j : Nat) : mcn (bs.take j) ≤ mcn bs := by
  have h := mcn_app (bs.take j) (bs.drop j)
  rw [List.take_append_drop] at h
  have := mcn_pos (bs.drop j)
  omega

/-- The bind at i, its cells, its term's tree. -/
def BCell (w : World) (g : Nat) (Ls Hs : Nat → Nat) (i : Nat) (x : Bd) : Prop :=
  ∃ a c, w.cell? ⟨g, i * 4, none⟩ = some (.int .i64 x.1) ∧ w.cell? ⟨g, i * 4 + 1, none⟩ = some (.int .i64 x.2.1) ∧ w.cell? ⟨g, i * 4 + 2, none⟩ = some (.int .i64 x.2.2.1) ∧ w.cell? ⟨g, i * 4 + 3, none⟩ = some (.slice a (flen x.2.2.2) c) ∧ TX w (Ls i) (Hs i) a x.2.2.2
/-- Where the trees lie: apart from one another and from the row. -/
structure RngX (base top g : Nat) (bs : List Bd) (Ls Hs : Nat → Nat) : Prop where
  gb : base ≤ g
  gt : g < top
  lo : ∀ i, i < bs.length → base ≤ Ls i
  le : ∀ i, i < bs.length → Ls i ≤ Hs i
  hi : ∀ i, i < bs.length → Hs i ≤ top
  off : ∀ i, i < bs.length → g < Ls i ∨ Hs i ≤ g
  ord : ∀ i j, i < j → j < bs.length → Hs i ≤ Ls j
/-- A row of binds of one's own. -/
def BX (w : World) (base top : Nat) (bs : List Bd) (A : Option Addr) : Prop :=
  bs = [] ∨ ∃ g Ls Hs, A = some ⟨g, 0, none⟩ ∧ RngX base top g bs Ls Hs ∧ (∀ o, w.frozen? ⟨g, o, none⟩ = false) ∧ ∀ i x, bs[i]? = some x → BCell w g Ls Hs i x
theorem BX.same {w w' : World} {base top : Nat} {bs : List Bd} {A : Option Addr} (h : BX w base top bs A) (hs : Same base top w w') : BX w' base top bs A := by
  rcases h with h | ⟨g, Ls, Hs, e, hr, hf, hc⟩
  · exact .inl h
  · refine .inr ⟨g, Ls, Hs, e, hr, fun o => by rw [frozen_same (hs g hr.gb hr.gt)]; exact hf o, fun i x hx => ?_⟩
    have hi := (List.getElem?_eq_some_iff.1 hx).1
    obtain ⟨a, c, c0, c1, c2, c3, ht⟩ := hc i x hx
    exact ⟨a, c, by rw [hs.cell hr.gb hr.gt]; exact c0, by rw [hs.cell hr.gb hr.gt]; exact c1, by rw [hs.cell hr.gb hr.gt]; exact c2, by rw [hs.cell hr.gb hr.gt]; exact c3, ht.same (hs.mono (hr.lo i hi) (hr.hi i hi))⟩
theorem BX.mono {w : World} {base base' top top' : Nat} {bs : List Bd} {A : Option Addr} (h : BX w base top bs A) (h1 : base' ≤ base) (h2 : top ≤ top') : BX w base' top' bs A := by
  rcases h with h | ⟨g, Ls, Hs, e, hr, hf, hc⟩
  · exact .inl h
  · exact .inr ⟨g, Ls, Hs, e, ⟨by have := hr.gb; omega, by have := hr.gt; omega, fun i hi => by have := hr.lo i hi; omega, hr.le, fun i hi => by have := hr.hi i hi; omega, hr.off, hr.ord⟩, hf, hc⟩
theorem BX.bsl {w : World} {base top : Nat} {bs : List Bd} {A : Option Addr} (h : BX w base top bs A) : BSl w base top A bs := by
  rcases h with h | ⟨g, Ls, Hs, e, hr, hf, hc⟩
  · exact .inl h
  · refine .inr ⟨g, 0, e, hr.gb, hr.gt, fun i x hx => ?_⟩
    have hi := (List.getElem?_eq_some_iff.1 hx).1
    obtain ⟨a, c, c0, c1, c2, c3, ht⟩ := hc i x hx
    exact ⟨a, c, by rw [Nat.zero_add]; exact c0, by rw [Nat.zero_add]; exact c1, by rw [Nat.zero_add]; exact c2, by rw [Nat.zero_add]; exact c3, ht.1.mono (hr.lo i hi) (hr.hi i hi)⟩

/-- The bind at i holds the numbers from m on. -/
def HCell (w : World) (g : Nat) (Ls Hs : Nat → Nat) (i : Nat) (x : Bd) (m : Int) : Prop :=
  ∃ a c, w.cell? ⟨g, i * 4, none⟩ = some (.int .i64 m) ∧ w.cell? ⟨g, i * 4 + 1, none⟩ = some (.int .i64 (m + 1)) ∧ w.cell? ⟨g, i * 4 + 2, none⟩ = some (.int .i64 (m + 1 + 1)) ∧ w.cell? ⟨g, i * 4 + 3, none⟩ = some (.slice a (flen x.2.2.2) c) ∧ HdS w (Ls i) (Hs i) a x.2.2.2 (m + 1 + 1 + 1)
/-- A row of binds that holds the numbers from m on. -/
def BH (w : World) (base top : Nat) (bs : List Bd) (A : Option Addr) (m : Int) : Prop :=
  bs = [] ∨ ∃ g Ls Hs, A = some ⟨g, 0, none⟩ ∧ RngX base top g bs Ls Hs ∧ ∀ i x, bs[i]? = some x → HCell w g Ls Hs i x (m + mcn (bs.take i))
theorem HCell.same {w w' : World} {base top g : Nat} {bs : List Bd} {Ls Hs : Nat → Nat} {i : Nat} {x : Bd} {m : Int} (h : HCell w g Ls Hs i x m) (hr : RngX base top g bs Ls Hs) (hi : i < bs.length) (hs : Same base top w w') : HCell w' g Ls Hs i x m := by
  obtain ⟨a, c, c0, c1, c2, c3, ht⟩ := h
  exact ⟨a, c, by rw [hs.cell hr.gb hr.gt]; exact c0, by rw [hs.cell hr.gb hr.gt]; exact c1, by rw [hs.cell hr.gb hr.gt]; exact c2, by rw [hs.cell hr.gb hr.gt]; exact c3, ht.same (hs.mono (hr.lo i hi) (hr.hi i hi))⟩
theorem BH.same {w w' : World} {base top : Nat} {bs : List Bd} {A : Option Addr} {m : Int} (h : BH w base top bs A m) (hs : Same base top w w') : BH w' base top bs A m := by
  rcases h with h | ⟨g, Ls, Hs, e, hr, hc⟩
  · exact .inl h
  · exact .inr ⟨g, Ls, Hs, e, hr, fun i x hx => (hc i x hx).same hr (List.getElem?_eq_some_iff.1 hx).1 hs⟩

/-- In the midst of the marking: j binds are marked. -/
structure MbAt (w : World) (base top g : Nat) (bs : List Bd) (Ls Hs : Nat → Nat) (m : Int) (j : Nat) (wr : World) : Prop where
  low : Below base w wr
  far : ∀ b, top ≤ b → b < w.heap.size → wr.heap[b]? = w.heap[b]?
  fr : ∀ o, wr.frozen? ⟨g, o, none⟩ = false
  hd : ∀ i x, i < j → bs[i]? = some x → HCell wr g Ls Hs i x (m + mcn (bs.take i))
  tl : ∀ i x, j ≤ i → bs[i]? = some x → BCell wr g Ls Hs i x
theorem ne_offB {b i j : Nat} (h : i ≠ j) : (⟨b, i, none⟩ : Addr) ≠ ⟨b, j, none⟩ := fun e => h (congrArg Addr.off e)
theorem MbAt.step {w wr w2 : World} {base top g : Nat} {bs : List Bd} {Ls Hs : Nat → Nat} {m : Int} {j : Nat} {x : Bd} {a : Option Addr} {c : Nat} (h : MbAt w base top g bs Ls Hs m j wr) (hr : RngX base top g bs Ls Hs) (htop : top ≤ w.heap.size) (hx : bs[j]? = some x)
    (c0 : wr.cell? ⟨g, j * 4, none⟩ = some (.int .i64 x.1)) (c1 : wr.cell? ⟨g, j * 4 + 1, none⟩ = some (.int .i64 x.2.1)) (c2 : wr.cell? ⟨g, j * 4 + 2, none⟩ = some (.int .i64 x.2.2.1)) (c3 : wr.cell? ⟨g, j * 4 + 3, none⟩ = some (.slice a (flen x.2.2.2) c))
    (hm : Marked (Ls j) (Hs j) (((wr.setCell ⟨g, j * 4, none⟩ (.int .i64 (m + mcn (bs.take j)))).setCell ⟨g, j * 4 + 1, none⟩ (.int .i64 (m + mcn (bs.take j) + 1))).setCell ⟨g, j * 4 + 2, none⟩ (.int .i64 (m + mcn (bs.take j) + 1 + 1))) w2) (hh : HdS w2 (Ls j) (Hs j) a x.2.2.2 (m + mcn (bs.take j) + 1 + 1 + 1)) : MbAt w base top g bs Ls Hs m (j + 1) w2 := by
  have hj := (List.getElem?_eq_some_iff.1 hx).1
  have hsz := h.low.size
  have hoff := hr.off j hj
  have hLj := hr.lo j hj
  have hHj := hr.hi j hj
  have hle := hr.le j hj
  have hgt := hr.gt
  have hgb := hr.gb
  generalize hM : m + mcn (bs.take j) = M at *
  have hfar2 : ∀ b, (b < Ls j ∨ Hs j ≤ b) → b < wr.heap.size → w2.heap[b]? = (((wr.setCell ⟨g, j * 4, none⟩ (.int .i64 M)).setCell ⟨g, j * 4 + 1, none⟩ (.int .i64 (M + 1))).setCell ⟨g, j * 4 + 2, none⟩ (.int .i64 (M + 1 + 1))).heap[b]? := fun b hb hlt => by
    rcases hb with hb | hb
    · exact hm.below.block b hb
    · exact hm.far b hb (by simpa using hlt)
  have hblk : ∀ b, b ≠ g → (b < Ls j ∨ Hs j ≤ b) → b < wr.heap.size → w2.heap[b]? = wr.heap[b]? := fun b hb hb2 hlt => by
    rw [hfar2 b hb2 hlt, Below.heap_setCell _ _ _ _ (by simpa using hb), Below.heap_setCell _ _ _ _ (by simpa using hb), Below.heap_setCell _ _ _ _ (by simpa using hb)]
  have hg2 : ∀ o, w2.cell? ⟨g, o, none⟩ = (((wr.setCell ⟨g, j * 4, none⟩ (.int .i64 M)).setCell ⟨g, j * 4 + 1, none⟩ (.int .i64 (M + 1))).setCell ⟨g, j * 4 + 2, none⟩ (.int .i64 (M + 1 + 1))).cell? ⟨g, o, none⟩ := fun o => World.cell?_of_block (a := ⟨g, o, none⟩) (hfar2 g hoff (by omega))
  have hgo : ∀ o, o ≠ j * 4 → o ≠ j * 4 + 1 → o ≠ j * 4 + 2 → w2.cell? ⟨g, o, none⟩ = wr.cell? ⟨g, o, none⟩ := fun o h0 h1 h2 => by
    rw [hg2 o, World.cell?_setCell_other _ _ _ _ (ne_offB (Ne.symm h2)), World.cell?_setCell_other _ _ _ _ (ne_offB (Ne.symm h1)), World.cell?_setCell_other _ _ _ _ (ne_offB (Ne.symm h0))]
  refine ⟨?_, fun b h1 h2 => ?_, fun o => ?_, fun i y hi hy => ?_, fun i y hi hy => ?_⟩
  · exact (((h.low.setCell hgb _).setCell hgb _).setCell hgb _).trans (hm.below.mono hLj)
  · rw [hblk b (by omega) (by omega) (by omega)]; exact h.far b h1 h2
  · have hfz : w2.frozen? ⟨g, o, none⟩ = wr.frozen? ⟨g, o, none⟩ := by
      rw [frozen_same (hfar2 g hoff (by omega)), World.frozen?_setCell, World.frozen?_setCell, World.frozen?_setCell]
    rw [hfz]; exact h.fr o
  · by_cases e : i = j
    · subst e
      rw [hx] at hy
      obtain rfl := Option.some.inj hy
      rw [hM]
      refine ⟨a, c, ?_, ?_, ?_, ?_, hh⟩
      · rw [hg2, World.cell?_setCell_other _ _ _ _ (ne_offB (by omega)), World.cell?_setCell_other _ _ _ _ (ne_offB (by omega))]; exact World.cell?_setCell_same _ _ _ c0
      · rw [hg2, World.cell?_setCell_other _ _ _ _ (ne_offB (by omega))]
        refine World.cell?_setCell_same _ _ _ (?_ : _ = some (.int .i64 x.2.1))
        rw [World.cell?_setCell_other _ _ _ _ (ne_offB (by omega))]; exact c1
      · rw [hg2]
        refine World.cell?_setCell_same _ _ _ (?_ : _ = some (.int .i64 x.2.2.1))
        rw [World.cell?_setCell_other _ _ _ _ (ne_offB (by omega)), World.cell?_setCell_other _ _ _ _ (ne_offB (by omega))]; exact c2
      · rw [hgo _ (by omega) (by omega) (by omega)]; exact c3
    · have hij : i < j := by omega
      have hi2 := (List.getElem?_eq_some_iff.1 hy).1
      obtain ⟨a', c', d0, d1, d2, d3, ht⟩ := h.hd i y hij hy
      have ho := hr.ord i j hij hj
      have hif := hr.off i hi2
      have hih := hr.hi i hi2
      refine ⟨a', c', by rw [hgo _ (by omega) (by omega) (by omega)]; exact d0, by rw [hgo _ (by omega) (by omega) (by omega)]; exact d1, by rw [hgo _ (by omega) (by omega) (by omega)]; exact d2, by rw [hgo _ (by omega) (by omega) (by omega)]; exact d3, ht.same fun b hb1 hb2 => hblk b (by omega) (by omega) (by omega)⟩
  · have hij : j < i := by omega
    have hi2 := (List.getElem?_eq_some_iff.1 hy).1
    obtain ⟨a', c', d0, d1, d2, d3, ht⟩ := h.tl i y (by omega) hy
    have ho := hr.ord j i hij hi2
    have hif := hr.off i hi2
    have hih := hr.hi i hi2
    exact ⟨a', c', by rw [hgo _ (by omega) (by omega) (by omega)]; exact d0, by rw [hgo _ (by omega) (by omega) (by omega)]; exact d1, by rw [hgo _ (by omega) (by omega) (by omega)]; exact d2, by rw [hgo _ (by omega) (by omega) (by omega)]; exact d3, ht.same fun b hb1 hb2 => hblk b (by omega) (by omega) (by omega)⟩

def MbPost (base top : Nat) (bs : List Bd) (A : Option Addr) (m : Int) (w : World) (e : Ending) (w' : World) : Prop :=
  e = .returned (.int .i64 (m + mcn bs)) ∧ Below base w w' ∧ (∀ b, top ≤ b → b < w.heap.size → w'.heap[b]? = w.heap[b]?) ∧ BH w' base top bs A m

end Go.Proofs.YtbnbogdglffkmaaGreatDoor

/-! XO0: Small lemmas of the exact laws. -/
namespace Go.Proofs.YtbnbogdglffkmaaGreatDoor
open Go.RowKit Go.Deep

theorem szR_fit {k : Fo} (h : 0 ≤ szR k 1048576) : fsz k ≤ 1048576 := by
  unfold szR at h
  split at h
  · omega
  · omega
theorem cell_lowX {W w2 : World} {q : Addr} {x : Value} (hb : Below W.heap.size W w2) (h : W.cell? q = some x) : w2.cell? q = some x := by
  rw [hb.cell (World.block_lt_of_cell? _ _ h)]; exact h
end Go.Proofs.YtbnbogdglffkmaaGreatDoor

/-! FrameO: What every row's closing text needs. -/
namespace Go.Proofs.YtbnbogdglffkmaaGreatDoor
theorem Tryz.own : ownKnob Tryz.prog.godebug = none := by kernel_rfl
theorem Tryz.laidOut : laidOutB Tryz.prog = true := by kernel_rfl
end Go.Proofs.YtbnbogdglffkmaaGreatDoor

/-! ReadB: - A slice of binds that came in as an argument, as the walks take it. -/
namespace Go.Proofs.YtbnbogdglffkmaaGreatDoor
open Go.ChangeShapes Go.WideShapes Go.ChangeAt Go.RowKit Go.Deep Go.Joins

theorem list_of_all {α : Type} {P : Nat → α → Prop} (n : Nat) (h : ∀ i, i < n → ∃ x, P i x) : ∃ xs : List α, xs.length = n ∧ ∀ (i : Nat) x, xs[i]? = some x → P i x := by
  induction n with
  | zero => exact ⟨[], rfl, fun i x hx => by simp at hx⟩
  | succ n ih =>
    obtain ⟨xs, hl, hall⟩ := ih fun i hi => h i (by omega)
    obtain ⟨y, hy⟩ := h n (by omega)
    refine ⟨xs ++ [y], by simp [hl], fun i x hx => ?_⟩
    by_cases hi : i < xs.length
    · rw [List.getElem?_append_left hi] at hx; exact hall i x hx
    · have : i = xs.length := by have := (List.getElem?_eq_some_iff.1 hx).1; simp at this; omega
      subst this
      simp at hx
      rw [← hx, hl]; exact hy

end Go.Proofs.YtbnbogdglffkmaaGreatDoor

/-! XS1: - Slices of binds in the exact laws: their size, copies of them, marks. -/
namespace Go.Proofs.YtbnbogdglffkmaaGreatDoor
open Go.RowKit Go.Deep

/-- How many terms lie in a row of binds. -/
def szT : List Bd → Nat
  | [] => 0
  | x :: r => fsz x.2.2.2 + szT r
/-- What is left of a size behind a row of binds. -/
def szB (bs : List Bd) (l : Int) : Int := if (szT bs : Int) ≤ l then l - szT bs else -1
def szBR (bs : List Bd) (left : Int) : Int := if (bs.length : Int) + szT bs ≤ left then left - (bs.length + szT bs) else -1
theorem szBR_start (bs : List Bd) (left : Int) : szBR bs left = szB bs (left - bs.length) := by
  unfold szBR szB
  by_cases h : (bs.length : Int) + szT bs ≤ left
  · rw [if_pos h, if_pos (by omega)]; omega
  · rw [if_neg h, if_neg (by omega)]
theorem szBR_over {bs : List Bd} {left : Int} (h : left < bs.length) : szBR bs left = -1 := by unfold szBR; rw [if_neg (by omega)]
theorem szBR_case (bs : List Bd) (left : Int) : szBR bs left = -1 ∨ 0 ≤ szBR bs left := by unfold szBR; split <;> omega
theorem szBR_fit {bs : List Bd} {left : Int} (h : 0 ≤ szBR bs left) (hl : left ≤ 1048576) : bs.length + szT bs ≤ 1048576 ∧ szBR bs left ≤ 1048576 := by
  unfold szBR at *
  split at h
  · rename_i hc; rw [if_pos hc]; omega
  · omega
theorem szT_mem : ∀ {bs : List Bd} {x : Bd}, x ∈ bs → fsz x.2.2.2 ≤ szT bs
  | [], _, h => by cases h
  | y :: r, x, h => by
    simp only [szT]
    rcases List.mem_cons.1 h with rfl | h
    · omega
    · have := szT_mem h; omega
theorem mcn_szT : ∀ bs : List Bd, mcn bs = 3 * (bs.length : Int) + 2 * (szT bs : Int)
  | [] => by simp [mcn, szT]
  | x :: r => by simp only [mcn, szT, List.length_cons, mcn_szT r]; push_cast; omega
theorem szT_cons (x : Bd) (r : List Bd) : (szT (x :: r) : Int) = (fsz x.2.2.2 : Int) + (szT r : Int) := by simp [szT]
theorem szB_cons {x : Bd} {r : List Bd} {l : Int} (_h : (fsz x.2.2.2 : Int) ≤ l) : szB (x :: r) l = szB r (l - fsz x.2.2.2) := by
  have e := szT_cons x r
  unfold szB
  by_cases h2 : (szT (x :: r) : Int) ≤ l
  · rw [if_pos h2, if_pos (by omega)]; omega
  · rw [if_neg h2, if_neg (by omega)]
theorem szB_over {x : Bd} {r : List Bd} {l : Int} (h : ¬ (fsz x.2.2.2 : Int) ≤ l) : szB (x :: r) l = -1 := by
  have e := szT_cons x r
  unfold szB
  rw [if_neg (by omega)]
theorem drop_bdX {bs : List Bd} {j : Nat} {x : Bd} (h : bs[j]? = some x) : bs.drop j = x :: bs.drop (j + 1) := by
  obtain ⟨hj, rfl⟩ := List.getElem?_eq_some_iff.1 h
  exact List.drop_eq_getElem_cons hj

end Go.Proofs.YtbnbogdglffkmaaGreatDoor

/-! XS2: - Copies of slices of binds in the exact laws. -/
namespace Go.Proofs.YtbnbogdglffkmaaGreatDoor
open Go.RowKit Go.Deep

/-- A copy of a row of binds: the row in a block of its own, its terms in later blocks. -/
def BS (w : World) (base top : Nat) (bs : List Bd) (A : Option Addr) : Prop :=
  bs = [] ∨ ∃ g, A = some ⟨g, 0, none⟩ ∧ base ≤ g ∧ g < top ∧ (∀ o, w.frozen? ⟨g, o, none⟩ = false) ∧ ∀ i x, bs[i]? = some x → ∃ a c, w.cell? ⟨g, i * 4, none⟩ = some (.int .i64 x.1) ∧ w.cell? ⟨g, i * 4 + 1, none⟩ = some (.int .i64 x.2.1) ∧ w.cell? ⟨g, i * 4 + 2, none⟩ = some (.int .i64 x.2.2.1) ∧ w.cell? ⟨g, i * 4 + 3, none⟩ = some (.slice a (flen x.2.2.2) c) ∧ SX w (g + 1) top a x.2.2.2
theorem BS.same {w w' : World} {base top : Nat} {bs : List Bd} {A : Option Addr} (h : BS w base top bs A) (hs : Same base top w w') : BS w' base top bs A := by
  rcases h with h | ⟨g, e, h1, h2, hf, hc⟩
  · exact .inl h
  · refine .inr ⟨g, e, h1, h2, fun o => by rw [frozen_same (hs g h1 h2)]; exact hf o, fun i x hx => ?_⟩
    obtain ⟨a, c, c0, c1, c2, c3, ht⟩ := hc i x hx
    exact ⟨a, c, by rw [hs.cell h1 h2]; exact c0, by rw [hs.cell h1 h2]; exact c1, by rw [hs.cell h1 h2]; exact c2, by rw [hs.cell h1 h2]; exact c3, ht.same (hs.mono (by omega) (Nat.le_refl _))⟩
theorem BS.bsl {w : World} {base top : Nat} {bs : List Bd} {A : Option Addr} (h : BS w base top bs A) : BSl w base top A bs := by
  rcases h with h | ⟨g, e, h1, h2, hf, hc⟩
  · exact .inl h
  · refine .inr ⟨g, 0, e, h1, h2, fun i x hx => ?_⟩
    obtain ⟨a, c, c0, c1, c2, c3, ht⟩ := hc i x hx
    exact ⟨a, c, by rw [Nat.zero_add]; exact c0, by rw [Nat.zero_add]; exact c1, by rw [Nat.zero_add]; exact c2, by rw [Nat.zero_add]; exact c3, ht.1.mono (by omega) (Nat.le_refl _)⟩

def TobPost (x s v : Int) (k : Fo) (w : World) (e : Ending) (w' : World) : Prop :=
  ∃ a c, e = .returned (.agg #[.int .i64 x, .int .i64 s, .int .i64 v, .slice a (flen k) c]) ∧ Below w.heap.size w w' ∧ SX w' w.heap.size w'.heap.size a k
theorem tob_end {w w1 : World} {x s v : Int} {k : Fo} {a : Option Addr} {c : Nat} {n : Nat} (hn : n = w.heap.size) (hb : Below n w w1) (hl : SX w1 (n + 3) w1.heap.size a k) (u0 u1 u2 y0 y1 y2 y3 : Value) :
    TobPost x s v k w (.returned (.agg #[.int .i64 x, .int .i64 s, .int .i64 v, .slice a (flen k) c])) (((((((w1.setCell ⟨n + 1 + 1, 1, none⟩ u0).setCell ⟨n + 1 + 1, 2, none⟩ u1).setCell ⟨n + 1 + 1, 3, none⟩ u2).setCell ⟨n + 1, 0, none⟩ y0).setCell ⟨n + 1, 1, none⟩ y1).setCell ⟨n + 1, 2, none⟩ y2).setCell ⟨n + 1, 3, none⟩ y3) := by
  subst hn
  refine ⟨a, c, rfl, ((((((hb.setCell (by simp; omega) _).setCell (by simp; omega) _).setCell (by simp; omega) _).setCell (by simp) _).setCell (by simp) _).setCell (by simp) _).setCell (by simp) _, ?_⟩
  have hs : Same (w.heap.size + 3) w1.heap.size w1 (((((((w1.setCell ⟨w.heap.size + 1 + 1, 1, none⟩ u0).setCell ⟨w.heap.size + 1 + 1, 2, none⟩ u1).setCell ⟨w.heap.size + 1 + 1, 3, none⟩ u2).setCell ⟨w.heap.size + 1, 0, none⟩ y0).setCell ⟨w.heap.size + 1, 1, none⟩ y1).setCell ⟨w.heap.size + 1, 2, none⟩ y2).setCell ⟨w.heap.size + 1, 3, none⟩ y3) :=
    (((((((Same.setCell (fun _ _ _ => rfl) (.inl (by simp)) _).setCell (.inl (by simp)) _).setCell (.inl (by simp)) _).setCell (.inl (by simp)) _).setCell (.inl (by simp)) _).setCell (.inl (by simp)) _).setCell (.inl (by simp)) _)
  exact (hl.same hs).mono (by omega) (by simp)

theorem make_binds (n : Nat) (hn : n ≤ 1048576) (w : World) :
    (Instr.makeSlice 174 (.int .i64 (n : Int)) (.int .i64 (n : Int))).run Tryz.prog w = .ok (.slice (some ⟨w.heap.size, 0, none⟩) n n) (w.alloc (.cells (madeCells #[.int .i64 0, .int .i64 0, .int .i64 0, .slice none 0 0] (n * 4)) 176)) := by
  obtain ⟨i, hi, hz, hs, hb⟩ := Tryz.infoBind
  have := run_make (P := Tryz.prog) w 174 176 i _ Tryz.underlying174 hi hz .i64 .i64 (n : Int) (n : Int) (by omega) (by omega) (by rw [hb]; omega) (by omega)
  rw [hs] at this
  simpa [Value.cells] using this
/-- What holds at the head of toBindS's loop. -/
structure TobAt (w : World) (bs : List Bd) (j : Nat) (wr : World) : Prop where
  below : Below w.heap.size w wr
  size : w.heap.size < wr.heap.size
  row : ∃ f : Nat → Value, wr.rowIs w.heap.size 176 (bs.length * 4) f ∧ ∀ i x, i < j → bs[i]? = some x → ∃ a c, f (i * 4) = .int .i64 x.1 ∧ f (i * 4 + 1) = .int .i64 x.2.1 ∧ f (i * 4 + 2) = .int .i64 x.2.2.1 ∧ f (i * 4 + 3) = .slice a (flen x.2.2.2) c ∧ SX wr (w.heap.size + 1) wr.heap.size a x.2.2.2
theorem TobAt.start (w : World) (bs : List Bd) : TobAt w bs 0 (w.alloc (.cells (madeCells #[.int .i64 0, .int .i64 0, .int .i64 0, .slice none 0 0] (bs.length * 4)) 176)) := by
  refine ⟨(Below.refl _ _).alloc (Nat.le_refl _) _, by simp, ⟨fun i => #[Value.int .i64 0, .int .i64 0, .int .i64 0, .slice none 0 0][i % 4]!, ?_, fun i x hi => by omega⟩⟩
  have := World.rowIs_alloc w (madeCells #[.int .i64 0, .int .i64 0, .int .i64 0, .slice none 0 0] (bs.length * 4)) 176 (fun i => #[Value.int .i64 0, .int .i64 0, .int .i64 0, .slice none 0 0][i % 4]!) (fun i hi => by
    rw [size_madeCells] at hi
    exact made_at _ _ _ hi)
  rw [size_madeCells] at this
  exact this
theorem TobAt.step {w wr w2 : World} {bs : List Bd} {j : Nat} {x s v : Int} {k : Fo} {a : Option Addr} {c : Nat} (h : TobAt w bs j wr) (hx : bs[j]? = some (x, s, v, k)) (hb : Below wr.heap.size wr w2) (hl : SX w2 wr.heap.size w2.heap.size a k) :
    TobAt w bs (j + 1) ((((w2.setCell ⟨w.heap.size, j * 4, none⟩ (.int .i64 x)).setCell ⟨w.heap.size, j * 4 + 1, none⟩ (.int .i64 s)).setCell ⟨w.heap.size, j * 4 + 2, none⟩ (.int .i64 v)).setCell ⟨w.heap.size, j * 4 + 3, none⟩ (.slice a (flen k) c)) := by
  have hs := h.size
  have hs2 := hb.size
  obtain ⟨f, hf, hall⟩ := h.row
  have hf2 := hf.of_block (hb.block _ hs)
  have hsame : ∀ {L H : Nat}, w.heap.size < L → Same L H w2 ((((w2.setCell ⟨w.heap.size, j * 4, none⟩ (.int .i64 x)).setCell ⟨w.heap.size, j * 4 + 1, none⟩ (.int .i64 s)).setCell ⟨w.heap.size, j * 4 + 2, none⟩ (.int .i64 v)).setCell ⟨w.heap.size, j * 4 + 3, none⟩ (.slice a (flen k) c)) := fun hL =>
    (((Same.setCell (fun _ _ _ => rfl) (.inl hL) _).setCell (.inl hL) _).setCell (.inl hL) _).setCell (.inl hL) _
  refine ⟨((((h.below.trans (hb.mono (by omega))).setCell (by simp) _).setCell (by simp) _).setCell (by simp) _).setCell (by simp) _, by simp; omega, ⟨_, (((hf2.set _ _).set _ _).set _ _).set _ _, fun i y hi hy => ?_⟩⟩
  by_cases hij : i = j
  · subst hij
    rw [hx] at hy
    obtain rfl := Option.some.inj hy
    exact ⟨a, c, by simp, by simp, by simp, by simp, (hl.same (hsame (by omega))).mono (by omega) (by simp)⟩
  · obtain ⟨a', c', h0, h1, h2, h3, hsl⟩ := hall i y (by omega) hy
    refine ⟨a', c', ?_, ?_, ?_, ?_, ((hsl.same (fun b h1 h2 => hb.block b h2)).same (hsame (by omega))).mono (Nat.le_refl _) (by simp; omega)⟩
    · rw [if_neg (by omega), if_neg (by omega), if_neg (by omega), if_neg (by omega)]; exact h0
    · rw [if_neg (by omega), if_neg (by omega), if_neg (by omega), if_neg (by omega)]; exact h1
    · rw [if_neg (by omega), if_neg (by omega), if_neg (by omega), if_neg (by omega)]; exact h2
    · rw [if_neg (by omega), if_neg (by omega), if_neg (by omega), if_neg (by omega)]; exact h3
theorem TobAt.bs {w wr : World} {bs : List Bd} {j : Nat} (h : TobAt w bs j wr) (hj : bs.length ≤ j) : BS wr w.heap.size wr.heap.size bs (some ⟨w.heap.size, 0, none⟩) := by
  obtain ⟨f, hf, hall⟩ := h.row
  refine .inr ⟨w.heap.size, rfl, Nat.le_refl _, h.size, fun o => hf.frozen o, fun i x hx => ?_⟩
  have hi := (List.getElem?_eq_some_iff.1 hx).1
  obtain ⟨a, c, h0, h1, h2, h3, hs⟩ := hall i x (by omega) hx
  refine ⟨a, c, ?_, ?_, ?_, ?_, hs⟩
  · rw [← h0]; exact hf.cell (by omega)
  · rw [← h1]; exact hf.cell (by omega)
  · rw [← h2]; exact hf.cell (by omega)
  · rw [← h3]; exact hf.cell (by omega)
def TobsPost (bs : List Bd) (w : World) (e : Ending) (w' : World) : Prop :=
  ∃ A C, e = .returned (.slice A (List.length bs) C) ∧ Below w.heap.size w w' ∧ BS w' w.heap.size w'.heap.size bs A

end Go.Proofs.YtbnbogdglffkmaaGreatDoor

/-! XE1: - Slices of equations in the exact laws: their size, copies of them, whether they are the same. -/
namespace Go.Proofs.YtbnbogdglffkmaaGreatDoor
open Go.RowKit Go.Deep

def fszE (x : Eqd) : Nat := fsz x.1.2.2 + fsz x.2.2.2
def szER (x : Eqd) (left : Int) : Int := if (fszE x : Int) ≤ left then left - fszE x else -1
/-- How many terms lie in a row of equations. -/
def szQ : List Eqd → Nat
  | [] => 0
  | x :: r => fszE x + szQ r
def szE (es : List Eqd) (l : Int) : Int := if (szQ es : Int) ≤ l then l - szQ es else -1
def szQR (es : List Eqd) (left : Int) : Int := if (es.length : Int) + szQ es ≤ left then left - (es.length + szQ es) else -1
theorem szQR_start (es : List Eqd) (left : Int) : szQR es left = szE es (left - es.length) := by
  unfold szQR szE
  by_cases h : (es.length : Int) + szQ es ≤ left
  · rw [if_pos h, if_pos (by omega)]; omega
  · rw [if_neg h, if_neg (by omega)]
theorem szQR_over {es : List Eqd} {left : Int} (h : left < es.length) : szQR es left = -1 := by unfold szQR; rw [if_neg (by omega)]
theorem szQR_case (es : List Eqd) (left : Int) : szQR es left = -1 ∨ 0 ≤ szQR es left := by unfold szQR; split <;> omega
theorem szQR_fit {es : List Eqd} {left : Int} (h : 0 ≤ szQR es left) (hl : left ≤ 1048576) : es.length + szQ es ≤ 1048576 ∧ szQR es left ≤ 1048576 := by
  unfold szQR at *
  split at h
  · rename_i hc; rw [if_pos hc]; omega
  · omega
theorem szQ_mem : ∀ {es : List Eqd} {x : Eqd}, x ∈ es → fszE x ≤ szQ es
  | [], _, h => by cases h
  | y :: r, x, h => by
    simp only [szQ]
    rcases List.mem_cons.1 h with rfl | h
    · omega
    · have := szQ_mem h; omega
theorem szQ_cons (x : Eqd) (r : List Eqd) : (szQ (x :: r) : Int) = (fszE x : Int) + (szQ r : Int) := by simp [szQ]
theorem szE_cons {x : Eqd} {r : List Eqd} {l : Int} (_h : (fszE x : Int) ≤ l) : szE (x :: r) l = szE r (l - fszE x) := by
  have e := szQ_cons x r
  unfold szE
  by_cases h2 : (szQ (x :: r) : Int) ≤ l
  · rw [if_pos h2, if_pos (by omega)]; omega
  · rw [if_neg h2, if_neg (by omega)]
theorem szE_over {x : Eqd} {r : List Eqd} {l : Int} (h : ¬ (fszE x : Int) ≤ l) : szE (x :: r) l = -1 := by
  have e := szQ_cons x r
  unfold szE
  rw [if_neg (by omega)]
theorem drop_eqX {es : List Eqd} {j : Nat} {x : Eqd} (h : es[j]? = some x) : es.drop j = x :: es.drop (j + 1) := by
  obtain ⟨hj, rfl⟩ := List.getElem?_eq_some_iff.1 h
  exact List.drop_eq_getElem_cons hj
/-- The six cells of an equation's box. -/
theorem box6 {w : World} {c0 c1 c2 c3 c4 c5 : Value} {T : TypeId} (i : Nat) : (w.alloc (.cells #[c0, c1, c2, c3, c4, c5] T)).cell? ⟨w.heap.size, i, none⟩ = #[c0, c1, c2, c3, c4, c5][i]? := by rw [World.cell?_alloc_at _ _ _ _ (by simp)]

end Go.Proofs.YtbnbogdglffkmaaGreatDoor

/-! T1b: TermText of the program. -/
namespace Go.Proofs.YtbnbogdglffkmaaGreatDoor
open Go.RowKit Go.Deep

set_option maxRecDepth 100000 in
set_option maxHeartbeats 1000000 in
theorem iTermText_any (s v : Int) (a : Option Addr) (c : Nat) (k : Fo) (w : World) (hl : Sl w 0 w.heap.size a k) :
    Calls Tryz.prog 14 #[.agg #[.int .i64 s, .int .i64 v, .slice a (flen k) c]] w fun e w' => e = .returned (.string (str (if okW s v k 16 = true then tx s v k else []))) ∧ Below w.heap.size w w' := by
  cases hok : okW s v k 16 with
  | false =>
    have HOK := Lib.hid hok
    clear hok
    go_enter Tryz.func14, Tryz.ntmps14
    go_wp2_with fail
    with_reducible refine (nodeOf_any s v a c k 16 _ ?_ (by omega) (by omega)).mono ?_
    · exact (hl.below ((Below.refl _ _).alloc (Nat.le_refl _) _)).mono (Nat.le_refl _) (by simp)
    rintro e w2 ⟨nv, he, hb, hyes⟩
    rw [HOK.out] at he
    subst he
    clear hyes
    go_wp2_with fail
    go_ret
    exact ⟨rfl, ((Below.refl _ _).alloc (Nat.le_refl _) _).trans (hb.mono (by simp))⟩
  | true =>
    have HOK := Lib.hid hok
    obtain ⟨hoN, hof, hsz⟩ := (okW_iff _ _ _ _).1 hok
    clear hok
    go_enter Tryz.func14, Tryz.ntmps14
    go_wp2_with fail
    with_reducible refine (nodeOf_any s v a c k 16 _ ?_ (by omega) (by omega)).mono ?_
    · exact (hl.below ((Below.refl _ _).alloc (Nat.le_refl _) _)).mono (Nat.le_refl _) (by simp)
    rintro e w2 ⟨nv, he, hb, hyes⟩
    rw [HOK.out] at he
    subst he
    have hn := hyes HOK.out
    have HB := Lib.hid (((Below.refl _ _).alloc (Nat.le_refl _) _).trans (hb.mono (by simp)))
    clear hyes hb
    rcases hn with ⟨rfl, rfl, rfl⟩ | ⟨hs', a2, c2, rfl, hn2⟩
    · have hv := ((okN_iff _ _ _).1 hoN).2.1 rfl
      go_wp2_with fail
      refine upon_method 116 (by kernel_rfl) (by kernel_rfl) ?_
      go_simp
      with_reducible refine (varText_any v hv.1 (by omega) _).mono ?_
      rintro e w3 ⟨rfl, rfl⟩
      go_wp2_with fail
      go_ret
      exact ⟨by simp [tx_var], HB.out⟩
    · have HN2 := Lib.hid hn2
      have hv0 : v = 0 := ((okN_iff _ _ _).1 hoN).2.2 hs'
      subst hv0
      have HHO := Lib.hid hoN
      have HHF := Lib.hid hof
      have HS := Lib.hid hs'
      clear hn2 hoN hof hs'
      go_wp2_with fail
      refine upon_method 119 (by kernel_rfl) (by kernel_rfl) ?_
      go_simp
      with_reducible refine (symText_any (fsz k) s a2 c2 k _ ?_ HS.out HHO.out HHF.out (Nat.le_refl _) (by omega)).mono ?_
      · exact HN2.out.mono (Nat.zero_le _) (Nat.le_refl _)
      rintro e w3 ⟨rfl, hb3⟩
      go_wp2_with fail
      go_ret
      exact ⟨by simp, HB.out.trans (hb3.mono HB.out.size)⟩
end Go.Proofs.YtbnbogdglffkmaaGreatDoor
