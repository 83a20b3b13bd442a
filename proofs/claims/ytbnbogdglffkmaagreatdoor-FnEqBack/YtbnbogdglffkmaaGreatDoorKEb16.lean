/- Several texts in one: ES1, XC, XM, XMt, XHt, PF2, RFp, WI, WJ0, WK0. -/
import Derived.Test.YtbnbogdglffkmaaGreatDoorKEb15
import Derived.Test.YtbnbogdglffkmaaGreatDoorKEb11
import Derived.BigQuiet
import Derived.Test.YtbnbogdglffkmaaGreatDoorKEb12
import Derived.Test.YtbnbogdglffkmaaGreatDoorKEb6
import Derived.Test.YtbnbogdglffkmaaGreatDoorKEb5

/-! ES1: The specification's EqsOk. -/
namespace Go.Proofs.YtbnbogdglffkmaaGreatDoor
open Go.RowKit Go.Deep

set_option maxRecDepth 100000 in
set_option maxHeartbeats 2000000 in
theorem sEqsOk_any (es : List Eqd) (A : Option Addr) (C : Nat) (w : World) (hb : ESl w 0 w.heap.size A es) (hl : es.length ≤ 9223372036854775807) :
    Calls Tryz.prog 15 #[.slice A es.length C] w fun e w' => e = .returned (.bool (okEs es)) ∧ Below w.heap.size w w' := by
  have HB := Lib.hid hb
  clear hb
  by_cases hbig : 6 < es.length
  · have HF : Hid (okEs es = false) := by
      cases h : okEs es with
      | false => exact rfl
      | true => have := ((okEs_iff es).1 h).1; omega
    go_enter Tryz.func15, Tryz.ntmps15
    go_wp2_with fail
    go_ret
    exact ⟨by rw [HF.out]; rfl, Below.refl _ _⟩
  go_enter Tryz.func15, Tryz.ntmps15
  go_wp2_with fail
  go_loopw [3] (fun i wr => ∃ j : Nat, i = .int .i64 j ∧ j ≤ es.length ∧ Hid ((es.take j).all okE = true) ∧ Hid (Below w.heap.size w wr)) (fun i _ => es.length - (intOf i).toNat)
  case atStart => exact ⟨0, rfl, Nat.zero_le _, rfl, Below.refl _ _⟩
  case round =>
    obtain ⟨j, rfl, hj, HS, HLW⟩ := hrel
    have hws := HLW.out.size
    by_cases hlt : j < es.length
    · obtain ⟨x, hx⟩ : ∃ x, es[j]? = some x := ⟨es[j], List.getElem?_eq_getElem hlt⟩
      obtain ⟨⟨s, v, k⟩, s', v', k'⟩ := x
      have hbr := HB.out.below HLW.out
      obtain ⟨b, o, rfl, _, hbB, a1, d1, a2, d2, c0, c1, c2, c3, c4, c5, hsl, hsl2⟩ := hbr.at hx
      dsimp only at c0 c1 c2 c3 c4 c5 hsl hsl2
      have g1 : (0 : Int) ≤ (j : Int) := by omega
      have g2 : (j : Int) < (es.length : Int) := by omega
      have HX := Lib.hid hx
      have HSL : Hid (Sl wr 0 wr.heap.size a1 k) := hsl.mono (Nat.le_refl _) hws
      have HSL2 : Hid (Sl wr 0 wr.heap.size a2 k') := hsl2.mono (Nat.le_refl _) hws
      clear hx hsl hsl2
      go_wp2_with fail
      with_reducible refine (sTermOk_any s v a1 d1 k _ HSL.out).mono ?_
      rintro e w2 ⟨rfl, hb2⟩
      have e3 := cell_low hb2 c3
      have e4 := cell_low hb2 c4
      have e5 := cell_low hb2 c5
      have HL2 := Lib.hid (HLW.out.trans (hb2.mono hws))
      have HSL3 := Lib.hid (HSL2.out.next hb2)
      clear hb2 c0 c1 c2 c3 c4 c5 HSL HSL2
      cases hok : okW s v k 16 with
      | false =>
        have HF : Hid (okEs es = false) := all_no HX.out (by simp only [okE, okT3, hok, Bool.false_and])
        clear hok
        go_wp2_with fail
        go_ret
        exact ⟨by rw [HF.out]; rfl, HL2.out⟩
      | true =>
        have HOK := Lib.hid hok
        clear hok
        go_wp2_with fail
        with_reducible refine (sTermOk_any s' v' a2 d2 k' _ HSL3.out).mono ?_
        rintro e w3 ⟨rfl, hb3⟩
        have HL3 := Lib.hid (HL2.out.trans (hb3.mono HL2.out.size))
        clear hb3 e3 e4 e5 HSL3
        cases hok : okW s' v' k' 16 with
        | false =>
          have HF : Hid (okEs es = false) := all_no HX.out (by simp only [okE, okT3, hok, Bool.and_false])
          clear hok
          go_wp2_with fail
          go_ret
          exact ⟨by rw [HF.out]; rfl, HL3.out⟩
        | true =>
          have HA : Hid ((es.take (j + 1)).all okE = true) := all_take HS.out HX.out (by simp only [okE, okT3, hok, HOK.out, Bool.and_self])
          clear hok
          go_wp2_with fail
          go_roundw
          case rel => exact ⟨j + 1, by go_num, by omega, HA, HL3⟩
          case measure => simp [intOf]; omega
    · have HE : Hid (okEs es = true) := by
        refine (okEs_iff es).2 ⟨by omega, fun x hx => ?_⟩
        have := HS.out
        rw [List.take_of_length_le (by omega)] at this
        exact List.all_eq_true.1 this x hx
      go_wp2_with fail
      go_ret
      exact ⟨by rw [HE.out]; rfl, HLW.out⟩
end Go.Proofs.YtbnbogdglffkmaaGreatDoor

/-! XC: - eqTerm, eqTermS: two copies of one term are found the same. -/
namespace Go.Proofs.YtbnbogdglffkmaaGreatDoor
open Go.RowKit Go.Deep

end Go.Proofs.YtbnbogdglffkmaaGreatDoor

/-! XM: - markTermS, markTerm: numbers written over a tree of one's own. -/
namespace Go.Proofs.YtbnbogdglffkmaaGreatDoor
open Go.RowKit Go.Deep

theorem ShS.marked {w w' : World} {lo B : Nat} {a : Option Addr} {k : Fo} (hm : Marked lo B w w') (h : ShS w lo B a k) : ShS w' lo B a k := by
  rcases h with h | ⟨b, e, h⟩
  · exact .inl h
  · exact .inr ⟨b, e, h.marked hm k b 0 rfl⟩

end Go.Proofs.YtbnbogdglffkmaaGreatDoor

/-! XMt: - markTermS and heldTermS on a tree of one's own: what is marked is held. -/
namespace Go.Proofs.YtbnbogdglffkmaaGreatDoor
open Go.RowKit Go.Deep

/-- What holds at the head of markTermS's loop: the first j kids are marked, the others are as they were. -/
structure MkAt (w : World) (lo B b : Nat) (k : Fo) (Ls : Nat → Nat) (m : Int) (j : Nat) (wr : World) : Prop where
  marked : Marked lo B w wr
  done : ∀ i, i < j → HdAt wr (Ls i) (Ls (i + 1)) k b 0 m i
  todo : ∀ i, j ≤ i → i < flen k → TrAt wr k b 0 Ls i

theorem MkAt.step {w wr w2 : World} {lo B b : Nat} {k : Fo} {Ls : Nat → Nat} {m : Int} {j x y : Nat} {s v : Int} {kk : Fo} {a : Option Addr} {c : Nat} (h : MkAt w lo B b k Ls m j wr) (hj : j < flen k) (hLs : ∀ i, i < flen k → Ls i ≤ Ls (i + 1)) (hLB : Ls (flen k) ≤ B) (hB : B ≤ w.heap.size)
    (hlo : lo ≤ b) (hb : b < Ls 0) (hd : fdrop j k = .node x y (s, v) kk (fdrop (j + 1) k)) (hc2 : wr.cell? ⟨b, j * 3 + 2, none⟩ = some (.slice a (flen kk) c)) {u u' : Value} (hu : wr.cell? ⟨b, j * 3, none⟩ = some u) (hu' : wr.cell? ⟨b, j * 3 + 1, none⟩ = some u')
    (hmk : Marked (Ls j) (Ls (j + 1)) ((wr.setCell ⟨b, j * 3, none⟩ (.int .i64 (cnt k m j))).setCell ⟨b, j * 3 + 1, none⟩ (.int .i64 (cnt k m j + 1))) w2) (hhd : HdS w2 (Ls j) (Ls (j + 1)) a kk (cnt k m j + 2)) : MkAt w lo B b k Ls m (j + 1) w2 := by
  have hmono : ∀ i i', i ≤ i' → i' ≤ flen k → Ls i ≤ Ls i' := fun i i' h1 h2 => by
    have := Ls_mono hLs (i' - i) i (by omega)
    rwa [show i + (i' - i) = i' from by omega] at this
  have h0j := hmono 0 j (Nat.zero_le _) (by omega)
  have hjj := hLs j hj
  have hjn := hmono (j + 1) (flen k) (by omega) (Nat.le_refl _)
  have hwr : w.heap.size ≤ wr.heap.size := h.marked.below.size
  have hbB : b < B := by omega
  -- other blocks
  have hsame : ∀ q, q ≠ b → (q < Ls j ∨ Ls (j + 1) ≤ q) → q < wr.heap.size → w2.heap[q]? = wr.heap[q]? := fun q h1 h2 h3 => by
    have e : ((wr.setCell ⟨b, j * 3, none⟩ (.int .i64 (cnt k m j))).setCell ⟨b, j * 3 + 1, none⟩ (.int .i64 (cnt k m j + 1))).heap[q]? = wr.heap[q]? := by
      rw [Below.heap_setCell _ _ _ _ (fun e => h1 (by simpa using e)), Below.heap_setCell _ _ _ _ (fun e => h1 (by simpa using e))]
    rcases h2 with h2 | h2
    · rw [hmk.below.block q h2, e]
    · rw [hmk.far q h2 (by simpa using h3), e]
  -- the row's own cells
  have hcell : ∀ o, o ≠ j * 3 → o ≠ j * 3 + 1 → w2.cell? ⟨b, o, none⟩ = wr.cell? ⟨b, o, none⟩ := fun o h1 h2 => by
    rw [hmk.below.cell (by simp; omega), World.cell?_setCell_other _ _ _ _ (ne_offT (by omega)), World.cell?_setCell_other _ _ _ _ (ne_offT (by omega))]
  have hfro : ∀ o, w2.frozen? ⟨b, o, none⟩ = wr.frozen? ⟨b, o, none⟩ := fun o => by
    rw [hmk.below.frozen (by simp; omega), World.frozen?_setCell, World.frozen?_setCell]
  refine ⟨?_, fun i hi => ?_, fun i h1 h2 => ?_⟩
  · have m1 := Marked.set (lo := lo) (B := B) hlo hbB (by omega) hu (cnt k m j)
    have m2 := Marked.set (lo := lo) (B := B) (w := wr.setCell ⟨b, j * 3, none⟩ (.int .i64 (cnt k m j))) (o := j * 3 + 1) hlo hbB (by omega) (by rw [World.cell?_setCell_other _ _ _ _ (ne_offT (by omega))]; exact hu') (cnt k m j + 1)
    exact h.marked.trans (m1.trans (m2.trans (hmk.mono (by omega) (by omega) (by simp; omega))))
  · by_cases hij : i = j
    · subst hij
      refine ⟨x, y, s, v, kk, a, c, hd, ?_, ?_, ?_, hhd⟩
      · rw [Nat.zero_add, hmk.below.cell (by simp; omega), World.cell?_setCell_other _ _ _ _ (ne_offT (by omega))]
        exact World.cell?_setCell_same _ _ _ hu
      · rw [Nat.zero_add, hmk.below.cell (by simp; omega)]
        exact World.cell?_setCell_same _ _ _ (by rw [World.cell?_setCell_other _ _ _ _ (ne_offT (by omega))]; exact hu')
      · rw [Nat.zero_add, hcell _ (by omega) (by omega)]; exact hc2
    · obtain ⟨x', y', s', v', kk', a', c', e, d1, d2, d3, d4⟩ := h.done i (by omega)
      have g1 := hmono 0 i (Nat.zero_le _) (by omega)
      have g2 := hmono (i + 1) j (by omega) (by omega)
      refine ⟨x', y', s', v', kk', a', c', e, ?_, ?_, ?_, d4.same fun q q1 q2 => hsame q (by omega) (.inl (by omega)) (by omega)⟩
      · rw [Nat.zero_add] at d1 ⊢; rw [hcell _ (by omega) (by omega)]; exact d1
      · rw [Nat.zero_add] at d2 ⊢; rw [hcell _ (by omega) (by omega)]; exact d2
      · rw [Nat.zero_add] at d3 ⊢; rw [hcell _ (by omega) (by omega)]; exact d3
  · obtain ⟨x', y', s', v', kk', a', c', e, d1, d2, d3, d4, d5, d6⟩ := h.todo i (by omega) h2
    have g1 := hmono 0 i (Nat.zero_le _) (by omega)
    have g2 := hmono (j + 1) i (by omega) (by omega)
    have g3 := hmono (i + 1) (flen k) (by omega) (Nat.le_refl _)
    rw [Nat.zero_add] at d1 d2 d3 d4 d5
    refine ⟨x', y', s', v', kk', a', c', e, ?_, ?_, ?_, ?_, ?_, d6.same fun q q1 q2 => hsame q (by omega) (.inr (by omega)) (by omega)⟩
    · rw [Nat.zero_add, hcell _ (by omega) (by omega)]; exact d1
    · rw [Nat.zero_add, hcell _ (by omega) (by omega)]; exact d2
    · rw [Nat.zero_add, hfro]; exact d3
    · rw [Nat.zero_add, hfro]; exact d4
    · rw [Nat.zero_add, hcell _ (by omega) (by omega)]; exact d5

end Go.Proofs.YtbnbogdglffkmaaGreatDoor

/-! XHt: - heldTermS, heldTerm: a tree that counts up is held; markTerm on a tree. -/
namespace Go.Proofs.YtbnbogdglffkmaaGreatDoor
open Go.RowKit Go.Deep

end Go.Proofs.YtbnbogdglffkmaaGreatDoor

/-! PF2: Rows of rows of the call's own, each row in blocks of its own. Definitions and plain lemmas. -/
namespace Go.Proofs.YtbnbogdglffkmaaGreatDoor
open Go.RowKit Go.Deep

/-- A row of numbers of one's own, in blocks from L on below H. -/
structure RwF (w : World) (L H : Nat) (a : Option Addr) (c : Nat) (r : List Int) : Prop where
  own : IOwn w L r a c
  hi : ∀ g, (Value.slice a r.length c).ownBlock = some g → g < H
theorem RwF.same {w w2 : World} {L H : Nat} {a : Option Addr} {c : Nat} {r : List Int} (h : RwF w L H a c r) (hs : ∀ b, L ≤ b → b < H → w2.heap[b]? = w.heap[b]?) : RwF w2 L H a c r := by
  refine ⟨⟨h.own.1, ?_⟩, h.hi⟩
  rcases h.own.2 with h2 | ⟨g, cap, cur, h3, h4, h5, h6⟩
  · exact .inl h2
  · have hg : g < H := h.hi g (by rw [h3]; rfl)
    exact .inr ⟨g, cap, cur, h3, h4, by rw [hs g h4 hg]; exact h5, h6⟩
theorem RwF.sc {w : World} {L H : Nat} {a : Option Addr} {c : Nat} {r : List Int} (h : RwF w L H a c r) : ISc w L H a c r := by
  refine ⟨?_, (isc_of_own h.own).2⟩
  rcases Nat.eq_zero_or_pos r.length with h0 | h0
  · exact .inl (List.eq_nil_of_length_eq_zero h0)
  · obtain ⟨g, cap, hv, hb, hlt⟩ := h.own.form h0
    have hg : g < H := h.hi g (by rw [hv]; rfl)
    rcases h.own.sl with h1 | ⟨b, o, e, h1, h2, h3⟩
    · exact .inl h1
    · simp only [Value.slice.injEq] at hv
      rw [hv.1] at e
      simp only [Option.some.injEq, Addr.mk.injEq] at e
      refine .inr ⟨b, o, by rw [hv.1]; simp [e.1, e.2.1], h1, by omega, h3⟩

/-- The rows lie in row (A, C), row i from block lo i on below hi i, one behind the other. -/
structure RF (w : World) (base : Nat) (rows : List (List Int)) (A : Option Addr) (C : Nat) (xs : List Value) (lo hi : Nat → Nat) : Prop where
  own : w.ownsRow base 71 1 (.slice A rows.length C) rows.length xs
  up : ∀ i j, i < j → j < rows.length → hi i ≤ lo j
  at_ : ∀ (i : Nat) (r : List Int), rows[i]? = some r → ∃ a' c', xs[i]? = some (Value.slice a' r.length c') ∧ RwF w (lo i) (hi i) a' c' r ∧ base ≤ lo i ∧ hi i ≤ w.heap.size ∧ (∀ g, (Value.slice A rows.length C).ownBlock = some g → g < lo i ∨ hi i ≤ g)
def ROwnF (w : World) (base : Nat) (rows : List (List Int)) (A : Option Addr) (C : Nat) : Prop := ∃ xs lo hi, RF w base rows A C xs lo hi
theorem RF.all {w : World} {base : Nat} {rows : List (List Int)} {A : Option Addr} {C : Nat} {xs : List Value} {lo hi : Nat → Nat} (h : RF w base rows A C xs lo hi) :
    ∀ (i : Nat) (r : List Int), rows[i]? = some r → ∃ a' c' L H, xs[i]? = some (Value.slice a' r.length c') ∧ ISc w L H a' c' r ∧ base ≤ L ∧ H ≤ w.heap.size ∧ (∀ g, (Value.slice A rows.length C).ownBlock = some g → g < L ∨ H ≤ g) := fun i r hr => by
  obtain ⟨a', c', hx, hw, h1, h2, h3⟩ := h.at_ i r hr
  exact ⟨a', c', lo i, hi i, hx, hw.sc, h1, h2, h3⟩
theorem ROwnF.to {w : World} {base : Nat} {rows : List (List Int)} {A : Option Addr} {C : Nat} (h : ROwnF w base rows A C) : ROwn w base rows A C := by
  obtain ⟨xs, lo, hi, h⟩ := h
  exact ⟨xs, h.own, h.all⟩
theorem RF.low {w w2 : World} {base base' : Nat} {rows : List (List Int)} {A : Option Addr} {C : Nat} {xs : List Value} {lo hi : Nat → Nat} (h : RF w base rows A C xs lo hi) (hb : Below w.heap.size w w2) (hbase : base' ≤ base) : RF w2 base' rows A C xs lo hi := by
  refine ⟨own_base hbase (own_low hb h.own), h.up, fun i r hr => ?_⟩
  obtain ⟨a', c', hx, hw, h1, h2, h3⟩ := h.at_ i r hr
  exact ⟨a', c', hx, hw.same (fun b _ hb' => hb.block b (by omega)), by omega, Nat.le_trans h2 hb.size, h3⟩
theorem ROwnF.low {w w2 : World} {base base' : Nat} {rows : List (List Int)} {A : Option Addr} {C : Nat} (h : ROwnF w base rows A C) (hb : Below w.heap.size w w2) (hbase : base' ≤ base) : ROwnF w2 base' rows A C := by
  obtain ⟨xs, lo, hi, h⟩ := h
  exact ⟨xs, lo, hi, h.low hb hbase⟩
/-- One more row is appended. -/
theorem RF.append {w w2 w3 : World} {base : Nat} {rows : List (List Int)} {A A' : Option Addr} {C C' : Nat} {blk : Obj} {r : List Int} {a2 : Option Addr} {c2 : Nat} {xs : List Value} {lo hi : Nat → Nat} (h : RF w base rows A C xs lo hi)
    (hown3 : w3.ownsRow base 71 1 (.slice A' (rows.length + 1) C') (rows.length + 1) (xs ++ [.slice a2 r.length c2])) (hb2 : Below w.heap.size w w2) (hi2 : IOwn w2 w.heap.size r a2 c2) (hbase : base ≤ w.heap.size)
    (hgrow : (w2.alloc blk).grownBy w3 (Value.slice A rows.length C).ownBlock) (hat : (Value.slice A' (rows.length + 1) C').ownBlock = (Value.slice A rows.length C).ownBlock ∨ (Value.slice A' (rows.length + 1) C').ownBlock = some (w2.heap.size + 1)) : ROwnF w3 base (rows ++ [r]) A' C' := by
  have hs2 := hb2.size
  have hs3 := hgrow.size
  simp at hs3
  have hxl : xs.length = rows.length := by have := h.own.1; omega
  have hl : (rows ++ [r]).length = rows.length + 1 := by simp
  refine ⟨xs ++ [.slice a2 r.length c2], fun i => if i < rows.length then lo i else w.heap.size, fun i => if i < rows.length then hi i else w2.heap.size, by rw [hl]; exact hown3, fun i j hij hj => ?_, fun i r' hr => ?_⟩
  · rw [hl] at hj
    rw [if_pos (by omega)]
    split
    · exact h.up i j hij (by omega)
    · obtain ⟨a', c', _, _, _, h2, _⟩ := h.at_ i rows[i] (List.getElem?_eq_getElem (by omega))
      exact h2
  have hcond : ∀ {L H : Nat}, (∀ g, (Value.slice A rows.length C).ownBlock = some g → g < L ∨ H ≤ g) → H ≤ w2.heap.size → ∀ g', (Value.slice A' (rows.length + 1) C').ownBlock = some g' → g' < L ∨ H ≤ g' := fun hg hH g' hg' => by
    rcases hat with h1 | h1
    · exact hg g' (by rw [← h1]; exact hg')
    · rw [h1] at hg'; simp at hg'; omega
  by_cases hi' : i < rows.length
  · rw [List.getElem?_append_left hi'] at hr
    obtain ⟨a', c', hx, hsl, hL, hH, hg⟩ := h.at_ i r' hr
    simp only [if_pos hi']
    refine ⟨a', c', by rw [List.getElem?_append_left (by omega)]; exact hx, hsl.same (fun b h1 h2 => ?_), hL, by omega, by rw [hl]; exact hcond hg (by omega)⟩
    rw [hgrow.block b (by simp; omega) (fun e => by have := hg b e.symm; omega), Below.heap_alloc _ _ _ (by omega), hb2.block b (by omega)]
  · have hir : i = rows.length := by
      have := (List.getElem?_eq_some_iff.1 hr).1
      simp at this
      omega
    subst hir
    simp at hr
    subst hr
    simp only [if_neg hi']
    refine ⟨a2, c2, by rw [← hxl]; simp, RwF.same ⟨hi2, fun g hg => (hi2.lt g hg).2⟩ (fun b h1 h2 => ?_), hbase, by omega, by rw [hl]; exact hcond (fun g hg => .inl (h.own.lt _ hg).2) (Nat.le_refl _)⟩
    rw [hgrow.block b (by simp; omega) (fun e => by have := (h.own.lt b e.symm).2; omega), Below.heap_alloc _ _ _ (by omega)]

/-- The first row: the root's own. -/
theorem rownF_start {w w3 : World} (hb : Below ((w.alloc (.cells #[] 3)).alloc (.cells #[.slice (some ⟨w.heap.size, 0, none⟩) 0 0] 71)).heap.size ((w.alloc (.cells #[] 3)).alloc (.cells #[.slice (some ⟨w.heap.size, 0, none⟩) 0 0] 71)) w3) :
    ROwnF w3 w.heap.size [[]] (some ⟨w.heap.size + 1, 0, none⟩) 1 := by
  refine ROwnF.low (w := (w.alloc (.cells #[] 3)).alloc (.cells #[.slice (some ⟨w.heap.size, 0, none⟩) 0 0] 71)) ⟨[.slice (some ⟨w.heap.size, 0, none⟩) 0 0], fun _ => w.heap.size, fun _ => w.heap.size + 1, ⟨rfl, .inr ⟨w.heap.size + 1, 1, #[.slice (some ⟨w.heap.size, 0, none⟩) 0 0], rfl, by omega, ?_, Nat.le_refl _, by decide, rfl, rfl⟩⟩, fun i j h1 h2 => ?_, fun i r hr => ?_⟩ hb (Nat.le_refl _)
  · have := heap_alloc_new (w.alloc (.cells #[] 3)) (.cells #[.slice (some ⟨w.heap.size, 0, none⟩) 0 0] 71)
    simpa using this
  · simp at h2; omega
  · have hi : i = 0 := by
      have := (List.getElem?_eq_some_iff.1 hr).1
      simp at this
      exact this
    subst hi
    simp at hr
    subst hr
    refine ⟨_, 0, rfl, ⟨⟨rfl, .inr ⟨w.heap.size, 0, #[], rfl, Nat.le_refl _, ?_, Nat.le_refl _, by decide, rfl, rfl⟩⟩, fun g hg => by simp [Value.ownBlock] at hg; omega⟩, Nat.le_refl _, by simp, fun g hg => .inr (by simp [Value.ownBlock] at hg; omega)⟩
    rw [Below.heap_alloc _ _ _ (by simp)]
    exact heap_alloc_new _ _
end Go.Proofs.YtbnbogdglffkmaaGreatDoor

/-! RFp: Rows of rows: one row written over. -/
namespace Go.Proofs.YtbnbogdglffkmaaGreatDoor
open Go.RowKit Go.Deep

theorem own_block {W w2 : World} {base : Nat} {e : TypeId} {size : Nat} {v : Value} {n : Nat} {xs : List Value} (h : W.ownsRow base e size v n xs) (hs : ∀ g, v.ownBlock = some g → w2.heap[g]? = W.heap[g]?) : w2.ownsRow base e size v n xs := by
  refine ⟨h.1, ?_⟩
  rcases h.2 with h2 | ⟨g, cap, cur, h3, h4, h5, h6⟩
  · exact .inl h2
  · exact .inr ⟨g, cap, cur, h3, h4, by rw [hs g (by rw [h3]; rfl)]; exact h5, h6⟩

/-- Row j has been written over. -/
theorem RF.mark {w w2 : World} {base : Nat} {cur : List (List Int)} {A : Option Addr} {C : Nat} {xs : List Value} {lo hi : Nat → Nat} {j : Nat} {r r2 : List Int} {a : Option Addr} {c : Nat} (h : RF w base cur A C xs lo hi) (hr : cur[j]? = some r) (hx : xs[j]? = some (Value.slice a r.length c))
    (hl : r2.length = r.length) (hown : IOwn w2 (lo j) r2 a c) (hg : w.grownBy w2 (Value.slice a r.length c).ownBlock) : RF w2 base (cur.set j r2) A C xs lo hi := by
  have hj := (List.getElem?_eq_some_iff.1 hr).1
  obtain ⟨a', c', hx', hw, h1, h2, h3⟩ := h.at_ j r hr
  rw [hx] at hx'
  simp only [Option.some.injEq, Value.slice.injEq] at hx'
  obtain ⟨rfl, _, rfl⟩ := hx'
  have hs := hg.size
  have hb : ∀ g, (Value.slice a r.length c).ownBlock = some g → lo j ≤ g ∧ g < hi j := fun g hgg => ⟨(hw.own.lt g hgg).1, hw.hi g hgg⟩
  refine ⟨?_, fun i k hik hk => h.up i k hik (by rwa [List.length_set] at hk), fun i r' hr' => ?_⟩
  · rw [List.length_set]
    refine own_block h.own fun g hgg => hg.block g (h.own.lt g hgg).2 fun e => ?_
    have := h3 g hgg
    have := hb g e.symm
    omega
  · rw [List.length_set]
    by_cases e : i = j
    · subst e
      rw [List.getElem?_set_self hj] at hr'
      obtain rfl := Option.some.inj hr'
      exact ⟨a, c, by rw [hl]; exact hx, ⟨hown, by rw [hl]; exact hw.hi⟩, h1, by omega, h3⟩
    · rw [List.getElem?_set_ne (fun h => e h.symm)] at hr'
      obtain ⟨a', c', gx, gw, g1, g2, g3⟩ := h.at_ i r' hr'
      refine ⟨a', c', gx, gw.same (fun b hb1 hb2 => hg.block b (by omega) fun eb => ?_), g1, by omega, g3⟩
      have := hb b eb.symm
      have hi' := (List.getElem?_eq_some_iff.1 hr').1
      rcases Nat.lt_or_gt_of_ne e with hij | hij
      · have := h.up i j hij hj; omega
      · have := h.up j i hij hi'; omega
end Go.Proofs.YtbnbogdglffkmaaGreatDoor

/-! WI: l71Bad. -/
namespace Go.Proofs.YtbnbogdglffkmaaGreatDoor
open Go.RowKit Go.Deep
attribute [local go_sem ↓] Go.wp_at_zero Go.wp_at_succ

theorem l1Count_n (N : Nat) (s v : Int) (a : Option Addr) (c : Nat) (k : Fo) (most : Int) (w : World) (n : Nat) (hn : flen k = n) (hl : Sl w 0 w.heap.size a k) (h1 : -1000 ≤ most) (h2 : most ≤ 1000) (h3 : most ≤ N) :
    Calls Tryz.prog 38 #[.agg #[.int .i64 s, .int .i64 v, .slice a n c], .int .i64 most] w fun e w' => e = .returned (.int .i64 (cntT s v k most)) ∧ Below w.heap.size w w' := by
  subst hn
  exact l1Count_any N s v a c k most w hl h1 h2 h3

/-- What holds at the head of the loop that doubles. -/
def BadLoop (w : World) (br p S j : Nat) (wr : World) : Prop :=
  ∃ s v A C k, BadAt w br p s v A (flen k) C wr ∧ Sl wr (w.heap.size + 2) wr.heap.size A k ∧ fsz k + 2 ≤ (S + 1) * 2 ^ j
theorem bad_size {n S j : Nat} (h : n + 2 ≤ (S + 1) * 2 ^ j) (hj : j ≤ 8) (hS : 1 ≤ S) : 1 + n ≤ 1000 * S := by
  have h2 : 2 ^ j ≤ 2 ^ 8 := Nat.pow_le_pow_right (by omega) hj
  have h3 : (S + 1) * 2 ^ j ≤ (S + 1) * 256 := Nat.mul_le_mul (Nat.le_refl _) h2
  omega

set_option maxRecDepth 100000 in
set_option maxHeartbeats 1000000 in
theorem l71Bad_any (s v : Int) (a : Option Addr) (c : Nat) (k : Fo) (br p S : Nat) (w : World) (hl : Sl w 0 w.heap.size a k) (hr : Rd w br p) (hp : p ≤ 100000000) (hS : 1 + fsz k ≤ S) (hS2 : S ≤ 1000) :
    Calls Tryz.prog 25 #[.pointer (some ⟨br, 0, none⟩), .agg #[.int .i64 s, .int .i64 v, .slice a (flen k) c]] w (DrawnPost br p 2 (1000 * S) w) := by
  have hlt := hr.lt
  have hfl := flen_le_sz k
  have HR := Lib.hid hr
  clear hr
  go_enter Tryz.func25, Tryz.ntmps25
  go_wp2_with fail
  with_reducible refine (l1Copy_any (fsz k) s v a c k _ ?_ (Nat.le_refl _) ?_).mono ?_
  · exact (hl.below (((Below.refl _ _).alloc (Nat.le_refl _) _).alloc (by simp) _)).mono (Nat.le_refl _) (by simp; omega)
  · omega
  rintro e w1 ⟨a1, c1, rfl, hb1, hown1⟩
  have hat := (BadAt.start HR.out s v a (flen k) c).more hlt hb1
  have ht0 := hat.t0
  have ht1 := hat.t1
  have ht2 := hat.t2
  have hf0 := hat.f0
  have hf1 := hat.f1
  have hf2 := hat.f2
  have HAT := Lib.hid (((hat.set0 hlt s).set1 hlt v).set2 hlt (A' := a1) (n' := flen k) (C' := c1))
  have HOWN : Hid (Own w1 (w.heap.size + 2) k (flen k) a1 c1) := hown1.low (Below.refl _ _) (by simp)
  clear hb1 hown1 hat
  go_wp2_with fail
  with_reducible refine (pick_any 6 br p _ HAT.out.rd (by omega) (by omega) (by omega)).mono ?_
  rintro e w2 ⟨x, rfl, hx, hb2⟩
  have ha2 : Adv _ br (p + 1) w2 := hb2
  have HAT2 := Lib.hid (HAT.out.call hlt ha2)
  have HOWN2 := Lib.hid ((((HOWN.out.store (by simp) (.int .i64 s) (q := ⟨w.heap.size, 0, none⟩)).store (by simp) (.int .i64 v) (q := ⟨w.heap.size, 1, none⟩)).store (by simp) (.slice a1 (flen k) c1) (q := ⟨w.heap.size, 2, none⟩)).adv ha2 (by omega))
  clear ht0 ht1 ht2 hf0 hf1 hf2 hb2 ha2 HAT HOWN
  by_cases hx0 : x = 0
  · subst hx0
    go_wp2_with fail
    with_reducible refine (pick_any 8 br (p + 1) _ HAT2.out.rd (by omega) (by omega) (by omega)).mono ?_
    rintro e w3 ⟨y, rfl, hy, hb3⟩
    have ha3 : Adv w2 br (p + 1 + 1) w3 := hb3
    have HAT3 := Lib.hid (HAT2.out.call hlt ha3)
    have HOWN3 := Lib.hid (HOWN2.out.adv ha3 (by omega))
    clear hb3 ha3
    have ht0 := HAT3.out.t0
    have ht1 := HAT3.out.t1
    have ht2 := HAT3.out.t2
    have hf0 := HAT3.out.f0
    have hf1 := HAT3.out.f1
    have hf2 := HAT3.out.f2
    have hr0 := HAT3.out.r0
    have hr1 := HAT3.out.r1
    have hr2 := HAT3.out.r2
    have hg0 := HAT3.out.g0
    have hg1 := HAT3.out.g1
    have hg2 := HAT3.out.g2
    have hy8 : (y : Int) < 8 := by omega
    go_wp2_with fail
    refine bodyPost_ret (v := .agg #[.int .i64 ((y : Int) - 1), .int .i64 v, .slice a1 (flen k) c1]) ?_ rfl ((HAT3.out.set0 hlt _).done (by omega) (by omega) (by omega) (HOWN3.out.store (by simp) _).sl)
    simp [results, Tryz.results25, go_sem, hr0, hr1, hr2]
  have x0 : ((x : Int) == 0) = false := by simpa using hx0
  by_cases hx1 : x = 1
  · subst hx1
    go_wp2_with fail
    with_reducible refine (pick_any 3 br (p + 1) _ (HAT2.out.rd.alloc _) (by omega) (by omega) (by omega)).mono ?_
    rintro e w3 ⟨y, rfl, hy, hb3⟩
    have ha3 : Adv (w2.alloc (.cells #[.int .i64 (-1), .int .i64 12, .int .i64 1] 3)) br (p + 1 + 1) w3 := hb3
    have hsz2 := HAT2.out.size
    have HAT3 := Lib.hid ((HAT2.out.more hlt ((Below.refl _ _).alloc (Nat.le_refl _) _)).call hlt ha3)
    have HOWN3 := Lib.hid ((HOWN2.out.low ((Below.refl _ _).alloc (Nat.le_refl _) _) (Nat.le_refl _)).adv ha3 (by omega))
    have hc0 := ha3.cell (q := ⟨w2.heap.size, 0, none⟩) (v := .int .i64 (-1)) (by simp) (by simp; omega)
    have hc1 := ha3.cell (q := ⟨w2.heap.size, 1, none⟩) (v := .int .i64 12) (by simp) (by simp; omega)
    have hc2 := ha3.cell (q := ⟨w2.heap.size, 2, none⟩) (v := .int .i64 1) (by simp) (by simp; omega)
    clear hb3 ha3
    have ht0 := HAT3.out.t0
    have ht1 := HAT3.out.t1
    have ht2 := HAT3.out.t2
    have hf0 := HAT3.out.f0
    have hf1 := HAT3.out.f1
    have hf2 := HAT3.out.f2
    have hr0 := HAT3.out.r0
    have hr1 := HAT3.out.r1
    have hr2 := HAT3.out.r2
    have hg0 := HAT3.out.g0
    have hg1 := HAT3.out.g1
    have hg2 := HAT3.out.g2
    have hy3 : y = 0 ∨ y = 1 ∨ y = 2 := by omega
    rcases hy3 with rfl | rfl | rfl
    · go_wp2_with fail
      refine bodyPost_ret (v := .agg #[.int .i64 s, .int .i64 (-1), .slice a1 (flen k) c1]) ?_ rfl ((HAT3.out.set1 hlt _).done (by omega) (by omega) (by omega) (HOWN3.out.store (by simp) _).sl)
      simp [results, Tryz.results25, go_sem, hr0, hr1, hr2]
    · go_wp2_with fail
      refine bodyPost_ret (v := .agg #[.int .i64 s, .int .i64 12, .slice a1 (flen k) c1]) ?_ rfl ((HAT3.out.set1 hlt _).done (by omega) (by omega) (by omega) (HOWN3.out.store (by simp) _).sl)
      simp [results, Tryz.results25, go_sem, hr0, hr1, hr2]
    · go_wp2_with fail
      refine bodyPost_ret (v := .agg #[.int .i64 s, .int .i64 1, .slice a1 (flen k) c1]) ?_ rfl ((HAT3.out.set1 hlt _).done (by omega) (by omega) (by omega) (HOWN3.out.store (by simp) _).sl)
      simp [results, Tryz.results25, go_sem, hr0, hr1, hr2]
  have x1 : ((x : Int) == 1) = false := by simp; omega
  by_cases hx2 : x = 2
  · subst hx2
    have ht2 := HAT2.out.t2
    have hf2 := HAT2.out.f2
    have hsz2 := HAT2.out.size
    have hu0 : ∀ u : After (w.heap.size + 2) w2, u.world.cell? ⟨w.heap.size, 2, none⟩ = some (.slice a1 (flen k) c1) := fun u => u.cell (by simp) ht2
    obtain ⟨ti, hti, htz, hts, htb⟩ := Tryz.infoTerm
    obtain ⟨xs, hown, hall⟩ := HOWN2.out
    have HTI := Lib.hid hti
    have HTZ := Lib.hid htz
    have HTS := Lib.hid hts
    have HTB := Lib.hid htb
    have HOWN := Lib.hid hown
    have HALL := Lib.hid hall
    have HLT : Hid (∀ g, (Value.slice a1 (flen k) c1).ownBlock = some g → w.heap.size + 2 ≤ g) := fun g hg => (hown.lt g hg).1
    clear hti htz hts htb hown hall
    go_wp2_with fail
    refine wp_region_mix (fun w' => ∃ u : After (w.heap.size + 2) w2, w' = u.world) [5, 6] [(0, 0), (1, 0), (2, 1), (3, 1), (4, 1), (5, 2), (6, 2)] (by kernel_rfl) (by kernel_rfl) ⟨⟨_, (Below.refl _ _).drew⟩, rfl⟩ ?_
    iterate 2
      refine mix_see rfl (fun K hK => ?_)
      go_simp
      refine hK _ ?_
      clear hK K
    clear hu0
    refine mix_hold rfl (fun K hK => ?_)
    go_simp
    with_reducible refine (l71Of_any 1 none 0 0 _).mono ?_
    rintro e w3 ⟨rfl, hb3'⟩
    have hb3 : Below w2.heap.size w2 w3 := bl_undrew hb3'
    have hs3 := hb3.size
    refine hK _ _ ⟨⟨_, hb3.mono (by omega)⟩, rfl⟩ ?_
    clear hK K hb3'
    refine mix_hold rfl (fun K hK => ?_)
    go_simp
    refine hK _ _ ⟨⟨_, (hb3.mono (by omega)).alloc (by omega) _⟩, rfl⟩ ?_
    clear hK K
    refine mix_hold rfl (fun K hK => ?_)
    refine step_append_lies _ (by rfl) _ _ _ (by rfl) (w.heap.size + 2) 25 ti _ 3 40 Tryz.underlying23 HTI.out HTZ.out HTS.out HTB.out rfl (by omega) (.slice a1 (flen k) c1) (flen k) xs (by rfl) (own_low ((Below.refl _ _).alloc (Nat.le_refl _) _) (own_low hb3 HOWN.out)) ⟨w3.heap.size, 0, none⟩ 1 1 [.int .i64 1, .int .i64 0, .slice none (flen .nil) 0] (by rfl) (by rfl) (World.news_of_block (heap_alloc_new _ _)) (by simp [Value.oneCell']) (by omega) (by unfold maxLen; omega) (by omega) (by simp; omega) (w3.heap.size + 1) (by simp) ?_
    intro g cap w4 hown4 hgrow hatg hg4
    have hlow : Below (w.heap.size + 2) w2 w4 := ((hb3.mono (by omega)).alloc (by omega) _).grown hgrow (by simp; omega) HLT.out
    have hz2 : w4.cell? ⟨w.heap.size, 2, none⟩ = some (.slice a1 (flen k) c1) := by rw [hlow.cell (by simp)]; exact ht2
    have hz3 : w4.frozen? ⟨w.heap.size, 2, none⟩ = false := by rw [hlow.frozen (by simp)]; exact hf2
    have hown5 : Own w4 (w.heap.size + 2) (fsnoc k (1, 0)) (flen k + 1) (some ⟨g, 0, none⟩) cap := by
      refine Own.append (k := fsnoc k (1, 0)) (kk := .nil) ⟨xs, HOWN.out, hown4, fun i hi => ?_⟩ hb3 (.inl rfl) (by omega) (fdrop_snoc_end (1, 0) k) hgrow hatg
      obtain ⟨x, y, s', v', kk, a', c', L, H, e, h0, h1, h2, hs, hL, hH, hg⟩ := HALL.out i hi
      exact ⟨x, y, s', v', kk, a', c', L, H, fdrop_snoc _ i k e, h0, h1, h2, hs, hL, hH, hg⟩
    have hat4 : BadAt w br (p + 1) s v a1 (flen k) c1 w4 := HAT2.out.keep hlt hlow (by have := hgrow.size; simp at this; omega)
    have HOWN5 := Lib.hid hown5
    have HAT4 := Lib.hid (hat4.set2 hlt (A' := some ⟨g, 0, none⟩) (n' := flen k + 1) (C' := cap))
    refine hK _ _ ⟨⟨_, hlow⟩, rfl⟩ ?_
    clear hK K hown4 hgrow hatg hown5
    refine mix_late rfl (fun K hK => ?_)
    go_simp
    refine hK _ _ ?_
    clear hK K
    refine mix_late rfl (fun K hK => ?_)
    go_simp
    refine hK _ _ ?_
    clear hK K
    refine mix_end ?_
    clear hz2 hz3 ht2 hf2
    have ht0 := HAT4.out.t0
    have ht1 := HAT4.out.t1
    have ht2 := HAT4.out.t2
    have hf0 := HAT4.out.f0
    have hf1 := HAT4.out.f1
    have hf2 := HAT4.out.f2
    have hr0 := HAT4.out.r0
    have hr1 := HAT4.out.r1
    have hr2 := HAT4.out.r2
    have hg0 := HAT4.out.g0
    have hg1 := HAT4.out.g1
    have hg2 := HAT4.out.g2
    have hkl := flen_snoc (1, 0) k
    have HKL := Lib.hid hkl
    have hks := fsz_snoc (1, 0) k
    have HKS := Lib.hid hks
    clear hkl hks
    go_wp2_with fail
    refine bodyPost_ret (v := .agg #[.int .i64 s, .int .i64 v, .slice (some ⟨g, 0, none⟩) (flen (fsnoc k (1, 0))) cap]) ?_ rfl (BadAt.done (k := fsnoc k (1, 0)) (by rw [HKL.out]; exact HAT4.out) (by omega) (by omega) (by rw [HKS.out]; omega) (Own.sl (by rw [HKL.out]; exact HOWN5.out.store (by simp) _)))
    rw [HKL.out]
    simp [results, Tryz.results25, go_sem, hr0, hr1, hr2]
  have x2 : ((x : Int) == 2) = false := by simp; omega
  by_cases hx3 : x = 3
  · subst hx3
    have HST : Hid (BadLoop w br (p + 1) S 0 w2) := ⟨s, v, a1, c1, k, HAT2.out, HOWN2.out.sl, by omega⟩
    clear HAT2 HOWN2
    go_wp2_with fail
    go_loopw [5] (fun i wr => ∃ j : Nat, j ≤ 8 ∧ i = .int .i64 j ∧ BadLoop w br (p + 1) S j wr) (fun i _ => 8 - (intOf i).toNat)
    case atStart => exact ⟨0, by omega, rfl, HST.out⟩
    case round =>
      clear HST
      obtain ⟨j, hj, rfl, s1, v1, A1, C1, k1, hat, hsl, hbd⟩ := hrel
      have ht0 := hat.t0
      have ht1 := hat.t1
      have ht2 := hat.t2
      have hf0 := hat.f0
      have hf1 := hat.f1
      have hf2 := hat.f2
      have hr0 := hat.r0
      have hr1 := hat.r1
      have hr2 := hat.r2
      have hg0 := hat.g0
      have hg1 := hat.g1
      have hg2 := hat.g2
      have hsz1 := hat.size
      by_cases hlt8 : j < 8
      · have HAT1 := Lib.hid hat
        have HL1 := Lib.hid (kid2 (T := 25) (s := s1) (v := v1) (c := C1) (s' := s1) (v' := v1) (c' := C1) hsl hsl hsz1)
        have HBD := Lib.hid hbd
        clear hat hsl hbd
        go_wp2_with fail
        with_reducible refine (l71Of_any 4 _ 2 2 _).mono ?_
        rintro e w3 ⟨rfl, hb3⟩
        have hat3 := (HAT1.out.more hlt ((Below.refl _ _).alloc (Nat.le_refl _) _)).more hlt hb3
        have hl3 := HL1.out.low hb3
        have hs3 := hat3.size
        have hat4 := ((hat3.set0 hlt 4).set1 hlt 0).set2 hlt (A' := some ⟨wr.heap.size, 0, none⟩) (n' := flen (.node 0 0 (s1, v1) k1 (.node 0 0 (s1, v1) k1 .nil))) (C' := 2)
        have hl4 := ((hl3.store (q := ⟨w.heap.size, 0, none⟩) (by simp) (.int .i64 4)).store (q := ⟨w.heap.size, 1, none⟩) (by simp) (.int .i64 0)).store (q := ⟨w.heap.size, 2, none⟩) (by simp) (.slice (some ⟨wr.heap.size, 0, none⟩) 2 2)
        have hbd4 : fsz (.node 0 0 (s1, v1) k1 (.node 0 0 (s1, v1) k1 .nil)) + 2 ≤ (S + 1) * 2 ^ (j + 1) := by
          have := HBD.out
          rw [Nat.pow_succ, ← Nat.mul_assoc]
          simp only [fsz]
          omega
        clear ht0 ht1 ht2 hf0 hf1 hf2 hr0 hr1 hr2 hg0 hg1 hg2
        have ht0 := hat3.t0
        have ht1 := hat3.t1
        have ht2 := hat3.t2
        have hf0 := hat3.f0
        have hf1 := hat3.f1
        have hf2 := hat3.f2
        have HAT4 := Lib.hid hat4
        have HL4 := Lib.hid hl4
        have HBD4 := Lib.hid hbd4
        clear hat3 hl3 hat4 hl4 hbd4 hb3
        go_wp2_with fail
        with_reducible refine (l1Count_n 60 4 0 (some ⟨wr.heap.size, 0, none⟩) 2 (.node 0 0 (s1, v1) k1 (.node 0 0 (s1, v1) k1 .nil)) 60 _ 2 rfl ?_ ?_ ?_ ?_).mono ?_
        · exact HL4.out.mono (Nat.zero_le _) (by simp)
        · omega
        · omega
        · omega
        rintro e w4 ⟨rfl, hb4⟩
        have hat5 := HAT4.out.more hlt hb4
        have hl5 := (HL4.out.mono (Nat.le_refl _) (show _ ≤ _ by simp)).low hb4
        clear ht0 ht1 ht2 hf0 hf1 hf2
        by_cases hcnt : 60 < cntT 4 0 (.node 0 0 (s1, v1) k1 (.node 0 0 (s1, v1) k1 .nil)) 60
        · have ht0 := hat5.t0
          have ht1 := hat5.t1
          have ht2 := hat5.t2
          have hf0 := hat5.f0
          have hf1 := hat5.f1
          have hf2 := hat5.f2
          have hr0 := hat5.r0
          have hr1 := hat5.r1
          have hr2 := hat5.r2
          have hg0 := hat5.g0
          have hg1 := hat5.g1
          have hg2 := hat5.g2
          have HAT5 := Lib.hid hat5
          have HL5 := Lib.hid hl5
          clear hat5 hl5 hb4
          go_wp2_with fail
          refine bodyPost_ret (v := .agg #[.int .i64 4, .int .i64 0, .slice (some ⟨wr.heap.size, 0, none⟩) 2 2]) ?_ rfl (HAT5.out.done (by omega) (by omega) (bad_size HBD4.out (by omega) (by omega)) HL5.out)
          simp [results, Tryz.results25, go_sem, hr0, hr1, hr2, flen]
        · have HREL : Hid (BadLoop w br (p + 1) S (j + 1) w4) := ⟨4, 0, _, 2, _, hat5, hl5, HBD4.out⟩
          clear hat5 hl5 hb4
          go_wp2_with fail
          go_roundw
          case rel => exact ⟨j + 1, by omega, by go_num, HREL.out⟩
          case measure => simp [intOf]; omega
      · have HAT1 := Lib.hid hat
        have HL1 := Lib.hid hsl
        have HBD := Lib.hid hbd
        clear hat hsl hbd
        go_wp2_with fail
        refine bodyPost_ret (v := .agg #[.int .i64 s1, .int .i64 v1, .slice A1 (flen k1) C1]) ?_ rfl (HAT1.out.done (by omega) (by omega) (bad_size HBD.out (by omega) (by omega)) HL1.out)
        simp [results, Tryz.results25, go_sem, hr0, hr1, hr2]
  have x3 : ((x : Int) == 3) = false := by simp; omega
  have ht0 := HAT2.out.t0
  have ht1 := HAT2.out.t1
  have ht2 := HAT2.out.t2
  have hf0 := HAT2.out.f0
  have hf1 := HAT2.out.f1
  have hf2 := HAT2.out.f2
  have hr0 := HAT2.out.r0
  have hr1 := HAT2.out.r1
  have hr2 := HAT2.out.r2
  have hg0 := HAT2.out.g0
  have hg1 := HAT2.out.g1
  have hg2 := HAT2.out.g2
  cases hk : k with
  | nil =>
    subst hk
    go_wp2_with fail
    refine bodyPost_ret (v := .agg #[.int .i64 s, .int .i64 v, .slice a1 (flen .nil) c1]) ?_ rfl (HAT2.out.done (by omega) (by omega) (by omega) HOWN2.out.sl)
    simp [results, Tryz.results25, go_sem, hr0, hr1, hr2]
  | node x' y' pk kk r =>
    subst hk
    have hpos : 0 < flen (.node x' y' pk kk r) := by simp [flen]
    obtain ⟨g, rfl, hgb, hgl, ⟨u0, hu0⟩, ⟨u1, hu1⟩, ⟨u2, hu2⟩, hz0, hz1, hz2⟩ := own_first HOWN2.out hpos
    have hne : g ≠ w.heap.size := by omega
    have hne1 : g ≠ w.heap.size + 1 := by omega
    have HSL := Lib.hid (own_put0 HOWN2.out 3 0)
    have HATF := Lib.hid (((HAT2.out.far hlt (q := ⟨g, 0, none⟩) hgb (.int .i64 3)).far hlt (q := ⟨g, 1, none⟩) hgb (.int .i64 0)).far hlt (q := ⟨g, 2, none⟩) hgb (.slice none 0 0))
    have hn : flen (.node x' y' pk kk r) = flen r + 1 := rfl
    have HN := Lib.hid hn
    clear hn
    have hS1 : 1 + fsz (BT.node 0 0 ((3 : Int), (0 : Int)) BT.nil r) ≤ 1000 * S := by
      have h3 : fsz (BT.node 0 0 ((3 : Int), (0 : Int)) BT.nil r) = fsz r + 1 := by simp [fsz]
      have h4 : fsz r + 1 ≤ fsz (.node x' y' pk kk r) := by simp only [fsz]; omega
      omega
    have hq0 := HATF.out.r0
    have hq1 := HATF.out.r1
    have hq2 := HATF.out.r2
    go_wp2_with fail
    refine bodyPost_ret (v := .agg #[.int .i64 s, .int .i64 v, .slice (some ⟨g, 0, none⟩) (flen (.node 0 0 (3, 0) .nil r)) c1]) ?_ rfl (BadAt.done (k := .node 0 0 (3, 0) .nil r) HATF.out (by omega) (by omega) hS1 (by simpa using HSL.out))
    simp [results, Tryz.results25, go_sem, hq0, hq1, hq2, flen]
end Go.Proofs.YtbnbogdglffkmaaGreatDoor

/-! WJ0: What the drawn functions of one term end with. -/
namespace Go.Proofs.YtbnbogdglffkmaaGreatDoor
open Go.RowKit Go.Deep

/-- A term of at most that size is handed back, in new memory. -/
def TermPost (S : Nat) (w : World) (e : Ending) (w' : World) : Prop :=
  ∃ s v a c k, e = .returned (.agg #[.int .i64 s, .int .i64 v, .slice a (flen k) c]) ∧ 1 + fsz k ≤ S ∧ Below w.heap.size w w' ∧ Sl w' w.heap.size w'.heap.size a k

theorem adv_low {w w1 w2 : World} {n br p : Nat} (hb : Below n w w1) (h1 : n ≤ br) (h2 : n ≤ w1.heap.size) (ha : Adv w1 br p w2) : Below n w w2 :=
  (hb.setCell (p := ⟨br, 1, none⟩) (by simpa using h1) (.int .i64 p)).trans (Below.mono ha h2)

/-- The result's cells, laid at the call's head, in a later world. -/
theorem res_low {w w2 : World} {x y z : Value} {T : TypeId} (hb : Below (w.heap.size + 1) (w.alloc (.cells #[x, y, z] T)) w2) :
    w2.cell? ⟨w.heap.size, 0, none⟩ = some x ∧ w2.cell? ⟨w.heap.size, 1, none⟩ = some y ∧ w2.cell? ⟨w.heap.size, 2, none⟩ = some z ∧
      w2.frozen? ⟨w.heap.size, 0, none⟩ = false ∧ w2.frozen? ⟨w.heap.size, 1, none⟩ = false ∧ w2.frozen? ⟨w.heap.size, 2, none⟩ = false := by
  refine ⟨?_, ?_, ?_, ?_, ?_, ?_⟩
  iterate 3
    · rw [hb.cell (by simp)]; simp
  iterate 3
    · rw [hb.frozen (by simp)]; simp
theorem term_end {w w2 : World} {S : Nat} {s v : Int} {a : Option Addr} {c : Nat} {k : Fo} {o : Obj} {x y z : Value} (hb : Below (w.heap.size + 1) (w.alloc o) w2) (hS : 1 + fsz k ≤ S) (hl : Sl w2 (w.heap.size + 1) w2.heap.size a k) :
    TermPost S w (.returned (.agg #[.int .i64 s, .int .i64 v, .slice a (flen k) c])) (((w2.setCell ⟨w.heap.size, 0, none⟩ x).setCell ⟨w.heap.size, 1, none⟩ y).setCell ⟨w.heap.size, 2, none⟩ z) := by
  refine ⟨s, v, a, c, k, rfl, hS, (((after_top hb).setCell (by simp) _).setCell (by simp) _).setCell (by simp) _, ?_⟩
  exact (((hl.store (q := ⟨w.heap.size, 0, none⟩) (by simp) x).store (q := ⟨w.heap.size, 1, none⟩) (by simp) y).store (q := ⟨w.heap.size, 2, none⟩) (by simp) z).mono (by omega) (by simp)

theorem Bytes.alloc {w : World} {a : Option Addr} {len : Nat} (h : Bytes w a len) (o : Obj) : Bytes (w.alloc o) a len := by
  rcases h with h | ⟨b, o', e, hb, h⟩
  · exact .inl h
  · refine .inr ⟨b, o', e, by simp; omega, fun i hi => ?_⟩
    obtain ⟨x, hx, hc⟩ := h i hi
    exact ⟨x, hx, by rw [World.cell?_alloc_lt _ _ _ hb]; exact hc⟩
end Go.Proofs.YtbnbogdglffkmaaGreatDoor

/-! WK0: - l71Some. -/
namespace Go.Proofs.YtbnbogdglffkmaaGreatDoor
open Go.RowKit Go.Deep

end Go.Proofs.YtbnbogdglffkmaaGreatDoor
