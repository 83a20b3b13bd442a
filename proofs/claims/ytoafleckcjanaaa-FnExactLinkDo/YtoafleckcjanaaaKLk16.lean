/- Several texts in one: XL, XL2, EQ, XE1. -/
import Derived.Test.YtoafleckcjanaaaKLk15
import Derived.Test.YtoafleckcjanaaaKLk14
import Derived.Test.YtoafleckcjanaaaKLk4

/-! XL: szLink, toLink, eqLink, markLink: a link of the exact laws. -/
namespace Go.Proofs.Ytoafleckcjanaaa
open Go.RowKit Go.Deep

/-- What is left of the room, behind a row of numbers; behind a link. -/
def szIR (n : Nat) (left : Int) : Int := if (n : Int) ≤ left then left - n else -1
def szLR (place : List Int) (bs : List Bd) (left : Int) : Int := if (place.length : Int) ≤ left then szBR bs (left - place.length) else -1
theorem szLR_case (place : List Int) (bs : List Bd) (left : Int) : szLR place bs left = -1 ∨ 0 ≤ szLR place bs left := by
  unfold szLR
  split
  · exact szBR_case _ _
  · exact .inl rfl
theorem szLR_fit {place : List Int} {bs : List Bd} {left : Int} (h : 0 ≤ szLR place bs left) (hl : left ≤ 1048576) : place.length ≤ 1048576 ∧ bs.length + szT bs ≤ 1048576 ∧ szLR place bs left ≤ 1048576 := by
  unfold szLR at h ⊢
  split at h
  · rename_i hp
    have h1 := szBR_fit h (by omega)
    rw [if_pos hp]
    exact ⟨by omega, h1.1, by have := h1.2; omega⟩
  · omega

set_option maxHeartbeats 1000000 in
theorem szIntS_any (xs : List Int) (A : Option Addr) (C : Nat) (left : Int) (w : World) (hm : xs.length ≤ maxLen) (h0 : 0 ≤ left) (h1 : left ≤ 1048576) :
    Calls Try.prog 43 #[.slice A xs.length C, .int .i64 left] w fun e w' => e = .returned (.int .i64 (szIR xs.length left)) ∧ w' = w := by
  have hmx : (xs.length : Int) ≤ 9223372036854775807 := by unfold maxLen at hm; omega
  have hw : IntKind.i64.wrap (left - (xs.length : Int)) = left - xs.length := by rw [IntKind.wrap_i64]; omega
  by_cases hc : (xs.length : Int) ≤ left
  · have g : decide (left - (xs.length : Int) < 0) = false := decide_eq_false (by omega)
    have hr : szIR xs.length left = left - xs.length := if_pos hc
    rw [hr]
    go_enter Try.func43, Try.ntmps43
    go_wp2_with fail
    go_ret
    exact ⟨rfl, rfl⟩
  · have g : decide (left - (xs.length : Int) < 0) = true := decide_eq_true (by omega)
    have hr : szIR xs.length left = -1 := if_neg hc
    rw [hr]
    go_enter Try.func43, Try.ntmps43
    go_wp2_with fail
    go_ret
    exact ⟨rfl, rfl⟩

set_option maxRecDepth 100000 in
set_option maxHeartbeats 2000000 in
theorem szLink_any (eq : Int) (back : Bool) (pA : Option Addr) (pC : Nat) (place : List Int) (B : Option Addr) (D : Nat) (bs : List Bd) (left : Int) (w : World) (hb : BSl w 0 w.heap.size B bs) (hpm : place.length ≤ maxLen) (hbm : bs.length ≤ maxLen) (hall : ∀ x ∈ bs, flen x.2.2.2 ≤ maxLen ∧ fcap x.2.2.2) (h0 : 0 ≤ left) (h1 : left ≤ 1048576) :
    Calls Try.prog 12 #[.agg #[.int .i64 eq, .bool back, .slice pA place.length pC, .slice B bs.length D], .int .i64 left] w fun e w' => e = .returned (.int .i64 (szLR place bs left)) ∧ Below w.heap.size w w' := by
  have hx := box_low w (.cells #[.int .i64 eq, .bool back, .slice pA place.length pC, .slice B bs.length D] 29)
  have HX := Lib.hid hx
  have HB := Lib.hid (hb.next hx)
  have HA := Lib.hid hall
  clear hx hb hall
  obtain ⟨R, hR⟩ : ∃ R, szLR place bs left = R := ⟨_, rfl⟩
  rw [hR]
  have HRR := Lib.hid hR
  clear hR
  go_enter Try.func12, Try.ntmps12
  go_wp2_with fail
  with_reducible refine (szIntS_any place pA pC left _ hpm h0 h1).mono ?_
  rintro e w1 ⟨rfl, rfl⟩
  by_cases hc : (place.length : Int) ≤ left
  · have hi : szIR place.length left = left - place.length := if_pos hc
    have hr : szLR place bs left = szBR bs (left - place.length) := if_pos hc
    have g : decide (left - (place.length : Int) < 0) = false := decide_eq_false (by omega)
    rw [hi]
    have HRV := Lib.hid hr
    clear hi hr
    go_wp2_with fail
    with_reducible refine (szBindS_any bs B D (left - place.length) _ HB.out hbm HA.out (by omega) (by omega)).mono ?_
    rintro e w2 ⟨rfl, hb2⟩
    have HL := Lib.hid (below_next HX.out hb2)
    clear hb2
    rcases szBR_case bs (left - place.length) with hz | hz
    · have HRW : Hid (R = -1) := by rw [Hid, ← HRR.out, HRV.out, hz]
      rw [hz]
      clear hz
      go_wp2_with fail
      go_ret
      exact ⟨by rw [HRW.out]; rfl, HL.out⟩
    · obtain ⟨z, hzE⟩ : ∃ z, szBR bs (left - place.length) = z := ⟨_, rfl⟩
      have HRW : Hid (R = z) := by rw [Hid, ← HRR.out, HRV.out, hzE]
      rw [hzE] at hz ⊢
      clear hzE
      have g2 : decide (z < 0) = false := decide_eq_false (by omega)
      go_wp2_with fail
      go_ret
      exact ⟨by rw [HRW.out]; rfl, HL.out⟩
  · have hi : szIR place.length left = -1 := if_neg hc
    have HRW : Hid (R = -1) := by rw [Hid, ← HRR.out]; exact if_neg hc
    rw [hi]
    clear hi
    go_wp2_with fail
    go_ret
    exact ⟨by rw [HRW.out]; rfl, HX.out⟩

def TolPost (eq : Int) (back : Bool) (place : List Int) (bs : List Bd) (w : World) (e : Ending) (w' : World) : Prop :=
  ∃ pA pC B D M, e = .returned (.agg #[.int .i64 eq, .bool back, .slice pA (List.length place) pC, .slice B (List.length bs) D]) ∧ Below w.heap.size w w' ∧ w.heap.size ≤ M ∧ M ≤ w'.heap.size ∧ IOwn w' w.heap.size place pA pC ∧ (∀ g, (Value.slice pA (List.length place) pC).ownBlock = some g → w.heap.size ≤ g ∧ g < M) ∧ BS w' M w'.heap.size bs B

set_option maxRecDepth 100000 in
set_option maxHeartbeats 2000000 in
theorem toLink_any (eq : Int) (back : Bool) (pA : Option Addr) (pC : Nat) (place : List Int) (B : Option Addr) (D : Nat) (bs : List Bd) (w : World) (hp : ISl w 0 w.heap.size pA place) (hb : BSl w 0 w.heap.size B bs) (hpl : place.length ≤ 1048576) (hbl : bs.length ≤ 1048576) (hz : ∀ x ∈ bs, fsz x.2.2.2 ≤ 1048576) :
    Calls Try.prog 16 #[.agg #[.int .i64 eq, .bool back, .slice pA place.length pC, .slice B bs.length D]] w (TolPost eq back place bs w) := by
  have HP0 := Lib.hid hp
  have HB0 := Lib.hid hb
  have HZ := Lib.hid hz
  clear hp hb hz
  go_enter Try.func16, Try.ntmps16
  go_wp2_with fail
  have hb3 : Below w.heap.size w (((w.alloc (.cells #[.int .i64 eq, .bool back, .slice pA place.length pC, .slice B bs.length D] 29)).alloc (.cells #[.int .i64 0, .bool false, .slice none 0 0, .slice none 0 0] 43)).alloc (.cells #[.int .i64 eq, .bool back, .slice none 0 0, .slice none 0 0] 43)) := (((Below.refl _ _).alloc (Nat.le_refl _) _).alloc (by simp) _).alloc (by simp; omega) _
  have HP := Lib.hid (HP0.out.next hb3)
  have HLOWC := Lib.hid hb3
  have HC3 : Hid ((∀ i x, #[Value.int .i64 eq, .bool back, .slice pA place.length pC, .slice B bs.length D][i]? = some x → (((w.alloc (.cells #[.int .i64 eq, .bool back, .slice pA place.length pC, .slice B bs.length D] 29)).alloc (.cells #[.int .i64 0, .bool false, .slice none 0 0, .slice none 0 0] 43)).alloc (.cells #[.int .i64 eq, .bool back, .slice none 0 0, .slice none 0 0] 43)).cell? ⟨w.heap.size, i, none⟩ = some x) ∧ (∀ i x, #[Value.int .i64 0, .bool false, .slice none 0 0, .slice none 0 0][i]? = some x → (((w.alloc (.cells #[.int .i64 eq, .bool back, .slice pA place.length pC, .slice B bs.length D] 29)).alloc (.cells #[.int .i64 0, .bool false, .slice none 0 0, .slice none 0 0] 43)).alloc (.cells #[.int .i64 eq, .bool back, .slice none 0 0, .slice none 0 0] 43)).cell? ⟨w.heap.size + 1, i, none⟩ = some x) ∧ (∀ i x, #[Value.int .i64 eq, .bool back, .slice none 0 0, .slice none 0 0][i]? = some x → (((w.alloc (.cells #[.int .i64 eq, .bool back, .slice pA place.length pC, .slice B bs.length D] 29)).alloc (.cells #[.int .i64 0, .bool false, .slice none 0 0, .slice none 0 0] 43)).alloc (.cells #[.int .i64 eq, .bool back, .slice none 0 0, .slice none 0 0] 43)).cell? ⟨w.heap.size + 1 + 1, i, none⟩ = some x) ∧ (∀ i, (((w.alloc (.cells #[.int .i64 eq, .bool back, .slice pA place.length pC, .slice B bs.length D] 29)).alloc (.cells #[.int .i64 0, .bool false, .slice none 0 0, .slice none 0 0] 43)).alloc (.cells #[.int .i64 eq, .bool back, .slice none 0 0, .slice none 0 0] 43)).frozen? ⟨w.heap.size + 1, i, none⟩ = false) ∧ (∀ i, (((w.alloc (.cells #[.int .i64 eq, .bool back, .slice pA place.length pC, .slice B bs.length D] 29)).alloc (.cells #[.int .i64 0, .bool false, .slice none 0 0, .slice none 0 0] 43)).alloc (.cells #[.int .i64 eq, .bool back, .slice none 0 0, .slice none 0 0] 43)).frozen? ⟨w.heap.size + 1 + 1, i, none⟩ = false)) := by
    refine ⟨fun i x hx => ?_, fun i x hx => ?_, fun i x hx => ?_, fun i => ?_, fun i => ?_⟩
    · rw [World.cell?_alloc_lt _ _ _ (by simp; omega), World.cell?_alloc_lt _ _ _ (by simp), World.cell?_alloc_at _ _ _ _ (by simp)]; exact hx
    · rw [World.cell?_alloc_lt _ _ _ (by simp), World.cell?_alloc_at _ _ _ _ (by simp)]; exact hx
    · rw [World.cell?_alloc_at _ _ _ _ (by simp)]; exact hx
    · rw [World.frozen?_alloc_past _ _ _ (by simp), World.frozen?_alloc_at _ _ _ _ (by simp)]
    · rw [World.frozen?_alloc_at _ _ _ _ (by simp)]
  have hs3 : (((w.alloc (.cells #[.int .i64 eq, .bool back, .slice pA place.length pC, .slice B bs.length D] 29)).alloc (.cells #[.int .i64 0, .bool false, .slice none 0 0, .slice none 0 0] 43)).alloc (.cells #[.int .i64 eq, .bool back, .slice none 0 0, .slice none 0 0] 43)).heap.size = w.heap.size + 3 := by simp
  clear hb3
  generalize (((w.alloc (.cells #[.int .i64 eq, .bool back, .slice pA place.length pC, .slice B bs.length D] 29)).alloc (.cells #[.int .i64 0, .bool false, .slice none 0 0, .slice none 0 0] 43)).alloc (.cells #[.int .i64 eq, .bool back, .slice none 0 0, .slice none 0 0] 43)) = w3 at *
  with_reducible refine (toIntS_any place pA pC _ HP.out hpl).mono ?_
  rintro e w4 ⟨A4, C4, rfl, hown, hb4⟩
  have HOWN := Lib.hid hown
  have HLOW4 := Lib.hid (below_next HLOWC.out hb4)
  have hs4 := hb4.size
  have a3 := cell_low hb4 (HC3.out.1 3 _ rfl)
  have o2 := cell_low hb4 (HC3.out.2.2.1 2 _ rfl)
  have fo2 := (hb4.frozen (p := ⟨w.heap.size + 1 + 1, 2, none⟩) (by dsimp only; omega)).trans (HC3.out.2.2.2.2 2)
  have HB4 := Lib.hid hb4
  clear hown hb4
  have a3' : (w4.setCell ⟨w.heap.size + 1 + 1, 2, none⟩ (.slice A4 place.length C4)).cell? ⟨w.heap.size, 3, none⟩ = some (.slice B bs.length D) := by rw [World.cell?_setCell_other _ _ _ _ (by simp)]; exact a3
  go_wp2_with fail
  have HS5 : Hid (Below w.heap.size w (w4.setCell ⟨w.heap.size + 1 + 1, 2, none⟩ (.slice A4 place.length C4))) := HLOW4.out.setCell (by dsimp only; omega) _
  have hbs : BSl (w4.setCell ⟨w.heap.size + 1 + 1, 2, none⟩ (.slice A4 place.length C4)) 0 (w4.setCell ⟨w.heap.size + 1 + 1, 2, none⟩ (.slice A4 place.length C4)).heap.size B bs := HB0.out.next HS5.out
  with_reducible refine (toBindS_any bs B D _ hbs hbl HZ.out).mono ?_
  rintro e w6 ⟨B6, D6, rfl, hb6, hbs6⟩
  simp only [World.size_setCell] at hbs6
  have hs6 := hb6.size
  simp at hs6
  have HC4 : Hid ((∀ i x, i ≠ 2 → #[Value.int .i64 eq, .bool back, .slice none 0 0, .slice none 0 0][i]? = some x → w6.cell? ⟨w.heap.size + 1 + 1, i, none⟩ = some x) ∧ w6.cell? ⟨w.heap.size + 1 + 1, 2, none⟩ = some (.slice A4 place.length C4) ∧ (∀ i x, #[Value.int .i64 0, .bool false, .slice none 0 0, .slice none 0 0][i]? = some x → w6.cell? ⟨w.heap.size + 1, i, none⟩ = some x)) := by
    refine ⟨fun i x hi hx => cell_low hb6 ?_, cell_low hb6 (World.cell?_setCell_same _ _ _ o2), fun i x hx => cell_low hb6 ?_⟩
    · rw [World.cell?_setCell_other _ _ _ _ (by intro e; simp only [Addr.mk.injEq] at e; omega)]
      exact cell_low HB4.out (HC3.out.2.2.1 i x hx)
    · rw [World.cell?_setCell_other _ _ _ _ (by intro e; simp only [Addr.mk.injEq] at e; omega)]
      exact cell_low HB4.out (HC3.out.2.1 i x hx)
  have hf6 : ∀ b i, b < w4.heap.size → w6.frozen? ⟨b, i, none⟩ = w4.frozen? ⟨b, i, none⟩ := fun b i hb => (hb6.frozen (p := ⟨b, i, none⟩) (by simpa using hb)).trans (World.frozen?_setCell _ _ _ _)
  have fo3 : w6.frozen? ⟨w.heap.size + 1 + 1, 3, none⟩ = false := (hf6 _ _ (by omega)).trans ((HB4.out.frozen (p := ⟨w.heap.size + 1 + 1, 3, none⟩) (by dsimp only; omega)).trans (HC3.out.2.2.2.2 3))
  have hfr : ∀ i, w6.frozen? ⟨w.heap.size + 1, i, none⟩ = false := fun i => (hf6 _ _ (by omega)).trans ((HB4.out.frozen (p := ⟨w.heap.size + 1, i, none⟩) (by dsimp only; omega)).trans (HC3.out.2.2.2.1 i))
  have fr0 := hfr 0
  have fr1 := hfr 1
  have fr2 := hfr 2
  have fr3 := hfr 3
  have p0 := HC4.out.1 0 _ (by decide) rfl
  have p1 := HC4.out.1 1 _ (by decide) rfl
  have p2 := HC4.out.2.1
  have p3 := HC4.out.1 3 _ (by decide) rfl
  have r0 := HC4.out.2.2 0 _ rfl
  have r1 := HC4.out.2.2 1 _ rfl
  have r2 := HC4.out.2.2 2 _ rfl
  have r3 := HC4.out.2.2 3 _ rfl
  have hne : ∀ {i j : Nat}, i ≠ j → (⟨w.heap.size + 1 + 1, i, none⟩ : Addr) ≠ ⟨w.heap.size + 1 + 1, j, none⟩ := fun h e => h (congrArg Addr.off e)
  have s0 : (w6.setCell ⟨w.heap.size + 1 + 1, 3, none⟩ (.slice B6 bs.length D6)).cell? ⟨w.heap.size + 1 + 1, 0, none⟩ = some (.int .i64 eq) := by rw [World.cell?_setCell_other _ _ _ _ (hne (by decide))]; exact p0
  have s1 : (w6.setCell ⟨w.heap.size + 1 + 1, 3, none⟩ (.slice B6 bs.length D6)).cell? ⟨w.heap.size + 1 + 1, 1, none⟩ = some (.bool back) := by rw [World.cell?_setCell_other _ _ _ _ (hne (by decide))]; exact p1
  have s2 : (w6.setCell ⟨w.heap.size + 1 + 1, 3, none⟩ (.slice B6 bs.length D6)).cell? ⟨w.heap.size + 1 + 1, 2, none⟩ = some (.slice A4 place.length C4) := by rw [World.cell?_setCell_other _ _ _ _ (hne (by decide))]; exact p2
  have s3 : (w6.setCell ⟨w.heap.size + 1 + 1, 3, none⟩ (.slice B6 bs.length D6)).cell? ⟨w.heap.size + 1 + 1, 3, none⟩ = some (.slice B6 bs.length D6) := World.cell?_setCell_same _ _ _ p3
  obtain ⟨t0', t1', t2', t3'⟩ : (w6.setCell ⟨w.heap.size + 1 + 1, 3, none⟩ (.slice B6 bs.length D6)).cell? ⟨w.heap.size + 1, 0, none⟩ = some (.int .i64 0) ∧ (w6.setCell ⟨w.heap.size + 1 + 1, 3, none⟩ (.slice B6 bs.length D6)).cell? ⟨w.heap.size + 1, 1, none⟩ = some (.bool false) ∧ (w6.setCell ⟨w.heap.size + 1 + 1, 3, none⟩ (.slice B6 bs.length D6)).cell? ⟨w.heap.size + 1, 2, none⟩ = some (.slice none 0 0) ∧ (w6.setCell ⟨w.heap.size + 1 + 1, 3, none⟩ (.slice B6 bs.length D6)).cell? ⟨w.heap.size + 1, 3, none⟩ = some (.slice none 0 0) :=
    ⟨by rw [World.cell?_setCell_other _ _ _ _ (by simp)]; exact r0, by rw [World.cell?_setCell_other _ _ _ _ (by simp)]; exact r1, by rw [World.cell?_setCell_other _ _ _ _ (by simp)]; exact r2, by rw [World.cell?_setCell_other _ _ _ _ (by simp)]; exact r3⟩
  have HEND : Hid (TolPost eq back place bs w (.returned (.agg #[.int .i64 eq, .bool back, .slice A4 place.length C4, .slice B6 bs.length D6])) (((((w6.setCell ⟨w.heap.size + 1 + 1, 3, none⟩ (.slice B6 bs.length D6)).setCell ⟨w.heap.size + 1, 0, none⟩ (.int .i64 eq)).setCell ⟨w.heap.size + 1, 1, none⟩ (.bool back)).setCell ⟨w.heap.size + 1, 2, none⟩ (.slice A4 place.length C4)).setCell ⟨w.heap.size + 1, 3, none⟩ (.slice B6 bs.length D6))) := by
    have hb6' : Below w.heap.size w w6 := below_next HS5.out hb6
    have hsm : ∀ {L H : Nat}, w.heap.size + 3 ≤ L → Same L H w6 (((((w6.setCell ⟨w.heap.size + 1 + 1, 3, none⟩ (.slice B6 bs.length D6)).setCell ⟨w.heap.size + 1, 0, none⟩ (.int .i64 eq)).setCell ⟨w.heap.size + 1, 1, none⟩ (.bool back)).setCell ⟨w.heap.size + 1, 2, none⟩ (.slice A4 place.length C4)).setCell ⟨w.heap.size + 1, 3, none⟩ (.slice B6 bs.length D6)) := fun hL => by
      iterate 5 refine Same.setCell ?_ (.inl (by dsimp only; omega)) _
      exact fun _ _ _ => rfl
    have ho6 : IOwn w6 w3.heap.size place A4 C4 := by
      have h1 : IOwn (w4.setCell ⟨w.heap.size + 1 + 1, 2, none⟩ (.slice A4 place.length C4)) w3.heap.size place A4 C4 := ownsRow_setCell_below HOWN.out (by dsimp only; omega) _
      exact h1.low hb6
    refine ⟨A4, C4, B6, D6, w4.heap.size, rfl, ?_, by omega, by simp; omega, ?_, fun g hg => by have h1 := HOWN.out.lt g hg; omega, ?_⟩
    · exact ((((hb6'.setCell (by dsimp only; omega) _).setCell (by dsimp only; omega) _).setCell (by dsimp only; omega) _).setCell (by dsimp only; omega) _).setCell (by dsimp only; omega) _
    · have h5 := ownsRow_setCell_below (ownsRow_setCell_below (ownsRow_setCell_below (ownsRow_setCell_below (ownsRow_setCell_below ho6 (a := ⟨w.heap.size + 1 + 1, 3, none⟩) (by dsimp only; omega) (.slice B6 bs.length D6)) (a := ⟨w.heap.size + 1, 0, none⟩) (by dsimp only; omega) (.int .i64 eq)) (a := ⟨w.heap.size + 1, 1, none⟩) (by dsimp only; omega) (.bool back)) (a := ⟨w.heap.size + 1, 2, none⟩) (by dsimp only; omega) (.slice A4 place.length C4)) (a := ⟨w.heap.size + 1, 3, none⟩) (by dsimp only; omega) (.slice B6 bs.length D6)
      exact IOwn.base h5 (by omega)
    · have hsz : (((((w6.setCell ⟨w.heap.size + 1 + 1, 3, none⟩ (.slice B6 bs.length D6)).setCell ⟨w.heap.size + 1, 0, none⟩ (.int .i64 eq)).setCell ⟨w.heap.size + 1, 1, none⟩ (.bool back)).setCell ⟨w.heap.size + 1, 2, none⟩ (.slice A4 place.length C4)).setCell ⟨w.heap.size + 1, 3, none⟩ (.slice B6 bs.length D6)).heap.size = w6.heap.size := by simp
      rw [hsz]
      exact hbs6.same (hsm (by omega))
  clear hb6 hbs6 hbs HS5 HLOW4 HOWN HC3 HC4 HLOWC HP HB4 hf6 hfr hne r0 r1 r2 r3 a3 a3' o2 fo2
  go_wp2_with fail
  refine bodyPost_ret (v := .agg #[.int .i64 eq, .bool back, .slice A4 place.length C4, .slice B6 bs.length D6]) ?_ rfl HEND.out
  simp [results, Try.results16, go_sem, t0', t1', t2', t3']
end Go.Proofs.Ytoafleckcjanaaa

/-! XL2: eqLink on equal links, markLink. -/
namespace Go.Proofs.Ytoafleckcjanaaa
open Go.RowKit Go.Deep

set_option maxRecDepth 100000 in
set_option maxHeartbeats 2000000 in
theorem eqLink_same (eq : Int) (back : Bool) (pA : Option Addr) (pC : Nat) (place : List Int) (B : Option Addr) (D : Nat) (bs : List Bd) (pA' : Option Addr) (pC' : Nat) (B' : Option Addr) (D' : Nat) (w : World) (hp : ISl w 0 w.heap.size pA place) (hb : BSl w 0 w.heap.size B bs) (hp' : ISl w 0 w.heap.size pA' place) (hb' : BSl w 0 w.heap.size B' bs) (hpl : place.length ≤ 1048576) (hbl : bs.length ≤ 1048576) (hz : ∀ x ∈ bs, fsz x.2.2.2 ≤ 1048576) :
    Calls Try.prog 20 #[.agg #[.int .i64 eq, .bool back, .slice pA place.length pC, .slice B bs.length D], .agg #[.int .i64 eq, .bool back, .slice pA' place.length pC', .slice B' bs.length D']] w fun e w' => e = .returned (.bool true) ∧ Below w.heap.size w w' := by
  have hx : Below w.heap.size w ((w.alloc (.cells #[.int .i64 eq, .bool back, .slice pA place.length pC, .slice B bs.length D] 43)).alloc (.cells #[.int .i64 eq, .bool back, .slice pA' place.length pC', .slice B' bs.length D'] 43)) := ((Below.refl _ _).alloc (Nat.le_refl _) _).alloc (by simp) _
  have HX := Lib.hid hx
  have HP := Lib.hid (hp.next hx)
  have HB := Lib.hid (hb.next hx)
  have HP' := Lib.hid (hp'.next hx)
  have HB' := Lib.hid (hb'.next hx)
  have HZ := Lib.hid hz
  have en : (back != back) = false := by simp
  have c0 : ∀ i, ((w.alloc (.cells #[.int .i64 eq, .bool back, .slice pA place.length pC, .slice B bs.length D] 43)).alloc (.cells #[.int .i64 eq, .bool back, .slice pA' place.length pC', .slice B' bs.length D'] 43)).cell? ⟨w.heap.size, i, none⟩ = #[Value.int .i64 eq, .bool back, .slice pA place.length pC, .slice B bs.length D][i]? := fun i => by rw [World.cell?_alloc_lt _ _ _ (by simp), World.cell?_alloc_at _ _ _ _ (by simp)]
  have c1 : ∀ i, ((w.alloc (.cells #[.int .i64 eq, .bool back, .slice pA place.length pC, .slice B bs.length D] 43)).alloc (.cells #[.int .i64 eq, .bool back, .slice pA' place.length pC', .slice B' bs.length D'] 43)).cell? ⟨w.heap.size + 1, i, none⟩ = #[Value.int .i64 eq, .bool back, .slice pA' place.length pC', .slice B' bs.length D'][i]? := fun i => by rw [World.cell?_alloc_at _ _ _ _ (by simp)]
  have HC := Lib.hid (And.intro (c0 3) (c1 3))
  clear hx hp hb hp' hb' hz c0 c1
  go_enter Try.func20, Try.ntmps20
  go_wp2_with fail
  with_reducible refine (eqIntS_same place pA pA' pC pC' _ _ _ HP.out HP'.out rfl rfl hpl).mono ?_
  rintro e w1 ⟨rfl, hb1⟩
  have HL1 := Lib.hid (below_next HX.out hb1)
  have HB1 := Lib.hid (HB.out.next hb1)
  have HB1' := Lib.hid (HB'.out.next hb1)
  have d0 : w1.cell? ⟨w.heap.size, 3, none⟩ = some (.slice B bs.length D) := cell_low hb1 HC.out.1
  have d1 : w1.cell? ⟨w.heap.size + 1, 3, none⟩ = some (.slice B' bs.length D') := cell_low hb1 HC.out.2
  clear hb1 HP HB HP' HB' HX
  go_wp2_with fail
  with_reducible refine (eqBindS_same bs B B' D D' _ HB1.out HB1'.out hbl HZ.out).mono ?_
  rintro e w2 ⟨rfl, hb2⟩
  have HL2 := Lib.hid (below_next HL1.out hb2)
  clear hb2
  go_wp2_with fail
  go_ret
  exact ⟨rfl, HL2.out⟩

set_option maxRecDepth 100000 in
set_option maxHeartbeats 2000000 in
theorem markLink_any (eq : Int) (back : Bool) (pA : Option Addr) (pC : Nat) (place : List Int) (B : Option Addr) (D : Nat) (bs : List Bd) (L M H : Nat) (m : Int) (w : World) (ho : IOwn w L place pA pC) (hg : ∀ g, (Value.slice pA place.length pC).ownBlock = some g → L ≤ g ∧ g < M) (hb : BS w M H bs B) (hLM : L ≤ M) (hMH : M ≤ H) (hH : H ≤ w.heap.size) (hpl : place.length ≤ 1048576) (hbl : bs.length ≤ 1048576) (hz : ∀ x ∈ bs, fsz x.2.2.2 ≤ 1048576) (hm0 : 0 ≤ m) (hm1 : m + place.length ≤ 5000000) (hmm : mcn bs ≤ 4000000) :
    Calls Try.prog 23 #[.agg #[.int .i64 eq, .bool back, .slice pA place.length pC, .slice B bs.length D], .int .i64 m] w fun e w' => e = .returned (.int .i64 (m + place.length + mcn bs)) ∧ Below L w w' ∧ ∀ b, H ≤ b → b < w.heap.size → w'.heap[b]? = w.heap[b]? := by
  have hx := box_low w (.cells #[.int .i64 eq, .bool back, .slice pA place.length pC, .slice B bs.length D] 43)
  have HX := Lib.hid hx
  have HO := Lib.hid (ho.low hx)
  have HB : Hid (BS (w.alloc (.cells #[.int .i64 eq, .bool back, .slice pA place.length pC, .slice B bs.length D] 43)) M H bs B) := hb.same (Same.of_below (hx.mono hH))
  have HG := Lib.hid hg
  have HZ := Lib.hid hz
  have c3 : (w.alloc (.cells #[.int .i64 eq, .bool back, .slice pA place.length pC, .slice B bs.length D] 43)).cell? ⟨w.heap.size, 3, none⟩ = some (.slice B bs.length D) := by rw [World.cell?_alloc_at _ _ _ _ (by simp)]; rfl
  have HC := Lib.hid c3
  clear hx ho hb hg hz c3
  go_enter Try.func23, Try.ntmps23
  go_wp2_with fail
  with_reducible refine (markIntS_any L place pA pC m _ HO.out hpl hm0 (by omega)).mono ?_
  rintro e w1 ⟨rfl, hown1, hgrow⟩
  have hs1 := hgrow.size
  simp at hs1
  have hnog : ∀ b, M ≤ b → (Value.slice pA place.length pC).ownBlock ≠ some b := fun b hb e => by have := HG.out b e; omega
  have HB1 : Hid (BS w1 M H bs B) := HB.out.same (fun b h1 h2 => hgrow.block b (by simp; omega) (fun e => hnog b h1 e.symm))
  have HLOW : Hid (Below L w w1) := Below.grown ((Below.refl _ _).alloc (by omega) _) hgrow (by simp; omega) (fun g hg => (HG.out g hg).1)
  have HFAR : Hid (∀ b, H ≤ b → b < w.heap.size → w1.heap[b]? = w.heap[b]?) := fun b h1 h2 => by rw [hgrow.block b (by simp; omega) (fun e => hnog b (by omega) e.symm)]; exact HX.out.block b h2
  have d3 := hgrow.cell HC.out (fun e => hnog w.heap.size (by omega) e.symm)
  clear hown1 hgrow HX HO HB HC
  go_wp2_with fail
  with_reducible refine (markBindSs_any bs B D M H (m + place.length) _ HB1.out (by omega) hbl HZ.out (by omega) (by omega) hmm).mono ?_
  rintro e w2 ⟨rfl, hb2, hf2⟩
  have HL2 : Hid (Below L w w2) := HLOW.out.trans (hb2.mono hLM)
  have HF2 : Hid (∀ b, H ≤ b → b < w.heap.size → w2.heap[b]? = w.heap[b]?) := fun b h1 h2 => (hf2 b h1 (by omega)).trans (HFAR.out b h1 h2)
  clear hb2 hf2 d3
  go_wp2_with fail
  go_ret
  exact ⟨rfl, HL2.out, HF2.out⟩
end Go.Proofs.Ytoafleckcjanaaa

/-! EQ: Lists of equations as plain data, and in memory as rows of six cells. Definitions and plain lemmas. -/
namespace Go.Proofs.Ytoafleckcjanaaa
open Go.RowKit Go.Deep

/-- A sign, a variable, the kids. -/
abbrev Tm3 := Int × Int × Fo
/-- Both sides of an equation. -/
abbrev Eqd := Tm3 × Tm3
def okT3 (room : Int) (t : Tm3) : Bool := okW t.1 t.2.1 t.2.2 room
/-- A slice's address at which the equations es lie. -/
def ESl (w : World) (lo B : Nat) (a : Option Addr) (es : List Eqd) : Prop :=
  es = [] ∨ ∃ b o, a = some ⟨b, o, none⟩ ∧ lo ≤ b ∧ b < B ∧ ∀ (i : Nat) (x : Eqd), es[i]? = some x → ∃ a1 c1 a2 c2, w.cell? ⟨b, o + i * 6, none⟩ = some (.int .i64 x.1.1) ∧ w.cell? ⟨b, o + i * 6 + 1, none⟩ = some (.int .i64 x.1.2.1) ∧ w.cell? ⟨b, o + i * 6 + 2, none⟩ = some (.slice a1 (flen x.1.2.2) c1) ∧
    w.cell? ⟨b, o + i * 6 + 3, none⟩ = some (.int .i64 x.2.1) ∧ w.cell? ⟨b, o + i * 6 + 3 + 1, none⟩ = some (.int .i64 x.2.2.1) ∧ w.cell? ⟨b, o + i * 6 + 3 + 2, none⟩ = some (.slice a2 (flen x.2.2.2) c2) ∧ Sl w lo B a1 x.1.2.2 ∧ Sl w lo B a2 x.2.2.2
theorem ESl.same {w w' : World} {lo B : Nat} {a : Option Addr} {es : List Eqd} (hb : Same lo B w w') (h : ESl w lo B a es) : ESl w' lo B a es := by
  rcases h with h | ⟨b, o, e, h1, h2, h3⟩
  · exact .inl h
  · refine .inr ⟨b, o, e, h1, h2, fun i x hx => ?_⟩
    obtain ⟨a1, k1, a2, k2, c0, c1, c2, c3, c4, c5, hl, hl2⟩ := h3 i x hx
    exact ⟨a1, k1, a2, k2, by rw [hb.cell h1 h2]; exact c0, by rw [hb.cell h1 h2]; exact c1, by rw [hb.cell h1 h2]; exact c2, by rw [hb.cell h1 h2]; exact c3, by rw [hb.cell h1 h2]; exact c4, by rw [hb.cell h1 h2]; exact c5, hl.same hb, hl2.same hb⟩
theorem ESl.mono {w : World} {lo lo' B B' : Nat} {a : Option Addr} {es : List Eqd} (hlo : lo' ≤ lo) (hB : B ≤ B') (h : ESl w lo B a es) : ESl w lo' B' a es := by
  rcases h with h | ⟨b, o, e, h1, h2, h3⟩
  · exact .inl h
  · refine .inr ⟨b, o, e, by omega, by omega, fun i x hx => ?_⟩
    obtain ⟨a1, k1, a2, k2, c0, c1, c2, c3, c4, c5, hl, hl2⟩ := h3 i x hx
    exact ⟨a1, k1, a2, k2, c0, c1, c2, c3, c4, c5, hl.mono hlo hB, hl2.mono hlo hB⟩
theorem ESl.below {w w' : World} {lo B : Nat} {a : Option Addr} {es : List Eqd} (hb : Below B w w') (h : ESl w lo B a es) : ESl w' lo B a es := h.same (Same.of_below hb)
theorem ESl.next {w w' : World} {a : Option Addr} {es : List Eqd} (h : ESl w 0 w.heap.size a es) (hb : Below w.heap.size w w') : ESl w' 0 w'.heap.size a es := (h.below hb).mono (Nat.le_refl _) hb.size
/-- What the cells of an equation hold. -/
theorem ESl.at {w : World} {lo B : Nat} {a : Option Addr} {es : List Eqd} (h : ESl w lo B a es) {i : Nat} {x : Eqd} (hx : es[i]? = some x) :
    ∃ b o, a = some ⟨b, o, none⟩ ∧ lo ≤ b ∧ b < B ∧ ∃ a1 c1 a2 c2, w.cell? ⟨b, o + i * 6, none⟩ = some (.int .i64 x.1.1) ∧ w.cell? ⟨b, o + i * 6 + 1, none⟩ = some (.int .i64 x.1.2.1) ∧ w.cell? ⟨b, o + i * 6 + 2, none⟩ = some (.slice a1 (flen x.1.2.2) c1) ∧
    w.cell? ⟨b, o + i * 6 + 3, none⟩ = some (.int .i64 x.2.1) ∧ w.cell? ⟨b, o + i * 6 + 3 + 1, none⟩ = some (.int .i64 x.2.2.1) ∧ w.cell? ⟨b, o + i * 6 + 3 + 2, none⟩ = some (.slice a2 (flen x.2.2.2) c2) ∧ Sl w lo B a1 x.1.2.2 ∧ Sl w lo B a2 x.2.2.2 := by
  rcases h with rfl | ⟨b, o, e, h1, h2, h3⟩
  · simp at hx
  · exact ⟨b, o, e, h1, h2, h3 i x hx⟩

/-- An equation of valid terms. -/
def okE (x : Eqd) : Bool := okT3 16 x.1 && okT3 16 x.2
/-- A valid equation list. -/
def okEs (es : List Eqd) : Bool := decide (es.length ≤ 6) && es.all okE
theorem okEs_iff (es : List Eqd) : okEs es = true ↔ es.length ≤ 6 ∧ ∀ x ∈ es, okE x = true := by simp [okEs]
theorem all_take {es : List Eqd} {j : Nat} {x : Eqd} (h : (es.take j).all okE = true) (hx : es[j]? = some x) (h1 : okE x = true) : (es.take (j + 1)).all okE = true := by
  rw [List.take_add_one, hx]
  simp only [Option.toList_some, List.all_append, h, List.all_cons, h1, List.all_nil, Bool.and_true]
theorem all_no {es : List Eqd} {j : Nat} {x : Eqd} (hx : es[j]? = some x) (h1 : okE x = false) : okEs es = false := by
  cases h : okEs es with
  | false => rfl
  | true => rw [((okEs_iff es).1 h).2 x (List.mem_of_getElem? hx)] at h1; cases h1
end Go.Proofs.Ytoafleckcjanaaa

/-! XE1: Slices of equations in the exact laws: their size, copies of them, whether they are the same. -/
namespace Go.Proofs.Ytoafleckcjanaaa
open Go.RowKit Go.Deep

def fszE (x : Eqd) : Nat := fsz x.1.2.2 + fsz x.2.2.2
def szER (x : Eqd) (left : Int) : Int := if (fszE x : Int) ≤ left then left - fszE x else -1
/-- How many terms lie in a row of equations. -/
def szQ : List Eqd → Nat
  | [] => 0
  | x :: r => fszE x + szQ r
def szE (es : List Eqd) (l : Int) : Int := if (szQ es : Int) ≤ l then l - szQ es else -1
def szQR (es : List Eqd) (left : Int) : Int := if (es.length : Int) + szQ es ≤ left then left - (es.length + szQ es) else -1
theorem szQR_start (es : List Eqd) (left : Int) : szQR es left = szE es (left - es.length) := by
  unfold szQR szE
  by_cases h : (es.length : Int) + szQ es ≤ left
  · rw [if_pos h, if_pos (by omega)]; omega
  · rw [if_neg h, if_neg (by omega)]
theorem szQR_over {es : List Eqd} {left : Int} (h : left < es.length) : szQR es left = -1 := by unfold szQR; rw [if_neg (by omega)]
theorem szQR_case (es : List Eqd) (left : Int) : szQR es left = -1 ∨ 0 ≤ szQR es left := by unfold szQR; split <;> omega
theorem szQR_fit {es : List Eqd} {left : Int} (h : 0 ≤ szQR es left) (hl : left ≤ 1048576) : es.length + szQ es ≤ 1048576 ∧ szQR es left ≤ 1048576 := by
  unfold szQR at *
  split at h
  · rename_i hc; rw [if_pos hc]; omega
  · omega
theorem szQ_mem : ∀ {es : List Eqd} {x : Eqd}, x ∈ es → fszE x ≤ szQ es
  | [], _, h => by cases h
  | y :: r, x, h => by
    simp only [szQ]
    rcases List.mem_cons.1 h with rfl | h
    · omega
    · have := szQ_mem h; omega
theorem szQ_cons (x : Eqd) (r : List Eqd) : (szQ (x :: r) : Int) = (fszE x : Int) + (szQ r : Int) := by simp [szQ]
theorem szE_cons {x : Eqd} {r : List Eqd} {l : Int} (_h : (fszE x : Int) ≤ l) : szE (x :: r) l = szE r (l - fszE x) := by
  have e := szQ_cons x r
  unfold szE
  by_cases h2 : (szQ (x :: r) : Int) ≤ l
  · rw [if_pos h2, if_pos (by omega)]; omega
  · rw [if_neg h2, if_neg (by omega)]
theorem szE_over {x : Eqd} {r : List Eqd} {l : Int} (h : ¬ (fszE x : Int) ≤ l) : szE (x :: r) l = -1 := by
  have e := szQ_cons x r
  unfold szE
  rw [if_neg (by omega)]
theorem drop_eqX {es : List Eqd} {j : Nat} {x : Eqd} (h : es[j]? = some x) : es.drop j = x :: es.drop (j + 1) := by
  obtain ⟨hj, rfl⟩ := List.getElem?_eq_some_iff.1 h
  exact List.drop_eq_getElem_cons hj
/-- The six cells of an equation's box. -/
theorem box6 {w : World} {c0 c1 c2 c3 c4 c5 : Value} {T : TypeId} (i : Nat) : (w.alloc (.cells #[c0, c1, c2, c3, c4, c5] T)).cell? ⟨w.heap.size, i, none⟩ = #[c0, c1, c2, c3, c4, c5][i]? := by rw [World.cell?_alloc_at _ _ _ _ (by simp)]

set_option maxRecDepth 100000 in
theorem szEq_any (s v : Int) (a : Option Addr) (c : Nat) (k : Fo) (s' v' : Int) (a' : Option Addr) (c' : Nat) (k' : Fo) (left : Int) (w : World) (hl : Sl w 0 w.heap.size a k) (hc : fcap k) (hm : flen k ≤ maxLen) (hl' : Sl w 0 w.heap.size a' k') (hc' : fcap k') (hm' : flen k' ≤ maxLen) (h0 : 0 ≤ left) (h1 : left ≤ 1048576) :
    Calls Try.prog 41 #[.agg #[.int .i64 s, .int .i64 v, .slice a (flen k) c, .int .i64 s', .int .i64 v', .slice a' (flen k') c'], .int .i64 left] w fun e w' => e = .returned (.int .i64 (szER ((s, v, k), s', v', k') left)) ∧ Below w.heap.size w w' := by
  have hb0 : Below w.heap.size w (w.alloc (.cells #[.int .i64 s, .int .i64 v, .slice a (flen k) c, .int .i64 s', .int .i64 v', .slice a' (flen k') c'] 71)) := box_low _ _
  have HB0 := Lib.hid hb0
  have HL := Lib.hid (Sl.next hl hb0)
  have HL2 := Lib.hid (Sl.next hl' hb0)
  have HC := Lib.hid hc
  have HM := Lib.hid hm
  have HC2 := Lib.hid hc'
  have HM2 := Lib.hid hm'
  have H3 : Hid ((w.alloc (.cells #[.int .i64 s, .int .i64 v, .slice a (flen k) c, .int .i64 s', .int .i64 v', .slice a' (flen k') c'] 71)).cell? ⟨w.heap.size, 3, none⟩ = some (.int .i64 s')) := box6 3
  have H4 : Hid ((w.alloc (.cells #[.int .i64 s, .int .i64 v, .slice a (flen k) c, .int .i64 s', .int .i64 v', .slice a' (flen k') c'] 71)).cell? ⟨w.heap.size, 4, none⟩ = some (.int .i64 v')) := box6 4
  have H5 : Hid ((w.alloc (.cells #[.int .i64 s, .int .i64 v, .slice a (flen k) c, .int .i64 s', .int .i64 v', .slice a' (flen k') c'] 71)).cell? ⟨w.heap.size, 5, none⟩ = some (.slice a' (flen k') c')) := box6 5
  clear hb0 hl hc hm hl' hc' hm'
  go_enter Try.func41, Try.ntmps41
  go_wp2_with fail
  with_reducible refine (szTerm_any HL.out HC.out HM.out h0 h1).mono ?_
  rintro e w1 ⟨rfl, hb⟩
  have HB1 := Lib.hid (HB0.out.trans (hb.mono HB0.out.size))
  have HL3 := Lib.hid (HL2.out.next hb)
  have d3 := cell_low hb H3.out
  have d4 := cell_low hb H4.out
  have d5 := cell_low hb H5.out
  clear hb H3 H4 H5 HL HL2
  by_cases hz : (fsz k : Int) ≤ left
  rotate_left
  · have he : szR k left = -1 := by unfold szR; rw [if_neg hz]
    have HE : Hid (szER ((s, v, k), s', v', k') left = -1) := by
      show szER _ _ = _
      unfold szER fszE; rw [if_neg (by dsimp only; omega)]
    rw [he]
    clear he
    go_wp2_with fail
    go_ret
    exact ⟨by rw [HE.out]; rfl, HB1.out⟩
  have he : szR k left = left - fsz k := by unfold szR; rw [if_pos hz]
  rw [he]
  clear he
  have g1 : (0 : Int) ≤ left - fsz k := by omega
  have g2 : left - fsz k ≤ 1048576 := by omega
  generalize hle : left - (fsz k : Int) = l2 at *
  go_wp2_with fail
  with_reducible refine (szTerm_any HL3.out HC2.out HM2.out g1 g2).mono ?_
  rintro e w2 ⟨rfl, hb2⟩
  have HB2 := Lib.hid (HB1.out.trans (hb2.mono HB1.out.size))
  clear hb2 d3 d4 d5
  by_cases hz2 : (fsz k' : Int) ≤ l2
  · have he : szR k' l2 = l2 - fsz k' := by unfold szR; rw [if_pos hz2]
    have HE : Hid (szER ((s, v, k), s', v', k') left = l2 - fsz k') := by
      show szER _ _ = _
      unfold szER fszE; rw [if_pos (by dsimp only; omega)]; dsimp only; omega
    rw [he]
    clear he
    generalize hl3 : l2 - (fsz k' : Int) = l3 at *
    have g3 : 0 ≤ l3 := by omega
    clear hl3 hle
    go_wp2_with fail
    go_ret
    exact ⟨by rw [HE.out]; rfl, HB2.out⟩
  · have he : szR k' l2 = -1 := by unfold szR; rw [if_neg hz2]
    have HE : Hid (szER ((s, v, k), s', v', k') left = -1) := by
      show szER _ _ = _
      unfold szER fszE; rw [if_neg (by dsimp only; omega)]
    rw [he]
    clear he
    go_wp2_with fail
    go_ret
    exact ⟨by rw [HE.out]; rfl, HB2.out⟩

set_option maxRecDepth 100000 in
set_option maxHeartbeats 1000000 in
theorem szEqS_any (es : List Eqd) (A : Option Addr) (C : Nat) (left : Int) (w : World) (h : ESl w 0 w.heap.size A es) (hml : es.length ≤ maxLen) (hall : ∀ x ∈ es, (flen x.1.2.2 ≤ maxLen ∧ fcap x.1.2.2) ∧ flen x.2.2.2 ≤ maxLen ∧ fcap x.2.2.2) (h0 : 0 ≤ left) (h1 : left ≤ 1048576) :
    Calls Try.prog 10 #[.slice A es.length C, .int .i64 left] w fun e w' => e = .returned (.int .i64 (szQR es left)) ∧ Below w.heap.size w w' := by
  by_cases hbig : 1048576 < es.length
  · have hneg := sub_neg h0 h1 hbig hml
    have HE : Hid (szQR es left = -1) := szQR_over (by omega)
    clear hml
    go_enter Try.func10, Try.ntmps10
    go_wp2_with fail
    go_ret
    exact ⟨by rw [HE.out]; rfl, Below.refl _ _⟩
  clear hml
  by_cases hov : left < es.length
  · have HE : Hid (szQR es left = -1) := szQR_over hov
    go_enter Try.func10, Try.ntmps10
    go_wp2_with fail
    go_ret
    exact ⟨by rw [HE.out]; rfl, Below.refl _ _⟩
  have HST : Hid (szQR es left = szE (es.drop 0) (left - es.length)) := by rw [Hid, List.drop_zero]; exact szQR_start es left
  have HA := Lib.hid hall
  have HB := Lib.hid h
  clear hall h
  go_enter Try.func10, Try.ntmps10
  go_wp2_with fail
  go_loopw [1, 5] (fun t i wr => ∃ (j : Nat) (l : Int), j ≤ es.length ∧ i = .int .i64 j ∧ t = .int .i64 l ∧ 0 ≤ l ∧ l ≤ 1048576 ∧ Hid (szQR es left = szE (es.drop j) l) ∧ Hid (Below w.heap.size w wr)) (fun _ i _ => es.length - (intOf i).toNat)
  case atStart => exact ⟨0, left - es.length, by omega, rfl, rfl, by omega, by omega, HST, Below.refl _ _⟩
  case round =>
    clear HST
    obtain ⟨j, l, hj, rfl, rfl, hl0, hl1, HSZ, HBL⟩ := hrel
    have hbs := HBL.out.size
    by_cases hlt : j < es.length
    · obtain ⟨y, hy⟩ : ∃ y, es[j]? = some y := ⟨es[j], List.getElem?_eq_getElem hlt⟩
      obtain ⟨⟨s, v, k⟩, s', v', k'⟩ := y
      obtain ⟨rb, ro, rfl, _, hbB, a, c, a', c', d0, d1, d2, d3, d4, d5, hsl, hsl'⟩ := (HB.out.next HBL.out).at hy
      dsimp only at d0 d1 d2 d3 d4 d5 hsl hsl'
      have d4' : wr.cell? ⟨rb, ro + j * 6 + 4, none⟩ = some (.int .i64 v') := d4
      have d5' : wr.cell? ⟨rb, ro + j * 6 + 5, none⟩ = some (.slice a' (flen k') c') := d5
      have HX := Lib.hid (HA.out _ (List.mem_of_getElem? hy))
      have HD := Lib.hid (drop_eqX hy)
      have HS := Lib.hid hsl
      have HS' := Lib.hid hsl'
      have g1 : (0 : Int) ≤ (j : Int) := by omega
      have g2 : (j : Int) < (es.length : Int) := by omega
      clear hy hsl hsl' d4 d5
      go_wp2_with fail
      with_reducible refine (szEq_any s v a c k s' v' a' c' k' l _ HS.out HX.out.1.2 HX.out.1.1 HS'.out HX.out.2.2 HX.out.2.1 hl0 hl1).mono ?_
      rintro e w2 ⟨rfl, hb2⟩
      have HB2 := Lib.hid (HBL.out.trans (hb2.mono hbs))
      clear hb2 d0 d1 d2 d3 d4' d5'
      generalize ((s, v, k), s', v', k') = y at *
      by_cases hok : (fszE y : Int) ≤ l
      · have he : szER y l = l - fszE y := by unfold szER; rw [if_pos hok]
        rw [he]
        clear he
        have HSZ2 : Hid (szQR es left = szE (es.drop (j + 1)) (l - fszE y)) := by rw [Hid, HSZ.out, HD.out]; exact szE_cons hok
        generalize fszE y = fy at *
        go_wp2_with fail
        go_roundw
        case rel => exact ⟨j + 1, _, by omega, by go_num, rfl, by omega, by omega, HSZ2, HB2⟩
        case measure => simp [intOf]; omega
      · have he : szER y l = -1 := by unfold szER; rw [if_neg hok]
        rw [he]
        clear he
        have HSZ2 : Hid (szQR es left = -1) := by rw [Hid, HSZ.out, HD.out]; exact szE_over hok
        go_wp2_with fail
        go_ret
        exact ⟨by rw [HSZ2.out]; rfl, HB2.out⟩
    · have HE : Hid (szQR es left = l) := by
        rw [Hid, HSZ.out, List.drop_eq_nil_of_le (by omega)]
        unfold szE szQ; rw [if_pos (by simpa using hl0)]; simp
      clear HSZ
      go_wp2_with fail
      go_ret
      exact ⟨by rw [HE.out]; rfl, HBL.out⟩

set_option maxRecDepth 100000 in
set_option maxHeartbeats 1000000 in
theorem eqEq_same (s v : Int) (a : Option Addr) (c : Nat) (k : Fo) (s' v' : Int) (a' : Option Addr) (c' : Nat) (k' : Fo) (b : Option Addr) (d : Nat) (b' : Option Addr) (d' : Nat) (w : World) (hl : Sl w 0 w.heap.size a k) (hl' : Sl w 0 w.heap.size a' k') (hm : Sl w 0 w.heap.size b k) (hm' : Sl w 0 w.heap.size b' k') (hN : fsz k ≤ 1048576) (hN' : fsz k' ≤ 1048576) :
    Calls Try.prog 59 #[.agg #[.int .i64 s, .int .i64 v, .slice a (flen k) c, .int .i64 s', .int .i64 v', .slice a' (flen k') c'], .agg #[.int .i64 s, .int .i64 v, .slice b (flen k) d, .int .i64 s', .int .i64 v', .slice b' (flen k') d']] w fun e w' => e = .returned (.bool true) ∧ Below w.heap.size w w' := by
  have hbA := box_low w (.cells #[.int .i64 s, .int .i64 v, .slice a (flen k) c, .int .i64 s', .int .i64 v', .slice a' (flen k') c'] 82)
  have hbB := box_low (w.alloc (.cells #[.int .i64 s, .int .i64 v, .slice a (flen k) c, .int .i64 s', .int .i64 v', .slice a' (flen k') c'] 82)) (.cells #[.int .i64 s, .int .i64 v, .slice b (flen k) d, .int .i64 s', .int .i64 v', .slice b' (flen k') d'] 82)
  have hb0 := hbA.trans (hbB.mono hbA.size)
  have HB0 := Lib.hid hb0
  have HL := Lib.hid (Sl.next hl hb0)
  have HL2 := Lib.hid (Sl.next hl' hb0)
  have HM := Lib.hid (Sl.next hm hb0)
  have HM2 := Lib.hid (Sl.next hm' hb0)
  obtain ⟨W, hW⟩ : ∃ W, (w.alloc (.cells #[.int .i64 s, .int .i64 v, .slice a (flen k) c, .int .i64 s', .int .i64 v', .slice a' (flen k') c'] 82)).alloc (.cells #[.int .i64 s, .int .i64 v, .slice b (flen k) d, .int .i64 s', .int .i64 v', .slice b' (flen k') d'] 82) = W := ⟨_, rfl⟩
  have cA : ∀ i, W.cell? ⟨w.heap.size, i, none⟩ = #[Value.int .i64 s, .int .i64 v, .slice a (flen k) c, .int .i64 s', .int .i64 v', .slice a' (flen k') c'][i]? := fun i => by
    rw [← hW, World.cell?_alloc_lt _ _ _ (by simp), World.cell?_alloc_at _ _ _ _ (by simp)]
  have cB : ∀ i, W.cell? ⟨w.heap.size + 1, i, none⟩ = #[Value.int .i64 s, .int .i64 v, .slice b (flen k) d, .int .i64 s', .int .i64 v', .slice b' (flen k') d'][i]? := fun i => by
    rw [← hW, World.cell?_alloc_at _ _ _ _ (by simp)]
  have c0 : W.cell? ⟨w.heap.size, 0, none⟩ = some (.int .i64 s) := cA 0
  have c1 : W.cell? ⟨w.heap.size, 1, none⟩ = some (.int .i64 v) := cA 1
  have c2 : W.cell? ⟨w.heap.size, 2, none⟩ = some (.slice a (flen k) c) := cA 2
  have c3 : W.cell? ⟨w.heap.size, 3, none⟩ = some (.int .i64 s') := cA 3
  have c4 : W.cell? ⟨w.heap.size, 4, none⟩ = some (.int .i64 v') := cA 4
  have c5 : W.cell? ⟨w.heap.size, 5, none⟩ = some (.slice a' (flen k') c') := cA 5
  have e0 : W.cell? ⟨w.heap.size + 1, 0, none⟩ = some (.int .i64 s) := cB 0
  have e1 : W.cell? ⟨w.heap.size + 1, 1, none⟩ = some (.int .i64 v) := cB 1
  have e2 : W.cell? ⟨w.heap.size + 1, 2, none⟩ = some (.slice b (flen k) d) := cB 2
  have e3 : W.cell? ⟨w.heap.size + 1, 3, none⟩ = some (.int .i64 s') := cB 3
  have e4 : W.cell? ⟨w.heap.size + 1, 4, none⟩ = some (.int .i64 v') := cB 4
  have e5 : W.cell? ⟨w.heap.size + 1, 5, none⟩ = some (.slice b' (flen k') d') := cB 5
  rw [hW] at HB0 HL HL2 HM HM2
  have C3 := Lib.hid c3
  have C4 := Lib.hid c4
  have C5 := Lib.hid c5
  have E3 := Lib.hid e3
  have E4 := Lib.hid e4
  have E5 := Lib.hid e5
  clear hb0 hl hl' hm hm' hbA hbB c3 c4 c5 e3 e4 e5 cA cB
  go_enter Try.func59, Try.ntmps59
  go_wp2_with fail
  clear c0 c1 c2 e0 e1 e2
  with_reducible refine (eqTerm_any (k := k) HL.out HM.out hN).mono ?_
  rintro e w2 ⟨rfl, hb2⟩
  have HB2 := Lib.hid (HB0.out.trans (hb2.mono HB0.out.size))
  have HL3 := Lib.hid (HL2.out.next hb2)
  have HM3 := Lib.hid (HM2.out.next hb2)
  have c3 := cell_low hb2 C3.out
  have c4 := cell_low hb2 C4.out
  have c5 := cell_low hb2 C5.out
  have e3 := cell_low hb2 E3.out
  have e4 := cell_low hb2 E4.out
  have e5 := cell_low hb2 E5.out
  clear hb2 C3 C4 C5 E3 E4 E5 HL HM HL2 HM2
  go_wp2_with fail
  with_reducible refine (eqTerm_any (k := k') HL3.out HM3.out hN').mono ?_
  rintro e w3 ⟨rfl, hb3⟩
  have HB3 := Lib.hid (HB2.out.trans (hb3.mono HB2.out.size))
  clear hb3 c3 c4 c5 e3 e4 e5
  go_wp2_with fail
  go_ret
  exact ⟨rfl, HB3.out⟩
end Go.Proofs.Ytoafleckcjanaaa
