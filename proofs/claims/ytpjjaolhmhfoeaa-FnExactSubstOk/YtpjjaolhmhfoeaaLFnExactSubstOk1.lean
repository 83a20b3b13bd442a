/- Several texts in one: XSk. -/
import Derived.Test.YtpjjaolhmhfoeaaKBind15
import Derived.Test.YtpjjaolhmhfoeaaKBind16

/-! XSk: For every slice of binds, laws.FnExactSubstOk answers true and writes nothing that was there. -/
namespace Go.Proofs.Ytpjjaolhmhfoeaa
open Go.RowKit Go.Deep

/-- A copy that lies in blocks of its own. -/
structure Gs (lo hi : Nat) (bs : List Bd) (A : Option Addr) (w : World) : Prop where
  bx : BS w lo hi bs A
  le : hi ≤ w.heap.size
theorem Gs.next {lo hi : Nat} {bs : List Bd} {A : Option Addr} {w w2 : World} (h : Gs lo hi bs A w) (hb : Below w.heap.size w w2) : Gs lo hi bs A w2 := ⟨h.bx.same (Same.of_below (hb.mono h.le)), Nat.le_trans h.le hb.size⟩
theorem Gs.top {lo hi : Nat} {bs : List Bd} {A : Option Addr} {w : World} (h : Gs lo hi bs A w) : BSl w 0 w.heap.size A bs := h.bx.bsl.mono (Nat.zero_le _) h.le

set_option maxRecDepth 100000 in
set_option maxHeartbeats 2000000 in
theorem exactSubstOk_walk (A : Option Addr) (C : Nat) (bs : List Bd) (w : World) (h : BSl w 0 w.heap.size A bs) (hm : bs.length ≤ maxLen) (hall : ∀ x ∈ bs, flen x.2.2.2 ≤ maxLen ∧ fcap x.2.2.2) :
    Calls Try.prog 5 #[.slice A bs.length C] w fun e w' => e = .returned (.bool true) ∧ Below w.heap.size w w' := by
  have HP : Hid (Rw w.heap.size bs A w) := ⟨h, Nat.le_refl _⟩
  have HM := Lib.hid hm
  have HA := Lib.hid hall
  clear h hm hall
  go_enter Try.func5, Try.ntmps5
  go_wp2_with fail
  with_reducible refine (szBindS_any bs A C 1048576 _ HP.out.top HM.out HA.out (by omega) (by omega)).mono ?_
  rintro e w1 ⟨rfl, hb1⟩
  have HL1 := Lib.hid hb1
  replace HP := Lib.hid (HP.out.next hb1)
  clear hb1
  rcases szBR_case bs 1048576 with hz | hz
  · rw [hz]
    clear hz
    go_wp2_with fail
    go_ret
    exact ⟨rfl, HL1.out⟩
  have hfit := (szBR_fit hz (by omega)).1
  have HZ : Hid (∀ x ∈ bs, fsz x.2.2.2 ≤ 1048576) := fun x hx => by have := szT_mem hx; omega
  generalize szBR bs 1048576 = z at *
  go_wp2_with fail
  with_reducible refine (toBindS_any bs A C _ HP.out.top (by omega) HZ.out).mono ?_
  rintro e w2 ⟨A2, C2, rfl, hb2, hs2⟩
  have HL2 := Lib.hid (low_next HL1.out hb2)
  replace HP := Lib.hid (HP.out.next hb2)
  have HS2 := Lib.hid (hs2.bsl.mono (lo' := 0) (Nat.zero_le _) (Nat.le_refl _))
  clear hb2 hs2 hz HL1
  go_wp2_with fail
  with_reducible refine (sSubstOk_any bs A2 C2 _ HS2.out (by omega)).mono ?_
  rintro e w3 ⟨rfl, hb3⟩
  have HL3 := Lib.hid (low_next HL2.out hb3)
  replace HP := Lib.hid (HP.out.next hb3)
  clear hb3 HS2 HL2
  go_wp2_with fail
  with_reducible refine (toBindS_any bs A C _ HP.out.top (by omega) HZ.out).mono ?_
  rintro e w4 ⟨A4, C4, rfl, hb4, hs4⟩
  have HL4 := Lib.hid (low_next HL3.out hb4)
  replace HP := Lib.hid (HP.out.next hb4)
  have HX : Hid (Gs w3.heap.size w4.heap.size bs A4 w4) := ⟨hs4, Nat.le_refl _⟩
  clear hb4 hs4 HL3
  go_wp2_with fail
  with_reducible refine (iSubstOk_any bs A4 C4 _ HX.out.top (by omega)).mono ?_
  rintro e w5 ⟨rfl, hb5⟩
  have HL5 := Lib.hid (low_next HL4.out hb5)
  replace HP := Lib.hid (HP.out.next hb5)
  replace HX := Lib.hid (HX.out.next hb5)
  clear hb5 HL4
  have en : (sok 16 bs != sok 16 bs) = false := by simp
  go_wp2_with fail
  with_reducible refine (toBindS_any bs A C _ HP.out.top (by omega) HZ.out).mono ?_
  rintro e w6 ⟨A6, C6, rfl, hb6, hs6⟩
  have HL6 := Lib.hid (low_next HL5.out hb6)
  replace HX := Lib.hid (HX.out.next hb6)
  have HS6 := Lib.hid (hs6.bsl.mono (lo' := 0) (Nat.zero_le _) (Nat.le_refl _))
  clear hb6 hs6 HL5
  go_wp2_with fail
  with_reducible refine (eqBindS_same bs A4 A6 C4 C6 _ HX.out.top HS6.out (by omega) HZ.out).mono ?_
  rintro e w7 ⟨rfl, hb7⟩
  have HL7 := Lib.hid (low_next HL6.out hb7)
  clear hb7
  go_wp2_with fail
  go_ret
  exact ⟨rfl, HL7.out⟩
end Go.Proofs.Ytpjjaolhmhfoeaa
