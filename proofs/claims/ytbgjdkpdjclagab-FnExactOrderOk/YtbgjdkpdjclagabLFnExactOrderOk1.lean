/- Several texts in one: XOrd. -/
import Derived.Test.YtbgjdkpdjclagabKOre14
import Derived.Test.YtbgjdkpdjclagabKOre12
import Derived.Test.YtbgjdkpdjclagabKOre16

/-! XOrd: For every row of numbers, laws.FnExactOrderOk answers true and writes nothing that was there. -/
namespace Go.Proofs.Ytbgjdkpdjclagab
open Go.RowKit Go.Deep

set_option maxRecDepth 100000 in
set_option maxHeartbeats 2000000 in
theorem exactOrderOk_walk (pA : Option Addr) (pC : Nat) (xs : List Int) (w : World) (hp : ISl w 0 w.heap.size pA xs) (hpm : xs.length ≤ maxLen) :
    Calls Try.prog 5 #[.slice pA xs.length pC] w fun e w' => e = .returned (.bool true) ∧ Below w.heap.size w w' := by
  have HP := Lib.hid hp
  unfold maxLen at hpm
  clear hp
  by_cases hbig : 1048576 < xs.length
  · go_enter Try.func5, Try.ntmps5
    go_wp2_with fail
    go_ret
    exact ⟨rfl, Below.refl _ _⟩
  clear hpm
  go_enter Try.func5, Try.ntmps5
  go_wp2_with fail
  with_reducible refine (toIntS_any xs pA pC _ HP.out (by omega)).mono ?_
  rintro e w1 ⟨A1, C1, rfl, ho1, hb1⟩
  have hs1 := hb1.size
  have HI1 := Lib.hid (ho1.sl.mono (lo' := 0) (Nat.zero_le _) (Nat.le_refl _))
  have HB1 := Lib.hid hb1
  clear ho1 hb1
  go_wp2_with fail
  with_reducible refine (sOrderOk_any xs A1 C1 _ HI1.out).mono ?_
  rintro e w2 ⟨rfl, hb2⟩
  have hs2 := hb2.size
  have HB2 := Lib.hid (HB1.out.trans (hb2.mono hs1))
  clear hb2
  go_wp2_with fail
  with_reducible refine (toIntS_any xs pA pC _ ((HP.out.below HB2.out).mono (Nat.le_refl _) (by omega)) (by omega)).mono ?_
  rintro e w3 ⟨A3, C3, rfl, ho3, hb3⟩
  have hs3 := hb3.size
  have HI3 := Lib.hid (ho3.sl.mono (lo' := 0) (Nat.zero_le _) (Nat.le_refl _))
  have HB3 := Lib.hid (HB2.out.trans (hb3.mono (by omega)))
  clear ho3 hb3
  go_wp2_with fail
  with_reducible refine (iOrderOk_any xs A3 C3 _ HI3.out).mono ?_
  rintro e w4 ⟨rfl, hb4⟩
  have hs4 := hb4.size
  have HI4 := Lib.hid ((HI3.out.below hb4).mono (Nat.le_refl _) hs4)
  have HB4 := Lib.hid (HB3.out.trans (hb4.mono (by omega)))
  have ee : (rkOk xs != rkOk xs) = false := by simp
  clear hb4
  go_wp2_with fail
  with_reducible refine (toIntS_any xs pA pC _ ((HP.out.below HB4.out).mono (Nat.le_refl _) (by omega)) (by omega)).mono ?_
  rintro e w5 ⟨A5, C5, rfl, ho5, hb5⟩
  have hs5 := hb5.size
  have HI5 := Lib.hid (ho5.sl.mono (lo' := 0) (Nat.zero_le _) (Nat.le_refl _))
  have HJ5 := Lib.hid ((HI4.out.below hb5).mono (Nat.le_refl _) hs5)
  have HB5 := Lib.hid (HB4.out.trans (hb5.mono (by omega)))
  clear ho5 hb5
  go_wp2_with fail
  with_reducible refine (eqIntS_same xs A3 A5 C3 C5 xs.length xs.length _ HJ5.out HI5.out rfl rfl (by omega)).mono ?_
  rintro e w6 ⟨rfl, hb6⟩
  have HB6 := Lib.hid (HB5.out.trans (hb6.mono (by omega)))
  clear hb6
  go_wp2_with fail
  go_ret
  exact ⟨rfl, HB6.out⟩
end Go.Proofs.Ytbgjdkpdjclagab
