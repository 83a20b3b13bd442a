/- Several texts in one: LawOSelf. -/
import Derived.Test.YtbgjdkpdjclagaaKOrd22

/-! LawOSelf: laws.FnOrderSelf answers true at every code. -/
namespace Go.Proofs.Ytbgjdkpdjclagaa
open Go.RowKit Go.Deep

set_option maxRecDepth 100000 in
set_option maxHeartbeats 1600000 in
theorem orderSelf_walk (a0 : Option Addr) (len cap : Nat) (w : World) (hby : Bytes w a0 len) (hlen : len ≤ cap) :
    Calls Try.prog 6 #[.slice a0 len cap] w fun e w' => e = .returned (.bool true) ∧ Below w.heap.size w w' := by
  have HBY := Lib.hid hby
  clear hby
  by_cases hbig : 1048576 < len
  · go_enter Try.func6, Try.ntmps6
    go_wp2_with fail
    go_ret
    exact ⟨rfl, Below.refl _ _⟩
  go_enter Try.func6, Try.ntmps6
  go_wp2_with fail
  with_reducible refine (DrawOrderMore_any a0 len cap _ HBY.out hlen).mono ?_
  rintro e w0 ⟨xs, A, C, s, v, a, c, k, s', v', a', c', k', rfl, hx4, hS, hS', hb1, hi1, hl1, hl1'⟩
  have HO1 := Lib.hid (ob_start (C := C) (s := s) (v := v) (c := c) (s' := s') (v' := v') (c' := c') hb1 hi1 hl1 hl1')
  have HX4 := Lib.hid hx4
  clear hb1 hi1 hl1 hl1' hx4
  cases hm : moreR xs s v k s' v' k' with
  | false =>
    have HM := Lib.hid hm
    clear hm
    have qs0 := HO1.out.s0
    have qs1 := HO1.out.s1
    have qs2 := HO1.out.s2
    have qt0 := HO1.out.t0
    have qt1 := HO1.out.t1
    have qt2 := HO1.out.t2
    go_wp2_with fail
    with_reducible refine (iOrderMore_any xs A C s v a c k s' v' a' c' k' _ HO1.out.ints HO1.out.one HO1.out.two).mono ?_
    rw [HM.out]
    rintro e w2 ⟨rfl, hb⟩
    have HO2 := Lib.hid (HO1.out.next hb)
    clear qs0 qs1 qs2 qt0 qt1 qt2
    clear hb HO1
    have qs0 := HO2.out.s0
    have qs1 := HO2.out.s1
    have qs2 := HO2.out.s2
    have qt0 := HO2.out.t0
    have qt1 := HO2.out.t1
    have qt2 := HO2.out.t2
    go_wp2_with fail
    with_reducible refine (sOrderMore_any xs A C s v a c k s' v' a' c' k' _ HO2.out.ints HO2.out.one HO2.out.two).mono ?_
    rw [HM.out]
    rintro e w3 ⟨rfl, hb⟩
    have HO3 := Lib.hid (HO2.out.next hb)
    clear qs0 qs1 qs2 qt0 qt1 qt2
    clear hb HO2
    have e1 : (rkOk xs != rkOk xs) = false := by simp
    have qs0 := HO3.out.s0
    have qs1 := HO3.out.s1
    have qs2 := HO3.out.s2
    have qt0 := HO3.out.t0
    have qt1 := HO3.out.t1
    have qt2 := HO3.out.t2
    go_wp2_with fail
    with_reducible refine (iOrderOk_any xs A C _ HO3.out.ints).mono ?_
    rintro e w4 ⟨rfl, hb⟩
    have HO4 := Lib.hid (HO3.out.next hb)
    clear qs0 qs1 qs2 qt0 qt1 qt2
    clear hb HO3
    have qs0 := HO4.out.s0
    have qs1 := HO4.out.s1
    have qs2 := HO4.out.s2
    have qt0 := HO4.out.t0
    have qt1 := HO4.out.t1
    have qt2 := HO4.out.t2
    go_wp2_with fail
    with_reducible refine (sOrderOk_any xs A C _ HO4.out.ints).mono ?_
    rintro e w5 ⟨rfl, hb⟩
    have HO5 := Lib.hid (HO4.out.next hb)
    clear qs0 qs1 qs2 qt0 qt1 qt2
    clear hb HO4
    have qs0 := HO5.out.s0
    have qs1 := HO5.out.s1
    have qs2 := HO5.out.s2
    have qt0 := HO5.out.t0
    have qt1 := HO5.out.t1
    have qt2 := HO5.out.t2
    go_wp2_with fail
    with_reducible refine (iOrderMore_any xs A C s v a c k s v a c k _ HO5.out.ints HO5.out.one HO5.out.one).mono ?_
    rw [moreR_self]
    rintro e w6 ⟨rfl, hb⟩
    have HO6 := Lib.hid (HO5.out.next hb)
    clear qs0 qs1 qs2 qt0 qt1 qt2
    clear hb HO5
    go_wp2_with fail
    go_ret
    exact ⟨rfl, HO6.out.low⟩
  | true =>
    have HM := Lib.hid hm
    have HT := Lib.hid (moreR_turn hm)
    clear hm
    have qs0 := HO1.out.s0
    have qs1 := HO1.out.s1
    have qs2 := HO1.out.s2
    have qt0 := HO1.out.t0
    have qt1 := HO1.out.t1
    have qt2 := HO1.out.t2
    go_wp2_with fail
    with_reducible refine (iOrderMore_any xs A C s v a c k s' v' a' c' k' _ HO1.out.ints HO1.out.one HO1.out.two).mono ?_
    rw [HM.out]
    rintro e w2 ⟨rfl, hb⟩
    have HO2 := Lib.hid (HO1.out.next hb)
    clear qs0 qs1 qs2 qt0 qt1 qt2
    clear hb HO1
    have qs0 := HO2.out.s0
    have qs1 := HO2.out.s1
    have qs2 := HO2.out.s2
    have qt0 := HO2.out.t0
    have qt1 := HO2.out.t1
    have qt2 := HO2.out.t2
    go_wp2_with fail
    with_reducible refine (sOrderMore_any xs A C s v a c k s' v' a' c' k' _ HO2.out.ints HO2.out.one HO2.out.two).mono ?_
    rw [HM.out]
    rintro e w3 ⟨rfl, hb⟩
    have HO3 := Lib.hid (HO2.out.next hb)
    clear qs0 qs1 qs2 qt0 qt1 qt2
    clear hb HO2
    have e1 : (rkOk xs != rkOk xs) = false := by simp
    have qs0 := HO3.out.s0
    have qs1 := HO3.out.s1
    have qs2 := HO3.out.s2
    have qt0 := HO3.out.t0
    have qt1 := HO3.out.t1
    have qt2 := HO3.out.t2
    go_wp2_with fail
    with_reducible refine (iOrderOk_any xs A C _ HO3.out.ints).mono ?_
    rintro e w4 ⟨rfl, hb⟩
    have HO4 := Lib.hid (HO3.out.next hb)
    clear qs0 qs1 qs2 qt0 qt1 qt2
    clear hb HO3
    have qs0 := HO4.out.s0
    have qs1 := HO4.out.s1
    have qs2 := HO4.out.s2
    have qt0 := HO4.out.t0
    have qt1 := HO4.out.t1
    have qt2 := HO4.out.t2
    go_wp2_with fail
    with_reducible refine (sOrderOk_any xs A C _ HO4.out.ints).mono ?_
    rintro e w5 ⟨rfl, hb⟩
    have HO5 := Lib.hid (HO4.out.next hb)
    clear qs0 qs1 qs2 qt0 qt1 qt2
    clear hb HO4
    have qs0 := HO5.out.s0
    have qs1 := HO5.out.s1
    have qs2 := HO5.out.s2
    have qt0 := HO5.out.t0
    have qt1 := HO5.out.t1
    have qt2 := HO5.out.t2
    go_wp2_with fail
    with_reducible refine (iOrderMore_any xs A C s v a c k s v a c k _ HO5.out.ints HO5.out.one HO5.out.one).mono ?_
    rw [moreR_self]
    rintro e w6 ⟨rfl, hb⟩
    have HO6 := Lib.hid (HO5.out.next hb)
    clear qs0 qs1 qs2 qt0 qt1 qt2
    clear hb HO5
    have qs0 := HO6.out.s0
    have qs1 := HO6.out.s1
    have qs2 := HO6.out.s2
    have qt0 := HO6.out.t0
    have qt1 := HO6.out.t1
    have qt2 := HO6.out.t2
    go_wp2_with fail
    with_reducible refine (iOrderMore_any xs A C s' v' a' c' k' s v a c k _ HO6.out.ints HO6.out.two HO6.out.one).mono ?_
    rw [HT.out]
    rintro e w7 ⟨rfl, hb⟩
    have HO7 := Lib.hid (HO6.out.next hb)
    clear qs0 qs1 qs2 qt0 qt1 qt2
    clear hb HO6
    go_wp2_with fail
    go_ret
    exact ⟨rfl, HO7.out.low⟩
end Go.Proofs.Ytbgjdkpdjclagaa
