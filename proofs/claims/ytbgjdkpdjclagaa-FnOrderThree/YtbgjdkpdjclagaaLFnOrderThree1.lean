/- Several texts in one: LawOThree. -/
import Derived.Test.YtbgjdkpdjclagaaKOrd22

/-! LawOThree: laws.FnOrderThree answers true at any two codes. -/
namespace Go.Proofs.Ytbgjdkpdjclagaa
open Go.RowKit Go.Deep

set_option maxRecDepth 100000 in
set_option maxHeartbeats 4000000 in
theorem orderThree_walk (a0 : Option Addr) (len cap : Nat) (a1 : Option Addr) (len1 cap1 : Nat) (w : World) (hby : Bytes w a0 len) (hlen : len ≤ cap) (hby1 : Bytes w a1 len1) (hlen1 : len1 ≤ cap1) :
    Calls Try.prog 7 #[.slice a0 len cap, .slice a1 len1 cap1] w fun e w' => e = .returned (.bool true) ∧ Below w.heap.size w w' := by
  have HBY := Lib.hid hby
  have HBY1 := Lib.hid hby1
  clear hby hby1
  by_cases hbig : 1048576 < len
  · go_enter Try.func7, Try.ntmps7
    go_wp2_with fail
    go_ret
    exact ⟨rfl, Below.refl _ _⟩
  by_cases hbig1 : 1048576 < len1
  · go_enter Try.func7, Try.ntmps7
    go_wp2_with fail
    go_ret
    exact ⟨rfl, Below.refl _ _⟩
  go_enter Try.func7, Try.ntmps7
  go_wp2_with fail
  with_reducible refine (DrawOrderMore_any a0 len cap _ HBY.out hlen).mono ?_
  rintro e wa ⟨xs, A, C, s, v, a, c, k, s', v', a', c', k', rfl, hx4, hS, hS', hb1, hi1, hl1, hl1'⟩
  have HO0 := Lib.hid (ob_start (C := C) (s := s) (v := v) (c := c) (s' := s') (v' := v') (c' := c') hb1 hi1 hl1 hl1')
  have HX4 := Lib.hid hx4
  clear hb1 hi1 hl1 hl1' hx4
  go_wp2_with fail
  generalize ((wa.alloc (.cells #[.int .i64 s, .int .i64 v, .slice a (flen k) c] 26)).alloc (.cells #[.int .i64 s', .int .i64 v', .slice a' (flen k') c'] 26)) = wx at *
  with_reducible refine (DrawOrderMore_any a1 len1 cap1 _ (HBY1.out.low HO0.out.low) hlen1).mono ?_
  rintro e wb ⟨xs2, A2, C2, su, vu, au, cu, ku, sw, vw, aw, cw, kw, rfl, hx42, hSu, hSw, hb2, hi2, hl2, hl2'⟩
  have HP0 := Lib.hid (ob_start (C := C2) (s := su) (v := vu) (c := cu) (s' := sw) (v' := vw) (c' := cw) hb2 hi2 hl2 hl2')
  have HO1 := Lib.hid ((HO0.out.next hb2).next (((Below.refl _ _).alloc (Nat.le_refl _) (.cells #[.int .i64 su, .int .i64 vu, .slice au (flen ku) cu] 26)).alloc (by simp) (.cells #[.int .i64 sw, .int .i64 vw, .slice aw (flen kw) cw] 26)))
  have HX42 := Lib.hid hx42
  have HP1 := HP0
  clear hb2 hi2 hl2 hl2' hx42 HP0 HO0 HBY HBY1
  cases hST : moreR xs s v k s' v' k' with
  | false =>
    have HST := Lib.hid hST
    clear hST
    cases hUS : moreR xs su vu ku s v k with
    | false =>
      have HUS := Lib.hid hUS
      clear hUS
      have qs0 := HO1.out.s0
      have qs1 := HO1.out.s1
      have qs2 := HO1.out.s2
      have qt0 := HO1.out.t0
      have qt1 := HO1.out.t1
      have qt2 := HO1.out.t2
      have rs0 := HP1.out.s0
      have rs1 := HP1.out.s1
      have rs2 := HP1.out.s2
      have rt0 := HP1.out.t0
      have rt1 := HP1.out.t1
      have rt2 := HP1.out.t2
      go_wp2_with fail
      with_reducible refine (iOrderMore_any xs A C s v a c k s' v' a' c' k' _ HO1.out.ints HO1.out.one HO1.out.two).mono ?_
      rw [HST.out]
      rintro e w2 ⟨rfl, hb⟩
      have HO2 := Lib.hid (HO1.out.next hb)
      have HP2 := Lib.hid (HP1.out.next hb)
      clear hb HO1 HP1 qs0 qs1 qs2 qt0 qt1 qt2 rs0 rs1 rs2 rt0 rt1 rt2
      have qs0 := HO2.out.s0
      have qs1 := HO2.out.s1
      have qs2 := HO2.out.s2
      have qt0 := HO2.out.t0
      have qt1 := HO2.out.t1
      have qt2 := HO2.out.t2
      have rs0 := HP2.out.s0
      have rs1 := HP2.out.s1
      have rs2 := HP2.out.s2
      have rt0 := HP2.out.t0
      have rt1 := HP2.out.t1
      have rt2 := HP2.out.t2
      go_wp2_with fail
      with_reducible refine (sOrderMore_any xs A C s v a c k s' v' a' c' k' _ HO2.out.ints HO2.out.one HO2.out.two).mono ?_
      rw [HST.out]
      rintro e w3 ⟨rfl, hb⟩
      have HO3 := Lib.hid (HO2.out.next hb)
      have HP3 := Lib.hid (HP2.out.next hb)
      clear hb HO2 HP2 qs0 qs1 qs2 qt0 qt1 qt2 rs0 rs1 rs2 rt0 rt1 rt2
      have qs0 := HO3.out.s0
      have qs1 := HO3.out.s1
      have qs2 := HO3.out.s2
      have qt0 := HO3.out.t0
      have qt1 := HO3.out.t1
      have qt2 := HO3.out.t2
      have rs0 := HP3.out.s0
      have rs1 := HP3.out.s1
      have rs2 := HP3.out.s2
      have rt0 := HP3.out.t0
      have rt1 := HP3.out.t1
      have rt2 := HP3.out.t2
      go_wp2_with fail
      with_reducible refine (iOrderMore_any xs A C su vu au cu ku s v a c k _ HO3.out.ints HP3.out.one HO3.out.one).mono ?_
      rw [HUS.out]
      rintro e w4 ⟨rfl, hb⟩
      have HO4 := Lib.hid (HO3.out.next hb)
      have HP4 := Lib.hid (HP3.out.next hb)
      clear hb HO3 HP3 qs0 qs1 qs2 qt0 qt1 qt2 rs0 rs1 rs2 rt0 rt1 rt2
      go_wp2_with fail
      go_ret
      exact ⟨rfl, HO4.out.low⟩
    | true =>
      have HUS := Lib.hid hUS
      clear hUS
      have qs0 := HO1.out.s0
      have qs1 := HO1.out.s1
      have qs2 := HO1.out.s2
      have qt0 := HO1.out.t0
      have qt1 := HO1.out.t1
      have qt2 := HO1.out.t2
      have rs0 := HP1.out.s0
      have rs1 := HP1.out.s1
      have rs2 := HP1.out.s2
      have rt0 := HP1.out.t0
      have rt1 := HP1.out.t1
      have rt2 := HP1.out.t2
      go_wp2_with fail
      with_reducible refine (iOrderMore_any xs A C s v a c k s' v' a' c' k' _ HO1.out.ints HO1.out.one HO1.out.two).mono ?_
      rw [HST.out]
      rintro e w2 ⟨rfl, hb⟩
      have HO2 := Lib.hid (HO1.out.next hb)
      have HP2 := Lib.hid (HP1.out.next hb)
      clear hb HO1 HP1 qs0 qs1 qs2 qt0 qt1 qt2 rs0 rs1 rs2 rt0 rt1 rt2
      have qs0 := HO2.out.s0
      have qs1 := HO2.out.s1
      have qs2 := HO2.out.s2
      have qt0 := HO2.out.t0
      have qt1 := HO2.out.t1
      have qt2 := HO2.out.t2
      have rs0 := HP2.out.s0
      have rs1 := HP2.out.s1
      have rs2 := HP2.out.s2
      have rt0 := HP2.out.t0
      have rt1 := HP2.out.t1
      have rt2 := HP2.out.t2
      go_wp2_with fail
      with_reducible refine (sOrderMore_any xs A C s v a c k s' v' a' c' k' _ HO2.out.ints HO2.out.one HO2.out.two).mono ?_
      rw [HST.out]
      rintro e w3 ⟨rfl, hb⟩
      have HO3 := Lib.hid (HO2.out.next hb)
      have HP3 := Lib.hid (HP2.out.next hb)
      clear hb HO2 HP2 qs0 qs1 qs2 qt0 qt1 qt2 rs0 rs1 rs2 rt0 rt1 rt2
      have qs0 := HO3.out.s0
      have qs1 := HO3.out.s1
      have qs2 := HO3.out.s2
      have qt0 := HO3.out.t0
      have qt1 := HO3.out.t1
      have qt2 := HO3.out.t2
      have rs0 := HP3.out.s0
      have rs1 := HP3.out.s1
      have rs2 := HP3.out.s2
      have rt0 := HP3.out.t0
      have rt1 := HP3.out.t1
      have rt2 := HP3.out.t2
      go_wp2_with fail
      with_reducible refine (iOrderMore_any xs A C su vu au cu ku s v a c k _ HO3.out.ints HP3.out.one HO3.out.one).mono ?_
      rw [HUS.out]
      rintro e w4 ⟨rfl, hb⟩
      have HO4 := Lib.hid (HO3.out.next hb)
      have HP4 := Lib.hid (HP3.out.next hb)
      clear hb HO3 HP3 qs0 qs1 qs2 qt0 qt1 qt2 rs0 rs1 rs2 rt0 rt1 rt2
      go_wp2_with fail
      go_ret
      exact ⟨rfl, HO4.out.low⟩
  | true =>
    have HST := Lib.hid hST
    clear hST
    cases hTU : moreR xs s' v' k' su vu ku with
    | false =>
      have HTU := Lib.hid hTU
      clear hTU
      cases hTW : moreR xs s' v' k' sw vw kw with
      | false =>
        have HTW := Lib.hid hTW
        clear hTW
        cases hUS : moreR xs su vu ku s v k with
        | false =>
          have HUS := Lib.hid hUS
          clear hUS
          have qs0 := HO1.out.s0
          have qs1 := HO1.out.s1
          have qs2 := HO1.out.s2
          have qt0 := HO1.out.t0
          have qt1 := HO1.out.t1
          have qt2 := HO1.out.t2
          have rs0 := HP1.out.s0
          have rs1 := HP1.out.s1
          have rs2 := HP1.out.s2
          have rt0 := HP1.out.t0
          have rt1 := HP1.out.t1
          have rt2 := HP1.out.t2
          go_wp2_with fail
          with_reducible refine (iOrderMore_any xs A C s v a c k s' v' a' c' k' _ HO1.out.ints HO1.out.one HO1.out.two).mono ?_
          rw [HST.out]
          rintro e w2 ⟨rfl, hb⟩
          have HO2 := Lib.hid (HO1.out.next hb)
          have HP2 := Lib.hid (HP1.out.next hb)
          clear hb HO1 HP1 qs0 qs1 qs2 qt0 qt1 qt2 rs0 rs1 rs2 rt0 rt1 rt2
          have qs0 := HO2.out.s0
          have qs1 := HO2.out.s1
          have qs2 := HO2.out.s2
          have qt0 := HO2.out.t0
          have qt1 := HO2.out.t1
          have qt2 := HO2.out.t2
          have rs0 := HP2.out.s0
          have rs1 := HP2.out.s1
          have rs2 := HP2.out.s2
          have rt0 := HP2.out.t0
          have rt1 := HP2.out.t1
          have rt2 := HP2.out.t2
          go_wp2_with fail
          with_reducible refine (sOrderMore_any xs A C s v a c k s' v' a' c' k' _ HO2.out.ints HO2.out.one HO2.out.two).mono ?_
          rw [HST.out]
          rintro e w3 ⟨rfl, hb⟩
          have HO3 := Lib.hid (HO2.out.next hb)
          have HP3 := Lib.hid (HP2.out.next hb)
          clear hb HO2 HP2 qs0 qs1 qs2 qt0 qt1 qt2 rs0 rs1 rs2 rt0 rt1 rt2
          have qs0 := HO3.out.s0
          have qs1 := HO3.out.s1
          have qs2 := HO3.out.s2
          have qt0 := HO3.out.t0
          have qt1 := HO3.out.t1
          have qt2 := HO3.out.t2
          have rs0 := HP3.out.s0
          have rs1 := HP3.out.s1
          have rs2 := HP3.out.s2
          have rt0 := HP3.out.t0
          have rt1 := HP3.out.t1
          have rt2 := HP3.out.t2
          go_wp2_with fail
          with_reducible refine (iOrderMore_any xs A C s' v' a' c' k' su vu au cu ku _ HO3.out.ints HO3.out.two HP3.out.one).mono ?_
          rw [HTU.out]
          rintro e w4 ⟨rfl, hb⟩
          have HO4 := Lib.hid (HO3.out.next hb)
          have HP4 := Lib.hid (HP3.out.next hb)
          clear hb HO3 HP3 qs0 qs1 qs2 qt0 qt1 qt2 rs0 rs1 rs2 rt0 rt1 rt2
          have qs0 := HO4.out.s0
          have qs1 := HO4.out.s1
          have qs2 := HO4.out.s2
          have qt0 := HO4.out.t0
          have qt1 := HO4.out.t1
          have qt2 := HO4.out.t2
          have rs0 := HP4.out.s0
          have rs1 := HP4.out.s1
          have rs2 := HP4.out.s2
          have rt0 := HP4.out.t0
          have rt1 := HP4.out.t1
          have rt2 := HP4.out.t2
          go_wp2_with fail
          with_reducible refine (iOrderMore_any xs A C s' v' a' c' k' sw vw aw cw kw _ HO4.out.ints HO4.out.two HP4.out.two).mono ?_
          rw [HTW.out]
          rintro e w5 ⟨rfl, hb⟩
          have HO5 := Lib.hid (HO4.out.next hb)
          have HP5 := Lib.hid (HP4.out.next hb)
          clear hb HO4 HP4 qs0 qs1 qs2 qt0 qt1 qt2 rs0 rs1 rs2 rt0 rt1 rt2
          have qs0 := HO5.out.s0
          have qs1 := HO5.out.s1
          have qs2 := HO5.out.s2
          have qt0 := HO5.out.t0
          have qt1 := HO5.out.t1
          have qt2 := HO5.out.t2
          have rs0 := HP5.out.s0
          have rs1 := HP5.out.s1
          have rs2 := HP5.out.s2
          have rt0 := HP5.out.t0
          have rt1 := HP5.out.t1
          have rt2 := HP5.out.t2
          go_wp2_with fail
          with_reducible refine (iOrderMore_any xs A C su vu au cu ku s v a c k _ HO5.out.ints HP5.out.one HO5.out.one).mono ?_
          rw [HUS.out]
          rintro e w6 ⟨rfl, hb⟩
          have HO6 := Lib.hid (HO5.out.next hb)
          have HP6 := Lib.hid (HP5.out.next hb)
          clear hb HO5 HP5 qs0 qs1 qs2 qt0 qt1 qt2 rs0 rs1 rs2 rt0 rt1 rt2
          go_wp2_with fail
          go_ret
          exact ⟨rfl, HO6.out.low⟩
        | true =>
          have HUS := Lib.hid hUS
          clear hUS
          have HUT := Lib.hid (moreR_tr HUS.out HST.out)
          have qs0 := HO1.out.s0
          have qs1 := HO1.out.s1
          have qs2 := HO1.out.s2
          have qt0 := HO1.out.t0
          have qt1 := HO1.out.t1
          have qt2 := HO1.out.t2
          have rs0 := HP1.out.s0
          have rs1 := HP1.out.s1
          have rs2 := HP1.out.s2
          have rt0 := HP1.out.t0
          have rt1 := HP1.out.t1
          have rt2 := HP1.out.t2
          go_wp2_with fail
          with_reducible refine (iOrderMore_any xs A C s v a c k s' v' a' c' k' _ HO1.out.ints HO1.out.one HO1.out.two).mono ?_
          rw [HST.out]
          rintro e w2 ⟨rfl, hb⟩
          have HO2 := Lib.hid (HO1.out.next hb)
          have HP2 := Lib.hid (HP1.out.next hb)
          clear hb HO1 HP1 qs0 qs1 qs2 qt0 qt1 qt2 rs0 rs1 rs2 rt0 rt1 rt2
          have qs0 := HO2.out.s0
          have qs1 := HO2.out.s1
          have qs2 := HO2.out.s2
          have qt0 := HO2.out.t0
          have qt1 := HO2.out.t1
          have qt2 := HO2.out.t2
          have rs0 := HP2.out.s0
          have rs1 := HP2.out.s1
          have rs2 := HP2.out.s2
          have rt0 := HP2.out.t0
          have rt1 := HP2.out.t1
          have rt2 := HP2.out.t2
          go_wp2_with fail
          with_reducible refine (sOrderMore_any xs A C s v a c k s' v' a' c' k' _ HO2.out.ints HO2.out.one HO2.out.two).mono ?_
          rw [HST.out]
          rintro e w3 ⟨rfl, hb⟩
          have HO3 := Lib.hid (HO2.out.next hb)
          have HP3 := Lib.hid (HP2.out.next hb)
          clear hb HO2 HP2 qs0 qs1 qs2 qt0 qt1 qt2 rs0 rs1 rs2 rt0 rt1 rt2
          have qs0 := HO3.out.s0
          have qs1 := HO3.out.s1
          have qs2 := HO3.out.s2
          have qt0 := HO3.out.t0
          have qt1 := HO3.out.t1
          have qt2 := HO3.out.t2
          have rs0 := HP3.out.s0
          have rs1 := HP3.out.s1
          have rs2 := HP3.out.s2
          have rt0 := HP3.out.t0
          have rt1 := HP3.out.t1
          have rt2 := HP3.out.t2
          go_wp2_with fail
          with_reducible refine (iOrderMore_any xs A C s' v' a' c' k' su vu au cu ku _ HO3.out.ints HO3.out.two HP3.out.one).mono ?_
          rw [HTU.out]
          rintro e w4 ⟨rfl, hb⟩
          have HO4 := Lib.hid (HO3.out.next hb)
          have HP4 := Lib.hid (HP3.out.next hb)
          clear hb HO3 HP3 qs0 qs1 qs2 qt0 qt1 qt2 rs0 rs1 rs2 rt0 rt1 rt2
          have qs0 := HO4.out.s0
          have qs1 := HO4.out.s1
          have qs2 := HO4.out.s2
          have qt0 := HO4.out.t0
          have qt1 := HO4.out.t1
          have qt2 := HO4.out.t2
          have rs0 := HP4.out.s0
          have rs1 := HP4.out.s1
          have rs2 := HP4.out.s2
          have rt0 := HP4.out.t0
          have rt1 := HP4.out.t1
          have rt2 := HP4.out.t2
          go_wp2_with fail
          with_reducible refine (iOrderMore_any xs A C s' v' a' c' k' sw vw aw cw kw _ HO4.out.ints HO4.out.two HP4.out.two).mono ?_
          rw [HTW.out]
          rintro e w5 ⟨rfl, hb⟩
          have HO5 := Lib.hid (HO4.out.next hb)
          have HP5 := Lib.hid (HP4.out.next hb)
          clear hb HO4 HP4 qs0 qs1 qs2 qt0 qt1 qt2 rs0 rs1 rs2 rt0 rt1 rt2
          have qs0 := HO5.out.s0
          have qs1 := HO5.out.s1
          have qs2 := HO5.out.s2
          have qt0 := HO5.out.t0
          have qt1 := HO5.out.t1
          have qt2 := HO5.out.t2
          have rs0 := HP5.out.s0
          have rs1 := HP5.out.s1
          have rs2 := HP5.out.s2
          have rt0 := HP5.out.t0
          have rt1 := HP5.out.t1
          have rt2 := HP5.out.t2
          go_wp2_with fail
          with_reducible refine (iOrderMore_any xs A C su vu au cu ku s v a c k _ HO5.out.ints HP5.out.one HO5.out.one).mono ?_
          rw [HUS.out]
          rintro e w6 ⟨rfl, hb⟩
          have HO6 := Lib.hid (HO5.out.next hb)
          have HP6 := Lib.hid (HP5.out.next hb)
          clear hb HO5 HP5 qs0 qs1 qs2 qt0 qt1 qt2 rs0 rs1 rs2 rt0 rt1 rt2
          have qs0 := HO6.out.s0
          have qs1 := HO6.out.s1
          have qs2 := HO6.out.s2
          have qt0 := HO6.out.t0
          have qt1 := HO6.out.t1
          have qt2 := HO6.out.t2
          have rs0 := HP6.out.s0
          have rs1 := HP6.out.s1
          have rs2 := HP6.out.s2
          have rt0 := HP6.out.t0
          have rt1 := HP6.out.t1
          have rt2 := HP6.out.t2
          go_wp2_with fail
          with_reducible refine (iOrderMore_any xs A C su vu au cu ku s' v' a' c' k' _ HO6.out.ints HP6.out.one HO6.out.two).mono ?_
          rw [HUT.out]
          rintro e w7 ⟨rfl, hb⟩
          have HO7 := Lib.hid (HO6.out.next hb)
          have HP7 := Lib.hid (HP6.out.next hb)
          clear hb HO6 HP6 qs0 qs1 qs2 qt0 qt1 qt2 rs0 rs1 rs2 rt0 rt1 rt2
          go_wp2_with fail
          go_ret
          exact ⟨rfl, HO7.out.low⟩
      | true =>
        have HTW := Lib.hid hTW
        clear hTW
        cases hUS : moreR xs su vu ku s v k with
        | false =>
          have HUS := Lib.hid hUS
          clear hUS
          have HSW := Lib.hid (moreR_tr HST.out HTW.out)
          have qs0 := HO1.out.s0
          have qs1 := HO1.out.s1
          have qs2 := HO1.out.s2
          have qt0 := HO1.out.t0
          have qt1 := HO1.out.t1
          have qt2 := HO1.out.t2
          have rs0 := HP1.out.s0
          have rs1 := HP1.out.s1
          have rs2 := HP1.out.s2
          have rt0 := HP1.out.t0
          have rt1 := HP1.out.t1
          have rt2 := HP1.out.t2
          go_wp2_with fail
          with_reducible refine (iOrderMore_any xs A C s v a c k s' v' a' c' k' _ HO1.out.ints HO1.out.one HO1.out.two).mono ?_
          rw [HST.out]
          rintro e w2 ⟨rfl, hb⟩
          have HO2 := Lib.hid (HO1.out.next hb)
          have HP2 := Lib.hid (HP1.out.next hb)
          clear hb HO1 HP1 qs0 qs1 qs2 qt0 qt1 qt2 rs0 rs1 rs2 rt0 rt1 rt2
          have qs0 := HO2.out.s0
          have qs1 := HO2.out.s1
          have qs2 := HO2.out.s2
          have qt0 := HO2.out.t0
          have qt1 := HO2.out.t1
          have qt2 := HO2.out.t2
          have rs0 := HP2.out.s0
          have rs1 := HP2.out.s1
          have rs2 := HP2.out.s2
          have rt0 := HP2.out.t0
          have rt1 := HP2.out.t1
          have rt2 := HP2.out.t2
          go_wp2_with fail
          with_reducible refine (sOrderMore_any xs A C s v a c k s' v' a' c' k' _ HO2.out.ints HO2.out.one HO2.out.two).mono ?_
          rw [HST.out]
          rintro e w3 ⟨rfl, hb⟩
          have HO3 := Lib.hid (HO2.out.next hb)
          have HP3 := Lib.hid (HP2.out.next hb)
          clear hb HO2 HP2 qs0 qs1 qs2 qt0 qt1 qt2 rs0 rs1 rs2 rt0 rt1 rt2
          have qs0 := HO3.out.s0
          have qs1 := HO3.out.s1
          have qs2 := HO3.out.s2
          have qt0 := HO3.out.t0
          have qt1 := HO3.out.t1
          have qt2 := HO3.out.t2
          have rs0 := HP3.out.s0
          have rs1 := HP3.out.s1
          have rs2 := HP3.out.s2
          have rt0 := HP3.out.t0
          have rt1 := HP3.out.t1
          have rt2 := HP3.out.t2
          go_wp2_with fail
          with_reducible refine (iOrderMore_any xs A C s' v' a' c' k' su vu au cu ku _ HO3.out.ints HO3.out.two HP3.out.one).mono ?_
          rw [HTU.out]
          rintro e w4 ⟨rfl, hb⟩
          have HO4 := Lib.hid (HO3.out.next hb)
          have HP4 := Lib.hid (HP3.out.next hb)
          clear hb HO3 HP3 qs0 qs1 qs2 qt0 qt1 qt2 rs0 rs1 rs2 rt0 rt1 rt2
          have qs0 := HO4.out.s0
          have qs1 := HO4.out.s1
          have qs2 := HO4.out.s2
          have qt0 := HO4.out.t0
          have qt1 := HO4.out.t1
          have qt2 := HO4.out.t2
          have rs0 := HP4.out.s0
          have rs1 := HP4.out.s1
          have rs2 := HP4.out.s2
          have rt0 := HP4.out.t0
          have rt1 := HP4.out.t1
          have rt2 := HP4.out.t2
          go_wp2_with fail
          with_reducible refine (iOrderMore_any xs A C s' v' a' c' k' sw vw aw cw kw _ HO4.out.ints HO4.out.two HP4.out.two).mono ?_
          rw [HTW.out]
          rintro e w5 ⟨rfl, hb⟩
          have HO5 := Lib.hid (HO4.out.next hb)
          have HP5 := Lib.hid (HP4.out.next hb)
          clear hb HO4 HP4 qs0 qs1 qs2 qt0 qt1 qt2 rs0 rs1 rs2 rt0 rt1 rt2
          have qs0 := HO5.out.s0
          have qs1 := HO5.out.s1
          have qs2 := HO5.out.s2
          have qt0 := HO5.out.t0
          have qt1 := HO5.out.t1
          have qt2 := HO5.out.t2
          have rs0 := HP5.out.s0
          have rs1 := HP5.out.s1
          have rs2 := HP5.out.s2
          have rt0 := HP5.out.t0
          have rt1 := HP5.out.t1
          have rt2 := HP5.out.t2
          go_wp2_with fail
          with_reducible refine (iOrderMore_any xs A C s v a c k sw vw aw cw kw _ HO5.out.ints HO5.out.one HP5.out.two).mono ?_
          rw [HSW.out]
          rintro e w6 ⟨rfl, hb⟩
          have HO6 := Lib.hid (HO5.out.next hb)
          have HP6 := Lib.hid (HP5.out.next hb)
          clear hb HO5 HP5 qs0 qs1 qs2 qt0 qt1 qt2 rs0 rs1 rs2 rt0 rt1 rt2
          have qs0 := HO6.out.s0
          have qs1 := HO6.out.s1
          have qs2 := HO6.out.s2
          have qt0 := HO6.out.t0
          have qt1 := HO6.out.t1
          have qt2 := HO6.out.t2
          have rs0 := HP6.out.s0
          have rs1 := HP6.out.s1
          have rs2 := HP6.out.s2
          have rt0 := HP6.out.t0
          have rt1 := HP6.out.t1
          have rt2 := HP6.out.t2
          go_wp2_with fail
          with_reducible refine (iOrderMore_any xs A C su vu au cu ku s v a c k _ HO6.out.ints HP6.out.one HO6.out.one).mono ?_
          rw [HUS.out]
          rintro e w7 ⟨rfl, hb⟩
          have HO7 := Lib.hid (HO6.out.next hb)
          have HP7 := Lib.hid (HP6.out.next hb)
          clear hb HO6 HP6 qs0 qs1 qs2 qt0 qt1 qt2 rs0 rs1 rs2 rt0 rt1 rt2
          go_wp2_with fail
          go_ret
          exact ⟨rfl, HO7.out.low⟩
        | true =>
          have HUS := Lib.hid hUS
          clear hUS
          have HSW := Lib.hid (moreR_tr HST.out HTW.out)
          have HUT := Lib.hid (moreR_tr HUS.out HST.out)
          have qs0 := HO1.out.s0
          have qs1 := HO1.out.s1
          have qs2 := HO1.out.s2
          have qt0 := HO1.out.t0
          have qt1 := HO1.out.t1
          have qt2 := HO1.out.t2
          have rs0 := HP1.out.s0
          have rs1 := HP1.out.s1
          have rs2 := HP1.out.s2
          have rt0 := HP1.out.t0
          have rt1 := HP1.out.t1
          have rt2 := HP1.out.t2
          go_wp2_with fail
          with_reducible refine (iOrderMore_any xs A C s v a c k s' v' a' c' k' _ HO1.out.ints HO1.out.one HO1.out.two).mono ?_
          rw [HST.out]
          rintro e w2 ⟨rfl, hb⟩
          have HO2 := Lib.hid (HO1.out.next hb)
          have HP2 := Lib.hid (HP1.out.next hb)
          clear hb HO1 HP1 qs0 qs1 qs2 qt0 qt1 qt2 rs0 rs1 rs2 rt0 rt1 rt2
          have qs0 := HO2.out.s0
          have qs1 := HO2.out.s1
          have qs2 := HO2.out.s2
          have qt0 := HO2.out.t0
          have qt1 := HO2.out.t1
          have qt2 := HO2.out.t2
          have rs0 := HP2.out.s0
          have rs1 := HP2.out.s1
          have rs2 := HP2.out.s2
          have rt0 := HP2.out.t0
          have rt1 := HP2.out.t1
          have rt2 := HP2.out.t2
          go_wp2_with fail
          with_reducible refine (sOrderMore_any xs A C s v a c k s' v' a' c' k' _ HO2.out.ints HO2.out.one HO2.out.two).mono ?_
          rw [HST.out]
          rintro e w3 ⟨rfl, hb⟩
          have HO3 := Lib.hid (HO2.out.next hb)
          have HP3 := Lib.hid (HP2.out.next hb)
          clear hb HO2 HP2 qs0 qs1 qs2 qt0 qt1 qt2 rs0 rs1 rs2 rt0 rt1 rt2
          have qs0 := HO3.out.s0
          have qs1 := HO3.out.s1
          have qs2 := HO3.out.s2
          have qt0 := HO3.out.t0
          have qt1 := HO3.out.t1
          have qt2 := HO3.out.t2
          have rs0 := HP3.out.s0
          have rs1 := HP3.out.s1
          have rs2 := HP3.out.s2
          have rt0 := HP3.out.t0
          have rt1 := HP3.out.t1
          have rt2 := HP3.out.t2
          go_wp2_with fail
          with_reducible refine (iOrderMore_any xs A C s' v' a' c' k' su vu au cu ku _ HO3.out.ints HO3.out.two HP3.out.one).mono ?_
          rw [HTU.out]
          rintro e w4 ⟨rfl, hb⟩
          have HO4 := Lib.hid (HO3.out.next hb)
          have HP4 := Lib.hid (HP3.out.next hb)
          clear hb HO3 HP3 qs0 qs1 qs2 qt0 qt1 qt2 rs0 rs1 rs2 rt0 rt1 rt2
          have qs0 := HO4.out.s0
          have qs1 := HO4.out.s1
          have qs2 := HO4.out.s2
          have qt0 := HO4.out.t0
          have qt1 := HO4.out.t1
          have qt2 := HO4.out.t2
          have rs0 := HP4.out.s0
          have rs1 := HP4.out.s1
          have rs2 := HP4.out.s2
          have rt0 := HP4.out.t0
          have rt1 := HP4.out.t1
          have rt2 := HP4.out.t2
          go_wp2_with fail
          with_reducible refine (iOrderMore_any xs A C s' v' a' c' k' sw vw aw cw kw _ HO4.out.ints HO4.out.two HP4.out.two).mono ?_
          rw [HTW.out]
          rintro e w5 ⟨rfl, hb⟩
          have HO5 := Lib.hid (HO4.out.next hb)
          have HP5 := Lib.hid (HP4.out.next hb)
          clear hb HO4 HP4 qs0 qs1 qs2 qt0 qt1 qt2 rs0 rs1 rs2 rt0 rt1 rt2
          have qs0 := HO5.out.s0
          have qs1 := HO5.out.s1
          have qs2 := HO5.out.s2
          have qt0 := HO5.out.t0
          have qt1 := HO5.out.t1
          have qt2 := HO5.out.t2
          have rs0 := HP5.out.s0
          have rs1 := HP5.out.s1
          have rs2 := HP5.out.s2
          have rt0 := HP5.out.t0
          have rt1 := HP5.out.t1
          have rt2 := HP5.out.t2
          go_wp2_with fail
          with_reducible refine (iOrderMore_any xs A C s v a c k sw vw aw cw kw _ HO5.out.ints HO5.out.one HP5.out.two).mono ?_
          rw [HSW.out]
          rintro e w6 ⟨rfl, hb⟩
          have HO6 := Lib.hid (HO5.out.next hb)
          have HP6 := Lib.hid (HP5.out.next hb)
          clear hb HO5 HP5 qs0 qs1 qs2 qt0 qt1 qt2 rs0 rs1 rs2 rt0 rt1 rt2
          have qs0 := HO6.out.s0
          have qs1 := HO6.out.s1
          have qs2 := HO6.out.s2
          have qt0 := HO6.out.t0
          have qt1 := HO6.out.t1
          have qt2 := HO6.out.t2
          have rs0 := HP6.out.s0
          have rs1 := HP6.out.s1
          have rs2 := HP6.out.s2
          have rt0 := HP6.out.t0
          have rt1 := HP6.out.t1
          have rt2 := HP6.out.t2
          go_wp2_with fail
          with_reducible refine (iOrderMore_any xs A C su vu au cu ku s v a c k _ HO6.out.ints HP6.out.one HO6.out.one).mono ?_
          rw [HUS.out]
          rintro e w7 ⟨rfl, hb⟩
          have HO7 := Lib.hid (HO6.out.next hb)
          have HP7 := Lib.hid (HP6.out.next hb)
          clear hb HO6 HP6 qs0 qs1 qs2 qt0 qt1 qt2 rs0 rs1 rs2 rt0 rt1 rt2
          have qs0 := HO7.out.s0
          have qs1 := HO7.out.s1
          have qs2 := HO7.out.s2
          have qt0 := HO7.out.t0
          have qt1 := HO7.out.t1
          have qt2 := HO7.out.t2
          have rs0 := HP7.out.s0
          have rs1 := HP7.out.s1
          have rs2 := HP7.out.s2
          have rt0 := HP7.out.t0
          have rt1 := HP7.out.t1
          have rt2 := HP7.out.t2
          go_wp2_with fail
          with_reducible refine (iOrderMore_any xs A C su vu au cu ku s' v' a' c' k' _ HO7.out.ints HP7.out.one HO7.out.two).mono ?_
          rw [HUT.out]
          rintro e w8 ⟨rfl, hb⟩
          have HO8 := Lib.hid (HO7.out.next hb)
          have HP8 := Lib.hid (HP7.out.next hb)
          clear hb HO7 HP7 qs0 qs1 qs2 qt0 qt1 qt2 rs0 rs1 rs2 rt0 rt1 rt2
          go_wp2_with fail
          go_ret
          exact ⟨rfl, HO8.out.low⟩
    | true =>
      have HTU := Lib.hid hTU
      clear hTU
      cases hTW : moreR xs s' v' k' sw vw kw with
      | false =>
        have HTW := Lib.hid hTW
        clear hTW
        cases hUS : moreR xs su vu ku s v k with
        | false =>
          have HUS := Lib.hid hUS
          clear hUS
          have HSU := Lib.hid (moreR_tr HST.out HTU.out)
          have qs0 := HO1.out.s0
          have qs1 := HO1.out.s1
          have qs2 := HO1.out.s2
          have qt0 := HO1.out.t0
          have qt1 := HO1.out.t1
          have qt2 := HO1.out.t2
          have rs0 := HP1.out.s0
          have rs1 := HP1.out.s1
          have rs2 := HP1.out.s2
          have rt0 := HP1.out.t0
          have rt1 := HP1.out.t1
          have rt2 := HP1.out.t2
          go_wp2_with fail
          with_reducible refine (iOrderMore_any xs A C s v a c k s' v' a' c' k' _ HO1.out.ints HO1.out.one HO1.out.two).mono ?_
          rw [HST.out]
          rintro e w2 ⟨rfl, hb⟩
          have HO2 := Lib.hid (HO1.out.next hb)
          have HP2 := Lib.hid (HP1.out.next hb)
          clear hb HO1 HP1 qs0 qs1 qs2 qt0 qt1 qt2 rs0 rs1 rs2 rt0 rt1 rt2
          have qs0 := HO2.out.s0
          have qs1 := HO2.out.s1
          have qs2 := HO2.out.s2
          have qt0 := HO2.out.t0
          have qt1 := HO2.out.t1
          have qt2 := HO2.out.t2
          have rs0 := HP2.out.s0
          have rs1 := HP2.out.s1
          have rs2 := HP2.out.s2
          have rt0 := HP2.out.t0
          have rt1 := HP2.out.t1
          have rt2 := HP2.out.t2
          go_wp2_with fail
          with_reducible refine (sOrderMore_any xs A C s v a c k s' v' a' c' k' _ HO2.out.ints HO2.out.one HO2.out.two).mono ?_
          rw [HST.out]
          rintro e w3 ⟨rfl, hb⟩
          have HO3 := Lib.hid (HO2.out.next hb)
          have HP3 := Lib.hid (HP2.out.next hb)
          clear hb HO2 HP2 qs0 qs1 qs2 qt0 qt1 qt2 rs0 rs1 rs2 rt0 rt1 rt2
          have qs0 := HO3.out.s0
          have qs1 := HO3.out.s1
          have qs2 := HO3.out.s2
          have qt0 := HO3.out.t0
          have qt1 := HO3.out.t1
          have qt2 := HO3.out.t2
          have rs0 := HP3.out.s0
          have rs1 := HP3.out.s1
          have rs2 := HP3.out.s2
          have rt0 := HP3.out.t0
          have rt1 := HP3.out.t1
          have rt2 := HP3.out.t2
          go_wp2_with fail
          with_reducible refine (iOrderMore_any xs A C s' v' a' c' k' su vu au cu ku _ HO3.out.ints HO3.out.two HP3.out.one).mono ?_
          rw [HTU.out]
          rintro e w4 ⟨rfl, hb⟩
          have HO4 := Lib.hid (HO3.out.next hb)
          have HP4 := Lib.hid (HP3.out.next hb)
          clear hb HO3 HP3 qs0 qs1 qs2 qt0 qt1 qt2 rs0 rs1 rs2 rt0 rt1 rt2
          have qs0 := HO4.out.s0
          have qs1 := HO4.out.s1
          have qs2 := HO4.out.s2
          have qt0 := HO4.out.t0
          have qt1 := HO4.out.t1
          have qt2 := HO4.out.t2
          have rs0 := HP4.out.s0
          have rs1 := HP4.out.s1
          have rs2 := HP4.out.s2
          have rt0 := HP4.out.t0
          have rt1 := HP4.out.t1
          have rt2 := HP4.out.t2
          go_wp2_with fail
          with_reducible refine (iOrderMore_any xs A C s v a c k su vu au cu ku _ HO4.out.ints HO4.out.one HP4.out.one).mono ?_
          rw [HSU.out]
          rintro e w5 ⟨rfl, hb⟩
          have HO5 := Lib.hid (HO4.out.next hb)
          have HP5 := Lib.hid (HP4.out.next hb)
          clear hb HO4 HP4 qs0 qs1 qs2 qt0 qt1 qt2 rs0 rs1 rs2 rt0 rt1 rt2
          have qs0 := HO5.out.s0
          have qs1 := HO5.out.s1
          have qs2 := HO5.out.s2
          have qt0 := HO5.out.t0
          have qt1 := HO5.out.t1
          have qt2 := HO5.out.t2
          have rs0 := HP5.out.s0
          have rs1 := HP5.out.s1
          have rs2 := HP5.out.s2
          have rt0 := HP5.out.t0
          have rt1 := HP5.out.t1
          have rt2 := HP5.out.t2
          go_wp2_with fail
          with_reducible refine (iOrderMore_any xs A C s' v' a' c' k' sw vw aw cw kw _ HO5.out.ints HO5.out.two HP5.out.two).mono ?_
          rw [HTW.out]
          rintro e w6 ⟨rfl, hb⟩
          have HO6 := Lib.hid (HO5.out.next hb)
          have HP6 := Lib.hid (HP5.out.next hb)
          clear hb HO5 HP5 qs0 qs1 qs2 qt0 qt1 qt2 rs0 rs1 rs2 rt0 rt1 rt2
          have qs0 := HO6.out.s0
          have qs1 := HO6.out.s1
          have qs2 := HO6.out.s2
          have qt0 := HO6.out.t0
          have qt1 := HO6.out.t1
          have qt2 := HO6.out.t2
          have rs0 := HP6.out.s0
          have rs1 := HP6.out.s1
          have rs2 := HP6.out.s2
          have rt0 := HP6.out.t0
          have rt1 := HP6.out.t1
          have rt2 := HP6.out.t2
          go_wp2_with fail
          with_reducible refine (iOrderMore_any xs A C su vu au cu ku s v a c k _ HO6.out.ints HP6.out.one HO6.out.one).mono ?_
          rw [HUS.out]
          rintro e w7 ⟨rfl, hb⟩
          have HO7 := Lib.hid (HO6.out.next hb)
          have HP7 := Lib.hid (HP6.out.next hb)
          clear hb HO6 HP6 qs0 qs1 qs2 qt0 qt1 qt2 rs0 rs1 rs2 rt0 rt1 rt2
          go_wp2_with fail
          go_ret
          exact ⟨rfl, HO7.out.low⟩
        | true =>
          have HUS := Lib.hid hUS
          clear hUS
          have HSU := Lib.hid (moreR_tr HST.out HTU.out)
          have HUT := Lib.hid (moreR_tr HUS.out HST.out)
          have qs0 := HO1.out.s0
          have qs1 := HO1.out.s1
          have qs2 := HO1.out.s2
          have qt0 := HO1.out.t0
          have qt1 := HO1.out.t1
          have qt2 := HO1.out.t2
          have rs0 := HP1.out.s0
          have rs1 := HP1.out.s1
          have rs2 := HP1.out.s2
          have rt0 := HP1.out.t0
          have rt1 := HP1.out.t1
          have rt2 := HP1.out.t2
          go_wp2_with fail
          with_reducible refine (iOrderMore_any xs A C s v a c k s' v' a' c' k' _ HO1.out.ints HO1.out.one HO1.out.two).mono ?_
          rw [HST.out]
          rintro e w2 ⟨rfl, hb⟩
          have HO2 := Lib.hid (HO1.out.next hb)
          have HP2 := Lib.hid (HP1.out.next hb)
          clear hb HO1 HP1 qs0 qs1 qs2 qt0 qt1 qt2 rs0 rs1 rs2 rt0 rt1 rt2
          have qs0 := HO2.out.s0
          have qs1 := HO2.out.s1
          have qs2 := HO2.out.s2
          have qt0 := HO2.out.t0
          have qt1 := HO2.out.t1
          have qt2 := HO2.out.t2
          have rs0 := HP2.out.s0
          have rs1 := HP2.out.s1
          have rs2 := HP2.out.s2
          have rt0 := HP2.out.t0
          have rt1 := HP2.out.t1
          have rt2 := HP2.out.t2
          go_wp2_with fail
          with_reducible refine (sOrderMore_any xs A C s v a c k s' v' a' c' k' _ HO2.out.ints HO2.out.one HO2.out.two).mono ?_
          rw [HST.out]
          rintro e w3 ⟨rfl, hb⟩
          have HO3 := Lib.hid (HO2.out.next hb)
          have HP3 := Lib.hid (HP2.out.next hb)
          clear hb HO2 HP2 qs0 qs1 qs2 qt0 qt1 qt2 rs0 rs1 rs2 rt0 rt1 rt2
          have qs0 := HO3.out.s0
          have qs1 := HO3.out.s1
          have qs2 := HO3.out.s2
          have qt0 := HO3.out.t0
          have qt1 := HO3.out.t1
          have qt2 := HO3.out.t2
          have rs0 := HP3.out.s0
          have rs1 := HP3.out.s1
          have rs2 := HP3.out.s2
          have rt0 := HP3.out.t0
          have rt1 := HP3.out.t1
          have rt2 := HP3.out.t2
          go_wp2_with fail
          with_reducible refine (iOrderMore_any xs A C s' v' a' c' k' su vu au cu ku _ HO3.out.ints HO3.out.two HP3.out.one).mono ?_
          rw [HTU.out]
          rintro e w4 ⟨rfl, hb⟩
          have HO4 := Lib.hid (HO3.out.next hb)
          have HP4 := Lib.hid (HP3.out.next hb)
          clear hb HO3 HP3 qs0 qs1 qs2 qt0 qt1 qt2 rs0 rs1 rs2 rt0 rt1 rt2
          have qs0 := HO4.out.s0
          have qs1 := HO4.out.s1
          have qs2 := HO4.out.s2
          have qt0 := HO4.out.t0
          have qt1 := HO4.out.t1
          have qt2 := HO4.out.t2
          have rs0 := HP4.out.s0
          have rs1 := HP4.out.s1
          have rs2 := HP4.out.s2
          have rt0 := HP4.out.t0
          have rt1 := HP4.out.t1
          have rt2 := HP4.out.t2
          go_wp2_with fail
          with_reducible refine (iOrderMore_any xs A C s v a c k su vu au cu ku _ HO4.out.ints HO4.out.one HP4.out.one).mono ?_
          rw [HSU.out]
          rintro e w5 ⟨rfl, hb⟩
          have HO5 := Lib.hid (HO4.out.next hb)
          have HP5 := Lib.hid (HP4.out.next hb)
          clear hb HO4 HP4 qs0 qs1 qs2 qt0 qt1 qt2 rs0 rs1 rs2 rt0 rt1 rt2
          have qs0 := HO5.out.s0
          have qs1 := HO5.out.s1
          have qs2 := HO5.out.s2
          have qt0 := HO5.out.t0
          have qt1 := HO5.out.t1
          have qt2 := HO5.out.t2
          have rs0 := HP5.out.s0
          have rs1 := HP5.out.s1
          have rs2 := HP5.out.s2
          have rt0 := HP5.out.t0
          have rt1 := HP5.out.t1
          have rt2 := HP5.out.t2
          go_wp2_with fail
          with_reducible refine (iOrderMore_any xs A C s' v' a' c' k' sw vw aw cw kw _ HO5.out.ints HO5.out.two HP5.out.two).mono ?_
          rw [HTW.out]
          rintro e w6 ⟨rfl, hb⟩
          have HO6 := Lib.hid (HO5.out.next hb)
          have HP6 := Lib.hid (HP5.out.next hb)
          clear hb HO5 HP5 qs0 qs1 qs2 qt0 qt1 qt2 rs0 rs1 rs2 rt0 rt1 rt2
          have qs0 := HO6.out.s0
          have qs1 := HO6.out.s1
          have qs2 := HO6.out.s2
          have qt0 := HO6.out.t0
          have qt1 := HO6.out.t1
          have qt2 := HO6.out.t2
          have rs0 := HP6.out.s0
          have rs1 := HP6.out.s1
          have rs2 := HP6.out.s2
          have rt0 := HP6.out.t0
          have rt1 := HP6.out.t1
          have rt2 := HP6.out.t2
          go_wp2_with fail
          with_reducible refine (iOrderMore_any xs A C su vu au cu ku s v a c k _ HO6.out.ints HP6.out.one HO6.out.one).mono ?_
          rw [HUS.out]
          rintro e w7 ⟨rfl, hb⟩
          have HO7 := Lib.hid (HO6.out.next hb)
          have HP7 := Lib.hid (HP6.out.next hb)
          clear hb HO6 HP6 qs0 qs1 qs2 qt0 qt1 qt2 rs0 rs1 rs2 rt0 rt1 rt2
          have qs0 := HO7.out.s0
          have qs1 := HO7.out.s1
          have qs2 := HO7.out.s2
          have qt0 := HO7.out.t0
          have qt1 := HO7.out.t1
          have qt2 := HO7.out.t2
          have rs0 := HP7.out.s0
          have rs1 := HP7.out.s1
          have rs2 := HP7.out.s2
          have rt0 := HP7.out.t0
          have rt1 := HP7.out.t1
          have rt2 := HP7.out.t2
          go_wp2_with fail
          with_reducible refine (iOrderMore_any xs A C su vu au cu ku s' v' a' c' k' _ HO7.out.ints HP7.out.one HO7.out.two).mono ?_
          rw [HUT.out]
          rintro e w8 ⟨rfl, hb⟩
          have HO8 := Lib.hid (HO7.out.next hb)
          have HP8 := Lib.hid (HP7.out.next hb)
          clear hb HO7 HP7 qs0 qs1 qs2 qt0 qt1 qt2 rs0 rs1 rs2 rt0 rt1 rt2
          go_wp2_with fail
          go_ret
          exact ⟨rfl, HO8.out.low⟩
      | true =>
        have HTW := Lib.hid hTW
        clear hTW
        cases hUS : moreR xs su vu ku s v k with
        | false =>
          have HUS := Lib.hid hUS
          clear hUS
          have HSU := Lib.hid (moreR_tr HST.out HTU.out)
          have HSW := Lib.hid (moreR_tr HST.out HTW.out)
          have qs0 := HO1.out.s0
          have qs1 := HO1.out.s1
          have qs2 := HO1.out.s2
          have qt0 := HO1.out.t0
          have qt1 := HO1.out.t1
          have qt2 := HO1.out.t2
          have rs0 := HP1.out.s0
          have rs1 := HP1.out.s1
          have rs2 := HP1.out.s2
          have rt0 := HP1.out.t0
          have rt1 := HP1.out.t1
          have rt2 := HP1.out.t2
          go_wp2_with fail
          with_reducible refine (iOrderMore_any xs A C s v a c k s' v' a' c' k' _ HO1.out.ints HO1.out.one HO1.out.two).mono ?_
          rw [HST.out]
          rintro e w2 ⟨rfl, hb⟩
          have HO2 := Lib.hid (HO1.out.next hb)
          have HP2 := Lib.hid (HP1.out.next hb)
          clear hb HO1 HP1 qs0 qs1 qs2 qt0 qt1 qt2 rs0 rs1 rs2 rt0 rt1 rt2
          have qs0 := HO2.out.s0
          have qs1 := HO2.out.s1
          have qs2 := HO2.out.s2
          have qt0 := HO2.out.t0
          have qt1 := HO2.out.t1
          have qt2 := HO2.out.t2
          have rs0 := HP2.out.s0
          have rs1 := HP2.out.s1
          have rs2 := HP2.out.s2
          have rt0 := HP2.out.t0
          have rt1 := HP2.out.t1
          have rt2 := HP2.out.t2
          go_wp2_with fail
          with_reducible refine (sOrderMore_any xs A C s v a c k s' v' a' c' k' _ HO2.out.ints HO2.out.one HO2.out.two).mono ?_
          rw [HST.out]
          rintro e w3 ⟨rfl, hb⟩
          have HO3 := Lib.hid (HO2.out.next hb)
          have HP3 := Lib.hid (HP2.out.next hb)
          clear hb HO2 HP2 qs0 qs1 qs2 qt0 qt1 qt2 rs0 rs1 rs2 rt0 rt1 rt2
          have qs0 := HO3.out.s0
          have qs1 := HO3.out.s1
          have qs2 := HO3.out.s2
          have qt0 := HO3.out.t0
          have qt1 := HO3.out.t1
          have qt2 := HO3.out.t2
          have rs0 := HP3.out.s0
          have rs1 := HP3.out.s1
          have rs2 := HP3.out.s2
          have rt0 := HP3.out.t0
          have rt1 := HP3.out.t1
          have rt2 := HP3.out.t2
          go_wp2_with fail
          with_reducible refine (iOrderMore_any xs A C s' v' a' c' k' su vu au cu ku _ HO3.out.ints HO3.out.two HP3.out.one).mono ?_
          rw [HTU.out]
          rintro e w4 ⟨rfl, hb⟩
          have HO4 := Lib.hid (HO3.out.next hb)
          have HP4 := Lib.hid (HP3.out.next hb)
          clear hb HO3 HP3 qs0 qs1 qs2 qt0 qt1 qt2 rs0 rs1 rs2 rt0 rt1 rt2
          have qs0 := HO4.out.s0
          have qs1 := HO4.out.s1
          have qs2 := HO4.out.s2
          have qt0 := HO4.out.t0
          have qt1 := HO4.out.t1
          have qt2 := HO4.out.t2
          have rs0 := HP4.out.s0
          have rs1 := HP4.out.s1
          have rs2 := HP4.out.s2
          have rt0 := HP4.out.t0
          have rt1 := HP4.out.t1
          have rt2 := HP4.out.t2
          go_wp2_with fail
          with_reducible refine (iOrderMore_any xs A C s v a c k su vu au cu ku _ HO4.out.ints HO4.out.one HP4.out.one).mono ?_
          rw [HSU.out]
          rintro e w5 ⟨rfl, hb⟩
          have HO5 := Lib.hid (HO4.out.next hb)
          have HP5 := Lib.hid (HP4.out.next hb)
          clear hb HO4 HP4 qs0 qs1 qs2 qt0 qt1 qt2 rs0 rs1 rs2 rt0 rt1 rt2
          have qs0 := HO5.out.s0
          have qs1 := HO5.out.s1
          have qs2 := HO5.out.s2
          have qt0 := HO5.out.t0
          have qt1 := HO5.out.t1
          have qt2 := HO5.out.t2
          have rs0 := HP5.out.s0
          have rs1 := HP5.out.s1
          have rs2 := HP5.out.s2
          have rt0 := HP5.out.t0
          have rt1 := HP5.out.t1
          have rt2 := HP5.out.t2
          go_wp2_with fail
          with_reducible refine (iOrderMore_any xs A C s' v' a' c' k' sw vw aw cw kw _ HO5.out.ints HO5.out.two HP5.out.two).mono ?_
          rw [HTW.out]
          rintro e w6 ⟨rfl, hb⟩
          have HO6 := Lib.hid (HO5.out.next hb)
          have HP6 := Lib.hid (HP5.out.next hb)
          clear hb HO5 HP5 qs0 qs1 qs2 qt0 qt1 qt2 rs0 rs1 rs2 rt0 rt1 rt2
          have qs0 := HO6.out.s0
          have qs1 := HO6.out.s1
          have qs2 := HO6.out.s2
          have qt0 := HO6.out.t0
          have qt1 := HO6.out.t1
          have qt2 := HO6.out.t2
          have rs0 := HP6.out.s0
          have rs1 := HP6.out.s1
          have rs2 := HP6.out.s2
          have rt0 := HP6.out.t0
          have rt1 := HP6.out.t1
          have rt2 := HP6.out.t2
          go_wp2_with fail
          with_reducible refine (iOrderMore_any xs A C s v a c k sw vw aw cw kw _ HO6.out.ints HO6.out.one HP6.out.two).mono ?_
          rw [HSW.out]
          rintro e w7 ⟨rfl, hb⟩
          have HO7 := Lib.hid (HO6.out.next hb)
          have HP7 := Lib.hid (HP6.out.next hb)
          clear hb HO6 HP6 qs0 qs1 qs2 qt0 qt1 qt2 rs0 rs1 rs2 rt0 rt1 rt2
          have qs0 := HO7.out.s0
          have qs1 := HO7.out.s1
          have qs2 := HO7.out.s2
          have qt0 := HO7.out.t0
          have qt1 := HO7.out.t1
          have qt2 := HO7.out.t2
          have rs0 := HP7.out.s0
          have rs1 := HP7.out.s1
          have rs2 := HP7.out.s2
          have rt0 := HP7.out.t0
          have rt1 := HP7.out.t1
          have rt2 := HP7.out.t2
          go_wp2_with fail
          with_reducible refine (iOrderMore_any xs A C su vu au cu ku s v a c k _ HO7.out.ints HP7.out.one HO7.out.one).mono ?_
          rw [HUS.out]
          rintro e w8 ⟨rfl, hb⟩
          have HO8 := Lib.hid (HO7.out.next hb)
          have HP8 := Lib.hid (HP7.out.next hb)
          clear hb HO7 HP7 qs0 qs1 qs2 qt0 qt1 qt2 rs0 rs1 rs2 rt0 rt1 rt2
          go_wp2_with fail
          go_ret
          exact ⟨rfl, HO8.out.low⟩
        | true =>
          have HUS := Lib.hid hUS
          clear hUS
          have HSU := Lib.hid (moreR_tr HST.out HTU.out)
          have HSW := Lib.hid (moreR_tr HST.out HTW.out)
          have HUT := Lib.hid (moreR_tr HUS.out HST.out)
          have qs0 := HO1.out.s0
          have qs1 := HO1.out.s1
          have qs2 := HO1.out.s2
          have qt0 := HO1.out.t0
          have qt1 := HO1.out.t1
          have qt2 := HO1.out.t2
          have rs0 := HP1.out.s0
          have rs1 := HP1.out.s1
          have rs2 := HP1.out.s2
          have rt0 := HP1.out.t0
          have rt1 := HP1.out.t1
          have rt2 := HP1.out.t2
          go_wp2_with fail
          with_reducible refine (iOrderMore_any xs A C s v a c k s' v' a' c' k' _ HO1.out.ints HO1.out.one HO1.out.two).mono ?_
          rw [HST.out]
          rintro e w2 ⟨rfl, hb⟩
          have HO2 := Lib.hid (HO1.out.next hb)
          have HP2 := Lib.hid (HP1.out.next hb)
          clear hb HO1 HP1 qs0 qs1 qs2 qt0 qt1 qt2 rs0 rs1 rs2 rt0 rt1 rt2
          have qs0 := HO2.out.s0
          have qs1 := HO2.out.s1
          have qs2 := HO2.out.s2
          have qt0 := HO2.out.t0
          have qt1 := HO2.out.t1
          have qt2 := HO2.out.t2
          have rs0 := HP2.out.s0
          have rs1 := HP2.out.s1
          have rs2 := HP2.out.s2
          have rt0 := HP2.out.t0
          have rt1 := HP2.out.t1
          have rt2 := HP2.out.t2
          go_wp2_with fail
          with_reducible refine (sOrderMore_any xs A C s v a c k s' v' a' c' k' _ HO2.out.ints HO2.out.one HO2.out.two).mono ?_
          rw [HST.out]
          rintro e w3 ⟨rfl, hb⟩
          have HO3 := Lib.hid (HO2.out.next hb)
          have HP3 := Lib.hid (HP2.out.next hb)
          clear hb HO2 HP2 qs0 qs1 qs2 qt0 qt1 qt2 rs0 rs1 rs2 rt0 rt1 rt2
          have qs0 := HO3.out.s0
          have qs1 := HO3.out.s1
          have qs2 := HO3.out.s2
          have qt0 := HO3.out.t0
          have qt1 := HO3.out.t1
          have qt2 := HO3.out.t2
          have rs0 := HP3.out.s0
          have rs1 := HP3.out.s1
          have rs2 := HP3.out.s2
          have rt0 := HP3.out.t0
          have rt1 := HP3.out.t1
          have rt2 := HP3.out.t2
          go_wp2_with fail
          with_reducible refine (iOrderMore_any xs A C s' v' a' c' k' su vu au cu ku _ HO3.out.ints HO3.out.two HP3.out.one).mono ?_
          rw [HTU.out]
          rintro e w4 ⟨rfl, hb⟩
          have HO4 := Lib.hid (HO3.out.next hb)
          have HP4 := Lib.hid (HP3.out.next hb)
          clear hb HO3 HP3 qs0 qs1 qs2 qt0 qt1 qt2 rs0 rs1 rs2 rt0 rt1 rt2
          have qs0 := HO4.out.s0
          have qs1 := HO4.out.s1
          have qs2 := HO4.out.s2
          have qt0 := HO4.out.t0
          have qt1 := HO4.out.t1
          have qt2 := HO4.out.t2
          have rs0 := HP4.out.s0
          have rs1 := HP4.out.s1
          have rs2 := HP4.out.s2
          have rt0 := HP4.out.t0
          have rt1 := HP4.out.t1
          have rt2 := HP4.out.t2
          go_wp2_with fail
          with_reducible refine (iOrderMore_any xs A C s v a c k su vu au cu ku _ HO4.out.ints HO4.out.one HP4.out.one).mono ?_
          rw [HSU.out]
          rintro e w5 ⟨rfl, hb⟩
          have HO5 := Lib.hid (HO4.out.next hb)
          have HP5 := Lib.hid (HP4.out.next hb)
          clear hb HO4 HP4 qs0 qs1 qs2 qt0 qt1 qt2 rs0 rs1 rs2 rt0 rt1 rt2
          have qs0 := HO5.out.s0
          have qs1 := HO5.out.s1
          have qs2 := HO5.out.s2
          have qt0 := HO5.out.t0
          have qt1 := HO5.out.t1
          have qt2 := HO5.out.t2
          have rs0 := HP5.out.s0
          have rs1 := HP5.out.s1
          have rs2 := HP5.out.s2
          have rt0 := HP5.out.t0
          have rt1 := HP5.out.t1
          have rt2 := HP5.out.t2
          go_wp2_with fail
          with_reducible refine (iOrderMore_any xs A C s' v' a' c' k' sw vw aw cw kw _ HO5.out.ints HO5.out.two HP5.out.two).mono ?_
          rw [HTW.out]
          rintro e w6 ⟨rfl, hb⟩
          have HO6 := Lib.hid (HO5.out.next hb)
          have HP6 := Lib.hid (HP5.out.next hb)
          clear hb HO5 HP5 qs0 qs1 qs2 qt0 qt1 qt2 rs0 rs1 rs2 rt0 rt1 rt2
          have qs0 := HO6.out.s0
          have qs1 := HO6.out.s1
          have qs2 := HO6.out.s2
          have qt0 := HO6.out.t0
          have qt1 := HO6.out.t1
          have qt2 := HO6.out.t2
          have rs0 := HP6.out.s0
          have rs1 := HP6.out.s1
          have rs2 := HP6.out.s2
          have rt0 := HP6.out.t0
          have rt1 := HP6.out.t1
          have rt2 := HP6.out.t2
          go_wp2_with fail
          with_reducible refine (iOrderMore_any xs A C s v a c k sw vw aw cw kw _ HO6.out.ints HO6.out.one HP6.out.two).mono ?_
          rw [HSW.out]
          rintro e w7 ⟨rfl, hb⟩
          have HO7 := Lib.hid (HO6.out.next hb)
          have HP7 := Lib.hid (HP6.out.next hb)
          clear hb HO6 HP6 qs0 qs1 qs2 qt0 qt1 qt2 rs0 rs1 rs2 rt0 rt1 rt2
          have qs0 := HO7.out.s0
          have qs1 := HO7.out.s1
          have qs2 := HO7.out.s2
          have qt0 := HO7.out.t0
          have qt1 := HO7.out.t1
          have qt2 := HO7.out.t2
          have rs0 := HP7.out.s0
          have rs1 := HP7.out.s1
          have rs2 := HP7.out.s2
          have rt0 := HP7.out.t0
          have rt1 := HP7.out.t1
          have rt2 := HP7.out.t2
          go_wp2_with fail
          with_reducible refine (iOrderMore_any xs A C su vu au cu ku s v a c k _ HO7.out.ints HP7.out.one HO7.out.one).mono ?_
          rw [HUS.out]
          rintro e w8 ⟨rfl, hb⟩
          have HO8 := Lib.hid (HO7.out.next hb)
          have HP8 := Lib.hid (HP7.out.next hb)
          clear hb HO7 HP7 qs0 qs1 qs2 qt0 qt1 qt2 rs0 rs1 rs2 rt0 rt1 rt2
          have qs0 := HO8.out.s0
          have qs1 := HO8.out.s1
          have qs2 := HO8.out.s2
          have qt0 := HO8.out.t0
          have qt1 := HO8.out.t1
          have qt2 := HO8.out.t2
          have rs0 := HP8.out.s0
          have rs1 := HP8.out.s1
          have rs2 := HP8.out.s2
          have rt0 := HP8.out.t0
          have rt1 := HP8.out.t1
          have rt2 := HP8.out.t2
          go_wp2_with fail
          with_reducible refine (iOrderMore_any xs A C su vu au cu ku s' v' a' c' k' _ HO8.out.ints HP8.out.one HO8.out.two).mono ?_
          rw [HUT.out]
          rintro e w9 ⟨rfl, hb⟩
          have HO9 := Lib.hid (HO8.out.next hb)
          have HP9 := Lib.hid (HP8.out.next hb)
          clear hb HO8 HP8 qs0 qs1 qs2 qt0 qt1 qt2 rs0 rs1 rs2 rt0 rt1 rt2
          go_wp2_with fail
          go_ret
          exact ⟨rfl, HO9.out.low⟩
end Go.Proofs.Ytbgjdkpdjclagaa
