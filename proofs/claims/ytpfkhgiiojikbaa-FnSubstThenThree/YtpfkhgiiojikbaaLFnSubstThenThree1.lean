/- Several texts in one: LawSThree. -/
import Derived.Test.YtpfkhgiiojikbaaKThen15
import Derived.Test.YtpfkhgiiojikbaaKThen13
import Derived.Test.YtpfkhgiiojikbaaKThen16

/-! LawSThree: laws.FnSubstThenThree answers true at every code. -/
namespace Go.Proofs.Ytpfkhgiiojikbaa
open Go.RowKit Go.Deep
attribute [local go_sem ↓] Go.wp_at_zero Go.wp_at_succ

set_option maxRecDepth 100000 in
set_option maxHeartbeats 4000000 in
theorem substThenThree_walk (a0 : Option Addr) (len cap : Nat) (a1 : Option Addr) (len1 cap1 : Nat) (w : World) (hby : Bytes w a0 len) (hlen : len ≤ cap) (hby1 : Bytes w a1 len1) (hlen1 : len1 ≤ cap1) :
    Calls Try.prog 4 #[.slice a0 len cap, .slice a1 len1 cap1] w fun e w' => e = .returned (.bool true) ∧ Below w.heap.size w w' := by
  have HBY := Lib.hid hby
  clear hby
  have HBY1 := Lib.hid hby1
  clear hby1
  by_cases hbiglen : 1048576 < len
  · go_enter Try.func4, Try.ntmps4
    go_wp2_with fail
    go_ret
    exact ⟨rfl, Below.refl _ _⟩
  by_cases hbiglen1 : 1048576 < len1
  · go_enter Try.func4, Try.ntmps4
    go_wp2_with fail
    go_ret
    exact ⟨rfl, Below.refl _ _⟩
  go_enter Try.func4, Try.ntmps4
  go_wp2_with fail
  with_reducible refine (DrawSubstThen_any a0 len cap _ HBY.out hlen).mono ?_
  rintro e wa ⟨bs, A, C, us, B, D, rfl, hbl, hul, hb, hi, hj⟩
  have Hlow := Lib.hid hb
  have HBS : Hid (BSl wa 0 wa.heap.size A bs) := hi.mono (Nat.zero_le _) (Nat.le_refl _)
  have HUS : Hid (BSl wa 0 wa.heap.size B us) := hj.mono (Nat.zero_le _) (Nat.le_refl _)
  have HY : Hid (Bytes wa a1 len1) := HBY1.out.next hb
  clear hb hi hj HBY HBY1
  go_wp2_with fail
  with_reducible refine (DrawSubstThen_any a1 len1 cap1 _ HY.out hlen1).mono ?_
  rintro e wx1 ⟨ws, E, F, _, _, _, rfl, hwl, _, hb, hk, _⟩
  have Hlow' : Hid (Below w.heap.size w wx1) := below_next Hlow.out hb
  have HBS' : Hid (BSl wx1 0 wx1.heap.size A bs) := HBS.out.next hb
  have HUS' : Hid (BSl wx1 0 wx1.heap.size B us) := HUS.out.next hb
  have HY' : Hid (Bytes wx1 a1 len1) := HY.out.next hb
  clear Hlow HBS HUS HY
  have Hlow := Hlow'
  clear Hlow'
  have HBS := HBS'
  clear HBS'
  have HUS := HUS'
  clear HUS'
  have HY := HY'
  clear HY'
  have HWS : Hid (BSl wx1 0 wx1.heap.size E ws) := hk.mono (Nat.zero_le _) (Nat.le_refl _)
  clear hb hk HY
  go_wp2_with fail
  with_reducible refine (sSubstThen_any bs us A B C D _ HBS.out HUS.out (by omega) (by omega)).mono ?_
  rintro e wx2 ⟨Aw, Cw, bw, tw, hdw, rfl, hb, hsw⟩
  have HDw := Lib.hid hdw
  clear hdw
  have Hlow' : Hid (Below w.heap.size w wx2) := below_next Hlow.out hb
  have HBS' : Hid (BSl wx2 0 wx2.heap.size A bs) := HBS.out.next hb
  have HUS' : Hid (BSl wx2 0 wx2.heap.size B us) := HUS.out.next hb
  have HWS' : Hid (BSl wx2 0 wx2.heap.size E ws) := HWS.out.next hb
  clear Hlow HBS HUS HWS
  have Hlow := Hlow'
  clear Hlow'
  have HBS := HBS'
  clear HBS'
  have HUS := HUS'
  clear HUS'
  have HWS := HWS'
  clear HWS'
  clear hb
  have Hw : Hid (BSl wx2 0 wx2.heap.size Aw bw) := hsw
  clear hsw
  go_wp2_with fail
  with_reducible refine (iSubstThen_any bs us A B C D _ HBS.out HUS.out (by omega) (by omega)).mono ?_
  rintro e wx3 ⟨Ax, Cx, bx, tx, hdx, rfl, hb, hsx⟩
  rw [HDw.out] at hdx
  simp only [Prod.mk.injEq] at hdx
  obtain ⟨rfl, rfl⟩ := hdx
  have Hlow' : Hid (Below w.heap.size w wx3) := below_next Hlow.out hb
  have HBS' : Hid (BSl wx3 0 wx3.heap.size A bs) := HBS.out.next hb
  have HUS' : Hid (BSl wx3 0 wx3.heap.size B us) := HUS.out.next hb
  have HWS' : Hid (BSl wx3 0 wx3.heap.size E ws) := HWS.out.next hb
  have Hw' : Hid (BSl wx3 0 wx3.heap.size Aw bw) := Hw.out.next hb
  clear Hlow HBS HUS HWS Hw
  have Hlow := Hlow'
  clear Hlow'
  have HBS := HBS'
  clear HBS'
  have HUS := HUS'
  clear HUS'
  have HWS := HWS'
  clear HWS'
  have Hw := Hw'
  clear Hw'
  clear hb
  have Hx : Hid (BSl wx3 0 wx3.heap.size Ax bw) := hsx
  clear hsx
  have HSM := Lib.hid (thR_small HDw.out)
  have eb : (tw != tw) = false := by simp
  have eb2 : (tw == tw) = true := by simp
  go_wp2_with fail
  with_reducible refine (laSubst_same bw Ax Aw Cx Cw _ Hx.out Hw.out (by have := HSM.out.1; omega) HSM.out.2).mono ?_
  rintro e wx4 ⟨rfl, hb⟩
  have Hlow' : Hid (Below w.heap.size w wx4) := below_next Hlow.out hb
  have HBS' : Hid (BSl wx4 0 wx4.heap.size A bs) := HBS.out.next hb
  have HUS' : Hid (BSl wx4 0 wx4.heap.size B us) := HUS.out.next hb
  have HWS' : Hid (BSl wx4 0 wx4.heap.size E ws) := HWS.out.next hb
  have Hw' : Hid (BSl wx4 0 wx4.heap.size Aw bw) := Hw.out.next hb
  have Hx' : Hid (BSl wx4 0 wx4.heap.size Ax bw) := Hx.out.next hb
  clear Hlow HBS HUS HWS Hw Hx
  have Hlow := Hlow'
  clear Hlow'
  have HBS := HBS'
  clear HBS'
  have HUS := HUS'
  clear HUS'
  have HWS := HWS'
  clear HWS'
  have Hw := Hw'
  clear Hw'
  have Hx := Hx'
  clear Hx'
  clear hb
  cases tw with
  | false =>
    go_wp2_with fail
    with_reducible refine (laSubst_same bw Ax Aw Cx Cw _ Hx.out Hw.out (by have := HSM.out.1; omega) HSM.out.2).mono ?_
    rintro e wx5 ⟨rfl, hb⟩
    have Hlow' : Hid (Below w.heap.size w wx5) := below_next Hlow.out hb
    have HBS' : Hid (BSl wx5 0 wx5.heap.size A bs) := HBS.out.next hb
    have HUS' : Hid (BSl wx5 0 wx5.heap.size B us) := HUS.out.next hb
    have HWS' : Hid (BSl wx5 0 wx5.heap.size E ws) := HWS.out.next hb
    have Hw' : Hid (BSl wx5 0 wx5.heap.size Aw bw) := Hw.out.next hb
    have Hx' : Hid (BSl wx5 0 wx5.heap.size Ax bw) := Hx.out.next hb
    clear Hlow HBS HUS HWS Hw Hx
    have Hlow := Hlow'
    clear Hlow'
    have HBS := HBS'
    clear HBS'
    have HUS := HUS'
    clear HUS'
    have HWS := HWS'
    clear HWS'
    have Hw := Hw'
    clear Hw'
    have Hx := Hx'
    clear Hx'
    clear hb
    go_wp2_with fail
    go_ret
    exact ⟨rfl, Hlow.out⟩
  | true =>
    clear eb eb2 Hw
    go_wp2_with fail
    with_reducible refine (iSubstThen_any bw ws Ax E Cx F _ Hx.out HWS.out (by have := HSM.out.1; omega) (by omega)).mono ?_
    rintro e wx5 ⟨Ap, Cp, bp, tp, hdp, rfl, hb, hsp⟩
    have HDp := Lib.hid hdp
    clear hdp
    have Hlow' : Hid (Below w.heap.size w wx5) := below_next Hlow.out hb
    have HBS' : Hid (BSl wx5 0 wx5.heap.size A bs) := HBS.out.next hb
    have HUS' : Hid (BSl wx5 0 wx5.heap.size B us) := HUS.out.next hb
    have HWS' : Hid (BSl wx5 0 wx5.heap.size E ws) := HWS.out.next hb
    have Hx' : Hid (BSl wx5 0 wx5.heap.size Ax bw) := Hx.out.next hb
    clear Hlow HBS HUS HWS Hx
    have Hlow := Hlow'
    clear Hlow'
    have HBS := HBS'
    clear HBS'
    have HUS := HUS'
    clear HUS'
    have HWS := HWS'
    clear HWS'
    have Hx := Hx'
    clear Hx'
    clear hb
    have Hp : Hid (BSl wx5 0 wx5.heap.size Ap bp) := hsp
    clear hsp
    go_wp2_with fail
    with_reducible refine (iSubstThen_any us ws B E D F _ HUS.out HWS.out (by omega) (by omega)).mono ?_
    rintro e wx6 ⟨Az, Cz, bz, tz, hdz, rfl, hb, hsz⟩
    have HDz := Lib.hid hdz
    clear hdz
    have Hlow' : Hid (Below w.heap.size w wx6) := below_next Hlow.out hb
    have HBS' : Hid (BSl wx6 0 wx6.heap.size A bs) := HBS.out.next hb
    have HUS' : Hid (BSl wx6 0 wx6.heap.size B us) := HUS.out.next hb
    have HWS' : Hid (BSl wx6 0 wx6.heap.size E ws) := HWS.out.next hb
    have Hx' : Hid (BSl wx6 0 wx6.heap.size Ax bw) := Hx.out.next hb
    have Hp' : Hid (BSl wx6 0 wx6.heap.size Ap bp) := Hp.out.next hb
    clear Hlow HBS HUS HWS Hx Hp
    have Hlow := Hlow'
    clear Hlow'
    have HBS := HBS'
    clear HBS'
    have HUS := HUS'
    clear HUS'
    have HWS := HWS'
    clear HWS'
    have Hx := Hx'
    clear Hx'
    have Hp := Hp'
    clear Hp'
    clear hb
    have Hz : Hid (BSl wx6 0 wx6.heap.size Az bz) := hsz
    clear hsz
    have HSZ := Lib.hid (thR_small HDz.out)
    go_wp2_with fail
    with_reducible refine (iSubstThen_any bs bz A Az C Cz _ HBS.out Hz.out (by omega) (by have := HSZ.out.1; omega)).mono ?_
    rintro e wx7 ⟨Av, Cv, bv, tv, hdv, rfl, hb, hsv⟩
    have HDv := Lib.hid hdv
    clear hdv
    have Hlow' : Hid (Below w.heap.size w wx7) := below_next Hlow.out hb
    have HBS' : Hid (BSl wx7 0 wx7.heap.size A bs) := HBS.out.next hb
    have HUS' : Hid (BSl wx7 0 wx7.heap.size B us) := HUS.out.next hb
    have HWS' : Hid (BSl wx7 0 wx7.heap.size E ws) := HWS.out.next hb
    have Hx' : Hid (BSl wx7 0 wx7.heap.size Ax bw) := Hx.out.next hb
    have Hp' : Hid (BSl wx7 0 wx7.heap.size Ap bp) := Hp.out.next hb
    have Hz' : Hid (BSl wx7 0 wx7.heap.size Az bz) := Hz.out.next hb
    clear Hlow HBS HUS HWS Hx Hp Hz
    have Hlow := Hlow'
    clear Hlow'
    have HBS := HBS'
    clear HBS'
    have HUS := HUS'
    clear HUS'
    have HWS := HWS'
    clear HWS'
    have Hx := Hx'
    clear Hx'
    have Hp := Hp'
    clear Hp'
    have Hz := Hz'
    clear Hz'
    clear hb
    have Hv : Hid (BSl wx7 0 wx7.heap.size Av bv) := hsv
    clear hsv
    cases tp with
    | false =>
      go_wp2_with fail
      go_ret
      exact ⟨rfl, Hlow.out⟩
    | true =>
      cases tz with
      | false =>
        go_wp2_with fail
        go_ret
        exact ⟨rfl, Hlow.out⟩
      | true =>
        cases tv with
        | false =>
          go_wp2_with fail
          go_ret
          exact ⟨rfl, Hlow.out⟩
        | true =>
          obtain rfl := th_three HDw.out HDp.out HDz.out HDv.out
          have HSP := Lib.hid (thR_small HDp.out)
          go_wp2_with fail
          with_reducible refine (laSubst_same bp Ap Av Cp Cv _ Hp.out Hv.out (by have := HSP.out.1; omega) HSP.out.2).mono ?_
          rintro e wx8 ⟨rfl, hb⟩
          have Hlow' : Hid (Below w.heap.size w wx8) := below_next Hlow.out hb
          have HBS' : Hid (BSl wx8 0 wx8.heap.size A bs) := HBS.out.next hb
          have HUS' : Hid (BSl wx8 0 wx8.heap.size B us) := HUS.out.next hb
          have HWS' : Hid (BSl wx8 0 wx8.heap.size E ws) := HWS.out.next hb
          have Hx' : Hid (BSl wx8 0 wx8.heap.size Ax bw) := Hx.out.next hb
          have Hp' : Hid (BSl wx8 0 wx8.heap.size Ap bp) := Hp.out.next hb
          have Hz' : Hid (BSl wx8 0 wx8.heap.size Az bz) := Hz.out.next hb
          have Hv' : Hid (BSl wx8 0 wx8.heap.size Av bp) := Hv.out.next hb
          clear Hlow HBS HUS HWS Hx Hp Hz Hv
          have Hlow := Hlow'
          clear Hlow'
          have HBS := HBS'
          clear HBS'
          have HUS := HUS'
          clear HUS'
          have HWS := HWS'
          clear HWS'
          have Hx := Hx'
          clear Hx'
          have Hp := Hp'
          clear Hp'
          have Hz := Hz'
          clear Hz'
          have Hv := Hv'
          clear Hv'
          clear hb
          go_wp2_with fail
          go_ret
          exact ⟨rfl, Hlow.out⟩
end Go.Proofs.Ytpfkhgiiojikbaa
