/- Several texts in one: LawSThen. -/
import Derived.Test.YtpfkhgiiojikbaaKThen15
import Derived.Test.YtpfkhgiiojikbaaKThen9
import Derived.Test.YtpfkhgiiojikbaaKThen16
import Derived.Test.YtpfkhgiiojikbaaKThen13

/-! LawSThen: laws.FnSubstThen answers true at every code. -/
namespace Go.Proofs.Ytpfkhgiiojikbaa
open Go.RowKit Go.Deep
attribute [local go_sem ↓] Go.wp_at_zero Go.wp_at_succ

set_option maxRecDepth 100000 in
set_option maxHeartbeats 4000000 in
theorem substThen_walk (a0 : Option Addr) (len cap : Nat) (a1 : Option Addr) (len1 cap1 : Nat) (w : World) (hby : Bytes w a0 len) (hlen : len ≤ cap) (hby1 : Bytes w a1 len1) (hlen1 : len1 ≤ cap1) :
    Calls Try.prog 3 #[.slice a0 len cap, .slice a1 len1 cap1] w fun e w' => e = .returned (.bool true) ∧ Below w.heap.size w w' := by
  have HBY := Lib.hid hby
  clear hby
  have HBY1 := Lib.hid hby1
  clear hby1
  by_cases hbiglen : 1048576 < len
  · go_enter Try.func3, Try.ntmps3
    go_wp2_with fail
    go_ret
    exact ⟨rfl, Below.refl _ _⟩
  by_cases hbiglen1 : 1048576 < len1
  · go_enter Try.func3, Try.ntmps3
    go_wp2_with fail
    go_ret
    exact ⟨rfl, Below.refl _ _⟩
  go_enter Try.func3, Try.ntmps3
  go_wp2_with fail
  with_reducible refine (DrawSubstThen_any a0 len cap _ HBY.out hlen).mono ?_
  rintro e wa ⟨bs, A, C, us, B, D, rfl, hbl, hul, hb, hi, hj⟩
  have Hlow := Lib.hid hb
  have HBS : Hid (BSl wa 0 wa.heap.size A bs) := hi.mono (Nat.zero_le _) (Nat.le_refl _)
  have HUS : Hid (BSl wa 0 wa.heap.size B us) := hj.mono (Nat.zero_le _) (Nat.le_refl _)
  have HY : Hid (Bytes wa a1 len1) := HBY1.out.next hb
  clear hb hi hj HBY HBY1
  go_wp2_with fail
  with_reducible refine (DrawSubstDo_any a1 len1 cap1 _ HY.out hlen1).mono ?_
  rintro e wx1 ⟨_, _, _, s, v, a, c, k, rfl, _, hSk, hb, _, hl⟩
  have Hlow' : Hid (Below w.heap.size w wx1) := below_next Hlow.out hb
  have HBS' : Hid (BSl wx1 0 wx1.heap.size A bs) := HBS.out.next hb
  have HUS' : Hid (BSl wx1 0 wx1.heap.size B us) := HUS.out.next hb
  have HY' : Hid (Bytes wx1 a1 len1) := HY.out.next hb
  clear Hlow HBS HUS HY
  have Hlow := Hlow'
  clear Hlow'
  have HBS := HBS'
  clear HBS'
  have HUS := HUS'
  clear HUS'
  have HY := HY'
  clear HY'
  have HL := Lib.hid hl
  clear hb hl HY
  have hbx : Below wx1.heap.size wx1 (wx1.alloc (.cells #[.int .i64 s, .int .i64 v, .slice a (flen k) c] 28)) := box_low _ _
  have Hn : Hid (Tb wx1.heap.size s v a c k (wx1.alloc (.cells #[.int .i64 s, .int .i64 v, .slice a (flen k) c] 28))) := Tb.new HL.out
  have Hlow' : Hid (Below w.heap.size w (wx1.alloc (.cells #[.int .i64 s, .int .i64 v, .slice a (flen k) c] 28))) := below_next Hlow.out hbx
  have HBS' : Hid (BSl (wx1.alloc (.cells #[.int .i64 s, .int .i64 v, .slice a (flen k) c] 28)) 0 (wx1.alloc (.cells #[.int .i64 s, .int .i64 v, .slice a (flen k) c] 28)).heap.size A bs) := HBS.out.next hbx
  have HUS' : Hid (BSl (wx1.alloc (.cells #[.int .i64 s, .int .i64 v, .slice a (flen k) c] 28)) 0 (wx1.alloc (.cells #[.int .i64 s, .int .i64 v, .slice a (flen k) c] 28)).heap.size B us) := HUS.out.next hbx
  clear Hlow HBS HUS
  have Hlow := Hlow'
  clear Hlow'
  have HBS := HBS'
  clear HBS'
  have HUS := HUS'
  clear HUS'
  have Ht := Hn
  clear Hn hbx
  clear HL
  go_wp2_with fail
  with_reducible refine (sSubstThen_any bs us A B C D _ HBS.out HUS.out (by omega) (by omega)).mono ?_
  rintro e wx2 ⟨Aw, Cw, bw, tw, hdw, rfl, hb, hsw⟩
  have HDw := Lib.hid hdw
  clear hdw
  have Hlow' : Hid (Below w.heap.size w wx2) := below_next Hlow.out hb
  have HBS' : Hid (BSl wx2 0 wx2.heap.size A bs) := HBS.out.next hb
  have HUS' : Hid (BSl wx2 0 wx2.heap.size B us) := HUS.out.next hb
  have Ht' : Hid (Tb wx1.heap.size s v a c k wx2) := Ht.out.next hb
  clear Hlow HBS HUS Ht
  have Hlow := Hlow'
  clear Hlow'
  have HBS := HBS'
  clear HBS'
  have HUS := HUS'
  clear HUS'
  have Ht := Ht'
  clear Ht'
  clear hb
  have Hw : Hid (BSl wx2 0 wx2.heap.size Aw bw) := hsw
  clear hsw
  go_wp2_with fail
  with_reducible refine (iSubstThen_any bs us A B C D _ HBS.out HUS.out (by omega) (by omega)).mono ?_
  rintro e wx3 ⟨Ax, Cx, bx, tx, hdx, rfl, hb, hsx⟩
  rw [HDw.out] at hdx
  simp only [Prod.mk.injEq] at hdx
  obtain ⟨rfl, rfl⟩ := hdx
  have Hlow' : Hid (Below w.heap.size w wx3) := below_next Hlow.out hb
  have HBS' : Hid (BSl wx3 0 wx3.heap.size A bs) := HBS.out.next hb
  have HUS' : Hid (BSl wx3 0 wx3.heap.size B us) := HUS.out.next hb
  have Ht' : Hid (Tb wx1.heap.size s v a c k wx3) := Ht.out.next hb
  have Hw' : Hid (BSl wx3 0 wx3.heap.size Aw bw) := Hw.out.next hb
  clear Hlow HBS HUS Ht Hw
  have Hlow := Hlow'
  clear Hlow'
  have HBS := HBS'
  clear HBS'
  have HUS := HUS'
  clear HUS'
  have Ht := Ht'
  clear Ht'
  have Hw := Hw'
  clear Hw'
  clear hb
  have Hx : Hid (BSl wx3 0 wx3.heap.size Ax bw) := hsx
  clear hsx
  have HSM := Lib.hid (thR_small HDw.out)
  have eb : (tw != tw) = false := by simp
  have eb2 : (tw == tw) = true := by simp
  go_wp2_with fail
  with_reducible refine (laSubst_same bw Ax Aw Cx Cw _ Hx.out Hw.out (by have := HSM.out.1; omega) HSM.out.2).mono ?_
  rintro e wx4 ⟨rfl, hb⟩
  have Hlow' : Hid (Below w.heap.size w wx4) := below_next Hlow.out hb
  have HBS' : Hid (BSl wx4 0 wx4.heap.size A bs) := HBS.out.next hb
  have HUS' : Hid (BSl wx4 0 wx4.heap.size B us) := HUS.out.next hb
  have Ht' : Hid (Tb wx1.heap.size s v a c k wx4) := Ht.out.next hb
  have Hw' : Hid (BSl wx4 0 wx4.heap.size Aw bw) := Hw.out.next hb
  have Hx' : Hid (BSl wx4 0 wx4.heap.size Ax bw) := Hx.out.next hb
  clear Hlow HBS HUS Ht Hw Hx
  have Hlow := Hlow'
  clear Hlow'
  have HBS := HBS'
  clear HBS'
  have HUS := HUS'
  clear HUS'
  have Ht := Ht'
  clear Ht'
  have Hw := Hw'
  clear Hw'
  have Hx := Hx'
  clear Hx'
  clear hb
  cases tw with
  | false =>
    go_wp2_with fail
    with_reducible refine (laSubst_same bw Ax Aw Cx Cw _ Hx.out Hw.out (by have := HSM.out.1; omega) HSM.out.2).mono ?_
    rintro e wx5 ⟨rfl, hb⟩
    have Hlow' : Hid (Below w.heap.size w wx5) := below_next Hlow.out hb
    have HBS' : Hid (BSl wx5 0 wx5.heap.size A bs) := HBS.out.next hb
    have HUS' : Hid (BSl wx5 0 wx5.heap.size B us) := HUS.out.next hb
    have Ht' : Hid (Tb wx1.heap.size s v a c k wx5) := Ht.out.next hb
    have Hw' : Hid (BSl wx5 0 wx5.heap.size Aw bw) := Hw.out.next hb
    have Hx' : Hid (BSl wx5 0 wx5.heap.size Ax bw) := Hx.out.next hb
    clear Hlow HBS HUS Ht Hw Hx
    have Hlow := Hlow'
    clear Hlow'
    have HBS := HBS'
    clear HBS'
    have HUS := HUS'
    clear HUS'
    have Ht := Ht'
    clear Ht'
    have Hw := Hw'
    clear Hw'
    have Hx := Hx'
    clear Hx'
    clear hb
    go_wp2_with fail
    go_ret
    exact ⟨rfl, Hlow.out⟩
  | true =>
    clear eb eb2 Hw
    have HSK := Lib.hid (thR_sok HDw.out)
    have qt0 := Ht.out.c0
    have qt1 := Ht.out.c1
    have qt2 := Ht.out.c2
    go_wp2_with fail
    with_reducible refine (iSubstDo_any bs A C s v a c k _ HBS.out (by omega) Ht.out.sl).mono ?_
    rintro e wx5 ⟨aa, ca, sa, va, ka, ta, hda, rfl, hb, hla⟩
    have HDa := Lib.hid hda
    clear hda
    clear qt0 qt1 qt2
    have Hlow' : Hid (Below w.heap.size w wx5) := below_next Hlow.out hb
    have HBS' : Hid (BSl wx5 0 wx5.heap.size A bs) := HBS.out.next hb
    have HUS' : Hid (BSl wx5 0 wx5.heap.size B us) := HUS.out.next hb
    have Ht' : Hid (Tb wx1.heap.size s v a c k wx5) := Ht.out.next hb
    have Hx' : Hid (BSl wx5 0 wx5.heap.size Ax bw) := Hx.out.next hb
    clear Hlow HBS HUS Ht Hx
    have Hlow := Hlow'
    clear Hlow'
    have HBS := HBS'
    clear HBS'
    have HUS := HUS'
    clear HUS'
    have Ht := Ht'
    clear Ht'
    have Hx := Hx'
    clear Hx'
    clear hb
    have Hla := Lib.hid hla
    clear hla
    have hbx : Below wx5.heap.size wx5 (wx5.alloc (.cells #[.int .i64 sa, .int .i64 va, .slice aa (flen ka) ca] 28)) := box_low _ _
    have Hn : Hid (Tb wx5.heap.size sa va aa ca ka (wx5.alloc (.cells #[.int .i64 sa, .int .i64 va, .slice aa (flen ka) ca] 28))) := Tb.new Hla.out
    have Hlow' : Hid (Below w.heap.size w (wx5.alloc (.cells #[.int .i64 sa, .int .i64 va, .slice aa (flen ka) ca] 28))) := below_next Hlow.out hbx
    have HBS' : Hid (BSl (wx5.alloc (.cells #[.int .i64 sa, .int .i64 va, .slice aa (flen ka) ca] 28)) 0 (wx5.alloc (.cells #[.int .i64 sa, .int .i64 va, .slice aa (flen ka) ca] 28)).heap.size A bs) := HBS.out.next hbx
    have HUS' : Hid (BSl (wx5.alloc (.cells #[.int .i64 sa, .int .i64 va, .slice aa (flen ka) ca] 28)) 0 (wx5.alloc (.cells #[.int .i64 sa, .int .i64 va, .slice aa (flen ka) ca] 28)).heap.size B us) := HUS.out.next hbx
    have Ht' : Hid (Tb wx1.heap.size s v a c k (wx5.alloc (.cells #[.int .i64 sa, .int .i64 va, .slice aa (flen ka) ca] 28))) := Ht.out.next hbx
    have Hx' : Hid (BSl (wx5.alloc (.cells #[.int .i64 sa, .int .i64 va, .slice aa (flen ka) ca] 28)) 0 (wx5.alloc (.cells #[.int .i64 sa, .int .i64 va, .slice aa (flen ka) ca] 28)).heap.size Ax bw) := Hx.out.next hbx
    clear Hlow HBS HUS Ht Hx
    have Hlow := Hlow'
    clear Hlow'
    have HBS := HBS'
    clear HBS'
    have HUS := HUS'
    clear HUS'
    have Ht := Ht'
    clear Ht'
    have Hx := Hx'
    clear Hx'
    have Ha := Hn
    clear Hn hbx
    clear Hla
    have qa0 := Ha.out.c0
    have qa1 := Ha.out.c1
    have qa2 := Ha.out.c2
    go_wp2_with fail
    with_reducible refine (iSubstDo_any us B D sa va aa ca ka _ HUS.out (by omega) Ha.out.sl).mono ?_
    rintro e wx6 ⟨ab, cb, sb, vb, kb, tb, hdb, rfl, hb, hlb⟩
    have HDb := Lib.hid hdb
    clear hdb
    clear qa0 qa1 qa2
    have Hlow' : Hid (Below w.heap.size w wx6) := below_next Hlow.out hb
    have HBS' : Hid (BSl wx6 0 wx6.heap.size A bs) := HBS.out.next hb
    have HUS' : Hid (BSl wx6 0 wx6.heap.size B us) := HUS.out.next hb
    have Ht' : Hid (Tb wx1.heap.size s v a c k wx6) := Ht.out.next hb
    have Hx' : Hid (BSl wx6 0 wx6.heap.size Ax bw) := Hx.out.next hb
    have Ha' : Hid (Tb wx5.heap.size sa va aa ca ka wx6) := Ha.out.next hb
    clear Hlow HBS HUS Ht Hx Ha
    have Hlow := Hlow'
    clear Hlow'
    have HBS := HBS'
    clear HBS'
    have HUS := HUS'
    clear HUS'
    have Ht := Ht'
    clear Ht'
    have Hx := Hx'
    clear Hx'
    have Ha := Ha'
    clear Ha'
    clear hb
    have Hlb := Lib.hid hlb
    clear hlb
    have hbx : Below wx6.heap.size wx6 (wx6.alloc (.cells #[.int .i64 sb, .int .i64 vb, .slice ab (flen kb) cb] 28)) := box_low _ _
    have Hn : Hid (Tb wx6.heap.size sb vb ab cb kb (wx6.alloc (.cells #[.int .i64 sb, .int .i64 vb, .slice ab (flen kb) cb] 28))) := Tb.new Hlb.out
    have Hlow' : Hid (Below w.heap.size w (wx6.alloc (.cells #[.int .i64 sb, .int .i64 vb, .slice ab (flen kb) cb] 28))) := below_next Hlow.out hbx
    have HBS' : Hid (BSl (wx6.alloc (.cells #[.int .i64 sb, .int .i64 vb, .slice ab (flen kb) cb] 28)) 0 (wx6.alloc (.cells #[.int .i64 sb, .int .i64 vb, .slice ab (flen kb) cb] 28)).heap.size A bs) := HBS.out.next hbx
    have HUS' : Hid (BSl (wx6.alloc (.cells #[.int .i64 sb, .int .i64 vb, .slice ab (flen kb) cb] 28)) 0 (wx6.alloc (.cells #[.int .i64 sb, .int .i64 vb, .slice ab (flen kb) cb] 28)).heap.size B us) := HUS.out.next hbx
    have Ht' : Hid (Tb wx1.heap.size s v a c k (wx6.alloc (.cells #[.int .i64 sb, .int .i64 vb, .slice ab (flen kb) cb] 28))) := Ht.out.next hbx
    have Hx' : Hid (BSl (wx6.alloc (.cells #[.int .i64 sb, .int .i64 vb, .slice ab (flen kb) cb] 28)) 0 (wx6.alloc (.cells #[.int .i64 sb, .int .i64 vb, .slice ab (flen kb) cb] 28)).heap.size Ax bw) := Hx.out.next hbx
    have Ha' : Hid (Tb wx5.heap.size sa va aa ca ka (wx6.alloc (.cells #[.int .i64 sb, .int .i64 vb, .slice ab (flen kb) cb] 28))) := Ha.out.next hbx
    clear Hlow HBS HUS Ht Hx Ha
    have Hlow := Hlow'
    clear Hlow'
    have HBS := HBS'
    clear HBS'
    have HUS := HUS'
    clear HUS'
    have Ht := Ht'
    clear Ht'
    have Hx := Hx'
    clear Hx'
    have Ha := Ha'
    clear Ha'
    have Hb := Hn
    clear Hn hbx
    clear Hlb
    have qt0 := Ht.out.c0
    have qt1 := Ht.out.c1
    have qt2 := Ht.out.c2
    go_wp2_with fail
    with_reducible refine (iSubstDo_any bw Ax Cx s v a c k _ Hx.out (by have := HSM.out.1; omega) Ht.out.sl).mono ?_
    rintro e wx7 ⟨ac, cc, sc, vc, kc, tc, hdc, rfl, hb, hlc⟩
    have HDc := Lib.hid hdc
    clear hdc
    clear qt0 qt1 qt2
    have Hlow' : Hid (Below w.heap.size w wx7) := below_next Hlow.out hb
    have HBS' : Hid (BSl wx7 0 wx7.heap.size A bs) := HBS.out.next hb
    have HUS' : Hid (BSl wx7 0 wx7.heap.size B us) := HUS.out.next hb
    have Ht' : Hid (Tb wx1.heap.size s v a c k wx7) := Ht.out.next hb
    have Hx' : Hid (BSl wx7 0 wx7.heap.size Ax bw) := Hx.out.next hb
    have Ha' : Hid (Tb wx5.heap.size sa va aa ca ka wx7) := Ha.out.next hb
    have Hb' : Hid (Tb wx6.heap.size sb vb ab cb kb wx7) := Hb.out.next hb
    clear Hlow HBS HUS Ht Hx Ha Hb
    have Hlow := Hlow'
    clear Hlow'
    have HBS := HBS'
    clear HBS'
    have HUS := HUS'
    clear HUS'
    have Ht := Ht'
    clear Ht'
    have Hx := Hx'
    clear Hx'
    have Ha := Ha'
    clear Ha'
    have Hb := Hb'
    clear Hb'
    clear hb
    have Hlc := Lib.hid hlc
    clear hlc
    have hbx : Below wx7.heap.size wx7 (wx7.alloc (.cells #[.int .i64 sc, .int .i64 vc, .slice ac (flen kc) cc] 28)) := box_low _ _
    have Hn : Hid (Tb wx7.heap.size sc vc ac cc kc (wx7.alloc (.cells #[.int .i64 sc, .int .i64 vc, .slice ac (flen kc) cc] 28))) := Tb.new Hlc.out
    have Hlow' : Hid (Below w.heap.size w (wx7.alloc (.cells #[.int .i64 sc, .int .i64 vc, .slice ac (flen kc) cc] 28))) := below_next Hlow.out hbx
    have HBS' : Hid (BSl (wx7.alloc (.cells #[.int .i64 sc, .int .i64 vc, .slice ac (flen kc) cc] 28)) 0 (wx7.alloc (.cells #[.int .i64 sc, .int .i64 vc, .slice ac (flen kc) cc] 28)).heap.size A bs) := HBS.out.next hbx
    have HUS' : Hid (BSl (wx7.alloc (.cells #[.int .i64 sc, .int .i64 vc, .slice ac (flen kc) cc] 28)) 0 (wx7.alloc (.cells #[.int .i64 sc, .int .i64 vc, .slice ac (flen kc) cc] 28)).heap.size B us) := HUS.out.next hbx
    have Ht' : Hid (Tb wx1.heap.size s v a c k (wx7.alloc (.cells #[.int .i64 sc, .int .i64 vc, .slice ac (flen kc) cc] 28))) := Ht.out.next hbx
    have Hx' : Hid (BSl (wx7.alloc (.cells #[.int .i64 sc, .int .i64 vc, .slice ac (flen kc) cc] 28)) 0 (wx7.alloc (.cells #[.int .i64 sc, .int .i64 vc, .slice ac (flen kc) cc] 28)).heap.size Ax bw) := Hx.out.next hbx
    have Ha' : Hid (Tb wx5.heap.size sa va aa ca ka (wx7.alloc (.cells #[.int .i64 sc, .int .i64 vc, .slice ac (flen kc) cc] 28))) := Ha.out.next hbx
    have Hb' : Hid (Tb wx6.heap.size sb vb ab cb kb (wx7.alloc (.cells #[.int .i64 sc, .int .i64 vc, .slice ac (flen kc) cc] 28))) := Hb.out.next hbx
    clear Hlow HBS HUS Ht Hx Ha Hb
    have Hlow := Hlow'
    clear Hlow'
    have HBS := HBS'
    clear HBS'
    have HUS := HUS'
    clear HUS'
    have Ht := Ht'
    clear Ht'
    have Hx := Hx'
    clear Hx'
    have Ha := Ha'
    clear Ha'
    have Hb := Hb'
    clear Hb'
    have Hc := Hn
    clear Hn hbx
    clear Hlc
    have hkb := sdR_sz HDb.out
    go_wp2_with fail
    with_reducible refine (iSubstOk_any bw Ax Cx _ Hx.out (by have := HSM.out.1; omega)).mono ?_
    rw [HSK.out]
    rintro e wx8 ⟨rfl, hb⟩
    have Hlow' : Hid (Below w.heap.size w wx8) := below_next Hlow.out hb
    have HBS' : Hid (BSl wx8 0 wx8.heap.size A bs) := HBS.out.next hb
    have HUS' : Hid (BSl wx8 0 wx8.heap.size B us) := HUS.out.next hb
    have Ht' : Hid (Tb wx1.heap.size s v a c k wx8) := Ht.out.next hb
    have Hx' : Hid (BSl wx8 0 wx8.heap.size Ax bw) := Hx.out.next hb
    have Ha' : Hid (Tb wx5.heap.size sa va aa ca ka wx8) := Ha.out.next hb
    have Hb' : Hid (Tb wx6.heap.size sb vb ab cb kb wx8) := Hb.out.next hb
    have Hc' : Hid (Tb wx7.heap.size sc vc ac cc kc wx8) := Hc.out.next hb
    clear Hlow HBS HUS Ht Hx Ha Hb Hc
    have Hlow := Hlow'
    clear Hlow'
    have HBS := HBS'
    clear HBS'
    have HUS := HUS'
    clear HUS'
    have Ht := Ht'
    clear Ht'
    have Hx := Hx'
    clear Hx'
    have Ha := Ha'
    clear Ha'
    have Hb := Hb'
    clear Hb'
    have Hc := Hc'
    clear Hc'
    clear hb
    cases ta with
    | false =>
      go_wp2_with fail
      go_ret
      exact ⟨rfl, Hlow.out⟩
    | true =>
      cases tb with
      | false =>
        go_wp2_with fail
        go_ret
        exact ⟨rfl, Hlow.out⟩
      | true =>
        have hcc := HDc.out
        rw [th_twice HDw.out HDa.out HDb.out] at hcc
        simp only [Prod.mk.injEq] at hcc
        obtain ⟨rfl, rfl, rfl, rfl⟩ := hcc
        have qb0 := Hb.out.c0
        have qb1 := Hb.out.c1
        have qb2 := Hb.out.c2
        have qc0 := Hc.out.c0
        have qc1 := Hc.out.c1
        have qc2 := Hc.out.c2
        go_wp2_with fail
        with_reducible refine (laTerm_same (fsz kb) sb vb ab ac cb cc kb _ Hb.out.sl Hc.out.sl (Nat.le_refl _) (by omega)).mono ?_
        rintro e wx9 ⟨rfl, hb⟩
        clear qb0 qb1 qb2 qc0 qc1 qc2
        have Hlow' : Hid (Below w.heap.size w wx9) := below_next Hlow.out hb
        have HBS' : Hid (BSl wx9 0 wx9.heap.size A bs) := HBS.out.next hb
        have HUS' : Hid (BSl wx9 0 wx9.heap.size B us) := HUS.out.next hb
        have Ht' : Hid (Tb wx1.heap.size s v a c k wx9) := Ht.out.next hb
        have Hx' : Hid (BSl wx9 0 wx9.heap.size Ax bw) := Hx.out.next hb
        have Ha' : Hid (Tb wx5.heap.size sa va aa ca ka wx9) := Ha.out.next hb
        have Hb' : Hid (Tb wx6.heap.size sb vb ab cb kb wx9) := Hb.out.next hb
        have Hc' : Hid (Tb wx7.heap.size sb vb ac cc kb wx9) := Hc.out.next hb
        clear Hlow HBS HUS Ht Hx Ha Hb Hc
        have Hlow := Hlow'
        clear Hlow'
        have HBS := HBS'
        clear HBS'
        have HUS := HUS'
        clear HUS'
        have Ht := Ht'
        clear Ht'
        have Hx := Hx'
        clear Hx'
        have Ha := Ha'
        clear Ha'
        have Hb := Hb'
        clear Hb'
        have Hc := Hc'
        clear Hc'
        clear hb
        go_wp2_with fail
        go_ret
        exact ⟨rfl, Hlow.out⟩
end Go.Proofs.Ytpfkhgiiojikbaa
