/- Several texts in one: LawMThrough. -/
import Derived.Test.YtlaaihnokoeliaaKMat15
import Derived.Test.YtlaaihnokoeliaaKMat19
import Derived.Test.YtlaaihnokoeliaaKMat20
import Derived.Test.YtlaaihnokoeliaaKMat3
import Derived.Test.YtlaaihnokoeliaaKMat10

/-! LawMThrough: laws.FnMatchThrough answers true at any two codes. -/
namespace Go.Proofs.Ytlaaihnokoeliaa
open Go.RowKit Go.Deep
attribute [local go_sem ↓] Go.wp_at_zero Go.wp_at_succ

set_option maxRecDepth 100000 in
set_option maxHeartbeats 4000000 in
theorem matchThrough_walk (a0 : Option Addr) (len cap : Nat) (a1 : Option Addr) (len1 cap1 : Nat) (w : World) (hby : Bytes w a0 len) (hlen : len ≤ cap) (hby1 : Bytes w a1 len1) (hlen1 : len1 ≤ cap1) :
    Calls Try.prog 8 #[.slice a0 len cap, .slice a1 len1 cap1] w fun e w' => e = .returned (.bool true) ∧ Below w.heap.size w w' := by
  have HBY := Lib.hid hby
  clear hby
  have HBY1 := Lib.hid hby1
  clear hby1
  by_cases hbiglen : 1048576 < len
  · go_enter Try.func8, Try.ntmps8
    go_wp2_with fail
    go_ret
    exact ⟨rfl, Below.refl _ _⟩
  by_cases hbiglen1 : 1048576 < len1
  · go_enter Try.func8, Try.ntmps8
    go_wp2_with fail
    go_ret
    exact ⟨rfl, Below.refl _ _⟩
  go_enter Try.func8, Try.ntmps8
  go_wp2_with fail
  with_reducible refine (DrawMatchOf_z a0 len cap _ HBY.out hlen).mono ?_
  rintro e wa ⟨s, v, a, c, k, s2, v2, a2, c2, k2, rfl, ⟨hSk, hZ⟩, ⟨hSk2, hZ2⟩, hb, hl, hl2⟩
  have Hlow := Lib.hid hb
  have HZ := Lib.hid hZ
  have HZ2 := Lib.hid hZ2
  have HL := Lib.hid hl
  have Hm : Hid (Sl wa 0 wa.heap.size a2 k2) := hl2.mono (Nat.zero_le _) (Nat.le_refl _)
  have HY : Hid (Bytes wa a1 len1) := HBY1.out.next hb
  clear HBY1
  clear hb hl hl2 HBY hZ hZ2
  have hbx : Below wa.heap.size wa (wa.alloc (.cells #[.int .i64 s, .int .i64 v, .slice a (flen k) c] 25)) := box_low _ _
  have Hn : Hid (Tb wa.heap.size s v a c k (wa.alloc (.cells #[.int .i64 s, .int .i64 v, .slice a (flen k) c] 25))) := Tb.new HL.out
  have Hlow' : Hid (Below w.heap.size w (wa.alloc (.cells #[.int .i64 s, .int .i64 v, .slice a (flen k) c] 25))) := below_next Hlow.out hbx
  have Hm' : Hid (Sl (wa.alloc (.cells #[.int .i64 s, .int .i64 v, .slice a (flen k) c] 25)) 0 (wa.alloc (.cells #[.int .i64 s, .int .i64 v, .slice a (flen k) c] 25)).heap.size a2 k2) := Hm.out.next hbx
  have HY' : Hid (Bytes (wa.alloc (.cells #[.int .i64 s, .int .i64 v, .slice a (flen k) c] 25)) a1 len1) := HY.out.next hbx
  clear Hlow Hm HY
  have Hlow := Hlow'
  clear Hlow'
  have Hm := Hm'
  clear Hm'
  have HY := HY'
  clear HY'
  have Hp := Hn
  clear Hn hbx
  clear HL
  have hbx : Below (wa.alloc (.cells #[.int .i64 s, .int .i64 v, .slice a (flen k) c] 25)).heap.size (wa.alloc (.cells #[.int .i64 s, .int .i64 v, .slice a (flen k) c] 25)) ((wa.alloc (.cells #[.int .i64 s, .int .i64 v, .slice a (flen k) c] 25)).alloc (.cells #[.int .i64 s2, .int .i64 v2, .slice a2 (flen k2) c2] 25)) := box_low _ _
  have Hn : Hid (Tb (wa.heap.size + 1) s2 v2 a2 c2 k2 ((wa.alloc (.cells #[.int .i64 s, .int .i64 v, .slice a (flen k) c] 25)).alloc (.cells #[.int .i64 s2, .int .i64 v2, .slice a2 (flen k2) c2] 25))) := (show (wa.alloc (.cells #[.int .i64 s, .int .i64 v, .slice a (flen k) c] 25)).heap.size = (wa.heap.size + 1) from by simp) ▸ Tb.new Hm.out
  have Hlow' : Hid (Below w.heap.size w ((wa.alloc (.cells #[.int .i64 s, .int .i64 v, .slice a (flen k) c] 25)).alloc (.cells #[.int .i64 s2, .int .i64 v2, .slice a2 (flen k2) c2] 25))) := below_next Hlow.out hbx
  have Hm' : Hid (Sl ((wa.alloc (.cells #[.int .i64 s, .int .i64 v, .slice a (flen k) c] 25)).alloc (.cells #[.int .i64 s2, .int .i64 v2, .slice a2 (flen k2) c2] 25)) 0 ((wa.alloc (.cells #[.int .i64 s, .int .i64 v, .slice a (flen k) c] 25)).alloc (.cells #[.int .i64 s2, .int .i64 v2, .slice a2 (flen k2) c2] 25)).heap.size a2 k2) := Hm.out.next hbx
  have HY' : Hid (Bytes ((wa.alloc (.cells #[.int .i64 s, .int .i64 v, .slice a (flen k) c] 25)).alloc (.cells #[.int .i64 s2, .int .i64 v2, .slice a2 (flen k2) c2] 25)) a1 len1) := HY.out.next hbx
  have Hp' : Hid (Tb wa.heap.size s v a c k ((wa.alloc (.cells #[.int .i64 s, .int .i64 v, .slice a (flen k) c] 25)).alloc (.cells #[.int .i64 s2, .int .i64 v2, .slice a2 (flen k2) c2] 25))) := Hp.out.next hbx
  clear Hlow Hm HY Hp
  have Hlow := Hlow'
  clear Hlow'
  have Hm := Hm'
  clear Hm'
  have HY := HY'
  clear HY'
  have Hp := Hp'
  clear Hp'
  have Ht := Hn
  clear Hn hbx
  clear Hm
  go_wp2_with fail
  with_reducible refine (DrawSubstDo_any a1 len1 cap1 _ HY.out hlen1).mono ?_
  rintro e wx1 ⟨us, A, C, sz, vz, az, cz, kz, rfl, hbl, hSz, hb, hi, hl⟩
  have Hlow' : Hid (Below w.heap.size w wx1) := below_next Hlow.out hb
  have HY' : Hid (Bytes wx1 a1 len1) := HY.out.next hb
  have Hp' : Hid (Tb wa.heap.size s v a c k wx1) := Hp.out.next hb
  have Ht' : Hid (Tb (wa.heap.size + 1) s2 v2 a2 c2 k2 wx1) := Ht.out.next hb
  clear Hlow HY Hp Ht
  have Hlow := Hlow'
  clear Hlow'
  have HY := HY'
  clear HY'
  have Hp := Hp'
  clear Hp'
  have Ht := Ht'
  clear Ht'
  have HBS : Hid (BSl wx1 0 wx1.heap.size A us) := hi.mono (Nat.zero_le _) (Nat.le_refl _)
  have HL := Lib.hid hl
  clear hb hi hl HY
  have hbx : Below wx1.heap.size wx1 (wx1.alloc (.cells #[.int .i64 sz, .int .i64 vz, .slice az (flen kz) cz] 25)) := box_low _ _
  have Hn : Hid (Tb wx1.heap.size sz vz az cz kz (wx1.alloc (.cells #[.int .i64 sz, .int .i64 vz, .slice az (flen kz) cz] 25))) := Tb.new HL.out
  have Hlow' : Hid (Below w.heap.size w (wx1.alloc (.cells #[.int .i64 sz, .int .i64 vz, .slice az (flen kz) cz] 25))) := below_next Hlow.out hbx
  have Hp' : Hid (Tb wa.heap.size s v a c k (wx1.alloc (.cells #[.int .i64 sz, .int .i64 vz, .slice az (flen kz) cz] 25))) := Hp.out.next hbx
  have Ht' : Hid (Tb (wa.heap.size + 1) s2 v2 a2 c2 k2 (wx1.alloc (.cells #[.int .i64 sz, .int .i64 vz, .slice az (flen kz) cz] 25))) := Ht.out.next hbx
  have HBS' : Hid (BSl (wx1.alloc (.cells #[.int .i64 sz, .int .i64 vz, .slice az (flen kz) cz] 25)) 0 (wx1.alloc (.cells #[.int .i64 sz, .int .i64 vz, .slice az (flen kz) cz] 25)).heap.size A us) := HBS.out.next hbx
  clear Hlow Hp Ht HBS
  have Hlow := Hlow'
  clear Hlow'
  have Hp := Hp'
  clear Hp'
  have Ht := Ht'
  clear Ht'
  have HBS := HBS'
  clear HBS'
  have Hz := Hn
  clear Hn hbx
  clear HL
  have qp0 := Hp.out.c0
  have qp1 := Hp.out.c1
  have qp2 := Hp.out.c2
  have qt0 := Ht.out.c0
  have qt1 := Ht.out.c1
  have qt2 := Ht.out.c2
  go_wp2_with fail
  with_reducible refine (sMatchOf_any s v a c k s2 v2 a2 c2 k2 _ Hp.out.sl Ht.out.sl).mono ?_
  rintro e wx2 ⟨Aw, Cw, bw, tw, hdw, rfl, hb, hsw⟩
  have HDw := Lib.hid hdw
  clear hdw
  clear qp0 qp1 qp2 qt0 qt1 qt2
  have Hlow' : Hid (Below w.heap.size w wx2) := below_next Hlow.out hb
  have Hp' : Hid (Tb wa.heap.size s v a c k wx2) := Hp.out.next hb
  have Ht' : Hid (Tb (wa.heap.size + 1) s2 v2 a2 c2 k2 wx2) := Ht.out.next hb
  have HBS' : Hid (BSl wx2 0 wx2.heap.size A us) := HBS.out.next hb
  have Hz' : Hid (Tb wx1.heap.size sz vz az cz kz wx2) := Hz.out.next hb
  clear Hlow Hp Ht HBS Hz
  have Hlow := Hlow'
  clear Hlow'
  have Hp := Hp'
  clear Hp'
  have Ht := Ht'
  clear Ht'
  have HBS := HBS'
  clear HBS'
  have Hz := Hz'
  clear Hz'
  clear hb
  have Hw : Hid (BSl wx2 0 wx2.heap.size Aw bw) := hsw
  clear hsw
  have qp0 := Hp.out.c0
  have qp1 := Hp.out.c1
  have qp2 := Hp.out.c2
  have qt0 := Ht.out.c0
  have qt1 := Ht.out.c1
  have qt2 := Ht.out.c2
  go_wp2_with fail
  with_reducible refine (iMatchOf_any s v a c k s2 v2 a2 c2 k2 _ Hp.out.sl Ht.out.sl).mono ?_
  rintro e wx3 ⟨Ax, Cx, bx, tx, hdx, rfl, hb, hsx⟩
  rw [HDw.out] at hdx
  simp only [Prod.mk.injEq] at hdx
  obtain ⟨rfl, rfl⟩ := hdx
  clear qp0 qp1 qp2 qt0 qt1 qt2
  have Hlow' : Hid (Below w.heap.size w wx3) := below_next Hlow.out hb
  have Hp' : Hid (Tb wa.heap.size s v a c k wx3) := Hp.out.next hb
  have Ht' : Hid (Tb (wa.heap.size + 1) s2 v2 a2 c2 k2 wx3) := Ht.out.next hb
  have HBS' : Hid (BSl wx3 0 wx3.heap.size A us) := HBS.out.next hb
  have Hz' : Hid (Tb wx1.heap.size sz vz az cz kz wx3) := Hz.out.next hb
  have Hw' : Hid (BSl wx3 0 wx3.heap.size Aw bw) := Hw.out.next hb
  clear Hlow Hp Ht HBS Hz Hw
  have Hlow := Hlow'
  clear Hlow'
  have Hp := Hp'
  clear Hp'
  have Ht := Ht'
  clear Ht'
  have HBS := HBS'
  clear HBS'
  have Hz := Hz'
  clear Hz'
  have Hw := Hw'
  clear Hw'
  clear hb
  have Hx : Hid (BSl wx3 0 wx3.heap.size Ax bw) := hsx
  clear hsx
  have HSM := Lib.hid (ma_small HDw.out)
  have eb : (tw != tw) = false := by simp
  have eb2 : (tw == tw) = true := by simp
  go_wp2_with fail
  with_reducible refine (laSubst_same bw Ax Aw Cx Cw _ Hx.out Hw.out (by have := HSM.out.1; omega) HSM.out.2).mono ?_
  rintro e wx4 ⟨rfl, hb⟩
  have Hlow' : Hid (Below w.heap.size w wx4) := below_next Hlow.out hb
  have Hp' : Hid (Tb wa.heap.size s v a c k wx4) := Hp.out.next hb
  have Ht' : Hid (Tb (wa.heap.size + 1) s2 v2 a2 c2 k2 wx4) := Ht.out.next hb
  have HBS' : Hid (BSl wx4 0 wx4.heap.size A us) := HBS.out.next hb
  have Hz' : Hid (Tb wx1.heap.size sz vz az cz kz wx4) := Hz.out.next hb
  have Hw' : Hid (BSl wx4 0 wx4.heap.size Aw bw) := Hw.out.next hb
  have Hx' : Hid (BSl wx4 0 wx4.heap.size Ax bw) := Hx.out.next hb
  clear Hlow Hp Ht HBS Hz Hw Hx
  have Hlow := Hlow'
  clear Hlow'
  have Hp := Hp'
  clear Hp'
  have Ht := Ht'
  clear Ht'
  have HBS := HBS'
  clear HBS'
  have Hz := Hz'
  clear Hz'
  have Hw := Hw'
  clear Hw'
  have Hx := Hx'
  clear Hx'
  clear hb
  cases tw with
  | false =>
    go_wp2_with fail
    with_reducible refine (laSubst_same bw Ax Aw Cx Cw _ Hx.out Hw.out (by have := HSM.out.1; omega) HSM.out.2).mono ?_
    rintro e wx5 ⟨rfl, hb⟩
    have Hlow' : Hid (Below w.heap.size w wx5) := below_next Hlow.out hb
    have Hp' : Hid (Tb wa.heap.size s v a c k wx5) := Hp.out.next hb
    have Ht' : Hid (Tb (wa.heap.size + 1) s2 v2 a2 c2 k2 wx5) := Ht.out.next hb
    have HBS' : Hid (BSl wx5 0 wx5.heap.size A us) := HBS.out.next hb
    have Hz' : Hid (Tb wx1.heap.size sz vz az cz kz wx5) := Hz.out.next hb
    have Hw' : Hid (BSl wx5 0 wx5.heap.size Aw bw) := Hw.out.next hb
    have Hx' : Hid (BSl wx5 0 wx5.heap.size Ax bw) := Hx.out.next hb
    clear Hlow Hp Ht HBS Hz Hw Hx
    have Hlow := Hlow'
    clear Hlow'
    have Hp := Hp'
    clear Hp'
    have Ht := Ht'
    clear Ht'
    have HBS := HBS'
    clear HBS'
    have Hz := Hz'
    clear Hz'
    have Hw := Hw'
    clear Hw'
    have Hx := Hx'
    clear Hx'
    clear hb
    go_wp2_with fail
    go_ret
    exact ⟨rfl, Hlow.out⟩
  | true =>
    clear eb eb2
    have HOK : Hid (okW s v k 16 = true) := by rcases maR_cases HDw.out with ⟨h, _⟩ | ⟨_, h, _, _⟩; cases h; exact h
    have HOK2 : Hid (okW s2 v2 k2 16 = true) := by rcases maR_cases HDw.out with ⟨h, _⟩ | ⟨_, _, h, _⟩; cases h; exact h
    have hk16 := ((okW_iff _ _ _ _).1 HOK.out).2.2
    have hk216 := ((okW_iff _ _ _ _).1 HOK2.out).2.2
    clear Hw
    have qt0 := Ht.out.c0
    have qt1 := Ht.out.c1
    have qt2 := Ht.out.c2
    go_wp2_with fail
    with_reducible refine (iSubstDo_any us A C s2 v2 a2 c2 k2 _ HBS.out (by omega) Ht.out.sl).mono ?_
    rintro e wx5 ⟨ay, cy, sy, vy, ky, ty, hdy, rfl, hb, hly⟩
    have HDy := Lib.hid hdy
    clear hdy
    clear qt0 qt1 qt2
    have Hlow' : Hid (Below w.heap.size w wx5) := below_next Hlow.out hb
    have Hp' : Hid (Tb wa.heap.size s v a c k wx5) := Hp.out.next hb
    have Ht' : Hid (Tb (wa.heap.size + 1) s2 v2 a2 c2 k2 wx5) := Ht.out.next hb
    have HBS' : Hid (BSl wx5 0 wx5.heap.size A us) := HBS.out.next hb
    have Hz' : Hid (Tb wx1.heap.size sz vz az cz kz wx5) := Hz.out.next hb
    have Hx' : Hid (BSl wx5 0 wx5.heap.size Ax bw) := Hx.out.next hb
    clear Hlow Hp Ht HBS Hz Hx
    have Hlow := Hlow'
    clear Hlow'
    have Hp := Hp'
    clear Hp'
    have Ht := Ht'
    clear Ht'
    have HBS := HBS'
    clear HBS'
    have Hz := Hz'
    clear Hz'
    have Hx := Hx'
    clear Hx'
    clear hb
    have Hly := Lib.hid hly
    clear hly
    have hbx : Below wx5.heap.size wx5 (wx5.alloc (.cells #[.int .i64 sy, .int .i64 vy, .slice ay (flen ky) cy] 25)) := box_low _ _
    have Hn : Hid (Tb wx5.heap.size sy vy ay cy ky (wx5.alloc (.cells #[.int .i64 sy, .int .i64 vy, .slice ay (flen ky) cy] 25))) := Tb.new Hly.out
    have Hlow' : Hid (Below w.heap.size w (wx5.alloc (.cells #[.int .i64 sy, .int .i64 vy, .slice ay (flen ky) cy] 25))) := below_next Hlow.out hbx
    have Hp' : Hid (Tb wa.heap.size s v a c k (wx5.alloc (.cells #[.int .i64 sy, .int .i64 vy, .slice ay (flen ky) cy] 25))) := Hp.out.next hbx
    have Ht' : Hid (Tb (wa.heap.size + 1) s2 v2 a2 c2 k2 (wx5.alloc (.cells #[.int .i64 sy, .int .i64 vy, .slice ay (flen ky) cy] 25))) := Ht.out.next hbx
    have HBS' : Hid (BSl (wx5.alloc (.cells #[.int .i64 sy, .int .i64 vy, .slice ay (flen ky) cy] 25)) 0 (wx5.alloc (.cells #[.int .i64 sy, .int .i64 vy, .slice ay (flen ky) cy] 25)).heap.size A us) := HBS.out.next hbx
    have Hz' : Hid (Tb wx1.heap.size sz vz az cz kz (wx5.alloc (.cells #[.int .i64 sy, .int .i64 vy, .slice ay (flen ky) cy] 25))) := Hz.out.next hbx
    have Hx' : Hid (BSl (wx5.alloc (.cells #[.int .i64 sy, .int .i64 vy, .slice ay (flen ky) cy] 25)) 0 (wx5.alloc (.cells #[.int .i64 sy, .int .i64 vy, .slice ay (flen ky) cy] 25)).heap.size Ax bw) := Hx.out.next hbx
    clear Hlow Hp Ht HBS Hz Hx
    have Hlow := Hlow'
    clear Hlow'
    have Hp := Hp'
    clear Hp'
    have Ht := Ht'
    clear Ht'
    have HBS := HBS'
    clear HBS'
    have Hz := Hz'
    clear Hz'
    have Hx := Hx'
    clear Hx'
    have Hy := Hn
    clear Hn hbx
    clear Hly
    have qp0 := Hp.out.c0
    have qp1 := Hp.out.c1
    have qp2 := Hp.out.c2
    have qy0 := Hy.out.c0
    have qy1 := Hy.out.c1
    have qy2 := Hy.out.c2
    go_wp2_with fail
    with_reducible refine (iMatchOf_any s v a c k sy vy ay cy ky _ Hp.out.sl Hy.out.sl).mono ?_
    rintro e wx6 ⟨Aq, Cq, bq, tq, hdq, rfl, hb, hsq⟩
    have HDq := Lib.hid hdq
    clear hdq
    clear qp0 qp1 qp2 qy0 qy1 qy2
    have Hlow' : Hid (Below w.heap.size w wx6) := below_next Hlow.out hb
    have Hp' : Hid (Tb wa.heap.size s v a c k wx6) := Hp.out.next hb
    have Ht' : Hid (Tb (wa.heap.size + 1) s2 v2 a2 c2 k2 wx6) := Ht.out.next hb
    have HBS' : Hid (BSl wx6 0 wx6.heap.size A us) := HBS.out.next hb
    have Hz' : Hid (Tb wx1.heap.size sz vz az cz kz wx6) := Hz.out.next hb
    have Hx' : Hid (BSl wx6 0 wx6.heap.size Ax bw) := Hx.out.next hb
    have Hy' : Hid (Tb wx5.heap.size sy vy ay cy ky wx6) := Hy.out.next hb
    clear Hlow Hp Ht HBS Hz Hx Hy
    have Hlow := Hlow'
    clear Hlow'
    have Hp := Hp'
    clear Hp'
    have Ht := Ht'
    clear Ht'
    have HBS := HBS'
    clear HBS'
    have Hz := Hz'
    clear Hz'
    have Hx := Hx'
    clear Hx'
    have Hy := Hy'
    clear Hy'
    clear hb
    have Hq : Hid (BSl wx6 0 wx6.heap.size Aq bq) := hsq
    clear hsq
    cases ty with
    | false =>
      go_wp2_with fail
      go_ret
      exact ⟨rfl, Hlow.out⟩
    | true =>
      obtain ⟨b2, hb2⟩ := ma_through HDw.out HZ.out HZ2.out HDy.out
      obtain rfl : tq = true := by have h := HDq.out; rw [hb2] at h; simp only [Prod.mk.injEq] at h; exact h.2.symm
      clear hb2
      go_wp2_with fail
      go_ret
      exact ⟨rfl, Hlow.out⟩
end Go.Proofs.Ytlaaihnokoeliaa
