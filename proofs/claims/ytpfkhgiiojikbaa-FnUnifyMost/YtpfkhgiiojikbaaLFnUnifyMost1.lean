/- Several texts in one: LawUMost. -/
import Derived.Test.YtpfkhgiiojikbaaKUnify6
import Derived.Test.YtpfkhgiiojikbaaKUnify7
import Derived.Test.YtpfkhgiiojikbaaKUnify10
import Derived.Test.YtpfkhgiiojikbaaKUnify12
import Derived.Test.YtpfkhgiiojikbaaKThen16
import Derived.Test.YtpfkhgiiojikbaaKThen14
import Derived.Test.YtpfkhgiiojikbaaKThen9
import Derived.Test.YtpfkhgiiojikbaaKUnify13

/-! LawUMost: laws.FnUnifyMost answers true at any two codes. -/
namespace Go.Proofs.Ytpfkhgiiojikbaa
open Go.RowKit Go.Deep
attribute [local go_sem ↓] Go.wp_at_zero Go.wp_at_succ

set_option maxRecDepth 100000 in
set_option maxHeartbeats 4000000 in
theorem unifyMost_walk (a0 : Option Addr) (len cap : Nat) (a1 : Option Addr) (len1 cap1 : Nat) (w : World) (hby : Bytes w a0 len) (hlen : len ≤ cap) (hby1 : Bytes w a1 len1) (hlen1 : len1 ≤ cap1) :
    Calls Try.prog 7 #[.slice a0 len cap, .slice a1 len1 cap1] w fun e w' => e = .returned (.bool true) ∧ Below w.heap.size w w' := by
  have HBY := Lib.hid hby
  clear hby
  have HBY1 := Lib.hid hby1
  clear hby1
  by_cases hbiglen : 1048576 < len
  · go_enter Try.func7, Try.ntmps7
    go_wp2_with fail
    go_ret
    exact ⟨rfl, Below.refl _ _⟩
  by_cases hbiglen1 : 1048576 < len1
  · go_enter Try.func7, Try.ntmps7
    go_wp2_with fail
    go_ret
    exact ⟨rfl, Below.refl _ _⟩
  go_enter Try.func7, Try.ntmps7
  go_wp2_with fail
  with_reducible refine (DrawUnifyOf_z a0 len cap _ HBY.out hlen).mono ?_
  rintro e wa ⟨s, v, a, c, k, s2, v2, a2, c2, k2, rfl, ⟨hSk, hZ⟩, ⟨hSk2, hZ2⟩, hb, hl, hl2⟩
  have Hlow := Lib.hid hb
  have HZ := Lib.hid hZ
  have HZ2 := Lib.hid hZ2
  have HL := Lib.hid hl
  have Hm : Hid (Sl wa 0 wa.heap.size a2 k2) := hl2.mono (Nat.zero_le _) (Nat.le_refl _)
  have HY : Hid (Bytes wa a1 len1) := HBY1.out.next hb
  clear HBY1
  clear hb hl hl2 HBY hZ hZ2
  have hbx : Below wa.heap.size wa (wa.alloc (.cells #[.int .i64 s, .int .i64 v, .slice a (flen k) c] 28)) := box_low _ _
  have Hn : Hid (Tb wa.heap.size s v a c k (wa.alloc (.cells #[.int .i64 s, .int .i64 v, .slice a (flen k) c] 28))) := Tb.new HL.out
  have Hlow' : Hid (Below w.heap.size w (wa.alloc (.cells #[.int .i64 s, .int .i64 v, .slice a (flen k) c] 28))) := below_next Hlow.out hbx
  have Hm' : Hid (Sl (wa.alloc (.cells #[.int .i64 s, .int .i64 v, .slice a (flen k) c] 28)) 0 (wa.alloc (.cells #[.int .i64 s, .int .i64 v, .slice a (flen k) c] 28)).heap.size a2 k2) := Hm.out.next hbx
  have HY' : Hid (Bytes (wa.alloc (.cells #[.int .i64 s, .int .i64 v, .slice a (flen k) c] 28)) a1 len1) := HY.out.next hbx
  clear Hlow Hm HY
  have Hlow := Hlow'
  clear Hlow'
  have Hm := Hm'
  clear Hm'
  have HY := HY'
  clear HY'
  have Hp := Hn
  clear Hn hbx
  clear HL
  have hbx : Below (wa.alloc (.cells #[.int .i64 s, .int .i64 v, .slice a (flen k) c] 28)).heap.size (wa.alloc (.cells #[.int .i64 s, .int .i64 v, .slice a (flen k) c] 28)) ((wa.alloc (.cells #[.int .i64 s, .int .i64 v, .slice a (flen k) c] 28)).alloc (.cells #[.int .i64 s2, .int .i64 v2, .slice a2 (flen k2) c2] 28)) := box_low _ _
  have Hn : Hid (Tb (wa.heap.size + 1) s2 v2 a2 c2 k2 ((wa.alloc (.cells #[.int .i64 s, .int .i64 v, .slice a (flen k) c] 28)).alloc (.cells #[.int .i64 s2, .int .i64 v2, .slice a2 (flen k2) c2] 28))) := (show (wa.alloc (.cells #[.int .i64 s, .int .i64 v, .slice a (flen k) c] 28)).heap.size = (wa.heap.size + 1) from by simp) ▸ Tb.new Hm.out
  have Hlow' : Hid (Below w.heap.size w ((wa.alloc (.cells #[.int .i64 s, .int .i64 v, .slice a (flen k) c] 28)).alloc (.cells #[.int .i64 s2, .int .i64 v2, .slice a2 (flen k2) c2] 28))) := below_next Hlow.out hbx
  have Hm' : Hid (Sl ((wa.alloc (.cells #[.int .i64 s, .int .i64 v, .slice a (flen k) c] 28)).alloc (.cells #[.int .i64 s2, .int .i64 v2, .slice a2 (flen k2) c2] 28)) 0 ((wa.alloc (.cells #[.int .i64 s, .int .i64 v, .slice a (flen k) c] 28)).alloc (.cells #[.int .i64 s2, .int .i64 v2, .slice a2 (flen k2) c2] 28)).heap.size a2 k2) := Hm.out.next hbx
  have HY' : Hid (Bytes ((wa.alloc (.cells #[.int .i64 s, .int .i64 v, .slice a (flen k) c] 28)).alloc (.cells #[.int .i64 s2, .int .i64 v2, .slice a2 (flen k2) c2] 28)) a1 len1) := HY.out.next hbx
  have Hp' : Hid (Tb wa.heap.size s v a c k ((wa.alloc (.cells #[.int .i64 s, .int .i64 v, .slice a (flen k) c] 28)).alloc (.cells #[.int .i64 s2, .int .i64 v2, .slice a2 (flen k2) c2] 28))) := Hp.out.next hbx
  clear Hlow Hm HY Hp
  have Hlow := Hlow'
  clear Hlow'
  have Hm := Hm'
  clear Hm'
  have HY := HY'
  clear HY'
  have Hp := Hp'
  clear Hp'
  have Ht := Hn
  clear Hn hbx
  clear Hm
  go_wp2_with fail
  with_reducible refine (DrawSubstDo_z a1 len1 cap1 _ HY.out hlen1).mono ?_
  rintro e wx1 ⟨us, A, C, s7, v7, a7, c7, k7, rfl, hbl, hS7, hzu, hb, hi, hl⟩
  have Hlow' : Hid (Below w.heap.size w wx1) := below_next Hlow.out hb
  have HY' : Hid (Bytes wx1 a1 len1) := HY.out.next hb
  have Hp' : Hid (Tb wa.heap.size s v a c k wx1) := Hp.out.next hb
  have Ht' : Hid (Tb (wa.heap.size + 1) s2 v2 a2 c2 k2 wx1) := Ht.out.next hb
  clear Hlow HY Hp Ht
  have Hlow := Hlow'
  clear Hlow'
  have HY := HY'
  clear HY'
  have Hp := Hp'
  clear Hp'
  have Ht := Ht'
  clear Ht'
  have HBS : Hid (BSl wx1 0 wx1.heap.size A us) := hi.mono (Nat.zero_le _) (Nat.le_refl _)
  have HZU := Lib.hid hzu
  have HL := Lib.hid hl
  clear hb hi hzu HY hl
  have hbx : Below wx1.heap.size wx1 (wx1.alloc (.cells #[.int .i64 s7, .int .i64 v7, .slice a7 (flen k7) c7] 28)) := box_low _ _
  have Hn : Hid (Tb wx1.heap.size s7 v7 a7 c7 k7 (wx1.alloc (.cells #[.int .i64 s7, .int .i64 v7, .slice a7 (flen k7) c7] 28))) := Tb.new HL.out
  have Hlow' : Hid (Below w.heap.size w (wx1.alloc (.cells #[.int .i64 s7, .int .i64 v7, .slice a7 (flen k7) c7] 28))) := below_next Hlow.out hbx
  have Hp' : Hid (Tb wa.heap.size s v a c k (wx1.alloc (.cells #[.int .i64 s7, .int .i64 v7, .slice a7 (flen k7) c7] 28))) := Hp.out.next hbx
  have Ht' : Hid (Tb (wa.heap.size + 1) s2 v2 a2 c2 k2 (wx1.alloc (.cells #[.int .i64 s7, .int .i64 v7, .slice a7 (flen k7) c7] 28))) := Ht.out.next hbx
  have HBS' : Hid (BSl (wx1.alloc (.cells #[.int .i64 s7, .int .i64 v7, .slice a7 (flen k7) c7] 28)) 0 (wx1.alloc (.cells #[.int .i64 s7, .int .i64 v7, .slice a7 (flen k7) c7] 28)).heap.size A us) := HBS.out.next hbx
  clear Hlow Hp Ht HBS
  have Hlow := Hlow'
  clear Hlow'
  have Hp := Hp'
  clear Hp'
  have Ht := Ht'
  clear Ht'
  have HBS := HBS'
  clear HBS'
  have Ho := Hn
  clear Hn hbx
  clear HL
  have qp0 := Hp.out.c0
  have qp1 := Hp.out.c1
  have qp2 := Hp.out.c2
  have qt0 := Ht.out.c0
  have qt1 := Ht.out.c1
  have qt2 := Ht.out.c2
  go_wp2_with fail
  with_reducible refine (sUnifyOf_any s v a c k s2 v2 a2 c2 k2 _ Hp.out.sl Ht.out.sl).mono ?_
  rintro e wx2 ⟨Aw, Cw, bw, tw, hdw, rfl, hb, hsw⟩
  have HDw := Lib.hid hdw
  clear hdw
  clear qp0 qp1 qp2 qt0 qt1 qt2
  have Hlow' : Hid (Below w.heap.size w wx2) := below_next Hlow.out hb
  have Hp' : Hid (Tb wa.heap.size s v a c k wx2) := Hp.out.next hb
  have Ht' : Hid (Tb (wa.heap.size + 1) s2 v2 a2 c2 k2 wx2) := Ht.out.next hb
  have HBS' : Hid (BSl wx2 0 wx2.heap.size A us) := HBS.out.next hb
  have Ho' : Hid (Tb wx1.heap.size s7 v7 a7 c7 k7 wx2) := Ho.out.next hb
  clear Hlow Hp Ht HBS Ho
  have Hlow := Hlow'
  clear Hlow'
  have Hp := Hp'
  clear Hp'
  have Ht := Ht'
  clear Ht'
  have HBS := HBS'
  clear HBS'
  have Ho := Ho'
  clear Ho'
  clear hb
  have Hw : Hid (BSl wx2 0 wx2.heap.size Aw bw) := hsw
  clear hsw
  have qp0 := Hp.out.c0
  have qp1 := Hp.out.c1
  have qp2 := Hp.out.c2
  have qt0 := Ht.out.c0
  have qt1 := Ht.out.c1
  have qt2 := Ht.out.c2
  go_wp2_with fail
  with_reducible refine (iUnifyOf_any s v a c k s2 v2 a2 c2 k2 _ Hp.out.sl Ht.out.sl).mono ?_
  rintro e wx3 ⟨Ax, Cx, bx, tx, hdx, rfl, hb, hsx⟩
  rw [HDw.out] at hdx
  simp only [Prod.mk.injEq] at hdx
  obtain ⟨rfl, rfl⟩ := hdx
  clear qp0 qp1 qp2 qt0 qt1 qt2
  have Hlow' : Hid (Below w.heap.size w wx3) := below_next Hlow.out hb
  have Hp' : Hid (Tb wa.heap.size s v a c k wx3) := Hp.out.next hb
  have Ht' : Hid (Tb (wa.heap.size + 1) s2 v2 a2 c2 k2 wx3) := Ht.out.next hb
  have HBS' : Hid (BSl wx3 0 wx3.heap.size A us) := HBS.out.next hb
  have Ho' : Hid (Tb wx1.heap.size s7 v7 a7 c7 k7 wx3) := Ho.out.next hb
  have Hw' : Hid (BSl wx3 0 wx3.heap.size Aw bw) := Hw.out.next hb
  clear Hlow Hp Ht HBS Ho Hw
  have Hlow := Hlow'
  clear Hlow'
  have Hp := Hp'
  clear Hp'
  have Ht := Ht'
  clear Ht'
  have HBS := HBS'
  clear HBS'
  have Ho := Ho'
  clear Ho'
  have Hw := Hw'
  clear Hw'
  clear hb
  have Hx : Hid (BSl wx3 0 wx3.heap.size Ax bw) := hsx
  clear hsx
  have HSM := Lib.hid (un_small HDw.out)
  have eb : (tw != tw) = false := by simp
  have eb2 : (tw == tw) = true := by simp
  go_wp2_with fail
  with_reducible refine (laSubst_same bw Ax Aw Cx Cw _ Hx.out Hw.out (by have := HSM.out.1; omega) HSM.out.2).mono ?_
  rintro e wx4 ⟨rfl, hb⟩
  have Hlow' : Hid (Below w.heap.size w wx4) := below_next Hlow.out hb
  have Hp' : Hid (Tb wa.heap.size s v a c k wx4) := Hp.out.next hb
  have Ht' : Hid (Tb (wa.heap.size + 1) s2 v2 a2 c2 k2 wx4) := Ht.out.next hb
  have HBS' : Hid (BSl wx4 0 wx4.heap.size A us) := HBS.out.next hb
  have Ho' : Hid (Tb wx1.heap.size s7 v7 a7 c7 k7 wx4) := Ho.out.next hb
  have Hw' : Hid (BSl wx4 0 wx4.heap.size Aw bw) := Hw.out.next hb
  have Hx' : Hid (BSl wx4 0 wx4.heap.size Ax bw) := Hx.out.next hb
  clear Hlow Hp Ht HBS Ho Hw Hx
  have Hlow := Hlow'
  clear Hlow'
  have Hp := Hp'
  clear Hp'
  have Ht := Ht'
  clear Ht'
  have HBS := HBS'
  clear HBS'
  have Ho := Ho'
  clear Ho'
  have Hw := Hw'
  clear Hw'
  have Hx := Hx'
  clear Hx'
  clear hb
  clear Hw
  have qp0 := Hp.out.c0
  have qp1 := Hp.out.c1
  have qp2 := Hp.out.c2
  go_wp2_with fail
  with_reducible refine (iSubstDo_any us A C s v a c k _ HBS.out (by omega) Hp.out.sl).mono ?_
  rintro e wx5 ⟨ay, cy, sy, vy, ky, ty, hdy, rfl, hb, hly⟩
  have HDy := Lib.hid hdy
  clear hdy
  clear qp0 qp1 qp2
  have Hlow' : Hid (Below w.heap.size w wx5) := below_next Hlow.out hb
  have Hp' : Hid (Tb wa.heap.size s v a c k wx5) := Hp.out.next hb
  have Ht' : Hid (Tb (wa.heap.size + 1) s2 v2 a2 c2 k2 wx5) := Ht.out.next hb
  have HBS' : Hid (BSl wx5 0 wx5.heap.size A us) := HBS.out.next hb
  have Ho' : Hid (Tb wx1.heap.size s7 v7 a7 c7 k7 wx5) := Ho.out.next hb
  have Hx' : Hid (BSl wx5 0 wx5.heap.size Ax bw) := Hx.out.next hb
  clear Hlow Hp Ht HBS Ho Hx
  have Hlow := Hlow'
  clear Hlow'
  have Hp := Hp'
  clear Hp'
  have Ht := Ht'
  clear Ht'
  have HBS := HBS'
  clear HBS'
  have Ho := Ho'
  clear Ho'
  have Hx := Hx'
  clear Hx'
  clear hb
  have Hly := Lib.hid hly
  clear hly
  have hbx : Below wx5.heap.size wx5 (wx5.alloc (.cells #[.int .i64 sy, .int .i64 vy, .slice ay (flen ky) cy] 28)) := box_low _ _
  have Hn : Hid (Tb wx5.heap.size sy vy ay cy ky (wx5.alloc (.cells #[.int .i64 sy, .int .i64 vy, .slice ay (flen ky) cy] 28))) := Tb.new Hly.out
  have Hlow' : Hid (Below w.heap.size w (wx5.alloc (.cells #[.int .i64 sy, .int .i64 vy, .slice ay (flen ky) cy] 28))) := below_next Hlow.out hbx
  have Hp' : Hid (Tb wa.heap.size s v a c k (wx5.alloc (.cells #[.int .i64 sy, .int .i64 vy, .slice ay (flen ky) cy] 28))) := Hp.out.next hbx
  have Ht' : Hid (Tb (wa.heap.size + 1) s2 v2 a2 c2 k2 (wx5.alloc (.cells #[.int .i64 sy, .int .i64 vy, .slice ay (flen ky) cy] 28))) := Ht.out.next hbx
  have HBS' : Hid (BSl (wx5.alloc (.cells #[.int .i64 sy, .int .i64 vy, .slice ay (flen ky) cy] 28)) 0 (wx5.alloc (.cells #[.int .i64 sy, .int .i64 vy, .slice ay (flen ky) cy] 28)).heap.size A us) := HBS.out.next hbx
  have Ho' : Hid (Tb wx1.heap.size s7 v7 a7 c7 k7 (wx5.alloc (.cells #[.int .i64 sy, .int .i64 vy, .slice ay (flen ky) cy] 28))) := Ho.out.next hbx
  have Hx' : Hid (BSl (wx5.alloc (.cells #[.int .i64 sy, .int .i64 vy, .slice ay (flen ky) cy] 28)) 0 (wx5.alloc (.cells #[.int .i64 sy, .int .i64 vy, .slice ay (flen ky) cy] 28)).heap.size Ax bw) := Hx.out.next hbx
  clear Hlow Hp Ht HBS Ho Hx
  have Hlow := Hlow'
  clear Hlow'
  have Hp := Hp'
  clear Hp'
  have Ht := Ht'
  clear Ht'
  have HBS := HBS'
  clear HBS'
  have Ho := Ho'
  clear Ho'
  have Hx := Hx'
  clear Hx'
  have Hy := Hn
  clear Hn hbx
  clear Hly
  have qt0 := Ht.out.c0
  have qt1 := Ht.out.c1
  have qt2 := Ht.out.c2
  go_wp2_with fail
  with_reducible refine (iSubstDo_any us A C s2 v2 a2 c2 k2 _ HBS.out (by omega) Ht.out.sl).mono ?_
  rintro e wx6 ⟨aq, cq, sq, vq, kq, tq, hdq, rfl, hb, hlq⟩
  have HDq := Lib.hid hdq
  clear hdq
  clear qt0 qt1 qt2
  have Hlow' : Hid (Below w.heap.size w wx6) := below_next Hlow.out hb
  have Hp' : Hid (Tb wa.heap.size s v a c k wx6) := Hp.out.next hb
  have Ht' : Hid (Tb (wa.heap.size + 1) s2 v2 a2 c2 k2 wx6) := Ht.out.next hb
  have HBS' : Hid (BSl wx6 0 wx6.heap.size A us) := HBS.out.next hb
  have Ho' : Hid (Tb wx1.heap.size s7 v7 a7 c7 k7 wx6) := Ho.out.next hb
  have Hx' : Hid (BSl wx6 0 wx6.heap.size Ax bw) := Hx.out.next hb
  have Hy' : Hid (Tb wx5.heap.size sy vy ay cy ky wx6) := Hy.out.next hb
  clear Hlow Hp Ht HBS Ho Hx Hy
  have Hlow := Hlow'
  clear Hlow'
  have Hp := Hp'
  clear Hp'
  have Ht := Ht'
  clear Ht'
  have HBS := HBS'
  clear HBS'
  have Ho := Ho'
  clear Ho'
  have Hx := Hx'
  clear Hx'
  have Hy := Hy'
  clear Hy'
  clear hb
  have Hlq := Lib.hid hlq
  clear hlq
  have hbx : Below wx6.heap.size wx6 (wx6.alloc (.cells #[.int .i64 sq, .int .i64 vq, .slice aq (flen kq) cq] 28)) := box_low _ _
  have Hn : Hid (Tb wx6.heap.size sq vq aq cq kq (wx6.alloc (.cells #[.int .i64 sq, .int .i64 vq, .slice aq (flen kq) cq] 28))) := Tb.new Hlq.out
  have Hlow' : Hid (Below w.heap.size w (wx6.alloc (.cells #[.int .i64 sq, .int .i64 vq, .slice aq (flen kq) cq] 28))) := below_next Hlow.out hbx
  have Hp' : Hid (Tb wa.heap.size s v a c k (wx6.alloc (.cells #[.int .i64 sq, .int .i64 vq, .slice aq (flen kq) cq] 28))) := Hp.out.next hbx
  have Ht' : Hid (Tb (wa.heap.size + 1) s2 v2 a2 c2 k2 (wx6.alloc (.cells #[.int .i64 sq, .int .i64 vq, .slice aq (flen kq) cq] 28))) := Ht.out.next hbx
  have HBS' : Hid (BSl (wx6.alloc (.cells #[.int .i64 sq, .int .i64 vq, .slice aq (flen kq) cq] 28)) 0 (wx6.alloc (.cells #[.int .i64 sq, .int .i64 vq, .slice aq (flen kq) cq] 28)).heap.size A us) := HBS.out.next hbx
  have Ho' : Hid (Tb wx1.heap.size s7 v7 a7 c7 k7 (wx6.alloc (.cells #[.int .i64 sq, .int .i64 vq, .slice aq (flen kq) cq] 28))) := Ho.out.next hbx
  have Hx' : Hid (BSl (wx6.alloc (.cells #[.int .i64 sq, .int .i64 vq, .slice aq (flen kq) cq] 28)) 0 (wx6.alloc (.cells #[.int .i64 sq, .int .i64 vq, .slice aq (flen kq) cq] 28)).heap.size Ax bw) := Hx.out.next hbx
  have Hy' : Hid (Tb wx5.heap.size sy vy ay cy ky (wx6.alloc (.cells #[.int .i64 sq, .int .i64 vq, .slice aq (flen kq) cq] 28))) := Hy.out.next hbx
  clear Hlow Hp Ht HBS Ho Hx Hy
  have Hlow := Hlow'
  clear Hlow'
  have Hp := Hp'
  clear Hp'
  have Ht := Ht'
  clear Ht'
  have HBS := HBS'
  clear HBS'
  have Ho := Ho'
  clear Ho'
  have Hx := Hx'
  clear Hx'
  have Hy := Hy'
  clear Hy'
  have Hq := Hn
  clear Hn hbx
  clear Hlq
  have hky := sdR_sz HDy.out
  have hkq := sdR_sz HDq.out
  cases ty with
  | false =>
    go_wp2_with fail
    go_ret
    exact ⟨rfl, Hlow.out⟩
  | true =>
    cases tq with
    | false =>
      go_wp2_with fail
      go_ret
      exact ⟨rfl, Hlow.out⟩
    | true =>
      cases he : teq sy vy ky sq vq kq with
      | false =>
        have HE := Lib.hid he
        clear he
        have qy0 := Hy.out.c0
        have qy1 := Hy.out.c1
        have qy2 := Hy.out.c2
        have qq0 := Hq.out.c0
        have qq1 := Hq.out.c1
        have qq2 := Hq.out.c2
        go_wp2_with fail
        with_reducible refine (laTerm_any (fsz ky) sy vy ay cy ky sq vq aq cq kq _ Hy.out.sl Hq.out.sl (Nat.le_refl _) (by omega)).mono ?_
        rw [HE.out]
        rintro e wx7 ⟨rfl, hb⟩
        clear qy0 qy1 qy2 qq0 qq1 qq2
        have Hlow' : Hid (Below w.heap.size w wx7) := below_next Hlow.out hb
        have Hp' : Hid (Tb wa.heap.size s v a c k wx7) := Hp.out.next hb
        have Ht' : Hid (Tb (wa.heap.size + 1) s2 v2 a2 c2 k2 wx7) := Ht.out.next hb
        have HBS' : Hid (BSl wx7 0 wx7.heap.size A us) := HBS.out.next hb
        have Ho' : Hid (Tb wx1.heap.size s7 v7 a7 c7 k7 wx7) := Ho.out.next hb
        have Hx' : Hid (BSl wx7 0 wx7.heap.size Ax bw) := Hx.out.next hb
        have Hy' : Hid (Tb wx5.heap.size sy vy ay cy ky wx7) := Hy.out.next hb
        have Hq' : Hid (Tb wx6.heap.size sq vq aq cq kq wx7) := Hq.out.next hb
        clear Hlow Hp Ht HBS Ho Hx Hy Hq
        have Hlow := Hlow'
        clear Hlow'
        have Hp := Hp'
        clear Hp'
        have Ht := Ht'
        clear Ht'
        have HBS := HBS'
        clear HBS'
        have Ho := Ho'
        clear Ho'
        have Hx := Hx'
        clear Hx'
        have Hy := Hy'
        clear Hy'
        have Hq := Hq'
        clear Hq'
        clear hb
        go_wp2_with fail
        go_ret
        exact ⟨rfl, Hlow.out⟩
      | true =>
        have HE := Lib.hid he
        clear he
        have qy0 := Hy.out.c0
        have qy1 := Hy.out.c1
        have qy2 := Hy.out.c2
        have qq0 := Hq.out.c0
        have qq1 := Hq.out.c1
        have qq2 := Hq.out.c2
        go_wp2_with fail
        with_reducible refine (laTerm_any (fsz ky) sy vy ay cy ky sq vq aq cq kq _ Hy.out.sl Hq.out.sl (Nat.le_refl _) (by omega)).mono ?_
        rw [HE.out]
        rintro e wx7 ⟨rfl, hb⟩
        clear qy0 qy1 qy2 qq0 qq1 qq2
        have Hlow' : Hid (Below w.heap.size w wx7) := below_next Hlow.out hb
        have Hp' : Hid (Tb wa.heap.size s v a c k wx7) := Hp.out.next hb
        have Ht' : Hid (Tb (wa.heap.size + 1) s2 v2 a2 c2 k2 wx7) := Ht.out.next hb
        have HBS' : Hid (BSl wx7 0 wx7.heap.size A us) := HBS.out.next hb
        have Ho' : Hid (Tb wx1.heap.size s7 v7 a7 c7 k7 wx7) := Ho.out.next hb
        have Hx' : Hid (BSl wx7 0 wx7.heap.size Ax bw) := Hx.out.next hb
        have Hy' : Hid (Tb wx5.heap.size sy vy ay cy ky wx7) := Hy.out.next hb
        have Hq' : Hid (Tb wx6.heap.size sq vq aq cq kq wx7) := Hq.out.next hb
        clear Hlow Hp Ht HBS Ho Hx Hy Hq
        have Hlow := Hlow'
        clear Hlow'
        have Hp := Hp'
        clear Hp'
        have Ht := Ht'
        clear Ht'
        have HBS := HBS'
        clear HBS'
        have Ho := Ho'
        clear Ho'
        have Hx := Hx'
        clear Hx'
        have Hy := Hy'
        clear Hy'
        have Hq := Hq'
        clear Hq'
        clear hb
        have hyk := (ap_sdR HDy.out).1
        have hqk := (ap_sdR HDq.out).1
        have zy : Zf ky := by have h := ap_zf (σ := sv us) HZU.out (t := (s, v, k)) HZ.out; rw [hyk] at h; exact h
        have zq : Zf kq := by have h := ap_zf (σ := sv us) HZU.out (t := (s2, v2, k2)) HZ2.out; rw [hqk] at h; exact h
        have hee := (teq_z zy zq).1 HE.out
        simp only [Prod.mk.injEq] at hee
        obtain ⟨rfl, rfl, rfl⟩ := hee
        obtain ⟨b9, hu, sm, vm, km, hm, b2, hb2⟩ := un_most HDy.out HDq.out
        have hdw := HDw.out
        rw [hu] at hdw
        simp only [Prod.mk.injEq] at hdw
        obtain ⟨rfl, rfl⟩ := hdw
        have HM := Lib.hid hm
        have HB2 := Lib.hid hb2
        clear hyk hqk zy zq hu hm hb2
        have qp0 := Hp.out.c0
        have qp1 := Hp.out.c1
        have qp2 := Hp.out.c2
        go_wp2_with fail
        with_reducible refine (iSubstDo_any b9 Ax Cx s v a c k _ Hx.out (by have := HSM.out.1; omega) Hp.out.sl).mono ?_
        rintro e wx8 ⟨am, cm, sm, vm, km, tm, hdm, rfl, hb, hlm⟩
        rw [HM.out] at hdm
        simp only [Prod.mk.injEq] at hdm
        obtain ⟨rfl, rfl, rfl, rfl⟩ := hdm
        clear qp0 qp1 qp2
        have Hlow' : Hid (Below w.heap.size w wx8) := below_next Hlow.out hb
        have Hp' : Hid (Tb wa.heap.size s v a c k wx8) := Hp.out.next hb
        have Ht' : Hid (Tb (wa.heap.size + 1) s2 v2 a2 c2 k2 wx8) := Ht.out.next hb
        have HBS' : Hid (BSl wx8 0 wx8.heap.size A us) := HBS.out.next hb
        have Ho' : Hid (Tb wx1.heap.size s7 v7 a7 c7 k7 wx8) := Ho.out.next hb
        have Hx' : Hid (BSl wx8 0 wx8.heap.size Ax b9) := Hx.out.next hb
        have Hy' : Hid (Tb wx5.heap.size sy vy ay cy ky wx8) := Hy.out.next hb
        have Hq' : Hid (Tb wx6.heap.size sy vy aq cq ky wx8) := Hq.out.next hb
        clear Hlow Hp Ht HBS Ho Hx Hy Hq
        have Hlow := Hlow'
        clear Hlow'
        have Hp := Hp'
        clear Hp'
        have Ht := Ht'
        clear Ht'
        have HBS := HBS'
        clear HBS'
        have Ho := Ho'
        clear Ho'
        have Hx := Hx'
        clear Hx'
        have Hy := Hy'
        clear Hy'
        have Hq := Hq'
        clear Hq'
        clear hb
        have Hlm := Lib.hid hlm
        clear hlm
        have hbx : Below wx8.heap.size wx8 (wx8.alloc (.cells #[.int .i64 sm, .int .i64 vm, .slice am (flen km) cm] 28)) := box_low _ _
        have Hn : Hid (Tb wx8.heap.size sm vm am cm km (wx8.alloc (.cells #[.int .i64 sm, .int .i64 vm, .slice am (flen km) cm] 28))) := Tb.new Hlm.out
        have Hlow' : Hid (Below w.heap.size w (wx8.alloc (.cells #[.int .i64 sm, .int .i64 vm, .slice am (flen km) cm] 28))) := below_next Hlow.out hbx
        have Hp' : Hid (Tb wa.heap.size s v a c k (wx8.alloc (.cells #[.int .i64 sm, .int .i64 vm, .slice am (flen km) cm] 28))) := Hp.out.next hbx
        have Ht' : Hid (Tb (wa.heap.size + 1) s2 v2 a2 c2 k2 (wx8.alloc (.cells #[.int .i64 sm, .int .i64 vm, .slice am (flen km) cm] 28))) := Ht.out.next hbx
        have HBS' : Hid (BSl (wx8.alloc (.cells #[.int .i64 sm, .int .i64 vm, .slice am (flen km) cm] 28)) 0 (wx8.alloc (.cells #[.int .i64 sm, .int .i64 vm, .slice am (flen km) cm] 28)).heap.size A us) := HBS.out.next hbx
        have Ho' : Hid (Tb wx1.heap.size s7 v7 a7 c7 k7 (wx8.alloc (.cells #[.int .i64 sm, .int .i64 vm, .slice am (flen km) cm] 28))) := Ho.out.next hbx
        have Hx' : Hid (BSl (wx8.alloc (.cells #[.int .i64 sm, .int .i64 vm, .slice am (flen km) cm] 28)) 0 (wx8.alloc (.cells #[.int .i64 sm, .int .i64 vm, .slice am (flen km) cm] 28)).heap.size Ax b9) := Hx.out.next hbx
        have Hy' : Hid (Tb wx5.heap.size sy vy ay cy ky (wx8.alloc (.cells #[.int .i64 sm, .int .i64 vm, .slice am (flen km) cm] 28))) := Hy.out.next hbx
        have Hq' : Hid (Tb wx6.heap.size sy vy aq cq ky (wx8.alloc (.cells #[.int .i64 sm, .int .i64 vm, .slice am (flen km) cm] 28))) := Hq.out.next hbx
        clear Hlow Hp Ht HBS Ho Hx Hy Hq
        have Hlow := Hlow'
        clear Hlow'
        have Hp := Hp'
        clear Hp'
        have Ht := Ht'
        clear Ht'
        have HBS := HBS'
        clear HBS'
        have Ho := Ho'
        clear Ho'
        have Hx := Hx'
        clear Hx'
        have Hy := Hy'
        clear Hy'
        have Hq := Hq'
        clear Hq'
        have Hm := Hn
        clear Hn hbx
        clear Hlm
        have qm0 := Hm.out.c0
        have qm1 := Hm.out.c1
        have qm2 := Hm.out.c2
        have qy0 := Hy.out.c0
        have qy1 := Hy.out.c1
        have qy2 := Hy.out.c2
        go_wp2_with fail
        with_reducible refine (iMatchOf_any sm vm am cm km sy vy ay cy ky _ Hm.out.sl Hy.out.sl).mono ?_
        rintro e wx9 ⟨Ar, Cr, br, tr, hdr, rfl, hb, hsr⟩
        rw [HB2.out] at hdr
        simp only [Prod.mk.injEq] at hdr
        obtain ⟨rfl, rfl⟩ := hdr
        clear qm0 qm1 qm2 qy0 qy1 qy2
        have Hlow' : Hid (Below w.heap.size w wx9) := below_next Hlow.out hb
        have Hp' : Hid (Tb wa.heap.size s v a c k wx9) := Hp.out.next hb
        have Ht' : Hid (Tb (wa.heap.size + 1) s2 v2 a2 c2 k2 wx9) := Ht.out.next hb
        have HBS' : Hid (BSl wx9 0 wx9.heap.size A us) := HBS.out.next hb
        have Ho' : Hid (Tb wx1.heap.size s7 v7 a7 c7 k7 wx9) := Ho.out.next hb
        have Hx' : Hid (BSl wx9 0 wx9.heap.size Ax b9) := Hx.out.next hb
        have Hy' : Hid (Tb wx5.heap.size sy vy ay cy ky wx9) := Hy.out.next hb
        have Hq' : Hid (Tb wx6.heap.size sy vy aq cq ky wx9) := Hq.out.next hb
        have Hm' : Hid (Tb wx8.heap.size sm vm am cm km wx9) := Hm.out.next hb
        clear Hlow Hp Ht HBS Ho Hx Hy Hq Hm
        have Hlow := Hlow'
        clear Hlow'
        have Hp := Hp'
        clear Hp'
        have Ht := Ht'
        clear Ht'
        have HBS := HBS'
        clear HBS'
        have Ho := Ho'
        clear Ho'
        have Hx := Hx'
        clear Hx'
        have Hy := Hy'
        clear Hy'
        have Hq := Hq'
        clear Hq'
        have Hm := Hm'
        clear Hm'
        clear hb
        have Hr : Hid (BSl wx9 0 wx9.heap.size Ar b2) := hsr
        clear hsr
        go_wp2_with fail
        go_ret
        exact ⟨rfl, Hlow.out⟩
end Go.Proofs.Ytpfkhgiiojikbaa
