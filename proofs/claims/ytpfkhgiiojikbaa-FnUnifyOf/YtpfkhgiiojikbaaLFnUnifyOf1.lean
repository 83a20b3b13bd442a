/- Several texts in one: LawUOf. -/
import Derived.Test.YtpfkhgiiojikbaaKUnify6
import Derived.Test.YtpfkhgiiojikbaaKUnify7
import Derived.Test.YtpfkhgiiojikbaaKUnify10
import Derived.Test.YtpfkhgiiojikbaaKUnify12
import Derived.Test.YtpfkhgiiojikbaaKThen16
import Derived.Test.YtpfkhgiiojikbaaKThen14
import Derived.Test.YtpfkhgiiojikbaaKThen9

/-! LawUOf: laws.FnUnifyOf answers true at every code. -/
namespace Go.Proofs.Ytpfkhgiiojikbaa
open Go.RowKit Go.Deep
attribute [local go_sem ↓] Go.wp_at_zero Go.wp_at_succ

set_option maxRecDepth 100000 in
set_option maxHeartbeats 4000000 in
theorem unifyOf_walk (a0 : Option Addr) (len cap : Nat) (w : World) (hby : Bytes w a0 len) (hlen : len ≤ cap) :
    Calls Try.prog 6 #[.slice a0 len cap] w fun e w' => e = .returned (.bool true) ∧ Below w.heap.size w w' := by
  have HBY := Lib.hid hby
  clear hby
  by_cases hbiglen : 1048576 < len
  · go_enter Try.func6, Try.ntmps6
    go_wp2_with fail
    go_ret
    exact ⟨rfl, Below.refl _ _⟩
  go_enter Try.func6, Try.ntmps6
  go_wp2_with fail
  with_reducible refine (DrawUnifyOf_z a0 len cap _ HBY.out hlen).mono ?_
  rintro e wa ⟨s, v, a, c, k, s2, v2, a2, c2, k2, rfl, ⟨hSk, hZ⟩, ⟨hSk2, hZ2⟩, hb, hl, hl2⟩
  have Hlow := Lib.hid hb
  have HZ := Lib.hid hZ
  have HZ2 := Lib.hid hZ2
  have HL := Lib.hid hl
  have Hm : Hid (Sl wa 0 wa.heap.size a2 k2) := hl2.mono (Nat.zero_le _) (Nat.le_refl _)
  clear hb hl hl2 HBY hZ hZ2
  have hbx : Below wa.heap.size wa (wa.alloc (.cells #[.int .i64 s, .int .i64 v, .slice a (flen k) c] 28)) := box_low _ _
  have Hn : Hid (Tb wa.heap.size s v a c k (wa.alloc (.cells #[.int .i64 s, .int .i64 v, .slice a (flen k) c] 28))) := Tb.new HL.out
  have Hlow' : Hid (Below w.heap.size w (wa.alloc (.cells #[.int .i64 s, .int .i64 v, .slice a (flen k) c] 28))) := below_next Hlow.out hbx
  have Hm' : Hid (Sl (wa.alloc (.cells #[.int .i64 s, .int .i64 v, .slice a (flen k) c] 28)) 0 (wa.alloc (.cells #[.int .i64 s, .int .i64 v, .slice a (flen k) c] 28)).heap.size a2 k2) := Hm.out.next hbx
  clear Hlow Hm
  have Hlow := Hlow'
  clear Hlow'
  have Hm := Hm'
  clear Hm'
  have Hp := Hn
  clear Hn hbx
  clear HL
  have hbx : Below (wa.alloc (.cells #[.int .i64 s, .int .i64 v, .slice a (flen k) c] 28)).heap.size (wa.alloc (.cells #[.int .i64 s, .int .i64 v, .slice a (flen k) c] 28)) ((wa.alloc (.cells #[.int .i64 s, .int .i64 v, .slice a (flen k) c] 28)).alloc (.cells #[.int .i64 s2, .int .i64 v2, .slice a2 (flen k2) c2] 28)) := box_low _ _
  have Hn : Hid (Tb (wa.heap.size + 1) s2 v2 a2 c2 k2 ((wa.alloc (.cells #[.int .i64 s, .int .i64 v, .slice a (flen k) c] 28)).alloc (.cells #[.int .i64 s2, .int .i64 v2, .slice a2 (flen k2) c2] 28))) := (show (wa.alloc (.cells #[.int .i64 s, .int .i64 v, .slice a (flen k) c] 28)).heap.size = (wa.heap.size + 1) from by simp) ▸ Tb.new Hm.out
  have Hlow' : Hid (Below w.heap.size w ((wa.alloc (.cells #[.int .i64 s, .int .i64 v, .slice a (flen k) c] 28)).alloc (.cells #[.int .i64 s2, .int .i64 v2, .slice a2 (flen k2) c2] 28))) := below_next Hlow.out hbx
  have Hm' : Hid (Sl ((wa.alloc (.cells #[.int .i64 s, .int .i64 v, .slice a (flen k) c] 28)).alloc (.cells #[.int .i64 s2, .int .i64 v2, .slice a2 (flen k2) c2] 28)) 0 ((wa.alloc (.cells #[.int .i64 s, .int .i64 v, .slice a (flen k) c] 28)).alloc (.cells #[.int .i64 s2, .int .i64 v2, .slice a2 (flen k2) c2] 28)).heap.size a2 k2) := Hm.out.next hbx
  have Hp' : Hid (Tb wa.heap.size s v a c k ((wa.alloc (.cells #[.int .i64 s, .int .i64 v, .slice a (flen k) c] 28)).alloc (.cells #[.int .i64 s2, .int .i64 v2, .slice a2 (flen k2) c2] 28))) := Hp.out.next hbx
  clear Hlow Hm Hp
  have Hlow := Hlow'
  clear Hlow'
  have Hm := Hm'
  clear Hm'
  have Hp := Hp'
  clear Hp'
  have Ht := Hn
  clear Hn hbx
  clear Hm
  have qp0 := Hp.out.c0
  have qp1 := Hp.out.c1
  have qp2 := Hp.out.c2
  have qt0 := Ht.out.c0
  have qt1 := Ht.out.c1
  have qt2 := Ht.out.c2
  go_wp2_with fail
  with_reducible refine (sUnifyOf_any s v a c k s2 v2 a2 c2 k2 _ Hp.out.sl Ht.out.sl).mono ?_
  rintro e wx1 ⟨Aw, Cw, bw, tw, hdw, rfl, hb, hsw⟩
  have HDw := Lib.hid hdw
  clear hdw
  clear qp0 qp1 qp2 qt0 qt1 qt2
  have Hlow' : Hid (Below w.heap.size w wx1) := below_next Hlow.out hb
  have Hp' : Hid (Tb wa.heap.size s v a c k wx1) := Hp.out.next hb
  have Ht' : Hid (Tb (wa.heap.size + 1) s2 v2 a2 c2 k2 wx1) := Ht.out.next hb
  clear Hlow Hp Ht
  have Hlow := Hlow'
  clear Hlow'
  have Hp := Hp'
  clear Hp'
  have Ht := Ht'
  clear Ht'
  clear hb
  have Hw : Hid (BSl wx1 0 wx1.heap.size Aw bw) := hsw
  clear hsw
  have qp0 := Hp.out.c0
  have qp1 := Hp.out.c1
  have qp2 := Hp.out.c2
  have qt0 := Ht.out.c0
  have qt1 := Ht.out.c1
  have qt2 := Ht.out.c2
  go_wp2_with fail
  with_reducible refine (iUnifyOf_any s v a c k s2 v2 a2 c2 k2 _ Hp.out.sl Ht.out.sl).mono ?_
  rintro e wx2 ⟨Ax, Cx, bx, tx, hdx, rfl, hb, hsx⟩
  rw [HDw.out] at hdx
  simp only [Prod.mk.injEq] at hdx
  obtain ⟨rfl, rfl⟩ := hdx
  clear qp0 qp1 qp2 qt0 qt1 qt2
  have Hlow' : Hid (Below w.heap.size w wx2) := below_next Hlow.out hb
  have Hp' : Hid (Tb wa.heap.size s v a c k wx2) := Hp.out.next hb
  have Ht' : Hid (Tb (wa.heap.size + 1) s2 v2 a2 c2 k2 wx2) := Ht.out.next hb
  have Hw' : Hid (BSl wx2 0 wx2.heap.size Aw bw) := Hw.out.next hb
  clear Hlow Hp Ht Hw
  have Hlow := Hlow'
  clear Hlow'
  have Hp := Hp'
  clear Hp'
  have Ht := Ht'
  clear Ht'
  have Hw := Hw'
  clear Hw'
  clear hb
  have Hx : Hid (BSl wx2 0 wx2.heap.size Ax bw) := hsx
  clear hsx
  have HSM := Lib.hid (un_small HDw.out)
  have eb : (tw != tw) = false := by simp
  have eb2 : (tw == tw) = true := by simp
  go_wp2_with fail
  with_reducible refine (laSubst_same bw Ax Aw Cx Cw _ Hx.out Hw.out (by have := HSM.out.1; omega) HSM.out.2).mono ?_
  rintro e wx3 ⟨rfl, hb⟩
  have Hlow' : Hid (Below w.heap.size w wx3) := below_next Hlow.out hb
  have Hp' : Hid (Tb wa.heap.size s v a c k wx3) := Hp.out.next hb
  have Ht' : Hid (Tb (wa.heap.size + 1) s2 v2 a2 c2 k2 wx3) := Ht.out.next hb
  have Hw' : Hid (BSl wx3 0 wx3.heap.size Aw bw) := Hw.out.next hb
  have Hx' : Hid (BSl wx3 0 wx3.heap.size Ax bw) := Hx.out.next hb
  clear Hlow Hp Ht Hw Hx
  have Hlow := Hlow'
  clear Hlow'
  have Hp := Hp'
  clear Hp'
  have Ht := Ht'
  clear Ht'
  have Hw := Hw'
  clear Hw'
  have Hx := Hx'
  clear Hx'
  clear hb
  cases tw with
  | false =>
    go_wp2_with fail
    with_reducible refine (laSubst_same bw Ax Aw Cx Cw _ Hx.out Hw.out (by have := HSM.out.1; omega) HSM.out.2).mono ?_
    rintro e wx4 ⟨rfl, hb⟩
    have Hlow' : Hid (Below w.heap.size w wx4) := below_next Hlow.out hb
    have Hp' : Hid (Tb wa.heap.size s v a c k wx4) := Hp.out.next hb
    have Ht' : Hid (Tb (wa.heap.size + 1) s2 v2 a2 c2 k2 wx4) := Ht.out.next hb
    have Hw' : Hid (BSl wx4 0 wx4.heap.size Aw bw) := Hw.out.next hb
    have Hx' : Hid (BSl wx4 0 wx4.heap.size Ax bw) := Hx.out.next hb
    clear Hlow Hp Ht Hw Hx
    have Hlow := Hlow'
    clear Hlow'
    have Hp := Hp'
    clear Hp'
    have Ht := Ht'
    clear Ht'
    have Hw := Hw'
    clear Hw'
    have Hx := Hx'
    clear Hx'
    clear hb
    go_wp2_with fail
    go_ret
    exact ⟨rfl, Hlow.out⟩
  | true =>
    clear eb eb2
    have hok := un_ok HDw.out
    have HSO := Lib.hid hok.1
    have HOK := Lib.hid hok.2.1
    have HOK2 := Lib.hid hok.2.2.1
    have hk16 := ((okW_iff _ _ _ _).1 HOK.out).2.2
    have hk216 := ((okW_iff _ _ _ _).1 HOK2.out).2.2
    clear hok Hw
    obtain ⟨sx, vx, kx, h1, h2⟩ := un_both HDw.out HZ.out HZ2.out
    have HS1 := Lib.hid h1
    have HS2 := Lib.hid h2
    have hkx := sdR_sz h1
    clear h1 h2
    have qp0 := Hp.out.c0
    have qp1 := Hp.out.c1
    have qp2 := Hp.out.c2
    go_wp2_with fail
    with_reducible refine (iSubstDo_any bw Ax Cx s v a c k _ Hx.out (by have := HSM.out.1; omega) Hp.out.sl).mono ?_
    rintro e wx4 ⟨ay, cy, sy, vy, ky, ty, hdy, rfl, hb, hly⟩
    rw [HS1.out] at hdy
    simp only [Prod.mk.injEq] at hdy
    obtain ⟨rfl, rfl, rfl, rfl⟩ := hdy
    clear qp0 qp1 qp2
    have Hlow' : Hid (Below w.heap.size w wx4) := below_next Hlow.out hb
    have Hp' : Hid (Tb wa.heap.size s v a c k wx4) := Hp.out.next hb
    have Ht' : Hid (Tb (wa.heap.size + 1) s2 v2 a2 c2 k2 wx4) := Ht.out.next hb
    have Hx' : Hid (BSl wx4 0 wx4.heap.size Ax bw) := Hx.out.next hb
    clear Hlow Hp Ht Hx
    have Hlow := Hlow'
    clear Hlow'
    have Hp := Hp'
    clear Hp'
    have Ht := Ht'
    clear Ht'
    have Hx := Hx'
    clear Hx'
    clear hb
    have Hly := Lib.hid hly
    clear hly
    have hbx : Below wx4.heap.size wx4 (wx4.alloc (.cells #[.int .i64 sx, .int .i64 vx, .slice ay (flen kx) cy] 28)) := box_low _ _
    have Hn : Hid (Tb wx4.heap.size sx vx ay cy kx (wx4.alloc (.cells #[.int .i64 sx, .int .i64 vx, .slice ay (flen kx) cy] 28))) := Tb.new Hly.out
    have Hlow' : Hid (Below w.heap.size w (wx4.alloc (.cells #[.int .i64 sx, .int .i64 vx, .slice ay (flen kx) cy] 28))) := below_next Hlow.out hbx
    have Hp' : Hid (Tb wa.heap.size s v a c k (wx4.alloc (.cells #[.int .i64 sx, .int .i64 vx, .slice ay (flen kx) cy] 28))) := Hp.out.next hbx
    have Ht' : Hid (Tb (wa.heap.size + 1) s2 v2 a2 c2 k2 (wx4.alloc (.cells #[.int .i64 sx, .int .i64 vx, .slice ay (flen kx) cy] 28))) := Ht.out.next hbx
    have Hx' : Hid (BSl (wx4.alloc (.cells #[.int .i64 sx, .int .i64 vx, .slice ay (flen kx) cy] 28)) 0 (wx4.alloc (.cells #[.int .i64 sx, .int .i64 vx, .slice ay (flen kx) cy] 28)).heap.size Ax bw) := Hx.out.next hbx
    clear Hlow Hp Ht Hx
    have Hlow := Hlow'
    clear Hlow'
    have Hp := Hp'
    clear Hp'
    have Ht := Ht'
    clear Ht'
    have Hx := Hx'
    clear Hx'
    have Hy := Hn
    clear Hn hbx
    clear Hly
    have qt0 := Ht.out.c0
    have qt1 := Ht.out.c1
    have qt2 := Ht.out.c2
    go_wp2_with fail
    with_reducible refine (iSubstDo_any bw Ax Cx s2 v2 a2 c2 k2 _ Hx.out (by have := HSM.out.1; omega) Ht.out.sl).mono ?_
    rintro e wx5 ⟨aq, cq, sq, vq, kq, tq, hdq, rfl, hb, hlq⟩
    rw [HS2.out] at hdq
    simp only [Prod.mk.injEq] at hdq
    obtain ⟨rfl, rfl, rfl, rfl⟩ := hdq
    clear qt0 qt1 qt2
    have Hlow' : Hid (Below w.heap.size w wx5) := below_next Hlow.out hb
    have Hp' : Hid (Tb wa.heap.size s v a c k wx5) := Hp.out.next hb
    have Ht' : Hid (Tb (wa.heap.size + 1) s2 v2 a2 c2 k2 wx5) := Ht.out.next hb
    have Hx' : Hid (BSl wx5 0 wx5.heap.size Ax bw) := Hx.out.next hb
    have Hy' : Hid (Tb wx4.heap.size sx vx ay cy kx wx5) := Hy.out.next hb
    clear Hlow Hp Ht Hx Hy
    have Hlow := Hlow'
    clear Hlow'
    have Hp := Hp'
    clear Hp'
    have Ht := Ht'
    clear Ht'
    have Hx := Hx'
    clear Hx'
    have Hy := Hy'
    clear Hy'
    clear hb
    have Hlq := Lib.hid hlq
    clear hlq
    have hbx : Below wx5.heap.size wx5 (wx5.alloc (.cells #[.int .i64 sx, .int .i64 vx, .slice aq (flen kx) cq] 28)) := box_low _ _
    have Hn : Hid (Tb wx5.heap.size sx vx aq cq kx (wx5.alloc (.cells #[.int .i64 sx, .int .i64 vx, .slice aq (flen kx) cq] 28))) := Tb.new Hlq.out
    have Hlow' : Hid (Below w.heap.size w (wx5.alloc (.cells #[.int .i64 sx, .int .i64 vx, .slice aq (flen kx) cq] 28))) := below_next Hlow.out hbx
    have Hp' : Hid (Tb wa.heap.size s v a c k (wx5.alloc (.cells #[.int .i64 sx, .int .i64 vx, .slice aq (flen kx) cq] 28))) := Hp.out.next hbx
    have Ht' : Hid (Tb (wa.heap.size + 1) s2 v2 a2 c2 k2 (wx5.alloc (.cells #[.int .i64 sx, .int .i64 vx, .slice aq (flen kx) cq] 28))) := Ht.out.next hbx
    have Hx' : Hid (BSl (wx5.alloc (.cells #[.int .i64 sx, .int .i64 vx, .slice aq (flen kx) cq] 28)) 0 (wx5.alloc (.cells #[.int .i64 sx, .int .i64 vx, .slice aq (flen kx) cq] 28)).heap.size Ax bw) := Hx.out.next hbx
    have Hy' : Hid (Tb wx4.heap.size sx vx ay cy kx (wx5.alloc (.cells #[.int .i64 sx, .int .i64 vx, .slice aq (flen kx) cq] 28))) := Hy.out.next hbx
    clear Hlow Hp Ht Hx Hy
    have Hlow := Hlow'
    clear Hlow'
    have Hp := Hp'
    clear Hp'
    have Ht := Ht'
    clear Ht'
    have Hx := Hx'
    clear Hx'
    have Hy := Hy'
    clear Hy'
    have Hq := Hn
    clear Hn hbx
    clear Hlq
    have qy0 := Hy.out.c0
    have qy1 := Hy.out.c1
    have qy2 := Hy.out.c2
    have qq0 := Hq.out.c0
    have qq1 := Hq.out.c1
    have qq2 := Hq.out.c2
    go_wp2_with fail
    with_reducible refine (laTerm_same (fsz kx) sx vx ay aq cy cq kx _ Hy.out.sl Hq.out.sl (Nat.le_refl _) (by omega)).mono ?_
    rintro e wx6 ⟨rfl, hb⟩
    clear qy0 qy1 qy2 qq0 qq1 qq2
    have Hlow' : Hid (Below w.heap.size w wx6) := below_next Hlow.out hb
    have Hp' : Hid (Tb wa.heap.size s v a c k wx6) := Hp.out.next hb
    have Ht' : Hid (Tb (wa.heap.size + 1) s2 v2 a2 c2 k2 wx6) := Ht.out.next hb
    have Hx' : Hid (BSl wx6 0 wx6.heap.size Ax bw) := Hx.out.next hb
    have Hy' : Hid (Tb wx4.heap.size sx vx ay cy kx wx6) := Hy.out.next hb
    have Hq' : Hid (Tb wx5.heap.size sx vx aq cq kx wx6) := Hq.out.next hb
    clear Hlow Hp Ht Hx Hy Hq
    have Hlow := Hlow'
    clear Hlow'
    have Hp := Hp'
    clear Hp'
    have Ht := Ht'
    clear Ht'
    have Hx := Hx'
    clear Hx'
    have Hy := Hy'
    clear Hy'
    have Hq := Hq'
    clear Hq'
    clear hb
    go_wp2_with fail
    with_reducible refine (iSubstOk_any bw Ax Cx _ Hx.out (by have := HSM.out.1; omega)).mono ?_
    rw [HSO.out]
    rintro e wx7 ⟨rfl, hb⟩
    have Hlow' : Hid (Below w.heap.size w wx7) := below_next Hlow.out hb
    have Hp' : Hid (Tb wa.heap.size s v a c k wx7) := Hp.out.next hb
    have Ht' : Hid (Tb (wa.heap.size + 1) s2 v2 a2 c2 k2 wx7) := Ht.out.next hb
    have Hx' : Hid (BSl wx7 0 wx7.heap.size Ax bw) := Hx.out.next hb
    have Hy' : Hid (Tb wx4.heap.size sx vx ay cy kx wx7) := Hy.out.next hb
    have Hq' : Hid (Tb wx5.heap.size sx vx aq cq kx wx7) := Hq.out.next hb
    clear Hlow Hp Ht Hx Hy Hq
    have Hlow := Hlow'
    clear Hlow'
    have Hp := Hp'
    clear Hp'
    have Ht := Ht'
    clear Ht'
    have Hx := Hx'
    clear Hx'
    have Hy := Hy'
    clear Hy'
    have Hq := Hq'
    clear Hq'
    clear hb
    go_wp2_with fail
    go_ret
    exact ⟨rfl, Hlow.out⟩
end Go.Proofs.Ytpfkhgiiojikbaa
