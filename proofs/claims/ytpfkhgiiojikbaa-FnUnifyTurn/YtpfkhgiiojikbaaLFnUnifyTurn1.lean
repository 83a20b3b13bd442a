/- Several texts in one: LawUTurn. -/
import Derived.Test.YtpfkhgiiojikbaaKUnify6
import Derived.Test.YtpfkhgiiojikbaaKUnify7
import Derived.Test.YtpfkhgiiojikbaaKUnify10
import Derived.Test.YtpfkhgiiojikbaaKUnify12
import Derived.Test.YtpfkhgiiojikbaaKThen16
import Derived.Test.YtpfkhgiiojikbaaKThen14
import Derived.Test.YtpfkhgiiojikbaaKThen9
import Derived.Test.YtpfkhgiiojikbaaKUnify13

/-! LawUTurn: laws.FnUnifyTurn answers true at every code. -/
namespace Go.Proofs.Ytpfkhgiiojikbaa
open Go.RowKit Go.Deep
attribute [local go_sem ↓] Go.wp_at_zero Go.wp_at_succ

set_option maxRecDepth 100000 in
set_option maxHeartbeats 4000000 in
theorem unifyTurn_walk (a0 : Option Addr) (len cap : Nat) (w : World) (hby : Bytes w a0 len) (hlen : len ≤ cap) :
    Calls Try.prog 8 #[.slice a0 len cap] w fun e w' => e = .returned (.bool true) ∧ Below w.heap.size w w' := by
  have HBY := Lib.hid hby
  clear hby
  by_cases hbiglen : 1048576 < len
  · go_enter Try.func8, Try.ntmps8
    go_wp2_with fail
    go_ret
    exact ⟨rfl, Below.refl _ _⟩
  go_enter Try.func8, Try.ntmps8
  go_wp2_with fail
  with_reducible refine (DrawUnifyOf_z a0 len cap _ HBY.out hlen).mono ?_
  rintro e wa ⟨s, v, a, c, k, s2, v2, a2, c2, k2, rfl, ⟨hSk, hZ⟩, ⟨hSk2, hZ2⟩, hb, hl, hl2⟩
  have Hlow := Lib.hid hb
  have HZ := Lib.hid hZ
  have HZ2 := Lib.hid hZ2
  have HL := Lib.hid hl
  have Hm : Hid (Sl wa 0 wa.heap.size a2 k2) := hl2.mono (Nat.zero_le _) (Nat.le_refl _)
  clear hb hl hl2 HBY hZ hZ2
  have hbx : Below wa.heap.size wa (wa.alloc (.cells #[.int .i64 s, .int .i64 v, .slice a (flen k) c] 28)) := box_low _ _
  have Hn : Hid (Tb wa.heap.size s v a c k (wa.alloc (.cells #[.int .i64 s, .int .i64 v, .slice a (flen k) c] 28))) := Tb.new HL.out
  have Hlow' : Hid (Below w.heap.size w (wa.alloc (.cells #[.int .i64 s, .int .i64 v, .slice a (flen k) c] 28))) := below_next Hlow.out hbx
  have Hm' : Hid (Sl (wa.alloc (.cells #[.int .i64 s, .int .i64 v, .slice a (flen k) c] 28)) 0 (wa.alloc (.cells #[.int .i64 s, .int .i64 v, .slice a (flen k) c] 28)).heap.size a2 k2) := Hm.out.next hbx
  clear Hlow Hm
  have Hlow := Hlow'
  clear Hlow'
  have Hm := Hm'
  clear Hm'
  have Hp := Hn
  clear Hn hbx
  clear HL
  have hbx : Below (wa.alloc (.cells #[.int .i64 s, .int .i64 v, .slice a (flen k) c] 28)).heap.size (wa.alloc (.cells #[.int .i64 s, .int .i64 v, .slice a (flen k) c] 28)) ((wa.alloc (.cells #[.int .i64 s, .int .i64 v, .slice a (flen k) c] 28)).alloc (.cells #[.int .i64 s2, .int .i64 v2, .slice a2 (flen k2) c2] 28)) := box_low _ _
  have Hn : Hid (Tb (wa.heap.size + 1) s2 v2 a2 c2 k2 ((wa.alloc (.cells #[.int .i64 s, .int .i64 v, .slice a (flen k) c] 28)).alloc (.cells #[.int .i64 s2, .int .i64 v2, .slice a2 (flen k2) c2] 28))) := (show (wa.alloc (.cells #[.int .i64 s, .int .i64 v, .slice a (flen k) c] 28)).heap.size = (wa.heap.size + 1) from by simp) ▸ Tb.new Hm.out
  have Hlow' : Hid (Below w.heap.size w ((wa.alloc (.cells #[.int .i64 s, .int .i64 v, .slice a (flen k) c] 28)).alloc (.cells #[.int .i64 s2, .int .i64 v2, .slice a2 (flen k2) c2] 28))) := below_next Hlow.out hbx
  have Hm' : Hid (Sl ((wa.alloc (.cells #[.int .i64 s, .int .i64 v, .slice a (flen k) c] 28)).alloc (.cells #[.int .i64 s2, .int .i64 v2, .slice a2 (flen k2) c2] 28)) 0 ((wa.alloc (.cells #[.int .i64 s, .int .i64 v, .slice a (flen k) c] 28)).alloc (.cells #[.int .i64 s2, .int .i64 v2, .slice a2 (flen k2) c2] 28)).heap.size a2 k2) := Hm.out.next hbx
  have Hp' : Hid (Tb wa.heap.size s v a c k ((wa.alloc (.cells #[.int .i64 s, .int .i64 v, .slice a (flen k) c] 28)).alloc (.cells #[.int .i64 s2, .int .i64 v2, .slice a2 (flen k2) c2] 28))) := Hp.out.next hbx
  clear Hlow Hm Hp
  have Hlow := Hlow'
  clear Hlow'
  have Hm := Hm'
  clear Hm'
  have Hp := Hp'
  clear Hp'
  have Ht := Hn
  clear Hn hbx
  clear Hm
  have qp0 := Hp.out.c0
  have qp1 := Hp.out.c1
  have qp2 := Hp.out.c2
  have qt0 := Ht.out.c0
  have qt1 := Ht.out.c1
  have qt2 := Ht.out.c2
  go_wp2_with fail
  with_reducible refine (sUnifyOf_any s v a c k s2 v2 a2 c2 k2 _ Hp.out.sl Ht.out.sl).mono ?_
  rintro e wx1 ⟨Aw, Cw, bw, tw, hdw, rfl, hb, hsw⟩
  have HDw := Lib.hid hdw
  clear hdw
  clear qp0 qp1 qp2 qt0 qt1 qt2
  have Hlow' : Hid (Below w.heap.size w wx1) := below_next Hlow.out hb
  have Hp' : Hid (Tb wa.heap.size s v a c k wx1) := Hp.out.next hb
  have Ht' : Hid (Tb (wa.heap.size + 1) s2 v2 a2 c2 k2 wx1) := Ht.out.next hb
  clear Hlow Hp Ht
  have Hlow := Hlow'
  clear Hlow'
  have Hp := Hp'
  clear Hp'
  have Ht := Ht'
  clear Ht'
  clear hb
  have Hw : Hid (BSl wx1 0 wx1.heap.size Aw bw) := hsw
  clear hsw
  have qp0 := Hp.out.c0
  have qp1 := Hp.out.c1
  have qp2 := Hp.out.c2
  have qt0 := Ht.out.c0
  have qt1 := Ht.out.c1
  have qt2 := Ht.out.c2
  go_wp2_with fail
  with_reducible refine (iUnifyOf_any s v a c k s2 v2 a2 c2 k2 _ Hp.out.sl Ht.out.sl).mono ?_
  rintro e wx2 ⟨Ax, Cx, bx, tx, hdx, rfl, hb, hsx⟩
  rw [HDw.out] at hdx
  simp only [Prod.mk.injEq] at hdx
  obtain ⟨rfl, rfl⟩ := hdx
  clear qp0 qp1 qp2 qt0 qt1 qt2
  have Hlow' : Hid (Below w.heap.size w wx2) := below_next Hlow.out hb
  have Hp' : Hid (Tb wa.heap.size s v a c k wx2) := Hp.out.next hb
  have Ht' : Hid (Tb (wa.heap.size + 1) s2 v2 a2 c2 k2 wx2) := Ht.out.next hb
  have Hw' : Hid (BSl wx2 0 wx2.heap.size Aw bw) := Hw.out.next hb
  clear Hlow Hp Ht Hw
  have Hlow := Hlow'
  clear Hlow'
  have Hp := Hp'
  clear Hp'
  have Ht := Ht'
  clear Ht'
  have Hw := Hw'
  clear Hw'
  clear hb
  have Hx : Hid (BSl wx2 0 wx2.heap.size Ax bw) := hsx
  clear hsx
  have HSM := Lib.hid (un_small HDw.out)
  have eb : (tw != tw) = false := by simp
  have eb2 : (tw == tw) = true := by simp
  go_wp2_with fail
  with_reducible refine (laSubst_same bw Ax Aw Cx Cw _ Hx.out Hw.out (by have := HSM.out.1; omega) HSM.out.2).mono ?_
  rintro e wx3 ⟨rfl, hb⟩
  have Hlow' : Hid (Below w.heap.size w wx3) := below_next Hlow.out hb
  have Hp' : Hid (Tb wa.heap.size s v a c k wx3) := Hp.out.next hb
  have Ht' : Hid (Tb (wa.heap.size + 1) s2 v2 a2 c2 k2 wx3) := Ht.out.next hb
  have Hw' : Hid (BSl wx3 0 wx3.heap.size Aw bw) := Hw.out.next hb
  have Hx' : Hid (BSl wx3 0 wx3.heap.size Ax bw) := Hx.out.next hb
  clear Hlow Hp Ht Hw Hx
  have Hlow := Hlow'
  clear Hlow'
  have Hp := Hp'
  clear Hp'
  have Ht := Ht'
  clear Ht'
  have Hw := Hw'
  clear Hw'
  have Hx := Hx'
  clear Hx'
  clear hb
  clear Hw
  have qt0 := Ht.out.c0
  have qt1 := Ht.out.c1
  have qt2 := Ht.out.c2
  have qp0 := Hp.out.c0
  have qp1 := Hp.out.c1
  have qp2 := Hp.out.c2
  go_wp2_with fail
  with_reducible refine (iUnifyOf_any s2 v2 a2 c2 k2 s v a c k _ Ht.out.sl Hp.out.sl).mono ?_
  rintro e wx4 ⟨Au, Cu, bu, tu, hdu, rfl, hb, hsu⟩
  have HDu := Lib.hid hdu
  clear hdu
  clear qt0 qt1 qt2 qp0 qp1 qp2
  have Hlow' : Hid (Below w.heap.size w wx4) := below_next Hlow.out hb
  have Hp' : Hid (Tb wa.heap.size s v a c k wx4) := Hp.out.next hb
  have Ht' : Hid (Tb (wa.heap.size + 1) s2 v2 a2 c2 k2 wx4) := Ht.out.next hb
  have Hx' : Hid (BSl wx4 0 wx4.heap.size Ax bw) := Hx.out.next hb
  clear Hlow Hp Ht Hx
  have Hlow := Hlow'
  clear Hlow'
  have Hp := Hp'
  clear Hp'
  have Ht := Ht'
  clear Ht'
  have Hx := Hx'
  clear Hx'
  clear hb
  have Hu : Hid (BSl wx4 0 wx4.heap.size Au bu) := hsu
  clear hsu
  obtain ⟨hut, hrest⟩ := un_turn HDw.out HDu.out HZ.out HZ2.out
  subst hut
  have HREST := Lib.hid hrest
  have HSU := Lib.hid (un_small HDu.out)
  clear hrest
  cases tu with
  | false =>
    go_wp2_with fail
    go_ret
    exact ⟨rfl, Hlow.out⟩
  | true =>
    clear eb eb2
    obtain ⟨s5, v5, k5, s6, v6, k6, h1, h2, h3⟩ := HREST.out rfl
    have HS1 := Lib.hid h1
    have HS2 := Lib.hid h2
    have HPE := Lib.hid h3
    clear h1 h2 h3
    have qp0 := Hp.out.c0
    have qp1 := Hp.out.c1
    have qp2 := Hp.out.c2
    go_wp2_with fail
    with_reducible refine (iSubstDo_any bw Ax Cx s v a c k _ Hx.out (by have := HSM.out.1; omega) Hp.out.sl).mono ?_
    rintro e wx5 ⟨ay, cy, sy, vy, ky, ty, hdy, rfl, hb, hly⟩
    rw [HS1.out] at hdy
    simp only [Prod.mk.injEq] at hdy
    obtain ⟨rfl, rfl, rfl, rfl⟩ := hdy
    clear qp0 qp1 qp2
    have Hlow' : Hid (Below w.heap.size w wx5) := below_next Hlow.out hb
    have Hp' : Hid (Tb wa.heap.size s v a c k wx5) := Hp.out.next hb
    have Ht' : Hid (Tb (wa.heap.size + 1) s2 v2 a2 c2 k2 wx5) := Ht.out.next hb
    have Hx' : Hid (BSl wx5 0 wx5.heap.size Ax bw) := Hx.out.next hb
    have Hu' : Hid (BSl wx5 0 wx5.heap.size Au bu) := Hu.out.next hb
    clear Hlow Hp Ht Hx Hu
    have Hlow := Hlow'
    clear Hlow'
    have Hp := Hp'
    clear Hp'
    have Ht := Ht'
    clear Ht'
    have Hx := Hx'
    clear Hx'
    have Hu := Hu'
    clear Hu'
    clear hb
    have Hly := Lib.hid hly
    clear hly
    have hbx : Below wx5.heap.size wx5 (wx5.alloc (.cells #[.int .i64 s5, .int .i64 v5, .slice ay (flen k5) cy] 28)) := box_low _ _
    have Hn : Hid (Tb wx5.heap.size s5 v5 ay cy k5 (wx5.alloc (.cells #[.int .i64 s5, .int .i64 v5, .slice ay (flen k5) cy] 28))) := Tb.new Hly.out
    have Hlow' : Hid (Below w.heap.size w (wx5.alloc (.cells #[.int .i64 s5, .int .i64 v5, .slice ay (flen k5) cy] 28))) := below_next Hlow.out hbx
    have Hp' : Hid (Tb wa.heap.size s v a c k (wx5.alloc (.cells #[.int .i64 s5, .int .i64 v5, .slice ay (flen k5) cy] 28))) := Hp.out.next hbx
    have Ht' : Hid (Tb (wa.heap.size + 1) s2 v2 a2 c2 k2 (wx5.alloc (.cells #[.int .i64 s5, .int .i64 v5, .slice ay (flen k5) cy] 28))) := Ht.out.next hbx
    have Hx' : Hid (BSl (wx5.alloc (.cells #[.int .i64 s5, .int .i64 v5, .slice ay (flen k5) cy] 28)) 0 (wx5.alloc (.cells #[.int .i64 s5, .int .i64 v5, .slice ay (flen k5) cy] 28)).heap.size Ax bw) := Hx.out.next hbx
    have Hu' : Hid (BSl (wx5.alloc (.cells #[.int .i64 s5, .int .i64 v5, .slice ay (flen k5) cy] 28)) 0 (wx5.alloc (.cells #[.int .i64 s5, .int .i64 v5, .slice ay (flen k5) cy] 28)).heap.size Au bu) := Hu.out.next hbx
    clear Hlow Hp Ht Hx Hu
    have Hlow := Hlow'
    clear Hlow'
    have Hp := Hp'
    clear Hp'
    have Ht := Ht'
    clear Ht'
    have Hx := Hx'
    clear Hx'
    have Hu := Hu'
    clear Hu'
    have Hy := Hn
    clear Hn hbx
    clear Hly
    have qp0 := Hp.out.c0
    have qp1 := Hp.out.c1
    have qp2 := Hp.out.c2
    go_wp2_with fail
    with_reducible refine (iSubstDo_any bu Au Cu s v a c k _ Hu.out (by have := HSU.out.1; omega) Hp.out.sl).mono ?_
    rintro e wx6 ⟨aq, cq, sq, vq, kq, tq, hdq, rfl, hb, hlq⟩
    rw [HS2.out] at hdq
    simp only [Prod.mk.injEq] at hdq
    obtain ⟨rfl, rfl, rfl, rfl⟩ := hdq
    clear qp0 qp1 qp2
    have Hlow' : Hid (Below w.heap.size w wx6) := below_next Hlow.out hb
    have Hp' : Hid (Tb wa.heap.size s v a c k wx6) := Hp.out.next hb
    have Ht' : Hid (Tb (wa.heap.size + 1) s2 v2 a2 c2 k2 wx6) := Ht.out.next hb
    have Hx' : Hid (BSl wx6 0 wx6.heap.size Ax bw) := Hx.out.next hb
    have Hu' : Hid (BSl wx6 0 wx6.heap.size Au bu) := Hu.out.next hb
    have Hy' : Hid (Tb wx5.heap.size s5 v5 ay cy k5 wx6) := Hy.out.next hb
    clear Hlow Hp Ht Hx Hu Hy
    have Hlow := Hlow'
    clear Hlow'
    have Hp := Hp'
    clear Hp'
    have Ht := Ht'
    clear Ht'
    have Hx := Hx'
    clear Hx'
    have Hu := Hu'
    clear Hu'
    have Hy := Hy'
    clear Hy'
    clear hb
    have Hlq := Lib.hid hlq
    clear hlq
    have hbx : Below wx6.heap.size wx6 (wx6.alloc (.cells #[.int .i64 s6, .int .i64 v6, .slice aq (flen k6) cq] 28)) := box_low _ _
    have Hn : Hid (Tb wx6.heap.size s6 v6 aq cq k6 (wx6.alloc (.cells #[.int .i64 s6, .int .i64 v6, .slice aq (flen k6) cq] 28))) := Tb.new Hlq.out
    have Hlow' : Hid (Below w.heap.size w (wx6.alloc (.cells #[.int .i64 s6, .int .i64 v6, .slice aq (flen k6) cq] 28))) := below_next Hlow.out hbx
    have Hp' : Hid (Tb wa.heap.size s v a c k (wx6.alloc (.cells #[.int .i64 s6, .int .i64 v6, .slice aq (flen k6) cq] 28))) := Hp.out.next hbx
    have Ht' : Hid (Tb (wa.heap.size + 1) s2 v2 a2 c2 k2 (wx6.alloc (.cells #[.int .i64 s6, .int .i64 v6, .slice aq (flen k6) cq] 28))) := Ht.out.next hbx
    have Hx' : Hid (BSl (wx6.alloc (.cells #[.int .i64 s6, .int .i64 v6, .slice aq (flen k6) cq] 28)) 0 (wx6.alloc (.cells #[.int .i64 s6, .int .i64 v6, .slice aq (flen k6) cq] 28)).heap.size Ax bw) := Hx.out.next hbx
    have Hu' : Hid (BSl (wx6.alloc (.cells #[.int .i64 s6, .int .i64 v6, .slice aq (flen k6) cq] 28)) 0 (wx6.alloc (.cells #[.int .i64 s6, .int .i64 v6, .slice aq (flen k6) cq] 28)).heap.size Au bu) := Hu.out.next hbx
    have Hy' : Hid (Tb wx5.heap.size s5 v5 ay cy k5 (wx6.alloc (.cells #[.int .i64 s6, .int .i64 v6, .slice aq (flen k6) cq] 28))) := Hy.out.next hbx
    clear Hlow Hp Ht Hx Hu Hy
    have Hlow := Hlow'
    clear Hlow'
    have Hp := Hp'
    clear Hp'
    have Ht := Ht'
    clear Ht'
    have Hx := Hx'
    clear Hx'
    have Hu := Hu'
    clear Hu'
    have Hy := Hy'
    clear Hy'
    have Hq := Hn
    clear Hn hbx
    clear Hlq
    have qy0 := Hy.out.c0
    have qy1 := Hy.out.c1
    have qy2 := Hy.out.c2
    go_wp2_with fail
    with_reducible refine (iTermPlain_any s5 v5 ay cy k5 _ Hy.out.sl).mono ?_
    rintro e wx7 ⟨am, cm, Am, Cm, sm, vm, km, bm, hdm, rfl, hb, hlm, hsm⟩
    have HDm := Lib.hid hdm
    clear hdm
    clear qy0 qy1 qy2
    have Hlow' : Hid (Below w.heap.size w wx7) := below_next Hlow.out hb
    have Hp' : Hid (Tb wa.heap.size s v a c k wx7) := Hp.out.next hb
    have Ht' : Hid (Tb (wa.heap.size + 1) s2 v2 a2 c2 k2 wx7) := Ht.out.next hb
    have Hx' : Hid (BSl wx7 0 wx7.heap.size Ax bw) := Hx.out.next hb
    have Hu' : Hid (BSl wx7 0 wx7.heap.size Au bu) := Hu.out.next hb
    have Hy' : Hid (Tb wx5.heap.size s5 v5 ay cy k5 wx7) := Hy.out.next hb
    have Hq' : Hid (Tb wx6.heap.size s6 v6 aq cq k6 wx7) := Hq.out.next hb
    clear Hlow Hp Ht Hx Hu Hy Hq
    have Hlow := Hlow'
    clear Hlow'
    have Hp := Hp'
    clear Hp'
    have Ht := Ht'
    clear Ht'
    have Hx := Hx'
    clear Hx'
    have Hu := Hu'
    clear Hu'
    have Hy := Hy'
    clear Hy'
    have Hq := Hq'
    clear Hq'
    clear hb
    have Hmr : Hid (BSl wx7 0 wx7.heap.size Am bm) := hsm
    have Hlm := Lib.hid hlm
    clear hsm hlm
    have hbx : Below wx7.heap.size wx7 (wx7.alloc (.cells #[.int .i64 sm, .int .i64 vm, .slice am (flen km) cm] 28)) := box_low _ _
    have Hn : Hid (Tb wx7.heap.size sm vm am cm km (wx7.alloc (.cells #[.int .i64 sm, .int .i64 vm, .slice am (flen km) cm] 28))) := Tb.new Hlm.out
    have Hlow' : Hid (Below w.heap.size w (wx7.alloc (.cells #[.int .i64 sm, .int .i64 vm, .slice am (flen km) cm] 28))) := below_next Hlow.out hbx
    have Hp' : Hid (Tb wa.heap.size s v a c k (wx7.alloc (.cells #[.int .i64 sm, .int .i64 vm, .slice am (flen km) cm] 28))) := Hp.out.next hbx
    have Ht' : Hid (Tb (wa.heap.size + 1) s2 v2 a2 c2 k2 (wx7.alloc (.cells #[.int .i64 sm, .int .i64 vm, .slice am (flen km) cm] 28))) := Ht.out.next hbx
    have Hx' : Hid (BSl (wx7.alloc (.cells #[.int .i64 sm, .int .i64 vm, .slice am (flen km) cm] 28)) 0 (wx7.alloc (.cells #[.int .i64 sm, .int .i64 vm, .slice am (flen km) cm] 28)).heap.size Ax bw) := Hx.out.next hbx
    have Hu' : Hid (BSl (wx7.alloc (.cells #[.int .i64 sm, .int .i64 vm, .slice am (flen km) cm] 28)) 0 (wx7.alloc (.cells #[.int .i64 sm, .int .i64 vm, .slice am (flen km) cm] 28)).heap.size Au bu) := Hu.out.next hbx
    have Hy' : Hid (Tb wx5.heap.size s5 v5 ay cy k5 (wx7.alloc (.cells #[.int .i64 sm, .int .i64 vm, .slice am (flen km) cm] 28))) := Hy.out.next hbx
    have Hq' : Hid (Tb wx6.heap.size s6 v6 aq cq k6 (wx7.alloc (.cells #[.int .i64 sm, .int .i64 vm, .slice am (flen km) cm] 28))) := Hq.out.next hbx
    have Hmr' : Hid (BSl (wx7.alloc (.cells #[.int .i64 sm, .int .i64 vm, .slice am (flen km) cm] 28)) 0 (wx7.alloc (.cells #[.int .i64 sm, .int .i64 vm, .slice am (flen km) cm] 28)).heap.size Am bm) := Hmr.out.next hbx
    clear Hlow Hp Ht Hx Hu Hy Hq Hmr
    have Hlow := Hlow'
    clear Hlow'
    have Hp := Hp'
    clear Hp'
    have Ht := Ht'
    clear Ht'
    have Hx := Hx'
    clear Hx'
    have Hu := Hu'
    clear Hu'
    have Hy := Hy'
    clear Hy'
    have Hq := Hq'
    clear Hq'
    have Hmr := Hmr'
    clear Hmr'
    have Hm := Hn
    clear Hn hbx
    clear Hlm
    have qq0 := Hq.out.c0
    have qq1 := Hq.out.c1
    have qq2 := Hq.out.c2
    go_wp2_with fail
    with_reducible refine (iTermPlain_any s6 v6 aq cq k6 _ Hq.out.sl).mono ?_
    rintro e wx8 ⟨an, cn, An, Cn, sn, vn, kn, bn, hdn, rfl, hb, hln, hsn⟩
    have HDn := Lib.hid hdn
    clear hdn
    clear qq0 qq1 qq2
    have Hlow' : Hid (Below w.heap.size w wx8) := below_next Hlow.out hb
    have Hp' : Hid (Tb wa.heap.size s v a c k wx8) := Hp.out.next hb
    have Ht' : Hid (Tb (wa.heap.size + 1) s2 v2 a2 c2 k2 wx8) := Ht.out.next hb
    have Hx' : Hid (BSl wx8 0 wx8.heap.size Ax bw) := Hx.out.next hb
    have Hu' : Hid (BSl wx8 0 wx8.heap.size Au bu) := Hu.out.next hb
    have Hy' : Hid (Tb wx5.heap.size s5 v5 ay cy k5 wx8) := Hy.out.next hb
    have Hq' : Hid (Tb wx6.heap.size s6 v6 aq cq k6 wx8) := Hq.out.next hb
    have Hmr' : Hid (BSl wx8 0 wx8.heap.size Am bm) := Hmr.out.next hb
    have Hm' : Hid (Tb wx7.heap.size sm vm am cm km wx8) := Hm.out.next hb
    clear Hlow Hp Ht Hx Hu Hy Hq Hmr Hm
    have Hlow := Hlow'
    clear Hlow'
    have Hp := Hp'
    clear Hp'
    have Ht := Ht'
    clear Ht'
    have Hx := Hx'
    clear Hx'
    have Hu := Hu'
    clear Hu'
    have Hy := Hy'
    clear Hy'
    have Hq := Hq'
    clear Hq'
    have Hmr := Hmr'
    clear Hmr'
    have Hm := Hm'
    clear Hm'
    clear hb
    have Hnr : Hid (BSl wx8 0 wx8.heap.size An bn) := hsn
    have Hln := Lib.hid hln
    clear hsn hln
    have hbx : Below wx8.heap.size wx8 (wx8.alloc (.cells #[.int .i64 sn, .int .i64 vn, .slice an (flen kn) cn] 28)) := box_low _ _
    have Hn : Hid (Tb wx8.heap.size sn vn an cn kn (wx8.alloc (.cells #[.int .i64 sn, .int .i64 vn, .slice an (flen kn) cn] 28))) := Tb.new Hln.out
    have Hlow' : Hid (Below w.heap.size w (wx8.alloc (.cells #[.int .i64 sn, .int .i64 vn, .slice an (flen kn) cn] 28))) := below_next Hlow.out hbx
    have Hp' : Hid (Tb wa.heap.size s v a c k (wx8.alloc (.cells #[.int .i64 sn, .int .i64 vn, .slice an (flen kn) cn] 28))) := Hp.out.next hbx
    have Ht' : Hid (Tb (wa.heap.size + 1) s2 v2 a2 c2 k2 (wx8.alloc (.cells #[.int .i64 sn, .int .i64 vn, .slice an (flen kn) cn] 28))) := Ht.out.next hbx
    have Hx' : Hid (BSl (wx8.alloc (.cells #[.int .i64 sn, .int .i64 vn, .slice an (flen kn) cn] 28)) 0 (wx8.alloc (.cells #[.int .i64 sn, .int .i64 vn, .slice an (flen kn) cn] 28)).heap.size Ax bw) := Hx.out.next hbx
    have Hu' : Hid (BSl (wx8.alloc (.cells #[.int .i64 sn, .int .i64 vn, .slice an (flen kn) cn] 28)) 0 (wx8.alloc (.cells #[.int .i64 sn, .int .i64 vn, .slice an (flen kn) cn] 28)).heap.size Au bu) := Hu.out.next hbx
    have Hy' : Hid (Tb wx5.heap.size s5 v5 ay cy k5 (wx8.alloc (.cells #[.int .i64 sn, .int .i64 vn, .slice an (flen kn) cn] 28))) := Hy.out.next hbx
    have Hq' : Hid (Tb wx6.heap.size s6 v6 aq cq k6 (wx8.alloc (.cells #[.int .i64 sn, .int .i64 vn, .slice an (flen kn) cn] 28))) := Hq.out.next hbx
    have Hmr' : Hid (BSl (wx8.alloc (.cells #[.int .i64 sn, .int .i64 vn, .slice an (flen kn) cn] 28)) 0 (wx8.alloc (.cells #[.int .i64 sn, .int .i64 vn, .slice an (flen kn) cn] 28)).heap.size Am bm) := Hmr.out.next hbx
    have Hm' : Hid (Tb wx7.heap.size sm vm am cm km (wx8.alloc (.cells #[.int .i64 sn, .int .i64 vn, .slice an (flen kn) cn] 28))) := Hm.out.next hbx
    have Hnr' : Hid (BSl (wx8.alloc (.cells #[.int .i64 sn, .int .i64 vn, .slice an (flen kn) cn] 28)) 0 (wx8.alloc (.cells #[.int .i64 sn, .int .i64 vn, .slice an (flen kn) cn] 28)).heap.size An bn) := Hnr.out.next hbx
    clear Hlow Hp Ht Hx Hu Hy Hq Hmr Hm Hnr
    have Hlow := Hlow'
    clear Hlow'
    have Hp := Hp'
    clear Hp'
    have Ht := Ht'
    clear Ht'
    have Hx := Hx'
    clear Hx'
    have Hu := Hu'
    clear Hu'
    have Hy := Hy'
    clear Hy'
    have Hq := Hq'
    clear Hq'
    have Hmr := Hmr'
    clear Hmr'
    have Hm := Hm'
    clear Hm'
    have Hnr := Hnr'
    clear Hnr'
    have Hn := Hn
    clear Hn hbx
    clear Hln
    have hee := HPE.out
    rw [HDm.out, HDn.out] at hee
    simp only [Prod.mk.injEq] at hee
    obtain ⟨rfl, rfl, rfl⟩ := hee
    have hkm := (plR_small HDm.out).1
    have qm0 := Hm.out.c0
    have qm1 := Hm.out.c1
    have qm2 := Hm.out.c2
    have qn0 := Hn.out.c0
    have qn1 := Hn.out.c1
    have qn2 := Hn.out.c2
    go_wp2_with fail
    with_reducible refine (laTerm_same (fsz km) sm vm am an cm cn km _ Hm.out.sl Hn.out.sl (Nat.le_refl _) (by omega)).mono ?_
    rintro e wx9 ⟨rfl, hb⟩
    clear qm0 qm1 qm2 qn0 qn1 qn2
    have Hlow' : Hid (Below w.heap.size w wx9) := below_next Hlow.out hb
    have Hp' : Hid (Tb wa.heap.size s v a c k wx9) := Hp.out.next hb
    have Ht' : Hid (Tb (wa.heap.size + 1) s2 v2 a2 c2 k2 wx9) := Ht.out.next hb
    have Hx' : Hid (BSl wx9 0 wx9.heap.size Ax bw) := Hx.out.next hb
    have Hu' : Hid (BSl wx9 0 wx9.heap.size Au bu) := Hu.out.next hb
    have Hy' : Hid (Tb wx5.heap.size s5 v5 ay cy k5 wx9) := Hy.out.next hb
    have Hq' : Hid (Tb wx6.heap.size s6 v6 aq cq k6 wx9) := Hq.out.next hb
    have Hmr' : Hid (BSl wx9 0 wx9.heap.size Am bm) := Hmr.out.next hb
    have Hm' : Hid (Tb wx7.heap.size sm vm am cm km wx9) := Hm.out.next hb
    have Hnr' : Hid (BSl wx9 0 wx9.heap.size An bn) := Hnr.out.next hb
    have Hn' : Hid (Tb wx8.heap.size sm vm an cn km wx9) := Hn.out.next hb
    clear Hlow Hp Ht Hx Hu Hy Hq Hmr Hm Hnr Hn
    have Hlow := Hlow'
    clear Hlow'
    have Hp := Hp'
    clear Hp'
    have Ht := Ht'
    clear Ht'
    have Hx := Hx'
    clear Hx'
    have Hu := Hu'
    clear Hu'
    have Hy := Hy'
    clear Hy'
    have Hq := Hq'
    clear Hq'
    have Hmr := Hmr'
    clear Hmr'
    have Hm := Hm'
    clear Hm'
    have Hnr := Hnr'
    clear Hnr'
    have Hn := Hn'
    clear Hn'
    clear hb
    go_wp2_with fail
    go_ret
    exact ⟨rfl, Hlow.out⟩
end Go.Proofs.Ytpfkhgiiojikbaa
