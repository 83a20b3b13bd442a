/- Several texts in one: LawUSelf. -/
import Derived.Test.YtpfkhgiiojikbaaKUnify6
import Derived.Test.YtpfkhgiiojikbaaKUnify7
import Derived.Test.YtpfkhgiiojikbaaKUnify10
import Derived.Test.YtpfkhgiiojikbaaKUnify12
import Derived.Test.YtpfkhgiiojikbaaKThen16
import Derived.Test.YtpfkhgiiojikbaaKThen14
import Derived.Test.YtpfkhgiiojikbaaKThen2

/-! LawUSelf: laws.FnUnifySelf answers true at every code. -/
namespace Go.Proofs.Ytpfkhgiiojikbaa
open Go.RowKit Go.Deep
attribute [local go_sem ↓] Go.wp_at_zero Go.wp_at_succ

set_option maxRecDepth 100000 in
set_option maxHeartbeats 4000000 in
theorem unifySelf_walk (a0 : Option Addr) (len cap : Nat) (w : World) (hby : Bytes w a0 len) (hlen : len ≤ cap) :
    Calls Try.prog 9 #[.slice a0 len cap] w fun e w' => e = .returned (.bool true) ∧ Below w.heap.size w w' := by
  have HBY := Lib.hid hby
  clear hby
  by_cases hbiglen : 1048576 < len
  · go_enter Try.func9, Try.ntmps9
    go_wp2_with fail
    go_ret
    exact ⟨rfl, Below.refl _ _⟩
  go_enter Try.func9, Try.ntmps9
  go_wp2_with fail
  with_reducible refine (DrawUnifyOf_z a0 len cap _ HBY.out hlen).mono ?_
  rintro e wa ⟨s, v, a, c, k, s2, v2, a2, c2, k2, rfl, ⟨hSk, hZ⟩, ⟨hSk2, hZ2⟩, hb, hl, hl2⟩
  have Hlow := Lib.hid hb
  have HZ := Lib.hid hZ
  have HZ2 := Lib.hid hZ2
  have HL := Lib.hid hl
  have Hm : Hid (Sl wa 0 wa.heap.size a2 k2) := hl2.mono (Nat.zero_le _) (Nat.le_refl _)
  clear hb hl hl2 HBY hZ hZ2
  have hbx : Below wa.heap.size wa (wa.alloc (.cells #[.int .i64 s, .int .i64 v, .slice a (flen k) c] 28)) := box_low _ _
  have Hn : Hid (Tb wa.heap.size s v a c k (wa.alloc (.cells #[.int .i64 s, .int .i64 v, .slice a (flen k) c] 28))) := Tb.new HL.out
  have Hlow' : Hid (Below w.heap.size w (wa.alloc (.cells #[.int .i64 s, .int .i64 v, .slice a (flen k) c] 28))) := below_next Hlow.out hbx
  have Hm' : Hid (Sl (wa.alloc (.cells #[.int .i64 s, .int .i64 v, .slice a (flen k) c] 28)) 0 (wa.alloc (.cells #[.int .i64 s, .int .i64 v, .slice a (flen k) c] 28)).heap.size a2 k2) := Hm.out.next hbx
  clear Hlow Hm
  have Hlow := Hlow'
  clear Hlow'
  have Hm := Hm'
  clear Hm'
  have Hp := Hn
  clear Hn hbx
  clear HL
  have hbx : Below (wa.alloc (.cells #[.int .i64 s, .int .i64 v, .slice a (flen k) c] 28)).heap.size (wa.alloc (.cells #[.int .i64 s, .int .i64 v, .slice a (flen k) c] 28)) ((wa.alloc (.cells #[.int .i64 s, .int .i64 v, .slice a (flen k) c] 28)).alloc (.cells #[.int .i64 s2, .int .i64 v2, .slice a2 (flen k2) c2] 28)) := box_low _ _
  have Hn : Hid (Tb (wa.heap.size + 1) s2 v2 a2 c2 k2 ((wa.alloc (.cells #[.int .i64 s, .int .i64 v, .slice a (flen k) c] 28)).alloc (.cells #[.int .i64 s2, .int .i64 v2, .slice a2 (flen k2) c2] 28))) := (show (wa.alloc (.cells #[.int .i64 s, .int .i64 v, .slice a (flen k) c] 28)).heap.size = (wa.heap.size + 1) from by simp) ▸ Tb.new Hm.out
  have Hlow' : Hid (Below w.heap.size w ((wa.alloc (.cells #[.int .i64 s, .int .i64 v, .slice a (flen k) c] 28)).alloc (.cells #[.int .i64 s2, .int .i64 v2, .slice a2 (flen k2) c2] 28))) := below_next Hlow.out hbx
  have Hm' : Hid (Sl ((wa.alloc (.cells #[.int .i64 s, .int .i64 v, .slice a (flen k) c] 28)).alloc (.cells #[.int .i64 s2, .int .i64 v2, .slice a2 (flen k2) c2] 28)) 0 ((wa.alloc (.cells #[.int .i64 s, .int .i64 v, .slice a (flen k) c] 28)).alloc (.cells #[.int .i64 s2, .int .i64 v2, .slice a2 (flen k2) c2] 28)).heap.size a2 k2) := Hm.out.next hbx
  have Hp' : Hid (Tb wa.heap.size s v a c k ((wa.alloc (.cells #[.int .i64 s, .int .i64 v, .slice a (flen k) c] 28)).alloc (.cells #[.int .i64 s2, .int .i64 v2, .slice a2 (flen k2) c2] 28))) := Hp.out.next hbx
  clear Hlow Hm Hp
  have Hlow := Hlow'
  clear Hlow'
  have Hm := Hm'
  clear Hm'
  have Hp := Hp'
  clear Hp'
  have Ht := Hn
  clear Hn hbx
  clear Hm
  have qp0 := Hp.out.c0
  have qp1 := Hp.out.c1
  have qp2 := Hp.out.c2
  have qt0 := Ht.out.c0
  have qt1 := Ht.out.c1
  have qt2 := Ht.out.c2
  go_wp2_with fail
  with_reducible refine (sUnifyOf_any s v a c k s2 v2 a2 c2 k2 _ Hp.out.sl Ht.out.sl).mono ?_
  rintro e wx1 ⟨Aw, Cw, bw, tw, hdw, rfl, hb, hsw⟩
  have HDw := Lib.hid hdw
  clear hdw
  clear qp0 qp1 qp2 qt0 qt1 qt2
  have Hlow' : Hid (Below w.heap.size w wx1) := below_next Hlow.out hb
  have Hp' : Hid (Tb wa.heap.size s v a c k wx1) := Hp.out.next hb
  have Ht' : Hid (Tb (wa.heap.size + 1) s2 v2 a2 c2 k2 wx1) := Ht.out.next hb
  clear Hlow Hp Ht
  have Hlow := Hlow'
  clear Hlow'
  have Hp := Hp'
  clear Hp'
  have Ht := Ht'
  clear Ht'
  clear hb
  have Hw : Hid (BSl wx1 0 wx1.heap.size Aw bw) := hsw
  clear hsw
  have qp0 := Hp.out.c0
  have qp1 := Hp.out.c1
  have qp2 := Hp.out.c2
  have qt0 := Ht.out.c0
  have qt1 := Ht.out.c1
  have qt2 := Ht.out.c2
  go_wp2_with fail
  with_reducible refine (iUnifyOf_any s v a c k s2 v2 a2 c2 k2 _ Hp.out.sl Ht.out.sl).mono ?_
  rintro e wx2 ⟨Ax, Cx, bx, tx, hdx, rfl, hb, hsx⟩
  rw [HDw.out] at hdx
  simp only [Prod.mk.injEq] at hdx
  obtain ⟨rfl, rfl⟩ := hdx
  clear qp0 qp1 qp2 qt0 qt1 qt2
  have Hlow' : Hid (Below w.heap.size w wx2) := below_next Hlow.out hb
  have Hp' : Hid (Tb wa.heap.size s v a c k wx2) := Hp.out.next hb
  have Ht' : Hid (Tb (wa.heap.size + 1) s2 v2 a2 c2 k2 wx2) := Ht.out.next hb
  have Hw' : Hid (BSl wx2 0 wx2.heap.size Aw bw) := Hw.out.next hb
  clear Hlow Hp Ht Hw
  have Hlow := Hlow'
  clear Hlow'
  have Hp := Hp'
  clear Hp'
  have Ht := Ht'
  clear Ht'
  have Hw := Hw'
  clear Hw'
  clear hb
  have Hx : Hid (BSl wx2 0 wx2.heap.size Ax bw) := hsx
  clear hsx
  have HSM := Lib.hid (un_small HDw.out)
  have eb : (tw != tw) = false := by simp
  have eb2 : (tw == tw) = true := by simp
  go_wp2_with fail
  with_reducible refine (laSubst_same bw Ax Aw Cx Cw _ Hx.out Hw.out (by have := HSM.out.1; omega) HSM.out.2).mono ?_
  rintro e wx3 ⟨rfl, hb⟩
  have Hlow' : Hid (Below w.heap.size w wx3) := below_next Hlow.out hb
  have Hp' : Hid (Tb wa.heap.size s v a c k wx3) := Hp.out.next hb
  have Ht' : Hid (Tb (wa.heap.size + 1) s2 v2 a2 c2 k2 wx3) := Ht.out.next hb
  have Hw' : Hid (BSl wx3 0 wx3.heap.size Aw bw) := Hw.out.next hb
  have Hx' : Hid (BSl wx3 0 wx3.heap.size Ax bw) := Hx.out.next hb
  clear Hlow Hp Ht Hw Hx
  have Hlow := Hlow'
  clear Hlow'
  have Hp := Hp'
  clear Hp'
  have Ht := Ht'
  clear Ht'
  have Hw := Hw'
  clear Hw'
  have Hx := Hx'
  clear Hx'
  clear hb
  cases hok : okW s v k 16 with
  | false =>
    have HOK := Lib.hid hok
    clear hok
    have qp0 := Hp.out.c0
    have qp1 := Hp.out.c1
    have qp2 := Hp.out.c2
    go_wp2_with fail
    with_reducible refine (sTermOk_any s v a c k _ Hp.out.sl).mono ?_
    rw [HOK.out]
    rintro e wx4 ⟨rfl, hb⟩
    clear qp0 qp1 qp2
    have Hlow' : Hid (Below w.heap.size w wx4) := below_next Hlow.out hb
    have Hp' : Hid (Tb wa.heap.size s v a c k wx4) := Hp.out.next hb
    have Ht' : Hid (Tb (wa.heap.size + 1) s2 v2 a2 c2 k2 wx4) := Ht.out.next hb
    have Hw' : Hid (BSl wx4 0 wx4.heap.size Aw bw) := Hw.out.next hb
    have Hx' : Hid (BSl wx4 0 wx4.heap.size Ax bw) := Hx.out.next hb
    clear Hlow Hp Ht Hw Hx
    have Hlow := Hlow'
    clear Hlow'
    have Hp := Hp'
    clear Hp'
    have Ht := Ht'
    clear Ht'
    have Hw := Hw'
    clear Hw'
    have Hx := Hx'
    clear Hx'
    clear hb
    go_wp2_with fail
    with_reducible refine (laSubst_same bw Ax Aw Cx Cw _ Hx.out Hw.out (by have := HSM.out.1; omega) HSM.out.2).mono ?_
    rintro e wx5 ⟨rfl, hb⟩
    have Hlow' : Hid (Below w.heap.size w wx5) := below_next Hlow.out hb
    have Hp' : Hid (Tb wa.heap.size s v a c k wx5) := Hp.out.next hb
    have Ht' : Hid (Tb (wa.heap.size + 1) s2 v2 a2 c2 k2 wx5) := Ht.out.next hb
    have Hw' : Hid (BSl wx5 0 wx5.heap.size Aw bw) := Hw.out.next hb
    have Hx' : Hid (BSl wx5 0 wx5.heap.size Ax bw) := Hx.out.next hb
    clear Hlow Hp Ht Hw Hx
    have Hlow := Hlow'
    clear Hlow'
    have Hp := Hp'
    clear Hp'
    have Ht := Ht'
    clear Ht'
    have Hw := Hw'
    clear Hw'
    have Hx := Hx'
    clear Hx'
    clear hb
    go_wp2_with fail
    go_ret
    exact ⟨rfl, Hlow.out⟩
  | true =>
    have HOK := Lib.hid hok
    clear hok
    have qp0 := Hp.out.c0
    have qp1 := Hp.out.c1
    have qp2 := Hp.out.c2
    go_wp2_with fail
    with_reducible refine (sTermOk_any s v a c k _ Hp.out.sl).mono ?_
    rw [HOK.out]
    rintro e wx4 ⟨rfl, hb⟩
    clear qp0 qp1 qp2
    have Hlow' : Hid (Below w.heap.size w wx4) := below_next Hlow.out hb
    have Hp' : Hid (Tb wa.heap.size s v a c k wx4) := Hp.out.next hb
    have Ht' : Hid (Tb (wa.heap.size + 1) s2 v2 a2 c2 k2 wx4) := Ht.out.next hb
    have Hw' : Hid (BSl wx4 0 wx4.heap.size Aw bw) := Hw.out.next hb
    have Hx' : Hid (BSl wx4 0 wx4.heap.size Ax bw) := Hx.out.next hb
    clear Hlow Hp Ht Hw Hx
    have Hlow := Hlow'
    clear Hlow'
    have Hp := Hp'
    clear Hp'
    have Ht := Ht'
    clear Ht'
    have Hw := Hw'
    clear Hw'
    have Hx := Hx'
    clear Hx'
    clear hb
    have HSF := Lib.hid (un_self HOK.out)
    have qp0 := Hp.out.c0
    have qp1 := Hp.out.c1
    have qp2 := Hp.out.c2
    go_wp2_with fail
    with_reducible refine (iUnifyOf_any s v a c k s v a c k _ Hp.out.sl Hp.out.sl).mono ?_
    rintro e wx5 ⟨Az, Cz, bz, tz, hdz, rfl, hb, hsz⟩
    rw [HSF.out] at hdz
    simp only [Prod.mk.injEq] at hdz
    obtain ⟨rfl, rfl⟩ := hdz
    clear qp0 qp1 qp2
    have Hlow' : Hid (Below w.heap.size w wx5) := below_next Hlow.out hb
    have Hp' : Hid (Tb wa.heap.size s v a c k wx5) := Hp.out.next hb
    have Ht' : Hid (Tb (wa.heap.size + 1) s2 v2 a2 c2 k2 wx5) := Ht.out.next hb
    have Hw' : Hid (BSl wx5 0 wx5.heap.size Aw bw) := Hw.out.next hb
    have Hx' : Hid (BSl wx5 0 wx5.heap.size Ax bw) := Hx.out.next hb
    clear Hlow Hp Ht Hw Hx
    have Hlow := Hlow'
    clear Hlow'
    have Hp := Hp'
    clear Hp'
    have Ht := Ht'
    clear Ht'
    have Hw := Hw'
    clear Hw'
    have Hx := Hx'
    clear Hx'
    clear hb
    have Hz : Hid (BSl wx5 0 wx5.heap.size Az ([] : List Bd)) := hsz
    clear hsz
    go_wp2_with fail
    go_ret
    exact ⟨rfl, Hlow.out⟩
end Go.Proofs.Ytpfkhgiiojikbaa
