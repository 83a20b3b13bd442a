/- Several texts in one: LawPTwice. -/
import Derived.Test.YtlaaihnokoeliabKPla18
import Derived.Test.YtlaaihnokoeliabKPla19
import Derived.Test.YtlaaihnokoeliabKPla15
import Derived.Test.YtlaaihnokoeliabKPla2

/-! LawPTwice: laws.FnPlainTwice answers true at every code. -/
namespace Go.Proofs.Ytlaaihnokoeliab
open Go.RowKit Go.Deep
attribute [local go_sem ↓] Go.wp_at_zero Go.wp_at_succ

set_option maxRecDepth 100000 in
set_option maxHeartbeats 4000000 in
theorem plainTwice_walk (a0 : Option Addr) (len cap : Nat) (w : World) (hby : Bytes w a0 len) (hlen : len ≤ cap) :
    Calls Try.prog 6 #[.slice a0 len cap] w fun e w' => e = .returned (.bool true) ∧ Below w.heap.size w w' := by
  have HBY := Lib.hid hby
  clear hby
  by_cases hbiglen : 1048576 < len
  · go_enter Try.func6, Try.ntmps6
    go_wp2_with fail
    go_ret
    exact ⟨rfl, Below.refl _ _⟩
  go_enter Try.func6, Try.ntmps6
  go_wp2_with fail
  with_reducible refine (DrawTermPlain_any a0 len cap _ HBY.out hlen).mono ?_
  rintro e wa ⟨s, v, a, c, k, rfl, hSk, hb, hl⟩
  have Hlow := Lib.hid hb
  have HL := Lib.hid hl
  clear hb hl HBY
  have hbx : Below wa.heap.size wa (wa.alloc (.cells #[.int .i64 s, .int .i64 v, .slice a (flen k) c] 25)) := box_low _ _
  have Hn : Hid (Tb wa.heap.size s v a c k (wa.alloc (.cells #[.int .i64 s, .int .i64 v, .slice a (flen k) c] 25))) := Tb.new HL.out
  have Hlow' : Hid (Below w.heap.size w (wa.alloc (.cells #[.int .i64 s, .int .i64 v, .slice a (flen k) c] 25))) := below_next Hlow.out hbx
  clear Hlow
  have Hlow := Hlow'
  clear Hlow'
  have Ht := Hn
  clear Hn hbx
  clear HL
  have qt0 := Ht.out.c0
  have qt1 := Ht.out.c1
  have qt2 := Ht.out.c2
  go_wp2_with fail
  with_reducible refine (sTermPlain_any s v a c k _ Ht.out.sl).mono ?_
  rintro e wx1 ⟨aw, cw, Aw, Cw, sw, vw, kw, bw, hdw, rfl, hb, hlw, hsw⟩
  have HDw := Lib.hid hdw
  clear hdw
  clear qt0 qt1 qt2
  have Hlow' : Hid (Below w.heap.size w wx1) := below_next Hlow.out hb
  have Ht' : Hid (Tb wa.heap.size s v a c k wx1) := Ht.out.next hb
  clear Hlow Ht
  have Hlow := Hlow'
  clear Hlow'
  have Ht := Ht'
  clear Ht'
  clear hb
  have Hwr : Hid (BSl wx1 0 wx1.heap.size Aw bw) := hsw
  have Hlw := Lib.hid hlw
  clear hsw hlw
  have hbx : Below wx1.heap.size wx1 (wx1.alloc (.cells #[.int .i64 sw, .int .i64 vw, .slice aw (flen kw) cw] 25)) := box_low _ _
  have Hn : Hid (Tb wx1.heap.size sw vw aw cw kw (wx1.alloc (.cells #[.int .i64 sw, .int .i64 vw, .slice aw (flen kw) cw] 25))) := Tb.new Hlw.out
  have Hlow' : Hid (Below w.heap.size w (wx1.alloc (.cells #[.int .i64 sw, .int .i64 vw, .slice aw (flen kw) cw] 25))) := below_next Hlow.out hbx
  have Ht' : Hid (Tb wa.heap.size s v a c k (wx1.alloc (.cells #[.int .i64 sw, .int .i64 vw, .slice aw (flen kw) cw] 25))) := Ht.out.next hbx
  have Hwr' : Hid (BSl (wx1.alloc (.cells #[.int .i64 sw, .int .i64 vw, .slice aw (flen kw) cw] 25)) 0 (wx1.alloc (.cells #[.int .i64 sw, .int .i64 vw, .slice aw (flen kw) cw] 25)).heap.size Aw bw) := Hwr.out.next hbx
  clear Hlow Ht Hwr
  have Hlow := Hlow'
  clear Hlow'
  have Ht := Ht'
  clear Ht'
  have Hwr := Hwr'
  clear Hwr'
  have Hw := Hn
  clear Hn hbx
  clear Hlw
  have qt0 := Ht.out.c0
  have qt1 := Ht.out.c1
  have qt2 := Ht.out.c2
  go_wp2_with fail
  with_reducible refine (iTermPlain_any s v a c k _ Ht.out.sl).mono ?_
  rintro e wx2 ⟨ax, cx, Ax, Cx, sx, vx, kx, bx, hdx, rfl, hb, hlx, hsx⟩
  rw [HDw.out] at hdx
  simp only [Prod.mk.injEq] at hdx
  obtain ⟨⟨rfl, rfl, rfl⟩, rfl⟩ := hdx
  clear qt0 qt1 qt2
  have Hlow' : Hid (Below w.heap.size w wx2) := below_next Hlow.out hb
  have Ht' : Hid (Tb wa.heap.size s v a c k wx2) := Ht.out.next hb
  have Hwr' : Hid (BSl wx2 0 wx2.heap.size Aw bw) := Hwr.out.next hb
  have Hw' : Hid (Tb wx1.heap.size sw vw aw cw kw wx2) := Hw.out.next hb
  clear Hlow Ht Hwr Hw
  have Hlow := Hlow'
  clear Hlow'
  have Ht := Ht'
  clear Ht'
  have Hwr := Hwr'
  clear Hwr'
  have Hw := Hw'
  clear Hw'
  clear hb
  have Hxr : Hid (BSl wx2 0 wx2.heap.size Ax bw) := hsx
  have Hlx := Lib.hid hlx
  clear hsx hlx
  have hbx : Below wx2.heap.size wx2 (wx2.alloc (.cells #[.int .i64 sw, .int .i64 vw, .slice ax (flen kw) cx] 25)) := box_low _ _
  have Hn : Hid (Tb wx2.heap.size sw vw ax cx kw (wx2.alloc (.cells #[.int .i64 sw, .int .i64 vw, .slice ax (flen kw) cx] 25))) := Tb.new Hlx.out
  have Hlow' : Hid (Below w.heap.size w (wx2.alloc (.cells #[.int .i64 sw, .int .i64 vw, .slice ax (flen kw) cx] 25))) := below_next Hlow.out hbx
  have Ht' : Hid (Tb wa.heap.size s v a c k (wx2.alloc (.cells #[.int .i64 sw, .int .i64 vw, .slice ax (flen kw) cx] 25))) := Ht.out.next hbx
  have Hwr' : Hid (BSl (wx2.alloc (.cells #[.int .i64 sw, .int .i64 vw, .slice ax (flen kw) cx] 25)) 0 (wx2.alloc (.cells #[.int .i64 sw, .int .i64 vw, .slice ax (flen kw) cx] 25)).heap.size Aw bw) := Hwr.out.next hbx
  have Hw' : Hid (Tb wx1.heap.size sw vw aw cw kw (wx2.alloc (.cells #[.int .i64 sw, .int .i64 vw, .slice ax (flen kw) cx] 25))) := Hw.out.next hbx
  have Hxr' : Hid (BSl (wx2.alloc (.cells #[.int .i64 sw, .int .i64 vw, .slice ax (flen kw) cx] 25)) 0 (wx2.alloc (.cells #[.int .i64 sw, .int .i64 vw, .slice ax (flen kw) cx] 25)).heap.size Ax bw) := Hxr.out.next hbx
  clear Hlow Ht Hwr Hw Hxr
  have Hlow := Hlow'
  clear Hlow'
  have Ht := Ht'
  clear Ht'
  have Hwr := Hwr'
  clear Hwr'
  have Hw := Hw'
  clear Hw'
  have Hxr := Hxr'
  clear Hxr'
  have Hx := Hn
  clear Hn hbx
  clear Hlx
  have HSM := Lib.hid (plR_small HDw.out)
  cases hok : okW s v k 16 with
  | false =>
    have HOK := Lib.hid hok
    clear hok
    have qx0 := Hx.out.c0
    have qx1 := Hx.out.c1
    have qx2 := Hx.out.c2
    go_wp2_with fail
    with_reducible refine (iTermPlain_any sw vw ax cx kw _ Hx.out.sl).mono ?_
    rintro e wx3 ⟨az, cz, Az, Cz, sz, vz, kz, bz, hdz, rfl, hb, hlz, hsz⟩
    have HDz := Lib.hid hdz
    clear hdz
    clear qx0 qx1 qx2
    have Hlow' : Hid (Below w.heap.size w wx3) := below_next Hlow.out hb
    have Ht' : Hid (Tb wa.heap.size s v a c k wx3) := Ht.out.next hb
    have Hwr' : Hid (BSl wx3 0 wx3.heap.size Aw bw) := Hwr.out.next hb
    have Hw' : Hid (Tb wx1.heap.size sw vw aw cw kw wx3) := Hw.out.next hb
    have Hxr' : Hid (BSl wx3 0 wx3.heap.size Ax bw) := Hxr.out.next hb
    have Hx' : Hid (Tb wx2.heap.size sw vw ax cx kw wx3) := Hx.out.next hb
    clear Hlow Ht Hwr Hw Hxr Hx
    have Hlow := Hlow'
    clear Hlow'
    have Ht := Ht'
    clear Ht'
    have Hwr := Hwr'
    clear Hwr'
    have Hw := Hw'
    clear Hw'
    have Hxr := Hxr'
    clear Hxr'
    have Hx := Hx'
    clear Hx'
    clear hb
    have Hzr : Hid (BSl wx3 0 wx3.heap.size Az bz) := hsz
    have Hlz := Lib.hid hlz
    clear hsz hlz
    have hbx : Below wx3.heap.size wx3 (wx3.alloc (.cells #[.int .i64 sz, .int .i64 vz, .slice az (flen kz) cz] 25)) := box_low _ _
    have Hn : Hid (Tb wx3.heap.size sz vz az cz kz (wx3.alloc (.cells #[.int .i64 sz, .int .i64 vz, .slice az (flen kz) cz] 25))) := Tb.new Hlz.out
    have Hlow' : Hid (Below w.heap.size w (wx3.alloc (.cells #[.int .i64 sz, .int .i64 vz, .slice az (flen kz) cz] 25))) := below_next Hlow.out hbx
    have Ht' : Hid (Tb wa.heap.size s v a c k (wx3.alloc (.cells #[.int .i64 sz, .int .i64 vz, .slice az (flen kz) cz] 25))) := Ht.out.next hbx
    have Hwr' : Hid (BSl (wx3.alloc (.cells #[.int .i64 sz, .int .i64 vz, .slice az (flen kz) cz] 25)) 0 (wx3.alloc (.cells #[.int .i64 sz, .int .i64 vz, .slice az (flen kz) cz] 25)).heap.size Aw bw) := Hwr.out.next hbx
    have Hw' : Hid (Tb wx1.heap.size sw vw aw cw kw (wx3.alloc (.cells #[.int .i64 sz, .int .i64 vz, .slice az (flen kz) cz] 25))) := Hw.out.next hbx
    have Hxr' : Hid (BSl (wx3.alloc (.cells #[.int .i64 sz, .int .i64 vz, .slice az (flen kz) cz] 25)) 0 (wx3.alloc (.cells #[.int .i64 sz, .int .i64 vz, .slice az (flen kz) cz] 25)).heap.size Ax bw) := Hxr.out.next hbx
    have Hx' : Hid (Tb wx2.heap.size sw vw ax cx kw (wx3.alloc (.cells #[.int .i64 sz, .int .i64 vz, .slice az (flen kz) cz] 25))) := Hx.out.next hbx
    have Hzr' : Hid (BSl (wx3.alloc (.cells #[.int .i64 sz, .int .i64 vz, .slice az (flen kz) cz] 25)) 0 (wx3.alloc (.cells #[.int .i64 sz, .int .i64 vz, .slice az (flen kz) cz] 25)).heap.size Az bz) := Hzr.out.next hbx
    clear Hlow Ht Hwr Hw Hxr Hx Hzr
    have Hlow := Hlow'
    clear Hlow'
    have Ht := Ht'
    clear Ht'
    have Hwr := Hwr'
    clear Hwr'
    have Hw := Hw'
    clear Hw'
    have Hxr := Hxr'
    clear Hxr'
    have Hx := Hx'
    clear Hx'
    have Hzr := Hzr'
    clear Hzr'
    have Hz := Hn
    clear Hn hbx
    clear Hlz
    have qx0 := Hx.out.c0
    have qx1 := Hx.out.c1
    have qx2 := Hx.out.c2
    have qw0 := Hw.out.c0
    have qw1 := Hw.out.c1
    have qw2 := Hw.out.c2
    go_wp2_with fail
    with_reducible refine (laTerm_same (fsz kw) sw vw ax aw cx cw kw _ Hx.out.sl Hw.out.sl (Nat.le_refl _) (by have := HSM.out.1; omega)).mono ?_
    rintro e wx4 ⟨rfl, hb⟩
    clear qx0 qx1 qx2 qw0 qw1 qw2
    have Hlow' : Hid (Below w.heap.size w wx4) := below_next Hlow.out hb
    have Ht' : Hid (Tb wa.heap.size s v a c k wx4) := Ht.out.next hb
    have Hwr' : Hid (BSl wx4 0 wx4.heap.size Aw bw) := Hwr.out.next hb
    have Hw' : Hid (Tb wx1.heap.size sw vw aw cw kw wx4) := Hw.out.next hb
    have Hxr' : Hid (BSl wx4 0 wx4.heap.size Ax bw) := Hxr.out.next hb
    have Hx' : Hid (Tb wx2.heap.size sw vw ax cx kw wx4) := Hx.out.next hb
    have Hzr' : Hid (BSl wx4 0 wx4.heap.size Az bz) := Hzr.out.next hb
    have Hz' : Hid (Tb wx3.heap.size sz vz az cz kz wx4) := Hz.out.next hb
    clear Hlow Ht Hwr Hw Hxr Hx Hzr Hz
    have Hlow := Hlow'
    clear Hlow'
    have Ht := Ht'
    clear Ht'
    have Hwr := Hwr'
    clear Hwr'
    have Hw := Hw'
    clear Hw'
    have Hxr := Hxr'
    clear Hxr'
    have Hx := Hx'
    clear Hx'
    have Hzr := Hzr'
    clear Hzr'
    have Hz := Hz'
    clear Hz'
    clear hb
    go_wp2_with fail
    with_reducible refine (laSubst_same bw Ax Aw Cx Cw _ Hxr.out Hwr.out (by have := HSM.out.2.1; omega) HSM.out.2.2).mono ?_
    rintro e wx5 ⟨rfl, hb⟩
    have Hlow' : Hid (Below w.heap.size w wx5) := below_next Hlow.out hb
    have Ht' : Hid (Tb wa.heap.size s v a c k wx5) := Ht.out.next hb
    have Hwr' : Hid (BSl wx5 0 wx5.heap.size Aw bw) := Hwr.out.next hb
    have Hw' : Hid (Tb wx1.heap.size sw vw aw cw kw wx5) := Hw.out.next hb
    have Hxr' : Hid (BSl wx5 0 wx5.heap.size Ax bw) := Hxr.out.next hb
    have Hx' : Hid (Tb wx2.heap.size sw vw ax cx kw wx5) := Hx.out.next hb
    have Hzr' : Hid (BSl wx5 0 wx5.heap.size Az bz) := Hzr.out.next hb
    have Hz' : Hid (Tb wx3.heap.size sz vz az cz kz wx5) := Hz.out.next hb
    clear Hlow Ht Hwr Hw Hxr Hx Hzr Hz
    have Hlow := Hlow'
    clear Hlow'
    have Ht := Ht'
    clear Ht'
    have Hwr := Hwr'
    clear Hwr'
    have Hw := Hw'
    clear Hw'
    have Hxr := Hxr'
    clear Hxr'
    have Hx := Hx'
    clear Hx'
    have Hzr := Hzr'
    clear Hzr'
    have Hz := Hz'
    clear Hz'
    clear hb
    have qt0 := Ht.out.c0
    have qt1 := Ht.out.c1
    have qt2 := Ht.out.c2
    go_wp2_with fail
    with_reducible refine (sTermOk_any s v a c k _ Ht.out.sl).mono ?_
    rw [HOK.out]
    rintro e wx6 ⟨rfl, hb⟩
    clear qt0 qt1 qt2
    have Hlow' : Hid (Below w.heap.size w wx6) := below_next Hlow.out hb
    have Ht' : Hid (Tb wa.heap.size s v a c k wx6) := Ht.out.next hb
    have Hwr' : Hid (BSl wx6 0 wx6.heap.size Aw bw) := Hwr.out.next hb
    have Hw' : Hid (Tb wx1.heap.size sw vw aw cw kw wx6) := Hw.out.next hb
    have Hxr' : Hid (BSl wx6 0 wx6.heap.size Ax bw) := Hxr.out.next hb
    have Hx' : Hid (Tb wx2.heap.size sw vw ax cx kw wx6) := Hx.out.next hb
    have Hzr' : Hid (BSl wx6 0 wx6.heap.size Az bz) := Hzr.out.next hb
    have Hz' : Hid (Tb wx3.heap.size sz vz az cz kz wx6) := Hz.out.next hb
    clear Hlow Ht Hwr Hw Hxr Hx Hzr Hz
    have Hlow := Hlow'
    clear Hlow'
    have Ht := Ht'
    clear Ht'
    have Hwr := Hwr'
    clear Hwr'
    have Hw := Hw'
    clear Hw'
    have Hxr := Hxr'
    clear Hxr'
    have Hx := Hx'
    clear Hx'
    have Hzr := Hzr'
    clear Hzr'
    have Hz := Hz'
    clear Hz'
    clear hb
    go_wp2_with fail
    go_ret
    exact ⟨rfl, Hlow.out⟩
  | true =>
    have HOK := Lib.hid hok
    have HTW := Lib.hid (plain_twice HDw.out hok).1
    clear hok
    have qx0 := Hx.out.c0
    have qx1 := Hx.out.c1
    have qx2 := Hx.out.c2
    go_wp2_with fail
    with_reducible refine (iTermPlain_any sw vw ax cx kw _ Hx.out.sl).mono ?_
    rintro e wx3 ⟨az, cz, Az, Cz, sz, vz, kz, bz, hdz, rfl, hb, hlz, hsz⟩
    rw [HTW.out] at hdz
    simp only [Prod.mk.injEq] at hdz
    obtain ⟨⟨rfl, rfl, rfl⟩, rfl⟩ := hdz
    clear qx0 qx1 qx2
    have Hlow' : Hid (Below w.heap.size w wx3) := below_next Hlow.out hb
    have Ht' : Hid (Tb wa.heap.size s v a c k wx3) := Ht.out.next hb
    have Hwr' : Hid (BSl wx3 0 wx3.heap.size Aw bw) := Hwr.out.next hb
    have Hw' : Hid (Tb wx1.heap.size sw vw aw cw kw wx3) := Hw.out.next hb
    have Hxr' : Hid (BSl wx3 0 wx3.heap.size Ax bw) := Hxr.out.next hb
    have Hx' : Hid (Tb wx2.heap.size sw vw ax cx kw wx3) := Hx.out.next hb
    clear Hlow Ht Hwr Hw Hxr Hx
    have Hlow := Hlow'
    clear Hlow'
    have Ht := Ht'
    clear Ht'
    have Hwr := Hwr'
    clear Hwr'
    have Hw := Hw'
    clear Hw'
    have Hxr := Hxr'
    clear Hxr'
    have Hx := Hx'
    clear Hx'
    clear hb
    have Hzr : Hid (BSl wx3 0 wx3.heap.size Az (nms sw vw kw)) := hsz
    have Hlz := Lib.hid hlz
    clear hsz hlz
    have hbx : Below wx3.heap.size wx3 (wx3.alloc (.cells #[.int .i64 sw, .int .i64 vw, .slice az (flen kw) cz] 25)) := box_low _ _
    have Hn : Hid (Tb wx3.heap.size sw vw az cz kw (wx3.alloc (.cells #[.int .i64 sw, .int .i64 vw, .slice az (flen kw) cz] 25))) := Tb.new Hlz.out
    have Hlow' : Hid (Below w.heap.size w (wx3.alloc (.cells #[.int .i64 sw, .int .i64 vw, .slice az (flen kw) cz] 25))) := below_next Hlow.out hbx
    have Ht' : Hid (Tb wa.heap.size s v a c k (wx3.alloc (.cells #[.int .i64 sw, .int .i64 vw, .slice az (flen kw) cz] 25))) := Ht.out.next hbx
    have Hwr' : Hid (BSl (wx3.alloc (.cells #[.int .i64 sw, .int .i64 vw, .slice az (flen kw) cz] 25)) 0 (wx3.alloc (.cells #[.int .i64 sw, .int .i64 vw, .slice az (flen kw) cz] 25)).heap.size Aw bw) := Hwr.out.next hbx
    have Hw' : Hid (Tb wx1.heap.size sw vw aw cw kw (wx3.alloc (.cells #[.int .i64 sw, .int .i64 vw, .slice az (flen kw) cz] 25))) := Hw.out.next hbx
    have Hxr' : Hid (BSl (wx3.alloc (.cells #[.int .i64 sw, .int .i64 vw, .slice az (flen kw) cz] 25)) 0 (wx3.alloc (.cells #[.int .i64 sw, .int .i64 vw, .slice az (flen kw) cz] 25)).heap.size Ax bw) := Hxr.out.next hbx
    have Hx' : Hid (Tb wx2.heap.size sw vw ax cx kw (wx3.alloc (.cells #[.int .i64 sw, .int .i64 vw, .slice az (flen kw) cz] 25))) := Hx.out.next hbx
    have Hzr' : Hid (BSl (wx3.alloc (.cells #[.int .i64 sw, .int .i64 vw, .slice az (flen kw) cz] 25)) 0 (wx3.alloc (.cells #[.int .i64 sw, .int .i64 vw, .slice az (flen kw) cz] 25)).heap.size Az (nms sw vw kw)) := Hzr.out.next hbx
    clear Hlow Ht Hwr Hw Hxr Hx Hzr
    have Hlow := Hlow'
    clear Hlow'
    have Ht := Ht'
    clear Ht'
    have Hwr := Hwr'
    clear Hwr'
    have Hw := Hw'
    clear Hw'
    have Hxr := Hxr'
    clear Hxr'
    have Hx := Hx'
    clear Hx'
    have Hzr := Hzr'
    clear Hzr'
    have Hz := Hn
    clear Hn hbx
    clear Hlz
    have qx0 := Hx.out.c0
    have qx1 := Hx.out.c1
    have qx2 := Hx.out.c2
    have qw0 := Hw.out.c0
    have qw1 := Hw.out.c1
    have qw2 := Hw.out.c2
    go_wp2_with fail
    with_reducible refine (laTerm_same (fsz kw) sw vw ax aw cx cw kw _ Hx.out.sl Hw.out.sl (Nat.le_refl _) (by have := HSM.out.1; omega)).mono ?_
    rintro e wx4 ⟨rfl, hb⟩
    clear qx0 qx1 qx2 qw0 qw1 qw2
    have Hlow' : Hid (Below w.heap.size w wx4) := below_next Hlow.out hb
    have Ht' : Hid (Tb wa.heap.size s v a c k wx4) := Ht.out.next hb
    have Hwr' : Hid (BSl wx4 0 wx4.heap.size Aw bw) := Hwr.out.next hb
    have Hw' : Hid (Tb wx1.heap.size sw vw aw cw kw wx4) := Hw.out.next hb
    have Hxr' : Hid (BSl wx4 0 wx4.heap.size Ax bw) := Hxr.out.next hb
    have Hx' : Hid (Tb wx2.heap.size sw vw ax cx kw wx4) := Hx.out.next hb
    have Hzr' : Hid (BSl wx4 0 wx4.heap.size Az (nms sw vw kw)) := Hzr.out.next hb
    have Hz' : Hid (Tb wx3.heap.size sw vw az cz kw wx4) := Hz.out.next hb
    clear Hlow Ht Hwr Hw Hxr Hx Hzr Hz
    have Hlow := Hlow'
    clear Hlow'
    have Ht := Ht'
    clear Ht'
    have Hwr := Hwr'
    clear Hwr'
    have Hw := Hw'
    clear Hw'
    have Hxr := Hxr'
    clear Hxr'
    have Hx := Hx'
    clear Hx'
    have Hzr := Hzr'
    clear Hzr'
    have Hz := Hz'
    clear Hz'
    clear hb
    go_wp2_with fail
    with_reducible refine (laSubst_same bw Ax Aw Cx Cw _ Hxr.out Hwr.out (by have := HSM.out.2.1; omega) HSM.out.2.2).mono ?_
    rintro e wx5 ⟨rfl, hb⟩
    have Hlow' : Hid (Below w.heap.size w wx5) := below_next Hlow.out hb
    have Ht' : Hid (Tb wa.heap.size s v a c k wx5) := Ht.out.next hb
    have Hwr' : Hid (BSl wx5 0 wx5.heap.size Aw bw) := Hwr.out.next hb
    have Hw' : Hid (Tb wx1.heap.size sw vw aw cw kw wx5) := Hw.out.next hb
    have Hxr' : Hid (BSl wx5 0 wx5.heap.size Ax bw) := Hxr.out.next hb
    have Hx' : Hid (Tb wx2.heap.size sw vw ax cx kw wx5) := Hx.out.next hb
    have Hzr' : Hid (BSl wx5 0 wx5.heap.size Az (nms sw vw kw)) := Hzr.out.next hb
    have Hz' : Hid (Tb wx3.heap.size sw vw az cz kw wx5) := Hz.out.next hb
    clear Hlow Ht Hwr Hw Hxr Hx Hzr Hz
    have Hlow := Hlow'
    clear Hlow'
    have Ht := Ht'
    clear Ht'
    have Hwr := Hwr'
    clear Hwr'
    have Hw := Hw'
    clear Hw'
    have Hxr := Hxr'
    clear Hxr'
    have Hx := Hx'
    clear Hx'
    have Hzr := Hzr'
    clear Hzr'
    have Hz := Hz'
    clear Hz'
    clear hb
    have qt0 := Ht.out.c0
    have qt1 := Ht.out.c1
    have qt2 := Ht.out.c2
    go_wp2_with fail
    with_reducible refine (sTermOk_any s v a c k _ Ht.out.sl).mono ?_
    rw [HOK.out]
    rintro e wx6 ⟨rfl, hb⟩
    clear qt0 qt1 qt2
    have Hlow' : Hid (Below w.heap.size w wx6) := below_next Hlow.out hb
    have Ht' : Hid (Tb wa.heap.size s v a c k wx6) := Ht.out.next hb
    have Hwr' : Hid (BSl wx6 0 wx6.heap.size Aw bw) := Hwr.out.next hb
    have Hw' : Hid (Tb wx1.heap.size sw vw aw cw kw wx6) := Hw.out.next hb
    have Hxr' : Hid (BSl wx6 0 wx6.heap.size Ax bw) := Hxr.out.next hb
    have Hx' : Hid (Tb wx2.heap.size sw vw ax cx kw wx6) := Hx.out.next hb
    have Hzr' : Hid (BSl wx6 0 wx6.heap.size Az (nms sw vw kw)) := Hzr.out.next hb
    have Hz' : Hid (Tb wx3.heap.size sw vw az cz kw wx6) := Hz.out.next hb
    clear Hlow Ht Hwr Hw Hxr Hx Hzr Hz
    have Hlow := Hlow'
    clear Hlow'
    have Ht := Ht'
    clear Ht'
    have Hwr := Hwr'
    clear Hwr'
    have Hw := Hw'
    clear Hw'
    have Hxr := Hxr'
    clear Hxr'
    have Hx := Hx'
    clear Hx'
    have Hzr := Hzr'
    clear Hzr'
    have Hz := Hz'
    clear Hz'
    clear hb
    have qz0 := Hz.out.c0
    have qz1 := Hz.out.c1
    have qz2 := Hz.out.c2
    have qx0 := Hx.out.c0
    have qx1 := Hx.out.c1
    have qx2 := Hx.out.c2
    go_wp2_with fail
    with_reducible refine (laTerm_same (fsz kw) sw vw az ax cz cx kw _ Hz.out.sl Hx.out.sl (Nat.le_refl _) (by have := HSM.out.1; omega)).mono ?_
    rintro e wx7 ⟨rfl, hb⟩
    clear qz0 qz1 qz2 qx0 qx1 qx2
    have Hlow' : Hid (Below w.heap.size w wx7) := below_next Hlow.out hb
    have Ht' : Hid (Tb wa.heap.size s v a c k wx7) := Ht.out.next hb
    have Hwr' : Hid (BSl wx7 0 wx7.heap.size Aw bw) := Hwr.out.next hb
    have Hw' : Hid (Tb wx1.heap.size sw vw aw cw kw wx7) := Hw.out.next hb
    have Hxr' : Hid (BSl wx7 0 wx7.heap.size Ax bw) := Hxr.out.next hb
    have Hx' : Hid (Tb wx2.heap.size sw vw ax cx kw wx7) := Hx.out.next hb
    have Hzr' : Hid (BSl wx7 0 wx7.heap.size Az (nms sw vw kw)) := Hzr.out.next hb
    have Hz' : Hid (Tb wx3.heap.size sw vw az cz kw wx7) := Hz.out.next hb
    clear Hlow Ht Hwr Hw Hxr Hx Hzr Hz
    have Hlow := Hlow'
    clear Hlow'
    have Ht := Ht'
    clear Ht'
    have Hwr := Hwr'
    clear Hwr'
    have Hw := Hw'
    clear Hw'
    have Hxr := Hxr'
    clear Hxr'
    have Hx := Hx'
    clear Hx'
    have Hzr := Hzr'
    clear Hzr'
    have Hz := Hz'
    clear Hz'
    clear hb
    go_wp2_with fail
    go_ret
    exact ⟨rfl, Hlow.out⟩
end Go.Proofs.Ytlaaihnokoeliab
