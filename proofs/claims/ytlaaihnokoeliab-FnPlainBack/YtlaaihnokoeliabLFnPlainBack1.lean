/- Several texts in one: LawPBack. -/
import Derived.Test.YtlaaihnokoeliabKPla18
import Derived.Test.YtlaaihnokoeliabKPla19
import Derived.Test.YtlaaihnokoeliabKPla15
import Derived.Test.YtlaaihnokoeliabKPla2
import Derived.Test.YtlaaihnokoeliabKPla8
import Derived.Test.YtlaaihnokoeliabKPla17

/-! LawPBack: laws.FnPlainBack answers true at every code. -/
namespace Go.Proofs.Ytlaaihnokoeliab
open Go.RowKit Go.Deep
attribute [local go_sem ↓] Go.wp_at_zero Go.wp_at_succ

set_option maxRecDepth 100000 in
set_option maxHeartbeats 4000000 in
theorem plainBack_walk (a0 : Option Addr) (len cap : Nat) (w : World) (hby : Bytes w a0 len) (hlen : len ≤ cap) :
    Calls Try.prog 3 #[.slice a0 len cap] w fun e w' => e = .returned (.bool true) ∧ Below w.heap.size w w' := by
  have HBY := Lib.hid hby
  clear hby
  by_cases hbiglen : 1048576 < len
  · go_enter Try.func3, Try.ntmps3
    go_wp2_with fail
    go_ret
    exact ⟨rfl, Below.refl _ _⟩
  go_enter Try.func3, Try.ntmps3
  go_wp2_with fail
  with_reducible refine (DrawTermPlain_any a0 len cap _ HBY.out hlen).mono ?_
  rintro e wa ⟨s, v, a, c, k, rfl, hSk, hb, hl⟩
  have Hlow := Lib.hid hb
  have HL := Lib.hid hl
  clear hb hl HBY
  have hbx : Below wa.heap.size wa (wa.alloc (.cells #[.int .i64 s, .int .i64 v, .slice a (flen k) c] 25)) := box_low _ _
  have Hn : Hid (Tb wa.heap.size s v a c k (wa.alloc (.cells #[.int .i64 s, .int .i64 v, .slice a (flen k) c] 25))) := Tb.new HL.out
  have Hlow' : Hid (Below w.heap.size w (wa.alloc (.cells #[.int .i64 s, .int .i64 v, .slice a (flen k) c] 25))) := below_next Hlow.out hbx
  clear Hlow
  have Hlow := Hlow'
  clear Hlow'
  have Ht := Hn
  clear Hn hbx
  clear HL
  have qt0 := Ht.out.c0
  have qt1 := Ht.out.c1
  have qt2 := Ht.out.c2
  go_wp2_with fail
  with_reducible refine (sTermPlain_any s v a c k _ Ht.out.sl).mono ?_
  rintro e wx1 ⟨aw, cw, Aw, Cw, sw, vw, kw, bw, hdw, rfl, hb, hlw, hsw⟩
  have HDw := Lib.hid hdw
  clear hdw
  clear qt0 qt1 qt2
  have Hlow' : Hid (Below w.heap.size w wx1) := below_next Hlow.out hb
  have Ht' : Hid (Tb wa.heap.size s v a c k wx1) := Ht.out.next hb
  clear Hlow Ht
  have Hlow := Hlow'
  clear Hlow'
  have Ht := Ht'
  clear Ht'
  clear hb
  have Hwr : Hid (BSl wx1 0 wx1.heap.size Aw bw) := hsw
  have Hlw := Lib.hid hlw
  clear hsw hlw
  have hbx : Below wx1.heap.size wx1 (wx1.alloc (.cells #[.int .i64 sw, .int .i64 vw, .slice aw (flen kw) cw] 25)) := box_low _ _
  have Hn : Hid (Tb wx1.heap.size sw vw aw cw kw (wx1.alloc (.cells #[.int .i64 sw, .int .i64 vw, .slice aw (flen kw) cw] 25))) := Tb.new Hlw.out
  have Hlow' : Hid (Below w.heap.size w (wx1.alloc (.cells #[.int .i64 sw, .int .i64 vw, .slice aw (flen kw) cw] 25))) := below_next Hlow.out hbx
  have Ht' : Hid (Tb wa.heap.size s v a c k (wx1.alloc (.cells #[.int .i64 sw, .int .i64 vw, .slice aw (flen kw) cw] 25))) := Ht.out.next hbx
  have Hwr' : Hid (BSl (wx1.alloc (.cells #[.int .i64 sw, .int .i64 vw, .slice aw (flen kw) cw] 25)) 0 (wx1.alloc (.cells #[.int .i64 sw, .int .i64 vw, .slice aw (flen kw) cw] 25)).heap.size Aw bw) := Hwr.out.next hbx
  clear Hlow Ht Hwr
  have Hlow := Hlow'
  clear Hlow'
  have Ht := Ht'
  clear Ht'
  have Hwr := Hwr'
  clear Hwr'
  have Hw := Hn
  clear Hn hbx
  clear Hlw
  have qt0 := Ht.out.c0
  have qt1 := Ht.out.c1
  have qt2 := Ht.out.c2
  go_wp2_with fail
  with_reducible refine (iTermPlain_any s v a c k _ Ht.out.sl).mono ?_
  rintro e wx2 ⟨ax, cx, Ax, Cx, sx, vx, kx, bx, hdx, rfl, hb, hlx, hsx⟩
  rw [HDw.out] at hdx
  simp only [Prod.mk.injEq] at hdx
  obtain ⟨⟨rfl, rfl, rfl⟩, rfl⟩ := hdx
  clear qt0 qt1 qt2
  have Hlow' : Hid (Below w.heap.size w wx2) := below_next Hlow.out hb
  have Ht' : Hid (Tb wa.heap.size s v a c k wx2) := Ht.out.next hb
  have Hwr' : Hid (BSl wx2 0 wx2.heap.size Aw bw) := Hwr.out.next hb
  have Hw' : Hid (Tb wx1.heap.size sw vw aw cw kw wx2) := Hw.out.next hb
  clear Hlow Ht Hwr Hw
  have Hlow := Hlow'
  clear Hlow'
  have Ht := Ht'
  clear Ht'
  have Hwr := Hwr'
  clear Hwr'
  have Hw := Hw'
  clear Hw'
  clear hb
  have Hxr : Hid (BSl wx2 0 wx2.heap.size Ax bw) := hsx
  have Hlx := Lib.hid hlx
  clear hsx hlx
  have hbx : Below wx2.heap.size wx2 (wx2.alloc (.cells #[.int .i64 sw, .int .i64 vw, .slice ax (flen kw) cx] 25)) := box_low _ _
  have Hn : Hid (Tb wx2.heap.size sw vw ax cx kw (wx2.alloc (.cells #[.int .i64 sw, .int .i64 vw, .slice ax (flen kw) cx] 25))) := Tb.new Hlx.out
  have Hlow' : Hid (Below w.heap.size w (wx2.alloc (.cells #[.int .i64 sw, .int .i64 vw, .slice ax (flen kw) cx] 25))) := below_next Hlow.out hbx
  have Ht' : Hid (Tb wa.heap.size s v a c k (wx2.alloc (.cells #[.int .i64 sw, .int .i64 vw, .slice ax (flen kw) cx] 25))) := Ht.out.next hbx
  have Hwr' : Hid (BSl (wx2.alloc (.cells #[.int .i64 sw, .int .i64 vw, .slice ax (flen kw) cx] 25)) 0 (wx2.alloc (.cells #[.int .i64 sw, .int .i64 vw, .slice ax (flen kw) cx] 25)).heap.size Aw bw) := Hwr.out.next hbx
  have Hw' : Hid (Tb wx1.heap.size sw vw aw cw kw (wx2.alloc (.cells #[.int .i64 sw, .int .i64 vw, .slice ax (flen kw) cx] 25))) := Hw.out.next hbx
  have Hxr' : Hid (BSl (wx2.alloc (.cells #[.int .i64 sw, .int .i64 vw, .slice ax (flen kw) cx] 25)) 0 (wx2.alloc (.cells #[.int .i64 sw, .int .i64 vw, .slice ax (flen kw) cx] 25)).heap.size Ax bw) := Hxr.out.next hbx
  clear Hlow Ht Hwr Hw Hxr
  have Hlow := Hlow'
  clear Hlow'
  have Ht := Ht'
  clear Ht'
  have Hwr := Hwr'
  clear Hwr'
  have Hw := Hw'
  clear Hw'
  have Hxr := Hxr'
  clear Hxr'
  have Hx := Hn
  clear Hn hbx
  clear Hlx
  have HSM := Lib.hid (plR_small HDw.out)
  have qx0 := Hx.out.c0
  have qx1 := Hx.out.c1
  have qx2 := Hx.out.c2
  have qw0 := Hw.out.c0
  have qw1 := Hw.out.c1
  have qw2 := Hw.out.c2
  go_wp2_with fail
  with_reducible refine (laTerm_same (fsz kw) sw vw ax aw cx cw kw _ Hx.out.sl Hw.out.sl (Nat.le_refl _) (by have := HSM.out.1; omega)).mono ?_
  rintro e wx3 ⟨rfl, hb⟩
  clear qx0 qx1 qx2 qw0 qw1 qw2
  have Hlow' : Hid (Below w.heap.size w wx3) := below_next Hlow.out hb
  have Ht' : Hid (Tb wa.heap.size s v a c k wx3) := Ht.out.next hb
  have Hwr' : Hid (BSl wx3 0 wx3.heap.size Aw bw) := Hwr.out.next hb
  have Hw' : Hid (Tb wx1.heap.size sw vw aw cw kw wx3) := Hw.out.next hb
  have Hxr' : Hid (BSl wx3 0 wx3.heap.size Ax bw) := Hxr.out.next hb
  have Hx' : Hid (Tb wx2.heap.size sw vw ax cx kw wx3) := Hx.out.next hb
  clear Hlow Ht Hwr Hw Hxr Hx
  have Hlow := Hlow'
  clear Hlow'
  have Ht := Ht'
  clear Ht'
  have Hwr := Hwr'
  clear Hwr'
  have Hw := Hw'
  clear Hw'
  have Hxr := Hxr'
  clear Hxr'
  have Hx := Hx'
  clear Hx'
  clear hb
  go_wp2_with fail
  with_reducible refine (laSubst_same bw Ax Aw Cx Cw _ Hxr.out Hwr.out (by have := HSM.out.2.1; omega) HSM.out.2.2).mono ?_
  rintro e wx4 ⟨rfl, hb⟩
  have Hlow' : Hid (Below w.heap.size w wx4) := below_next Hlow.out hb
  have Ht' : Hid (Tb wa.heap.size s v a c k wx4) := Ht.out.next hb
  have Hwr' : Hid (BSl wx4 0 wx4.heap.size Aw bw) := Hwr.out.next hb
  have Hw' : Hid (Tb wx1.heap.size sw vw aw cw kw wx4) := Hw.out.next hb
  have Hxr' : Hid (BSl wx4 0 wx4.heap.size Ax bw) := Hxr.out.next hb
  have Hx' : Hid (Tb wx2.heap.size sw vw ax cx kw wx4) := Hx.out.next hb
  clear Hlow Ht Hwr Hw Hxr Hx
  have Hlow := Hlow'
  clear Hlow'
  have Ht := Ht'
  clear Ht'
  have Hwr := Hwr'
  clear Hwr'
  have Hw := Hw'
  clear Hw'
  have Hxr := Hxr'
  clear Hxr'
  have Hx := Hx'
  clear Hx'
  clear hb
  cases hok : okW s v k 16 with
  | false =>
    have HOK := Lib.hid hok
    clear hok
    have qt0 := Ht.out.c0
    have qt1 := Ht.out.c1
    have qt2 := Ht.out.c2
    go_wp2_with fail
    with_reducible refine (sTermOk_any s v a c k _ Ht.out.sl).mono ?_
    rw [HOK.out]
    rintro e wx5 ⟨rfl, hb⟩
    clear qt0 qt1 qt2
    have Hlow' : Hid (Below w.heap.size w wx5) := below_next Hlow.out hb
    have Ht' : Hid (Tb wa.heap.size s v a c k wx5) := Ht.out.next hb
    have Hwr' : Hid (BSl wx5 0 wx5.heap.size Aw bw) := Hwr.out.next hb
    have Hw' : Hid (Tb wx1.heap.size sw vw aw cw kw wx5) := Hw.out.next hb
    have Hxr' : Hid (BSl wx5 0 wx5.heap.size Ax bw) := Hxr.out.next hb
    have Hx' : Hid (Tb wx2.heap.size sw vw ax cx kw wx5) := Hx.out.next hb
    clear Hlow Ht Hwr Hw Hxr Hx
    have Hlow := Hlow'
    clear Hlow'
    have Ht := Ht'
    clear Ht'
    have Hwr := Hwr'
    clear Hwr'
    have Hw := Hw'
    clear Hw'
    have Hxr := Hxr'
    clear Hxr'
    have Hx := Hx'
    clear Hx'
    clear hb
    have qx0 := Hx.out.c0
    have qx1 := Hx.out.c1
    have qx2 := Hx.out.c2
    have qw0 := Hw.out.c0
    have qw1 := Hw.out.c1
    have qw2 := Hw.out.c2
    go_wp2_with fail
    with_reducible refine (laTerm_same (fsz kw) sw vw ax aw cx cw kw _ Hx.out.sl Hw.out.sl (Nat.le_refl _) (by have := HSM.out.1; omega)).mono ?_
    rintro e wx6 ⟨rfl, hb⟩
    clear qx0 qx1 qx2 qw0 qw1 qw2
    have Hlow' : Hid (Below w.heap.size w wx6) := below_next Hlow.out hb
    have Ht' : Hid (Tb wa.heap.size s v a c k wx6) := Ht.out.next hb
    have Hwr' : Hid (BSl wx6 0 wx6.heap.size Aw bw) := Hwr.out.next hb
    have Hw' : Hid (Tb wx1.heap.size sw vw aw cw kw wx6) := Hw.out.next hb
    have Hxr' : Hid (BSl wx6 0 wx6.heap.size Ax bw) := Hxr.out.next hb
    have Hx' : Hid (Tb wx2.heap.size sw vw ax cx kw wx6) := Hx.out.next hb
    clear Hlow Ht Hwr Hw Hxr Hx
    have Hlow := Hlow'
    clear Hlow'
    have Ht := Ht'
    clear Ht'
    have Hwr := Hwr'
    clear Hwr'
    have Hw := Hw'
    clear Hw'
    have Hxr := Hxr'
    clear Hxr'
    have Hx := Hx'
    clear Hx'
    clear hb
    go_wp2_with fail
    with_reducible refine (laSubst_same bw Ax Aw Cx Cw _ Hxr.out Hwr.out (by have := HSM.out.2.1; omega) HSM.out.2.2).mono ?_
    rintro e wx7 ⟨rfl, hb⟩
    have Hlow' : Hid (Below w.heap.size w wx7) := below_next Hlow.out hb
    have Ht' : Hid (Tb wa.heap.size s v a c k wx7) := Ht.out.next hb
    have Hwr' : Hid (BSl wx7 0 wx7.heap.size Aw bw) := Hwr.out.next hb
    have Hw' : Hid (Tb wx1.heap.size sw vw aw cw kw wx7) := Hw.out.next hb
    have Hxr' : Hid (BSl wx7 0 wx7.heap.size Ax bw) := Hxr.out.next hb
    have Hx' : Hid (Tb wx2.heap.size sw vw ax cx kw wx7) := Hx.out.next hb
    clear Hlow Ht Hwr Hw Hxr Hx
    have Hlow := Hlow'
    clear Hlow'
    have Ht := Ht'
    clear Ht'
    have Hwr := Hwr'
    clear Hwr'
    have Hw := Hw'
    clear Hw'
    have Hxr := Hxr'
    clear Hxr'
    have Hx := Hx'
    clear Hx'
    clear hb
    go_wp2_with fail
    go_ret
    exact ⟨rfl, Hlow.out⟩
  | true =>
    have HOK := Lib.hid hok
    have hk16 := ((okW_iff _ _ _ _).1 hok).2.2
    clear hok
    have qt0 := Ht.out.c0
    have qt1 := Ht.out.c1
    have qt2 := Ht.out.c2
    go_wp2_with fail
    with_reducible refine (sTermOk_any s v a c k _ Ht.out.sl).mono ?_
    rw [HOK.out]
    rintro e wx5 ⟨rfl, hb⟩
    clear qt0 qt1 qt2
    have Hlow' : Hid (Below w.heap.size w wx5) := below_next Hlow.out hb
    have Ht' : Hid (Tb wa.heap.size s v a c k wx5) := Ht.out.next hb
    have Hwr' : Hid (BSl wx5 0 wx5.heap.size Aw bw) := Hwr.out.next hb
    have Hw' : Hid (Tb wx1.heap.size sw vw aw cw kw wx5) := Hw.out.next hb
    have Hxr' : Hid (BSl wx5 0 wx5.heap.size Ax bw) := Hxr.out.next hb
    have Hx' : Hid (Tb wx2.heap.size sw vw ax cx kw wx5) := Hx.out.next hb
    clear Hlow Ht Hwr Hw Hxr Hx
    have Hlow := Hlow'
    clear Hlow'
    have Ht := Ht'
    clear Ht'
    have Hwr := Hwr'
    clear Hwr'
    have Hw := Hw'
    clear Hw'
    have Hxr := Hxr'
    clear Hxr'
    have Hx := Hx'
    clear Hx'
    clear hb
    have HOKX : Hid (okW sw vw kw 16 = true) := by rcases plR_cases HDw.out with ⟨h, _⟩ | ⟨_, _, _, h, _⟩; (rw [HOK.out] at h; cases h); exact h
    have HSZ : Hid (fsz kw = fsz k ∧ places kw = places k ∧ bw = nms s v k) := by rcases plR_cases HDw.out with ⟨h, _⟩ | ⟨_, h0, _, _, h1, h2⟩; (rw [HOK.out] at h; cases h); exact ⟨h1, h2, h0⟩
    clear Hw Hwr
    obtain ⟨hsd, ⟨b1, hb1⟩, ⟨b2, hb2⟩⟩ := plain_back HDw.out HOK.out
    have HSD := Lib.hid hsd
    have HB1 := Lib.hid hb1
    have HB2 := Lib.hid hb2
    clear hsd hb1 hb2
    have qt0 := Ht.out.c0
    have qt1 := Ht.out.c1
    have qt2 := Ht.out.c2
    go_wp2_with fail
    with_reducible refine (iSubstDo_any bw Ax Cx s v a c k _ Hxr.out (by have := HSM.out.2.1; omega) Ht.out.sl).mono ?_
    rintro e wx6 ⟨ay, cy, sy, vy, ky, ty, hdy, rfl, hb, hly⟩
    rw [HSD.out] at hdy
    simp only [Prod.mk.injEq] at hdy
    obtain ⟨rfl, rfl, rfl, rfl⟩ := hdy
    clear qt0 qt1 qt2
    have Hlow' : Hid (Below w.heap.size w wx6) := below_next Hlow.out hb
    have Ht' : Hid (Tb wa.heap.size s v a c k wx6) := Ht.out.next hb
    have Hxr' : Hid (BSl wx6 0 wx6.heap.size Ax bw) := Hxr.out.next hb
    have Hx' : Hid (Tb wx2.heap.size sw vw ax cx kw wx6) := Hx.out.next hb
    clear Hlow Ht Hxr Hx
    have Hlow := Hlow'
    clear Hlow'
    have Ht := Ht'
    clear Ht'
    have Hxr := Hxr'
    clear Hxr'
    have Hx := Hx'
    clear Hx'
    clear hb
    have Hly := Lib.hid hly
    clear hly
    have hbx : Below wx6.heap.size wx6 (wx6.alloc (.cells #[.int .i64 sw, .int .i64 vw, .slice ay (flen kw) cy] 25)) := box_low _ _
    have Hn : Hid (Tb wx6.heap.size sw vw ay cy kw (wx6.alloc (.cells #[.int .i64 sw, .int .i64 vw, .slice ay (flen kw) cy] 25))) := Tb.new Hly.out
    have Hlow' : Hid (Below w.heap.size w (wx6.alloc (.cells #[.int .i64 sw, .int .i64 vw, .slice ay (flen kw) cy] 25))) := below_next Hlow.out hbx
    have Ht' : Hid (Tb wa.heap.size s v a c k (wx6.alloc (.cells #[.int .i64 sw, .int .i64 vw, .slice ay (flen kw) cy] 25))) := Ht.out.next hbx
    have Hxr' : Hid (BSl (wx6.alloc (.cells #[.int .i64 sw, .int .i64 vw, .slice ay (flen kw) cy] 25)) 0 (wx6.alloc (.cells #[.int .i64 sw, .int .i64 vw, .slice ay (flen kw) cy] 25)).heap.size Ax bw) := Hxr.out.next hbx
    have Hx' : Hid (Tb wx2.heap.size sw vw ax cx kw (wx6.alloc (.cells #[.int .i64 sw, .int .i64 vw, .slice ay (flen kw) cy] 25))) := Hx.out.next hbx
    clear Hlow Ht Hxr Hx
    have Hlow := Hlow'
    clear Hlow'
    have Ht := Ht'
    clear Ht'
    have Hxr := Hxr'
    clear Hxr'
    have Hx := Hx'
    clear Hx'
    have Hy := Hn
    clear Hn hbx
    clear Hly
    have qx0 := Hx.out.c0
    have qx1 := Hx.out.c1
    have qx2 := Hx.out.c2
    have qt0 := Ht.out.c0
    have qt1 := Ht.out.c1
    have qt2 := Ht.out.c2
    go_wp2_with fail
    with_reducible refine (iMatchOf_any sw vw ax cx kw s v a c k _ Hx.out.sl Ht.out.sl).mono ?_
    rintro e wx7 ⟨Ap, Cp, bp, tp, hdp, rfl, hb, hsp⟩
    rw [HB2.out] at hdp
    simp only [Prod.mk.injEq] at hdp
    obtain ⟨rfl, rfl⟩ := hdp
    clear qx0 qx1 qx2 qt0 qt1 qt2
    have Hlow' : Hid (Below w.heap.size w wx7) := below_next Hlow.out hb
    have Ht' : Hid (Tb wa.heap.size s v a c k wx7) := Ht.out.next hb
    have Hxr' : Hid (BSl wx7 0 wx7.heap.size Ax bw) := Hxr.out.next hb
    have Hx' : Hid (Tb wx2.heap.size sw vw ax cx kw wx7) := Hx.out.next hb
    have Hy' : Hid (Tb wx6.heap.size sw vw ay cy kw wx7) := Hy.out.next hb
    clear Hlow Ht Hxr Hx Hy
    have Hlow := Hlow'
    clear Hlow'
    have Ht := Ht'
    clear Ht'
    have Hxr := Hxr'
    clear Hxr'
    have Hx := Hx'
    clear Hx'
    have Hy := Hy'
    clear Hy'
    clear hb
    have Hp : Hid (BSl wx7 0 wx7.heap.size Ap b2) := hsp
    clear hsp
    have qt0 := Ht.out.c0
    have qt1 := Ht.out.c1
    have qt2 := Ht.out.c2
    have qx0 := Hx.out.c0
    have qx1 := Hx.out.c1
    have qx2 := Hx.out.c2
    go_wp2_with fail
    with_reducible refine (iMatchOf_any s v a c k sw vw ax cx kw _ Ht.out.sl Hx.out.sl).mono ?_
    rintro e wx8 ⟨Aq, Cq, bq, tq, hdq, rfl, hb, hsq⟩
    rw [HB1.out] at hdq
    simp only [Prod.mk.injEq] at hdq
    obtain ⟨rfl, rfl⟩ := hdq
    clear qt0 qt1 qt2 qx0 qx1 qx2
    have Hlow' : Hid (Below w.heap.size w wx8) := below_next Hlow.out hb
    have Ht' : Hid (Tb wa.heap.size s v a c k wx8) := Ht.out.next hb
    have Hxr' : Hid (BSl wx8 0 wx8.heap.size Ax bw) := Hxr.out.next hb
    have Hx' : Hid (Tb wx2.heap.size sw vw ax cx kw wx8) := Hx.out.next hb
    have Hy' : Hid (Tb wx6.heap.size sw vw ay cy kw wx8) := Hy.out.next hb
    have Hp' : Hid (BSl wx8 0 wx8.heap.size Ap b2) := Hp.out.next hb
    clear Hlow Ht Hxr Hx Hy Hp
    have Hlow := Hlow'
    clear Hlow'
    have Ht := Ht'
    clear Ht'
    have Hxr := Hxr'
    clear Hxr'
    have Hx := Hx'
    clear Hx'
    have Hy := Hy'
    clear Hy'
    have Hp := Hp'
    clear Hp'
    clear hb
    have Hq : Hid (BSl wx8 0 wx8.heap.size Aq b1) := hsq
    clear hsq
    have qy0 := Hy.out.c0
    have qy1 := Hy.out.c1
    have qy2 := Hy.out.c2
    have qx0 := Hx.out.c0
    have qx1 := Hx.out.c1
    have qx2 := Hx.out.c2
    go_wp2_with fail
    with_reducible refine (laTerm_same (fsz kw) sw vw ay ax cy cx kw _ Hy.out.sl Hx.out.sl (Nat.le_refl _) (by have := HSM.out.1; omega)).mono ?_
    rintro e wx9 ⟨rfl, hb⟩
    clear qy0 qy1 qy2 qx0 qx1 qx2
    have Hlow' : Hid (Below w.heap.size w wx9) := below_next Hlow.out hb
    have Ht' : Hid (Tb wa.heap.size s v a c k wx9) := Ht.out.next hb
    have Hxr' : Hid (BSl wx9 0 wx9.heap.size Ax bw) := Hxr.out.next hb
    have Hx' : Hid (Tb wx2.heap.size sw vw ax cx kw wx9) := Hx.out.next hb
    have Hy' : Hid (Tb wx6.heap.size sw vw ay cy kw wx9) := Hy.out.next hb
    have Hp' : Hid (BSl wx9 0 wx9.heap.size Ap b2) := Hp.out.next hb
    have Hq' : Hid (BSl wx9 0 wx9.heap.size Aq b1) := Hq.out.next hb
    clear Hlow Ht Hxr Hx Hy Hp Hq
    have Hlow := Hlow'
    clear Hlow'
    have Ht := Ht'
    clear Ht'
    have Hxr := Hxr'
    clear Hxr'
    have Hx := Hx'
    clear Hx'
    have Hy := Hy'
    clear Hy'
    have Hp := Hp'
    clear Hp'
    have Hq := Hq'
    clear Hq'
    clear hb
    go_wp2_with fail
    go_ret
    exact ⟨rfl, Hlow.out⟩
end Go.Proofs.Ytlaaihnokoeliab
