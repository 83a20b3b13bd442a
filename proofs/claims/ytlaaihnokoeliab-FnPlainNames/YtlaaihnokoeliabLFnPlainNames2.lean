/- Several texts in one: LawPNames. -/
import Derived.Test.YtlaaihnokoeliabKPla18
import Derived.Test.YtlaaihnokoeliabKPla19
import Derived.Test.YtlaaihnokoeliabKPla15
import Derived.Test.YtlaaihnokoeliabKPla2
import Derived.Test.YtlaaihnokoeliabKPla11
import Derived.Test.YtlaaihnokoeliabKPla8
import Derived.Test.YtlaaihnokoeliabLFnPlainNames1

/-! LawPNames: laws.FnPlainNames answers true at every code. -/
namespace Go.Proofs.Ytlaaihnokoeliab
open Go.RowKit Go.Deep
attribute [local go_sem ↓] Go.wp_at_zero Go.wp_at_succ

set_option maxRecDepth 100000 in
set_option maxHeartbeats 4000000 in
theorem plainNames_walk (a0 : Option Addr) (len cap : Nat) (w : World) (hby : Bytes w a0 len) (hlen : len ≤ cap) :
    Calls Try.prog 4 #[.slice a0 len cap] w fun e w' => e = .returned (.bool true) ∧ Below w.heap.size w w' := by
  have HBY := Lib.hid hby
  clear hby
  by_cases hbiglen : 1048576 < len
  · go_enter Try.func4, Try.ntmps4
    go_wp2_with fail
    go_ret
    exact ⟨rfl, Below.refl _ _⟩
  go_enter Try.func4, Try.ntmps4
  go_wp2_with fail
  with_reducible refine (DrawTermPlain_any a0 len cap _ HBY.out hlen).mono ?_
  rintro e wa ⟨s, v, a, c, k, rfl, hSk, hb, hl⟩
  have Hlow := Lib.hid hb
  have HL := Lib.hid hl
  clear hb hl HBY
  have hbx : Below wa.heap.size wa (wa.alloc (.cells #[.int .i64 s, .int .i64 v, .slice a (flen k) c] 25)) := box_low _ _
  have Hn : Hid (Tb wa.heap.size s v a c k (wa.alloc (.cells #[.int .i64 s, .int .i64 v, .slice a (flen k) c] 25))) := Tb.new HL.out
  have Hlow' : Hid (Below w.heap.size w (wa.alloc (.cells #[.int .i64 s, .int .i64 v, .slice a (flen k) c] 25))) := below_next Hlow.out hbx
  clear Hlow
  have Hlow := Hlow'
  clear Hlow'
  have Ht := Hn
  clear Hn hbx
  clear HL
  have qt0 := Ht.out.c0
  have qt1 := Ht.out.c1
  have qt2 := Ht.out.c2
  go_wp2_with fail
  with_reducible refine (sTermPlain_any s v a c k _ Ht.out.sl).mono ?_
  rintro e wx1 ⟨aw, cw, Aw, Cw, sw, vw, kw, bw, hdw, rfl, hb, hlw, hsw⟩
  have HDw := Lib.hid hdw
  clear hdw
  clear qt0 qt1 qt2
  have Hlow' : Hid (Below w.heap.size w wx1) := below_next Hlow.out hb
  have Ht' : Hid (Tb wa.heap.size s v a c k wx1) := Ht.out.next hb
  clear Hlow Ht
  have Hlow := Hlow'
  clear Hlow'
  have Ht := Ht'
  clear Ht'
  clear hb
  have Hwr : Hid (BSl wx1 0 wx1.heap.size Aw bw) := hsw
  have Hlw := Lib.hid hlw
  clear hsw hlw
  have hbx : Below wx1.heap.size wx1 (wx1.alloc (.cells #[.int .i64 sw, .int .i64 vw, .slice aw (flen kw) cw] 25)) := box_low _ _
  have Hn : Hid (Tb wx1.heap.size sw vw aw cw kw (wx1.alloc (.cells #[.int .i64 sw, .int .i64 vw, .slice aw (flen kw) cw] 25))) := Tb.new Hlw.out
  have Hlow' : Hid (Below w.heap.size w (wx1.alloc (.cells #[.int .i64 sw, .int .i64 vw, .slice aw (flen kw) cw] 25))) := below_next Hlow.out hbx
  have Ht' : Hid (Tb wa.heap.size s v a c k (wx1.alloc (.cells #[.int .i64 sw, .int .i64 vw, .slice aw (flen kw) cw] 25))) := Ht.out.next hbx
  have Hwr' : Hid (BSl (wx1.alloc (.cells #[.int .i64 sw, .int .i64 vw, .slice aw (flen kw) cw] 25)) 0 (wx1.alloc (.cells #[.int .i64 sw, .int .i64 vw, .slice aw (flen kw) cw] 25)).heap.size Aw bw) := Hwr.out.next hbx
  clear Hlow Ht Hwr
  have Hlow := Hlow'
  clear Hlow'
  have Ht := Ht'
  clear Ht'
  have Hwr := Hwr'
  clear Hwr'
  have Hw := Hn
  clear Hn hbx
  clear Hlw
  have qt0 := Ht.out.c0
  have qt1 := Ht.out.c1
  have qt2 := Ht.out.c2
  go_wp2_with fail
  with_reducible refine (iTermPlain_any s v a c k _ Ht.out.sl).mono ?_
  rintro e wx2 ⟨ax, cx, Ax, Cx, sx, vx, kx, bx, hdx, rfl, hb, hlx, hsx⟩
  rw [HDw.out] at hdx
  simp only [Prod.mk.injEq] at hdx
  obtain ⟨⟨rfl, rfl, rfl⟩, rfl⟩ := hdx
  clear qt0 qt1 qt2
  have Hlow' : Hid (Below w.heap.size w wx2) := below_next Hlow.out hb
  have Ht' : Hid (Tb wa.heap.size s v a c k wx2) := Ht.out.next hb
  have Hwr' : Hid (BSl wx2 0 wx2.heap.size Aw bw) := Hwr.out.next hb
  have Hw' : Hid (Tb wx1.heap.size sw vw aw cw kw wx2) := Hw.out.next hb
  clear Hlow Ht Hwr Hw
  have Hlow := Hlow'
  clear Hlow'
  have Ht := Ht'
  clear Ht'
  have Hwr := Hwr'
  clear Hwr'
  have Hw := Hw'
  clear Hw'
  clear hb
  have Hxr : Hid (BSl wx2 0 wx2.heap.size Ax bw) := hsx
  have Hlx := Lib.hid hlx
  clear hsx hlx
  have hbx : Below wx2.heap.size wx2 (wx2.alloc (.cells #[.int .i64 sw, .int .i64 vw, .slice ax (flen kw) cx] 25)) := box_low _ _
  have Hn : Hid (Tb wx2.heap.size sw vw ax cx kw (wx2.alloc (.cells #[.int .i64 sw, .int .i64 vw, .slice ax (flen kw) cx] 25))) := Tb.new Hlx.out
  have Hlow' : Hid (Below w.heap.size w (wx2.alloc (.cells #[.int .i64 sw, .int .i64 vw, .slice ax (flen kw) cx] 25))) := below_next Hlow.out hbx
  have Ht' : Hid (Tb wa.heap.size s v a c k (wx2.alloc (.cells #[.int .i64 sw, .int .i64 vw, .slice ax (flen kw) cx] 25))) := Ht.out.next hbx
  have Hwr' : Hid (BSl (wx2.alloc (.cells #[.int .i64 sw, .int .i64 vw, .slice ax (flen kw) cx] 25)) 0 (wx2.alloc (.cells #[.int .i64 sw, .int .i64 vw, .slice ax (flen kw) cx] 25)).heap.size Aw bw) := Hwr.out.next hbx
  have Hw' : Hid (Tb wx1.heap.size sw vw aw cw kw (wx2.alloc (.cells #[.int .i64 sw, .int .i64 vw, .slice ax (flen kw) cx] 25))) := Hw.out.next hbx
  have Hxr' : Hid (BSl (wx2.alloc (.cells #[.int .i64 sw, .int .i64 vw, .slice ax (flen kw) cx] 25)) 0 (wx2.alloc (.cells #[.int .i64 sw, .int .i64 vw, .slice ax (flen kw) cx] 25)).heap.size Ax bw) := Hxr.out.next hbx
  clear Hlow Ht Hwr Hw Hxr
  have Hlow := Hlow'
  clear Hlow'
  have Ht := Ht'
  clear Ht'
  have Hwr := Hwr'
  clear Hwr'
  have Hw := Hw'
  clear Hw'
  have Hxr := Hxr'
  clear Hxr'
  have Hx := Hn
  clear Hn hbx
  clear Hlx
  have HSM := Lib.hid (plR_small HDw.out)
  have qx0 := Hx.out.c0
  have qx1 := Hx.out.c1
  have qx2 := Hx.out.c2
  have qw0 := Hw.out.c0
  have qw1 := Hw.out.c1
  have qw2 := Hw.out.c2
  go_wp2_with fail
  with_reducible refine (laTerm_same (fsz kw) sw vw ax aw cx cw kw _ Hx.out.sl Hw.out.sl (Nat.le_refl _) (by have := HSM.out.1; omega)).mono ?_
  rintro e wx3 ⟨rfl, hb⟩
  clear qx0 qx1 qx2 qw0 qw1 qw2
  have Hlow' : Hid (Below w.heap.size w wx3) := below_next Hlow.out hb
  have Ht' : Hid (Tb wa.heap.size s v a c k wx3) := Ht.out.next hb
  have Hwr' : Hid (BSl wx3 0 wx3.heap.size Aw bw) := Hwr.out.next hb
  have Hw' : Hid (Tb wx1.heap.size sw vw aw cw kw wx3) := Hw.out.next hb
  have Hxr' : Hid (BSl wx3 0 wx3.heap.size Ax bw) := Hxr.out.next hb
  have Hx' : Hid (Tb wx2.heap.size sw vw ax cx kw wx3) := Hx.out.next hb
  clear Hlow Ht Hwr Hw Hxr Hx
  have Hlow := Hlow'
  clear Hlow'
  have Ht := Ht'
  clear Ht'
  have Hwr := Hwr'
  clear Hwr'
  have Hw := Hw'
  clear Hw'
  have Hxr := Hxr'
  clear Hxr'
  have Hx := Hx'
  clear Hx'
  clear hb
  go_wp2_with fail
  with_reducible refine (laSubst_same bw Ax Aw Cx Cw _ Hxr.out Hwr.out (by have := HSM.out.2.1; omega) HSM.out.2.2).mono ?_
  rintro e wx4 ⟨rfl, hb⟩
  have Hlow' : Hid (Below w.heap.size w wx4) := below_next Hlow.out hb
  have Ht' : Hid (Tb wa.heap.size s v a c k wx4) := Ht.out.next hb
  have Hwr' : Hid (BSl wx4 0 wx4.heap.size Aw bw) := Hwr.out.next hb
  have Hw' : Hid (Tb wx1.heap.size sw vw aw cw kw wx4) := Hw.out.next hb
  have Hxr' : Hid (BSl wx4 0 wx4.heap.size Ax bw) := Hxr.out.next hb
  have Hx' : Hid (Tb wx2.heap.size sw vw ax cx kw wx4) := Hx.out.next hb
  clear Hlow Ht Hwr Hw Hxr Hx
  have Hlow := Hlow'
  clear Hlow'
  have Ht := Ht'
  clear Ht'
  have Hwr := Hwr'
  clear Hwr'
  have Hw := Hw'
  clear Hw'
  have Hxr := Hxr'
  clear Hxr'
  have Hx := Hx'
  clear Hx'
  clear hb
  cases hok : okW s v k 16 with
  | false =>
    have HOK := Lib.hid hok
    clear hok
    have qt0 := Ht.out.c0
    have qt1 := Ht.out.c1
    have qt2 := Ht.out.c2
    go_wp2_with fail
    with_reducible refine (sTermOk_any s v a c k _ Ht.out.sl).mono ?_
    rw [HOK.out]
    rintro e wx5 ⟨rfl, hb⟩
    clear qt0 qt1 qt2
    have Hlow' : Hid (Below w.heap.size w wx5) := below_next Hlow.out hb
    have Ht' : Hid (Tb wa.heap.size s v a c k wx5) := Ht.out.next hb
    have Hwr' : Hid (BSl wx5 0 wx5.heap.size Aw bw) := Hwr.out.next hb
    have Hw' : Hid (Tb wx1.heap.size sw vw aw cw kw wx5) := Hw.out.next hb
    have Hxr' : Hid (BSl wx5 0 wx5.heap.size Ax bw) := Hxr.out.next hb
    have Hx' : Hid (Tb wx2.heap.size sw vw ax cx kw wx5) := Hx.out.next hb
    clear Hlow Ht Hwr Hw Hxr Hx
    have Hlow := Hlow'
    clear Hlow'
    have Ht := Ht'
    clear Ht'
    have Hwr := Hwr'
    clear Hwr'
    have Hw := Hw'
    clear Hw'
    have Hxr := Hxr'
    clear Hxr'
    have Hx := Hx'
    clear Hx'
    clear hb
    have qx0 := Hx.out.c0
    have qx1 := Hx.out.c1
    have qx2 := Hx.out.c2
    have qw0 := Hw.out.c0
    have qw1 := Hw.out.c1
    have qw2 := Hw.out.c2
    go_wp2_with fail
    with_reducible refine (laTerm_same (fsz kw) sw vw ax aw cx cw kw _ Hx.out.sl Hw.out.sl (Nat.le_refl _) (by have := HSM.out.1; omega)).mono ?_
    rintro e wx6 ⟨rfl, hb⟩
    clear qx0 qx1 qx2 qw0 qw1 qw2
    have Hlow' : Hid (Below w.heap.size w wx6) := below_next Hlow.out hb
    have Ht' : Hid (Tb wa.heap.size s v a c k wx6) := Ht.out.next hb
    have Hwr' : Hid (BSl wx6 0 wx6.heap.size Aw bw) := Hwr.out.next hb
    have Hw' : Hid (Tb wx1.heap.size sw vw aw cw kw wx6) := Hw.out.next hb
    have Hxr' : Hid (BSl wx6 0 wx6.heap.size Ax bw) := Hxr.out.next hb
    have Hx' : Hid (Tb wx2.heap.size sw vw ax cx kw wx6) := Hx.out.next hb
    clear Hlow Ht Hwr Hw Hxr Hx
    have Hlow := Hlow'
    clear Hlow'
    have Ht := Ht'
    clear Ht'
    have Hwr := Hwr'
    clear Hwr'
    have Hw := Hw'
    clear Hw'
    have Hxr := Hxr'
    clear Hxr'
    have Hx := Hx'
    clear Hx'
    clear hb
    go_wp2_with fail
    with_reducible refine (laSubst_same bw Ax Aw Cx Cw _ Hxr.out Hwr.out (by have := HSM.out.2.1; omega) HSM.out.2.2).mono ?_
    rintro e wx7 ⟨rfl, hb⟩
    have Hlow' : Hid (Below w.heap.size w wx7) := below_next Hlow.out hb
    have Ht' : Hid (Tb wa.heap.size s v a c k wx7) := Ht.out.next hb
    have Hwr' : Hid (BSl wx7 0 wx7.heap.size Aw bw) := Hwr.out.next hb
    have Hw' : Hid (Tb wx1.heap.size sw vw aw cw kw wx7) := Hw.out.next hb
    have Hxr' : Hid (BSl wx7 0 wx7.heap.size Ax bw) := Hxr.out.next hb
    have Hx' : Hid (Tb wx2.heap.size sw vw ax cx kw wx7) := Hx.out.next hb
    clear Hlow Ht Hwr Hw Hxr Hx
    have Hlow := Hlow'
    clear Hlow'
    have Ht := Ht'
    clear Ht'
    have Hwr := Hwr'
    clear Hwr'
    have Hw := Hw'
    clear Hw'
    have Hxr := Hxr'
    clear Hxr'
    have Hx := Hx'
    clear Hx'
    clear hb
    go_wp2_with fail
    go_ret
    exact ⟨rfl, Hlow.out⟩
  | true =>
    have HOK := Lib.hid hok
    have hk16 := ((okW_iff _ _ _ _).1 hok).2.2
    clear hok
    have qt0 := Ht.out.c0
    have qt1 := Ht.out.c1
    have qt2 := Ht.out.c2
    go_wp2_with fail
    with_reducible refine (sTermOk_any s v a c k _ Ht.out.sl).mono ?_
    rw [HOK.out]
    rintro e wx5 ⟨rfl, hb⟩
    clear qt0 qt1 qt2
    have Hlow' : Hid (Below w.heap.size w wx5) := below_next Hlow.out hb
    have Ht' : Hid (Tb wa.heap.size s v a c k wx5) := Ht.out.next hb
    have Hwr' : Hid (BSl wx5 0 wx5.heap.size Aw bw) := Hwr.out.next hb
    have Hw' : Hid (Tb wx1.heap.size sw vw aw cw kw wx5) := Hw.out.next hb
    have Hxr' : Hid (BSl wx5 0 wx5.heap.size Ax bw) := Hxr.out.next hb
    have Hx' : Hid (Tb wx2.heap.size sw vw ax cx kw wx5) := Hx.out.next hb
    clear Hlow Ht Hwr Hw Hxr Hx
    have Hlow := Hlow'
    clear Hlow'
    have Ht := Ht'
    clear Ht'
    have Hwr := Hwr'
    clear Hwr'
    have Hw := Hw'
    clear Hw'
    have Hxr := Hxr'
    clear Hxr'
    have Hx := Hx'
    clear Hx'
    clear hb
    have HOKX : Hid (okW sw vw kw 16 = true) := by rcases plR_cases HDw.out with ⟨h, _⟩ | ⟨_, _, _, h, _⟩; (rw [HOK.out] at h; cases h); exact h
    have HSZ : Hid (fsz kw = fsz k ∧ places kw = places k ∧ bw = nms s v k) := by rcases plR_cases HDw.out with ⟨h, _⟩ | ⟨_, h0, _, _, h1, h2⟩; (rw [HOK.out] at h; cases h); exact ⟨h1, h2, h0⟩
    clear Hw Hwr
    have HST := Lib.hid (plain_stay HDw.out HOK.out)
    have HTL : Hid ((nms sw vw kw).length = (nms s v k).length) := (plain_twice HDw.out HOK.out).2
    have hkx := ((okW_iff _ _ _ _).1 HOKX.out).2.2
    have qx0 := Hx.out.c0
    have qx1 := Hx.out.c1
    have qx2 := Hx.out.c2
    go_wp2_with fail
    with_reducible refine (iTermVars_any sw vw ax cx kw _ Hx.out.sl).mono ?_
    rintro e wx6 ⟨AV, CV, xs, hxs, rfl, hb, hio⟩
    have HXL : Hid (xs.length = (nms sw vw kw).length) := by rw [Hid, hxs, nms_len HOKX.out]
    clear hio hxs
    clear qx0 qx1 qx2
    have Hlow' : Hid (Below w.heap.size w wx6) := below_next Hlow.out hb
    have Ht' : Hid (Tb wa.heap.size s v a c k wx6) := Ht.out.next hb
    have Hxr' : Hid (BSl wx6 0 wx6.heap.size Ax bw) := Hxr.out.next hb
    have Hx' : Hid (Tb wx2.heap.size sw vw ax cx kw wx6) := Hx.out.next hb
    clear Hlow Ht Hxr Hx
    have Hlow := Hlow'
    clear Hlow'
    have Ht := Ht'
    clear Ht'
    have Hxr := Hxr'
    clear Hxr'
    have Hx := Hx'
    clear Hx'
    clear hb
    have qx0 := Hx.out.c0
    have qx1 := Hx.out.c1
    have qx2 := Hx.out.c2
    go_wp2_with fail
    with_reducible refine (iTermPlaces_any sw vw ax cx kw _ Hx.out.sl).mono ?_
    rintro e wx7 ⟨AL, CL, rows, rfl, hrows, hb, hrs⟩
    rw [if_pos HOKX.out] at hrows
    subst hrows
    have HRS := Lib.hid (hrs.mono (lo' := 0) (Nat.zero_le _) (Nat.le_refl _))
    have hpk : (places kw).length ≤ 16 := by rw [places_len]; omega
    clear hrs
    clear qx0 qx1 qx2
    have Hlow' : Hid (Below w.heap.size w wx7) := below_next Hlow.out hb
    have Ht' : Hid (Tb wa.heap.size s v a c k wx7) := Ht.out.next hb
    have Hxr' : Hid (BSl wx7 0 wx7.heap.size Ax bw) := Hxr.out.next hb
    have Hx' : Hid (Tb wx2.heap.size sw vw ax cx kw wx7) := Hx.out.next hb
    clear Hlow Ht Hxr Hx
    have Hlow := Hlow'
    clear Hlow'
    have Ht := Ht'
    clear Ht'
    have Hxr := Hxr'
    clear Hxr'
    have Hx := Hx'
    clear Hx'
    clear hb
    go_wp2_with fail
    go_loopw [9, 11] (fun o i wr => ∃ j m : Nat, o = .int .i64 m ∧ i = .int .i64 j ∧ j ≤ (places kw).length ∧ m ≤ j ∧ Hid (m = (nmL [] (pvs sw vw kw j)).length) ∧ Hid (Below w.heap.size w wr) ∧ Hid (Tb wa.heap.size s v a c k wr) ∧ Hid (BSl wr 0 wr.heap.size Ax bw) ∧ Hid (Tb wx2.heap.size sw vw ax cx kw wr) ∧ Hid (RSl wr 0 wr.heap.size AL (places kw))) (fun _ i _ => (places kw).length - (intOf i).toNat)
    case atStart => exact ⟨0, 0, rfl, rfl, Nat.zero_le _, Nat.le_refl _, rfl, Hlow, Ht, Hxr, Hx, HRS⟩
    case round =>
      clear Hlow Ht Hxr Hx HRS
      obtain ⟨j, m, rfl, rfl, hj, hmj, HMM, Hlow, Ht, Hxr, Hx, HRS⟩ := hrel
      by_cases hlt : j < (places kw).length
      · have g1 : (0 : Int) ≤ (j : Int) := by omega
        have g2 : (j : Int) < ((places kw).length : Int) := by omega
        obtain ⟨rb, ro, pA, pC, pl, hAL, _, hrb, hrp, hrc, hpl⟩ := rsl_at HRS.out hlt
        subst hAL
        have HPL := Lib.hid hpl
        have HC := Lib.hid hrc
        have hpll : pl.length ≤ 16 := by have h1 := places_deep (List.mem_of_getElem? hrp); omega
        obtain ⟨⟨s1, v1, k1⟩, hf⟩ := places_at kw sw vw pl (List.mem_of_getElem? hrp)
        have HAT := Lib.hid (atR_of HOKX.out hf).1
        have hst := plain_step HOKX.out HST.out hrp hf
        rw [← HMM.out] at hst
        have HSTP := Lib.hid hst
        clear hst hf hpl hrp hrc
        have hu0 : ∀ u : After wr.heap.size wr, u.world.cell? ⟨wx2.heap.size, 0, none⟩ = some (.int .i64 sw) := fun u => cell_low u.below Hx.out.c0
        have hu1 : ∀ u : After wr.heap.size wr, u.world.cell? ⟨wx2.heap.size, 1, none⟩ = some (.int .i64 vw) := fun u => cell_low u.below Hx.out.c1
        have hu2 : ∀ u : After wr.heap.size wr, u.world.cell? ⟨wx2.heap.size, 2, none⟩ = some (.slice ax (flen kw) cx) := fun u => cell_low u.below Hx.out.c2
        have hu3 : ∀ u : After wr.heap.size wr, u.world.cell? ⟨rb, ro + j, none⟩ = some (.slice pA pl.length pC) := fun u => cell_low u.below HC.out
        go_wp2_with fail
        refine wp_region_anyT (fun w' => ∃ u : After wr.heap.size wr, w' = u.world) (by kernel_rfl) ?_
        have HBD : Hid (Below wr.heap.size wr wr.drew) := (Below.refl _ _).drew
        generalize wr.drew = wdx8 at *
        refine anyT_look (i := 0) rfl (by kernel_rfl) ⟨⟨_, HBD.out⟩, rfl⟩ (fun K hK => ?_)
        go_simp
        refine hK _ ?_
        clear hK K
        refine anyT_look (i := 1) rfl (by kernel_rfl) ⟨⟨_, HBD.out⟩, rfl⟩ (fun K hK => ?_)
        go_simp
        refine hK _ ?_
        clear hK K
        refine anyT_look (i := 2) rfl (by kernel_rfl) ⟨⟨_, HBD.out⟩, rfl⟩ (fun K hK => ?_)
        go_simp
        refine hK _ ?_
        clear hK K
        refine anyT_look (i := 3) rfl (by kernel_rfl) ⟨⟨_, HBD.out⟩, rfl⟩ (fun K hK => ?_)
        go_simp
        refine hK _ ?_
        clear hK K
        refine anyT_look (i := 4) rfl (by kernel_rfl) ⟨⟨_, HBD.out⟩, rfl⟩ (fun K hK => ?_)
        go_simp
        refine hK _ ?_
        clear hK K
        clear hu0 hu1 hu2 hu3
        refine anyT_two (i := 5) (j := 9) (by kernel_rfl) rfl rfl (fun K hK => ?_) (fun K hK => ?_)
        · go_simp
          with_reducible refine (iTermAt_any sw vw ax cx kw pA pC pl _ ((Hx.out.next HBD.out).sl) (HPL.out.next HBD.out) (by omega)).mono ?_
          rintro e wpx8 ⟨ay, cy, s9, v9, k9, t9, hR, rfl, hb, hlx⟩
          rw [HAT.out] at hR
          simp only [Prod.mk.injEq] at hR
          obtain ⟨rfl, rfl, rfl, rfl⟩ := hR
          have HLX := Lib.hid hlx
          clear hlx
          have hlo : wr.heap.size ≤ wdx8.heap.size := HBD.out.size
          replace HBD := Lib.hid (HBD.out.trans (hb.mono hlo))
          refine hK _ _ ⟨⟨_, HBD.out⟩, rfl⟩ ?_
          clear hK K hb
          refine anyT_look (i := 6) rfl (by kernel_rfl) ⟨⟨_, HBD.out⟩, rfl⟩ (fun K hK => ?_)
          go_simp
          refine hK _ ?_
          clear hK K
          refine anyT_look (i := 7) rfl (by kernel_rfl) ⟨⟨_, HBD.out⟩, rfl⟩ (fun K hK => ?_)
          go_simp
          refine hK _ ?_
          clear hK K
          refine anyT_look (i := 8) rfl (by kernel_rfl) ⟨⟨_, HBD.out⟩, rfl⟩ (fun K hK => ?_)
          go_simp
          refine hK _ ?_
          clear hK K
          refine anyT_one (i := 9) (by kernel_rfl) rfl (fun K hK => ?_)
          go_simp
          have HZ := Lib.hid (zb_new wpx8)
          have hbz : wr.heap.size ≤ wpx8.heap.size := HBD.out.size
          have hbe : Below wpx8.heap.size wpx8 (wpx8.alloc (.cells #[.int .i64 0, .int .i64 0, .slice none 0 0] 25)) := (Below.refl _ _).alloc (Nat.le_refl _) _
          replace HLX := Lib.hid (HLX.out.below hbe)
          replace HBD := Lib.hid (HBD.out.trans (hbe.mono hbz))
          refine hK _ _ ⟨⟨_, HBD.out⟩, rfl⟩ ?_
          have hze := hbe.size
          clear hK K hbe
          generalize wpx8.alloc (.cells #[.int .i64 0, .int .i64 0, .slice none 0 0] 25) = wzx8 at *
          have hzz0 := HZ.out.z0
          have hzz1 := HZ.out.z1
          have hzz2 := HZ.out.z2
          have hzf0 := HZ.out.f 0
          have hzf1 := HZ.out.f 1
          have hzf2 := HZ.out.f 2
          have HFIN : Hid (Below wr.heap.size wr (((wzx8.setCell ⟨wpx8.heap.size, 0, none⟩ (.int .i64 s1)).setCell ⟨wpx8.heap.size, 1, none⟩ (.int .i64 v1)).setCell ⟨wpx8.heap.size, 2, none⟩ (.slice ay (flen k1) cy)) ∧ Tb wpx8.heap.size s1 v1 ay cy k1 (((wzx8.setCell ⟨wpx8.heap.size, 0, none⟩ (.int .i64 s1)).setCell ⟨wpx8.heap.size, 1, none⟩ (.int .i64 v1)).setCell ⟨wpx8.heap.size, 2, none⟩ (.slice ay (flen k1) cy))) := zb_fin HZ.out HBD.out hbz HLX.out hze (.inr (Nat.le_refl _))
          refine anyT_one (i := 10) (by kernel_rfl) rfl (fun K hK => ?_)
          go_simp
          refine hK _ _ ⟨⟨_, HFIN.out.1⟩, rfl⟩ ?_
          clear hK K hzz0 hzz1 hzz2 hzf0 hzf1 hzf2
          refine anyT_one (i := 11) (by kernel_rfl) rfl (fun K hK => ?_)
          go_simp
          refine hK _ _ ⟨⟨_, HFIN.out.1⟩, rfl⟩ ?_
          clear hK K
          refine anyT_done (by kernel_rfl) ?_
          have HBE := Lib.hid HFIN.out.1
          have Hy := Lib.hid HFIN.out.2
          clear HFIN HZ HLX HBD
          generalize (((wzx8.setCell ⟨wpx8.heap.size, 0, none⟩ (.int .i64 s1)).setCell ⟨wpx8.heap.size, 1, none⟩ (.int .i64 v1)).setCell ⟨wpx8.heap.size, 2, none⟩ (.slice ay (flen k1) cy)) = wex8 at *
          have Hlow' : Hid (Below w.heap.size w wex8) := below_next Hlow.out HBE.out
          have Ht' : Hid (Tb wa.heap.size s v a c k wex8) := Ht.out.next HBE.out
          have Hxr' : Hid (BSl wex8 0 wex8.heap.size Ax bw) := Hxr.out.next HBE.out
          have Hx' : Hid (Tb wx2.heap.size sw vw ax cx kw wex8) := Hx.out.next HBE.out
          have HRS' : Hid (RSl wex8 0 wex8.heap.size (some ⟨rb, ro, none⟩) (places kw)) := HRS.out.next HBE.out
          have HPL' : Hid (ISl wex8 0 wex8.heap.size pA pl) := HPL.out.next HBE.out
          have HC' : Hid (wex8.cell? ⟨rb, ro + j, none⟩ = some (.slice pA pl.length pC)) := cell_low HBE.out HC.out
          clear Hlow Ht Hxr Hx HRS HPL HC
          have Hlow := Hlow'
          clear Hlow'
          have Ht := Ht'
          clear Ht'
          have Hxr := Hxr'
          clear Hxr'
          have Hx := Hx'
          clear Hx'
          have HRS := HRS'
          clear HRS'
          have HPL := HPL'
          clear HPL'
          have HC := HC'
          clear HC'
          clear HBE
          rcases HSTP.out with ⟨h1, h2⟩ | ⟨h1, h2, h3⟩ | ⟨h1, h2, h3⟩
          · have e0 : (s1 == 0) = false := by simpa using h1
            have HM2 : Hid (m = (nmL [] (pvs sw vw kw (j + 1))).length) := h2.symm
            clear h1 h2
            have qy0 := Hy.out.c0
            have qy1 := Hy.out.c1
            have qy2 := Hy.out.c2
            go_wp2_with fail
            go_roundw
            case rel => exact ⟨j + 1, m, rfl, by go_num, by omega, by omega, HM2, Hlow, Ht, Hxr, Hx, HRS⟩
            case measure => simp [intOf]; omega
          · subst h1
            have e1 : decide (v1 > (m : Int)) = false := decide_eq_false (by omega)
            have e2 : (v1 == (m : Int)) = false := by simp; omega
            have HM2 : Hid (m = (nmL [] (pvs sw vw kw (j + 1))).length) := h3.symm
            clear h2 h3
            have qy0 := Hy.out.c0
            have qy1 := Hy.out.c1
            have qy2 := Hy.out.c2
            go_wp2_with fail
            go_roundw
            case rel => exact ⟨j + 1, m, rfl, by go_num, by omega, by omega, HM2, Hlow, Ht, Hxr, Hx, HRS⟩
            case measure => simp [intOf]; omega
          · subst h1
            subst h2
            have e1 : decide ((m : Int) > (m : Int)) = false := decide_eq_false (by omega)
            have e2 : ((m : Int) == (m : Int)) = true := by simp
            have HM2 : Hid (m + 1 = (nmL [] (pvs sw vw kw (j + 1))).length) := h3.symm
            clear h3
            have qy0 := Hy.out.c0
            have qy1 := Hy.out.c1
            have qy2 := Hy.out.c2
            go_wp2_with fail
            go_roundw
            case rel => exact ⟨j + 1, (m + 1), by go_num, by go_num, by omega, by omega, HM2, Hlow, Ht, Hxr, Hx, HRS⟩
            case measure => simp [intOf]; omega
        · go_simp
          have HZ := Lib.hid (zb_new wdx8)
          have hbz : wr.heap.size ≤ wdx8.heap.size := HBD.out.size
          have hbe : Below wdx8.heap.size wdx8 (wdx8.alloc (.cells #[.int .i64 0, .int .i64 0, .slice none 0 0] 25)) := (Below.refl _ _).alloc (Nat.le_refl _) _
          replace HBD := Lib.hid (HBD.out.trans (hbe.mono hbz))
          refine hK _ _ ⟨⟨_, HBD.out⟩, rfl⟩ ?_
          clear hK K hbe
          generalize wdx8.alloc (.cells #[.int .i64 0, .int .i64 0, .slice none 0 0] 25) = wzx8 at *
          refine anyT_one (i := 5) (by kernel_rfl) rfl (fun K hK => ?_)
          go_simp
          with_reducible refine (iTermAt_any sw vw ax cx kw pA pC pl _ ((Hx.out.next HBD.out).sl) (HPL.out.next HBD.out) (by omega)).mono ?_
          rintro e wpx8 ⟨ay, cy, s9, v9, k9, t9, hR, rfl, hb, hlx⟩
          rw [HAT.out] at hR
          simp only [Prod.mk.injEq] at hR
          obtain ⟨rfl, rfl, rfl, rfl⟩ := hR
          have HLX := Lib.hid hlx
          clear hlx
          have hlo : wr.heap.size ≤ wzx8.heap.size := HBD.out.size
          have hzl := HZ.out.lt
          replace HZ := Lib.hid (HZ.out.low hb)
          replace HBD := Lib.hid (HBD.out.trans (hb.mono hlo))
          refine hK _ _ ⟨⟨_, HBD.out⟩, rfl⟩ ?_
          clear hK K hb
          refine anyT_look (i := 6) rfl (by kernel_rfl) ⟨⟨_, HBD.out⟩, rfl⟩ (fun K hK => ?_)
          go_simp
          refine hK _ ?_
          clear hK K
          refine anyT_look (i := 7) rfl (by kernel_rfl) ⟨⟨_, HBD.out⟩, rfl⟩ (fun K hK => ?_)
          go_simp
          refine hK _ ?_
          clear hK K
          refine anyT_look (i := 8) rfl (by kernel_rfl) ⟨⟨_, HBD.out⟩, rfl⟩ (fun K hK => ?_)
          go_simp
          refine hK _ ?_
          clear hK K
          have hzz0 := HZ.out.z0
          have hzz1 := HZ.out.z1
          have hzz2 := HZ.out.z2
          have hzf0 := HZ.out.f 0
          have hzf1 := HZ.out.f 1
          have hzf2 := HZ.out.f 2
          have HFIN : Hid (Below wr.heap.size wr (((wpx8.setCell ⟨wdx8.heap.size, 0, none⟩ (.int .i64 s1)).setCell ⟨wdx8.heap.size, 1, none⟩ (.int .i64 v1)).setCell ⟨wdx8.heap.size, 2, none⟩ (.slice ay (flen k1) cy)) ∧ Tb wdx8.heap.size s1 v1 ay cy k1 (((wpx8.setCell ⟨wdx8.heap.size, 0, none⟩ (.int .i64 s1)).setCell ⟨wdx8.heap.size, 1, none⟩ (.int .i64 v1)).setCell ⟨wdx8.heap.size, 2, none⟩ (.slice ay (flen k1) cy))) := zb_fin HZ.out HBD.out hbz HLX.out (Nat.le_refl _) (.inl hzl)
          refine anyT_one (i := 10) (by kernel_rfl) rfl (fun K hK => ?_)
          go_simp
          refine hK _ _ ⟨⟨_, HFIN.out.1⟩, rfl⟩ ?_
          clear hK K hzz0 hzz1 hzz2 hzf0 hzf1 hzf2
          refine anyT_one (i := 11) (by kernel_rfl) rfl (fun K hK => ?_)
          go_simp
          refine hK _ _ ⟨⟨_, HFIN.out.1⟩, rfl⟩ ?_
          clear hK K
          refine anyT_done (by kernel_rfl) ?_
          have HBE := Lib.hid HFIN.out.1
          have Hy := Lib.hid HFIN.out.2
          clear HFIN HZ HLX HBD
          generalize (((wpx8.setCell ⟨wdx8.heap.size, 0, none⟩ (.int .i64 s1)).setCell ⟨wdx8.heap.size, 1, none⟩ (.int .i64 v1)).setCell ⟨wdx8.heap.size, 2, none⟩ (.slice ay (flen k1) cy)) = wex8 at *
          have Hlow' : Hid (Below w.heap.size w wex8) := below_next Hlow.out HBE.out
          have Ht' : Hid (Tb wa.heap.size s v a c k wex8) := Ht.out.next HBE.out
          have Hxr' : Hid (BSl wex8 0 wex8.heap.size Ax bw) := Hxr.out.next HBE.out
          have Hx' : Hid (Tb wx2.heap.size sw vw ax cx kw wex8) := Hx.out.next HBE.out
          have HRS' : Hid (RSl wex8 0 wex8.heap.size (some ⟨rb, ro, none⟩) (places kw)) := HRS.out.next HBE.out
          have HPL' : Hid (ISl wex8 0 wex8.heap.size pA pl) := HPL.out.next HBE.out
          have HC' : Hid (wex8.cell? ⟨rb, ro + j, none⟩ = some (.slice pA pl.length pC)) := cell_low HBE.out HC.out
          clear Hlow Ht Hxr Hx HRS HPL HC
          have Hlow := Hlow'
          clear Hlow'
          have Ht := Ht'
          clear Ht'
          have Hxr := Hxr'
          clear Hxr'
          have Hx := Hx'
          clear Hx'
          have HRS := HRS'
          clear HRS'
          have HPL := HPL'
          clear HPL'
          have HC := HC'
          clear HC'
          clear HBE
          rcases HSTP.out with ⟨h1, h2⟩ | ⟨h1, h2, h3⟩ | ⟨h1, h2, h3⟩
          · have e0 : (s1 == 0) = false := by simpa using h1
            have HM2 : Hid (m = (nmL [] (pvs sw vw kw (j + 1))).length) := h2.symm
            clear h1 h2
            have qy0 := Hy.out.c0
            have qy1 := Hy.out.c1
            have qy2 := Hy.out.c2
            go_wp2_with fail
            go_roundw
            case rel => exact ⟨j + 1, m, rfl, by go_num, by omega, by omega, HM2, Hlow, Ht, Hxr, Hx, HRS⟩
            case measure => simp [intOf]; omega
          · subst h1
            have e1 : decide (v1 > (m : Int)) = false := decide_eq_false (by omega)
            have e2 : (v1 == (m : Int)) = false := by simp; omega
            have HM2 : Hid (m = (nmL [] (pvs sw vw kw (j + 1))).length) := h3.symm
            clear h2 h3
            have qy0 := Hy.out.c0
            have qy1 := Hy.out.c1
            have qy2 := Hy.out.c2
            go_wp2_with fail
            go_roundw
            case rel => exact ⟨j + 1, m, rfl, by go_num, by omega, by omega, HM2, Hlow, Ht, Hxr, Hx, HRS⟩
            case measure => simp [intOf]; omega
          · subst h1
            subst h2
            have e1 : decide ((m : Int) > (m : Int)) = false := decide_eq_false (by omega)
            have e2 : ((m : Int) == (m : Int)) = true := by simp
            have HM2 : Hid (m + 1 = (nmL [] (pvs sw vw kw (j + 1))).length) := h3.symm
            clear h3
            have qy0 := Hy.out.c0
            have qy1 := Hy.out.c1
            have qy2 := Hy.out.c2
            go_wp2_with fail
            go_roundw
            case rel => exact ⟨j + 1, (m + 1), by go_num, by go_num, by omega, by omega, HM2, Hlow, Ht, Hxr, Hx, HRS⟩
            case measure => simp [intOf]; omega
      · have HME : Hid (m = (nms sw vw kw).length) := by rw [Hid, HMM.out, pvs_all ((okW_iff _ _ _ _).1 HOKX.out).1 ((okW_iff _ _ _ _).1 HOKX.out).2.1 (by omega)]; rfl
        have e1 : ((m : Int) == (xs.length : Int)) = true := by rw [HME.out, HXL.out]; simp
        have e2 : ((bw.length : Int) == (xs.length : Int)) = true := by rw [HSZ.out.2.2, HXL.out, HTL.out]; simp
        have e3 : (((tvR s v k).length : Int) == (xs.length : Int)) = true := by rw [HXL.out, HTL.out, nms_len HOK.out]; simp
        have qt0 := Ht.out.c0
        have qt1 := Ht.out.c1
        have qt2 := Ht.out.c2
        go_wp2_with fail
        with_reducible refine (iTermVars_any s v a c k _ Ht.out.sl).mono ?_
        rintro e wx8 ⟨AV2, CV2, xs2, rfl, rfl, hb, _⟩
        clear qt0 qt1 qt2
        have Hlow' : Hid (Below w.heap.size w wx8) := below_next Hlow.out hb
        have Ht' : Hid (Tb wa.heap.size s v a c k wx8) := Ht.out.next hb
        have Hxr' : Hid (BSl wx8 0 wx8.heap.size Ax bw) := Hxr.out.next hb
        have Hx' : Hid (Tb wx2.heap.size sw vw ax cx kw wx8) := Hx.out.next hb
        have HRS' : Hid (RSl wx8 0 wx8.heap.size AL (places kw)) := HRS.out.next hb
        clear Hlow Ht Hxr Hx HRS
        have Hlow := Hlow'
        clear Hlow'
        have Ht := Ht'
        clear Ht'
        have Hxr := Hxr'
        clear Hxr'
        have Hx := Hx'
        clear Hx'
        have HRS := HRS'
        clear HRS'
        clear hb
        go_wp2_with fail
        go_ret
        exact ⟨rfl, Hlow.out⟩
end Go.Proofs.Ytlaaihnokoeliab
