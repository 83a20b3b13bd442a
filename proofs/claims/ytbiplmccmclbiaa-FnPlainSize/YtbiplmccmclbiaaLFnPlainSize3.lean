/- Several texts in one: LawPSize. -/
import Derived.Test.YtbiplmccmclbiaaLFnPlainSize1
import Derived.Test.YtbiplmccmclbiaaLFnPlainSize2
import Derived.Test.YtbiplmccmclbiaaKMatch19
import Derived.Test.YtbiplmccmclbiaaKMatch14
import Derived.Test.YtbiplmccmclbiaaKMatch3
import Derived.Test.YtbiplmccmclbiaaKMatch20

/-! LawPSize: laws.FnPlainSize answers true at every code. -/
namespace Go.Proofs.Ytbiplmccmclbiaa
open Go.RowKit Go.Deep
attribute [local go_sem ↓] Go.wp_at_zero Go.wp_at_succ

set_option maxRecDepth 100000 in
set_option maxHeartbeats 4000000 in
theorem plainSize_walk (a0 : Option Addr) (len cap : Nat) (w : World) (hby : Bytes w a0 len) (hlen : len ≤ cap) :
    Calls Try.prog 11 #[.slice a0 len cap] w fun e w' => e = .returned (.bool true) ∧ Below w.heap.size w w' := by
  have HBY := Lib.hid hby
  clear hby
  by_cases hbiglen : 1048576 < len
  · go_enter Try.func11, Try.ntmps11
    go_wp2_with fail
    go_ret
    exact ⟨rfl, Below.refl _ _⟩
  go_enter Try.func11, Try.ntmps11
  go_wp2_with fail
  with_reducible refine (DrawTermPlain_any a0 len cap _ HBY.out hlen).mono ?_
  rintro e wa ⟨s, v, a, c, k, rfl, hSk, hb, hl⟩
  have Hlow := Lib.hid hb
  have HL := Lib.hid hl
  clear hb hl HBY
  have hbx : Below wa.heap.size wa (wa.alloc (.cells #[.int .i64 s, .int .i64 v, .slice a (flen k) c] 25)) := box_low _ _
  have Hn : Hid (Tb wa.heap.size s v a c k (wa.alloc (.cells #[.int .i64 s, .int .i64 v, .slice a (flen k) c] 25))) := Tb.new HL.out
  have Hlow' : Hid (Below w.heap.size w (wa.alloc (.cells #[.int .i64 s, .int .i64 v, .slice a (flen k) c] 25))) := below_next Hlow.out hbx
  clear Hlow
  have Hlow := Hlow'
  clear Hlow'
  have Ht := Hn
  clear Hn hbx
  clear HL
  have qt0 := Ht.out.c0
  have qt1 := Ht.out.c1
  have qt2 := Ht.out.c2
  go_wp2_with fail
  with_reducible refine (sTermPlain_any s v a c k _ Ht.out.sl).mono ?_
  rintro e wx1 ⟨aw, cw, Aw, Cw, sw, vw, kw, bw, hdw, rfl, hb, hlw, hsw⟩
  have HDw := Lib.hid hdw
  clear hdw
  clear qt0 qt1 qt2
  have Hlow' : Hid (Below w.heap.size w wx1) := below_next Hlow.out hb
  have Ht' : Hid (Tb wa.heap.size s v a c k wx1) := Ht.out.next hb
  clear Hlow Ht
  have Hlow := Hlow'
  clear Hlow'
  have Ht := Ht'
  clear Ht'
  clear hb
  have Hwr : Hid (BSl wx1 0 wx1.heap.size Aw bw) := hsw
  have Hlw := Lib.hid hlw
  clear hsw hlw
  have hbx : Below wx1.heap.size wx1 (wx1.alloc (.cells #[.int .i64 sw, .int .i64 vw, .slice aw (flen kw) cw] 25)) := box_low _ _
  have Hn : Hid (Tb wx1.heap.size sw vw aw cw kw (wx1.alloc (.cells #[.int .i64 sw, .int .i64 vw, .slice aw (flen kw) cw] 25))) := Tb.new Hlw.out
  have Hlow' : Hid (Below w.heap.size w (wx1.alloc (.cells #[.int .i64 sw, .int .i64 vw, .slice aw (flen kw) cw] 25))) := below_next Hlow.out hbx
  have Ht' : Hid (Tb wa.heap.size s v a c k (wx1.alloc (.cells #[.int .i64 sw, .int .i64 vw, .slice aw (flen kw) cw] 25))) := Ht.out.next hbx
  have Hwr' : Hid (BSl (wx1.alloc (.cells #[.int .i64 sw, .int .i64 vw, .slice aw (flen kw) cw] 25)) 0 (wx1.alloc (.cells #[.int .i64 sw, .int .i64 vw, .slice aw (flen kw) cw] 25)).heap.size Aw bw) := Hwr.out.next hbx
  clear Hlow Ht Hwr
  have Hlow := Hlow'
  clear Hlow'
  have Ht := Ht'
  clear Ht'
  have Hwr := Hwr'
  clear Hwr'
  have Hw := Hn
  clear Hn hbx
  clear Hlw
  have qt0 := Ht.out.c0
  have qt1 := Ht.out.c1
  have qt2 := Ht.out.c2
  go_wp2_with fail
  with_reducible refine (iTermPlain_any s v a c k _ Ht.out.sl).mono ?_
  rintro e wx2 ⟨ax, cx, Ax, Cx, sx, vx, kx, bx, hdx, rfl, hb, hlx, hsx⟩
  rw [HDw.out] at hdx
  simp only [Prod.mk.injEq] at hdx
  obtain ⟨⟨rfl, rfl, rfl⟩, rfl⟩ := hdx
  clear qt0 qt1 qt2
  have Hlow' : Hid (Below w.heap.size w wx2) := below_next Hlow.out hb
  have Ht' : Hid (Tb wa.heap.size s v a c k wx2) := Ht.out.next hb
  have Hwr' : Hid (BSl wx2 0 wx2.heap.size Aw bw) := Hwr.out.next hb
  have Hw' : Hid (Tb wx1.heap.size sw vw aw cw kw wx2) := Hw.out.next hb
  clear Hlow Ht Hwr Hw
  have Hlow := Hlow'
  clear Hlow'
  have Ht := Ht'
  clear Ht'
  have Hwr := Hwr'
  clear Hwr'
  have Hw := Hw'
  clear Hw'
  clear hb
  have Hxr : Hid (BSl wx2 0 wx2.heap.size Ax bw) := hsx
  have Hlx := Lib.hid hlx
  clear hsx hlx
  have hbx : Below wx2.heap.size wx2 (wx2.alloc (.cells #[.int .i64 sw, .int .i64 vw, .slice ax (flen kw) cx] 25)) := box_low _ _
  have Hn : Hid (Tb wx2.heap.size sw vw ax cx kw (wx2.alloc (.cells #[.int .i64 sw, .int .i64 vw, .slice ax (flen kw) cx] 25))) := Tb.new Hlx.out
  have Hlow' : Hid (Below w.heap.size w (wx2.alloc (.cells #[.int .i64 sw, .int .i64 vw, .slice ax (flen kw) cx] 25))) := below_next Hlow.out hbx
  have Ht' : Hid (Tb wa.heap.size s v a c k (wx2.alloc (.cells #[.int .i64 sw, .int .i64 vw, .slice ax (flen kw) cx] 25))) := Ht.out.next hbx
  have Hwr' : Hid (BSl (wx2.alloc (.cells #[.int .i64 sw, .int .i64 vw, .slice ax (flen kw) cx] 25)) 0 (wx2.alloc (.cells #[.int .i64 sw, .int .i64 vw, .slice ax (flen kw) cx] 25)).heap.size Aw bw) := Hwr.out.next hbx
  have Hw' : Hid (Tb wx1.heap.size sw vw aw cw kw (wx2.alloc (.cells #[.int .i64 sw, .int .i64 vw, .slice ax (flen kw) cx] 25))) := Hw.out.next hbx
  have Hxr' : Hid (BSl (wx2.alloc (.cells #[.int .i64 sw, .int .i64 vw, .slice ax (flen kw) cx] 25)) 0 (wx2.alloc (.cells #[.int .i64 sw, .int .i64 vw, .slice ax (flen kw) cx] 25)).heap.size Ax bw) := Hxr.out.next hbx
  clear Hlow Ht Hwr Hw Hxr
  have Hlow := Hlow'
  clear Hlow'
  have Ht := Ht'
  clear Ht'
  have Hwr := Hwr'
  clear Hwr'
  have Hw := Hw'
  clear Hw'
  have Hxr := Hxr'
  clear Hxr'
  have Hx := Hn
  clear Hn hbx
  clear Hlx
  have HSM := Lib.hid (plR_small HDw.out)
  have qx0 := Hx.out.c0
  have qx1 := Hx.out.c1
  have qx2 := Hx.out.c2
  have qw0 := Hw.out.c0
  have qw1 := Hw.out.c1
  have qw2 := Hw.out.c2
  go_wp2_with fail
  with_reducible refine (laTerm_same (fsz kw) sw vw ax aw cx cw kw _ Hx.out.sl Hw.out.sl (Nat.le_refl _) (by have := HSM.out.1; omega)).mono ?_
  rintro e wx3 ⟨rfl, hb⟩
  clear qx0 qx1 qx2 qw0 qw1 qw2
  have Hlow' : Hid (Below w.heap.size w wx3) := below_next Hlow.out hb
  have Ht' : Hid (Tb wa.heap.size s v a c k wx3) := Ht.out.next hb
  have Hwr' : Hid (BSl wx3 0 wx3.heap.size Aw bw) := Hwr.out.next hb
  have Hw' : Hid (Tb wx1.heap.size sw vw aw cw kw wx3) := Hw.out.next hb
  have Hxr' : Hid (BSl wx3 0 wx3.heap.size Ax bw) := Hxr.out.next hb
  have Hx' : Hid (Tb wx2.heap.size sw vw ax cx kw wx3) := Hx.out.next hb
  clear Hlow Ht Hwr Hw Hxr Hx
  have Hlow := Hlow'
  clear Hlow'
  have Ht := Ht'
  clear Ht'
  have Hwr := Hwr'
  clear Hwr'
  have Hw := Hw'
  clear Hw'
  have Hxr := Hxr'
  clear Hxr'
  have Hx := Hx'
  clear Hx'
  clear hb
  go_wp2_with fail
  with_reducible refine (laSubst_same bw Ax Aw Cx Cw _ Hxr.out Hwr.out (by have := HSM.out.2.1; omega) HSM.out.2.2).mono ?_
  rintro e wx4 ⟨rfl, hb⟩
  have Hlow' : Hid (Below w.heap.size w wx4) := below_next Hlow.out hb
  have Ht' : Hid (Tb wa.heap.size s v a c k wx4) := Ht.out.next hb
  have Hwr' : Hid (BSl wx4 0 wx4.heap.size Aw bw) := Hwr.out.next hb
  have Hw' : Hid (Tb wx1.heap.size sw vw aw cw kw wx4) := Hw.out.next hb
  have Hxr' : Hid (BSl wx4 0 wx4.heap.size Ax bw) := Hxr.out.next hb
  have Hx' : Hid (Tb wx2.heap.size sw vw ax cx kw wx4) := Hx.out.next hb
  clear Hlow Ht Hwr Hw Hxr Hx
  have Hlow := Hlow'
  clear Hlow'
  have Ht := Ht'
  clear Ht'
  have Hwr := Hwr'
  clear Hwr'
  have Hw := Hw'
  clear Hw'
  have Hxr := Hxr'
  clear Hxr'
  have Hx := Hx'
  clear Hx'
  clear hb
  cases hok : okW s v k 16 with
  | false =>
    have HOK := Lib.hid hok
    clear hok
    have qt0 := Ht.out.c0
    have qt1 := Ht.out.c1
    have qt2 := Ht.out.c2
    go_wp2_with fail
    with_reducible refine (sTermOk_any s v a c k _ Ht.out.sl).mono ?_
    rw [HOK.out]
    rintro e wx5 ⟨rfl, hb⟩
    clear qt0 qt1 qt2
    have Hlow' : Hid (Below w.heap.size w wx5) := below_next Hlow.out hb
    have Ht' : Hid (Tb wa.heap.size s v a c k wx5) := Ht.out.next hb
    have Hwr' : Hid (BSl wx5 0 wx5.heap.size Aw bw) := Hwr.out.next hb
    have Hw' : Hid (Tb wx1.heap.size sw vw aw cw kw wx5) := Hw.out.next hb
    have Hxr' : Hid (BSl wx5 0 wx5.heap.size Ax bw) := Hxr.out.next hb
    have Hx' : Hid (Tb wx2.heap.size sw vw ax cx kw wx5) := Hx.out.next hb
    clear Hlow Ht Hwr Hw Hxr Hx
    have Hlow := Hlow'
    clear Hlow'
    have Ht := Ht'
    clear Ht'
    have Hwr := Hwr'
    clear Hwr'
    have Hw := Hw'
    clear Hw'
    have Hxr := Hxr'
    clear Hxr'
    have Hx := Hx'
    clear Hx'
    clear hb
    have qx0 := Hx.out.c0
    have qx1 := Hx.out.c1
    have qx2 := Hx.out.c2
    have qw0 := Hw.out.c0
    have qw1 := Hw.out.c1
    have qw2 := Hw.out.c2
    go_wp2_with fail
    with_reducible refine (laTerm_same (fsz kw) sw vw ax aw cx cw kw _ Hx.out.sl Hw.out.sl (Nat.le_refl _) (by have := HSM.out.1; omega)).mono ?_
    rintro e wx6 ⟨rfl, hb⟩
    clear qx0 qx1 qx2 qw0 qw1 qw2
    have Hlow' : Hid (Below w.heap.size w wx6) := below_next Hlow.out hb
    have Ht' : Hid (Tb wa.heap.size s v a c k wx6) := Ht.out.next hb
    have Hwr' : Hid (BSl wx6 0 wx6.heap.size Aw bw) := Hwr.out.next hb
    have Hw' : Hid (Tb wx1.heap.size sw vw aw cw kw wx6) := Hw.out.next hb
    have Hxr' : Hid (BSl wx6 0 wx6.heap.size Ax bw) := Hxr.out.next hb
    have Hx' : Hid (Tb wx2.heap.size sw vw ax cx kw wx6) := Hx.out.next hb
    clear Hlow Ht Hwr Hw Hxr Hx
    have Hlow := Hlow'
    clear Hlow'
    have Ht := Ht'
    clear Ht'
    have Hwr := Hwr'
    clear Hwr'
    have Hw := Hw'
    clear Hw'
    have Hxr := Hxr'
    clear Hxr'
    have Hx := Hx'
    clear Hx'
    clear hb
    go_wp2_with fail
    with_reducible refine (laSubst_same bw Ax Aw Cx Cw _ Hxr.out Hwr.out (by have := HSM.out.2.1; omega) HSM.out.2.2).mono ?_
    rintro e wx7 ⟨rfl, hb⟩
    have Hlow' : Hid (Below w.heap.size w wx7) := below_next Hlow.out hb
    have Ht' : Hid (Tb wa.heap.size s v a c k wx7) := Ht.out.next hb
    have Hwr' : Hid (BSl wx7 0 wx7.heap.size Aw bw) := Hwr.out.next hb
    have Hw' : Hid (Tb wx1.heap.size sw vw aw cw kw wx7) := Hw.out.next hb
    have Hxr' : Hid (BSl wx7 0 wx7.heap.size Ax bw) := Hxr.out.next hb
    have Hx' : Hid (Tb wx2.heap.size sw vw ax cx kw wx7) := Hx.out.next hb
    clear Hlow Ht Hwr Hw Hxr Hx
    have Hlow := Hlow'
    clear Hlow'
    have Ht := Ht'
    clear Ht'
    have Hwr := Hwr'
    clear Hwr'
    have Hw := Hw'
    clear Hw'
    have Hxr := Hxr'
    clear Hxr'
    have Hx := Hx'
    clear Hx'
    clear hb
    go_wp2_with fail
    go_ret
    exact ⟨rfl, Hlow.out⟩
  | true =>
    have HOK := Lib.hid hok
    have hk16 := ((okW_iff _ _ _ _).1 hok).2.2
    clear hok
    have qt0 := Ht.out.c0
    have qt1 := Ht.out.c1
    have qt2 := Ht.out.c2
    go_wp2_with fail
    with_reducible refine (sTermOk_any s v a c k _ Ht.out.sl).mono ?_
    rw [HOK.out]
    rintro e wx5 ⟨rfl, hb⟩
    clear qt0 qt1 qt2
    have Hlow' : Hid (Below w.heap.size w wx5) := below_next Hlow.out hb
    have Ht' : Hid (Tb wa.heap.size s v a c k wx5) := Ht.out.next hb
    have Hwr' : Hid (BSl wx5 0 wx5.heap.size Aw bw) := Hwr.out.next hb
    have Hw' : Hid (Tb wx1.heap.size sw vw aw cw kw wx5) := Hw.out.next hb
    have Hxr' : Hid (BSl wx5 0 wx5.heap.size Ax bw) := Hxr.out.next hb
    have Hx' : Hid (Tb wx2.heap.size sw vw ax cx kw wx5) := Hx.out.next hb
    clear Hlow Ht Hwr Hw Hxr Hx
    have Hlow := Hlow'
    clear Hlow'
    have Ht := Ht'
    clear Ht'
    have Hwr := Hwr'
    clear Hwr'
    have Hw := Hw'
    clear Hw'
    have Hxr := Hxr'
    clear Hxr'
    have Hx := Hx'
    clear Hx'
    clear hb
    have HOKX : Hid (okW sw vw kw 16 = true) := by rcases plR_cases HDw.out with ⟨h, _⟩ | ⟨_, _, _, h, _⟩; (rw [HOK.out] at h; cases h); exact h
    have HSZ : Hid (fsz kw = fsz k ∧ places kw = places k ∧ bw = nms s v k) := by rcases plR_cases HDw.out with ⟨h, _⟩ | ⟨_, h0, _, _, h1, h2⟩; (rw [HOK.out] at h; cases h); exact ⟨h1, h2, h0⟩
    clear Hw Hwr
    go_wp2_with fail
    generalize wx5 = wv at *
    have hu0 : ∀ u : After wv.heap.size wv, u.world.cell? ⟨wx2.heap.size, 0, none⟩ = some (.int .i64 sw) := fun u => cell_low u.below Hx.out.c0
    have hu1 : ∀ u : After wv.heap.size wv, u.world.cell? ⟨wx2.heap.size, 1, none⟩ = some (.int .i64 vw) := fun u => cell_low u.below Hx.out.c1
    have hu2 : ∀ u : After wv.heap.size wv, u.world.cell? ⟨wx2.heap.size, 2, none⟩ = some (.slice ax (flen kw) cx) := fun u => cell_low u.below Hx.out.c2
    have hu3 : ∀ u : After wv.heap.size wv, u.world.cell? ⟨wa.heap.size, 0, none⟩ = some (.int .i64 s) := fun u => cell_low u.below Ht.out.c0
    have hu4 : ∀ u : After wv.heap.size wv, u.world.cell? ⟨wa.heap.size, 1, none⟩ = some (.int .i64 v) := fun u => cell_low u.below Ht.out.c1
    have hu5 : ∀ u : After wv.heap.size wv, u.world.cell? ⟨wa.heap.size, 2, none⟩ = some (.slice a (flen k) c) := fun u => cell_low u.below Ht.out.c2
    have HSOK : Hid (sok 16 bw = true) := by rw [Hid, HSZ.out.2.2]; exact nms_sok HOK.out
    have hzz := HSZ.out.1
    have e1 : ((1 + (fsz kw : Int)) == (1 + (fsz k : Int))) = true := by simp; omega
    have HPK : Hid ((places k).length ≤ 2000 ∧ ∀ r ∈ places k, r.length ≤ 2000) := ⟨by rw [places_len]; omega, fun r hr => by have := places_deep hr; omega⟩
    clear hzz
    refine wp_region_mix (fun w' => ∃ u : After wv.heap.size wv, w' = u.world) [] [(0, 0), (2, 0), (1, 1), (3, 1), (4, 0), (5, 0), (6, 0), (8, 0), (7, 1), (9, 1), (10, 1), (11, 0), (12, 0), (13, 0), (14, 1), (15, 0), (16, 1)] (by kernel_rfl) (by kernel_rfl) ⟨⟨_, (Below.refl _ _).drew⟩, rfl⟩ ?_
    have HBD : Hid (Below wv.heap.size wv wv.drew) := (Below.refl _ _).drew
    generalize wv.drew = wd at *
    iterate 2
      refine mix_see rfl (fun K hK => ?_)
      go_simp
      refine hK _ ?_
      clear hK K
    refine mix_hold rfl (fun K hK => ?_)
    go_simp
    with_reducible refine (iTermSize_any sw vw ax cx kw _ (Hx.out.sl.next HBD.out)).mono ?_
    rw [if_pos HOKX.out]
    rintro e wpx6 ⟨rfl, hb⟩
    replace HBD := Lib.hid (below_next HBD.out hb)
    refine hK _ _ ⟨⟨_, HBD.out⟩, rfl⟩ ?_
    clear hK K hb
    refine mix_hold rfl (fun K hK => ?_)
    go_simp
    with_reducible refine (iTermSize_any s v a c k _ (Ht.out.sl.next HBD.out)).mono ?_
    rw [if_pos HOK.out]
    rintro e wpx7 ⟨rfl, hb⟩
    replace HBD := Lib.hid (below_next HBD.out hb)
    refine hK _ _ ⟨⟨_, HBD.out⟩, rfl⟩ ?_
    clear hK K hb
    iterate 4
      refine mix_see rfl (fun K hK => ?_)
      go_simp
      refine hK _ ?_
      clear hK K
    clear hu0 hu1 hu2 hu3 hu4 hu5
    refine mix_hold rfl (fun K hK => ?_)
    go_simp
    with_reducible refine (iTermPlaces_any sw vw ax cx kw _ (Hx.out.sl.next HBD.out)).mono ?_
    rintro e wpx8 ⟨AL, CL, rows, rfl, hrows, hb, hrs⟩
    rw [if_pos HOKX.out, HSZ.out.2.1] at hrows
    subst hrows
    have HR1 := Lib.hid hrs
    clear hrs
    replace HBD := Lib.hid (below_next HBD.out hb)
    refine hK _ _ ⟨⟨_, HBD.out⟩, rfl⟩ ?_
    clear hK K hb
    refine mix_hold rfl (fun K hK => ?_)
    go_simp
    with_reducible refine (iTermPlaces_any s v a c k _ (Ht.out.sl.next HBD.out)).mono ?_
    rintro e wpx9 ⟨AM, CM, rows, rfl, hrows, hb, hrs⟩
    rw [if_pos HOK.out] at hrows
    subst hrows
    have HR2 := Lib.hid hrs
    replace HR1 := Lib.hid (HR1.out.next hb)
    clear hrs
    replace HBD := Lib.hid (below_next HBD.out hb)
    refine hK _ _ ⟨⟨_, HBD.out⟩, rfl⟩ ?_
    clear hK K hb
    refine mix_hold rfl (fun K hK => ?_)
    go_simp
    with_reducible refine (laRows_same (places k) AL AM CL CM (places k).length (places k).length _ HR1.out (HR2.out.mono (Nat.zero_le _) (Nat.le_refl _)) rfl rfl HPK.out.1 HPK.out.2).mono ?_
    rintro e wpx10 ⟨rfl, hb⟩
    replace HBD := Lib.hid (below_next HBD.out hb)
    refine hK _ _ ⟨⟨_, HBD.out⟩, rfl⟩ ?_
    clear hK K hb
    iterate 3
      refine mix_see rfl (fun K hK => ?_)
      go_simp
      refine hK _ ?_
      clear hK K
    refine mix_hold rfl (fun K hK => ?_)
    go_simp
    with_reducible refine (iSubstOk_any bw Ax Cx _ (Hxr.out.next HBD.out) (by have := HSM.out.2.1; omega)).mono ?_
    rw [HSOK.out]
    rintro e wpx11 ⟨rfl, hb⟩
    replace HBD := Lib.hid (below_next HBD.out hb)
    refine hK _ _ ⟨⟨_, HBD.out⟩, rfl⟩ ?_
    clear hK K hb
    iterate 1
      refine mix_see rfl (fun K hK => ?_)
      go_simp
      refine hK _ ?_
      clear hK K
    refine mix_hold rfl (fun K hK => ?_)
    go_simp
    refine hK _ _ ⟨⟨_, HBD.out⟩, rfl⟩ ?_
    clear hK K
    refine mix_end ?_
    have Hlow2 := Lib.hid (below_next Hlow.out HBD.out)
    go_wp2_with fail
    go_ret
    exact ⟨rfl, Hlow2.out⟩
end Go.Proofs.Ytbiplmccmclbiaa
