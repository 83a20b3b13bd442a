/- Several texts in one: LawMParts. -/
import Derived.Test.YtlaaihnokoeliaaKMat15
import Derived.Test.YtlaaihnokoeliaaKMat19
import Derived.Test.YtlaaihnokoeliaaKMat20
import Derived.Test.YtlaaihnokoeliaaKMat3
import Derived.Test.YtlaaihnokoeliaaKMat10
import Derived.Test.YtlaaihnokoeliaaKMat16

/-! LawMParts: laws.FnMatchParts answers true at every code. -/
namespace Go.Proofs.Ytlaaihnokoeliaa
open Go.RowKit Go.Deep
attribute [local go_sem ↓] Go.wp_at_zero Go.wp_at_succ

set_option maxRecDepth 100000 in
set_option maxHeartbeats 4000000 in
theorem matchParts_walk (a0 : Option Addr) (len cap : Nat) (w : World) (hby : Bytes w a0 len) (hlen : len ≤ cap) :
    Calls Try.prog 6 #[.slice a0 len cap] w fun e w' => e = .returned (.bool true) ∧ Below w.heap.size w w' := by
  have HBY := Lib.hid hby
  clear hby
  by_cases hbiglen : 1048576 < len
  · go_enter Try.func6, Try.ntmps6
    go_wp2_with fail
    go_ret
    exact ⟨rfl, Below.refl _ _⟩
  go_enter Try.func6, Try.ntmps6
  go_wp2_with fail
  with_reducible refine (DrawMatchOf_z a0 len cap _ HBY.out hlen).mono ?_
  rintro e wa ⟨s, v, a, c, k, s2, v2, a2, c2, k2, rfl, ⟨hSk, hZ⟩, ⟨hSk2, hZ2⟩, hb, hl, hl2⟩
  have Hlow := Lib.hid hb
  have HZ := Lib.hid hZ
  have HZ2 := Lib.hid hZ2
  have HL := Lib.hid hl
  have Hm : Hid (Sl wa 0 wa.heap.size a2 k2) := hl2.mono (Nat.zero_le _) (Nat.le_refl _)
  clear hb hl hl2 HBY hZ hZ2
  have hbx : Below wa.heap.size wa (wa.alloc (.cells #[.int .i64 s, .int .i64 v, .slice a (flen k) c] 25)) := box_low _ _
  have Hn : Hid (Tb wa.heap.size s v a c k (wa.alloc (.cells #[.int .i64 s, .int .i64 v, .slice a (flen k) c] 25))) := Tb.new HL.out
  have Hlow' : Hid (Below w.heap.size w (wa.alloc (.cells #[.int .i64 s, .int .i64 v, .slice a (flen k) c] 25))) := below_next Hlow.out hbx
  have Hm' : Hid (Sl (wa.alloc (.cells #[.int .i64 s, .int .i64 v, .slice a (flen k) c] 25)) 0 (wa.alloc (.cells #[.int .i64 s, .int .i64 v, .slice a (flen k) c] 25)).heap.size a2 k2) := Hm.out.next hbx
  clear Hlow Hm
  have Hlow := Hlow'
  clear Hlow'
  have Hm := Hm'
  clear Hm'
  have Hp := Hn
  clear Hn hbx
  clear HL
  have hbx : Below (wa.alloc (.cells #[.int .i64 s, .int .i64 v, .slice a (flen k) c] 25)).heap.size (wa.alloc (.cells #[.int .i64 s, .int .i64 v, .slice a (flen k) c] 25)) ((wa.alloc (.cells #[.int .i64 s, .int .i64 v, .slice a (flen k) c] 25)).alloc (.cells #[.int .i64 s2, .int .i64 v2, .slice a2 (flen k2) c2] 25)) := box_low _ _
  have Hn : Hid (Tb (wa.heap.size + 1) s2 v2 a2 c2 k2 ((wa.alloc (.cells #[.int .i64 s, .int .i64 v, .slice a (flen k) c] 25)).alloc (.cells #[.int .i64 s2, .int .i64 v2, .slice a2 (flen k2) c2] 25))) := (show (wa.alloc (.cells #[.int .i64 s, .int .i64 v, .slice a (flen k) c] 25)).heap.size = (wa.heap.size + 1) from by simp) ▸ Tb.new Hm.out
  have Hlow' : Hid (Below w.heap.size w ((wa.alloc (.cells #[.int .i64 s, .int .i64 v, .slice a (flen k) c] 25)).alloc (.cells #[.int .i64 s2, .int .i64 v2, .slice a2 (flen k2) c2] 25))) := below_next Hlow.out hbx
  have Hm' : Hid (Sl ((wa.alloc (.cells #[.int .i64 s, .int .i64 v, .slice a (flen k) c] 25)).alloc (.cells #[.int .i64 s2, .int .i64 v2, .slice a2 (flen k2) c2] 25)) 0 ((wa.alloc (.cells #[.int .i64 s, .int .i64 v, .slice a (flen k) c] 25)).alloc (.cells #[.int .i64 s2, .int .i64 v2, .slice a2 (flen k2) c2] 25)).heap.size a2 k2) := Hm.out.next hbx
  have Hp' : Hid (Tb wa.heap.size s v a c k ((wa.alloc (.cells #[.int .i64 s, .int .i64 v, .slice a (flen k) c] 25)).alloc (.cells #[.int .i64 s2, .int .i64 v2, .slice a2 (flen k2) c2] 25))) := Hp.out.next hbx
  clear Hlow Hm Hp
  have Hlow := Hlow'
  clear Hlow'
  have Hm := Hm'
  clear Hm'
  have Hp := Hp'
  clear Hp'
  have Ht := Hn
  clear Hn hbx
  clear Hm
  have qp0 := Hp.out.c0
  have qp1 := Hp.out.c1
  have qp2 := Hp.out.c2
  have qt0 := Ht.out.c0
  have qt1 := Ht.out.c1
  have qt2 := Ht.out.c2
  go_wp2_with fail
  with_reducible refine (sMatchOf_any s v a c k s2 v2 a2 c2 k2 _ Hp.out.sl Ht.out.sl).mono ?_
  rintro e wx1 ⟨Aw, Cw, bw, tw, hdw, rfl, hb, hsw⟩
  have HDw := Lib.hid hdw
  clear hdw
  clear qp0 qp1 qp2 qt0 qt1 qt2
  have Hlow' : Hid (Below w.heap.size w wx1) := below_next Hlow.out hb
  have Hp' : Hid (Tb wa.heap.size s v a c k wx1) := Hp.out.next hb
  have Ht' : Hid (Tb (wa.heap.size + 1) s2 v2 a2 c2 k2 wx1) := Ht.out.next hb
  clear Hlow Hp Ht
  have Hlow := Hlow'
  clear Hlow'
  have Hp := Hp'
  clear Hp'
  have Ht := Ht'
  clear Ht'
  clear hb
  have Hw : Hid (BSl wx1 0 wx1.heap.size Aw bw) := hsw
  clear hsw
  have qp0 := Hp.out.c0
  have qp1 := Hp.out.c1
  have qp2 := Hp.out.c2
  have qt0 := Ht.out.c0
  have qt1 := Ht.out.c1
  have qt2 := Ht.out.c2
  go_wp2_with fail
  with_reducible refine (iMatchOf_any s v a c k s2 v2 a2 c2 k2 _ Hp.out.sl Ht.out.sl).mono ?_
  rintro e wx2 ⟨Ax, Cx, bx, tx, hdx, rfl, hb, hsx⟩
  rw [HDw.out] at hdx
  simp only [Prod.mk.injEq] at hdx
  obtain ⟨rfl, rfl⟩ := hdx
  clear qp0 qp1 qp2 qt0 qt1 qt2
  have Hlow' : Hid (Below w.heap.size w wx2) := below_next Hlow.out hb
  have Hp' : Hid (Tb wa.heap.size s v a c k wx2) := Hp.out.next hb
  have Ht' : Hid (Tb (wa.heap.size + 1) s2 v2 a2 c2 k2 wx2) := Ht.out.next hb
  have Hw' : Hid (BSl wx2 0 wx2.heap.size Aw bw) := Hw.out.next hb
  clear Hlow Hp Ht Hw
  have Hlow := Hlow'
  clear Hlow'
  have Hp := Hp'
  clear Hp'
  have Ht := Ht'
  clear Ht'
  have Hw := Hw'
  clear Hw'
  clear hb
  have Hx : Hid (BSl wx2 0 wx2.heap.size Ax bw) := hsx
  clear hsx
  have HSM := Lib.hid (ma_small HDw.out)
  have eb : (tw != tw) = false := by simp
  have eb2 : (tw == tw) = true := by simp
  go_wp2_with fail
  with_reducible refine (laSubst_same bw Ax Aw Cx Cw _ Hx.out Hw.out (by have := HSM.out.1; omega) HSM.out.2).mono ?_
  rintro e wx3 ⟨rfl, hb⟩
  have Hlow' : Hid (Below w.heap.size w wx3) := below_next Hlow.out hb
  have Hp' : Hid (Tb wa.heap.size s v a c k wx3) := Hp.out.next hb
  have Ht' : Hid (Tb (wa.heap.size + 1) s2 v2 a2 c2 k2 wx3) := Ht.out.next hb
  have Hw' : Hid (BSl wx3 0 wx3.heap.size Aw bw) := Hw.out.next hb
  have Hx' : Hid (BSl wx3 0 wx3.heap.size Ax bw) := Hx.out.next hb
  clear Hlow Hp Ht Hw Hx
  have Hlow := Hlow'
  clear Hlow'
  have Hp := Hp'
  clear Hp'
  have Ht := Ht'
  clear Ht'
  have Hw := Hw'
  clear Hw'
  have Hx := Hx'
  clear Hx'
  clear hb
  cases tw with
  | false =>
    go_wp2_with fail
    with_reducible refine (laSubst_same bw Ax Aw Cx Cw _ Hx.out Hw.out (by have := HSM.out.1; omega) HSM.out.2).mono ?_
    rintro e wx4 ⟨rfl, hb⟩
    have Hlow' : Hid (Below w.heap.size w wx4) := below_next Hlow.out hb
    have Hp' : Hid (Tb wa.heap.size s v a c k wx4) := Hp.out.next hb
    have Ht' : Hid (Tb (wa.heap.size + 1) s2 v2 a2 c2 k2 wx4) := Ht.out.next hb
    have Hw' : Hid (BSl wx4 0 wx4.heap.size Aw bw) := Hw.out.next hb
    have Hx' : Hid (BSl wx4 0 wx4.heap.size Ax bw) := Hx.out.next hb
    clear Hlow Hp Ht Hw Hx
    have Hlow := Hlow'
    clear Hlow'
    have Hp := Hp'
    clear Hp'
    have Ht := Ht'
    clear Ht'
    have Hw := Hw'
    clear Hw'
    have Hx := Hx'
    clear Hx'
    clear hb
    go_wp2_with fail
    go_ret
    exact ⟨rfl, Hlow.out⟩
  | true =>
    clear eb eb2
    have HOK : Hid (okW s v k 16 = true) := by rcases maR_cases HDw.out with ⟨h, _⟩ | ⟨_, h, _, _⟩; cases h; exact h
    have HOK2 : Hid (okW s2 v2 k2 16 = true) := by rcases maR_cases HDw.out with ⟨h, _⟩ | ⟨_, _, h, _⟩; cases h; exact h
    have hk16 := ((okW_iff _ _ _ _).1 HOK.out).2.2
    have hk216 := ((okW_iff _ _ _ _).1 HOK2.out).2.2
    clear Hw
    have qp0 := Hp.out.c0
    have qp1 := Hp.out.c1
    have qp2 := Hp.out.c2
    go_wp2_with fail
    with_reducible refine (iTermPlaces_any s v a c k _ Hp.out.sl).mono ?_
    rintro e wx4 ⟨AL, CL, rows, rfl, hrows, hb, hrs⟩
    rw [if_pos HOK.out] at hrows
    subst hrows
    have HRS := Lib.hid (hrs.mono (lo' := 0) (Nat.zero_le _) (Nat.le_refl _))
    have hpk : (places k).length ≤ 16 := by rw [places_len]; omega
    clear hrs
    clear qp0 qp1 qp2
    have Hlow' : Hid (Below w.heap.size w wx4) := below_next Hlow.out hb
    have Hp' : Hid (Tb wa.heap.size s v a c k wx4) := Hp.out.next hb
    have Ht' : Hid (Tb (wa.heap.size + 1) s2 v2 a2 c2 k2 wx4) := Ht.out.next hb
    have Hx' : Hid (BSl wx4 0 wx4.heap.size Ax bw) := Hx.out.next hb
    clear Hlow Hp Ht Hx
    have Hlow := Hlow'
    clear Hlow'
    have Hp := Hp'
    clear Hp'
    have Ht := Ht'
    clear Ht'
    have Hx := Hx'
    clear Hx'
    clear hb
    go_wp2_with fail
    go_loopw [10] (fun i wr => ∃ j : Nat, i = .int .i64 j ∧ j ≤ (places k).length ∧ Hid (Below w.heap.size w wr) ∧ Hid (Tb wa.heap.size s v a c k wr) ∧ Hid (Tb (wa.heap.size + 1) s2 v2 a2 c2 k2 wr) ∧ Hid (BSl wr 0 wr.heap.size Ax bw) ∧ Hid (RSl wr 0 wr.heap.size AL (places k))) (fun i _ => (places k).length - (intOf i).toNat)
    case atStart => exact ⟨0, rfl, Nat.zero_le _, Hlow, Hp, Ht, Hx, HRS⟩
    case round =>
      clear Hlow Hp Ht Hx HRS
      obtain ⟨j, rfl, hj, Hlow, Hp, Ht, Hx, HRS⟩ := hrel
      by_cases hlt : j < (places k).length
      · have g1 : (0 : Int) ≤ (j : Int) := by omega
        have g2 : (j : Int) < ((places k).length : Int) := by omega
        obtain ⟨rb, ro, pA, pC, pl, hAL, _, hrb, hrp, hrc, hpl⟩ := rsl_at HRS.out hlt
        subst hAL
        have HPL := Lib.hid hpl
        have HC := Lib.hid hrc
        have hpll : pl.length ≤ 16 := by have h1 := places_deep (List.mem_of_getElem? hrp); omega
        have hmem := List.mem_of_getElem? hrp
        obtain ⟨s1, v1, k1, s3, v3, k3, b2, hat1, hat3, hm2⟩ := ma_parts HDw.out HZ.out HZ2.out hmem
        have HAT1 := Lib.hid hat1
        have HAT3 := Lib.hid hat3
        have HM2 := Lib.hid hm2
        clear hat1 hat3 hm2 hpl hrp hrc hmem
        have hu0 : ∀ u : After wr.heap.size wr, u.world.cell? ⟨wa.heap.size, 0, none⟩ = some (.int .i64 s) := fun u => cell_low u.below Hp.out.c0
        have hu1 : ∀ u : After wr.heap.size wr, u.world.cell? ⟨wa.heap.size, 1, none⟩ = some (.int .i64 v) := fun u => cell_low u.below Hp.out.c1
        have hu2 : ∀ u : After wr.heap.size wr, u.world.cell? ⟨wa.heap.size, 2, none⟩ = some (.slice a (flen k) c) := fun u => cell_low u.below Hp.out.c2
        have hu3 : ∀ u : After wr.heap.size wr, u.world.cell? ⟨rb, ro + j, none⟩ = some (.slice pA pl.length pC) := fun u => cell_low u.below HC.out
        go_wp2_with fail
        refine wp_region_anyT (fun w' => ∃ u : After wr.heap.size wr, w' = u.world) (by kernel_rfl) ?_
        have HBD : Hid (Below wr.heap.size wr wr.drew) := (Below.refl _ _).drew
        generalize wr.drew = wdx5 at *
        refine anyT_look (i := 0) rfl (by kernel_rfl) ⟨⟨_, HBD.out⟩, rfl⟩ (fun K hK => ?_)
        go_simp
        refine hK _ ?_
        clear hK K
        refine anyT_look (i := 1) rfl (by kernel_rfl) ⟨⟨_, HBD.out⟩, rfl⟩ (fun K hK => ?_)
        go_simp
        refine hK _ ?_
        clear hK K
        refine anyT_look (i := 2) rfl (by kernel_rfl) ⟨⟨_, HBD.out⟩, rfl⟩ (fun K hK => ?_)
        go_simp
        refine hK _ ?_
        clear hK K
        refine anyT_look (i := 3) rfl (by kernel_rfl) ⟨⟨_, HBD.out⟩, rfl⟩ (fun K hK => ?_)
        go_simp
        refine hK _ ?_
        clear hK K
        refine anyT_look (i := 4) rfl (by kernel_rfl) ⟨⟨_, HBD.out⟩, rfl⟩ (fun K hK => ?_)
        go_simp
        refine hK _ ?_
        clear hK K
        clear hu0 hu1 hu2 hu3
        refine anyT_two (i := 5) (j := 9) (by kernel_rfl) rfl rfl (fun K hK => ?_) (fun K hK => ?_)
        · go_simp
          with_reducible refine (iTermAt_any s v a c k pA pC pl _ ((Hp.out.next HBD.out).sl) (HPL.out.next HBD.out) (by omega)).mono ?_
          rintro e wpx5 ⟨ar, cr, s9, v9, k9, t9, hR, rfl, hb, hlx⟩
          rw [HAT1.out] at hR
          simp only [Prod.mk.injEq] at hR
          obtain ⟨rfl, rfl, rfl, rfl⟩ := hR
          have HLX := Lib.hid hlx
          clear hlx
          have hlo : wr.heap.size ≤ wdx5.heap.size := HBD.out.size
          replace HBD := Lib.hid (HBD.out.trans (hb.mono hlo))
          refine hK _ _ ⟨⟨_, HBD.out⟩, rfl⟩ ?_
          clear hK K hb
          refine anyT_look (i := 6) rfl (by kernel_rfl) ⟨⟨_, HBD.out⟩, rfl⟩ (fun K hK => ?_)
          go_simp
          refine hK _ ?_
          clear hK K
          refine anyT_look (i := 7) rfl (by kernel_rfl) ⟨⟨_, HBD.out⟩, rfl⟩ (fun K hK => ?_)
          go_simp
          refine hK _ ?_
          clear hK K
          refine anyT_look (i := 8) rfl (by kernel_rfl) ⟨⟨_, HBD.out⟩, rfl⟩ (fun K hK => ?_)
          go_simp
          refine hK _ ?_
          clear hK K
          refine anyT_one (i := 9) (by kernel_rfl) rfl (fun K hK => ?_)
          go_simp
          have HZ := Lib.hid (zb_new wpx5)
          have hbz : wr.heap.size ≤ wpx5.heap.size := HBD.out.size
          have hbe : Below wpx5.heap.size wpx5 (wpx5.alloc (.cells #[.int .i64 0, .int .i64 0, .slice none 0 0] 25)) := (Below.refl _ _).alloc (Nat.le_refl _) _
          replace HLX := Lib.hid (HLX.out.below hbe)
          replace HBD := Lib.hid (HBD.out.trans (hbe.mono hbz))
          refine hK _ _ ⟨⟨_, HBD.out⟩, rfl⟩ ?_
          have hze := hbe.size
          clear hK K hbe
          generalize wpx5.alloc (.cells #[.int .i64 0, .int .i64 0, .slice none 0 0] 25) = wzx5 at *
          have hzz0 := HZ.out.z0
          have hzz1 := HZ.out.z1
          have hzz2 := HZ.out.z2
          have hzf0 := HZ.out.f 0
          have hzf1 := HZ.out.f 1
          have hzf2 := HZ.out.f 2
          have HFIN : Hid (Below wr.heap.size wr (((wzx5.setCell ⟨wpx5.heap.size, 0, none⟩ (.int .i64 s1)).setCell ⟨wpx5.heap.size, 1, none⟩ (.int .i64 v1)).setCell ⟨wpx5.heap.size, 2, none⟩ (.slice ar (flen k1) cr)) ∧ Tb wpx5.heap.size s1 v1 ar cr k1 (((wzx5.setCell ⟨wpx5.heap.size, 0, none⟩ (.int .i64 s1)).setCell ⟨wpx5.heap.size, 1, none⟩ (.int .i64 v1)).setCell ⟨wpx5.heap.size, 2, none⟩ (.slice ar (flen k1) cr))) := zb_fin HZ.out HBD.out hbz HLX.out hze (.inr (Nat.le_refl _))
          refine anyT_one (i := 10) (by kernel_rfl) rfl (fun K hK => ?_)
          go_simp
          refine hK _ _ ⟨⟨_, HFIN.out.1⟩, rfl⟩ ?_
          clear hK K hzz0 hzz1 hzz2 hzf0 hzf1 hzf2
          refine anyT_one (i := 11) (by kernel_rfl) rfl (fun K hK => ?_)
          go_simp
          refine hK _ _ ⟨⟨_, HFIN.out.1⟩, rfl⟩ ?_
          clear hK K
          refine anyT_done (by kernel_rfl) ?_
          have HBE := Lib.hid HFIN.out.1
          have Hr := Lib.hid HFIN.out.2
          clear HFIN HZ HLX HBD
          generalize (((wzx5.setCell ⟨wpx5.heap.size, 0, none⟩ (.int .i64 s1)).setCell ⟨wpx5.heap.size, 1, none⟩ (.int .i64 v1)).setCell ⟨wpx5.heap.size, 2, none⟩ (.slice ar (flen k1) cr)) = wex5 at *
          have Hlow' : Hid (Below w.heap.size w wex5) := below_next Hlow.out HBE.out
          have Hp' : Hid (Tb wa.heap.size s v a c k wex5) := Hp.out.next HBE.out
          have Ht' : Hid (Tb (wa.heap.size + 1) s2 v2 a2 c2 k2 wex5) := Ht.out.next HBE.out
          have Hx' : Hid (BSl wex5 0 wex5.heap.size Ax bw) := Hx.out.next HBE.out
          have HRS' : Hid (RSl wex5 0 wex5.heap.size (some ⟨rb, ro, none⟩) (places k)) := HRS.out.next HBE.out
          have HPL' : Hid (ISl wex5 0 wex5.heap.size pA pl) := HPL.out.next HBE.out
          have HC' : Hid (wex5.cell? ⟨rb, ro + j, none⟩ = some (.slice pA pl.length pC)) := cell_low HBE.out HC.out
          clear Hlow Hp Ht Hx HRS HPL HC
          have Hlow := Hlow'
          clear Hlow'
          have Hp := Hp'
          clear Hp'
          have Ht := Ht'
          clear Ht'
          have Hx := Hx'
          clear Hx'
          have HRS := HRS'
          clear HRS'
          have HPL := HPL'
          clear HPL'
          have HC := HC'
          clear HC'
          clear HBE
          go_wp2_with fail
          have hu0 : ∀ u : After wex5.heap.size wex5, u.world.cell? ⟨wa.heap.size + 1, 0, none⟩ = some (.int .i64 s2) := fun u => cell_low u.below Ht.out.c0
          have hu1 : ∀ u : After wex5.heap.size wex5, u.world.cell? ⟨wa.heap.size + 1, 1, none⟩ = some (.int .i64 v2) := fun u => cell_low u.below Ht.out.c1
          have hu2 : ∀ u : After wex5.heap.size wex5, u.world.cell? ⟨wa.heap.size + 1, 2, none⟩ = some (.slice a2 (flen k2) c2) := fun u => cell_low u.below Ht.out.c2
          have hu3 : ∀ u : After wex5.heap.size wex5, u.world.cell? ⟨rb, ro + j, none⟩ = some (.slice pA pl.length pC) := fun u => cell_low u.below HC.out
          go_wp2_with fail
          refine wp_region_anyT (fun w' => ∃ u : After wex5.heap.size wex5, w' = u.world) (by kernel_rfl) ?_
          have HBD : Hid (Below wex5.heap.size wex5 wex5.drew) := (Below.refl _ _).drew
          generalize wex5.drew = wdx6 at *
          refine anyT_look (i := 0) rfl (by kernel_rfl) ⟨⟨_, HBD.out⟩, rfl⟩ (fun K hK => ?_)
          go_simp
          refine hK _ ?_
          clear hK K
          refine anyT_look (i := 1) rfl (by kernel_rfl) ⟨⟨_, HBD.out⟩, rfl⟩ (fun K hK => ?_)
          go_simp
          refine hK _ ?_
          clear hK K
          refine anyT_look (i := 2) rfl (by kernel_rfl) ⟨⟨_, HBD.out⟩, rfl⟩ (fun K hK => ?_)
          go_simp
          refine hK _ ?_
          clear hK K
          refine anyT_look (i := 3) rfl (by kernel_rfl) ⟨⟨_, HBD.out⟩, rfl⟩ (fun K hK => ?_)
          go_simp
          refine hK _ ?_
          clear hK K
          refine anyT_look (i := 4) rfl (by kernel_rfl) ⟨⟨_, HBD.out⟩, rfl⟩ (fun K hK => ?_)
          go_simp
          refine hK _ ?_
          clear hK K
          clear hu0 hu1 hu2 hu3
          refine anyT_two (i := 5) (j := 9) (by kernel_rfl) rfl rfl (fun K hK => ?_) (fun K hK => ?_)
          · go_simp
            with_reducible refine (iTermAt_any s2 v2 a2 c2 k2 pA pC pl _ ((Ht.out.next HBD.out).sl) (HPL.out.next HBD.out) (by omega)).mono ?_
            rintro e wpx6 ⟨aq, cq, s9, v9, k9, t9, hR, rfl, hb, hlx⟩
            rw [HAT3.out] at hR
            simp only [Prod.mk.injEq] at hR
            obtain ⟨rfl, rfl, rfl, rfl⟩ := hR
            have HLX := Lib.hid hlx
            clear hlx
            have hlo : wex5.heap.size ≤ wdx6.heap.size := HBD.out.size
            replace HBD := Lib.hid (HBD.out.trans (hb.mono hlo))
            refine hK _ _ ⟨⟨_, HBD.out⟩, rfl⟩ ?_
            clear hK K hb
            refine anyT_look (i := 6) rfl (by kernel_rfl) ⟨⟨_, HBD.out⟩, rfl⟩ (fun K hK => ?_)
            go_simp
            refine hK _ ?_
            clear hK K
            refine anyT_look (i := 7) rfl (by kernel_rfl) ⟨⟨_, HBD.out⟩, rfl⟩ (fun K hK => ?_)
            go_simp
            refine hK _ ?_
            clear hK K
            refine anyT_look (i := 8) rfl (by kernel_rfl) ⟨⟨_, HBD.out⟩, rfl⟩ (fun K hK => ?_)
            go_simp
            refine hK _ ?_
            clear hK K
            refine anyT_one (i := 9) (by kernel_rfl) rfl (fun K hK => ?_)
            go_simp
            have HZ := Lib.hid (zb_new wpx6)
            have hbz : wex5.heap.size ≤ wpx6.heap.size := HBD.out.size
            have hbe : Below wpx6.heap.size wpx6 (wpx6.alloc (.cells #[.int .i64 0, .int .i64 0, .slice none 0 0] 25)) := (Below.refl _ _).alloc (Nat.le_refl _) _
            replace HLX := Lib.hid (HLX.out.below hbe)
            replace HBD := Lib.hid (HBD.out.trans (hbe.mono hbz))
            refine hK _ _ ⟨⟨_, HBD.out⟩, rfl⟩ ?_
            have hze := hbe.size
            clear hK K hbe
            generalize wpx6.alloc (.cells #[.int .i64 0, .int .i64 0, .slice none 0 0] 25) = wzx6 at *
            have hzz0 := HZ.out.z0
            have hzz1 := HZ.out.z1
            have hzz2 := HZ.out.z2
            have hzf0 := HZ.out.f 0
            have hzf1 := HZ.out.f 1
            have hzf2 := HZ.out.f 2
            have HFIN : Hid (Below wex5.heap.size wex5 (((wzx6.setCell ⟨wpx6.heap.size, 0, none⟩ (.int .i64 s3)).setCell ⟨wpx6.heap.size, 1, none⟩ (.int .i64 v3)).setCell ⟨wpx6.heap.size, 2, none⟩ (.slice aq (flen k3) cq)) ∧ Tb wpx6.heap.size s3 v3 aq cq k3 (((wzx6.setCell ⟨wpx6.heap.size, 0, none⟩ (.int .i64 s3)).setCell ⟨wpx6.heap.size, 1, none⟩ (.int .i64 v3)).setCell ⟨wpx6.heap.size, 2, none⟩ (.slice aq (flen k3) cq))) := zb_fin HZ.out HBD.out hbz HLX.out hze (.inr (Nat.le_refl _))
            refine anyT_one (i := 10) (by kernel_rfl) rfl (fun K hK => ?_)
            go_simp
            refine hK _ _ ⟨⟨_, HFIN.out.1⟩, rfl⟩ ?_
            clear hK K hzz0 hzz1 hzz2 hzf0 hzf1 hzf2
            refine anyT_one (i := 11) (by kernel_rfl) rfl (fun K hK => ?_)
            go_simp
            refine hK _ _ ⟨⟨_, HFIN.out.1⟩, rfl⟩ ?_
            clear hK K
            refine anyT_done (by kernel_rfl) ?_
            have HBE := Lib.hid HFIN.out.1
            have Hq := Lib.hid HFIN.out.2
            clear HFIN HZ HLX HBD
            generalize (((wzx6.setCell ⟨wpx6.heap.size, 0, none⟩ (.int .i64 s3)).setCell ⟨wpx6.heap.size, 1, none⟩ (.int .i64 v3)).setCell ⟨wpx6.heap.size, 2, none⟩ (.slice aq (flen k3) cq)) = wex6 at *
            have Hlow' : Hid (Below w.heap.size w wex6) := below_next Hlow.out HBE.out
            have Hp' : Hid (Tb wa.heap.size s v a c k wex6) := Hp.out.next HBE.out
            have Ht' : Hid (Tb (wa.heap.size + 1) s2 v2 a2 c2 k2 wex6) := Ht.out.next HBE.out
            have Hx' : Hid (BSl wex6 0 wex6.heap.size Ax bw) := Hx.out.next HBE.out
            have HRS' : Hid (RSl wex6 0 wex6.heap.size (some ⟨rb, ro, none⟩) (places k)) := HRS.out.next HBE.out
            have HPL' : Hid (ISl wex6 0 wex6.heap.size pA pl) := HPL.out.next HBE.out
            have HC' : Hid (wex6.cell? ⟨rb, ro + j, none⟩ = some (.slice pA pl.length pC)) := cell_low HBE.out HC.out
            have Hr' : Hid (Tb wpx5.heap.size s1 v1 ar cr k1 wex6) := Hr.out.next HBE.out
            clear Hlow Hp Ht Hx HRS HPL HC Hr
            have Hlow := Hlow'
            clear Hlow'
            have Hp := Hp'
            clear Hp'
            have Ht := Ht'
            clear Ht'
            have Hx := Hx'
            clear Hx'
            have HRS := HRS'
            clear HRS'
            have HPL := HPL'
            clear HPL'
            have HC := HC'
            clear HC'
            have Hr := Hr'
            clear Hr'
            clear HBE
            have qr0 := Hr.out.c0
            have qr1 := Hr.out.c1
            have qr2 := Hr.out.c2
            have qq0 := Hq.out.c0
            have qq1 := Hq.out.c1
            have qq2 := Hq.out.c2
            go_wp2_with fail
            with_reducible refine (iMatchOf_any s1 v1 ar cr k1 s3 v3 aq cq k3 _ Hr.out.sl Hq.out.sl).mono ?_
            rintro e wx7 ⟨Az, Cz, bz, tz, hdz, rfl, hb, hsz⟩
            rw [HM2.out] at hdz
            simp only [Prod.mk.injEq] at hdz
            obtain ⟨rfl, rfl⟩ := hdz
            clear qr0 qr1 qr2 qq0 qq1 qq2
            have Hlow' : Hid (Below w.heap.size w wx7) := below_next Hlow.out hb
            have Hp' : Hid (Tb wa.heap.size s v a c k wx7) := Hp.out.next hb
            have Ht' : Hid (Tb (wa.heap.size + 1) s2 v2 a2 c2 k2 wx7) := Ht.out.next hb
            have Hx' : Hid (BSl wx7 0 wx7.heap.size Ax bw) := Hx.out.next hb
            have HRS' : Hid (RSl wx7 0 wx7.heap.size (some ⟨rb, ro, none⟩) (places k)) := HRS.out.next hb
            have HPL' : Hid (ISl wx7 0 wx7.heap.size pA pl) := HPL.out.next hb
            have HC' : Hid (wx7.cell? ⟨rb, ro + j, none⟩ = some (.slice pA pl.length pC)) := cell_low hb HC.out
            have Hr' : Hid (Tb wpx5.heap.size s1 v1 ar cr k1 wx7) := Hr.out.next hb
            have Hq' : Hid (Tb wpx6.heap.size s3 v3 aq cq k3 wx7) := Hq.out.next hb
            clear Hlow Hp Ht Hx HRS HPL HC Hr Hq
            have Hlow := Hlow'
            clear Hlow'
            have Hp := Hp'
            clear Hp'
            have Ht := Ht'
            clear Ht'
            have Hx := Hx'
            clear Hx'
            have HRS := HRS'
            clear HRS'
            have HPL := HPL'
            clear HPL'
            have HC := HC'
            clear HC'
            have Hr := Hr'
            clear Hr'
            have Hq := Hq'
            clear Hq'
            clear hb
            have Hz : Hid (BSl wx7 0 wx7.heap.size Az b2) := hsz
            clear hsz
            go_wp2_with fail
            go_roundw
            case rel => exact ⟨j + 1, by go_num, by omega, Hlow, Hp, Ht, Hx, HRS⟩
            case measure => simp [intOf]; omega
          · go_simp
            have HZ := Lib.hid (zb_new wdx6)
            have hbz : wex5.heap.size ≤ wdx6.heap.size := HBD.out.size
            have hbe : Below wdx6.heap.size wdx6 (wdx6.alloc (.cells #[.int .i64 0, .int .i64 0, .slice none 0 0] 25)) := (Below.refl _ _).alloc (Nat.le_refl _) _
            replace HBD := Lib.hid (HBD.out.trans (hbe.mono hbz))
            refine hK _ _ ⟨⟨_, HBD.out⟩, rfl⟩ ?_
            clear hK K hbe
            generalize wdx6.alloc (.cells #[.int .i64 0, .int .i64 0, .slice none 0 0] 25) = wzx6 at *
            refine anyT_one (i := 5) (by kernel_rfl) rfl (fun K hK => ?_)
            go_simp
            with_reducible refine (iTermAt_any s2 v2 a2 c2 k2 pA pC pl _ ((Ht.out.next HBD.out).sl) (HPL.out.next HBD.out) (by omega)).mono ?_
            rintro e wpx6 ⟨aq, cq, s9, v9, k9, t9, hR, rfl, hb, hlx⟩
            rw [HAT3.out] at hR
            simp only [Prod.mk.injEq] at hR
            obtain ⟨rfl, rfl, rfl, rfl⟩ := hR
            have HLX := Lib.hid hlx
            clear hlx
            have hlo : wex5.heap.size ≤ wzx6.heap.size := HBD.out.size
            have hzl := HZ.out.lt
            replace HZ := Lib.hid (HZ.out.low hb)
            replace HBD := Lib.hid (HBD.out.trans (hb.mono hlo))
            refine hK _ _ ⟨⟨_, HBD.out⟩, rfl⟩ ?_
            clear hK K hb
            refine anyT_look (i := 6) rfl (by kernel_rfl) ⟨⟨_, HBD.out⟩, rfl⟩ (fun K hK => ?_)
            go_simp
            refine hK _ ?_
            clear hK K
            refine anyT_look (i := 7) rfl (by kernel_rfl) ⟨⟨_, HBD.out⟩, rfl⟩ (fun K hK => ?_)
            go_simp
            refine hK _ ?_
            clear hK K
            refine anyT_look (i := 8) rfl (by kernel_rfl) ⟨⟨_, HBD.out⟩, rfl⟩ (fun K hK => ?_)
            go_simp
            refine hK _ ?_
            clear hK K
            have hzz0 := HZ.out.z0
            have hzz1 := HZ.out.z1
            have hzz2 := HZ.out.z2
            have hzf0 := HZ.out.f 0
            have hzf1 := HZ.out.f 1
            have hzf2 := HZ.out.f 2
            have HFIN : Hid (Below wex5.heap.size wex5 (((wpx6.setCell ⟨wdx6.heap.size, 0, none⟩ (.int .i64 s3)).setCell ⟨wdx6.heap.size, 1, none⟩ (.int .i64 v3)).setCell ⟨wdx6.heap.size, 2, none⟩ (.slice aq (flen k3) cq)) ∧ Tb wdx6.heap.size s3 v3 aq cq k3 (((wpx6.setCell ⟨wdx6.heap.size, 0, none⟩ (.int .i64 s3)).setCell ⟨wdx6.heap.size, 1, none⟩ (.int .i64 v3)).setCell ⟨wdx6.heap.size, 2, none⟩ (.slice aq (flen k3) cq))) := zb_fin HZ.out HBD.out hbz HLX.out (Nat.le_refl _) (.inl hzl)
            refine anyT_one (i := 10) (by kernel_rfl) rfl (fun K hK => ?_)
            go_simp
            refine hK _ _ ⟨⟨_, HFIN.out.1⟩, rfl⟩ ?_
            clear hK K hzz0 hzz1 hzz2 hzf0 hzf1 hzf2
            refine anyT_one (i := 11) (by kernel_rfl) rfl (fun K hK => ?_)
            go_simp
            refine hK _ _ ⟨⟨_, HFIN.out.1⟩, rfl⟩ ?_
            clear hK K
            refine anyT_done (by kernel_rfl) ?_
            have HBE := Lib.hid HFIN.out.1
            have Hq := Lib.hid HFIN.out.2
            clear HFIN HZ HLX HBD
            generalize (((wpx6.setCell ⟨wdx6.heap.size, 0, none⟩ (.int .i64 s3)).setCell ⟨wdx6.heap.size, 1, none⟩ (.int .i64 v3)).setCell ⟨wdx6.heap.size, 2, none⟩ (.slice aq (flen k3) cq)) = wex6 at *
            have Hlow' : Hid (Below w.heap.size w wex6) := below_next Hlow.out HBE.out
            have Hp' : Hid (Tb wa.heap.size s v a c k wex6) := Hp.out.next HBE.out
            have Ht' : Hid (Tb (wa.heap.size + 1) s2 v2 a2 c2 k2 wex6) := Ht.out.next HBE.out
            have Hx' : Hid (BSl wex6 0 wex6.heap.size Ax bw) := Hx.out.next HBE.out
            have HRS' : Hid (RSl wex6 0 wex6.heap.size (some ⟨rb, ro, none⟩) (places k)) := HRS.out.next HBE.out
            have HPL' : Hid (ISl wex6 0 wex6.heap.size pA pl) := HPL.out.next HBE.out
            have HC' : Hid (wex6.cell? ⟨rb, ro + j, none⟩ = some (.slice pA pl.length pC)) := cell_low HBE.out HC.out
            have Hr' : Hid (Tb wpx5.heap.size s1 v1 ar cr k1 wex6) := Hr.out.next HBE.out
            clear Hlow Hp Ht Hx HRS HPL HC Hr
            have Hlow := Hlow'
            clear Hlow'
            have Hp := Hp'
            clear Hp'
            have Ht := Ht'
            clear Ht'
            have Hx := Hx'
            clear Hx'
            have HRS := HRS'
            clear HRS'
            have HPL := HPL'
            clear HPL'
            have HC := HC'
            clear HC'
            have Hr := Hr'
            clear Hr'
            clear HBE
            have qr0 := Hr.out.c0
            have qr1 := Hr.out.c1
            have qr2 := Hr.out.c2
            have qq0 := Hq.out.c0
            have qq1 := Hq.out.c1
            have qq2 := Hq.out.c2
            go_wp2_with fail
            with_reducible refine (iMatchOf_any s1 v1 ar cr k1 s3 v3 aq cq k3 _ Hr.out.sl Hq.out.sl).mono ?_
            rintro e wx7 ⟨Az, Cz, bz, tz, hdz, rfl, hb, hsz⟩
            rw [HM2.out] at hdz
            simp only [Prod.mk.injEq] at hdz
            obtain ⟨rfl, rfl⟩ := hdz
            clear qr0 qr1 qr2 qq0 qq1 qq2
            have Hlow' : Hid (Below w.heap.size w wx7) := below_next Hlow.out hb
            have Hp' : Hid (Tb wa.heap.size s v a c k wx7) := Hp.out.next hb
            have Ht' : Hid (Tb (wa.heap.size + 1) s2 v2 a2 c2 k2 wx7) := Ht.out.next hb
            have Hx' : Hid (BSl wx7 0 wx7.heap.size Ax bw) := Hx.out.next hb
            have HRS' : Hid (RSl wx7 0 wx7.heap.size (some ⟨rb, ro, none⟩) (places k)) := HRS.out.next hb
            have HPL' : Hid (ISl wx7 0 wx7.heap.size pA pl) := HPL.out.next hb
            have HC' : Hid (wx7.cell? ⟨rb, ro + j, none⟩ = some (.slice pA pl.length pC)) := cell_low hb HC.out
            have Hr' : Hid (Tb wpx5.heap.size s1 v1 ar cr k1 wx7) := Hr.out.next hb
            have Hq' : Hid (Tb wdx6.heap.size s3 v3 aq cq k3 wx7) := Hq.out.next hb
            clear Hlow Hp Ht Hx HRS HPL HC Hr Hq
            have Hlow := Hlow'
            clear Hlow'
            have Hp := Hp'
            clear Hp'
            have Ht := Ht'
            clear Ht'
            have Hx := Hx'
            clear Hx'
            have HRS := HRS'
            clear HRS'
            have HPL := HPL'
            clear HPL'
            have HC := HC'
            clear HC'
            have Hr := Hr'
            clear Hr'
            have Hq := Hq'
            clear Hq'
            clear hb
            have Hz : Hid (BSl wx7 0 wx7.heap.size Az b2) := hsz
            clear hsz
            go_wp2_with fail
            go_roundw
            case rel => exact ⟨j + 1, by go_num, by omega, Hlow, Hp, Ht, Hx, HRS⟩
            case measure => simp [intOf]; omega
        · go_simp
          have HZ := Lib.hid (zb_new wdx5)
          have hbz : wr.heap.size ≤ wdx5.heap.size := HBD.out.size
          have hbe : Below wdx5.heap.size wdx5 (wdx5.alloc (.cells #[.int .i64 0, .int .i64 0, .slice none 0 0] 25)) := (Below.refl _ _).alloc (Nat.le_refl _) _
          replace HBD := Lib.hid (HBD.out.trans (hbe.mono hbz))
          refine hK _ _ ⟨⟨_, HBD.out⟩, rfl⟩ ?_
          clear hK K hbe
          generalize wdx5.alloc (.cells #[.int .i64 0, .int .i64 0, .slice none 0 0] 25) = wzx5 at *
          refine anyT_one (i := 5) (by kernel_rfl) rfl (fun K hK => ?_)
          go_simp
          with_reducible refine (iTermAt_any s v a c k pA pC pl _ ((Hp.out.next HBD.out).sl) (HPL.out.next HBD.out) (by omega)).mono ?_
          rintro e wpx5 ⟨ar, cr, s9, v9, k9, t9, hR, rfl, hb, hlx⟩
          rw [HAT1.out] at hR
          simp only [Prod.mk.injEq] at hR
          obtain ⟨rfl, rfl, rfl, rfl⟩ := hR
          have HLX := Lib.hid hlx
          clear hlx
          have hlo : wr.heap.size ≤ wzx5.heap.size := HBD.out.size
          have hzl := HZ.out.lt
          replace HZ := Lib.hid (HZ.out.low hb)
          replace HBD := Lib.hid (HBD.out.trans (hb.mono hlo))
          refine hK _ _ ⟨⟨_, HBD.out⟩, rfl⟩ ?_
          clear hK K hb
          refine anyT_look (i := 6) rfl (by kernel_rfl) ⟨⟨_, HBD.out⟩, rfl⟩ (fun K hK => ?_)
          go_simp
          refine hK _ ?_
          clear hK K
          refine anyT_look (i := 7) rfl (by kernel_rfl) ⟨⟨_, HBD.out⟩, rfl⟩ (fun K hK => ?_)
          go_simp
          refine hK _ ?_
          clear hK K
          refine anyT_look (i := 8) rfl (by kernel_rfl) ⟨⟨_, HBD.out⟩, rfl⟩ (fun K hK => ?_)
          go_simp
          refine hK _ ?_
          clear hK K
          have hzz0 := HZ.out.z0
          have hzz1 := HZ.out.z1
          have hzz2 := HZ.out.z2
          have hzf0 := HZ.out.f 0
          have hzf1 := HZ.out.f 1
          have hzf2 := HZ.out.f 2
          have HFIN : Hid (Below wr.heap.size wr (((wpx5.setCell ⟨wdx5.heap.size, 0, none⟩ (.int .i64 s1)).setCell ⟨wdx5.heap.size, 1, none⟩ (.int .i64 v1)).setCell ⟨wdx5.heap.size, 2, none⟩ (.slice ar (flen k1) cr)) ∧ Tb wdx5.heap.size s1 v1 ar cr k1 (((wpx5.setCell ⟨wdx5.heap.size, 0, none⟩ (.int .i64 s1)).setCell ⟨wdx5.heap.size, 1, none⟩ (.int .i64 v1)).setCell ⟨wdx5.heap.size, 2, none⟩ (.slice ar (flen k1) cr))) := zb_fin HZ.out HBD.out hbz HLX.out (Nat.le_refl _) (.inl hzl)
          refine anyT_one (i := 10) (by kernel_rfl) rfl (fun K hK => ?_)
          go_simp
          refine hK _ _ ⟨⟨_, HFIN.out.1⟩, rfl⟩ ?_
          clear hK K hzz0 hzz1 hzz2 hzf0 hzf1 hzf2
          refine anyT_one (i := 11) (by kernel_rfl) rfl (fun K hK => ?_)
          go_simp
          refine hK _ _ ⟨⟨_, HFIN.out.1⟩, rfl⟩ ?_
          clear hK K
          refine anyT_done (by kernel_rfl) ?_
          have HBE := Lib.hid HFIN.out.1
          have Hr := Lib.hid HFIN.out.2
          clear HFIN HZ HLX HBD
          generalize (((wpx5.setCell ⟨wdx5.heap.size, 0, none⟩ (.int .i64 s1)).setCell ⟨wdx5.heap.size, 1, none⟩ (.int .i64 v1)).setCell ⟨wdx5.heap.size, 2, none⟩ (.slice ar (flen k1) cr)) = wex5 at *
          have Hlow' : Hid (Below w.heap.size w wex5) := below_next Hlow.out HBE.out
          have Hp' : Hid (Tb wa.heap.size s v a c k wex5) := Hp.out.next HBE.out
          have Ht' : Hid (Tb (wa.heap.size + 1) s2 v2 a2 c2 k2 wex5) := Ht.out.next HBE.out
          have Hx' : Hid (BSl wex5 0 wex5.heap.size Ax bw) := Hx.out.next HBE.out
          have HRS' : Hid (RSl wex5 0 wex5.heap.size (some ⟨rb, ro, none⟩) (places k)) := HRS.out.next HBE.out
          have HPL' : Hid (ISl wex5 0 wex5.heap.size pA pl) := HPL.out.next HBE.out
          have HC' : Hid (wex5.cell? ⟨rb, ro + j, none⟩ = some (.slice pA pl.length pC)) := cell_low HBE.out HC.out
          clear Hlow Hp Ht Hx HRS HPL HC
          have Hlow := Hlow'
          clear Hlow'
          have Hp := Hp'
          clear Hp'
          have Ht := Ht'
          clear Ht'
          have Hx := Hx'
          clear Hx'
          have HRS := HRS'
          clear HRS'
          have HPL := HPL'
          clear HPL'
          have HC := HC'
          clear HC'
          clear HBE
          go_wp2_with fail
          have hu0 : ∀ u : After wex5.heap.size wex5, u.world.cell? ⟨wa.heap.size + 1, 0, none⟩ = some (.int .i64 s2) := fun u => cell_low u.below Ht.out.c0
          have hu1 : ∀ u : After wex5.heap.size wex5, u.world.cell? ⟨wa.heap.size + 1, 1, none⟩ = some (.int .i64 v2) := fun u => cell_low u.below Ht.out.c1
          have hu2 : ∀ u : After wex5.heap.size wex5, u.world.cell? ⟨wa.heap.size + 1, 2, none⟩ = some (.slice a2 (flen k2) c2) := fun u => cell_low u.below Ht.out.c2
          have hu3 : ∀ u : After wex5.heap.size wex5, u.world.cell? ⟨rb, ro + j, none⟩ = some (.slice pA pl.length pC) := fun u => cell_low u.below HC.out
          go_wp2_with fail
          refine wp_region_anyT (fun w' => ∃ u : After wex5.heap.size wex5, w' = u.world) (by kernel_rfl) ?_
          have HBD : Hid (Below wex5.heap.size wex5 wex5.drew) := (Below.refl _ _).drew
          generalize wex5.drew = wdx6 at *
          refine anyT_look (i := 0) rfl (by kernel_rfl) ⟨⟨_, HBD.out⟩, rfl⟩ (fun K hK => ?_)
          go_simp
          refine hK _ ?_
          clear hK K
          refine anyT_look (i := 1) rfl (by kernel_rfl) ⟨⟨_, HBD.out⟩, rfl⟩ (fun K hK => ?_)
          go_simp
          refine hK _ ?_
          clear hK K
          refine anyT_look (i := 2) rfl (by kernel_rfl) ⟨⟨_, HBD.out⟩, rfl⟩ (fun K hK => ?_)
          go_simp
          refine hK _ ?_
          clear hK K
          refine anyT_look (i := 3) rfl (by kernel_rfl) ⟨⟨_, HBD.out⟩, rfl⟩ (fun K hK => ?_)
          go_simp
          refine hK _ ?_
          clear hK K
          refine anyT_look (i := 4) rfl (by kernel_rfl) ⟨⟨_, HBD.out⟩, rfl⟩ (fun K hK => ?_)
          go_simp
          refine hK _ ?_
          clear hK K
          clear hu0 hu1 hu2 hu3
          refine anyT_two (i := 5) (j := 9) (by kernel_rfl) rfl rfl (fun K hK => ?_) (fun K hK => ?_)
          · go_simp
            with_reducible refine (iTermAt_any s2 v2 a2 c2 k2 pA pC pl _ ((Ht.out.next HBD.out).sl) (HPL.out.next HBD.out) (by omega)).mono ?_
            rintro e wpx6 ⟨aq, cq, s9, v9, k9, t9, hR, rfl, hb, hlx⟩
            rw [HAT3.out] at hR
            simp only [Prod.mk.injEq] at hR
            obtain ⟨rfl, rfl, rfl, rfl⟩ := hR
            have HLX := Lib.hid hlx
            clear hlx
            have hlo : wex5.heap.size ≤ wdx6.heap.size := HBD.out.size
            replace HBD := Lib.hid (HBD.out.trans (hb.mono hlo))
            refine hK _ _ ⟨⟨_, HBD.out⟩, rfl⟩ ?_
            clear hK K hb
            refine anyT_look (i := 6) rfl (by kernel_rfl) ⟨⟨_, HBD.out⟩, rfl⟩ (fun K hK => ?_)
            go_simp
            refine hK _ ?_
            clear hK K
            refine anyT_look (i := 7) rfl (by kernel_rfl) ⟨⟨_, HBD.out⟩, rfl⟩ (fun K hK => ?_)
            go_simp
            refine hK _ ?_
            clear hK K
            refine anyT_look (i := 8) rfl (by kernel_rfl) ⟨⟨_, HBD.out⟩, rfl⟩ (fun K hK => ?_)
            go_simp
            refine hK _ ?_
            clear hK K
            refine anyT_one (i := 9) (by kernel_rfl) rfl (fun K hK => ?_)
            go_simp
            have HZ := Lib.hid (zb_new wpx6)
            have hbz : wex5.heap.size ≤ wpx6.heap.size := HBD.out.size
            have hbe : Below wpx6.heap.size wpx6 (wpx6.alloc (.cells #[.int .i64 0, .int .i64 0, .slice none 0 0] 25)) := (Below.refl _ _).alloc (Nat.le_refl _) _
            replace HLX := Lib.hid (HLX.out.below hbe)
            replace HBD := Lib.hid (HBD.out.trans (hbe.mono hbz))
            refine hK _ _ ⟨⟨_, HBD.out⟩, rfl⟩ ?_
            have hze := hbe.size
            clear hK K hbe
            generalize wpx6.alloc (.cells #[.int .i64 0, .int .i64 0, .slice none 0 0] 25) = wzx6 at *
            have hzz0 := HZ.out.z0
            have hzz1 := HZ.out.z1
            have hzz2 := HZ.out.z2
            have hzf0 := HZ.out.f 0
            have hzf1 := HZ.out.f 1
            have hzf2 := HZ.out.f 2
            have HFIN : Hid (Below wex5.heap.size wex5 (((wzx6.setCell ⟨wpx6.heap.size, 0, none⟩ (.int .i64 s3)).setCell ⟨wpx6.heap.size, 1, none⟩ (.int .i64 v3)).setCell ⟨wpx6.heap.size, 2, none⟩ (.slice aq (flen k3) cq)) ∧ Tb wpx6.heap.size s3 v3 aq cq k3 (((wzx6.setCell ⟨wpx6.heap.size, 0, none⟩ (.int .i64 s3)).setCell ⟨wpx6.heap.size, 1, none⟩ (.int .i64 v3)).setCell ⟨wpx6.heap.size, 2, none⟩ (.slice aq (flen k3) cq))) := zb_fin HZ.out HBD.out hbz HLX.out hze (.inr (Nat.le_refl _))
            refine anyT_one (i := 10) (by kernel_rfl) rfl (fun K hK => ?_)
            go_simp
            refine hK _ _ ⟨⟨_, HFIN.out.1⟩, rfl⟩ ?_
            clear hK K hzz0 hzz1 hzz2 hzf0 hzf1 hzf2
            refine anyT_one (i := 11) (by kernel_rfl) rfl (fun K hK => ?_)
            go_simp
            refine hK _ _ ⟨⟨_, HFIN.out.1⟩, rfl⟩ ?_
            clear hK K
            refine anyT_done (by kernel_rfl) ?_
            have HBE := Lib.hid HFIN.out.1
            have Hq := Lib.hid HFIN.out.2
            clear HFIN HZ HLX HBD
            generalize (((wzx6.setCell ⟨wpx6.heap.size, 0, none⟩ (.int .i64 s3)).setCell ⟨wpx6.heap.size, 1, none⟩ (.int .i64 v3)).setCell ⟨wpx6.heap.size, 2, none⟩ (.slice aq (flen k3) cq)) = wex6 at *
            have Hlow' : Hid (Below w.heap.size w wex6) := below_next Hlow.out HBE.out
            have Hp' : Hid (Tb wa.heap.size s v a c k wex6) := Hp.out.next HBE.out
            have Ht' : Hid (Tb (wa.heap.size + 1) s2 v2 a2 c2 k2 wex6) := Ht.out.next HBE.out
            have Hx' : Hid (BSl wex6 0 wex6.heap.size Ax bw) := Hx.out.next HBE.out
            have HRS' : Hid (RSl wex6 0 wex6.heap.size (some ⟨rb, ro, none⟩) (places k)) := HRS.out.next HBE.out
            have HPL' : Hid (ISl wex6 0 wex6.heap.size pA pl) := HPL.out.next HBE.out
            have HC' : Hid (wex6.cell? ⟨rb, ro + j, none⟩ = some (.slice pA pl.length pC)) := cell_low HBE.out HC.out
            have Hr' : Hid (Tb wdx5.heap.size s1 v1 ar cr k1 wex6) := Hr.out.next HBE.out
            clear Hlow Hp Ht Hx HRS HPL HC Hr
            have Hlow := Hlow'
            clear Hlow'
            have Hp := Hp'
            clear Hp'
            have Ht := Ht'
            clear Ht'
            have Hx := Hx'
            clear Hx'
            have HRS := HRS'
            clear HRS'
            have HPL := HPL'
            clear HPL'
            have HC := HC'
            clear HC'
            have Hr := Hr'
            clear Hr'
            clear HBE
            have qr0 := Hr.out.c0
            have qr1 := Hr.out.c1
            have qr2 := Hr.out.c2
            have qq0 := Hq.out.c0
            have qq1 := Hq.out.c1
            have qq2 := Hq.out.c2
            go_wp2_with fail
            with_reducible refine (iMatchOf_any s1 v1 ar cr k1 s3 v3 aq cq k3 _ Hr.out.sl Hq.out.sl).mono ?_
            rintro e wx7 ⟨Az, Cz, bz, tz, hdz, rfl, hb, hsz⟩
            rw [HM2.out] at hdz
            simp only [Prod.mk.injEq] at hdz
            obtain ⟨rfl, rfl⟩ := hdz
            clear qr0 qr1 qr2 qq0 qq1 qq2
            have Hlow' : Hid (Below w.heap.size w wx7) := below_next Hlow.out hb
            have Hp' : Hid (Tb wa.heap.size s v a c k wx7) := Hp.out.next hb
            have Ht' : Hid (Tb (wa.heap.size + 1) s2 v2 a2 c2 k2 wx7) := Ht.out.next hb
            have Hx' : Hid (BSl wx7 0 wx7.heap.size Ax bw) := Hx.out.next hb
            have HRS' : Hid (RSl wx7 0 wx7.heap.size (some ⟨rb, ro, none⟩) (places k)) := HRS.out.next hb
            have HPL' : Hid (ISl wx7 0 wx7.heap.size pA pl) := HPL.out.next hb
            have HC' : Hid (wx7.cell? ⟨rb, ro + j, none⟩ = some (.slice pA pl.length pC)) := cell_low hb HC.out
            have Hr' : Hid (Tb wdx5.heap.size s1 v1 ar cr k1 wx7) := Hr.out.next hb
            have Hq' : Hid (Tb wpx6.heap.size s3 v3 aq cq k3 wx7) := Hq.out.next hb
            clear Hlow Hp Ht Hx HRS HPL HC Hr Hq
            have Hlow := Hlow'
            clear Hlow'
            have Hp := Hp'
            clear Hp'
            have Ht := Ht'
            clear Ht'
            have Hx := Hx'
            clear Hx'
            have HRS := HRS'
            clear HRS'
            have HPL := HPL'
            clear HPL'
            have HC := HC'
            clear HC'
            have Hr := Hr'
            clear Hr'
            have Hq := Hq'
            clear Hq'
            clear hb
            have Hz : Hid (BSl wx7 0 wx7.heap.size Az b2) := hsz
            clear hsz
            go_wp2_with fail
            go_roundw
            case rel => exact ⟨j + 1, by go_num, by omega, Hlow, Hp, Ht, Hx, HRS⟩
            case measure => simp [intOf]; omega
          · go_simp
            have HZ := Lib.hid (zb_new wdx6)
            have hbz : wex5.heap.size ≤ wdx6.heap.size := HBD.out.size
            have hbe : Below wdx6.heap.size wdx6 (wdx6.alloc (.cells #[.int .i64 0, .int .i64 0, .slice none 0 0] 25)) := (Below.refl _ _).alloc (Nat.le_refl _) _
            replace HBD := Lib.hid (HBD.out.trans (hbe.mono hbz))
            refine hK _ _ ⟨⟨_, HBD.out⟩, rfl⟩ ?_
            clear hK K hbe
            generalize wdx6.alloc (.cells #[.int .i64 0, .int .i64 0, .slice none 0 0] 25) = wzx6 at *
            refine anyT_one (i := 5) (by kernel_rfl) rfl (fun K hK => ?_)
            go_simp
            with_reducible refine (iTermAt_any s2 v2 a2 c2 k2 pA pC pl _ ((Ht.out.next HBD.out).sl) (HPL.out.next HBD.out) (by omega)).mono ?_
            rintro e wpx6 ⟨aq, cq, s9, v9, k9, t9, hR, rfl, hb, hlx⟩
            rw [HAT3.out] at hR
            simp only [Prod.mk.injEq] at hR
            obtain ⟨rfl, rfl, rfl, rfl⟩ := hR
            have HLX := Lib.hid hlx
            clear hlx
            have hlo : wex5.heap.size ≤ wzx6.heap.size := HBD.out.size
            have hzl := HZ.out.lt
            replace HZ := Lib.hid (HZ.out.low hb)
            replace HBD := Lib.hid (HBD.out.trans (hb.mono hlo))
            refine hK _ _ ⟨⟨_, HBD.out⟩, rfl⟩ ?_
            clear hK K hb
            refine anyT_look (i := 6) rfl (by kernel_rfl) ⟨⟨_, HBD.out⟩, rfl⟩ (fun K hK => ?_)
            go_simp
            refine hK _ ?_
            clear hK K
            refine anyT_look (i := 7) rfl (by kernel_rfl) ⟨⟨_, HBD.out⟩, rfl⟩ (fun K hK => ?_)
            go_simp
            refine hK _ ?_
            clear hK K
            refine anyT_look (i := 8) rfl (by kernel_rfl) ⟨⟨_, HBD.out⟩, rfl⟩ (fun K hK => ?_)
            go_simp
            refine hK _ ?_
            clear hK K
            have hzz0 := HZ.out.z0
            have hzz1 := HZ.out.z1
            have hzz2 := HZ.out.z2
            have hzf0 := HZ.out.f 0
            have hzf1 := HZ.out.f 1
            have hzf2 := HZ.out.f 2
            have HFIN : Hid (Below wex5.heap.size wex5 (((wpx6.setCell ⟨wdx6.heap.size, 0, none⟩ (.int .i64 s3)).setCell ⟨wdx6.heap.size, 1, none⟩ (.int .i64 v3)).setCell ⟨wdx6.heap.size, 2, none⟩ (.slice aq (flen k3) cq)) ∧ Tb wdx6.heap.size s3 v3 aq cq k3 (((wpx6.setCell ⟨wdx6.heap.size, 0, none⟩ (.int .i64 s3)).setCell ⟨wdx6.heap.size, 1, none⟩ (.int .i64 v3)).setCell ⟨wdx6.heap.size, 2, none⟩ (.slice aq (flen k3) cq))) := zb_fin HZ.out HBD.out hbz HLX.out (Nat.le_refl _) (.inl hzl)
            refine anyT_one (i := 10) (by kernel_rfl) rfl (fun K hK => ?_)
            go_simp
            refine hK _ _ ⟨⟨_, HFIN.out.1⟩, rfl⟩ ?_
            clear hK K hzz0 hzz1 hzz2 hzf0 hzf1 hzf2
            refine anyT_one (i := 11) (by kernel_rfl) rfl (fun K hK => ?_)
            go_simp
            refine hK _ _ ⟨⟨_, HFIN.out.1⟩, rfl⟩ ?_
            clear hK K
            refine anyT_done (by kernel_rfl) ?_
            have HBE := Lib.hid HFIN.out.1
            have Hq := Lib.hid HFIN.out.2
            clear HFIN HZ HLX HBD
            generalize (((wpx6.setCell ⟨wdx6.heap.size, 0, none⟩ (.int .i64 s3)).setCell ⟨wdx6.heap.size, 1, none⟩ (.int .i64 v3)).setCell ⟨wdx6.heap.size, 2, none⟩ (.slice aq (flen k3) cq)) = wex6 at *
            have Hlow' : Hid (Below w.heap.size w wex6) := below_next Hlow.out HBE.out
            have Hp' : Hid (Tb wa.heap.size s v a c k wex6) := Hp.out.next HBE.out
            have Ht' : Hid (Tb (wa.heap.size + 1) s2 v2 a2 c2 k2 wex6) := Ht.out.next HBE.out
            have Hx' : Hid (BSl wex6 0 wex6.heap.size Ax bw) := Hx.out.next HBE.out
            have HRS' : Hid (RSl wex6 0 wex6.heap.size (some ⟨rb, ro, none⟩) (places k)) := HRS.out.next HBE.out
            have HPL' : Hid (ISl wex6 0 wex6.heap.size pA pl) := HPL.out.next HBE.out
            have HC' : Hid (wex6.cell? ⟨rb, ro + j, none⟩ = some (.slice pA pl.length pC)) := cell_low HBE.out HC.out
            have Hr' : Hid (Tb wdx5.heap.size s1 v1 ar cr k1 wex6) := Hr.out.next HBE.out
            clear Hlow Hp Ht Hx HRS HPL HC Hr
            have Hlow := Hlow'
            clear Hlow'
            have Hp := Hp'
            clear Hp'
            have Ht := Ht'
            clear Ht'
            have Hx := Hx'
            clear Hx'
            have HRS := HRS'
            clear HRS'
            have HPL := HPL'
            clear HPL'
            have HC := HC'
            clear HC'
            have Hr := Hr'
            clear Hr'
            clear HBE
            have qr0 := Hr.out.c0
            have qr1 := Hr.out.c1
            have qr2 := Hr.out.c2
            have qq0 := Hq.out.c0
            have qq1 := Hq.out.c1
            have qq2 := Hq.out.c2
            go_wp2_with fail
            with_reducible refine (iMatchOf_any s1 v1 ar cr k1 s3 v3 aq cq k3 _ Hr.out.sl Hq.out.sl).mono ?_
            rintro e wx7 ⟨Az, Cz, bz, tz, hdz, rfl, hb, hsz⟩
            rw [HM2.out] at hdz
            simp only [Prod.mk.injEq] at hdz
            obtain ⟨rfl, rfl⟩ := hdz
            clear qr0 qr1 qr2 qq0 qq1 qq2
            have Hlow' : Hid (Below w.heap.size w wx7) := below_next Hlow.out hb
            have Hp' : Hid (Tb wa.heap.size s v a c k wx7) := Hp.out.next hb
            have Ht' : Hid (Tb (wa.heap.size + 1) s2 v2 a2 c2 k2 wx7) := Ht.out.next hb
            have Hx' : Hid (BSl wx7 0 wx7.heap.size Ax bw) := Hx.out.next hb
            have HRS' : Hid (RSl wx7 0 wx7.heap.size (some ⟨rb, ro, none⟩) (places k)) := HRS.out.next hb
            have HPL' : Hid (ISl wx7 0 wx7.heap.size pA pl) := HPL.out.next hb
            have HC' : Hid (wx7.cell? ⟨rb, ro + j, none⟩ = some (.slice pA pl.length pC)) := cell_low hb HC.out
            have Hr' : Hid (Tb wdx5.heap.size s1 v1 ar cr k1 wx7) := Hr.out.next hb
            have Hq' : Hid (Tb wdx6.heap.size s3 v3 aq cq k3 wx7) := Hq.out.next hb
            clear Hlow Hp Ht Hx HRS HPL HC Hr Hq
            have Hlow := Hlow'
            clear Hlow'
            have Hp := Hp'
            clear Hp'
            have Ht := Ht'
            clear Ht'
            have Hx := Hx'
            clear Hx'
            have HRS := HRS'
            clear HRS'
            have HPL := HPL'
            clear HPL'
            have HC := HC'
            clear HC'
            have Hr := Hr'
            clear Hr'
            have Hq := Hq'
            clear Hq'
            clear hb
            have Hz : Hid (BSl wx7 0 wx7.heap.size Az b2) := hsz
            clear hsz
            go_wp2_with fail
            go_roundw
            case rel => exact ⟨j + 1, by go_num, by omega, Hlow, Hp, Ht, Hx, HRS⟩
            case measure => simp [intOf]; omega
      · have hje : j = (places k).length := by omega
        go_wp2_with fail
        go_ret
        exact ⟨rfl, Hlow.out⟩
end Go.Proofs.Ytlaaihnokoeliaa
