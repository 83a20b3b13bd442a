/- Several texts in one: LawPutVars. -/
import Derived.Test.YtkmfnhoeigoajabLFnTermPutVars1
import Derived.Test.YtkmfnhoeigoajabKVar11

/-! LawPutVars: For every code, laws.FnTermPutVars answers true and writes nothing that was there. No condition. -/
namespace Go.Proofs.Ytkmfnhoeigoajab
open Go.RowKit Go.Deep
attribute [local go_sem ↓] Go.wp_at_zero Go.wp_at_succ

set_option maxRecDepth 100000 in
set_option maxHeartbeats 1000000 in
theorem lawPutVars_walk (a : Option Addr) (len cap : Nat) (w : World) (hby : Bytes w a len) (hlen : len ≤ cap) :
    Calls Try.prog 3 #[.slice a len cap] w fun e w' => e = .returned (.bool true) ∧ Below w.heap.size w w' := by
  have HBY := Lib.hid hby
  clear hby
  by_cases hbig : 1048576 < len
  · go_enter Try.func3, Try.ntmps3
    go_wp2_with fail
    go_ret
    exact ⟨rfl, Below.refl _ _⟩
  go_enter Try.func3, Try.ntmps3
  go_wp2_with fail
  with_reducible refine (DrawTermPut_any a len cap _ HBY.out hlen).mono ?_
  rintro e w1 ⟨s, v, a1, c1, k, pA, pC, place, s2, v2, a2, c2, k2, rfl, hS, hpl, hS2, hb1, hl1, hi1, hm1⟩
  have hs1 := hb1.size
  have hcap := hi1.2
  have hbA : Below w1.heap.size w1 ((w1.alloc (.cells #[.int .i64 s, .int .i64 v, .slice a1 (flen k) c1] 25)).alloc (.cells #[.int .i64 s2, .int .i64 v2, .slice a2 (flen k2) c2] 25)) := ((Below.refl _ _).alloc (Nat.le_refl _) _).alloc (by simp) _
  have HB1 := Lib.hid (hb1.trans (hbA.mono hs1))
  have HL : Hid (Sl ((w1.alloc (.cells #[.int .i64 s, .int .i64 v, .slice a1 (flen k) c1] 25)).alloc (.cells #[.int .i64 s2, .int .i64 v2, .slice a2 (flen k2) c2] 25)) 0 w1.heap.size a1 k) := (hl1.below hbA).mono (Nat.zero_le _) (Nat.le_refl _)
  have HM : Hid (Sl ((w1.alloc (.cells #[.int .i64 s, .int .i64 v, .slice a1 (flen k) c1] 25)).alloc (.cells #[.int .i64 s2, .int .i64 v2, .slice a2 (flen k2) c2] 25)) 0 w1.heap.size a2 k2) := (hm1.below hbA).mono (Nat.zero_le _) (Nat.le_refl _)
  have HP : Hid (ISc ((w1.alloc (.cells #[.int .i64 s, .int .i64 v, .slice a1 (flen k) c1] 25)).alloc (.cells #[.int .i64 s2, .int .i64 v2, .slice a2 (flen k2) c2] 25)) 0 w1.heap.size pA pC place) := (hi1.same (Same.of_below hbA)).mono (Nat.zero_le _) (Nat.le_refl _)
  have HA1 : Hid (Below (w1.heap.size + 2) ((w1.alloc (.cells #[.int .i64 s, .int .i64 v, .slice a1 (flen k) c1] 25)).alloc (.cells #[.int .i64 s2, .int .i64 v2, .slice a2 (flen k2) c2] 25)) ((w1.alloc (.cells #[.int .i64 s, .int .i64 v, .slice a1 (flen k) c1] 25)).alloc (.cells #[.int .i64 s2, .int .i64 v2, .slice a2 (flen k2) c2] 25))) := Below.refl _ _
  clear hb1 hl1 hi1 hm1 hbA
  go_wp2_with fail
  with_reducible refine (sTermPut_any s v a1 c1 k pA pC place s2 v2 a2 c2 k2 _ (HL.out.mono (Nat.le_refl _) (by simp; omega)) (HP.out.mono (Nat.le_refl _) (by simp; omega)) (by omega) (HM.out.mono (Nat.le_refl _) (by simp; omega))).mono ?_
  rintro e w2 ⟨a3, c3, s', v', k', t, hR, rfl, hb2, hl2⟩
  have HR := Lib.hid hR
  have hs2 := hb2.size
  simp at hs2
  have hk' := putR_sz hR
  have HA2 : Hid (Below (w1.heap.size + 2) ((w1.alloc (.cells #[.int .i64 s, .int .i64 v, .slice a1 (flen k) c1] 25)).alloc (.cells #[.int .i64 s2, .int .i64 v2, .slice a2 (flen k2) c2] 25)) (w2.alloc (.cells #[.int .i64 s', .int .i64 v', .slice a3 (flen k') c3] 25))) := (hb2.mono (by simp)).alloc (by omega) _
  have HLW : Hid (Sl (w2.alloc (.cells #[.int .i64 s', .int .i64 v', .slice a3 (flen k') c3] 25)) 0 w2.heap.size a3 k') := (hl2.below ((Below.refl _ _).alloc (Nat.le_refl _) _)).mono (Nat.zero_le _) (Nat.le_refl _)
  obtain ⟨hc0, hc1, hc2, hd0, hd1, hd2⟩ := tb_cells HA2.out
  clear hR hb2 hl2
  go_wp2_with fail
  with_reducible refine (iTermPut_any s v a1 c1 k pA pC place s2 v2 a2 c2 k2 _ ((HL.out.below (HA2.out.mono (by omega))).mono (Nat.le_refl _) (by simp; omega)) ((HP.out.same (Same.of_below (HA2.out.mono (by omega)))).mono (Nat.le_refl _) (by simp; omega)) (by omega) ((HM.out.below (HA2.out.mono (by omega))).mono (Nat.le_refl _) (by simp; omega))).mono ?_
  rintro e w3 ⟨a4, c4, s4, v4, k4, t4, hR4, rfl, hb3, hl3⟩
  rw [HR.out] at hR4
  simp only [Prod.mk.injEq] at hR4
  obtain ⟨rfl, rfl, rfl, rfl⟩ := hR4
  have hs3 := hb3.size
  simp at hs3
  have HV3 : Hid (Below (w2.heap.size + 1) (w2.alloc (.cells #[.int .i64 s', .int .i64 v', .slice a3 (flen k') c3] 25)) (w3.alloc (.cells #[.int .i64 s', .int .i64 v', .slice a4 (flen k') c4] 25))) := (hb3.mono (by simp)).alloc (by omega) _
  have HA3 := Lib.hid (HA2.out.trans (HV3.out.mono (show w1.heap.size + 2 ≤ w2.heap.size + 1 by omega)))
  have HLX : Hid (Sl (w3.alloc (.cells #[.int .i64 s', .int .i64 v', .slice a4 (flen k') c4] 25)) 0 w3.heap.size a4 k') := (hl3.below ((Below.refl _ _).alloc (Nat.le_refl _) _)).mono (Nat.zero_le _) (Nat.le_refl _)
  have HX3 : Hid (Below (w3.heap.size + 1) (w3.alloc (.cells #[.int .i64 s', .int .i64 v', .slice a4 (flen k') c4] 25)) (w3.alloc (.cells #[.int .i64 s', .int .i64 v', .slice a4 (flen k') c4] 25))) := Below.refl _ _
  clear hb3 hl3 hc0 hc1 hc2 hd0 hd1 hd2
  obtain ⟨hv0, hv1, hv2⟩ := box_cells ⟨_, HV3.out⟩
  obtain ⟨hx0, hx1, hx2⟩ := box_cells ⟨_, HX3.out⟩
  dsimp only at hv0 hv1 hv2 hx0 hx1 hx2
  have eb : (t != t) = false := by simp
  have eb' : (t == t) = true := by simp
  go_wp2_with fail
  with_reducible refine (laTerm_same (fsz k') s' v' a4 a3 c4 c3 k' _ (HLX.out.mono (Nat.le_refl _) (by simp)) ((HLW.out.below (HV3.out.mono (by omega))).mono (Nat.le_refl _) (by simp; omega)) (Nat.le_refl _) (by omega)).mono ?_
  rintro e w5 ⟨rfl, hb5⟩
  have hs5 := hb5.size
  simp at hs5
  have HX5 := Lib.hid (HX3.out.trans (hb5.mono (by simp)))
  have HV5 := Lib.hid (HV3.out.trans (hb5.mono (by simp; omega)))
  have HA5 := Lib.hid (HA3.out.trans (hb5.mono (by simp; omega)))
  clear hb5 hv0 hv1 hv2 hx0 hx1 hx2
  cases t with
  | false =>
    obtain ⟨hv0, hv1, hv2⟩ := box_cells ⟨_, HV5.out⟩
    obtain ⟨hx0, hx1, hx2⟩ := box_cells ⟨_, HX5.out⟩
    dsimp only at hv0 hv1 hv2 hx0 hx1 hx2
    go_wp2_with fail
    with_reducible refine (laTerm_same (fsz k') s' v' a4 a3 c4 c3 k' _ ((HLX.out.below (HX5.out.mono (by omega))).mono (Nat.le_refl _) (by omega)) ((HLW.out.below (HV5.out.mono (by omega))).mono (Nat.le_refl _) (by omega)) (Nat.le_refl _) (by omega)).mono ?_
    rintro e w6 ⟨rfl, hb6⟩
    have HA6 := Lib.hid (HA5.out.trans (hb6.mono (by omega)))
    clear hb6
    go_wp2_with fail
    go_ret
    exact ⟨rfl, HB1.out.trans (HA6.out.mono (by omega))⟩
  | true =>
    clear eb eb'
    obtain ⟨hok, hok2, hfp, hok'⟩ := putR_true HR.out
    have h1 := (okW_iff _ _ _ _).1 hok
    have h2 := (okW_iff _ _ _ _).1 hok2
    obtain ⟨⟨s0, v0, k0⟩, hfat⟩ := Option.isSome_iff_exists.1 (show (fat s v k place).isSome = true by rw [← fput_there place s v k (s2, v2, k2), hfp]; rfl)
    have hfsz := fput_sz place s v k _ hfp hfat
    have hf0 := fat_ok place s v k h1.1 h1.2.1 hfat
    have hk16 := h1.2.2
    have hk2 := h2.2.2
    dsimp only at hfsz hk2
    have HAT : Hid (atR s v k place = (s0, v0, k0, true)) := by unfold Hid atR; rw [hok, hfat]; rfl
    have HOK := Lib.hid hok
    have HOK2 : Hid (okW s2 v2 k2 16 = true) := hok2
    have HOK' := Lib.hid hok'
    have HOK0 : Hid (okW s0 v0 k0 16 = true) := (okW_iff _ _ _ _).2 ⟨hf0.1, hf0.2.1, by omega⟩
    have hk0 := hf0.2.2
    have HFP := Lib.hid hfp
    have HFAT := Lib.hid hfat
    clear h1 h2 hf0 hfp hfat hok hok2 hok'
    obtain ⟨hx0, hx1, hx2⟩ := box_cells ⟨_, HX5.out⟩
    dsimp only at hx0 hx1 hx2
    go_wp2_with fail
    with_reducible refine (iTermVars_any s' v' a4 c4 k' _ ((HLX.out.below (HX5.out.mono (by omega))).mono (Nat.le_refl _) (by omega))).mono ?_
    rintro e w6 ⟨A6, C6, vs, hvs, rfl, hb6, hio6⟩
    have hs6 := hb6.size
    have hvl := tvR_len s' v' k'
    rw [← hvs] at hvl
    have HVS := Lib.hid hvs
    have HI6 := Lib.hid (hio6.sl.mono (lo' := 0) (Nat.zero_le _) (Nat.le_refl _))
    have HA6 := Lib.hid (HA5.out.trans (hb6.mono (show w1.heap.size + 2 ≤ _ by omega)))
    clear hb6 hio6 hvs hx0 hx1 hx2 HV3 HV5 HA2 HA3 HX3
    have h1 := (okW_iff _ _ _ _).1 HOK.out
    have HVAR : Hid (∀ x, x ∈ vs → x ∈ tvR s v k ∨ x ∈ tvR s2 v2 k2) := fun x hx => by
      rw [HVS.out, tvR_mem HOK'.out] at hx
      rw [tvR_mem HOK.out, tvR_mem HOK2.out]
      exact fput_vars place s v k _ h1.1 h1.2.1 HFP.out hx
    have HMINE : Hid (∀ x, x ∈ tvR s2 v2 k2 → x ∈ vs) := fun x hx => by
      rw [tvR_mem HOK2.out] at hx
      rw [HVS.out, tvR_mem HOK'.out]
      exact fput_mine place s v k _ h1.1 h1.2.1 HFP.out hx
    clear h1
    go_wp2_with fail
    go_loopw [11] (fun i wr => ∃ j : Nat, j ≤ vs.length ∧ i = .int .i64 j ∧ Below w6.heap.size w6 wr) (fun i _ => vs.length - (intOf i).toNat)
    case atStart => exact ⟨0, by omega, rfl, Below.refl _ _⟩
    case round =>
      obtain ⟨j, hj, rfl, hbl⟩ := hrel
      have hbs := hbl.size
      have HAr := Lib.hid (HA6.out.trans (hbl.mono (show w1.heap.size + 2 ≤ w6.heap.size by omega)))
      by_cases hlt : j < vs.length
      · obtain ⟨b, o, rfl, _, hbB, hk⟩ := isl_at (HI6.out.below hbl) hlt
        have HXM : Hid (vs[j] ∈ tvR s v k ∨ vs[j] ∈ tvR s2 v2 k2) := HVAR.out _ (List.getElem_mem hlt)
        generalize vs[j] = x at hk HXM
        have g1 : (0 : Int) ≤ (j : Int) := by omega
        have g2 : (j : Int) < (vs.length : Int) := by omega
        have HBL := Lib.hid hbl
        clear hbl
        obtain ⟨hb0, hb1, hb2, hb3, hb4, hb5⟩ := tb_cells HAr.out
        have HTr := Lib.hid ((HL.out.below (HAr.out.mono (by omega))).mono (lo' := 0) (Nat.le_refl _) (show w1.heap.size ≤ wr.heap.size by omega))
        have HSr := Lib.hid ((HM.out.below (HAr.out.mono (by omega))).mono (lo' := 0) (Nat.le_refl _) (show w1.heap.size ≤ wr.heap.size by omega))
        have hu0 : ∀ u : After wr.heap.size wr, u.world.cell? ⟨w1.heap.size, 0, none⟩ = some (.int .i64 s) := fun u => u.cell (by simp; omega) hb0
        have hu1 : ∀ u : After wr.heap.size wr, u.world.cell? ⟨w1.heap.size, 1, none⟩ = some (.int .i64 v) := fun u => u.cell (by simp; omega) hb1
        have hu2 : ∀ u : After wr.heap.size wr, u.world.cell? ⟨w1.heap.size, 2, none⟩ = some (.slice a1 (flen k) c1) := fun u => u.cell (by simp; omega) hb2
        have hu3 : ∀ u : After wr.heap.size wr, u.world.cell? ⟨b, o + j, none⟩ = some (.int .i64 x) := fun u => u.cell (by simp; omega) hk
        have hu4 : ∀ u : After wr.heap.size wr, u.world.cell? ⟨w1.heap.size + 1, 0, none⟩ = some (.int .i64 s2) := fun u => u.cell (by simp; omega) hb3
        have hu5 : ∀ u : After wr.heap.size wr, u.world.cell? ⟨w1.heap.size + 1, 1, none⟩ = some (.int .i64 v2) := fun u => u.cell (by simp; omega) hb4
        have hu6 : ∀ u : After wr.heap.size wr, u.world.cell? ⟨w1.heap.size + 1, 2, none⟩ = some (.slice a2 (flen k2) c2) := fun u => u.cell (by simp; omega) hb5
        have HTD : Hid (Sl wr.drew 0 wr.drew.heap.size a1 k) := HTr.out.below (Below.refl _ _).drew
        have htl := tvR_len s v k
        have htl2 := tvR_len s2 v2 k2
        go_wp2_with fail
        clear hk hb0 hb1 hb2 hb3 hb4 hb5
        refine wp_region_mix (fun w' => ∃ u : After wr.heap.size wr, w' = u.world) [] [(0, 0), (2, 0), (3, 0), (4, 0), (5, 0), (1, 1), (6, 1), (7, 0), (8, 0), (9, 0), (11, 0), (12, 0), (13, 0), (14, 0), (10, 1), (15, 1), (16, 0), (17, 0)] (by kernel_rfl) (by kernel_rfl) ⟨⟨_, (Below.refl _ _).drew⟩, rfl⟩ ?_
        iterate 5
          refine mix_see rfl (fun K hK => ?_)
          go_simp
          refine hK _ ?_
          clear hK K
        refine mix_hold rfl (fun K hK => ?_)
        go_simp
        with_reducible refine (iTermVars_any s v a1 c1 k _ HTD.out).mono ?_
        rintro e w8 ⟨A8, C8, ys, hys, rfl, hb8, hio8⟩
        subst hys
        have hb8' := bl_undrew hb8
        have hs8 := hb8'.size
        have HI8 : Hid (ISl w8 0 w8.heap.size A8 (tvR s v k)) := hio8.sl.mono (Nat.zero_le _) (Nat.le_refl _)
        refine hK _ _ ⟨⟨_, hb8'⟩, rfl⟩ ?_
        clear hK K hb8 hio8
        refine mix_hold rfl (fun K hK => ?_)
        go_simp
        with_reducible refine (laIn_any (tvR s v k) A8 C8 x _ HI8.out (by omega)).mono ?_
        cases hin : decide (x ∈ tvR s v k) with
        | true =>
          rintro e w9 ⟨rfl, hb9⟩
          have hb9' : Below wr.heap.size wr w9 := hb8'.trans (hb9.mono hs8)
          refine hK _ _ ⟨⟨_, hb9'⟩, rfl⟩ ?_
          clear hK K hin hu0 hu1 hu2 hu3 hu4 hu5 hu6
          iterate 7
            refine mix_see rfl (fun K hK => ?_)
            go_simp
            refine hK _ ?_
            clear hK K
          iterate 2
            refine mix_hold rfl (fun K hK => ?_)
            go_simp
            refine hK _ _ ⟨⟨_, hb9'⟩, rfl⟩ ?_
            clear hK K
          iterate 2
            refine mix_see rfl (fun K hK => ?_)
            go_simp
            refine hK _ ?_
            clear hK K
          refine mix_end ?_
          have HB9 := Lib.hid (HBL.out.trans (hb9'.mono (by omega)))
          clear hb9' hb9 hb8'
          go_wp2_with fail
          go_roundw
          case rel => exact ⟨j + 1, by omega, by go_num, HB9.out⟩
          case measure => simp [intOf]; omega
        | false =>
          have HIN2 : Hid (decide (x ∈ tvR s2 v2 k2) = true) := by
            rcases HXM.out with h | h
            · exact absurd h (of_decide_eq_false hin)
            · exact decide_eq_true h
          rintro e w9 ⟨rfl, hb9⟩
          have hb9' : Below wr.heap.size wr w9 := hb8'.trans (hb9.mono hs8)
          have hs9 := hb9'.size
          have HS9 : Hid (Sl w9 0 w9.heap.size a2 k2) := (HSr.out.below hb9').mono (Nat.le_refl _) hs9
          refine hK _ _ ⟨⟨_, hb9'⟩, rfl⟩ ?_
          clear hK K hin
          iterate 7
            refine mix_see rfl (fun K hK => ?_)
            go_simp
            refine hK _ ?_
            clear hK K
          clear hu0 hu1 hu2 hu3 hu4 hu5 hu6
          refine mix_hold rfl (fun K hK => ?_)
          go_simp
          with_reducible refine (iTermVars_any s2 v2 a2 c2 k2 _ HS9.out).mono ?_
          rintro e w10 ⟨A10, C10, ys, hys, rfl, hb10, hio10⟩
          subst hys
          have hb10' : Below wr.heap.size wr w10 := hb9'.trans (hb10.mono hs9)
          have hs10 := hb10'.size
          have HI10 : Hid (ISl w10 0 w10.heap.size A10 (tvR s2 v2 k2)) := hio10.sl.mono (Nat.zero_le _) (Nat.le_refl _)
          refine hK _ _ ⟨⟨_, hb10'⟩, rfl⟩ ?_
          clear hK K hb10 hio10
          refine mix_hold rfl (fun K hK => ?_)
          go_simp
          with_reducible refine (laIn_any (tvR s2 v2 k2) A10 C10 x _ HI10.out (by omega)).mono ?_
          rw [HIN2.out]
          rintro e w11 ⟨rfl, hb11⟩
          have hb11' : Below wr.heap.size wr w11 := hb10'.trans (hb11.mono hs10)
          refine hK _ _ ⟨⟨_, hb11'⟩, rfl⟩ ?_
          clear hK K
          iterate 2
            refine mix_see rfl (fun K hK => ?_)
            go_simp
            refine hK _ ?_
            clear hK K
          refine mix_end ?_
          have HB11 := Lib.hid (HBL.out.trans (hb11'.mono (by omega)))
          clear hb11' hb11 hb10' hb9' hb9 hb8'
          go_wp2_with fail
          go_roundw
          case rel => exact ⟨j + 1, by omega, by go_num, HB11.out⟩
          case measure => simp [intOf]; omega
      · obtain ⟨_, _, _, hb0, hb1, hb2⟩ := tb_cells HAr.out
        have HI7 := Lib.hid ((HI6.out.below hbl).mono (lo' := 0) (Nat.le_refl _) hbs)
        have HSr := Lib.hid ((HM.out.below (HAr.out.mono (by omega))).mono (lo' := 0) (Nat.le_refl _) (show w1.heap.size ≤ wr.heap.size by omega))
        clear hbl
        go_wp2_with fail
        with_reducible refine (iTermVars_any s2 v2 a2 c2 k2 _ HSr.out).mono ?_
        rintro e w8 ⟨A8, C8, ys, hys, rfl, hb8, hio8⟩
        have hs8 := hb8.size
        have hyl := tvR_len s2 v2 k2
        rw [← hys] at hyl
        have HYM : Hid (∀ x, x ∈ ys → x ∈ vs) := by rw [hys]; exact HMINE.out
        have HI8 := Lib.hid (hio8.sl.mono (lo' := 0) (Nat.zero_le _) (Nat.le_refl _))
        have HV8 := Lib.hid ((HI7.out.below hb8).mono (lo' := 0) (Nat.le_refl _) hs8)
        have HA8 := Lib.hid (HAr.out.trans (hb8.mono (by omega)))
        clear hb8 hio8 hys hb0 hb1 hb2
        go_wp2_with fail
        go_loopw [13] (fun i wq => ∃ j : Nat, j ≤ ys.length ∧ i = .int .i64 j ∧ Below w8.heap.size w8 wq) (fun i _ => ys.length - (intOf i).toNat)
        case atStart => exact ⟨0, by omega, rfl, Below.refl _ _⟩
        case round =>
          obtain ⟨q, hq, rfl, hbq⟩ := hrel
          by_cases hltq : q < ys.length
          · obtain ⟨b, o, rfl, _, hbB, hk⟩ := isl_at (HI8.out.below hbq) hltq
            have HIN : Hid (decide (ys[q] ∈ vs) = true) := decide_eq_true (HYM.out _ (List.getElem_mem hltq))
            generalize ys[q] = x at hk HIN
            have g1 : (0 : Int) ≤ (q : Int) := by omega
            have g2 : (q : Int) < (ys.length : Int) := by omega
            have hsq := hbq.size
            have HVq := Lib.hid ((HV8.out.below hbq).mono (lo' := 0) (Nat.le_refl _) hsq)
            have HBQ := Lib.hid hbq
            clear hbq
            go_wp2_with fail
            with_reducible refine (laIn_any vs A6 C6 x _ HVq.out (by omega)).mono ?_
            rw [HIN.out]
            rintro e w12 ⟨rfl, hb12⟩
            have HB12 := Lib.hid (HBQ.out.trans (hb12.mono hsq))
            clear hb12 hk
            go_wp2_with fail
            go_roundw
            case rel => exact ⟨q + 1, by omega, by go_num, HB12.out⟩
            case measure => simp [intOf]; omega
          · have HAn := Lib.hid (HA8.out.trans (hbq.mono (by omega)))
            clear hbq
            go_wp2_with fail
            go_ret
            exact ⟨rfl, HB1.out.trans (HAn.out.mono (by omega))⟩
end Go.Proofs.Ytkmfnhoeigoajab
