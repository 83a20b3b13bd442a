/- For every code, laws.FnTermPutTwice answers true and writes nothing that was there. No condition. -/
import Derived.Test.YtebalmemncldlaaD3
namespace Go.Proofs.Ytebalmemncldlaa
open Go.RowKit Go.Deep
attribute [local go_sem ↓] Go.wp_at_zero Go.wp_at_succ

set_option maxRecDepth 100000 in
set_option maxHeartbeats 1000000 in
theorem lawPutTwice_walk (a : Option Addr) (len cap : Nat) (w : World) (hby : Bytes w a len) (hlen : len ≤ cap) :
    Calls Try.prog 5 #[.slice a len cap] w fun e w' => e = .returned (.bool true) ∧ Below w.heap.size w w' := by
  have HBY := Lib.hid hby
  clear hby
  by_cases hbig : 1048576 < len
  · go_enter Try.func5, Try.ntmps5
    go_wp2_with fail
    go_ret
    exact ⟨rfl, Below.refl _ _⟩
  go_enter Try.func5, Try.ntmps5
  go_wp2_with fail
  with_reducible refine (DrawTermPut_any a len cap _ HBY.out hlen).mono ?_
  rintro e w1 ⟨s, v, a1, c1, k, pA, pC, place, s2, v2, a2, c2, k2, rfl, hS, hpl, hS2, hb1, hl1, hi1, hm1⟩
  have hs1 := hb1.size
  have hcap := hi1.2
  have hbA : Below w1.heap.size w1 ((w1.alloc (.cells #[.int .i64 s, .int .i64 v, .slice a1 (flen k) c1] 25)).alloc (.cells #[.int .i64 s2, .int .i64 v2, .slice a2 (flen k2) c2] 25)) := ((Below.refl _ _).alloc (Nat.le_refl _) _).alloc (by simp) _
  have HB1 := Lib.hid (hb1.trans (hbA.mono hs1))
  have HL : Hid (Sl ((w1.alloc (.cells #[.int .i64 s, .int .i64 v, .slice a1 (flen k) c1] 25)).alloc (.cells #[.int .i64 s2, .int .i64 v2, .slice a2 (flen k2) c2] 25)) 0 w1.heap.size a1 k) := (hl1.below hbA).mono (Nat.zero_le _) (Nat.le_refl _)
  have HM : Hid (Sl ((w1.alloc (.cells #[.int .i64 s, .int .i64 v, .slice a1 (flen k) c1] 25)).alloc (.cells #[.int .i64 s2, .int .i64 v2, .slice a2 (flen k2) c2] 25)) 0 w1.heap.size a2 k2) := (hm1.below hbA).mono (Nat.zero_le _) (Nat.le_refl _)
  have HP : Hid (ISc ((w1.alloc (.cells #[.int .i64 s, .int .i64 v, .slice a1 (flen k) c1] 25)).alloc (.cells #[.int .i64 s2, .int .i64 v2, .slice a2 (flen k2) c2] 25)) 0 w1.heap.size pA pC place) := (hi1.same (Same.of_below hbA)).mono (Nat.zero_le _) (Nat.le_refl _)
  have HA1 : Hid (Below (w1.heap.size + 2) ((w1.alloc (.cells #[.int .i64 s, .int .i64 v, .slice a1 (flen k) c1] 25)).alloc (.cells #[.int .i64 s2, .int .i64 v2, .slice a2 (flen k2) c2] 25)) ((w1.alloc (.cells #[.int .i64 s, .int .i64 v, .slice a1 (flen k) c1] 25)).alloc (.cells #[.int .i64 s2, .int .i64 v2, .slice a2 (flen k2) c2] 25))) := Below.refl _ _
  clear hb1 hl1 hi1 hm1 hbA
  go_wp2_with fail
  with_reducible refine (sTermPut_any s v a1 c1 k pA pC place s2 v2 a2 c2 k2 _ (HL.out.mono (Nat.le_refl _) (by simp; omega)) (HP.out.mono (Nat.le_refl _) (by simp; omega)) (by omega) (HM.out.mono (Nat.le_refl _) (by simp; omega))).mono ?_
  rintro e w2 ⟨a3, c3, s', v', k', t, hR, rfl, hb2, hl2⟩
  have HR := Lib.hid hR
  have hs2 := hb2.size
  simp at hs2
  have hk' := putR_sz hR
  have HA2 : Hid (Below (w1.heap.size + 2) ((w1.alloc (.cells #[.int .i64 s, .int .i64 v, .slice a1 (flen k) c1] 25)).alloc (.cells #[.int .i64 s2, .int .i64 v2, .slice a2 (flen k2) c2] 25)) (w2.alloc (.cells #[.int .i64 s', .int .i64 v', .slice a3 (flen k') c3] 25))) := (hb2.mono (by simp)).alloc (by omega) _
  have HLW : Hid (Sl (w2.alloc (.cells #[.int .i64 s', .int .i64 v', .slice a3 (flen k') c3] 25)) 0 w2.heap.size a3 k') := (hl2.below ((Below.refl _ _).alloc (Nat.le_refl _) _)).mono (Nat.zero_le _) (Nat.le_refl _)
  obtain ⟨hc0, hc1, hc2, hd0, hd1, hd2⟩ := tb_cells HA2.out
  clear hR hb2 hl2
  go_wp2_with fail
  with_reducible refine (iTermPut_any s v a1 c1 k pA pC place s2 v2 a2 c2 k2 _ ((HL.out.below (HA2.out.mono (by omega))).mono (Nat.le_refl _) (by simp; omega)) ((HP.out.same (Same.of_below (HA2.out.mono (by omega)))).mono (Nat.le_refl _) (by simp; omega)) (by omega) ((HM.out.below (HA2.out.mono (by omega))).mono (Nat.le_refl _) (by simp; omega))).mono ?_
  rintro e w3 ⟨a4, c4, s4, v4, k4, t4, hR4, rfl, hb3, hl3⟩
  rw [HR.out] at hR4
  simp only [Prod.mk.injEq] at hR4
  obtain ⟨rfl, rfl, rfl, rfl⟩ := hR4
  have hs3 := hb3.size
  simp at hs3
  have HV3 : Hid (Below (w2.heap.size + 1) (w2.alloc (.cells #[.int .i64 s', .int .i64 v', .slice a3 (flen k') c3] 25)) (w3.alloc (.cells #[.int .i64 s', .int .i64 v', .slice a4 (flen k') c4] 25))) := (hb3.mono (by simp)).alloc (by omega) _
  have HA3 := Lib.hid (HA2.out.trans (HV3.out.mono (show w1.heap.size + 2 ≤ w2.heap.size + 1 by omega)))
  have HLX : Hid (Sl (w3.alloc (.cells #[.int .i64 s', .int .i64 v', .slice a4 (flen k') c4] 25)) 0 w3.heap.size a4 k') := (hl3.below ((Below.refl _ _).alloc (Nat.le_refl _) _)).mono (Nat.zero_le _) (Nat.le_refl _)
  have HX3 : Hid (Below (w3.heap.size + 1) (w3.alloc (.cells #[.int .i64 s', .int .i64 v', .slice a4 (flen k') c4] 25)) (w3.alloc (.cells #[.int .i64 s', .int .i64 v', .slice a4 (flen k') c4] 25))) := Below.refl _ _
  clear hb3 hl3 hc0 hc1 hc2 hd0 hd1 hd2
  obtain ⟨hv0, hv1, hv2⟩ := box_cells ⟨_, HV3.out⟩
  obtain ⟨hx0, hx1, hx2⟩ := box_cells ⟨_, HX3.out⟩
  dsimp only at hv0 hv1 hv2 hx0 hx1 hx2
  have eb : (t != t) = false := by simp
  have eb' : (t == t) = true := by simp
  go_wp2_with fail
  with_reducible refine (laTerm_same (fsz k') s' v' a4 a3 c4 c3 k' _ (HLX.out.mono (Nat.le_refl _) (by simp)) ((HLW.out.below (HV3.out.mono (by omega))).mono (Nat.le_refl _) (by simp; omega)) (Nat.le_refl _) (by omega)).mono ?_
  rintro e w5 ⟨rfl, hb5⟩
  have hs5 := hb5.size
  simp at hs5
  have HX5 := Lib.hid (HX3.out.trans (hb5.mono (by simp)))
  have HV5 := Lib.hid (HV3.out.trans (hb5.mono (by simp; omega)))
  have HA5 := Lib.hid (HA3.out.trans (hb5.mono (by simp; omega)))
  clear hb5 hv0 hv1 hv2 hx0 hx1 hx2
  cases t with
  | false =>
    obtain ⟨hv0, hv1, hv2⟩ := box_cells ⟨_, HV5.out⟩
    obtain ⟨hx0, hx1, hx2⟩ := box_cells ⟨_, HX5.out⟩
    dsimp only at hv0 hv1 hv2 hx0 hx1 hx2
    go_wp2_with fail
    with_reducible refine (laTerm_same (fsz k') s' v' a4 a3 c4 c3 k' _ ((HLX.out.below (HX5.out.mono (by omega))).mono (Nat.le_refl _) (by omega)) ((HLW.out.below (HV5.out.mono (by omega))).mono (Nat.le_refl _) (by omega)) (Nat.le_refl _) (by omega)).mono ?_
    rintro e w6 ⟨rfl, hb6⟩
    have HA6 := Lib.hid (HA5.out.trans (hb6.mono (by omega)))
    clear hb6
    go_wp2_with fail
    go_ret
    exact ⟨rfl, HB1.out.trans (HA6.out.mono (by omega))⟩
  | true =>
    clear eb eb'
    obtain ⟨hok, hok2, hfp, hok'⟩ := putR_true HR.out
    have h1 := (okW_iff _ _ _ _).1 hok
    have h2 := (okW_iff _ _ _ _).1 hok2
    obtain ⟨⟨s0, v0, k0⟩, hfat⟩ := Option.isSome_iff_exists.1 (show (fat s v k place).isSome = true by rw [← fput_there place s v k (s2, v2, k2), hfp]; rfl)
    have hfsz := fput_sz place s v k _ hfp hfat
    have hf0 := fat_ok place s v k h1.1 h1.2.1 hfat
    have hk16 := h1.2.2
    have hk2 := h2.2.2
    dsimp only at hfsz hk2
    have HAT : Hid (atR s v k place = (s0, v0, k0, true)) := by unfold Hid atR; rw [hok, hfat]; rfl
    have HOK := Lib.hid hok
    have HOK2 : Hid (okW s2 v2 k2 16 = true) := hok2
    have HOK' := Lib.hid hok'
    have HOK0 : Hid (okW s0 v0 k0 16 = true) := (okW_iff _ _ _ _).2 ⟨hf0.1, hf0.2.1, by omega⟩
    have hk0 := hf0.2.2
    have HFP := Lib.hid hfp
    have HFAT := Lib.hid hfat
    clear h1 h2 hf0 hfp hfat hok hok2 hok'
    obtain ⟨hc0, hc1, hc2, hd0, hd1, hd2⟩ := tb_cells HA5.out
    have HPI : Hid (ISl w5 0 w5.heap.size pA place) := (HP.out.1.below (HA5.out.mono (by omega))).mono (Nat.le_refl _) (by omega)
    go_wp2_with fail
    with_reducible refine (iTermAt_any s v a1 c1 k pA pC place _ ((HL.out.below (HA5.out.mono (by omega))).mono (Nat.le_refl _) (by omega)) HPI.out (by omega)).mono ?_
    rintro e w6 ⟨a6, c6, s6, v6, k6, t6, hr6, rfl, hb6, hl6⟩
    rw [HAT.out] at hr6
    simp only [Prod.mk.injEq] at hr6
    obtain ⟨rfl, rfl, rfl, rfl⟩ := hr6
    have hs6 := hb6.size
    have hb7 := hb6.alloc hs6 (.cells #[.int .i64 s0, .int .i64 v0, .slice a6 (flen k0) c6] 25)
    have HL0 : Hid (Sl (w6.alloc (.cells #[.int .i64 s0, .int .i64 v0, .slice a6 (flen k0) c6] 25)) 0 w6.heap.size a6 k0) := (hl6.below ((Below.refl _ _).alloc (Nat.le_refl _) _)).mono (Nat.zero_le _) (Nat.le_refl _)
    have HZ6 : Hid (Below (w6.heap.size + 1) (w6.alloc (.cells #[.int .i64 s0, .int .i64 v0, .slice a6 (flen k0) c6] 25)) (w6.alloc (.cells #[.int .i64 s0, .int .i64 v0, .slice a6 (flen k0) c6] 25))) := Below.refl _ _
    have HX6 := Lib.hid (HX5.out.trans (hb7.mono (show w3.heap.size + 1 ≤ _ by omega)))
    have HA6 := Lib.hid (HA5.out.trans (hb7.mono (show w1.heap.size + 2 ≤ _ by omega)))
    clear hb6 hb7 hl6 hc0 hc1 hc2 hd0 hd1 hd2 HV3 HV5 HA2 HA3 HX3
    have HPB : Hid (putR s' v' k' place (s0, v0, k0) = (s, v, k, true)) := putR_some HOK'.out HOK0.out (by rw [fput_twice place s v k _ _ HFP.out]; exact fput_same place s v k HFAT.out) (by omega)
    obtain ⟨hx0, hx1, hx2⟩ := box_cells ⟨_, HX6.out⟩
    obtain ⟨hz0, hz1, hz2⟩ := box_cells ⟨_, HZ6.out⟩
    dsimp only at hx0 hx1 hx2 hz0 hz1 hz2
    go_wp2_with fail
    with_reducible refine (iTermPut_any s' v' a4 c4 k' pA pC place s0 v0 a6 c6 k0 _ ((HLX.out.below (HX6.out.mono (by omega))).mono (Nat.le_refl _) (by simp; omega)) ((HP.out.same (Same.of_below (HA6.out.mono (by omega)))).mono (Nat.le_refl _) (by simp; omega)) (by omega) (HL0.out.mono (Nat.le_refl _) (by simp))).mono ?_
    rintro e w8 ⟨a8, c8, s8, v8, k8, t8, hr8, rfl, hb8, hl8⟩
    rw [HPB.out] at hr8
    simp only [Prod.mk.injEq] at hr8
    obtain ⟨rfl, rfl, rfl, rfl⟩ := hr8
    have hs8 := hb8.size
    simp at hs8
    have hb9 := hb8.alloc hb8.size (.cells #[.int .i64 s, .int .i64 v, .slice a8 (flen k) c8] 25)
    have HLY : Hid (Sl (w8.alloc (.cells #[.int .i64 s, .int .i64 v, .slice a8 (flen k) c8] 25)) 0 w8.heap.size a8 k) := (hl8.below ((Below.refl _ _).alloc (Nat.le_refl _) _)).mono (Nat.zero_le _) (Nat.le_refl _)
    have HY8 : Hid (Below (w8.heap.size + 1) (w8.alloc (.cells #[.int .i64 s, .int .i64 v, .slice a8 (flen k) c8] 25)) (w8.alloc (.cells #[.int .i64 s, .int .i64 v, .slice a8 (flen k) c8] 25))) := Below.refl _ _
    have HX8 := Lib.hid (HX6.out.trans (hb9.mono (show w3.heap.size + 1 ≤ _ by simp; omega)))
    have HA8 := Lib.hid (HA6.out.trans (hb9.mono (show w1.heap.size + 2 ≤ _ by simp; omega)))
    clear hb8 hb9 hl8 hx0 hx1 hx2 hz0 hz1 hz2 HZ6
    have HPC : Hid (putR s v k place (s2, v2, k2) = (s', v', k', true)) := HR.out
    obtain ⟨hc0, hc1, hc2, hd0, hd1, hd2⟩ := tb_cells HA8.out
    obtain ⟨hy0, hy1, hy2⟩ := box_cells ⟨_, HY8.out⟩
    dsimp only at hy0 hy1 hy2
    go_wp2_with fail
    with_reducible refine (iTermPut_any s v a8 c8 k pA pC place s2 v2 a2 c2 k2 _ (HLY.out.mono (Nat.le_refl _) (by simp)) ((HP.out.same (Same.of_below (HA8.out.mono (by omega)))).mono (Nat.le_refl _) (by simp; omega)) (by omega) ((HM.out.below (HA8.out.mono (by omega))).mono (Nat.le_refl _) (by simp; omega))).mono ?_
    rintro e w9 ⟨a9, c9, s9, v9, k9, t9, hr9, rfl, hb9, hl9⟩
    rw [HPC.out] at hr9
    simp only [Prod.mk.injEq] at hr9
    obtain ⟨rfl, rfl, rfl, rfl⟩ := hr9
    have hs9 := hb9.size
    simp at hs9
    have hb10 := hb9.alloc hb9.size (.cells #[.int .i64 s', .int .i64 v', .slice a9 (flen k') c9] 25)
    have HLZ : Hid (Sl (w9.alloc (.cells #[.int .i64 s', .int .i64 v', .slice a9 (flen k') c9] 25)) 0 w9.heap.size a9 k') := (hl9.below ((Below.refl _ _).alloc (Nat.le_refl _) _)).mono (Nat.zero_le _) (Nat.le_refl _)
    have HZ9 : Hid (Below (w9.heap.size + 1) (w9.alloc (.cells #[.int .i64 s', .int .i64 v', .slice a9 (flen k') c9] 25)) (w9.alloc (.cells #[.int .i64 s', .int .i64 v', .slice a9 (flen k') c9] 25))) := Below.refl _ _
    have HX9 := Lib.hid (HX8.out.trans (hb10.mono (show w3.heap.size + 1 ≤ _ by simp; omega)))
    have HA9 := Lib.hid (HA8.out.trans (hb10.mono (show w1.heap.size + 2 ≤ _ by simp; omega)))
    have HY9 := Lib.hid (HY8.out.trans (hb10.mono (show w8.heap.size + 1 ≤ _ by simp)))
    clear hb9 hb10 hl9 hc0 hc1 hc2 hd0 hd1 hd2 hy0 hy1 hy2
    obtain ⟨hc0, hc1, hc2, hd0, hd1, hd2⟩ := tb_cells HA9.out
    obtain ⟨hy0, hy1, hy2⟩ := box_cells ⟨_, HY9.out⟩
    dsimp only at hy0 hy1 hy2
    go_wp2_with fail
    with_reducible refine (laTerm_same (fsz k) s v a8 a1 c8 c1 k _ ((HLY.out.below (HY9.out.mono (by omega))).mono (Nat.le_refl _) (by simp; omega)) ((HL.out.below (HA9.out.mono (by omega))).mono (Nat.le_refl _) (by simp; omega)) (Nat.le_refl _) (by omega)).mono ?_
    rintro e w11 ⟨rfl, hb11⟩
    have hs11 := hb11.size
    simp at hs11
    have HX11 := Lib.hid (HX9.out.trans (hb11.mono (show w3.heap.size + 1 ≤ _ by simp; omega)))
    have HZ11 := Lib.hid (HZ9.out.trans (hb11.mono (show w9.heap.size + 1 ≤ _ by simp)))
    have HA11 := Lib.hid (HA9.out.trans (hb11.mono (show w1.heap.size + 2 ≤ _ by simp; omega)))
    clear hb11 hc0 hc1 hc2 hd0 hd1 hd2 hy0 hy1 hy2
    obtain ⟨hx0, hx1, hx2⟩ := box_cells ⟨_, HX11.out⟩
    obtain ⟨hz0, hz1, hz2⟩ := box_cells ⟨_, HZ11.out⟩
    dsimp only at hx0 hx1 hx2 hz0 hz1 hz2
    go_wp2_with fail
    with_reducible refine (laTerm_same (fsz k') s' v' a9 a4 c9 c4 k' _ ((HLZ.out.below (HZ11.out.mono (by omega))).mono (Nat.le_refl _) (by omega)) ((HLX.out.below (HX11.out.mono (by omega))).mono (Nat.le_refl _) (by omega)) (Nat.le_refl _) (by omega)).mono ?_
    rintro e w12 ⟨rfl, hb12⟩
    have HA12 := Lib.hid (HA11.out.trans (hb12.mono (by omega)))
    clear hb12
    go_wp2_with fail
    go_ret
    exact ⟨rfl, HB1.out.trans (HA12.out.mono (by omega))⟩
end Go.Proofs.Ytebalmemncldlaa
