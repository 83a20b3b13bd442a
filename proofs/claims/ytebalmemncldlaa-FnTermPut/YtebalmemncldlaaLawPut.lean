/- For every code, laws.FnTermPut answers true and writes nothing that was there. No condition. -/
import Derived.Test.YtebalmemncldlaaD4
import Derived.Test.YtebalmemncldlaaLP0
namespace Go.Proofs.Ytebalmemncldlaa
open Go.RowKit Go.Deep
attribute [local go_sem ↓] Go.wp_at_zero Go.wp_at_succ

set_option maxRecDepth 100000 in
set_option maxHeartbeats 1000000 in
theorem lawPut_walk (a : Option Addr) (len cap : Nat) (w : World) (hby : Bytes w a len) (hlen : len ≤ cap) :
    Calls Try.prog 4 #[.slice a len cap] w fun e w' => e = .returned (.bool true) ∧ Below w.heap.size w w' := by
  have HBY := Lib.hid hby
  clear hby
  by_cases hbig : 1048576 < len
  · go_enter Try.func4, Try.ntmps4
    go_wp2_with fail
    go_ret
    exact ⟨rfl, Below.refl _ _⟩
  go_enter Try.func4, Try.ntmps4
  go_wp2_with fail
  with_reducible refine (DrawTermPut_any a len cap _ HBY.out hlen).mono ?_
  rintro e w1 ⟨s, v, a1, c1, k, pA, pC, place, s2, v2, a2, c2, k2, rfl, hS, hpl, hS2, hb1, hl1, hi1, hm1⟩
  have hs1 := hb1.size
  have hcap := hi1.2
  have hbA : Below w1.heap.size w1 ((w1.alloc (.cells #[.int .i64 s, .int .i64 v, .slice a1 (flen k) c1] 25)).alloc (.cells #[.int .i64 s2, .int .i64 v2, .slice a2 (flen k2) c2] 25)) := ((Below.refl _ _).alloc (Nat.le_refl _) _).alloc (by simp) _
  have HB1 := Lib.hid (hb1.trans (hbA.mono hs1))
  have HL : Hid (Sl ((w1.alloc (.cells #[.int .i64 s, .int .i64 v, .slice a1 (flen k) c1] 25)).alloc (.cells #[.int .i64 s2, .int .i64 v2, .slice a2 (flen k2) c2] 25)) 0 w1.heap.size a1 k) := (hl1.below hbA).mono (Nat.zero_le _) (Nat.le_refl _)
  have HM : Hid (Sl ((w1.alloc (.cells #[.int .i64 s, .int .i64 v, .slice a1 (flen k) c1] 25)).alloc (.cells #[.int .i64 s2, .int .i64 v2, .slice a2 (flen k2) c2] 25)) 0 w1.heap.size a2 k2) := (hm1.below hbA).mono (Nat.zero_le _) (Nat.le_refl _)
  have HP : Hid (ISc ((w1.alloc (.cells #[.int .i64 s, .int .i64 v, .slice a1 (flen k) c1] 25)).alloc (.cells #[.int .i64 s2, .int .i64 v2, .slice a2 (flen k2) c2] 25)) 0 w1.heap.size pA pC place) := (hi1.same (Same.of_below hbA)).mono (Nat.zero_le _) (Nat.le_refl _)
  have HA1 : Hid (Below (w1.heap.size + 2) ((w1.alloc (.cells #[.int .i64 s, .int .i64 v, .slice a1 (flen k) c1] 25)).alloc (.cells #[.int .i64 s2, .int .i64 v2, .slice a2 (flen k2) c2] 25)) ((w1.alloc (.cells #[.int .i64 s, .int .i64 v, .slice a1 (flen k) c1] 25)).alloc (.cells #[.int .i64 s2, .int .i64 v2, .slice a2 (flen k2) c2] 25))) := Below.refl _ _
  clear hb1 hl1 hi1 hm1 hbA
  go_wp2_with fail
  with_reducible refine (sTermPut_any s v a1 c1 k pA pC place s2 v2 a2 c2 k2 _ (HL.out.mono (Nat.le_refl _) (by simp; omega)) (HP.out.mono (Nat.le_refl _) (by simp; omega)) (by omega) (HM.out.mono (Nat.le_refl _) (by simp; omega))).mono ?_
  rintro e w2 ⟨a3, c3, s', v', k', t, hR, rfl, hb2, hl2⟩
  have HR := Lib.hid hR
  have hs2 := hb2.size
  simp at hs2
  have hk' := putR_sz hR
  have HA2 : Hid (Below (w1.heap.size + 2) ((w1.alloc (.cells #[.int .i64 s, .int .i64 v, .slice a1 (flen k) c1] 25)).alloc (.cells #[.int .i64 s2, .int .i64 v2, .slice a2 (flen k2) c2] 25)) (w2.alloc (.cells #[.int .i64 s', .int .i64 v', .slice a3 (flen k') c3] 25))) := (hb2.mono (by simp)).alloc (by omega) _
  have HLW : Hid (Sl (w2.alloc (.cells #[.int .i64 s', .int .i64 v', .slice a3 (flen k') c3] 25)) 0 w2.heap.size a3 k') := (hl2.below ((Below.refl _ _).alloc (Nat.le_refl _) _)).mono (Nat.zero_le _) (Nat.le_refl _)
  obtain ⟨hc0, hc1, hc2, hd0, hd1, hd2⟩ := tb_cells HA2.out
  clear hR hb2 hl2
  go_wp2_with fail
  with_reducible refine (iTermPut_any s v a1 c1 k pA pC place s2 v2 a2 c2 k2 _ ((HL.out.below (HA2.out.mono (by omega))).mono (Nat.le_refl _) (by simp; omega)) ((HP.out.same (Same.of_below (HA2.out.mono (by omega)))).mono (Nat.le_refl _) (by simp; omega)) (by omega) ((HM.out.below (HA2.out.mono (by omega))).mono (Nat.le_refl _) (by simp; omega))).mono ?_
  rintro e w3 ⟨a4, c4, s4, v4, k4, t4, hR4, rfl, hb3, hl3⟩
  rw [HR.out] at hR4
  simp only [Prod.mk.injEq] at hR4
  obtain ⟨rfl, rfl, rfl, rfl⟩ := hR4
  have hs3 := hb3.size
  simp at hs3
  have HV3 : Hid (Below (w2.heap.size + 1) (w2.alloc (.cells #[.int .i64 s', .int .i64 v', .slice a3 (flen k') c3] 25)) (w3.alloc (.cells #[.int .i64 s', .int .i64 v', .slice a4 (flen k') c4] 25))) := (hb3.mono (by simp)).alloc (by omega) _
  have HA3 := Lib.hid (HA2.out.trans (HV3.out.mono (show w1.heap.size + 2 ≤ w2.heap.size + 1 by omega)))
  have HLX : Hid (Sl (w3.alloc (.cells #[.int .i64 s', .int .i64 v', .slice a4 (flen k') c4] 25)) 0 w3.heap.size a4 k') := (hl3.below ((Below.refl _ _).alloc (Nat.le_refl _) _)).mono (Nat.zero_le _) (Nat.le_refl _)
  have HX3 : Hid (Below (w3.heap.size + 1) (w3.alloc (.cells #[.int .i64 s', .int .i64 v', .slice a4 (flen k') c4] 25)) (w3.alloc (.cells #[.int .i64 s', .int .i64 v', .slice a4 (flen k') c4] 25))) := Below.refl _ _
  clear hb3 hl3 hc0 hc1 hc2 hd0 hd1 hd2
  obtain ⟨hv0, hv1, hv2⟩ := box_cells ⟨_, HV3.out⟩
  obtain ⟨hx0, hx1, hx2⟩ := box_cells ⟨_, HX3.out⟩
  dsimp only at hv0 hv1 hv2 hx0 hx1 hx2
  have eb : (t != t) = false := by simp
  have eb' : (t == t) = true := by simp
  go_wp2_with fail
  with_reducible refine (laTerm_same (fsz k') s' v' a4 a3 c4 c3 k' _ (HLX.out.mono (Nat.le_refl _) (by simp)) ((HLW.out.below (HV3.out.mono (by omega))).mono (Nat.le_refl _) (by simp; omega)) (Nat.le_refl _) (by omega)).mono ?_
  rintro e w5 ⟨rfl, hb5⟩
  have hs5 := hb5.size
  simp at hs5
  have HX5 := Lib.hid (HX3.out.trans (hb5.mono (by simp)))
  have HV5 := Lib.hid (HV3.out.trans (hb5.mono (by simp; omega)))
  have HA5 := Lib.hid (HA3.out.trans (hb5.mono (by simp; omega)))
  clear hb5 hv0 hv1 hv2 hx0 hx1 hx2
  cases t with
  | false =>
    obtain ⟨hv0, hv1, hv2⟩ := box_cells ⟨_, HV5.out⟩
    obtain ⟨hx0, hx1, hx2⟩ := box_cells ⟨_, HX5.out⟩
    dsimp only at hv0 hv1 hv2 hx0 hx1 hx2
    go_wp2_with fail
    with_reducible refine (laTerm_same (fsz k') s' v' a4 a3 c4 c3 k' _ ((HLX.out.below (HX5.out.mono (by omega))).mono (Nat.le_refl _) (by omega)) ((HLW.out.below (HV5.out.mono (by omega))).mono (Nat.le_refl _) (by omega)) (Nat.le_refl _) (by omega)).mono ?_
    rintro e w6 ⟨rfl, hb6⟩
    have HA6 := Lib.hid (HA5.out.trans (hb6.mono (by omega)))
    clear hb6
    go_wp2_with fail
    go_ret
    exact ⟨rfl, HB1.out.trans (HA6.out.mono (by omega))⟩
  | true =>
    clear eb eb'
    obtain ⟨hok, hok2, hfp, hok'⟩ := putR_true HR.out
    have h1 := (okW_iff _ _ _ _).1 hok
    have h2 := (okW_iff _ _ _ _).1 hok2
    obtain ⟨⟨s0, v0, k0⟩, hfat⟩ := Option.isSome_iff_exists.1 (show (fat s v k place).isSome = true by rw [← fput_there place s v k (s2, v2, k2), hfp]; rfl)
    have hfsz := fput_sz place s v k _ hfp hfat
    have hf0 := fat_ok place s v k h1.1 h1.2.1 hfat
    have hk16 := h1.2.2
    have hk2 := h2.2.2
    dsimp only at hfsz hk2
    have HAT : Hid (atR s v k place = (s0, v0, k0, true)) := by unfold Hid atR; rw [hok, hfat]; rfl
    have HOK := Lib.hid hok
    have HOK2 : Hid (okW s2 v2 k2 16 = true) := hok2
    have HOK' := Lib.hid hok'
    have HOK0 : Hid (okW s0 v0 k0 16 = true) := (okW_iff _ _ _ _).2 ⟨hf0.1, hf0.2.1, by omega⟩
    have hk0 := hf0.2.2
    have HFP := Lib.hid hfp
    have HFAT := Lib.hid hfat
    clear h1 h2 hf0 hfp hfat hok hok2 hok'
    have HATX : Hid (atR s' v' k' place = (s2, v2, k2, true)) := by unfold Hid atR; rw [HOK'.out, fput_at place s v k _ HFP.out]; rfl
    have HPI : Hid (ISl w5 0 w5.heap.size pA place) := (HP.out.1.below (HA5.out.mono (by omega))).mono (Nat.le_refl _) (by omega)
    obtain ⟨hx0, hx1, hx2⟩ := box_cells ⟨_, HX5.out⟩
    dsimp only at hx0 hx1 hx2
    go_wp2_with fail
    with_reducible refine (iTermAt_any s' v' a4 c4 k' pA pC place _ ((HLX.out.below (HX5.out.mono (by omega))).mono (Nat.le_refl _) (by omega)) HPI.out (by omega)).mono ?_
    rintro e w6 ⟨a6, c6, s6, v6, k6, t6, hr6, rfl, hb6, hl6⟩
    rw [HATX.out] at hr6
    simp only [Prod.mk.injEq] at hr6
    obtain ⟨rfl, rfl, rfl, rfl⟩ := hr6
    have hs6 := hb6.size
    have hb7 := hb6.alloc hs6 (.cells #[.int .i64 s2, .int .i64 v2, .slice a6 (flen k2) c6] 25)
    have HLY : Hid (Sl (w6.alloc (.cells #[.int .i64 s2, .int .i64 v2, .slice a6 (flen k2) c6] 25)) 0 w6.heap.size a6 k2) := (hl6.below ((Below.refl _ _).alloc (Nat.le_refl _) _)).mono (Nat.zero_le _) (Nat.le_refl _)
    have HY6 : Hid (Below (w6.heap.size + 1) (w6.alloc (.cells #[.int .i64 s2, .int .i64 v2, .slice a6 (flen k2) c6] 25)) (w6.alloc (.cells #[.int .i64 s2, .int .i64 v2, .slice a6 (flen k2) c6] 25))) := Below.refl _ _
    have HX6 := Lib.hid (HX5.out.trans (hb7.mono (show w3.heap.size + 1 ≤ _ by omega)))
    have HA6 := Lib.hid (HA5.out.trans (hb7.mono (show w1.heap.size + 2 ≤ _ by omega)))
    clear hb6 hb7 hl6 hx0 hx1 hx2 HV3 HV5 HA2 HA3 HX3
    obtain ⟨hc0, hc1, hc2, hd0, hd1, hd2⟩ := tb_cells HA6.out
    go_wp2_with fail
    with_reducible refine (iTermPlaces_any s v a1 c1 k _ ((HL.out.below (HA6.out.mono (by omega))).mono (Nat.le_refl _) (by simp; omega))).mono ?_
    rintro e w7 ⟨A7, C7, rows, rfl, hrows, hb7, hr7⟩
    rw [HOK.out] at hrows
    simp only [if_true] at hrows
    subst hrows
    have hs7 := hb7.size
    simp at hs7
    have HX7 := Lib.hid (HX6.out.trans (hb7.mono (show w3.heap.size + 1 ≤ _ by simp; omega)))
    have HA7 := Lib.hid (HA6.out.trans (hb7.mono (show w1.heap.size + 2 ≤ _ by simp; omega)))
    have HY7 := Lib.hid (HY6.out.trans (hb7.mono (show w6.heap.size + 1 ≤ _ by simp)))
    have HR7 := Lib.hid (hr7.mono (lo' := 0) (Nat.zero_le _) (Nat.le_refl _))
    have HD : Hid (∀ r ∈ places k, r.length ≤ 2000) := fun r hr => by have := places_deep hr; omega
    have hrl : (places k).length ≤ 2000 := by rw [places_len]; omega
    clear hb7 hr7 hc0 hc1 hc2 hd0 hd1 hd2
    go_wp2_with fail
    go_loopw [13] (fun i wr => ∃ j : Nat, j ≤ (places k).length ∧ i = .int .i64 j ∧ Below w7.heap.size w7 wr) (fun i _ => (places k).length - (intOf i).toNat)
    case atStart => exact ⟨0, by omega, rfl, Below.refl _ _⟩
    case round =>
      obtain ⟨wo, hwo⟩ : ∃ wo, wo = wr := ⟨_, rfl⟩
      subst hwo
      obtain ⟨j, hj, rfl, hbl⟩ := hrel
      have hbs := hbl.size
      by_cases hlt : j < (places k).length
      · obtain ⟨b, o, a9, c9, p, rfl, _, hbB, hp, hk0, hi9⟩ := rsl_at (HR7.out.below hbl) hlt
        have hpl9 : p.length ≤ 2000 := HD.out p (List.mem_of_getElem? hp)
        obtain ⟨⟨y1, y2, y3⟩, hfat9⟩ := places_at k s v p (List.mem_of_getElem? hp)
        have HI9 := Lib.hid (hi9.mono (lo' := 0) (Nat.le_refl _) hbs)
        have HPO : Hid (ISl wo 0 wo.heap.size pA place) := (HP.out.1.below ((HA7.out.trans (hbl.mono (by omega))).mono (by omega))).mono (Nat.le_refl _) (by omega)
        have HBL := Lib.hid hbl
        have g1 : (0 : Int) ≤ (j : Int) := by omega
        have g2 : (j : Int) < ((places k).length : Int) := by omega
        have HF9 := Lib.hid hfat9
        clear hp hi9 hfat9 hbl
        go_wp2_with fail
        with_reducible refine (laApart_any p place a9 pA c9 pC _ HI9.out HPO.out hpl9 hpl).mono ?_
        rintro e wq ⟨rfl, hbq⟩
        have hsq := hbq.size
        have HBQ := Lib.hid (HBL.out.trans (hbq.mono hbs))
        have hkq := cell_low hbq hk0
        have HIq := Lib.hid ((HI9.out.below hbq).mono (lo' := 0) (Nat.le_refl _) hsq)
        clear hbq hk0
        cases hap : apart p place with
        | false =>
          clear hap hkq
          go_wp2_with fail
          go_roundw
          case rel => exact ⟨j + 1, by omega, by go_num, HBQ.out⟩
          case measure => simp [intOf]; omega
        | true =>
          have hfx := fput_far place p s v k _ hap HFP.out HF9.out
          have hy := fat_ok p s v k ((okW_iff _ _ _ _).1 HOK.out).1 ((okW_iff _ _ _ _).1 HOK.out).2.1 HF9.out
          have hy3 : fsz y3 ≤ 1000 := by omega
          have HRT : Hid (atR s v k p = (y1, y2, y3, true)) := by unfold Hid atR; rw [HOK.out, HF9.out]; rfl
          have HRX : Hid (atR s' v' k' p = (y1, y2, y3, true)) := by unfold Hid atR; rw [HOK'.out, hfx]; rfl
          have HPL : Hid (p.length ≤ 1048576) := by unfold Hid; omega
          have HAq := Lib.hid (HA7.out.trans (HBQ.out.mono (show w1.heap.size + 2 ≤ w7.heap.size by omega)))
          obtain ⟨hc0, hc1, hc2, _, _, _⟩ := tb_cells HAq.out
          have HTq := Lib.hid ((HL.out.below (HAq.out.mono (by omega))).mono (lo' := 0) (Nat.le_refl _) (show w1.heap.size ≤ wq.heap.size by omega))
          have hbB' : b < wq.heap.size := by omega
          clear hap hfx hy
          have HSLa : Hid (Sl wq.drew 0 wq.drew.heap.size a1 k) := HTq.out.below (Below.refl _ _).drew
          have HSLb : Hid (Sl (wq.alloc (.cells #[.int .i64 0, .int .i64 0, .slice none 0 0] 25)).drew 0 (wq.alloc (.cells #[.int .i64 0, .int .i64 0, .slice none 0 0] 25)).drew.heap.size a1 k) := (HTq.out.below ((Below.refl _ _).alloc (Nat.le_refl _) _).drew).mono (Nat.le_refl _) (by simp)
          have HIa : Hid (ISl wq.drew 0 wq.drew.heap.size a9 p) := HIq.out.below (Below.refl _ _).drew
          have HIb : Hid (ISl (wq.alloc (.cells #[.int .i64 0, .int .i64 0, .slice none 0 0] 25)).drew 0 (wq.alloc (.cells #[.int .i64 0, .int .i64 0, .slice none 0 0] 25)).drew.heap.size a9 p) := (HIq.out.below ((Below.refl _ _).alloc (Nat.le_refl _) _).drew).mono (Nat.le_refl _) (by simp)
          go_wp2_with fail
          go_region_held3 (fun w' => w'.cell? ⟨b, o + j, none⟩ = some (.slice a9 p.length c9) ∧ w'.cell? ⟨w1.heap.size, 0, none⟩ = some (.int .i64 s) ∧ w'.cell? ⟨w1.heap.size, 1, none⟩ = some (.int .i64 v) ∧ w'.cell? ⟨w1.heap.size, 2, none⟩ = some (.slice a1 (flen k) c1))
            (first
              | exact keep4 hlow8 hkq hc0 hc1 hc2 (by omega) (by omega)
              | exact keep4 (hlow8.alloc hlow8.size _) hkq hc0 hc1 hc2 (by omega) (by omega)
              | exact keep4 (((hlow8.setCell (Nat.le_refl _) _).setCell (Nat.le_refl _) _).setCell (Nat.le_refl _) _) hkq hc0 hc1 hc2 (by omega) (by omega)
              | go_keep)
            (first
              | (go_at_call 15; refine (iTermAt_any s v a1 c1 k a9 c9 p wq.drew HSLa.out HIa.out HPL.out).mono ?_; rintro e w8 ⟨a8wa, c8wa, s8, v8, k8, t8, hr8, rfl, hb8, hl8⟩; rw [HRT.out] at hr8; simp only [Prod.mk.injEq] at hr8; obtain ⟨rfl, rfl, rfl, rfl⟩ := hr8; have hlow8 : Below wq.heap.size wq w8 := bl_undrew hb8; have hl8x : Sl w8 wq.heap.size w8.heap.size a8wa y3 := hl8; have hC8 : Hid True := trivial)
              | (go_at_call 15; refine (iTermAt_any s v a1 c1 k a9 c9 p (wq.alloc (.cells #[.int .i64 0, .int .i64 0, .slice none 0 0] 25)).drew HSLb.out HIb.out HPL.out).mono ?_; rintro e w8 ⟨a8wa, c8wa, s8, v8, k8, t8, hr8, rfl, hb8, hl8⟩; rw [HRT.out] at hr8; simp only [Prod.mk.injEq] at hr8; obtain ⟨rfl, rfl, rfl, rfl⟩ := hr8; have hlow8 : Below wq.heap.size wq w8 := lp_lowB hb8; obtain ⟨hx0', hx1', hx2', hy0', hy1', hy2'⟩ := lp_cellB hb8; have hl8x : Sl w8 (wq.heap.size + 1) w8.heap.size a8wa y3 := lp_slB hl8))
          obtain ⟨hv0wa, hv1wa, hv2wa, hswa, hlwa⟩ := lp_goA (x := .int .i64 y1) (y := .int .i64 y2) (c := c8wa) hlow8 hl8x
          have hgewa : wq.heap.size ≤ w8.heap.size := hlow8.size
          have hltwa := World.block_lt_of_cell? _ _ hv0wa
          dsimp only at hltwa
          clear hlow8 hl8 hl8x hb8 hC8
          generalize w8.alloc (.cells #[.int .i64 y1, .int .i64 y2, .slice a8wa (flen y3) c8wa] 25) = wa at hv0wa hv1wa hv2wa hswa hlwa hltwa ⊢
          generalize w8.heap.size = ba at hv0wa hv1wa hv2wa hgewa hltwa ⊢
          rotate_left
          obtain ⟨hv0wa, hv1wa, hv2wa, hswa, hlwa⟩ := lp_goB (x := .int .i64 y1) (y := .int .i64 y2) (c := c8wa) hlow8 hl8x hx0' hx1' hx2'
          obtain ⟨ba, hbx⟩ : ∃ ba, ba = wq.heap.size := ⟨_, rfl⟩
          have hgewa : wq.heap.size ≤ ba := by omega
          have hltwa := World.block_lt_of_cell? _ _ hv0wa
          dsimp only at hltwa
          clear hlow8 hl8 hl8x hb8 hx0' hx1' hx2' hy0' hy1' hy2'
          generalize ((w8.setCell ⟨wq.heap.size, 0, none⟩ (.int .i64 y1)).setCell ⟨wq.heap.size, 1, none⟩ (.int .i64 y2)).setCell ⟨wq.heap.size, 2, none⟩ (.slice a8wa (flen y3) c8wa) = wa at hv0wa hv1wa hv2wa hswa hlwa hltwa ⊢
          rw [← hbx] at hv0wa hv1wa hv2wa hltwa ⊢
          clear hbx
          rotate_left
          all_goals
            have hka := cell_low (hswa.mono (Nat.le_refl _)) hkq
            have HBA := Lib.hid (HBQ.out.trans (hswa.mono (by omega)))
            have hsa := hswa.size
            have HIa' := Lib.hid ((HIq.out.below hswa).mono (lo' := 0) (Nat.le_refl _) hsa)
            have HLa := Lib.hid hlwa
            clear hkq hc0 hc1 hc2 HTq HSLa HSLb HIa HIb HIq hswa hlwa
            have HXa := Lib.hid (HX7.out.trans (HBA.out.mono (show w3.heap.size + 1 ≤ w7.heap.size by omega)))
            obtain ⟨hx0, hx1, hx2⟩ := box_cells ⟨_, HXa.out⟩
            dsimp only at hx0 hx1 hx2
            have HTa := Lib.hid ((HLX.out.below (HXa.out.mono (by omega))).mono (lo' := 0) (Nat.le_refl _) (show w3.heap.size ≤ wa.heap.size by omega))
            have HSLa : Hid (Sl wa.drew 0 wa.drew.heap.size a4 k') := HTa.out.below (Below.refl _ _).drew
            have HSLb : Hid (Sl (wa.alloc (.cells #[.int .i64 0, .int .i64 0, .slice none 0 0] 25)).drew 0 (wa.alloc (.cells #[.int .i64 0, .int .i64 0, .slice none 0 0] 25)).drew.heap.size a4 k') := (HTa.out.below ((Below.refl _ _).alloc (Nat.le_refl _) _).drew).mono (Nat.le_refl _) (by simp)
            have HIa : Hid (ISl wa.drew 0 wa.drew.heap.size a9 p) := HIa'.out.below (Below.refl _ _).drew
            have HIb : Hid (ISl (wa.alloc (.cells #[.int .i64 0, .int .i64 0, .slice none 0 0] 25)).drew 0 (wa.alloc (.cells #[.int .i64 0, .int .i64 0, .slice none 0 0] 25)).drew.heap.size a9 p) := (HIa'.out.below ((Below.refl _ _).alloc (Nat.le_refl _) _).drew).mono (Nat.le_refl _) (by simp)
            go_wp2_with fail
            go_region_held3 (fun w' => w'.cell? ⟨b, o + j, none⟩ = some (.slice a9 p.length c9) ∧ w'.cell? ⟨w3.heap.size, 0, none⟩ = some (.int .i64 s') ∧ w'.cell? ⟨w3.heap.size, 1, none⟩ = some (.int .i64 v') ∧ w'.cell? ⟨w3.heap.size, 2, none⟩ = some (.slice a4 (flen k') c4))
              (first
                | exact keep4 hlow8 hka hx0 hx1 hx2 (by omega) (by omega)
                | exact keep4 (hlow8.alloc hlow8.size _) hka hx0 hx1 hx2 (by omega) (by omega)
                | exact keep4 (((hlow8.setCell (Nat.le_refl _) _).setCell (Nat.le_refl _) _).setCell (Nat.le_refl _) _) hka hx0 hx1 hx2 (by omega) (by omega)
                | go_keep)
              (first
                | (go_at_call 15; refine (iTermAt_any s' v' a4 c4 k' a9 c9 p wa.drew HSLa.out HIa.out HPL.out).mono ?_; rintro e w8 ⟨a8wb, c8wb, s8, v8, k8, t8, hr8, rfl, hb8, hl8⟩; rw [HRX.out] at hr8; simp only [Prod.mk.injEq] at hr8; obtain ⟨rfl, rfl, rfl, rfl⟩ := hr8; have hlow8 : Below wa.heap.size wa w8 := bl_undrew hb8; have hl8x : Sl w8 wa.heap.size w8.heap.size a8wb y3 := hl8; have hC8 : Hid True := trivial)
                | (go_at_call 15; refine (iTermAt_any s' v' a4 c4 k' a9 c9 p (wa.alloc (.cells #[.int .i64 0, .int .i64 0, .slice none 0 0] 25)).drew HSLb.out HIb.out HPL.out).mono ?_; rintro e w8 ⟨a8wb, c8wb, s8, v8, k8, t8, hr8, rfl, hb8, hl8⟩; rw [HRX.out] at hr8; simp only [Prod.mk.injEq] at hr8; obtain ⟨rfl, rfl, rfl, rfl⟩ := hr8; have hlow8 : Below wa.heap.size wa w8 := lp_lowB hb8; obtain ⟨hx0', hx1', hx2', hy0', hy1', hy2'⟩ := lp_cellB hb8; have hl8x : Sl w8 (wa.heap.size + 1) w8.heap.size a8wb y3 := lp_slB hl8))
            obtain ⟨hv0wb, hv1wb, hv2wb, hswb, hlwb⟩ := lp_goA (x := .int .i64 y1) (y := .int .i64 y2) (c := c8wb) hlow8 hl8x
            have hgewb : wa.heap.size ≤ w8.heap.size := hlow8.size
            have hltwb := World.block_lt_of_cell? _ _ hv0wb
            dsimp only at hltwb
            clear hlow8 hl8 hl8x hb8 hC8
            generalize w8.alloc (.cells #[.int .i64 y1, .int .i64 y2, .slice a8wb (flen y3) c8wb] 25) = wb at hv0wb hv1wb hv2wb hswb hlwb hltwb ⊢
            generalize w8.heap.size = bb at hv0wb hv1wb hv2wb hgewb hltwb ⊢
            rotate_left
            obtain ⟨hv0wb, hv1wb, hv2wb, hswb, hlwb⟩ := lp_goB (x := .int .i64 y1) (y := .int .i64 y2) (c := c8wb) hlow8 hl8x hx0' hx1' hx2'
            obtain ⟨bb, hbx⟩ : ∃ bb, bb = wa.heap.size := ⟨_, rfl⟩
            have hgewb : wa.heap.size ≤ bb := by omega
            have hltwb := World.block_lt_of_cell? _ _ hv0wb
            dsimp only at hltwb
            clear hlow8 hl8 hl8x hb8 hx0' hx1' hx2' hy0' hy1' hy2'
            generalize ((w8.setCell ⟨wa.heap.size, 0, none⟩ (.int .i64 y1)).setCell ⟨wa.heap.size, 1, none⟩ (.int .i64 y2)).setCell ⟨wa.heap.size, 2, none⟩ (.slice a8wb (flen y3) c8wb) = wb at hv0wb hv1wb hv2wb hswb hlwb hltwb ⊢
            rw [← hbx] at hv0wb hv1wb hv2wb hltwb ⊢
            clear hbx
            rotate_left
            all_goals
              have hva0 := cell_low hswb hv0wa
              have hva1 := cell_low hswb hv1wa
              have hva2 := cell_low hswb hv2wa
              have HBB := Lib.hid (HBA.out.trans (hswb.mono (by omega)))
              have HLAb := Lib.hid ((HLa.out.below hswb).mono (lo' := 0) (Nat.le_refl _) hswb.size)
              have HLBb := Lib.hid hlwb
              clear hka hx0 hx1 hx2 HTa HSLa HSLb HIa HIb hswb hlwb hv0wa hv1wa hv2wa
              go_wp2_with fail
              with_reducible refine (laTerm_same (fsz y3) y1 y2 a8wa a8wb c8wa c8wb y3 _ HLAb.out HLBb.out (Nat.le_refl _) (by omega)).mono ?_
              rintro e wc ⟨rfl, hbc⟩
              have HBC := Lib.hid (HBB.out.trans (hbc.mono HBB.out.size))
              clear hbc hva0 hva1 hva2 hv0wb hv1wb hv2wb
              go_wp2_with fail
              go_roundw
              case rel => exact ⟨j + 1, by omega, by go_num, HBC.out⟩
              case measure => simp [intOf]; omega
      · have HAq := Lib.hid (HA7.out.trans (hbl.mono (show w1.heap.size + 2 ≤ w7.heap.size by omega)))
        have HYq := Lib.hid (HY7.out.trans (hbl.mono (show w6.heap.size + 1 ≤ w7.heap.size by omega)))
        have HXq := Lib.hid (HX7.out.trans (hbl.mono (show w3.heap.size + 1 ≤ w7.heap.size by omega)))
        obtain ⟨_, _, _, hd0, hd1, hd2⟩ := tb_cells HAq.out
        obtain ⟨hy0, hy1, hy2⟩ := box_cells ⟨_, HYq.out⟩
        dsimp only at hy0 hy1 hy2
        have HSq := Lib.hid ((HM.out.below (HAq.out.mono (by omega))).mono (lo' := 0) (Nat.le_refl _) (show w1.heap.size ≤ wo.heap.size by omega))
        have HYl := Lib.hid ((HLY.out.below (HYq.out.mono (by omega))).mono (lo' := 0) (Nat.le_refl _) (show w6.heap.size ≤ wo.heap.size by omega))
        clear hbl
        go_wp2_with fail
        with_reducible refine (laTerm_same (fsz k2) s2 v2 a6 a2 c6 c2 k2 _ HYl.out HSq.out (Nat.le_refl _) (by omega)).mono ?_
        rintro e wp ⟨rfl, hbp⟩
        have hsp := hbp.size
        have HXp := Lib.hid (HXq.out.trans (hbp.mono (by omega)))
        have HAp := Lib.hid (HAq.out.trans (hbp.mono (by omega)))
        obtain ⟨hx0, hx1, hx2⟩ := box_cells ⟨_, HXp.out⟩
        dsimp only at hx0 hx1 hx2
        have HTp := Lib.hid ((HLX.out.below (HXp.out.mono (by omega))).mono (lo' := 0) (Nat.le_refl _) (show w3.heap.size ≤ wp.heap.size by omega))
        clear hbp hd0 hd1 hd2 hy0 hy1 hy2
        go_wp2_with fail
        with_reducible refine (iTermOk_any s' v' a4 c4 k' _ HTp.out).mono ?_
        rw [HOK'.out]
        rintro e wn ⟨rfl, hbn⟩
        have HAn := Lib.hid (HAp.out.trans (hbn.mono (by omega)))
        clear hbn hx0 hx1 hx2
        go_wp2_with fail
        go_ret
        exact ⟨rfl, HB1.out.trans (HAn.out.mono (by omega))⟩
end Go.Proofs.Ytebalmemncldlaa
