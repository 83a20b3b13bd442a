/- For every code, laws.FnTermPutSize answers true and writes nothing that was there. No condition. -/
import Derived.Test.YtebalmemncldlaaD3
namespace Go.Proofs.Ytebalmemncldlaa
open Go.RowKit Go.Deep
attribute [local go_sem ↓] Go.wp_at_zero Go.wp_at_succ

set_option maxRecDepth 100000 in
set_option maxHeartbeats 1000000 in
theorem lawPutSize_walk (a : Option Addr) (len cap : Nat) (w : World) (hby : Bytes w a len) (hlen : len ≤ cap) :
    Calls Try.prog 7 #[.slice a len cap] w fun e w' => e = .returned (.bool true) ∧ Below w.heap.size w w' := by
  have HBY := Lib.hid hby
  clear hby
  by_cases hbig : 1048576 < len
  · go_enter Try.func7, Try.ntmps7
    go_wp2_with fail
    go_ret
    exact ⟨rfl, Below.refl _ _⟩
  go_enter Try.func7, Try.ntmps7
  go_wp2_with fail
  with_reducible refine (DrawTermPut_any a len cap _ HBY.out hlen).mono ?_
  rintro e w1 ⟨s, v, a1, c1, k, pA, pC, place, s2, v2, a2, c2, k2, rfl, hS, hpl, hS2, hb1, hl1, hi1, hm1⟩
  have hs1 := hb1.size
  have hcap := hi1.2
  have hbA : Below w1.heap.size w1 ((w1.alloc (.cells #[.int .i64 s, .int .i64 v, .slice a1 (flen k) c1] 25)).alloc (.cells #[.int .i64 s2, .int .i64 v2, .slice a2 (flen k2) c2] 25)) := ((Below.refl _ _).alloc (Nat.le_refl _) _).alloc (by simp) _
  have HB1 := Lib.hid (hb1.trans (hbA.mono hs1))
  have HL : Hid (Sl ((w1.alloc (.cells #[.int .i64 s, .int .i64 v, .slice a1 (flen k) c1] 25)).alloc (.cells #[.int .i64 s2, .int .i64 v2, .slice a2 (flen k2) c2] 25)) 0 w1.heap.size a1 k) := (hl1.below hbA).mono (Nat.zero_le _) (Nat.le_refl _)
  have HM : Hid (Sl ((w1.alloc (.cells #[.int .i64 s, .int .i64 v, .slice a1 (flen k) c1] 25)).alloc (.cells #[.int .i64 s2, .int .i64 v2, .slice a2 (flen k2) c2] 25)) 0 w1.heap.size a2 k2) := (hm1.below hbA).mono (Nat.zero_le _) (Nat.le_refl _)
  have HP : Hid (ISc ((w1.alloc (.cells #[.int .i64 s, .int .i64 v, .slice a1 (flen k) c1] 25)).alloc (.cells #[.int .i64 s2, .int .i64 v2, .slice a2 (flen k2) c2] 25)) 0 w1.heap.size pA pC place) := (hi1.same (Same.of_below hbA)).mono (Nat.zero_le _) (Nat.le_refl _)
  have HA1 : Hid (Below (w1.heap.size + 2) ((w1.alloc (.cells #[.int .i64 s, .int .i64 v, .slice a1 (flen k) c1] 25)).alloc (.cells #[.int .i64 s2, .int .i64 v2, .slice a2 (flen k2) c2] 25)) ((w1.alloc (.cells #[.int .i64 s, .int .i64 v, .slice a1 (flen k) c1] 25)).alloc (.cells #[.int .i64 s2, .int .i64 v2, .slice a2 (flen k2) c2] 25))) := Below.refl _ _
  clear hb1 hl1 hi1 hm1 hbA
  go_wp2_with fail
  with_reducible refine (sTermPut_any s v a1 c1 k pA pC place s2 v2 a2 c2 k2 _ (HL.out.mono (Nat.le_refl _) (by simp; omega)) (HP.out.mono (Nat.le_refl _) (by simp; omega)) (by omega) (HM.out.mono (Nat.le_refl _) (by simp; omega))).mono ?_
  rintro e w2 ⟨a3, c3, s', v', k', t, hR, rfl, hb2, hl2⟩
  have HR := Lib.hid hR
  have hs2 := hb2.size
  simp at hs2
  have hk' := putR_sz hR
  have HA2 : Hid (Below (w1.heap.size + 2) ((w1.alloc (.cells #[.int .i64 s, .int .i64 v, .slice a1 (flen k) c1] 25)).alloc (.cells #[.int .i64 s2, .int .i64 v2, .slice a2 (flen k2) c2] 25)) (w2.alloc (.cells #[.int .i64 s', .int .i64 v', .slice a3 (flen k') c3] 25))) := (hb2.mono (by simp)).alloc (by omega) _
  have HLW : Hid (Sl (w2.alloc (.cells #[.int .i64 s', .int .i64 v', .slice a3 (flen k') c3] 25)) 0 w2.heap.size a3 k') := (hl2.below ((Below.refl _ _).alloc (Nat.le_refl _) _)).mono (Nat.zero_le _) (Nat.le_refl _)
  obtain ⟨hc0, hc1, hc2, hd0, hd1, hd2⟩ := tb_cells HA2.out
  clear hR hb2 hl2
  go_wp2_with fail
  with_reducible refine (iTermPut_any s v a1 c1 k pA pC place s2 v2 a2 c2 k2 _ ((HL.out.below (HA2.out.mono (by omega))).mono (Nat.le_refl _) (by simp; omega)) ((HP.out.same (Same.of_below (HA2.out.mono (by omega)))).mono (Nat.le_refl _) (by simp; omega)) (by omega) ((HM.out.below (HA2.out.mono (by omega))).mono (Nat.le_refl _) (by simp; omega))).mono ?_
  rintro e w3 ⟨a4, c4, s4, v4, k4, t4, hR4, rfl, hb3, hl3⟩
  rw [HR.out] at hR4
  simp only [Prod.mk.injEq] at hR4
  obtain ⟨rfl, rfl, rfl, rfl⟩ := hR4
  have hs3 := hb3.size
  simp at hs3
  have HV3 : Hid (Below (w2.heap.size + 1) (w2.alloc (.cells #[.int .i64 s', .int .i64 v', .slice a3 (flen k') c3] 25)) (w3.alloc (.cells #[.int .i64 s', .int .i64 v', .slice a4 (flen k') c4] 25))) := (hb3.mono (by simp)).alloc (by omega) _
  have HA3 := Lib.hid (HA2.out.trans (HV3.out.mono (show w1.heap.size + 2 ≤ w2.heap.size + 1 by omega)))
  have HLX : Hid (Sl (w3.alloc (.cells #[.int .i64 s', .int .i64 v', .slice a4 (flen k') c4] 25)) 0 w3.heap.size a4 k') := (hl3.below ((Below.refl _ _).alloc (Nat.le_refl _) _)).mono (Nat.zero_le _) (Nat.le_refl _)
  have HX3 : Hid (Below (w3.heap.size + 1) (w3.alloc (.cells #[.int .i64 s', .int .i64 v', .slice a4 (flen k') c4] 25)) (w3.alloc (.cells #[.int .i64 s', .int .i64 v', .slice a4 (flen k') c4] 25))) := Below.refl _ _
  clear hb3 hl3 hc0 hc1 hc2 hd0 hd1 hd2
  obtain ⟨hv0, hv1, hv2⟩ := box_cells ⟨_, HV3.out⟩
  obtain ⟨hx0, hx1, hx2⟩ := box_cells ⟨_, HX3.out⟩
  dsimp only at hv0 hv1 hv2 hx0 hx1 hx2
  have eb : (t != t) = false := by simp
  have eb' : (t == t) = true := by simp
  go_wp2_with fail
  with_reducible refine (laTerm_same (fsz k') s' v' a4 a3 c4 c3 k' _ (HLX.out.mono (Nat.le_refl _) (by simp)) ((HLW.out.below (HV3.out.mono (by omega))).mono (Nat.le_refl _) (by simp; omega)) (Nat.le_refl _) (by omega)).mono ?_
  rintro e w5 ⟨rfl, hb5⟩
  have hs5 := hb5.size
  simp at hs5
  have HX5 := Lib.hid (HX3.out.trans (hb5.mono (by simp)))
  have HV5 := Lib.hid (HV3.out.trans (hb5.mono (by simp; omega)))
  have HA5 := Lib.hid (HA3.out.trans (hb5.mono (by simp; omega)))
  clear hb5 hv0 hv1 hv2 hx0 hx1 hx2
  cases t with
  | false =>
    obtain ⟨hv0, hv1, hv2⟩ := box_cells ⟨_, HV5.out⟩
    obtain ⟨hx0, hx1, hx2⟩ := box_cells ⟨_, HX5.out⟩
    dsimp only at hv0 hv1 hv2 hx0 hx1 hx2
    go_wp2_with fail
    with_reducible refine (laTerm_same (fsz k') s' v' a4 a3 c4 c3 k' _ ((HLX.out.below (HX5.out.mono (by omega))).mono (Nat.le_refl _) (by omega)) ((HLW.out.below (HV5.out.mono (by omega))).mono (Nat.le_refl _) (by omega)) (Nat.le_refl _) (by omega)).mono ?_
    rintro e w6 ⟨rfl, hb6⟩
    have HA6 := Lib.hid (HA5.out.trans (hb6.mono (by omega)))
    clear hb6
    go_wp2_with fail
    go_ret
    exact ⟨rfl, HB1.out.trans (HA6.out.mono (by omega))⟩
  | true =>
    clear eb eb'
    obtain ⟨hok, hok2, hfp, hok'⟩ := putR_true HR.out
    have h1 := (okW_iff _ _ _ _).1 hok
    have h2 := (okW_iff _ _ _ _).1 hok2
    obtain ⟨⟨s0, v0, k0⟩, hfat⟩ := Option.isSome_iff_exists.1 (show (fat s v k place).isSome = true by rw [← fput_there place s v k (s2, v2, k2), hfp]; rfl)
    have hfsz := fput_sz place s v k _ hfp hfat
    have hf0 := fat_ok place s v k h1.1 h1.2.1 hfat
    have hk16 := h1.2.2
    have hk2 := h2.2.2
    dsimp only at hfsz hk2
    have HAT : Hid (atR s v k place = (s0, v0, k0, true)) := by unfold Hid atR; rw [hok, hfat]; rfl
    have HOK := Lib.hid hok
    have HOK2 : Hid (okW s2 v2 k2 16 = true) := hok2
    have HOK' := Lib.hid hok'
    have HOK0 : Hid (okW s0 v0 k0 16 = true) := (okW_iff _ _ _ _).2 ⟨hf0.1, hf0.2.1, by omega⟩
    have hk0 := hf0.2.2
    have HFP := Lib.hid hfp
    have HFAT := Lib.hid hfat
    clear h1 h2 hf0 hfp hfat hok hok2 hok'
    obtain ⟨hc0, hc1, hc2, hd0, hd1, hd2⟩ := tb_cells HA5.out
    have HPI : Hid (ISl w5 0 w5.heap.size pA place) := (HP.out.1.below (HA5.out.mono (by omega))).mono (Nat.le_refl _) (by omega)
    go_wp2_with fail
    with_reducible refine (iTermAt_any s v a1 c1 k pA pC place _ ((HL.out.below (HA5.out.mono (by omega))).mono (Nat.le_refl _) (by omega)) HPI.out (by omega)).mono ?_
    rintro e w6 ⟨a6, c6, s6, v6, k6, t6, hr6, rfl, hb6, hl6⟩
    rw [HAT.out] at hr6
    simp only [Prod.mk.injEq] at hr6
    obtain ⟨rfl, rfl, rfl, rfl⟩ := hr6
    have hs6 := hb6.size
    have hb7 := hb6.alloc hs6 (.cells #[.int .i64 s0, .int .i64 v0, .slice a6 (flen k0) c6] 25)
    have HL0 : Hid (Sl (w6.alloc (.cells #[.int .i64 s0, .int .i64 v0, .slice a6 (flen k0) c6] 25)) 0 w6.heap.size a6 k0) := (hl6.below ((Below.refl _ _).alloc (Nat.le_refl _) _)).mono (Nat.zero_le _) (Nat.le_refl _)
    have HZ6 : Hid (Below (w6.heap.size + 1) (w6.alloc (.cells #[.int .i64 s0, .int .i64 v0, .slice a6 (flen k0) c6] 25)) (w6.alloc (.cells #[.int .i64 s0, .int .i64 v0, .slice a6 (flen k0) c6] 25))) := Below.refl _ _
    have HX6 := Lib.hid (HX5.out.trans (hb7.mono (show w3.heap.size + 1 ≤ _ by omega)))
    have HA6 := Lib.hid (HA5.out.trans (hb7.mono (show w1.heap.size + 2 ≤ _ by omega)))
    clear hb6 hb7 hl6 hc0 hc1 hc2 hd0 hd1 hd2 HV3 HV5 HA2 HA3 HX3
    obtain ⟨hc0, hc1, hc2, hd0, hd1, hd2⟩ := tb_cells HA6.out
    obtain ⟨hx0, hx1, hx2⟩ := box_cells ⟨_, HX6.out⟩
    obtain ⟨hz0, hz1, hz2⟩ := box_cells ⟨_, HZ6.out⟩
    dsimp only at hx0 hx1 hx2 hz0 hz1 hz2
    have HTX := Lib.hid ((HLX.out.below (HX6.out.mono (by omega))).mono (lo' := 0) (Nat.le_refl _) (show w3.heap.size ≤ (w6.alloc (.cells #[.int .i64 s0, .int .i64 v0, .slice a6 (flen k0) c6] 25)).heap.size by simp; omega))
    have HTT := Lib.hid ((HL.out.below (HA6.out.mono (by omega))).mono (lo' := 0) (Nat.le_refl _) (show w1.heap.size ≤ (w6.alloc (.cells #[.int .i64 s0, .int .i64 v0, .slice a6 (flen k0) c6] 25)).heap.size by simp; omega))
    have HTS := Lib.hid ((HM.out.below (HA6.out.mono (by omega))).mono (lo' := 0) (Nat.le_refl _) (show w1.heap.size ≤ (w6.alloc (.cells #[.int .i64 s0, .int .i64 v0, .slice a6 (flen k0) c6] 25)).heap.size by simp; omega))
    have HTZ := Lib.hid (HL0.out.mono (lo' := 0) (Nat.le_refl _) (show w6.heap.size ≤ (w6.alloc (.cells #[.int .i64 s0, .int .i64 v0, .slice a6 (flen k0) c6] 25)).heap.size by simp))
    have hu0 : ∀ u : After (w6.alloc (.cells #[.int .i64 s0, .int .i64 v0, .slice a6 (flen k0) c6] 25)).heap.size (w6.alloc (.cells #[.int .i64 s0, .int .i64 v0, .slice a6 (flen k0) c6] 25)), u.world.cell? ⟨w1.heap.size, 0, none⟩ = some (.int .i64 s) := fun u => u.cell (by simp; omega) hc0
    have hu1 : ∀ u : After (w6.alloc (.cells #[.int .i64 s0, .int .i64 v0, .slice a6 (flen k0) c6] 25)).heap.size (w6.alloc (.cells #[.int .i64 s0, .int .i64 v0, .slice a6 (flen k0) c6] 25)), u.world.cell? ⟨w1.heap.size, 1, none⟩ = some (.int .i64 v) := fun u => u.cell (by simp; omega) hc1
    have hu2 : ∀ u : After (w6.alloc (.cells #[.int .i64 s0, .int .i64 v0, .slice a6 (flen k0) c6] 25)).heap.size (w6.alloc (.cells #[.int .i64 s0, .int .i64 v0, .slice a6 (flen k0) c6] 25)), u.world.cell? ⟨w1.heap.size, 2, none⟩ = some (.slice a1 (flen k) c1) := fun u => u.cell (by simp; omega) hc2
    have hu3 : ∀ u : After (w6.alloc (.cells #[.int .i64 s0, .int .i64 v0, .slice a6 (flen k0) c6] 25)).heap.size (w6.alloc (.cells #[.int .i64 s0, .int .i64 v0, .slice a6 (flen k0) c6] 25)), u.world.cell? ⟨w1.heap.size + 1, 0, none⟩ = some (.int .i64 s2) := fun u => u.cell (by simp; omega) hd0
    have hu4 : ∀ u : After (w6.alloc (.cells #[.int .i64 s0, .int .i64 v0, .slice a6 (flen k0) c6] 25)).heap.size (w6.alloc (.cells #[.int .i64 s0, .int .i64 v0, .slice a6 (flen k0) c6] 25)), u.world.cell? ⟨w1.heap.size + 1, 1, none⟩ = some (.int .i64 v2) := fun u => u.cell (by simp; omega) hd1
    have hu5 : ∀ u : After (w6.alloc (.cells #[.int .i64 s0, .int .i64 v0, .slice a6 (flen k0) c6] 25)).heap.size (w6.alloc (.cells #[.int .i64 s0, .int .i64 v0, .slice a6 (flen k0) c6] 25)), u.world.cell? ⟨w1.heap.size + 1, 2, none⟩ = some (.slice a2 (flen k2) c2) := fun u => u.cell (by simp; omega) hd2
    have hu6 : ∀ u : After (w6.alloc (.cells #[.int .i64 s0, .int .i64 v0, .slice a6 (flen k0) c6] 25)).heap.size (w6.alloc (.cells #[.int .i64 s0, .int .i64 v0, .slice a6 (flen k0) c6] 25)), u.world.cell? ⟨w3.heap.size, 0, none⟩ = some (.int .i64 s') := fun u => u.cell (by simp; omega) hx0
    have hu7 : ∀ u : After (w6.alloc (.cells #[.int .i64 s0, .int .i64 v0, .slice a6 (flen k0) c6] 25)).heap.size (w6.alloc (.cells #[.int .i64 s0, .int .i64 v0, .slice a6 (flen k0) c6] 25)), u.world.cell? ⟨w3.heap.size, 1, none⟩ = some (.int .i64 v') := fun u => u.cell (by simp; omega) hx1
    have hu8 : ∀ u : After (w6.alloc (.cells #[.int .i64 s0, .int .i64 v0, .slice a6 (flen k0) c6] 25)).heap.size (w6.alloc (.cells #[.int .i64 s0, .int .i64 v0, .slice a6 (flen k0) c6] 25)), u.world.cell? ⟨w3.heap.size, 2, none⟩ = some (.slice a4 (flen k') c4) := fun u => u.cell (by simp; omega) hx2
    have hu9 : ∀ u : After (w6.alloc (.cells #[.int .i64 s0, .int .i64 v0, .slice a6 (flen k0) c6] 25)).heap.size (w6.alloc (.cells #[.int .i64 s0, .int .i64 v0, .slice a6 (flen k0) c6] 25)), u.world.cell? ⟨w6.heap.size, 0, none⟩ = some (.int .i64 s0) := fun u => u.cell (by simp) hz0
    have hu10 : ∀ u : After (w6.alloc (.cells #[.int .i64 s0, .int .i64 v0, .slice a6 (flen k0) c6] 25)).heap.size (w6.alloc (.cells #[.int .i64 s0, .int .i64 v0, .slice a6 (flen k0) c6] 25)), u.world.cell? ⟨w6.heap.size, 1, none⟩ = some (.int .i64 v0) := fun u => u.cell (by simp) hz1
    have hu11 : ∀ u : After (w6.alloc (.cells #[.int .i64 s0, .int .i64 v0, .slice a6 (flen k0) c6] 25)).heap.size (w6.alloc (.cells #[.int .i64 s0, .int .i64 v0, .slice a6 (flen k0) c6] 25)), u.world.cell? ⟨w6.heap.size, 2, none⟩ = some (.slice a6 (flen k0) c6) := fun u => u.cell (by simp) hz2
    have HSZ : Hid (∀ (s v : Int) (a : Option Addr) (c : Nat) (k : Fo), Sl (w6.alloc (.cells #[.int .i64 s0, .int .i64 v0, .slice a6 (flen k0) c6] 25)) 0 (w6.alloc (.cells #[.int .i64 s0, .int .i64 v0, .slice a6 (flen k0) c6] 25)).heap.size a k → okW s v k 16 = true → ∀ u : After (w6.alloc (.cells #[.int .i64 s0, .int .i64 v0, .slice a6 (flen k0) c6] 25)).heap.size (w6.alloc (.cells #[.int .i64 s0, .int .i64 v0, .slice a6 (flen k0) c6] 25)), Calls Try.prog 23 #[.agg #[.int .i64 s, .int .i64 v, .slice a (flen k) c]] u.world fun e w' => e = .returned (.int .i64 (1 + fsz k)) ∧ Below u.world.heap.size u.world w') := fun s v a c k hl hok u => by
      have hu := u.below
      have := iTermSize_any s v a c k u.world ((hl.below hu).mono (Nat.le_refl _) hu.size)
      rw [hok] at this
      simpa only [if_true] using this
    have e1 : ((1 + (fsz k' : Int)) == 1 + (fsz k : Int) - (1 + (fsz k0 : Int)) + (1 + (fsz k2 : Int))) = true := by rw [beq_iff_eq]; omega
    go_wp2_with fail
    clear hc0 hc1 hc2 hd0 hd1 hd2 hx0 hx1 hx2 hz0 hz1 hz2
    refine wp_region_after (w6.alloc (.cells #[.int .i64 s0, .int .i64 v0, .slice a6 (flen k0) c6] 25)).heap.size (by kernel_rfl) (by kernel_rfl) ?_
    go_big_quiet_step (fail)
    go_big_quiet_step ((go_at_call 23; exact Calls.after (After.below ‹_›).size (HSZ.out s' v' a4 c4 k' HTX.out HOK'.out _)))
    go_big_quiet_step (fail)
    go_big_quiet_step ((go_at_call 23; exact Calls.after (After.below ‹_›).size (HSZ.out s v a1 c1 k HTT.out HOK.out _)))
    go_big_quiet_step (fail)
    go_big_quiet_step ((go_at_call 23; exact Calls.after (After.below ‹_›).size (HSZ.out s0 v0 a6 c6 k0 HTZ.out HOK0.out _)))
    go_big_quiet_step (fail)
    go_big_quiet_step (fail)
    go_big_quiet_step ((go_at_call 23; exact Calls.after (After.below ‹_›).size (HSZ.out s2 v2 a2 c2 k2 HTS.out HOK2.out _)))
    go_big_quiet_step (fail)
    go_big_quiet_step (fail)
    go_big_quiet_step (fail)
    refine wpQuiet_nil ?_
    rintro u ⟨⟨_, hu⟩, rfl⟩
    clear hu0 hu1 hu2 hu3 hu4 hu5 hu6 hu7 hu8 hu9 hu10 hu11
    have HA7 := Lib.hid (HA6.out.trans (hu.mono (by simp; omega)))
    clear hu
    go_wp2_with fail
    go_ret
    exact ⟨rfl, HB1.out.trans (HA7.out.mono (by omega))⟩
end Go.Proofs.Ytebalmemncldlaa
