/- For every code, laws.FnTermAt answers true and writes nothing that was there. No condition. -/
import Derived.Test.YtebalmemncldlaaC3
import Derived.Test.YtebalmemncldlaaLP0
namespace Go.Proofs.Ytebalmemncldlaa
open Go.RowKit Go.Deep
attribute [local go_sem ↓] Go.wp_at_zero Go.wp_at_succ

theorem keep3 {W w2 : World} {b1 : Nat} {x1 x2 x3 : Value} (hb : Below W.heap.size W w2) (h1 : W.cell? ⟨b1, 0, none⟩ = some x1) (h2 : W.cell? ⟨b1, 1, none⟩ = some x2) (h3 : W.cell? ⟨b1, 2, none⟩ = some x3) :
    w2.cell? ⟨b1, 0, none⟩ = some x1 ∧ w2.cell? ⟨b1, 1, none⟩ = some x2 ∧ w2.cell? ⟨b1, 2, none⟩ = some x3 := ⟨cell_low hb h1, cell_low hb h2, cell_low hb h3⟩

set_option maxRecDepth 100000 in
set_option maxHeartbeats 1000000 in
theorem lawAt_walk (a : Option Addr) (len cap : Nat) (a' : Option Addr) (len' cap' : Nat) (w : World) (hby : Bytes w a len) (hlen : len ≤ cap) (_ : Bytes w a' len') (_ : len' ≤ cap') :
    Calls Try.prog 3 #[.slice a len cap, .slice a' len' cap'] w fun e w' => e = .returned (.bool true) ∧ Below w.heap.size w w' := by
  have HBY := Lib.hid hby
  clear hby
  by_cases hbig : 1048576 < len
  · go_enter Try.func3, Try.ntmps3
    go_wp2_with fail
    go_ret
    exact ⟨rfl, Below.refl _ _⟩
  by_cases hbig' : 1048576 < len'
  · go_enter Try.func3, Try.ntmps3
    go_wp2_with fail
    go_ret
    exact ⟨rfl, Below.refl _ _⟩
  go_enter Try.func3, Try.ntmps3
  go_wp2_with fail
  with_reducible refine (DrawTermAt_any a len cap _ HBY.out hlen).mono ?_
  rintro e w1 ⟨s, v, a1, c1, k, pA, pC, place, rfl, hS, hpl, hb1, hl1, hi1⟩
  have hs1 := hb1.size
  have hcap := hi1.2
  have HB1 := Lib.hid (hb1.alloc hs1 (.cells #[.int .i64 s, .int .i64 v, .slice a1 (flen k) c1] 25))
  have HL1 := Lib.hid ((hl1.mono (Nat.zero_le _) (Nat.le_refl _)).low ((Below.refl _ _).alloc (Nat.le_refl _) (.cells #[.int .i64 s, .int .i64 v, .slice a1 (flen k) c1] 25)))
  have HI1 : Hid (ISl (w1.alloc (.cells #[.int .i64 s, .int .i64 v, .slice a1 (flen k) c1] 25)) 0 (w1.alloc (.cells #[.int .i64 s, .int .i64 v, .slice a1 (flen k) c1] 25)).heap.size pA place) := (hi1.1.below ((Below.refl _ _).alloc (Nat.le_refl _) _)).mono (Nat.zero_le _) (by simp)
  clear hb1 hl1 hi1
  go_wp2_with fail
  with_reducible refine (sTermAt_any s v a1 c1 k pA pC place _ HL1.out HI1.out (by omega)).mono ?_
  rintro e w2 ⟨a2, c2, s', v', k', t, hR, rfl, hb2, hl2⟩
  have HR := Lib.hid hR
  have hb2' : Below (w1.heap.size + 1) (w1.alloc (.cells #[.int .i64 s, .int .i64 v, .slice a1 (flen k) c1] 25)) w2 := by simpa using hb2
  have hs2 := hb2'.size
  simp at hs2
  have HB2 := Lib.hid (hb2'.alloc hs2 (.cells #[.int .i64 s', .int .i64 v', .slice a2 (flen k') c2] 25))
  have HL2 := Lib.hid (HL1.out.below (hb2.alloc hb2.size (.cells #[.int .i64 s', .int .i64 v', .slice a2 (flen k') c2] 25)))
  have HI2 := Lib.hid (HI1.out.below (hb2.alloc hb2.size (.cells #[.int .i64 s', .int .i64 v', .slice a2 (flen k') c2] 25)))
  have HW2 := Lib.hid ((hl2.low ((Below.refl _ _).alloc (Nat.le_refl _) (.cells #[.int .i64 s', .int .i64 v', .slice a2 (flen k') c2] 25))).mono (lo' := 0) (Nat.zero_le _) (Nat.le_refl _))
  obtain ⟨hd0, hd1, hd2⟩ := box_cells ⟨_, HB2.out⟩
  dsimp only at hd0 hd1 hd2
  clear hR hb2 hb2' hl2
  go_wp2_with fail
  with_reducible refine (iTermAt_any s v a1 c1 k pA pC place _ ?_ ?_ (by omega)).mono ?_
  · exact HL2.out.mono (Nat.le_refl _) (by simp; omega)
  · exact HI2.out.mono (Nat.le_refl _) (by simp; omega)
  rintro e w3 ⟨a3, c3, s3, v3, k3, t3, hR3, rfl, hb3, hl3⟩
  rw [HR.out] at hR3
  simp only [Prod.mk.injEq] at hR3
  obtain ⟨rfl, rfl, rfl, rfl⟩ := hR3
  have hsz := atR_sz HR.out
  have hb3' : Below (w2.heap.size + 1) (w2.alloc (.cells #[.int .i64 s', .int .i64 v', .slice a2 (flen k') c2] 25)) w3 := by simpa using hb3
  have hs3 := hb3'.size
  simp at hs3
  have hb4 := hb3'.alloc hs3 (.cells #[.int .i64 s', .int .i64 v', .slice a3 (flen k') c3] 25)
  have hb4' := HB2.out.trans (hb4.mono (show w1.heap.size + 1 ≤ w2.heap.size + 1 by omega))
  obtain ⟨he0, he1, he2⟩ := box_cells ⟨_, hb4'⟩
  obtain ⟨hv0, hv1, hv2⟩ := box_cells ⟨_, hb4⟩
  obtain ⟨hx0, hx1, hx2⟩ := box_cells (w := w3) (x := .int .i64 s') (y := .int .i64 v') (z := .slice a3 (flen k') c3) (T := 25) ⟨_, Below.refl _ _⟩
  dsimp only at he0 he1 he2 hv0 hv1 hv2 hx0 hx1 hx2
  have HB4 := Lib.hid hb4'
  have HL4 : Hid (Sl (w3.alloc (.cells #[.int .i64 s', .int .i64 v', .slice a3 (flen k') c3] 25)) 0 (w1.heap.size + 1) a1 k) := (by simpa using HL2.out : Sl _ 0 (w1.heap.size + 1) a1 k).below (hb4.mono (by omega))
  have HI4 : Hid (ISl (w3.alloc (.cells #[.int .i64 s', .int .i64 v', .slice a3 (flen k') c3] 25)) 0 (w1.heap.size + 1) pA place) := (by simpa using HI2.out : ISl _ 0 (w1.heap.size + 1) pA place).below (hb4.mono (by omega))
  have HW4 : Hid (Sl (w3.alloc (.cells #[.int .i64 s', .int .i64 v', .slice a3 (flen k') c3] 25)) 0 (w2.heap.size + 1) a2 k') := (by simpa using HW2.out : Sl _ 0 (w2.heap.size + 1) a2 k').below hb4
  have HX4 : Hid (Sl (w3.alloc (.cells #[.int .i64 s', .int .i64 v', .slice a3 (flen k') c3] 25)) 0 w3.heap.size a3 k') := (hl3.below ((Below.refl _ _).alloc (Nat.le_refl _) _)).mono (Nat.zero_le _) (Nat.le_refl _)
  have hs4 : w3.heap.size + 1 ≤ (w3.alloc (.cells #[.int .i64 s', .int .i64 v', .slice a3 (flen k') c3] 25)).heap.size := by simp
  clear hb3 hb3' hb4 hb4' hl3 hd0 hd1 hd2 HL1 HL2 HI1 HI2 HW2 HB2
  have eb : (t != t) = false := by simp
  have eb' : (t == t) = true := by simp
  go_wp2_with fail
  with_reducible refine (laTerm_same (fsz k') s' v' a3 a2 c3 c2 k' _ ?_ ?_ (Nat.le_refl _) (by omega)).mono ?_
  · exact HX4.out.mono (Nat.le_refl _) (by omega)
  · exact HW4.out.mono (Nat.le_refl _) (by omega)
  rintro e w5 ⟨rfl, hb5⟩
  have hs5 := hb5.size
  have HB5 := Lib.hid (HB4.out.trans (hb5.mono (by omega)))
  have HX5 := Lib.hid (HX4.out.below (hb5.mono (by omega)))
  have HW5 := Lib.hid (HW4.out.below (hb5.mono (by omega)))
  have HL5 := Lib.hid (HL4.out.below (hb5.mono (by omega)))
  have HI5 := Lib.hid (HI4.out.below (hb5.mono (by omega)))
  have hf0 := cell_low hb5 he0
  have hf1 := cell_low hb5 he1
  have hf2 := cell_low hb5 he2
  have hg0 := cell_low hb5 hv0
  have hg1 := cell_low hb5 hv1
  have hg2 := cell_low hb5 hv2
  have hh0 := cell_low hb5 hx0
  have hh1 := cell_low hb5 hx1
  have hh2 := cell_low hb5 hx2
  clear hb5 he0 he1 he2 hv0 hv1 hv2 hx0 hx1 hx2 HX4 HW4 HL4 HI4 HB4
  cases t with
  | false =>
    go_wp2_with fail
    with_reducible refine (laTerm_same (fsz k') s' v' a3 a2 c3 c2 k' _ ?_ ?_ (Nat.le_refl _) (by omega)).mono ?_
    · exact HX5.out.mono (Nat.le_refl _) (by omega)
    · exact HW5.out.mono (Nat.le_refl _) (by omega)
    rintro e w6 ⟨rfl, hb6⟩
    have HB6 := Lib.hid (HB5.out.trans (hb6.mono (by omega)))
    clear hb6
    go_wp2_with fail
    go_ret
    exact ⟨rfl, HB1.out.trans (HB6.out.mono (by omega))⟩
  | true =>
    clear hg0 hg1 hg2 HW5
    obtain ⟨n, hn, hnl⟩ : ∃ n : Nat, (len' : Int) % ((place.length : Int) + 1) = n ∧ n ≤ place.length := ⟨len' % (place.length + 1), by push_cast; rfl, Nat.le_of_lt_succ (Nat.mod_lt _ (Nat.succ_pos _))⟩
    obtain ⟨s1, v1, k1, hR1, hR2⟩ := atR_cut n HR.out
    have HR1 := Lib.hid hR1
    have HR2 := Lib.hid hR2
    have hk1 := atR_sz hR1
    obtain ⟨hto, htoI⟩ := cut_to (pA := pA) (pC := pC) (n := n) (place := place) hnl hcap
    obtain ⟨A', hfrom, hfromI⟩ := cut_from (pA := pA) (pC := pC) (n := n) (place := place) hnl hcap
    have HIT := Lib.hid (htoI (HI5.out.mono (lo' := 0) (Nat.le_refl _) (show w1.heap.size + 1 ≤ w5.heap.size by omega))).1
    have HIF := Lib.hid (hfromI (HI5.out.mono (lo' := 0) (Nat.le_refl _) (show w1.heap.size + 1 ≤ w5.heap.size by omega))).1
    have hlt' : (place.take n).length = n := by rw [List.length_take]; omega
    have hld' : (place.drop n).length = place.length - n := by rw [List.length_drop]
    have HLEN1 := Lib.hid hlt'
    have HLEN2 := Lib.hid hld'
    have HT5 := Lib.hid (HL5.out.mono (lo' := 0) (Nat.le_refl _) (show w1.heap.size + 1 ≤ w5.heap.size by omega))
    have g1 : (0 : Int) ≤ (n : Int) := by omega
    have g2 : (n : Int) ≤ (place.length : Int) := by omega
    clear hR1 hR2 htoI hfromI hlt' hld'
    have HCA : Hid (Calls Try.prog 15 #[.agg #[.int .i64 s, .int .i64 v, .slice a1 (flen k) c1], .slice pA n pC] w5.drew (AtPost s v k (place.take n) w5.drew)) := by
      have h := iTermAt_any s v a1 c1 k pA pC (place.take n) w5.drew (HT5.out.below (Below.refl _ _).drew) (HIT.out.below (Below.refl _ _).drew) (by rw [HLEN1.out]; omega)
      rw [HLEN1.out] at h
      exact h
    have HCB : Hid (Calls Try.prog 15 #[.agg #[.int .i64 s, .int .i64 v, .slice a1 (flen k) c1], .slice pA n pC] (w5.alloc (.cells #[.int .i64 0, .int .i64 0, .slice none 0 0] 25)).drew (AtPost s v k (place.take n) (w5.alloc (.cells #[.int .i64 0, .int .i64 0, .slice none 0 0] 25)).drew)) := by
      have h := iTermAt_any s v a1 c1 k pA pC (place.take n) (w5.alloc (.cells #[.int .i64 0, .int .i64 0, .slice none 0 0] 25)).drew ((HT5.out.below ((Below.refl _ _).alloc (Nat.le_refl _) _).drew).mono (Nat.le_refl _) (by simp)) ((HIT.out.below ((Below.refl _ _).alloc (Nat.le_refl _) _).drew).mono (Nat.le_refl _) (by simp)) (by rw [HLEN1.out]; omega)
      rw [HLEN1.out] at h
      exact h
    go_wp2_with fail
    go_region_held3 (fun w' => w'.cell? ⟨w1.heap.size, 0, none⟩ = some (.int .i64 s) ∧ w'.cell? ⟨w1.heap.size, 1, none⟩ = some (.int .i64 v) ∧ w'.cell? ⟨w1.heap.size, 2, none⟩ = some (.slice a1 (flen k) c1))
      (first
        | exact keep3 hlow8 hf0 hf1 hf2
        | exact keep3 (hlow8.alloc hlow8.size _) hf0 hf1 hf2
        | exact keep3 (((hlow8.setCell (Nat.le_refl _) _).setCell (Nat.le_refl _) _).setCell (Nat.le_refl _) _) hf0 hf1 hf2
        | go_keep)
      (first
        | (go_at_call 15; refine HCA.out.mono ?_; rintro e w8 ⟨a8wa, c8wa, s8, v8, k8, t8, hr8, rfl, hb8, hl8⟩; rw [HR1.out] at hr8; simp only [Prod.mk.injEq] at hr8; obtain ⟨rfl, rfl, rfl, rfl⟩ := hr8; have hlow8 : Below w5.heap.size w5 w8 := bl_undrew hb8; have hl8x : Sl w8 w5.heap.size w8.heap.size a8wa k1 := hl8; have hC8 : Hid True := trivial)
        | (go_at_call 15; refine HCB.out.mono ?_; rintro e w8 ⟨a8wa, c8wa, s8, v8, k8, t8, hr8, rfl, hb8, hl8⟩; rw [HR1.out] at hr8; simp only [Prod.mk.injEq] at hr8; obtain ⟨rfl, rfl, rfl, rfl⟩ := hr8; have hlow8 : Below w5.heap.size w5 w8 := lp_lowB hb8; obtain ⟨hx0', hx1', hx2', hy0', hy1', hy2'⟩ := lp_cellB hb8; have hl8x : Sl w8 (w5.heap.size + 1) w8.heap.size a8wa k1 := lp_slB hl8))
    obtain ⟨hv0wa, hv1wa, hv2wa, hswa, hlwa⟩ := lp_goA (x := .int .i64 s1) (y := .int .i64 v1) (c := c8wa) hlow8 hl8x
    have hgewa : w5.heap.size ≤ w8.heap.size := hlow8.size
    have hltwa := World.block_lt_of_cell? _ _ hv0wa
    dsimp only at hltwa
    clear hlow8 hl8 hl8x hb8 hC8
    generalize w8.alloc (.cells #[.int .i64 s1, .int .i64 v1, .slice a8wa (flen k1) c8wa] 25) = wa at hv0wa hv1wa hv2wa hswa hlwa hltwa ⊢
    generalize w8.heap.size = ba at hv0wa hv1wa hv2wa hgewa hltwa ⊢
    rotate_left
    obtain ⟨hv0wa, hv1wa, hv2wa, hswa, hlwa⟩ := lp_goB (x := .int .i64 s1) (y := .int .i64 v1) (c := c8wa) hlow8 hl8x hx0' hx1' hx2'
    obtain ⟨ba, hbx⟩ : ∃ ba, ba = w5.heap.size := ⟨_, rfl⟩
    have hgewa : w5.heap.size ≤ ba := by omega
    have hltwa := World.block_lt_of_cell? _ _ hv0wa
    dsimp only at hltwa
    clear hlow8 hl8 hl8x hb8 hx0' hx1' hx2' hy0' hy1' hy2'
    generalize ((w8.setCell ⟨w5.heap.size, 0, none⟩ (.int .i64 s1)).setCell ⟨w5.heap.size, 1, none⟩ (.int .i64 v1)).setCell ⟨w5.heap.size, 2, none⟩ (.slice a8wa (flen k1) c8wa) = wa at hv0wa hv1wa hv2wa hswa hlwa hltwa ⊢
    rw [← hbx] at hv0wa hv1wa hv2wa hltwa ⊢
    clear hbx
    rotate_left
    all_goals
      have HBA := Lib.hid (HB5.out.trans (hswa.mono (by omega)))
      have hsa := hswa.size
      have HIFa := Lib.hid ((HIF.out.below hswa).mono (lo' := 0) (Nat.le_refl _) hsa)
      have HLa := Lib.hid hlwa
      have hxa0 := cell_low hswa hh0
      have hxa1 := cell_low hswa hh1
      have hxa2 := cell_low hswa hh2
      have HXa := Lib.hid ((HX5.out.below (hswa.mono (by omega))).mono (lo' := 0) (Nat.le_refl _) (show w3.heap.size ≤ wa.heap.size by omega))
      clear hswa hlwa hf0 hf1 hf2 hh0 hh1 hh2 HCA HCB
      have HCA : Hid (Calls Try.prog 15 #[.agg #[.int .i64 s1, .int .i64 v1, .slice a8wa (flen k1) c8wa], .slice A' (place.length - n) (pC - n)] wa.drew (AtPost s1 v1 k1 (place.drop n) wa.drew)) := by
        have h := iTermAt_any s1 v1 a8wa c8wa k1 A' (pC - n) (place.drop n) wa.drew (HLa.out.below (Below.refl _ _).drew) (HIFa.out.below (Below.refl _ _).drew) (by rw [HLEN2.out]; omega)
        rw [HLEN2.out] at h
        exact h
      have HCB : Hid (Calls Try.prog 15 #[.agg #[.int .i64 s1, .int .i64 v1, .slice a8wa (flen k1) c8wa], .slice A' (place.length - n) (pC - n)] (wa.alloc (.cells #[.int .i64 0, .int .i64 0, .slice none 0 0] 25)).drew (AtPost s1 v1 k1 (place.drop n) (wa.alloc (.cells #[.int .i64 0, .int .i64 0, .slice none 0 0] 25)).drew)) := by
        have h := iTermAt_any s1 v1 a8wa c8wa k1 A' (pC - n) (place.drop n) (wa.alloc (.cells #[.int .i64 0, .int .i64 0, .slice none 0 0] 25)).drew ((HLa.out.below ((Below.refl _ _).alloc (Nat.le_refl _) _).drew).mono (Nat.le_refl _) (by simp)) ((HIFa.out.below ((Below.refl _ _).alloc (Nat.le_refl _) _).drew).mono (Nat.le_refl _) (by simp)) (by rw [HLEN2.out]; omega)
        rw [HLEN2.out] at h
        exact h
      go_wp2_with fail
      go_region_held3 (fun w' => w'.cell? ⟨ba, 0, none⟩ = some (.int .i64 s1) ∧ w'.cell? ⟨ba, 1, none⟩ = some (.int .i64 v1) ∧ w'.cell? ⟨ba, 2, none⟩ = some (.slice a8wa (flen k1) c8wa))
        (first
          | exact keep3 hlow8 hv0wa hv1wa hv2wa
          | exact keep3 (hlow8.alloc hlow8.size _) hv0wa hv1wa hv2wa
          | exact keep3 (((hlow8.setCell (Nat.le_refl _) _).setCell (Nat.le_refl _) _).setCell (Nat.le_refl _) _) hv0wa hv1wa hv2wa
          | go_keep)
        (first
          | (go_at_call 15; refine HCA.out.mono ?_; rintro e w8 ⟨a8wb, c8wb, s8, v8, k8, t8, hr8, rfl, hb8, hl8⟩; rw [HR2.out] at hr8; simp only [Prod.mk.injEq] at hr8; obtain ⟨rfl, rfl, rfl, rfl⟩ := hr8; have hlow8 : Below wa.heap.size wa w8 := bl_undrew hb8; have hl8x : Sl w8 wa.heap.size w8.heap.size a8wb k' := hl8; have hC8 : Hid True := trivial)
          | (go_at_call 15; refine HCB.out.mono ?_; rintro e w8 ⟨a8wb, c8wb, s8, v8, k8, t8, hr8, rfl, hb8, hl8⟩; rw [HR2.out] at hr8; simp only [Prod.mk.injEq] at hr8; obtain ⟨rfl, rfl, rfl, rfl⟩ := hr8; have hlow8 : Below wa.heap.size wa w8 := lp_lowB hb8; obtain ⟨hx0', hx1', hx2', hy0', hy1', hy2'⟩ := lp_cellB hb8; have hl8x : Sl w8 (wa.heap.size + 1) w8.heap.size a8wb k' := lp_slB hl8))
      obtain ⟨hv0wb, hv1wb, hv2wb, hswb, hlwb⟩ := lp_goA (x := .int .i64 s') (y := .int .i64 v') (c := c8wb) hlow8 hl8x
      have hgewb : wa.heap.size ≤ w8.heap.size := hlow8.size
      have hltwb := World.block_lt_of_cell? _ _ hv0wb
      dsimp only at hltwb
      clear hlow8 hl8 hl8x hb8 hC8
      generalize w8.alloc (.cells #[.int .i64 s', .int .i64 v', .slice a8wb (flen k') c8wb] 25) = wb at hv0wb hv1wb hv2wb hswb hlwb hltwb ⊢
      generalize w8.heap.size = bb at hv0wb hv1wb hv2wb hgewb hltwb ⊢
      rotate_left
      obtain ⟨hv0wb, hv1wb, hv2wb, hswb, hlwb⟩ := lp_goB (x := .int .i64 s') (y := .int .i64 v') (c := c8wb) hlow8 hl8x hx0' hx1' hx2'
      obtain ⟨bb, hbx⟩ : ∃ bb, bb = wa.heap.size := ⟨_, rfl⟩
      have hgewb : wa.heap.size ≤ bb := by omega
      have hltwb := World.block_lt_of_cell? _ _ hv0wb
      dsimp only at hltwb
      clear hlow8 hl8 hl8x hb8 hx0' hx1' hx2' hy0' hy1' hy2'
      generalize ((w8.setCell ⟨wa.heap.size, 0, none⟩ (.int .i64 s')).setCell ⟨wa.heap.size, 1, none⟩ (.int .i64 v')).setCell ⟨wa.heap.size, 2, none⟩ (.slice a8wb (flen k') c8wb) = wb at hv0wb hv1wb hv2wb hswb hlwb hltwb ⊢
      rw [← hbx] at hv0wb hv1wb hv2wb hltwb ⊢
      clear hbx
      rotate_left
      all_goals
        have HBB := Lib.hid (HBA.out.trans (hswb.mono (by omega)))
        have hxb0 := cell_low hswb hxa0
        have hxb1 := cell_low hswb hxa1
        have hxb2 := cell_low hswb hxa2
        have HXb := Lib.hid ((HXa.out.below hswb).mono (lo' := 0) (Nat.le_refl _) hswb.size)
        have HLb := Lib.hid hlwb
        clear hswb hlwb hv0wa hv1wa hv2wa hxa0 hxa1 hxa2 HCA HCB
        go_wp2_with fail
        with_reducible refine (laTerm_same (fsz k') s' v' a8wb a3 c8wb c3 k' _ HLb.out HXb.out (Nat.le_refl _) (by omega)).mono ?_
        rintro e wc ⟨rfl, hbc⟩
        have HBC := Lib.hid (HBB.out.trans (hbc.mono (by have := HBB.out.size; simp at this; omega)))
        clear hbc hxb0 hxb1 hxb2 hv0wb hv1wb hv2wb
        go_wp2_with fail
        go_ret
        exact ⟨rfl, HB1.out.trans (HBC.out.mono (by omega))⟩
end Go.Proofs.Ytebalmemncldlaa
