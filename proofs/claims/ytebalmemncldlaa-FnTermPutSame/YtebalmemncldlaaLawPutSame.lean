/- For every code, laws.FnTermPutSame answers true and writes nothing that was there. No condition. -/
import Derived.Test.YtebalmemncldlaaC4
import Derived.Deep.RegionHeld3
import Derived.Deep.DrawnRows
namespace Go.Proofs.Ytebalmemncldlaa
open Go.RowKit Go.Deep
attribute [local go_sem ↓] Go.wp_at_zero Go.wp_at_succ

set_option maxRecDepth 100000 in
set_option maxHeartbeats 1000000 in
theorem lawPutSame_walk (a : Option Addr) (len cap : Nat) (w : World) (hby : Bytes w a len) (hlen : len ≤ cap) :
    Calls Try.prog 6 #[.slice a len cap] w fun e w' => e = .returned (.bool true) ∧ Below w.heap.size w w' := by
  have HBY := Lib.hid hby
  clear hby
  by_cases hbig : 1048576 < len
  · go_enter Try.func6, Try.ntmps6
    go_wp2_with fail
    go_ret
    exact ⟨rfl, Below.refl _ _⟩
  go_enter Try.func6, Try.ntmps6
  go_wp2_with fail
  with_reducible refine (DrawTermAt_any a len cap _ HBY.out hlen).mono ?_
  rintro e w1 ⟨s, v, a1, c1, k, pA, pC, place, rfl, hS, hpl, hb1, hl1, hi1⟩
  have hs1 := hb1.size
  have hcap := hi1.2
  have HB1 := Lib.hid (hb1.alloc hs1 (.cells #[.int .i64 s, .int .i64 v, .slice a1 (flen k) c1] 25))
  have HL1 := Lib.hid ((hl1.mono (Nat.zero_le _) (Nat.le_refl _)).low ((Below.refl _ _).alloc (Nat.le_refl _) (.cells #[.int .i64 s, .int .i64 v, .slice a1 (flen k) c1] 25)))
  have HI1c : Hid (ISc (w1.alloc (.cells #[.int .i64 s, .int .i64 v, .slice a1 (flen k) c1] 25)) 0 (w1.heap.size + 1) pA pC place) := (hi1.same (Same.of_below ((Below.refl _ _).alloc (Nat.le_refl _) _))).mono (Nat.zero_le _) (by omega)
  have HI1 : Hid (ISl (w1.alloc (.cells #[.int .i64 s, .int .i64 v, .slice a1 (flen k) c1] 25)) 0 (w1.alloc (.cells #[.int .i64 s, .int .i64 v, .slice a1 (flen k) c1] 25)).heap.size pA place) := (hi1.1.below ((Below.refl _ _).alloc (Nat.le_refl _) _)).mono (Nat.zero_le _) (by simp)
  clear hb1 hl1 hi1
  go_wp2_with fail
  with_reducible refine (sTermAt_any s v a1 c1 k pA pC place _ HL1.out HI1.out (by omega)).mono ?_
  rintro e w2 ⟨a2, c2, s', v', k', t, hR, rfl, hb2, hl2⟩
  have HR := Lib.hid hR
  have hb2' : Below (w1.heap.size + 1) (w1.alloc (.cells #[.int .i64 s, .int .i64 v, .slice a1 (flen k) c1] 25)) w2 := by simpa using hb2
  have hs2 := hb2'.size
  simp at hs2
  have HB2 := Lib.hid (hb2'.alloc hs2 (.cells #[.int .i64 s', .int .i64 v', .slice a2 (flen k') c2] 25))
  have HL2 := Lib.hid (HL1.out.below (hb2.alloc hb2.size (.cells #[.int .i64 s', .int .i64 v', .slice a2 (flen k') c2] 25)))
  have HI2 := Lib.hid (HI1.out.below (hb2.alloc hb2.size (.cells #[.int .i64 s', .int .i64 v', .slice a2 (flen k') c2] 25)))
  have HW2 := Lib.hid ((hl2.low ((Below.refl _ _).alloc (Nat.le_refl _) (.cells #[.int .i64 s', .int .i64 v', .slice a2 (flen k') c2] 25))).mono (lo' := 0) (Nat.zero_le _) (Nat.le_refl _))
  obtain ⟨hd0, hd1, hd2⟩ := box_cells ⟨_, HB2.out⟩
  dsimp only at hd0 hd1 hd2
  clear hR hb2 hb2' hl2
  go_wp2_with fail
  with_reducible refine (iTermAt_any s v a1 c1 k pA pC place _ ?_ ?_ (by omega)).mono ?_
  · exact HL2.out.mono (Nat.le_refl _) (by simp; omega)
  · exact HI2.out.mono (Nat.le_refl _) (by simp; omega)
  rintro e w3 ⟨a3, c3, s3, v3, k3, t3, hR3, rfl, hb3, hl3⟩
  rw [HR.out] at hR3
  simp only [Prod.mk.injEq] at hR3
  obtain ⟨rfl, rfl, rfl, rfl⟩ := hR3
  have hsz := atR_sz HR.out
  have hb3' : Below (w2.heap.size + 1) (w2.alloc (.cells #[.int .i64 s', .int .i64 v', .slice a2 (flen k') c2] 25)) w3 := by simpa using hb3
  have hs3 := hb3'.size
  simp at hs3
  have hb4 := hb3'.alloc hs3 (.cells #[.int .i64 s', .int .i64 v', .slice a3 (flen k') c3] 25)
  have hb4' := HB2.out.trans (hb4.mono (show w1.heap.size + 1 ≤ w2.heap.size + 1 by omega))
  obtain ⟨he0, he1, he2⟩ := box_cells ⟨_, hb4'⟩
  obtain ⟨hv0, hv1, hv2⟩ := box_cells ⟨_, hb4⟩
  obtain ⟨hx0, hx1, hx2⟩ := box_cells (w := w3) (x := .int .i64 s') (y := .int .i64 v') (z := .slice a3 (flen k') c3) (T := 25) ⟨_, Below.refl _ _⟩
  dsimp only at he0 he1 he2 hv0 hv1 hv2 hx0 hx1 hx2
  have HB4 := Lib.hid hb4'
  have HL4 : Hid (Sl (w3.alloc (.cells #[.int .i64 s', .int .i64 v', .slice a3 (flen k') c3] 25)) 0 (w1.heap.size + 1) a1 k) := (by simpa using HL2.out : Sl _ 0 (w1.heap.size + 1) a1 k).below (hb4.mono (by omega))
  have HI4 : Hid (ISl (w3.alloc (.cells #[.int .i64 s', .int .i64 v', .slice a3 (flen k') c3] 25)) 0 (w1.heap.size + 1) pA place) := (by simpa using HI2.out : ISl _ 0 (w1.heap.size + 1) pA place).below (hb4.mono (by omega))
  have HW4 : Hid (Sl (w3.alloc (.cells #[.int .i64 s', .int .i64 v', .slice a3 (flen k') c3] 25)) 0 (w2.heap.size + 1) a2 k') := (by simpa using HW2.out : Sl _ 0 (w2.heap.size + 1) a2 k').below hb4
  have HX4 : Hid (Sl (w3.alloc (.cells #[.int .i64 s', .int .i64 v', .slice a3 (flen k') c3] 25)) 0 w3.heap.size a3 k') := (hl3.below ((Below.refl _ _).alloc (Nat.le_refl _) _)).mono (Nat.zero_le _) (Nat.le_refl _)
  have hs4 : w3.heap.size + 1 ≤ (w3.alloc (.cells #[.int .i64 s', .int .i64 v', .slice a3 (flen k') c3] 25)).heap.size := by simp
  clear hb3 hb3' hb4 hb4' hl3 hd0 hd1 hd2 HL1 HL2 HI1 HI2 HW2 HB2
  have eb : (t != t) = false := by simp
  have eb' : (t == t) = true := by simp
  go_wp2_with fail
  with_reducible refine (laTerm_same (fsz k') s' v' a3 a2 c3 c2 k' _ ?_ ?_ (Nat.le_refl _) (by omega)).mono ?_
  · exact HX4.out.mono (Nat.le_refl _) (by omega)
  · exact HW4.out.mono (Nat.le_refl _) (by omega)
  rintro e w5 ⟨rfl, hb5⟩
  have hs5 := hb5.size
  have HB5 := Lib.hid (HB4.out.trans (hb5.mono (by omega)))
  have HX5 := Lib.hid (HX4.out.below (hb5.mono (by omega)))
  have HW5 := Lib.hid (HW4.out.below (hb5.mono (by omega)))
  have HL5 := Lib.hid (HL4.out.below (hb5.mono (by omega)))
  have HI5 := Lib.hid (HI4.out.below (hb5.mono (by omega)))
  have hf0 := cell_low hb5 he0
  have hf1 := cell_low hb5 he1
  have hf2 := cell_low hb5 he2
  have hg0 := cell_low hb5 hv0
  have hg1 := cell_low hb5 hv1
  have hg2 := cell_low hb5 hv2
  have hh0 := cell_low hb5 hx0
  have hh1 := cell_low hb5 hx1
  have hh2 := cell_low hb5 hx2
  clear hb5 he0 he1 he2 hv0 hv1 hv2 hx0 hx1 hx2 HX4 HW4 HL4 HI4 HB4
  cases t with
  | false =>
    go_wp2_with fail
    with_reducible refine (laTerm_same (fsz k') s' v' a3 a2 c3 c2 k' _ ?_ ?_ (Nat.le_refl _) (by omega)).mono ?_
    · exact HX5.out.mono (Nat.le_refl _) (by omega)
    · exact HW5.out.mono (Nat.le_refl _) (by omega)
    rintro e w6 ⟨rfl, hb6⟩
    have HB6 := Lib.hid (HB5.out.trans (hb6.mono (by omega)))
    clear hb6
    go_wp2_with fail
    go_ret
    exact ⟨rfl, HB1.out.trans (HB6.out.mono (by omega))⟩
  | true =>
    have HOKT := Lib.hid (atR_true HR.out)
    have HPUT : Hid (putR s v k place (s', v', k') = (s, v, k, true)) := by
      have h1 := (okW_iff _ _ _ _).1 HOKT.out.1
      have h2 := fat_ok place s v k h1.1 h1.2.1 HOKT.out.2
      have h3 := h1.2.2
      exact putR_some HOKT.out.1 ((okW_iff _ _ _ _).2 ⟨h2.1, h2.2.1, by dsimp only; omega⟩) (fput_same place s v k HOKT.out.2) (by omega)
    have hk16 : fsz k ≤ 15 := by have := ((okW_iff _ _ _ _).1 HOKT.out.1).2.2; omega
    clear hg0 hg1 hg2 HW5
    have HIC : Hid (ISc w5 0 w5.heap.size pA pC place) := ⟨HI5.out.mono (Nat.le_refl _) (by omega), HI1c.out.2⟩
    have HLW : Hid (Sl w5 0 w5.heap.size a1 k) := HL5.out.mono (Nat.le_refl _) (by omega)
    have HXW : Hid (Sl w5 0 w5.heap.size a3 k') := HX5.out.mono (Nat.le_refl _) (by omega)
    go_wp2_with fail
    with_reducible refine (iTermPut_any s v a1 c1 k pA pC place s' v' a3 c3 k' _ HLW.out HIC.out (by omega) HXW.out).mono ?_
    rintro e w6 ⟨a6, c6, s6, v6, k6, t6, hr6, rfl, hb6, hl6⟩
    rw [HPUT.out] at hr6
    simp only [Prod.mk.injEq] at hr6
    obtain ⟨rfl, rfl, rfl, rfl⟩ := hr6
    have hs6 := hb6.size
    have hb7 := hb6.alloc hs6 (.cells #[.int .i64 s, .int .i64 v, .slice a6 (flen k) c6] 25)
    obtain ⟨hy0, hy1, hy2⟩ := box_cells (w := w6) (x := .int .i64 s) (y := .int .i64 v) (z := .slice a6 (flen k) c6) (T := 25) ⟨_, Below.refl _ _⟩
    dsimp only at hy0 hy1 hy2
    have hm0 := cell_low hb7 hf0
    have hm1 := cell_low hb7 hf1
    have hm2 := cell_low hb7 hf2
    have HB7 := Lib.hid (HB5.out.trans (hb7.mono (by omega)))
    have HA7 : Hid (Sl (w6.alloc (.cells #[.int .i64 s, .int .i64 v, .slice a6 (flen k) c6] 25)) 0 (w6.alloc (.cells #[.int .i64 s, .int .i64 v, .slice a6 (flen k) c6] 25)).heap.size a6 k) := (hl6.below ((Below.refl _ _).alloc (Nat.le_refl _) _)).mono (Nat.zero_le _) (by simp)
    have HT7 : Hid (Sl (w6.alloc (.cells #[.int .i64 s, .int .i64 v, .slice a6 (flen k) c6] 25)) 0 (w6.alloc (.cells #[.int .i64 s, .int .i64 v, .slice a6 (flen k) c6] 25)).heap.size a1 k) := (HLW.out.below hb7).mono (Nat.le_refl _) hb7.size
    clear hb6 hb7 hl6 hf0 hf1 hf2 hh0 hh1 hh2
    go_wp2_with fail
    with_reducible refine (laTerm_same (fsz k) s v a6 a1 c6 c1 k _ HA7.out HT7.out (Nat.le_refl _) (by omega)).mono ?_
    rintro e w8 ⟨rfl, hb8⟩
    have HB8 := Lib.hid (HB7.out.trans (hb8.mono (by simp; omega)))
    clear hb8
    go_wp2_with fail
    go_ret
    exact ⟨rfl, HB1.out.trans (HB8.out.mono (by omega))⟩
end Go.Proofs.Ytebalmemncldlaa
