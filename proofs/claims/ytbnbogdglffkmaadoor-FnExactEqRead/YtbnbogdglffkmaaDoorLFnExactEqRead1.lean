/- Several texts in one: XEr0, XEr. -/
import Derived.Test.YtbnbogdglffkmaaDoorKEr2
import Derived.Test.YtbnbogdglffkmaaDoorKEr1
import Derived.Test.YtbnbogdglffkmaaDoorKEr5
import Derived.Test.YtbnbogdglffkmaaDoorKEr4

/-! XEr0: markEq and heldEq on an equation of one's own. -/
namespace Go.Proofs.YtbnbogdglffkmaaDoor
open Go.RowKit Go.Deep

set_option maxRecDepth 100000 in
set_option maxHeartbeats 1000000 in
theorem markEqT_any (s v : Int) (a : Option Addr) (c : Nat) (k : Fo) (s' v' : Int) (a' : Option Addr) (c' : Nat) (k' : Fo) (lo M B : Nat) (m : Int) (w : World) (hl : TrS w lo M a k) (hl' : TrS w M B a' k') (hN : fsz k ≤ 100000) (hN' : fsz k' ≤ 100000) (hm0 : 0 ≤ m) (hm1 : m ≤ 1000) (hlo : lo ≤ M) (hMB : M ≤ B) (hB : B ≤ w.heap.size) :
    Calls Tryd.prog 21 #[.agg #[.int .i64 s, .int .i64 v, .slice a (flen k) c, .int .i64 s', .int .i64 v', .slice a' (flen k') c'], .int .i64 m] w fun e w' => e = .returned (.int .i64 (m + 2 * (fsz k : Int) + 2 * (fsz k' : Int))) ∧ Marked lo B w w' ∧ HdS w' lo M a k m ∧ HdS w' M B a' k' (m + 2 * (fsz k : Int)) := by
  obtain ⟨w0, hw0⟩ : ∃ w0, w0 = w.alloc (.cells #[.int .i64 s, .int .i64 v, .slice a (flen k) c, .int .i64 s', .int .i64 v', .slice a' (flen k') c'] 37) := ⟨_, rfl⟩
  have hb0 : Below w.heap.size w w0 := by rw [hw0]; exact (Below.refl _ _).alloc (Nat.le_refl _) _
  have hs0 : w0.heap.size = w.heap.size + 1 := by rw [hw0]; simp
  have hr : w0.cell? ⟨w.heap.size, 0, none⟩ = some (.int .i64 s) ∧ w0.cell? ⟨w.heap.size, 1, none⟩ = some (.int .i64 v) ∧ w0.cell? ⟨w.heap.size, 2, none⟩ = some (.slice a (flen k) c) ∧ w0.cell? ⟨w.heap.size, 3, none⟩ = some (.int .i64 s') ∧ w0.cell? ⟨w.heap.size, 4, none⟩ = some (.int .i64 v') ∧ w0.cell? ⟨w.heap.size, 5, none⟩ = some (.slice a' (flen k') c') := by rw [hw0]; exact box6u rfl (Below.refl _ _)
  have hR := Lib.hid hr
  obtain ⟨hr0, hr1, hr2, hr3, hr4, hr5⟩ := hr
  have HM0 : Hid (Marked lo B w w0) := (Marked.refl lo B w).more hb0 hB (by omega)
  have HT : Hid (TrS w0 lo M a k) := hl.same (Same.of_below (hb0.mono (by omega)))
  have HT' : Hid (TrS w0 M B a' k') := hl'.same (Same.of_below (hb0.mono (by omega)))
  have HW := Lib.hid hw0
  have HS0 := Lib.hid hs0
  clear hl hl' hb0 hs0
  go_enter Tryd.func21, Tryd.ntmps21
  go_wp2_with fail
  rw [← HW.out]
  with_reducible refine (markTermT_any s v a c k lo M m _ HT.out (by omega) hm0 (by omega) hlo (by have := HS0.out; omega)).mono ?_
  rintro e w1 ⟨rfl, hmk, hhd⟩
  have hs1 := hmk.below.size
  have hfar : Same M w0.heap.size w0 w1 := fun b h1 h2 => hmk.far b h1 h2
  have hS0 := HS0.out
  have HM1 : Hid (Marked lo B w w1) := HM0.out.trans (hmk.mono (Nat.le_refl _) hMB (by omega))
  have HT1 : Hid (TrS w1 M B a' k') := HT'.out.same fun b h1 h2 => hfar b h1 (by omega)
  have HD1 := Lib.hid hhd
  have hx3 : w1.cell? ⟨w.heap.size, 3, none⟩ = some (.int .i64 s') := by rw [hfar.cell (by simp; omega) (by simp; omega)]; exact hr3
  have hx4 : w1.cell? ⟨w.heap.size, 4, none⟩ = some (.int .i64 v') := by rw [hfar.cell (by simp; omega) (by simp; omega)]; exact hr4
  have hx5 : w1.cell? ⟨w.heap.size, 5, none⟩ = some (.slice a' (flen k') c') := by rw [hfar.cell (by simp; omega) (by simp; omega)]; exact hr5
  clear hmk hhd hfar hr0 hr1 hr2 hr3 hr4 hr5
  go_wp2_with fail
  with_reducible refine (markTermT_any s' v' a' c' k' M B (m + 2 * (fsz k : Int)) _ HT1.out (by omega) (by omega) (by omega) hMB (by omega)).mono ?_
  rintro e w2 ⟨rfl, hmk, hhd⟩
  have HM2 : Hid (Marked lo B w w2) := HM1.out.trans (hmk.mono hlo (Nat.le_refl _) (by omega))
  have HD2 : Hid (HdS w2 lo M a k m) := HD1.out.same (Same.of_below hmk.below)
  have HE2 := Lib.hid hhd
  clear hmk hhd hx3 hx4 hx5
  go_wp2_with fail
  go_ret
  exact ⟨rfl, HM2.out, HD2.out, HE2.out⟩

set_option maxRecDepth 100000 in
set_option maxHeartbeats 1000000 in
theorem heldEqT_any (s v : Int) (a : Option Addr) (c : Nat) (k : Fo) (s' v' : Int) (a' : Option Addr) (c' : Nat) (k' : Fo) (lo M B : Nat) (m : Int) (w : World) (hl : HdS w lo M a k m) (hl' : HdS w M B a' k' (m + 2 * (fsz k : Int))) (hN : fsz k ≤ 100000) (hN' : fsz k' ≤ 100000) (hm0 : 0 ≤ m) (hm1 : m ≤ 1000) (hMB : M ≤ B) (hB : B ≤ w.heap.size) :
    Calls Tryd.prog 22 #[.agg #[.int .i64 s, .int .i64 v, .slice a (flen k) c, .int .i64 s', .int .i64 v', .slice a' (flen k') c'], .int .i64 m] w fun e w' => e = .returned (.int .i64 (m + 2 * (fsz k : Int) + 2 * (fsz k' : Int))) ∧ Below w.heap.size w w' := by
  obtain ⟨w0, hw0⟩ : ∃ w0, w0 = w.alloc (.cells #[.int .i64 s, .int .i64 v, .slice a (flen k) c, .int .i64 s', .int .i64 v', .slice a' (flen k') c'] 37) := ⟨_, rfl⟩
  have hb0 : Below w.heap.size w w0 := by rw [hw0]; exact (Below.refl _ _).alloc (Nat.le_refl _) _
  have hs0 : w0.heap.size = w.heap.size + 1 := by rw [hw0]; simp
  have hr : w0.cell? ⟨w.heap.size, 0, none⟩ = some (.int .i64 s) ∧ w0.cell? ⟨w.heap.size, 1, none⟩ = some (.int .i64 v) ∧ w0.cell? ⟨w.heap.size, 2, none⟩ = some (.slice a (flen k) c) ∧ w0.cell? ⟨w.heap.size, 3, none⟩ = some (.int .i64 s') ∧ w0.cell? ⟨w.heap.size, 4, none⟩ = some (.int .i64 v') ∧ w0.cell? ⟨w.heap.size, 5, none⟩ = some (.slice a' (flen k') c') := by rw [hw0]; exact box6u rfl (Below.refl _ _)
  obtain ⟨hr0, hr1, hr2, hr3, hr4, hr5⟩ := hr
  have HT : Hid (HdS w0 lo M a k m) := hl.same (Same.of_below (hb0.mono (by omega)))
  have HT' : Hid (HdS w0 M B a' k' (m + 2 * (fsz k : Int))) := hl'.same (Same.of_below (hb0.mono (by omega)))
  have HW := Lib.hid hw0
  have HS0 := Lib.hid hs0
  have HB0 := Lib.hid hb0
  have e1 : decide (m + 2 * (fsz k : Int) < 0) = false := decide_eq_false (by omega)
  have e2 : decide (m + 2 * (fsz k : Int) + 2 * (fsz k' : Int) < 0) = false := decide_eq_false (by omega)
  clear hl hl' hb0 hs0
  go_enter Tryd.func22, Tryd.ntmps22
  go_wp2_with fail
  rw [← HW.out]
  with_reducible refine (heldTerm_any s v a c k lo M m _ HT.out (by omega) hm0 (by omega) (by have := HS0.out; omega)).mono ?_
  rintro e w1 ⟨rfl, hb1⟩
  have hs1 := hb1.size
  have hS0 := HS0.out
  have HB1 := Lib.hid (HB0.out.trans (hb1.mono (by omega)))
  have HT1 : Hid (HdS w1 M B a' k' (m + 2 * (fsz k : Int))) := HT'.out.same (Same.of_below (hb1.mono (by omega)))
  have hx3 : w1.cell? ⟨w.heap.size, 3, none⟩ = some (.int .i64 s') := by rw [hb1.cell (by simp; omega)]; exact hr3
  have hx4 : w1.cell? ⟨w.heap.size, 4, none⟩ = some (.int .i64 v') := by rw [hb1.cell (by simp; omega)]; exact hr4
  have hx5 : w1.cell? ⟨w.heap.size, 5, none⟩ = some (.slice a' (flen k') c') := by rw [hb1.cell (by simp; omega)]; exact hr5
  clear hb1 hr0 hr1 hr2 hr3 hr4 hr5
  go_wp2_with fail
  with_reducible refine (heldTerm_any s' v' a' c' k' M B (m + 2 * (fsz k : Int)) _ HT1.out (by omega) (by omega) (by omega) (by omega)).mono ?_
  rintro e w2 ⟨rfl, hb2⟩
  have HB2 := Lib.hid (HB1.out.trans (hb2.mono (by omega)))
  clear hb2 hx3 hx4 hx5
  go_wp2_with fail
  go_ret
  exact ⟨rfl, HB2.out⟩
end Go.Proofs.YtbnbogdglffkmaaDoor

/-! XEr: For every text, laws.FnExactEqRead answers true and writes nothing that was there. -/
namespace Go.Proofs.YtbnbogdglffkmaaDoor
open Go.RowKit Go.Deep

theorem eqA_sz {l : List UInt8} {s v : Int} {k : Fo} {s' v' : Int} {k' : Fo} {t : Bool} (h : eqA l = ((s, v, k), (s', v', k'), t)) : fsz k ≤ 15 ∧ fsz k' ≤ 15 := by
  unfold eqA at h
  split at h
  · rename_i x y hr
    obtain ⟨s2, v2, k2⟩ := x
    obtain ⟨s3, v3, k3⟩ := y
    simp only [Prod.mk.injEq] at h
    obtain ⟨⟨_, _, rfl⟩, ⟨_, _, rfl⟩, _⟩ := h
    obtain ⟨h1, _, h2, _⟩ := eqR_some hr
    have := ((okW_iff _ _ _ _).1 h1).2.2
    have := ((okW_iff _ _ _ _).1 h2).2.2
    omega
  · simp only [Prod.mk.injEq] at h
    obtain ⟨⟨_, _, rfl⟩, ⟨_, _, rfl⟩, _⟩ := h
    simp [fsz]

set_option maxRecDepth 100000 in
set_option maxHeartbeats 4000000 in
theorem exactEqRead_walk (l : List UInt8) (w : World) (hm : l.length ≤ maxLen) (hE : ErrAt w w.heap.size) (hM : MxAt w) :
    Calls Tryd.prog 6 #[.string (str l)] w fun e w' => e = .returned (.bool true) ∧ Below w.heap.size w w' := by
  have hz := str_size l
  unfold maxLen at hm
  by_cases hbig : 1048576 < l.length
  · have e0 : decide ((1048576 : Int) < (l.length : Int)) = true := decide_eq_true (by omega)
    go_enter Tryd.func6, Tryd.ntmps6
    go_wp2_with fail
    go_ret
    exact ⟨rfl, Below.refl _ _⟩
  have e0 : decide ((1048576 : Int) < (l.length : Int)) = false := decide_eq_false (by omega)
  have HLEN : Hid (l.length ≤ 1048576) := Nat.le_of_not_lt hbig
  have HE := Lib.hid hE
  have HM := Lib.hid hM
  clear hm hE hM hbig
  go_enter Tryd.func6, Tryd.ntmps6
  go_wp2_with fail
  with_reducible refine (sEqRead_any l _ HLEN.out).mono ?_
  rintro e w2 ⟨a2, c2, s, v, k, a2', c2', s', v', k', t, hR, rfl, hb2, hl2, hl2'⟩
  have HR := Lib.hid hR
  obtain ⟨hk, hk'⟩ := eqA_sz hR
  have hs2 := hb2.size
  have hb2' := hb2.alloc hs2 (.cells #[.int .i64 s, .int .i64 v, .slice a2 (flen k) c2, .int .i64 s', .int .i64 v', .slice a2' (flen k') c2'] 37)
  have HB2 := Lib.hid hb2'
  have HW2 : Hid (Below (w2.heap.size + 1) (w2.alloc (.cells #[.int .i64 s, .int .i64 v, .slice a2 (flen k) c2, .int .i64 s', .int .i64 v', .slice a2' (flen k') c2'] 37)) (w2.alloc (.cells #[.int .i64 s, .int .i64 v, .slice a2 (flen k) c2, .int .i64 s', .int .i64 v', .slice a2' (flen k') c2'] 37))) := Below.refl _ _
  have HLW : Hid (Sl (w2.alloc (.cells #[.int .i64 s, .int .i64 v, .slice a2 (flen k) c2, .int .i64 s', .int .i64 v', .slice a2' (flen k') c2'] 37)) 0 w2.heap.size a2 k) := (hl2.below ((Below.refl _ _).alloc (Nat.le_refl _) _)).mono (Nat.zero_le _) (Nat.le_refl _)
  have HLW' : Hid (Sl (w2.alloc (.cells #[.int .i64 s, .int .i64 v, .slice a2 (flen k) c2, .int .i64 s', .int .i64 v', .slice a2' (flen k') c2'] 37)) 0 w2.heap.size a2' k') := (hl2'.below ((Below.refl _ _).alloc (Nat.le_refl _) _)).mono (Nat.zero_le _) (Nat.le_refl _)
  have HE2 : Hid (ErrAt (w2.alloc (.cells #[.int .i64 s, .int .i64 v, .slice a2 (flen k) c2, .int .i64 s', .int .i64 v', .slice a2' (flen k') c2'] 37)) (w2.alloc (.cells #[.int .i64 s, .int .i64 v, .slice a2 (flen k) c2, .int .i64 s', .int .i64 v', .slice a2' (flen k') c2'] 37)).heap.size) := (HE.out.same (Same.of_below hb2')).mono (by simp; omega)
  have HM2 : Hid (MxAt (w2.alloc (.cells #[.int .i64 s, .int .i64 v, .slice a2 (flen k) c2, .int .i64 s', .int .i64 v', .slice a2' (flen k') c2'] 37))) := HM.out.below hb2'
  clear hb2 hb2' hl2 hl2' hR
  go_wp2_with fail
  with_reducible refine (iEqRead_any l _ HLEN.out HE2.out HM2.out).mono ?_
  rintro e w7 ⟨a7, c7, s7, v7, k7, a7', c7', s7', v7', k7', t7, M, hR7, rfl, hb7, hm, hm', hl7, hl7'⟩
  rw [HR.out] at hR7
  simp only [Prod.mk.injEq] at hR7
  obtain ⟨⟨rfl, rfl, rfl⟩, ⟨rfl, rfl, rfl⟩, rfl⟩ := hR7
  have hs7 := hb7.size
  simp at hs7 hm
  have hb7' := hb7.alloc hb7.size (.cells #[.int .i64 s, .int .i64 v, .slice a7 (flen k) c7, .int .i64 s', .int .i64 v', .slice a7' (flen k') c7'] 37)
  have HB7 := Lib.hid (HB2.out.trans (hb7'.mono (by simp; omega)))
  have HW7 := Lib.hid (HW2.out.trans (hb7'.mono (by simp)))
  have HG7 : Hid (Below (w7.heap.size + 1) (w7.alloc (.cells #[.int .i64 s, .int .i64 v, .slice a7 (flen k) c7, .int .i64 s', .int .i64 v', .slice a7' (flen k') c7'] 37)) (w7.alloc (.cells #[.int .i64 s, .int .i64 v, .slice a7 (flen k) c7, .int .i64 s', .int .i64 v', .slice a7' (flen k') c7'] 37))) := Below.refl _ _
  have hbx : Below w7.heap.size w7 (w7.alloc (.cells #[.int .i64 s, .int .i64 v, .slice a7 (flen k) c7, .int .i64 s', .int .i64 v', .slice a7' (flen k') c7'] 37)) := (Below.refl _ _).alloc (Nat.le_refl _) _
  have HT7 : Hid (TX (w7.alloc (.cells #[.int .i64 s, .int .i64 v, .slice a7 (flen k) c7, .int .i64 s', .int .i64 v', .slice a7' (flen k') c7'] 37)) (w2.heap.size + 1) M a7 k) := (hl7.same (Same.of_below (hbx.mono (by omega)))).mono (by simp) (Nat.le_refl _)
  have HT7' : Hid (TX (w7.alloc (.cells #[.int .i64 s, .int .i64 v, .slice a7 (flen k) c7, .int .i64 s', .int .i64 v', .slice a7' (flen k') c7'] 37)) M w7.heap.size a7' k') := hl7'.same (Same.of_below hbx)
  have HMM : Hid (w2.heap.size + 1 ≤ M ∧ M ≤ w7.heap.size) := ⟨by omega, hm'⟩
  have HS7 : Hid (Sl (w7.alloc (.cells #[.int .i64 s, .int .i64 v, .slice a7 (flen k) c7, .int .i64 s', .int .i64 v', .slice a7' (flen k') c7'] 37)) 0 (w7.alloc (.cells #[.int .i64 s, .int .i64 v, .slice a7 (flen k) c7, .int .i64 s', .int .i64 v', .slice a7' (flen k') c7'] 37)).heap.size a7 k) := HT7.out.1.mono (Nat.zero_le _) (by simp; omega)
  have HS7' : Hid (Sl (w7.alloc (.cells #[.int .i64 s, .int .i64 v, .slice a7 (flen k) c7, .int .i64 s', .int .i64 v', .slice a7' (flen k') c7'] 37)) 0 (w7.alloc (.cells #[.int .i64 s, .int .i64 v, .slice a7 (flen k) c7, .int .i64 s', .int .i64 v', .slice a7' (flen k') c7'] 37)).heap.size a7' k') := HT7'.out.1.mono (Nat.zero_le _) (by simp)
  clear hb7 hb7' hl7 hl7' hbx hm hm'
  obtain ⟨hw0, hw1, hw2, hw3, hw4, hw5⟩ := box6u rfl HW7.out
  obtain ⟨hz0, hz1, hz2, hz3, hz4, hz5⟩ := box6u rfl HG7.out
  have et : (t != t) = false := by simp
  go_wp2_with fail
  with_reducible refine (eqEq_same s v a7 c7 k s' v' a7' c7' k' a2 c2 a2' c2' _ HS7.out HS7'.out ((HLW.out.below (HW7.out.mono (by omega))).mono (Nat.le_refl _) (by simp; omega)) ((HLW'.out.below (HW7.out.mono (by omega))).mono (Nat.le_refl _) (by simp; omega)) (by omega) (by omega)).mono ?_
  rintro e w15 ⟨rfl, hb15⟩
  have hs15 := hb15.size
  simp at hs15
  have HB15 := Lib.hid (HB7.out.trans (hb15.mono (by simp; omega)))
  have HW15 := Lib.hid (HW7.out.trans (hb15.mono (by simp; omega)))
  have HT15 := Lib.hid (HT7.out.same (Same.of_below (hb15.mono (by have := HMM.out; simp; omega)))).2
  have HT15' := Lib.hid (HT7'.out.same (Same.of_below (hb15.mono (by simp)))).2
  have hy0 := cell_lowX hb15 hz0
  have hy1 := cell_lowX hb15 hz1
  have hy2 := cell_lowX hb15 hz2
  have hy3 := cell_lowX hb15 hz3
  have hy4 := cell_lowX hb15 hz4
  have hy5 := cell_lowX hb15 hz5
  clear hb15 hz0 hz1 hz2 hz3 hz4 hz5 hw0 hw1 hw2 hw3 hw4 hw5
  go_wp2_with fail
  with_reducible refine (markEqT_any s v a7 c7 k s' v' a7' c7' k' (w2.heap.size + 1) M w7.heap.size 1 _ HT15.out HT15'.out (by omega) (by omega) (by omega) (by omega) HMM.out.1 HMM.out.2 (by omega)).mono ?_
  rintro e w16 ⟨rfl, hmk, hhd, hhd'⟩
  have hs16 := hmk.below.size
  have hfar : Same w7.heap.size w15.heap.size w15 w16 := fun b h1 h2 => hmk.far b h1 h2
  have HB16 := Lib.hid (HB15.out.trans (hmk.below.mono (by omega)))
  have HW16 := Lib.hid (HW15.out.trans (hmk.below.mono (by omega)))
  have HD16 := Lib.hid hhd
  have HD16' := Lib.hid hhd'
  have hz0 : w16.cell? ⟨w7.heap.size, 0, none⟩ = some (.int .i64 s) := by rw [hfar.cell (by simp) (by simp; omega)]; exact hy0
  have hz1 : w16.cell? ⟨w7.heap.size, 1, none⟩ = some (.int .i64 v) := by rw [hfar.cell (by simp) (by simp; omega)]; exact hy1
  have hz2 : w16.cell? ⟨w7.heap.size, 2, none⟩ = some (.slice a7 (flen k) c7) := by rw [hfar.cell (by simp) (by simp; omega)]; exact hy2
  have hz3 : w16.cell? ⟨w7.heap.size, 3, none⟩ = some (.int .i64 s') := by rw [hfar.cell (by simp) (by simp; omega)]; exact hy3
  have hz4 : w16.cell? ⟨w7.heap.size, 4, none⟩ = some (.int .i64 v') := by rw [hfar.cell (by simp) (by simp; omega)]; exact hy4
  have hz5 : w16.cell? ⟨w7.heap.size, 5, none⟩ = some (.slice a7' (flen k') c7') := by rw [hfar.cell (by simp) (by simp; omega)]; exact hy5
  obtain ⟨Z, hZ⟩ : ∃ Z : Int, Z = 1 + 2 * (fsz k : Int) + 2 * (fsz k' : Int) := ⟨_, rfl⟩
  have e2 : decide (Z < 0) = false := decide_eq_false (by omega)
  have e3 : (Z != Z) = false := by simp
  have HZ := Lib.hid hZ
  rw [← hZ]
  clear hmk hhd hhd' hfar hZ hy0 hy1 hy2 hy3 hy4 hy5
  go_wp2_with fail
  with_reducible refine (heldEqT_any s v a7 c7 k s' v' a7' c7' k' (w2.heap.size + 1) M w7.heap.size 1 _ HD16.out HD16'.out (by omega) (by omega) (by omega) (by omega) HMM.out.2 (by omega)).mono ?_
  rintro e w17 ⟨rfl, hb17⟩
  rw [← HZ.out]
  have hs17 := hb17.size
  have HB17 := Lib.hid (HB16.out.trans (hb17.mono (by omega)))
  have HW17 := Lib.hid (HW16.out.trans (hb17.mono (by omega)))
  have HD17 := Lib.hid (HD16.out.same (Same.of_below (hb17.mono (by have := HMM.out; omega))))
  have HD17' := Lib.hid (HD16'.out.same (Same.of_below (hb17.mono (by omega))))
  have hy0 := cell_lowX hb17 hz0
  have hy1 := cell_lowX hb17 hz1
  have hy2 := cell_lowX hb17 hz2
  have hy3 := cell_lowX hb17 hz3
  have hy4 := cell_lowX hb17 hz4
  have hy5 := cell_lowX hb17 hz5
  have HE17 : Hid (ErrAt w17 w17.heap.size) := (HE.out.same (Same.of_below HB17.out)).mono HB17.out.size
  have HM17 : Hid (MxAt w17) := HM.out.below HB17.out
  clear hb17 hz0 hz1 hz2 hz3 hz4 hz5
  go_wp2_with fail
  with_reducible refine (iEqRead_any l _ HLEN.out HE17.out HM17.out).mono ?_
  rintro e w20 ⟨a20, c20, s20, v20, k20, a20', c20', s20', v20', k20', t20, M2, hR20, rfl, hb20, hm, hm', hl20, hl20'⟩
  rw [HR.out] at hR20
  simp only [Prod.mk.injEq] at hR20
  obtain ⟨⟨rfl, rfl, rfl⟩, ⟨rfl, rfl, rfl⟩, rfl⟩ := hR20
  have hs20 := hb20.size
  have hb21 : Below w17.heap.size w17 (w20.alloc (.cells #[.int .i64 s, .int .i64 v, .slice a20 (flen k) c20, .int .i64 s', .int .i64 v', .slice a20' (flen k') c20'] 37)) := hb20.alloc (by omega) _
  have HB20 := Lib.hid (HB17.out.trans (hb21.mono (by omega)))
  have HW20 := Lib.hid (HW17.out.trans (hb21.mono (by omega)))
  have HD20 := Lib.hid (HD17.out.same (Same.of_below (hb21.mono (by have := HMM.out; omega))))
  have HD20' := Lib.hid (HD17'.out.same (Same.of_below (hb21.mono (by omega))))
  have hz0 := cell_lowX hb21 hy0
  have hz1 := cell_lowX hb21 hy1
  have hz2 := cell_lowX hb21 hy2
  have hz3 := cell_lowX hb21 hy3
  have hz4 := cell_lowX hb21 hy4
  have hz5 := cell_lowX hb21 hy5
  have hbx : Below w20.heap.size w20 (w20.alloc (.cells #[.int .i64 s, .int .i64 v, .slice a20 (flen k) c20, .int .i64 s', .int .i64 v', .slice a20' (flen k') c20'] 37)) := (Below.refl _ _).alloc (Nat.le_refl _) _
  have HLH : Hid (Sl (w20.alloc (.cells #[.int .i64 s, .int .i64 v, .slice a20 (flen k) c20, .int .i64 s', .int .i64 v', .slice a20' (flen k') c20'] 37)) 0 (w20.alloc (.cells #[.int .i64 s, .int .i64 v, .slice a20 (flen k) c20, .int .i64 s', .int .i64 v', .slice a20' (flen k') c20'] 37)).heap.size a20 k) := (hl20.1.same (Same.of_below (hbx.mono hm'))).mono (Nat.zero_le _) (by simp; omega)
  have HLH' : Hid (Sl (w20.alloc (.cells #[.int .i64 s, .int .i64 v, .slice a20 (flen k) c20, .int .i64 s', .int .i64 v', .slice a20' (flen k') c20'] 37)) 0 (w20.alloc (.cells #[.int .i64 s, .int .i64 v, .slice a20 (flen k) c20, .int .i64 s', .int .i64 v', .slice a20' (flen k') c20'] 37)).heap.size a20' k') := (hl20'.1.same (Same.of_below hbx)).mono (Nat.zero_le _) (by simp)
  clear hb20 hl20 hl20' hb21 hbx hm hm' hy0 hy1 hy2 hy3 hy4 hy5
  obtain ⟨hw0, hw1, hw2, hw3, hw4, hw5⟩ := box6u rfl HW20.out
  go_wp2_with fail
  with_reducible refine (eqEq_same s v a20 c20 k s' v' a20' c20' k' a2 c2 a2' c2' _ HLH.out HLH'.out ((HLW.out.below (HW20.out.mono (by omega))).mono (Nat.le_refl _) (by simp; omega)) ((HLW'.out.below (HW20.out.mono (by omega))).mono (Nat.le_refl _) (by simp; omega)) (by omega) (by omega)).mono ?_
  rintro e w21 ⟨rfl, hb21⟩
  have hs21 := hb21.size
  simp at hs21
  have HB21 := Lib.hid (HB20.out.trans (hb21.mono (by simp; omega)))
  have HD21 := Lib.hid (HD20.out.same (Same.of_below (hb21.mono (by have := HMM.out; simp; omega))))
  have HD21' := Lib.hid (HD20'.out.same (Same.of_below (hb21.mono (by simp; omega))))
  have hy0 := cell_lowX hb21 hz0
  have hy1 := cell_lowX hb21 hz1
  have hy2 := cell_lowX hb21 hz2
  have hy3 := cell_lowX hb21 hz3
  have hy4 := cell_lowX hb21 hz4
  have hy5 := cell_lowX hb21 hz5
  clear hb21 hz0 hz1 hz2 hz3 hz4 hz5 hw0 hw1 hw2 hw3 hw4 hw5
  go_wp2_with fail
  with_reducible refine (heldEqT_any s v a7 c7 k s' v' a7' c7' k' (w2.heap.size + 1) M w7.heap.size 1 _ HD21.out HD21'.out (by omega) (by omega) (by omega) (by omega) HMM.out.2 (by omega)).mono ?_
  rintro e w22 ⟨rfl, hb22⟩
  rw [← HZ.out]
  have HB22 := Lib.hid (HB21.out.trans (hb22.mono (by omega)))
  clear hb22 hy0 hy1 hy2 hy3 hy4 hy5
  go_wp2_with fail
  go_ret
  exact ⟨rfl, HB22.out⟩
end Go.Proofs.YtbnbogdglffkmaaDoor
