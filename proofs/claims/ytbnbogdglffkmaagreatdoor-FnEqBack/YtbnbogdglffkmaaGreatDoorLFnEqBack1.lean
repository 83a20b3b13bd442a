/- Several texts in one: LawEBack. -/
import Derived.Test.YtbnbogdglffkmaaGreatDoorKEb23
import Derived.Test.YtbnbogdglffkmaaGreatDoorKEb19

/-! LawEBack: For every code, laws.FnEqBack answers true and writes nothing that was there. -/
namespace Go.Proofs.YtbnbogdglffkmaaGreatDoor
open Go.RowKit Go.Deep

set_option maxRecDepth 100000 in
set_option maxHeartbeats 4000000 in
theorem lawEBack_walk (a : Option Addr) (len cap : Nat) (w : World) (hby : Bytes w a len) (hlen : len ≤ cap) (hE : ErrAt w w.heap.size) (hM : MxAt w) :
    Calls Tryz.prog 3 #[.slice a len cap] w fun e w' => e = .returned (.bool true) ∧ Below w.heap.size w w' := by
  have HBY := Lib.hid hby
  have HE := Lib.hid hE
  have HM := Lib.hid hM
  clear hby hE hM
  by_cases hbig : 1048576 < len
  · go_enter Tryz.func3, Tryz.ntmps3
    go_wp2_with fail
    go_ret
    exact ⟨rfl, Below.refl _ _⟩
  go_enter Tryz.func3, Tryz.ntmps3
  go_wp2_with fail
  with_reducible refine (DrawEqWrite_any a len cap _ HBY.out hlen).mono ?_
  rintro e w1 ⟨a1, c1, s, v, k, a1', c1', s', v', k', rfl, hk, hk', hb1, hl1, hl1'⟩
  have hs1 := hb1.size
  have hb2 := hb1.alloc hs1 (.cells #[.int .i64 s, .int .i64 v, .slice a1 (flen k) c1, .int .i64 s', .int .i64 v', .slice a1' (flen k') c1'] 27)
  have HB2 := Lib.hid hb2
  have HW2 : Hid (Below (w1.heap.size + 1) (w1.alloc (.cells #[.int .i64 s, .int .i64 v, .slice a1 (flen k) c1, .int .i64 s', .int .i64 v', .slice a1' (flen k') c1'] 27)) (w1.alloc (.cells #[.int .i64 s, .int .i64 v, .slice a1 (flen k) c1, .int .i64 s', .int .i64 v', .slice a1' (flen k') c1'] 27))) := Below.refl _ _
  have HL2 : Hid (Sl (w1.alloc (.cells #[.int .i64 s, .int .i64 v, .slice a1 (flen k) c1, .int .i64 s', .int .i64 v', .slice a1' (flen k') c1'] 27)) 0 w1.heap.size a1 k) := (hl1.below ((Below.refl _ _).alloc (Nat.le_refl _) _)).mono (Nat.zero_le _) (Nat.le_refl _)
  have HL2' : Hid (Sl (w1.alloc (.cells #[.int .i64 s, .int .i64 v, .slice a1 (flen k) c1, .int .i64 s', .int .i64 v', .slice a1' (flen k') c1'] 27)) 0 w1.heap.size a1' k') := (hl1'.below ((Below.refl _ _).alloc (Nat.le_refl _) _)).mono (Nat.zero_le _) (Nat.le_refl _)
  clear hb1 hb2 hl1 hl1'
  go_wp2_with fail
  with_reducible refine (iEqWrite_any s v a1 c1 k s' v' a1' c1' k' _ (HL2.out.mono (Nat.le_refl _) (by simp)) (HL2'.out.mono (Nat.le_refl _) (by simp))).mono ?_
  rintro e w3 ⟨rfl, hb3⟩
  have hs3 := hb3.size
  simp at hs3
  have HB3 := Lib.hid (HB2.out.trans (hb3.mono (by simp; omega)))
  have HW3 := Lib.hid (HW2.out.trans (hb3.mono (by simp)))
  clear hb3
  obtain ⟨hc0, hc1, hc2, hc3, hc4, hc5⟩ := box6u rfl HW3.out
  have hcase := etx_cases s v k s' v' k'
  have hlen2 := etx_len (s := s) (v := v) (k := k) (s' := s') (v' := v') (k' := k')
  obtain ⟨X, hX⟩ : ∃ X, X = etx s v k s' v' k' := ⟨_, rfl⟩
  rw [← hX] at hcase hlen2 ⊢
  have HX := Lib.hid hX
  have HC := Lib.hid hcase
  have HXL : Hid (X.length ≤ 1048576) := by show X.length ≤ 1048576; omega
  clear hX hcase hlen2
  have e0 : ((str X).toList != (str X).toList) = false := by simp
  have e1 : ((str X).toList == (str X).toList) = true := by simp
  go_wp2_with fail
  with_reducible refine (sEqWrite_any s v a1 c1 k s' v' a1' c1' k' _ ((HL2.out.below (HW3.out.mono (by omega))).mono (Nat.le_refl _) (by omega)) ((HL2'.out.below (HW3.out.mono (by omega))).mono (Nat.le_refl _) (by omega))).mono ?_
  rintro e w4 ⟨rfl, hb4⟩
  rw [← HX.out]
  have hs4 := hb4.size
  have HB4 := Lib.hid (HB3.out.trans (hb4.mono (by omega)))
  have HW4 := Lib.hid (HW3.out.trans (hb4.mono (by omega)))
  clear hb4 hc0 hc1 hc2 hc3 hc4 hc5
  obtain ⟨hc0, hc1, hc2, hc3, hc4, hc5⟩ := box6u rfl HW4.out
  rcases HC.out with hXn | ⟨hok, hok', hXn⟩
  · have e3 : (str X).toList.isEmpty = true := by rw [hXn]; rw [Lib.toList_data, str_toList]; rfl
    clear hXn
    go_wp2_with fail
    with_reducible refine (sEqWrite_any s v a1 c1 k s' v' a1' c1' k' _ ((HL2.out.below (HW4.out.mono (by omega))).mono (Nat.le_refl _) (by omega)) ((HL2'.out.below (HW4.out.mono (by omega))).mono (Nat.le_refl _) (by omega))).mono ?_
    rintro e w5 ⟨rfl, hb5⟩
    rw [← HX.out]
    have HB5 := Lib.hid (HB4.out.trans (hb5.mono (by omega)))
    clear hb5
    go_wp2_with fail
    go_ret
    exact ⟨rfl, HB5.out⟩
  · have e3 : (str X).toList.isEmpty = false := by
      rw [Lib.toList_data, str_toList]
      cases X with
      | nil => exact absurd rfl hXn
      | cons => rfl
    have HA : Hid (eqA X = ((s, v, fer k), (s', v', fer k'), true)) := by rw [HX.out]; exact etx_back hok hok'
    have hsz : fsz k ≤ 15 := by have := ((okW_iff _ _ _ _).1 hok).2.2; omega
    have hsz' : fsz k' ≤ 15 := by have := ((okW_iff _ _ _ _).1 hok').2.2; omega
    have HE4 : Hid (ErrAt w4 w4.heap.size) := (HE.out.same (Same.of_below HB4.out)).mono HB4.out.size
    have HM4 : Hid (MxAt w4) := HM.out.below HB4.out
    clear HX hXn hok hok' HC
    go_wp2_with fail
    with_reducible refine (iEqRead_any X _ HXL.out HE4.out HM4.out).mono ?_
    rintro e w7 ⟨a7, c7, s7, v7, k7, a7', c7', s7', v7', k7', t7, M, hR7, rfl, hb7, hm, hm', hl7, hl7'⟩
    rw [HA.out] at hR7
    simp only [Prod.mk.injEq] at hR7
    obtain ⟨⟨rfl, rfl, rfl⟩, ⟨rfl, rfl, rfl⟩, rfl⟩ := hR7
    have hs7 := hb7.size
    have hb8 := hb7.alloc hs7 (.cells #[.int .i64 s, .int .i64 v, .slice a7 (flen (fer k)) c7, .int .i64 s', .int .i64 v', .slice a7' (flen (fer k')) c7'] 27)
    have HB8 := Lib.hid (HB4.out.trans (hb8.mono (by omega)))
    have HW8 := Lib.hid (HW4.out.trans (hb8.mono (by omega)))
    have HG8 : Hid (Below (w7.heap.size + 1) (w7.alloc (.cells #[.int .i64 s, .int .i64 v, .slice a7 (flen (fer k)) c7, .int .i64 s', .int .i64 v', .slice a7' (flen (fer k')) c7'] 27)) (w7.alloc (.cells #[.int .i64 s, .int .i64 v, .slice a7 (flen (fer k)) c7, .int .i64 s', .int .i64 v', .slice a7' (flen (fer k')) c7'] 27))) := Below.refl _ _
    have hbx : Below w7.heap.size w7 (w7.alloc (.cells #[.int .i64 s, .int .i64 v, .slice a7 (flen (fer k)) c7, .int .i64 s', .int .i64 v', .slice a7' (flen (fer k')) c7'] 27)) := (Below.refl _ _).alloc (Nat.le_refl _) _
    have HL8 : Hid (Sl (w7.alloc (.cells #[.int .i64 s, .int .i64 v, .slice a7 (flen (fer k)) c7, .int .i64 s', .int .i64 v', .slice a7' (flen (fer k')) c7'] 27)) 0 w7.heap.size a7 (fer k)) := (hl7.1.same (Same.of_below (hbx.mono hm'))).mono (Nat.zero_le _) hm'
    have HL8' : Hid (Sl (w7.alloc (.cells #[.int .i64 s, .int .i64 v, .slice a7 (flen (fer k)) c7, .int .i64 s', .int .i64 v', .slice a7' (flen (fer k')) c7'] 27)) 0 w7.heap.size a7' (fer k')) := (hl7'.1.same (Same.of_below hbx)).mono (Nat.zero_le _) (Nat.le_refl _)
    have HLT : Hid (Sl (w7.alloc (.cells #[.int .i64 s, .int .i64 v, .slice a7 (flen (fer k)) c7, .int .i64 s', .int .i64 v', .slice a7' (flen (fer k')) c7'] 27)) 0 w7.heap.size a1 (fer k)) := (HL2.out.fer.below (HW8.out.mono (by omega))).mono (Nat.le_refl _) (by omega)
    have HLT' : Hid (Sl (w7.alloc (.cells #[.int .i64 s, .int .i64 v, .slice a7 (flen (fer k)) c7, .int .i64 s', .int .i64 v', .slice a7' (flen (fer k')) c7'] 27)) 0 w7.heap.size a1' (fer k')) := (HL2'.out.fer.below (HW8.out.mono (by omega))).mono (Nat.le_refl _) (by omega)
    clear hb7 hb8 hl7 hl7' hbx hm hm' hc0 hc1 hc2 hc3 hc4 hc5
    obtain ⟨hc0, hc1, hc2, hc3, hc4, hc5⟩ := box6u rfl HW8.out
    obtain ⟨hd0, hd1, hd2, hd3, hd4, hd5⟩ := box6u rfl HG8.out
    rw [← fer_len k] at hc2
    rw [← fer_len k'] at hc5
    have hsf : fsz (fer k) ≤ 15 := by rw [fer_sz]; exact hsz
    have hsf' : fsz (fer k') ≤ 15 := by rw [fer_sz]; exact hsz'
    go_wp2_with fail
    with_reducible refine (laTerm_same 15 s v a7 a1 c7 c1 (fer k) _ (HL8.out.mono (Nat.le_refl _) (by simp)) (HLT.out.mono (Nat.le_refl _) (by simp)) hsf (by omega)).mono ?_
    rintro e w9 ⟨rfl, hb9⟩
    have hs9 := hb9.size
    simp at hs9
    have HB9 := Lib.hid (HB8.out.trans (hb9.mono (by simp; omega)))
    have HW9 := Lib.hid (HW8.out.trans (hb9.mono (by simp; omega)))
    have HG9 := Lib.hid (HG8.out.trans (hb9.mono (by simp)))
    have HL9' := Lib.hid (HL8'.out.same (Same.of_below (hb9.mono (by simp))))
    have HLT9' := Lib.hid (HLT'.out.same (Same.of_below (hb9.mono (by simp))))
    clear hb9 hc0 hc1 hc2 hc3 hc4 hc5 hd0 hd1 hd2 hd3 hd4 hd5
    obtain ⟨hc0, hc1, hc2, hc3, hc4, hc5⟩ := box6u rfl HW9.out
    obtain ⟨hd0, hd1, hd2, hd3, hd4, hd5⟩ := box6u rfl HG9.out
    rw [← fer_len k'] at hc5
    go_wp2_with fail
    with_reducible refine (laTerm_same 15 s' v' a7' a1' c7' c1' (fer k') _ (HL9'.out.mono (Nat.le_refl _) (by omega)) (HLT9'.out.mono (Nat.le_refl _) (by omega)) hsf' (by omega)).mono ?_
    rintro e w10 ⟨rfl, hb10⟩
    have HB10 := Lib.hid (HB9.out.trans (hb10.mono (by omega)))
    clear hb10
    go_wp2_with fail
    go_ret
    exact ⟨rfl, HB10.out⟩
end Go.Proofs.YtbnbogdglffkmaaGreatDoor
