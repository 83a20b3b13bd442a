/- l71Place, DrawTermAt. -/
import Derived.Test.YtebalmemncldlaaP6a
import Derived.Test.YtebalmemncldlaaB3
namespace Go.Proofs.Ytebalmemncldlaa
open Go.RowKit Go.Deep

def PlcPost (br p : Nat) (w : World) (e : Ending) (w' : World) : Prop :=
  ∃ A C place p', e = .returned (.slice A (List.length place) C) ∧ p ≤ p' ∧ p' ≤ p + 100 ∧ place.length ≤ 2000 ∧ Adv w br p' w' ∧ ISc w' w.heap.size w'.heap.size A C place

theorem plc_end {w w6 w7 : World} {o : Obj} {br p p' p'' C : Nat} {x y : Int} (ha : Adv (w.alloc o) br p' w6) (hb : Adv (w6.alloc (.cells #[.int .i64 x, .int .i64 y] 3)) br p'' w7) (hlt : br < w.heap.size) (h1 : p ≤ p'') (h2 : p'' ≤ p + 100) (hlt6 : br < w6.heap.size) (hs : 2 ≤ C) :
    PlcPost br p w (.returned (.slice (some ⟨w6.heap.size, 0, none⟩) 1 C)) w7 ∧ PlcPost br p w (.returned (.slice (some ⟨w6.heap.size, 0, none⟩) 2 C)) w7 := by
  have hsz := ha.size
  simp at hsz
  have hs7 := hb.size
  simp at hs7
  have hA : Adv w br p'' w7 := ((ha.alloc (.cells #[.int .i64 x, .int .i64 y] 3)).trans hb).off hlt
  have c0 : w7.cell? ⟨w6.heap.size, 0, none⟩ = some (.int .i64 x) := hb.cell (by simp) (by simp; omega)
  have c1 : w7.cell? ⟨w6.heap.size, 1, none⟩ = some (.int .i64 y) := hb.cell (by simp) (by simp; omega)
  refine ⟨⟨_, C, [x], p'', rfl, h1, h2, by simp, hA, .inr ⟨_, 0, rfl, by omega, by omega, fun i u hu => ?_⟩, by simp; omega⟩, ⟨_, C, [x, y], p'', rfl, h1, h2, by simp, hA, .inr ⟨_, 0, rfl, by omega, by omega, fun i u hu => ?_⟩, by simpa using hs⟩⟩
  · match i with
    | 0 => simp at hu; subst hu; exact c0
    | n + 1 => simp at hu
  · match i with
    | 0 => simp at hu; subst hu; exact c0
    | 1 => simp at hu; subst hu; exact c1
    | n + 2 => simp at hu

set_option maxRecDepth 100000 in
set_option maxHeartbeats 1000000 in
theorem l71Place_any (br p : Nat) (s v : Int) (a : Option Addr) (c : Nat) (k : Fo) (w : World) (hr : Rd w br p) (hp : p ≤ 10000000) (hl : Sl w (br + 1) w.heap.size a k) :
    Calls Try.prog 38 #[.pointer (some ⟨br, 0, none⟩), .agg #[.int .i64 s, .int .i64 v, .slice a (flen k) c]] w (PlcPost br p w) := by
  have hlt := hr.lt
  have hr' := hr.alloc (.cells #[.int .i64 s, .int .i64 v, .slice a (flen k) c] 25)
  have hl' := hl.low ((Below.refl _ _).alloc (Nat.le_refl _) (.cells #[.int .i64 s, .int .i64 v, .slice a (flen k) c] 25))
  have HL0 := Lib.hid hl'
  have HA0 := Lib.hid (Adv.start hr' (Below.refl _ _))
  have HR0 := Lib.hid hr'
  clear hr hr' hl hl'
  go_enter Try.func38, Try.ntmps38
  go_wp2_with fail
  with_reducible refine (sTermOk_any s v a c k _ (HL0.out.mono (Nat.zero_le _) (Nat.le_refl _))).mono ?_
  rintro e w2 ⟨rfl, hb2⟩
  have HA2 := Lib.hid (HA0.out.more hb2)
  have HR2 := Lib.hid (HA2.out.rd HR0.out)
  have HL2 := Lib.hid (HL0.out.low hb2)
  have hs2 := hb2.size
  simp at hs2
  clear hb2
  cases hok : okW s v k 16 with
  | false =>
    clear hok
    go_wp2_with fail
    with_reducible refine (pick_any 4 br (p) _ HR2.out (by omega) (by omega) (by omega)).mono ?_
    rintro e w5 ⟨x4, rfl, hx4, hb5⟩
    have HR5 := Lib.hid (Adv.rd hb5 HR2.out)
    have HA5 := Lib.hid (HA2.out.trans hb5)
    clear hb5
    go_wp2_with fail
    with_reducible refine (pick_any 3 br (p + 1) _ HR5.out (by omega) (by omega) (by omega)).mono ?_
    rintro e w6 ⟨x3, rfl, hx3, hb6⟩
    have HR6 := Lib.hid (Adv.rd hb6 HR5.out)
    have HA6 := Lib.hid (HA5.out.trans hb6)
    have hlt6 : br < w6.heap.size := HR6.out.lt
    have hs6 := HA6.out.size
    simp at hs6
    clear hb6
    go_wp2_with fail
    with_reducible refine (pick_any 2 br (p + 1 + 1) _ (HR6.out.alloc _) (by omega) (by omega) (by omega)).mono ?_
    rintro e w7 ⟨x2, rfl, hx2, hb7⟩
    have hb7' : Adv (w6.alloc (.cells #[.int .i64 ((x4 : Int) - 1), .int .i64 (x3 : Int)] 3)) br (p + 1 + 1 + 1) w7 := hb7
    have HP := Lib.hid (plc_end (p := p) (C := 2) HA6.out hb7' hlt (by omega) (by omega) hlt6 (by simp))
    clear hb7 hb7'
    have hx2' : x2 < 2 := by omega
    rcases (show x2 = 0 ∨ x2 = 1 by omega) with rfl | rfl
    · go_wp2_with fail
      go_ret
      exact HP.out.1
    · go_wp2_with fail
      go_ret
      exact HP.out.2
  | true =>
    have hsz := ((okW_iff _ _ _ _).1 hok).2.2
    clear hok
    go_wp2_with fail
    with_reducible refine (pick_any 10 br p _ HR2.out (by omega) (by omega) (by omega)).mono ?_
    rintro e w3 ⟨y, rfl, hy, hb3⟩
    have HR3 := Lib.hid (Adv.rd hb3 HR2.out)
    have ha3 : Adv w2 br (p + 1) w3 := hb3
    have HA3 := Lib.hid (HA2.out.trans hb3)
    have HL3 := Lib.hid (HL2.out.adv ha3 (Nat.lt_succ_self _))
    have hs3 := ha3.size
    clear hb3 ha3 hy
    by_cases hy0 : y = 0
    · subst hy0
      go_wp2_with fail
      with_reducible refine (pick_any 4 br (p + 1) _ HR3.out (by omega) (by omega) (by omega)).mono ?_
      rintro e w5 ⟨x4, rfl, hx4, hb5⟩
      have HR5 := Lib.hid (Adv.rd hb5 HR3.out)
      have HA5 := Lib.hid (HA3.out.trans hb5)
      clear hb5
      go_wp2_with fail
      with_reducible refine (pick_any 3 br (p + 1 + 1) _ HR5.out (by omega) (by omega) (by omega)).mono ?_
      rintro e w6 ⟨x3, rfl, hx3, hb6⟩
      have HR6 := Lib.hid (Adv.rd hb6 HR5.out)
      have HA6 := Lib.hid (HA5.out.trans hb6)
      have hlt6 : br < w6.heap.size := HR6.out.lt
      have hs6 := HA6.out.size
      simp at hs6
      clear hb6
      go_wp2_with fail
      with_reducible refine (pick_any 2 br (p + 1 + 1 + 1) _ (HR6.out.alloc _) (by omega) (by omega) (by omega)).mono ?_
      rintro e w7 ⟨x2, rfl, hx2, hb7⟩
      have hb7' : Adv (w6.alloc (.cells #[.int .i64 ((x4 : Int) - 1), .int .i64 (x3 : Int)] 3)) br (p + 1 + 1 + 1 + 1) w7 := hb7
      have HP := Lib.hid (plc_end (p := p) (C := 2) HA6.out hb7' hlt (by omega) (by omega) hlt6 (by simp))
      clear hb7 hb7'
      have hx2' : x2 < 2 := by omega
      rcases (show x2 = 0 ∨ x2 = 1 by omega) with rfl | rfl
      · go_wp2_with fail
        go_ret
        exact HP.out.1
      · go_wp2_with fail
        go_ret
        exact HP.out.2
    · have y0 : ((y : Int) == 0) = false := by simpa using hy0
      obtain ⟨hr0, hr1, hr2, hf0, hf1, hf2⟩ := res_cells HA3.out hlt
      go_wp2_with fail
      with_reducible refine (l1Places_any (fsz k) s v a c k none 0 0 [] _ (HL3.out.mono (Nat.zero_le _) (Nat.le_refl _)) isl_nil rfl (Nat.le_refl _) (by omega) (by simp; omega)).mono ?_
      rintro e w4 ⟨A4, C4, rfl, hb4, hr4⟩
      have hr4' : RSl w4 w3.heap.size w4.heap.size A4 (places k) := by simpa using hr4
      have HA4 := Lib.hid (HA3.out.more hb4)
      have HR4 := Lib.hid (Rd.next HR3.out (bl_self hb4 HR3.out.place))
      have hs4 := hb4.size
      have hlt3 : br < w3.heap.size := HR3.out.lt
      have HRS := Lib.hid hr4'
      clear hb4 hr4 hr4' hr0 hr1 hr2 hf0 hf1 hf2
      go_wp2_with fail
      with_reducible refine (pick_any (1 + fsz k) br (p + 1) _ HR4.out (by omega) (by omega) (by omega)).mono ?_
      rintro e w5 ⟨z, rfl, hz, hb5⟩
      have ha5 : Adv w4 br (p + 1 + 1) w5 := hb5
      have hs5 := ha5.size
      have hz2 : z < (places k).length := by rw [places_len]; omega
      have hrs5 : RSl w5 w3.heap.size w5.heap.size A4 (places k) := (HRS.out.same (ha5.same (Nat.le_refl _) (.inl hlt3))).mono (Nat.le_refl _) hs5
      obtain ⟨b, o, a6, c6, r, rfl, _, hbB, hrz, hk0, hi6⟩ := rsl_at2 hrs5 hz2
      have hdp := places_deep (List.mem_of_getElem? hrz)
      have HP : Hid (PlcPost br p w (.returned (.slice a6 r.length c6)) w5) := ⟨a6, c6, r, p + 1 + 1, rfl, by omega, by omega, by omega, (HA4.out.trans hb5).off hlt, hi6.mono (by omega) (Nat.le_refl _)⟩
      have g1 : (0 : Int) ≤ (z : Int) := by omega
      have g2 : (z : Int) < 1 + (fsz k : Int) := by omega
      clear hb5 ha5 hrs5 hrz hi6
      go_wp2_with fail
      go_ret
      exact HP.out
end Go.Proofs.Ytebalmemncldlaa
