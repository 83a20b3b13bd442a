/- laApart: whether no one of two places begins with the other. -/
import Derived.Test.YtebalmemncldlaaD3
namespace Go.Proofs.Ytebalmemncldlaa
open Go.RowKit Go.Deep

theorem apart_cons (x y : Int) (p q : List Int) : apart (x :: p) (y :: q) = (x != y || apart p q) := rfl
theorem apart_nil_left (q : List Int) : apart [] q = false := by cases q <;> rfl
theorem apart_nil_right (p : List Int) : apart p [] = false := by cases p <;> rfl

set_option maxRecDepth 100000 in
set_option maxHeartbeats 1000000 in
theorem laApart_any (xs ys : List Int) (A B : Option Addr) (ca cb : Nat) (w : World) (hA : ISl w 0 w.heap.size A xs) (hB : ISl w 0 w.heap.size B ys) (hx : xs.length ≤ 2000) (hy : ys.length ≤ 2000) :
    Calls Try.prog 21 #[.slice A xs.length ca, .slice B ys.length cb] w fun e w' => e = .returned (.bool (apart xs ys)) ∧ Below w.heap.size w w' := by
  have HA := Lib.hid hA
  have HB := Lib.hid hB
  clear hA hB
  go_enter Try.func21, Try.ntmps21
  go_wp2_with fail
  go_loopw [5] (fun i wr => ∃ j : Nat, j ≤ xs.length ∧ j ≤ ys.length ∧ i = .int .i64 j ∧ Hid (apart xs ys = apart (xs.drop j) (ys.drop j)) ∧ Below w.heap.size w wr) (fun i _ => xs.length - (intOf i).toNat)
  case atStart => exact ⟨0, by omega, by omega, rfl, by simp [Hid], Below.refl _ _⟩
  case round =>
    obtain ⟨j, hj, hj', rfl, hq, hbl⟩ := hrel
    have hbs := hbl.size
    by_cases hlt : j < xs.length
    · by_cases hlt' : j < ys.length
      · obtain ⟨b, o, rfl, _, hb1, hc⟩ := isl_at (HA.out.below hbl) hlt
        obtain ⟨b', o', rfl, _, hb2, hc'⟩ := isl_at (HB.out.below hbl) hlt'
        have hq1 := hq.out
        rw [List.drop_eq_getElem_cons hlt, List.drop_eq_getElem_cons hlt', apart_cons] at hq1
        have HQ := Lib.hid hq1
        clear hq hq1
        generalize xs[j] = x at hc HQ
        generalize ys[j] = y at hc' HQ
        have hu0 : ∀ u : After wr.heap.size wr, u.world.cell? ⟨b, o + j, none⟩ = some (.int .i64 x) := fun u => u.cell (by simp; omega) hc
        have hu1 : ∀ u : After wr.heap.size wr, u.world.cell? ⟨b', o' + j, none⟩ = some (.int .i64 y) := fun u => u.cell (by simp; omega) hc'
        have g1 : (0 : Int) ≤ (j : Int) := by omega
        have g2 : (j : Int) < (xs.length : Int) := by omega
        have g3 : (j : Int) < (ys.length : Int) := by omega
        have HBL := Lib.hid hbl
        clear hbl
        go_wp2_with fail
        refine wp_region_after wr.heap.size (by kernel_rfl) (by kernel_rfl) ?_
        repeat (go_big_quiet_step (fail))
        refine wpQuiet_nil ?_
        rintro u ⟨⟨_, hu⟩, rfl⟩
        clear hu0 hu1 hc hc'
        have HB2 := Lib.hid (HBL.out.trans (hu.mono hbs))
        clear hu
        by_cases hxy : x = y
        · subst hxy
          have ex : (x != x) = false := by simp
          have HQ2 : Hid (apart xs ys = apart (xs.drop (j + 1)) (ys.drop (j + 1))) := by rw [Hid, HQ.out, ex]; rfl
          go_wp2_with fail
          go_roundw
          case rel => exact ⟨j + 1, by omega, by omega, by go_num, HQ2, HB2.out⟩
          case measure => simp [intOf]; omega
        · have ex : (x != y) = true := by simpa using hxy
          have HE : Hid (apart xs ys = true) := by rw [Hid, HQ.out, ex]; rfl
          go_wp2_with fail
          go_ret
          exact ⟨by rw [HE.out]; rfl, HB2.out⟩
      · have HE : Hid (apart xs ys = false) := by rw [Hid, hq.out, List.drop_eq_nil_of_le (show ys.length ≤ j by omega), apart_nil_right]
        clear hq
        go_wp2_with fail
        go_ret
        exact ⟨by rw [HE.out]; rfl, hbl⟩
    · have HE : Hid (apart xs ys = false) := by rw [Hid, hq.out, List.drop_eq_nil_of_le (show xs.length ≤ j by omega), apart_nil_left]
      clear hq
      go_wp2_with fail
      go_ret
      exact ⟨by rw [HE.out]; rfl, hbl⟩
end Go.Proofs.Ytebalmemncldlaa
