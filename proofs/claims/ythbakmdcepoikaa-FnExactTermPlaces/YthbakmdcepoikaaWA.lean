/- The small functions: l6In, l1Kids, arityOf. No condition. -/
import Derived.Test.YthbakmdcepoikaaRows
import Derived.Test.YthbakmdcepoikaaBase
import Derived.WalkKit
import Derived.WalkSpells
import Derived.WalkLawsBesides
import Derived.Lib.Hide
import Derived.BigQuiet
namespace Go.Proofs.Ythbakmdcepoikaa
open Go.RowKit Go.Deep

set_option maxHeartbeats 400000 in
theorem l6In_any (n lo hi : Int) (w : World) :
    Calls Try.prog 45 #[.int .i64 n, .int .i64 lo, .int .i64 hi] w fun e w' => e = .returned (.bool (decide (lo ≤ n ∧ n ≤ hi))) ∧ w = w' := by
  by_cases h1 : lo ≤ n
  · by_cases h2 : n ≤ hi
    · go_enter Try.func45, Try.ntmps45
      go_wp2
      go_ret
      exact ⟨by simp [h1, h2], rfl⟩
    · go_enter Try.func45, Try.ntmps45
      go_wp2
      go_ret
      exact ⟨by simp; omega, rfl⟩
  · go_enter Try.func45, Try.ntmps45
    go_wp2
    go_ret
    exact ⟨by simp; omega, rfl⟩

theorem l6In_is {n lo hi : Int} {b : Bool} {w : World} (h : decide (lo ≤ n ∧ n ≤ hi) = b) :
    Calls Try.prog 45 #[.int .i64 n, .int .i64 lo, .int .i64 hi] w fun e w' => e = .returned (.bool b) ∧ w = w' := by
  rw [← h]; exact l6In_any n lo hi w

set_option maxHeartbeats 400000 in
theorem arityOf_any (s : Int) (w : World) (hs : s ≠ 0) :
    Calls Try.prog 43 #[.int .i64 s] w fun e w' => e = .returned (.int .i64 (ar s)) ∧ w = w' := by
  by_cases h1 : s = 1
  · subst h1
    go_enter Try.func43, Try.ntmps43
    go_wp2
    go_ret
    exact ⟨by simp [ar], rfl⟩
  by_cases h2 : s = 2
  · subst h2
    go_enter Try.func43, Try.ntmps43
    go_wp2
    go_ret
    exact ⟨by simp [ar], rfl⟩
  by_cases h3 : s = 3
  · subst h3
    go_enter Try.func43, Try.ntmps43
    go_wp2
    go_ret
    exact ⟨by simp [ar], rfl⟩
  by_cases h4 : s = 4
  · subst h4
    go_enter Try.func43, Try.ntmps43
    go_wp2
    go_ret
    exact ⟨by simp [ar], rfl⟩
  have e1 : (s == 1) = false := by simp [h1]
  have e2 : (s == 2) = false := by simp [h2]
  have e3 : (s == 3) = false := by simp [h3]
  have e4 : (s == 4) = false := by simp [h4]
  have ea : Hid (ar s = -1) := by simp [Hid, ar, h1, h2, h3, h4, hs]
  go_enter Try.func43, Try.ntmps43
  go_wp2
  go_ret
  exact ⟨by rw [ea.out]; rfl, rfl⟩

set_option maxHeartbeats 400000 in
theorem l1Kids_any (s : Int) (w : World) :
    Calls Try.prog 44 #[.int .i64 s] w fun e w' => e = .returned (.int .i64 (ar s)) ∧ Below w.heap.size w w' := by
  by_cases h : 0 ≤ s ∧ s ≤ 4
  · have : s = 0 ∨ s = 1 ∨ s = 2 ∨ s = 3 ∨ s = 4 := by omega
    have ht : decide (0 ≤ s ∧ s ≤ 4) = true := by simpa using h
    clear h
    rcases this with rfl | rfl | rfl | rfl | rfl
    all_goals
      go_enter Try.func44, Try.ntmps44
      go_wp2_with (go_at_call 45; refine (l6In_any _ _ _ _).mono ?_; rintro e w' ⟨rfl, rfl⟩)
      go_ret
      exact ⟨by simp [ar], (Below.refl _ _).alloc (Nat.le_refl _) _⟩
  · have ht : decide (0 ≤ s ∧ s ≤ 4) = false := by simpa using h
    have ea : Hid (ar s = -1) := by
      unfold Hid ar
      rw [if_neg (by omega), if_neg (by omega), if_neg (by omega)]
    clear h
    go_enter Try.func44, Try.ntmps44
    go_wp2_with (go_at_call 45; refine (l6In_any _ _ _ _).mono ?_; rintro e w' ⟨rfl, rfl⟩)
    go_ret
    exact ⟨by rw [ea.out]; rfl, Below.refl _ _⟩

end Go.Proofs.Ythbakmdcepoikaa
