/- eqIntS on equal rows. -/
import Derived.Test.YthbakmdcepoikaaIS
import Derived.Test.YthbakmdcepoikaaKit
namespace Go.Proofs.Ythbakmdcepoikaa
open Go.RowKit Go.Deep

set_option maxRecDepth 100000 in
set_option maxHeartbeats 1000000 in
theorem eqIntS_same (xs : List Int) (A B : Option Addr) (ca cb m n : Nat) (w : World) (hA : ISl w 0 w.heap.size A xs) (hB : ISl w 0 w.heap.size B xs) (hm : m = xs.length) (hn : n = xs.length) (hx : xs.length ≤ 1048576) :
    Calls Try.prog 28 #[.slice A m ca, .slice B n cb] w fun e w' => e = .returned (.bool true) ∧ Below w.heap.size w w' := by
  subst hm
  subst hn
  have HA := Lib.hid hA
  have HB := Lib.hid hB
  clear hA hB
  go_enter Try.func28, Try.ntmps28
  go_wp2_with fail
  go_loopw [5] (fun i wr => ∃ j : Nat, j ≤ xs.length ∧ i = .int .i64 j ∧ Below w.heap.size w wr) (fun i _ => xs.length - (intOf i).toNat)
  case atStart => exact ⟨0, by omega, rfl, Below.refl _ _⟩
  case round =>
    obtain ⟨j, hj, rfl, hbl⟩ := hrel
    have hbs := hbl.size
    by_cases hlt : j < xs.length
    · obtain ⟨b, o, rfl, _, hb1, hc⟩ := isl_at (HA.out.below hbl) hlt
      obtain ⟨b', o', rfl, _, hb2, hc'⟩ := isl_at (HB.out.below hbl) hlt
      generalize xs[j] = x at hc hc'
      have hu0 : ∀ u : After wr.heap.size wr, u.world.cell? ⟨b, o + j, none⟩ = some (.int .i64 x) := fun u => u.cell (by simp; omega) hc
      have hu1 : ∀ u : After wr.heap.size wr, u.world.cell? ⟨b', o' + j, none⟩ = some (.int .i64 x) := fun u => u.cell (by simp; omega) hc'
      have g1 : (0 : Int) ≤ (j : Int) := by omega
      have g2 : (j : Int) < (xs.length : Int) := by omega
      have HBL := Lib.hid hbl
      clear hbl
      go_wp2_with fail
      refine wp_region_after wr.heap.size (by kernel_rfl) (by kernel_rfl) ?_
      repeat (go_big_quiet_step (fail))
      refine wpQuiet_nil ?_
      rintro u ⟨⟨_, hu⟩, rfl⟩
      clear hu0 hu1 hc hc'
      have HB2 := Lib.hid (HBL.out.trans (hu.mono hbs))
      clear hu
      have ex : (x != x) = false := by simp
      go_wp2_with fail
      go_roundw
      case rel => exact ⟨j + 1, by omega, by go_num, HB2.out⟩
      case measure => simp [intOf]; omega
    · go_wp2_with fail
      go_ret
      exact ⟨rfl, hbl⟩
end Go.Proofs.Ythbakmdcepoikaa
