/- laRows: what is the same comes out the same. -/
import Derived.Test.YtebalmemncldlabP5a
namespace Go.Proofs.Ytebalmemncldlab
open Go.RowKit Go.Deep

set_option maxRecDepth 100000 in
set_option maxHeartbeats 1000000 in
theorem laRows_same (rows : List (List Int)) (A B : Option Addr) (ca cb m n : Nat) (w : World) (hA : RSl w 0 w.heap.size A rows) (hB : RSl w 0 w.heap.size B rows) (hm : m = rows.length) (hn : n = rows.length) (hx : rows.length ≤ 2000) (hdeep : ∀ r ∈ rows, r.length ≤ 2000) :
    Calls Try.prog 16 #[.slice A m ca, .slice B n cb] w fun e w' => e = .returned (.bool true) ∧ Below w.heap.size w w' := by
  subst hm
  subst hn
  have HA := Lib.hid hA
  have HB := Lib.hid hB
  have HD := Lib.hid hdeep
  clear hA hB hdeep
  go_enter Try.func16, Try.ntmps16
  go_wp2_with fail
  go_loopw [5] (fun i wr => ∃ j : Nat, j ≤ rows.length ∧ i = .int .i64 j ∧ Below w.heap.size w wr) (fun i _ => rows.length - (intOf i).toNat)
  case atStart => exact ⟨0, by omega, rfl, Below.refl _ _⟩
  case round =>
    obtain ⟨j, hj, rfl, hbl⟩ := hrel
    have hbs := hbl.size
    by_cases hlt : j < rows.length
    · obtain ⟨b, o, a1, c1, r, rfl, _, _, hr, hc, hi1⟩ := rsl_at (HA.out.below hbl) hlt
      obtain ⟨b', o', a2, c2, r', rfl, _, _, hr', hc', hi2⟩ := rsl_at (HB.out.below hbl) hlt
      have e1 : r' = r := by rw [hr] at hr'; exact (Option.some.inj hr').symm
      subst e1
      have hrl : r'.length ≤ 2000 := HD.out r' (List.mem_of_getElem? hr)
      have HI1 := Lib.hid hi1
      have HI2 := Lib.hid hi2
      have hu0 : ∀ u : After wr.heap.size wr, u.world.cell? ⟨b, o + j, none⟩ = some (.slice a1 r'.length c1) := fun u => u.cell (by simp; omega) hc
      have hu1 : ∀ u : After wr.heap.size wr, u.world.cell? ⟨b', o' + j, none⟩ = some (.slice a2 r'.length c2) := fun u => u.cell (by simp; omega) hc'
      have g1 : (0 : Int) ≤ (j : Int) := by omega
      have g2 : (j : Int) < (rows.length : Int) := by omega
      have HBL := Lib.hid hbl
      have HCALL : Hid (∀ u : After wr.heap.size wr, Calls Try.prog 21 #[.slice a1 r'.length c1, .slice a2 r'.length c2] u.world fun e w' => e = .returned (.bool true) ∧ Below u.world.heap.size u.world w') := fun u => by
        have hu := u.below
        have hus := hu.size
        refine laInts_same r' a1 a2 c1 c2 _ _ u.world ?_ ?_ rfl rfl hrl
        · exact (HI1.out.below (hu.mono (by omega))).mono (Nat.le_refl _) (by omega)
        · exact (HI2.out.below (hu.mono (by omega))).mono (Nat.le_refl _) (by omega)
      clear hi1 hi2 hr hr' hbl
      go_wp2_with fail
      refine wp_region_after wr.heap.size (by kernel_rfl) (by kernel_rfl) ?_
      repeat (go_big_quiet_step ((go_at_call 21; exact Calls.after (After.below ‹_›).size (HCALL.out _))))
      refine wpQuiet_nil ?_
      rintro u ⟨⟨_, hu⟩, rfl⟩
      clear hu0 hu1 hc hc'
      have HB2 := Lib.hid (HBL.out.trans (hu.mono hbs))
      clear hu
      go_wp2_with fail
      go_roundw
      case rel => exact ⟨j + 1, by omega, by go_num, HB2.out⟩
      case measure => simp [intOf]; omega
    · go_wp2_with fail
      go_ret
      exact ⟨rfl, hbl⟩
end Go.Proofs.Ytebalmemncldlab
