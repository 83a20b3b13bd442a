/- Several texts in one: XIe, XJ, FrameI. -/
import Derived.Test.YtbgjdkpdjclagabKOre6
import Derived.Test.YtbgjdkpdjclagabKOre1
import Derived.Deep.OwnRows
import Derived.Test.YtbgjdkpdjclagabKOre15
import Derived.WalkKit
import Derived.ProofKit
import Derived.OpenShut

/-! XIe: eqIntS on equal rows. -/
namespace Go.Proofs.Ytbgjdkpdjclagab
open Go.RowKit Go.Deep

set_option maxRecDepth 100000 in
set_option maxHeartbeats 1000000 in
theorem eqIntS_same (xs : List Int) (A B : Option Addr) (ca cb m n : Nat) (w : World) (hA : ISl w 0 w.heap.size A xs) (hB : ISl w 0 w.heap.size B xs) (hm : m = xs.length) (hn : n = xs.length) (hx : xs.length ≤ 1048576) :
    Calls Try.prog 15 #[.slice A m ca, .slice B n cb] w fun e w' => e = .returned (.bool true) ∧ Below w.heap.size w w' := by
  subst hm
  subst hn
  have HA := Lib.hid hA
  have HB := Lib.hid hB
  clear hA hB
  go_enter Try.func15, Try.ntmps15
  go_wp2_with fail
  go_loopw [5] (fun i wr => ∃ j : Nat, j ≤ xs.length ∧ i = .int .i64 j ∧ Below w.heap.size w wr) (fun i _ => xs.length - (intOf i).toNat)
  case atStart => exact ⟨0, by omega, rfl, Below.refl _ _⟩
  case round =>
    obtain ⟨j, hj, rfl, hbl⟩ := hrel
    have hbs := hbl.size
    by_cases hlt : j < xs.length
    · obtain ⟨b, o, rfl, _, hb1, hc⟩ := isl_at (HA.out.below hbl) hlt
      obtain ⟨b', o', rfl, _, hb2, hc'⟩ := isl_at (HB.out.below hbl) hlt
      generalize xs[j] = x at hc hc'
      have hu0 : ∀ u : After wr.heap.size wr, u.world.cell? ⟨b, o + j, none⟩ = some (.int .i64 x) := fun u => u.cell (by simp; omega) hc
      have hu1 : ∀ u : After wr.heap.size wr, u.world.cell? ⟨b', o' + j, none⟩ = some (.int .i64 x) := fun u => u.cell (by simp; omega) hc'
      have g1 : (0 : Int) ≤ (j : Int) := by omega
      have g2 : (j : Int) < (xs.length : Int) := by omega
      have HBL := Lib.hid hbl
      clear hbl
      go_wp2_with fail
      refine wp_region_after wr.heap.size (by kernel_rfl) (by kernel_rfl) ?_
      repeat (go_big_quiet_step (fail))
      refine wpQuiet_nil ?_
      rintro u ⟨⟨_, hu⟩, rfl⟩
      clear hu0 hu1 hc hc'
      have HB2 := Lib.hid (HBL.out.trans (hu.mono hbs))
      clear hu
      have ex : (x != x) = false := by simp
      go_wp2_with fail
      go_roundw
      case rel => exact ⟨j + 1, by omega, by go_num, HB2.out⟩
      case measure => simp [intOf]; omega
    · go_wp2_with fail
      go_ret
      exact ⟨rfl, hbl⟩
end Go.Proofs.Ytbgjdkpdjclagab

/-! XJ: toIntS: numbers copied. -/
namespace Go.Proofs.Ytbgjdkpdjclagab
open Go.RowKit Go.Deep

theorem make_ints (n : Nat) (hn : n ≤ 1048576) (w : World) :
    (Instr.makeSlice 23 (.int .i64 (n : Int)) (.int .i64 (n : Int))).run Try.prog w = .ok (.slice (some ⟨w.heap.size, 0, none⟩) n n) (w.alloc (.cells (madeCells #[.int .i64 0] n) 3)) := by
  obtain ⟨i, hi, hz, hs, hb⟩ := Try.infoI
  have := run_make (P := Try.prog) w 23 3 i _ Try.underlying23 hi hz .i64 .i64 (n : Int) (n : Int) (by omega) (by omega) (by rw [hb]; omega) (by omega)
  rw [hs] at this
  simpa [Value.cells] using this
theorem ints_made (w : World) (n : Nat) (hn : n ≤ 1048576) : (w.alloc (.cells (madeCells #[.int .i64 0] n) 3)).ownsRow w.heap.size 3 1 (.slice (some ⟨w.heap.size, 0, none⟩) n n) n ((List.replicate n 0).map (Value.int .i64)) := by
  refine ⟨by simp, .inr ⟨w.heap.size, n, madeCells #[.int .i64 0] n, rfl, Nat.le_refl _, heap_alloc_new _ _, Nat.le_refl _, by unfold maxLen; omega, by simp [size_madeCells], ?_⟩⟩
  rw [toList_madeCells_one, List.map_replicate, List.take_of_length_le (by simp)]

set_option maxRecDepth 100000 in
set_option maxHeartbeats 1000000 in
theorem toIntS_any (xs : List Int) (A : Option Addr) (C : Nat) (w : World) (h : ISl w 0 w.heap.size A xs) (hl : xs.length ≤ 1048576) :
    Calls Try.prog 13 #[.slice A xs.length C] w fun e w' => ∃ A' C', e = .returned (.slice A' xs.length C') ∧ IOwn w' w.heap.size xs A' C' ∧ Below w.heap.size w w' := by
  have H := Lib.hid h
  have hmk := make_ints xs.length hl
  have HST := Lib.hid (ints_made w xs.length hl)
  clear h
  go_enter Try.func13, Try.ntmps13
  go_wp2_with fail
  clear hmk
  go_loopw [4] (fun i wr => ∃ (j : Nat) (ys : List Int), j ≤ xs.length ∧ i = .int .i64 j ∧ Hid (ys.length = xs.length ∧ ∀ q, q < j → ys[q]? = xs[q]?) ∧ Hid (wr.ownsRow w.heap.size 3 1 (.slice (some ⟨w.heap.size, 0, none⟩) xs.length xs.length) xs.length (ys.map (Value.int .i64))) ∧ Below w.heap.size w wr) (fun i _ => xs.length - (intOf i).toNat)
  case atStart => exact ⟨0, List.replicate xs.length 0, by omega, rfl, ⟨by simp, fun q hq => by omega⟩, HST, (Below.refl _ _).alloc (Nat.le_refl _) _⟩
  case round =>
    clear HST
    obtain ⟨j, ys, hj, rfl, hys, hown, hbl⟩ := hrel
    by_cases hlt : j < xs.length
    · obtain ⟨b, o, rfl, _, hb1, hcx⟩ := isl_at (H.out.below hbl) hlt
      have HXJ : Hid (xs[j]? = some xs[j]) := List.getElem?_eq_getElem hlt
      generalize xs[j] = x at hcx HXJ
      have hc : ∃ u, wr.cell? ⟨w.heap.size, j, none⟩ = some u := by
        rw [hown.out.cellAt j (by omega)]
        exact ⟨_, List.getElem?_eq_getElem (by simp [hys.out.1, hlt])⟩
      obtain ⟨u, hc⟩ := hc
      have hf := hown.out.frozenAt j
      obtain ⟨hst, _⟩ := hown.out.stored j (.int .i64 x)
      have HST : Hid ((wr.setCell ⟨w.heap.size, j, none⟩ (.int .i64 x)).ownsRow w.heap.size 3 1 (.slice (some ⟨w.heap.size, 0, none⟩) xs.length xs.length) xs.length ((ys.set j x).map (Value.int .i64))) := by
        rw [List.map_set]; exact hst
      have HYS : Hid ((ys.set j x).length = xs.length ∧ ∀ q, q < j + 1 → (ys.set j x)[q]? = xs[q]?) := by
        refine ⟨by rw [List.length_set]; exact hys.out.1, fun q hq => ?_⟩
        by_cases e : q = j
        · subst e
          rw [List.getElem?_set_self (by rw [hys.out.1]; exact hlt), HXJ.out]
        · rw [List.getElem?_set_ne (fun h => e h.symm)]
          exact hys.out.2 q (by omega)
      have HBL : Hid (Below w.heap.size w (wr.setCell ⟨w.heap.size, j, none⟩ (.int .i64 x))) := hbl.setCell (by simp) _
      have g1 : (0 : Int) ≤ (j : Int) := by omega
      have g2 : (j : Int) < (xs.length : Int) := by omega
      clear hst hys hown hbl
      go_wp2_with fail
      go_roundw
      case rel => exact ⟨j + 1, _, by omega, by go_num, HYS, HST, HBL.out⟩
      case measure => simp [intOf]; omega
    · have hje : j = xs.length := by omega
      subst hje
      have HE : Hid (ys = xs) := by
        refine List.ext_getElem? fun q => ?_
        by_cases hq : q < xs.length
        · exact hys.out.2 q hq
        · rw [List.getElem?_eq_none (by rw [hys.out.1]; omega), List.getElem?_eq_none (by omega)]
      clear hys
      go_wp2_with fail
      go_ret
      exact ⟨_, _, rfl, by have h := hown.out; rw [HE.out] at h; exact h, hbl⟩
end Go.Proofs.Ytbgjdkpdjclagab

/-! FrameI: A slice of numbers that came in, as the walks take it. -/
namespace Go.Proofs.Ytbgjdkpdjclagab
open Go.ChangeShapes Go.WideShapes Go.ChangeAt Go.RowKit

/-- Out of the reading of an argument. -/
theorem ints_of_trod {H : Type} {enc : TypeId × Value → H} {W : World} {a : Option Addr} {len cap : Nat} {d : DataW H} {p : List MemPlace} (h : DataW.Trod enc Try.prog W 0 (fun _ => true) true 23 (.slice a len cap) d p) : ∃ xs : List Int, len = xs.length ∧ ISl W 0 W.heap.size a xs ∧ xs.length ≤ maxLen := by
  obtain ⟨fuel, hf⟩ := h
  rcases open_ints Try.underlying23 Try.underlying3 (by kernel_rfl) hf with ⟨hcs, _⟩ | ⟨x, l, c, zs, hcs, _, hl, hm, hz, _, hcell, _⟩
  · simp [Value.cells] at hcs
    obtain ⟨rfl, rfl, rfl⟩ := hcs
    exact ⟨[], rfl, .inl rfl, Nat.zero_le _⟩
  · simp [Value.cells] at hcs
    obtain ⟨rfl, rfl, rfl⟩ := hcs
    have hz' : zs.length = cap := by simpa using hz
    have hl' : (zs.take len).length = len := by rw [List.length_take]; omega
    refine ⟨zs.take len, hl'.symm, ?_, by rw [hl']; omega⟩
    by_cases h0 : len = 0
    · subst h0; exact .inl (by simp)
    · obtain ⟨b, o, spot⟩ := x
      have c0 := hcell 0 (by omega)
      have hs : spot = none := by simpa [Addr.add] using World.cell?_spot c0
      subst hs
      have ha : ∀ n, (⟨b, o, none⟩ : Addr).add n = ⟨b, o + n, none⟩ := fun n => by unfold Addr.add; split <;> simp_all
      rw [ha] at c0
      refine .inr ⟨b, o, rfl, Nat.zero_le _, World.block_lt_of_cell? _ _ c0, fun i x hx => ?_⟩
      rw [List.getElem?_take] at hx
      split at hx
      · have ci := hcell i (by omega)
        rw [ha] at ci
        rw [ci, List.getD_eq_getElem?_getD, hx]
        rfl
      · cases hx
end Go.Proofs.Ytbgjdkpdjclagab
