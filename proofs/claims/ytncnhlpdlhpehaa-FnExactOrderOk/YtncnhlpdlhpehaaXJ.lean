/- toIntS: numbers copied. -/
import Derived.Test.YtncnhlpdlhpehaaIS
import Derived.Deep.OwnRows
namespace Go.Proofs.Ytncnhlpdlhpehaa
open Go.RowKit Go.Deep

theorem make_ints (n : Nat) (hn : n ≤ 1048576) (w : World) :
    (Instr.makeSlice 22 (.int .i64 (n : Int)) (.int .i64 (n : Int))).run Try.prog w = .ok (.slice (some ⟨w.heap.size, 0, none⟩) n n) (w.alloc (.cells (madeCells #[.int .i64 0] n) 3)) := by
  obtain ⟨i, hi, hz, hs, hb⟩ := Try.infoI
  have := run_make (P := Try.prog) w 22 3 i _ Try.underlying22 hi hz .i64 .i64 (n : Int) (n : Int) (by omega) (by omega) (by rw [hb]; omega) (by omega)
  rw [hs] at this
  simpa [Value.cells] using this
theorem ints_made (w : World) (n : Nat) (hn : n ≤ 1048576) : (w.alloc (.cells (madeCells #[.int .i64 0] n) 3)).ownsRow w.heap.size 3 1 (.slice (some ⟨w.heap.size, 0, none⟩) n n) n ((List.replicate n 0).map (Value.int .i64)) := by
  refine ⟨by simp, .inr ⟨w.heap.size, n, madeCells #[.int .i64 0] n, rfl, Nat.le_refl _, heap_alloc_new _ _, Nat.le_refl _, by unfold maxLen; omega, by simp [size_madeCells], ?_⟩⟩
  rw [toList_madeCells_one, List.map_replicate, List.take_of_length_le (by simp)]

set_option maxRecDepth 100000 in
set_option maxHeartbeats 1000000 in
theorem toIntS_any (xs : List Int) (A : Option Addr) (C : Nat) (w : World) (h : ISl w 0 w.heap.size A xs) (hl : xs.length ≤ 1048576) :
    Calls Try.prog 15 #[.slice A xs.length C] w fun e w' => ∃ A' C', e = .returned (.slice A' xs.length C') ∧ IOwn w' w.heap.size xs A' C' ∧ Below w.heap.size w w' := by
  have H := Lib.hid h
  have hmk := make_ints xs.length hl
  have HST := Lib.hid (ints_made w xs.length hl)
  clear h
  go_enter Try.func15, Try.ntmps15
  go_wp2_with fail
  clear hmk
  go_loopw [4] (fun i wr => ∃ (j : Nat) (ys : List Int), j ≤ xs.length ∧ i = .int .i64 j ∧ Hid (ys.length = xs.length ∧ ∀ q, q < j → ys[q]? = xs[q]?) ∧ Hid (wr.ownsRow w.heap.size 3 1 (.slice (some ⟨w.heap.size, 0, none⟩) xs.length xs.length) xs.length (ys.map (Value.int .i64))) ∧ Below w.heap.size w wr) (fun i _ => xs.length - (intOf i).toNat)
  case atStart => exact ⟨0, List.replicate xs.length 0, by omega, rfl, ⟨by simp, fun q hq => by omega⟩, HST, (Below.refl _ _).alloc (Nat.le_refl _) _⟩
  case round =>
    clear HST
    obtain ⟨j, ys, hj, rfl, hys, hown, hbl⟩ := hrel
    by_cases hlt : j < xs.length
    · obtain ⟨b, o, rfl, _, hb1, hcx⟩ := isl_at (H.out.below hbl) hlt
      have HXJ : Hid (xs[j]? = some xs[j]) := List.getElem?_eq_getElem hlt
      generalize xs[j] = x at hcx HXJ
      have hc : ∃ u, wr.cell? ⟨w.heap.size, j, none⟩ = some u := by
        rw [hown.out.cellAt j (by omega)]
        exact ⟨_, List.getElem?_eq_getElem (by simp [hys.out.1, hlt])⟩
      obtain ⟨u, hc⟩ := hc
      have hf := hown.out.frozenAt j
      obtain ⟨hst, _⟩ := hown.out.stored j (.int .i64 x)
      have HST : Hid ((wr.setCell ⟨w.heap.size, j, none⟩ (.int .i64 x)).ownsRow w.heap.size 3 1 (.slice (some ⟨w.heap.size, 0, none⟩) xs.length xs.length) xs.length ((ys.set j x).map (Value.int .i64))) := by
        rw [List.map_set]; exact hst
      have HYS : Hid ((ys.set j x).length = xs.length ∧ ∀ q, q < j + 1 → (ys.set j x)[q]? = xs[q]?) := by
        refine ⟨by rw [List.length_set]; exact hys.out.1, fun q hq => ?_⟩
        by_cases e : q = j
        · subst e
          rw [List.getElem?_set_self (by rw [hys.out.1]; exact hlt), HXJ.out]
        · rw [List.getElem?_set_ne (fun h => e h.symm)]
          exact hys.out.2 q (by omega)
      have HBL : Hid (Below w.heap.size w (wr.setCell ⟨w.heap.size, j, none⟩ (.int .i64 x))) := hbl.setCell (by simp) _
      have g1 : (0 : Int) ≤ (j : Int) := by omega
      have g2 : (j : Int) < (xs.length : Int) := by omega
      clear hst hys hown hbl
      go_wp2_with fail
      go_roundw
      case rel => exact ⟨j + 1, _, by omega, by go_num, HYS, HST, HBL.out⟩
      case measure => simp [intOf]; omega
    · have hje : j = xs.length := by omega
      subst hje
      have HE : Hid (ys = xs) := by
        refine List.ext_getElem? fun q => ?_
        by_cases hq : q < xs.length
        · exact hys.out.2 q hq
        · rw [List.getElem?_eq_none (by rw [hys.out.1]; omega), List.getElem?_eq_none (by omega)]
      clear hys
      go_wp2_with fail
      go_ret
      exact ⟨_, _, rfl, by have h := hown.out; rw [HE.out] at h; exact h, hbl⟩
end Go.Proofs.Ytncnhlpdlhpehaa
