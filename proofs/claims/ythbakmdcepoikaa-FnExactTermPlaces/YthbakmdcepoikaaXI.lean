/- markIntS, heldIntS. -/
import Derived.Test.YthbakmdcepoikaaXIe
import Derived.Laws.OwnMore
namespace Go.Proofs.Ythbakmdcepoikaa
open Go.RowKit Go.Deep

/-- n numbers from m on. -/
def ups (m : Int) (n : Nat) : List Int := (List.range n).map (fun (i : Nat) => m + i)
theorem ups_len (m : Int) (n : Nat) : (ups m n).length = n := by simp [ups]
theorem ups_at {m : Int} {n i : Nat} (h : i < n) : (ups m n)[i]? = some (m + i) := by simp [ups, h]

def MiPost (base : Nat) (xs : List Int) (A : Option Addr) (C : Nat) (m : Int) (w : World) (e : Ending) (w' : World) : Prop :=
  e = .returned (.int .i64 (m + xs.length)) ∧ w'.ownsRow base 3 1 (.slice A xs.length C) xs.length ((ups m xs.length).map (Value.int .i64)) ∧ w.grownBy w' (Value.slice A xs.length C).ownBlock

theorem grown_refl (w : World) (row : Option Nat) : w.grownBy w row := ⟨rfl, rfl, rfl, Nat.le_refl _, fun _ _ _ => rfl⟩
theorem grown_trans {w w' w2 : World} {row : Option Nat} (h : w.grownBy w' row) (h' : w'.grownBy w2 row) : w.grownBy w2 row :=
  ⟨h'.os.trans h.os, h'.tape.trans h.tape, h'.output.trans h.output, Nat.le_trans h.size h'.size, fun k hk hne => (h'.block k (Nat.lt_of_lt_of_le hk h.size) hne).trans (h.block k hk hne)⟩

set_option maxRecDepth 100000 in
set_option maxHeartbeats 1000000 in
theorem markIntS_any (base : Nat) (xs : List Int) (A : Option Addr) (C : Nat) (m : Int) (w : World) (h : IOwn w base xs A C) (hl : xs.length ≤ 1048576) (hm0 : 0 ≤ m) (hm1 : m ≤ 10000000) :
    Calls Try.prog 30 #[.slice A xs.length C, .int .i64 m] w (MiPost base xs A C m w) := by
  have H := Lib.hid h
  clear h
  go_enter Try.func30, Try.ntmps30
  go_wp2_with fail
  go_loopw [1, 5] (fun t i wr => ∃ (j : Nat) (ys : List Int), j ≤ xs.length ∧ i = .int .i64 j ∧ t = .int .i64 (m + j) ∧ Hid (ys.length = xs.length ∧ ∀ q, q < j → ys[q]? = some (m + q)) ∧ Hid (wr.ownsRow base 3 1 (.slice A xs.length C) xs.length (ys.map (Value.int .i64))) ∧ Hid (w.grownBy wr (Value.slice A xs.length C).ownBlock)) (fun _ i _ => xs.length - (intOf i).toNat)
  case atStart => exact ⟨0, xs, by omega, rfl, by simp, ⟨rfl, fun q hq => by omega⟩, H.out, grown_refl _ _⟩
  case round =>
    obtain ⟨j, ys, hj, rfl, rfl, hys, hown, hgr⟩ := hrel
    by_cases hlt : j < xs.length
    · obtain ⟨g, cap, hv, hbg, hgl⟩ := hown.out.form (by omega)
      simp only [Value.slice.injEq] at hv
      obtain ⟨rfl, _, rfl⟩ := hv
      have hc : ∃ u, wr.cell? ⟨g, j, none⟩ = some u := by
        rw [hown.out.cellAt j (by omega)]
        exact ⟨_, List.getElem?_eq_getElem (by simp [hys.out.1, hlt])⟩
      obtain ⟨u, hc⟩ := hc
      have hf := hown.out.frozenAt j
      obtain ⟨hst, hgr2⟩ := hown.out.stored j (.int .i64 (m + j))
      have HST : Hid ((wr.setCell ⟨g, j, none⟩ (.int .i64 (m + j))).ownsRow base 3 1 (.slice (some ⟨g, 0, none⟩) xs.length C) xs.length ((ys.set j (m + j)).map (Value.int .i64))) := by
        rw [List.map_set]; exact hst
      have HGR : Hid (w.grownBy (wr.setCell ⟨g, j, none⟩ (.int .i64 (m + j))) (Value.slice (some ⟨g, 0, none⟩) xs.length C).ownBlock) := grown_trans hgr.out hgr2
      have HYS : Hid ((ys.set j (m + j)).length = xs.length ∧ ∀ q, q < j + 1 → (ys.set j (m + j))[q]? = some (m + q)) := by
        refine ⟨by rw [List.length_set]; exact hys.out.1, fun q hq => ?_⟩
        by_cases e : q = j
        · subst e
          rw [List.getElem?_set_self (by rw [hys.out.1]; exact hlt)]
        · rw [List.getElem?_set_ne (fun h => e h.symm)]
          exact hys.out.2 q (by omega)
      have g1 : (0 : Int) ≤ (j : Int) := by omega
      have g2 : (j : Int) < (xs.length : Int) := by omega
      clear hst hgr2 hys hown hgr
      go_wp2_with fail
      go_roundw
      case rel => exact ⟨j + 1, _, by omega, by go_num, by simp only [Value.int.injEq, true_and]; push_cast; omega, HYS, HST, HGR⟩
      case measure => simp [intOf]; omega
    · have hje : j = xs.length := by omega
      subst hje
      have HE : Hid (ys = ups m xs.length) := by
        refine List.ext_getElem? fun q => ?_
        by_cases hq : q < xs.length
        · rw [hys.out.2 q hq, ups_at hq]
        · rw [List.getElem?_eq_none (by rw [hys.out.1]; omega), List.getElem?_eq_none (by rw [ups_len]; omega)]
      clear hys
      go_wp2_with fail
      go_ret
      exact ⟨rfl, by rw [← HE.out]; exact hown.out, hgr.out⟩

set_option maxRecDepth 100000 in
set_option maxHeartbeats 1000000 in
theorem heldIntS_any (n : Nat) (A : Option Addr) (C : Nat) (m : Int) (w : World) (h : ISl w 0 w.heap.size A (ups m n)) (hl : n ≤ 1048576) (hm0 : 0 ≤ m) (hm1 : m ≤ 10000000) :
    Calls Try.prog 31 #[.slice A n C, .int .i64 m] w fun e w' => e = .returned (.int .i64 (m + n)) ∧ Below w.heap.size w w' := by
  have H := Lib.hid h
  clear h
  go_enter Try.func31, Try.ntmps31
  go_wp2_with fail
  go_loopw [1, 5] (fun t i wr => ∃ j : Nat, j ≤ n ∧ i = .int .i64 j ∧ t = .int .i64 (m + j) ∧ Below w.heap.size w wr) (fun _ i _ => n - (intOf i).toNat)
  case atStart => exact ⟨0, by omega, rfl, by simp, Below.refl _ _⟩
  case round =>
    obtain ⟨j, hj, rfl, rfl, hbl⟩ := hrel
    by_cases hlt : j < n
    · obtain ⟨b, o, rfl, _, hb1, hc⟩ := isl_at (H.out.below hbl) (show j < (ups m n).length by rw [ups_len]; exact hlt)
      have he : (ups m n)[j]'(by rw [ups_len]; exact hlt) = m + j := by
        have := ups_at (m := m) hlt
        rw [List.getElem?_eq_getElem (by rw [ups_len]; exact hlt)] at this
        exact Option.some.inj this
      rw [he] at hc
      have ex : ((m + (j : Int)) != (m + (j : Int))) = false := by simp
      have g1 : (0 : Int) ≤ (j : Int) := by omega
      have g2 : (j : Int) < (n : Int) := by omega
      clear he
      go_wp2_with fail
      go_roundw
      case rel => exact ⟨j + 1, by omega, by go_num, by simp only [Value.int.injEq, true_and]; push_cast; omega, hbl⟩
      case measure => simp [intOf]; omega
    · have hje : j = n := by omega
      subst hje
      go_wp2_with fail
      go_ret
      exact ⟨rfl, hbl⟩
end Go.Proofs.Ythbakmdcepoikaa
