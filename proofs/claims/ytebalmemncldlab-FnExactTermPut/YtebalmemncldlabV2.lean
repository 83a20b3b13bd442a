/- l1Has: whether a variable is in a term. -/
import Derived.Test.YtebalmemncldlabV0
namespace Go.Proofs.Ytebalmemncldlab
open Go.RowKit Go.Deep

theorem one_box {w wr : World} {x y z : Value} (h : Below (w.heap.size + 1) (w.alloc (.cells #[x, y, z] 25)) wr) : wr.cell? ⟨w.heap.size, 2, none⟩ = some z := by
  rw [h.cell (by simp), World.cell?_alloc_at _ _ _ _ (by simp)]; rfl

theorem fvl_drop {x : Int} {j : Nat} {k : Fo} {a b : Nat} {s v : Int} {kk r : Fo} (h : fdrop j k = .node a b (s, v) kk r) : x ∈ fvl (fdrop j k) ↔ x ∈ fvs s v kk ∨ x ∈ fvl r := by
  rw [h]
  simp only [fvl, fvs, List.mem_append]

set_option maxRecDepth 100000 in
set_option maxHeartbeats 1000000 in
theorem l1Has_any (N : Nat) : ∀ (s v : Int) (a : Option Addr) (c : Nat) (k : Fo) (x : Int) (w : World), Sl w 0 w.heap.size a k → fsz k ≤ N → N ≤ 1000000 →
    Calls Try.prog 59 #[.agg #[.int .i64 s, .int .i64 v, .slice a (flen k) c], .int .i64 x] w fun e w' => e = .returned (.bool (decide (x ∈ fvs s v k))) ∧ Below w.heap.size w w' := by
  induction N using Nat.strongRecOn with
  | _ N ih =>
    intro s v a c k x w hl hN hN2
    have hfl := flen_le_sz k
    have IH := Lib.hid ih
    clear ih
    by_cases hs : s = 0
    · subst hs
      have HE : Hid ((v == x) = decide (x ∈ fvs 0 v k)) := by
        unfold Hid
        by_cases h : v = x
        · subst h; simp [fvs]
        · have : x ≠ v := fun e => h e.symm
          simp [fvs, h, this]
      go_enter Try.func59, Try.ntmps59
      go_wp2_with fail
      go_ret
      exact ⟨by rw [← HE.out]; rfl, (Below.refl _ _).alloc (Nat.le_refl _) _⟩
    · have gs : (s == 0) = false := by simpa using hs
      have hb0 : Below w.heap.size w (w.alloc (.cells #[.int .i64 s, .int .i64 v, .slice a (flen k) c] 25)) := (Below.refl _ _).alloc (Nat.le_refl _) _
      have HB0 := Lib.hid hb0
      have HV : Hid (fvs s v k = fvl k) := by unfold Hid fvs; rw [if_neg hs]
      clear hb0
      go_enter Try.func59, Try.ntmps59
      go_wp2_with fail
      go_loopw [5] (fun i wr => ∃ j : Nat, j ≤ flen k ∧ i = .int .i64 j ∧ Hid (x ∈ fvl k ↔ x ∈ fvl (fdrop j k)) ∧ Below (w.heap.size + 1) (w.alloc (.cells #[.int .i64 s, .int .i64 v, .slice a (flen k) c] 25)) wr) (fun i _ => flen k - (intOf i).toNat)
      case atStart => exact ⟨0, by omega, rfl, Iff.rfl, Below.refl _ _⟩
      case round =>
        obtain ⟨j, hj, rfl, hq, hbl⟩ := hrel
        have hsr := hbl.size
        simp at hsr
        have hx2 := one_box hbl
        have hbw := HB0.out.trans (hbl.mono (show w.heap.size ≤ w.heap.size + 1 by omega))
        by_cases hlt : j < flen k
        · rcases hl with rfl | ⟨b, o, rfl, hrow⟩
          · simp [flen] at hlt
          obtain ⟨s1, v1, kk, a1, c1, ⟨x1, y1, hd⟩, _, hbB, hk0, hk1, hk2, hsl⟩ := row_at (hrow.below hbw) hlt
          have hkN := fsz_kid hd
          have HQ : Hid (x ∈ fvl k ↔ x ∈ fvs s1 v1 kk ∨ x ∈ fvl (fdrop (j + 1) k)) := hq.out.trans (fvl_drop hd)
          have HS := Lib.hid hsl
          have HBL := Lib.hid hbl
          clear hd hsl hrow hbl hbw hq
          have g1 : (0 : Int) ≤ (j : Int) := by omega
          have g2 : (j : Int) < (flen k : Int) := by omega
          have HS1 := Lib.hid (HS.out.mono (lo' := 0) (Nat.le_refl _) (show w.heap.size ≤ wr.heap.size by omega))
          cases hin : decide (x ∈ fvs s1 v1 kk) with
          | true =>
            have HE : Hid (decide (x ∈ fvs s v k) = true) := by
              unfold Hid
              rw [HV.out]
              exact decide_eq_true (HQ.out.2 (.inl (of_decide_eq_true hin)))
            have HIN := Lib.hid hin
            clear hin
            go_wp2_with fail
            with_reducible refine (IH.out (fsz kk) (by omega) s1 v1 a1 c1 kk x _ HS1.out (Nat.le_refl _) (by omega)).mono ?_
            rw [HIN.out]
            rintro e u ⟨rfl, hu⟩
            clear hk0 hk1 hk2 hx2
            have HB2 := Lib.hid (HBL.out.trans (hu.mono hsr))
            clear hu
            go_wp2_with fail
            go_ret
            exact ⟨by rw [HE.out]; rfl, HB0.out.trans (HB2.out.mono (by omega))⟩
          | false =>
            have HE : Hid (x ∈ fvl k ↔ x ∈ fvl (fdrop (j + 1) k)) := by
              have := of_decide_eq_false hin
              unfold Hid
              rw [HQ.out]
              simp [this]
            have HIN := Lib.hid hin
            clear hin
            go_wp2_with fail
            with_reducible refine (IH.out (fsz kk) (by omega) s1 v1 a1 c1 kk x _ HS1.out (Nat.le_refl _) (by omega)).mono ?_
            rw [HIN.out]
            rintro e u ⟨rfl, hu⟩
            clear hk0 hk1 hk2 hx2
            have HB2 := Lib.hid (HBL.out.trans (hu.mono hsr))
            clear hu
            go_wp2_with fail
            go_roundw
            case rel => exact ⟨j + 1, by omega, by go_num, HE, HB2.out⟩
            case measure => simp [intOf]; omega
        · have HE : Hid (decide (x ∈ fvs s v k) = false) := by
            unfold Hid
            rw [HV.out]
            refine decide_eq_false fun h => ?_
            have := hq.out.1 h
            rw [fdrop_all (by omega)] at this
            simp [fvl] at this
          have HBW := Lib.hid hbw
          clear hbw hbl hq
          go_wp2_with fail
          go_ret
          exact ⟨by rw [HE.out]; rfl, HBW.out⟩
end Go.Proofs.Ytebalmemncldlab
