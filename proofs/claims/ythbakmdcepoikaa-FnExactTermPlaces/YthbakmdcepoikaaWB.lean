/- l1Count: how many signs and variables there are, of what is in form. -/
import Derived.Test.YthbakmdcepoikaaWA
import Derived.Test.YthbakmdcepoikaaKit
namespace Go.Proofs.Ythbakmdcepoikaa
open Go.RowKit Go.Deep

/-- What l1Count answers. -/
def cntT (s v : Int) (k : Fo) (most : Int) : Int := if okN s v (flen k) = true ∧ fok k = true ∧ 1 + (fsz k : Int) ≤ most then 1 + fsz k else most + 1
/-- .. with m counted already and the terms r to come. -/
def cntR (m : Int) (r : Fo) (most : Int) : Int := if fok r = true ∧ m + (fsz r : Int) ≤ most then m + fsz r else most + 1

theorem cntT_small {s v : Int} {k : Fo} {most : Int} (h : most < 1) : cntT s v k most = most + 1 := by
  unfold cntT; rw [if_neg (by omega)]
theorem cntT_bad {s v : Int} {k : Fo} {most : Int} (h : okN s v (flen k) = false) : cntT s v k most = most + 1 := by
  unfold cntT; rw [if_neg (by simp [h])]
theorem cntT_good {s v : Int} {k : Fo} {most : Int} (h : okN s v (flen k) = true) : cntT s v k most = cntR 1 k most := by
  unfold cntT cntR; simp [h]
theorem cntT_bd (s v : Int) (k : Fo) (most : Int) (h : 0 ≤ most) : 1 ≤ cntT s v k most ∧ cntT s v k most ≤ most + 1 := by
  unfold cntT; split <;> omega
theorem cntR_over {m most s v : Int} {x y : Nat} {kk r : Fo} (h : most < m + cntT s v kk (most - m)) : cntR m (.node x y (s, v) kk r) most = most + 1 := by
  unfold cntR
  rw [if_neg]
  rintro ⟨h1, h2⟩
  simp only [fok, Bool.and_eq_true, fsz] at h1 h2
  unfold cntT at h
  rw [if_pos ⟨h1.1.1, h1.1.2, by omega⟩] at h
  omega
theorem cntR_step {m most s v : Int} {x y : Nat} {kk r : Fo} (h : m + cntT s v kk (most - m) ≤ most) : cntR m (.node x y (s, v) kk r) most = cntR (m + cntT s v kk (most - m)) r most := by
  have h' := h
  unfold cntT at h ⊢
  split at h
  · rename_i hc
    rw [if_pos hc]
    unfold cntR
    simp only [fok, fsz, hc.1, hc.2.1, Bool.and_true, Bool.true_and]
    have e : m + ((fsz kk + fsz r + 1 : Nat) : Int) = m + (1 + (fsz kk : Int)) + (fsz r : Int) := by omega
    rw [e]
  · omega
theorem cntR_nil {m most : Int} (h : m ≤ most) : cntR m .nil most = m := by
  unfold cntR; simp [fok, fsz, h]

theorem okN_iff (s v : Int) (n : Nat) : okN s v n = true ↔ (n : Int) = ar s ∧ (s = 0 → 0 ≤ v ∧ v ≤ 11) ∧ (s ≠ 0 → v = 0) := decide_eq_true_iff
theorem okN_f (s v : Int) (n : Nat) : okN s v n = false ↔ ¬ ((n : Int) = ar s ∧ (s = 0 → 0 ≤ v ∧ v ≤ 11) ∧ (s ≠ 0 → v = 0)) := by rw [← okN_iff]; simp
theorem ar_pos {s : Int} {n : Nat} (h : (n : Int) = ar s) (hs : s ≠ 0) : 0 < s := by
  unfold ar at h
  split at h
  · omega
  split at h
  · omega
  split at h
  · omega
  · omega

theorem okN_le {s v : Int} {n : Nat} (h : okN s v n = true) : n ≤ 2 := by
  have := ((okN_iff _ _ _).1 h).1
  unfold ar at this
  split at this
  · omega
  split at this
  · omega
  split at this
  · omega
  · omega

/-- The cells of a boxed term, in every later world. -/
theorem box_cells {w : World} {x y z : Value} {T : TypeId} (u : After (w.heap.size + 1) (w.alloc (.cells #[x, y, z] T))) :
    u.world.cell? ⟨w.heap.size, 0, none⟩ = some x ∧ u.world.cell? ⟨w.heap.size, 1, none⟩ = some y ∧ u.world.cell? ⟨w.heap.size, 2, none⟩ = some z := by
  refine ⟨u.cell (by simp) ?_, u.cell (by simp) ?_, u.cell (by simp) ?_⟩ <;> simp

/-- The four ways of a term's head. -/
theorem heads (s v : Int) (n : Nat) : (((n : Int) != ar s) = true ∧ okN s v n = false) ∨
    (((n : Int) != ar s) = false ∧ (s == 0) = true ∧ decide (0 ≤ v ∧ v ≤ 11) = false ∧ okN s v n = false) ∨
    (((n : Int) != ar s) = false ∧ (s == 0) = false ∧ decide (0 < s) = true ∧ (v != 0) = true ∧ okN s v n = false) ∨
    (((n : Int) != ar s) = false ∧ (s == 0) = true ∧ decide (0 < s) = false ∧ decide (0 ≤ v ∧ v ≤ 11) = true ∧ okN s v n = true) ∨
    (((n : Int) != ar s) = false ∧ (s == 0) = false ∧ decide (0 < s) = true ∧ (v != 0) = false ∧ okN s v n = true) := by
  by_cases h1 : (n : Int) = ar s
  · by_cases h2 : s = 0
    · by_cases h3 : 0 ≤ v ∧ v ≤ 11
      · exact .inr (.inr (.inr (.inl ⟨by simp [h1], by simp [h2], by simp [h2], decide_eq_true h3, (okN_iff _ _ _).2 ⟨h1, fun _ => h3, fun h => absurd h2 h⟩⟩)))
      · exact .inr (.inl ⟨by simp [h1], by simp [h2], decide_eq_false h3, (okN_f _ _ _).2 fun h => h3 (h.2.1 h2)⟩)
    · have h4 := ar_pos h1 h2
      by_cases h3 : v = 0
      · exact .inr (.inr (.inr (.inr ⟨by simp [h1], by simp [h2], decide_eq_true h4, by simp [h3], (okN_iff _ _ _).2 ⟨h1, fun h => absurd h h2, fun _ => h3⟩⟩)))
      · exact .inr (.inr (.inl ⟨by simp [h1], by simp [h2], decide_eq_true h4, by simp [h3], (okN_f _ _ _).2 fun h => h3 (h.2.2 h2)⟩))
  · exact .inl ⟨by simp [h1], (okN_f _ _ _).2 fun h => h1 h.1⟩

theorem after_top {w w' : World} {o : Obj} (h : Below (w.heap.size + 1) (w.alloc o) w') : Below w.heap.size w w' :=
  ((Below.refl _ _).alloc (Nat.le_refl _) o).trans (h.mono (Nat.le_succ _))

set_option maxRecDepth 100000 in
set_option maxHeartbeats 1000000 in
theorem l1Count_any (N : Nat) : ∀ (s v : Int) (a : Option Addr) (c : Nat) (k : Fo) (most : Int) (w : World), Sl w 0 w.heap.size a k → -1000 ≤ most → most ≤ 1000 → most ≤ N →
    Calls Try.prog 37 #[.agg #[.int .i64 s, .int .i64 v, .slice a (flen k) c], .int .i64 most] w fun e w' => e = .returned (.int .i64 (cntT s v k most)) ∧ Below w.heap.size w w' := by
  induction N with
  | zero =>
    intro s v a c k most w hl h1 h2 h3
    have e1 : decide (most < 1) = true := by simp; omega
    have ea : Hid (cntT s v k most = most + 1) := cntT_small (by omega)
    go_enter Try.func37, Try.ntmps37
    go_wp2_with fail
    refine wp_region_after (w.heap.size + 1) (by kernel_rfl) (by kernel_rfl) ?_
    repeat (go_big_quiet_step (fail))
    refine wpQuiet_nil ?_
    rintro _ ⟨u, rfl⟩
    go_wp2_with fail
    go_ret
    exact ⟨by rw [ea.out]; rfl, after_top u.below⟩
  | succ N ih =>
    intro s v a c k most w hl h1 h2 h3
    have IH := Lib.hid ih
    clear ih
    by_cases hm : most < 1
    · have e1 : decide (most < 1) = true := by simp; omega
      have ea : Hid (cntT s v k most = most + 1) := cntT_small (by omega)
      go_enter Try.func37, Try.ntmps37
      go_wp2_with fail
      refine wp_region_after (w.heap.size + 1) (by kernel_rfl) (by kernel_rfl) ?_
      repeat (go_big_quiet_step (fail))
      refine wpQuiet_nil ?_
      rintro _ ⟨u, rfl⟩
      go_wp2_with fail
      go_ret
      exact ⟨by rw [ea.out]; rfl, after_top u.below⟩
    have e1 : decide (most < 1) = false := by simp; omega
    rcases heads s v (flen k) with ⟨e2, hok⟩ | ⟨e2, e3, e4, hok⟩ | ⟨e2, e3, e4, e5, hok⟩ | ⟨e2, e3, e4, e5, hok⟩ | ⟨e2, e3, e4, e5, hok⟩
    iterate 3
      · have ea : Hid (cntT s v k most = most + 1) := cntT_bad hok
        clear hok
        have hc := fun u => @box_cells w (.int .i64 s) (.int .i64 v) (.slice a (flen k) c) 25 u
        have hc0 := fun u => (hc u).1
        have hc1 := fun u => (hc u).2.1
        have hc2 := fun u => (hc u).2.2
        clear hc
        go_enter Try.func37, Try.ntmps37
        go_wp2_with fail
        refine wp_region_after (w.heap.size + 1) (by kernel_rfl) (by kernel_rfl) ?_
        repeat (go_big_quiet_step (first | (go_at_call 45; exact Calls.after_same (l6In_any _ _ _ _)) | (go_at_call 44; exact Calls.after (by have := After.below ‹_›; have := this.size; simp at this; omega) (l1Kids_any _ _))))
        refine wpQuiet_nil ?_
        rintro _ ⟨u, rfl⟩
        clear hc0 hc1 hc2
        go_wp2_with fail
        go_ret
        exact ⟨by rw [ea.out]; rfl, after_top u.below⟩
    all_goals
      have ea : Hid (cntT s v k most = cntR 1 k most) := cntT_good hok
      have hk2 : flen k ≤ 2 := okN_le hok
      clear hok
      have hc := fun u => @box_cells w (.int .i64 s) (.int .i64 v) (.slice a (flen k) c) 25 u
      have hc0 := fun u => (hc u).1
      have hc1 := fun u => (hc u).2.1
      have hc2 := fun u => (hc u).2.2
      have HC := Lib.hid hc
      clear hc
      go_enter Try.func37, Try.ntmps37
      go_wp2_with fail
      refine wp_region_after (w.heap.size + 1) (by kernel_rfl) (by kernel_rfl) ?_
      repeat (go_big_quiet_step (first | (go_at_call 45; exact Calls.after_same (l6In_is e5)) | (go_at_call 44; exact Calls.after (by have := After.below ‹_›; have := this.size; simp at this; omega) (l1Kids_any _ _))))
      refine wpQuiet_nil ?_
      rintro _ ⟨u, rfl⟩
      clear hc0 hc1 hc2
      obtain ⟨u, hu⟩ := u
      dsimp only
      go_wp2_with fail
      go_loopw [5, 6] (fun n i wr => ∃ (j : Nat) (m : Int), j ≤ flen k ∧ i = .int .i64 j ∧ n = .int .i64 m ∧ 1 ≤ m ∧ m ≤ most ∧ Hid (cntT s v k most = cntR m (fdrop j k) most) ∧ Below (w.heap.size + 1) (w.alloc (.cells #[.int .i64 s, .int .i64 v, .slice a (flen k) c] 25)) wr) (fun _ i _ => flen k - (intOf i).toNat)
      case atStart => exact ⟨0, 1, Nat.zero_le _, rfl, rfl, by omega, by omega, ea, hu⟩
      case round =>
        obtain ⟨j, m, hj, rfl, rfl, hm1, hm2, hcnt, hbl⟩ := hrel
        obtain ⟨hc0, hc1, hc2⟩ := HC.out ⟨_, hbl⟩
        dsimp only at hc0 hc1 hc2
        by_cases hlt : j < flen k
        · rcases hl with rfl | ⟨b, o, rfl, hrow⟩
          · simp [flen] at hlt
          obtain ⟨s', v', kk, a', c', ⟨x, y, hd⟩, _, hbB, hk0, hk1, hk2, hsl⟩ := row_at (hrow.below (after_top hbl)) hlt
          have HD := Lib.hid hd
          have HS := Lib.hid hsl
          clear hd hsl hrow
          go_wp2_with fail
          with_reducible refine (IH.out s' v' a' c' kk (most - m) _ ?_ ?_ ?_ ?_).mono ?_
          · exact HS.out.mono (Nat.le_refl _) (by have := hbl.size; simp at this; omega)
          · omega
          · omega
          · omega
          rintro e w' ⟨rfl, hb2⟩
          have hbd := cntT_bd s' v' kk (most - m) (by omega)
          have hb3 : Below (w.heap.size + 1) (w.alloc (.cells #[.int .i64 s, .int .i64 v, .slice (some ⟨b, o, none⟩) (flen k) c] 25)) w' := hbl.trans (hb2.mono (by have := hbl.size; simp at this; omega))
          by_cases hov : most < m + cntT s' v' kk (most - m)
          · have ef : Hid (cntT s v k most = most + 1) := by rw [Hid, hcnt.out, HD.out]; exact cntR_over hov
            go_wp2_with fail
            go_ret
            exact ⟨by rw [ef.out]; rfl, after_top hb3⟩
          · have ef : Hid (cntT s v k most = cntR (m + cntT s' v' kk (most - m)) (fdrop (j + 1) k) most) := by rw [Hid, hcnt.out, HD.out]; exact cntR_step (by omega)
            go_wp2_with fail
            go_roundw
            case rel =>
              have g1 : j + 1 ≤ flen k := by omega
              have g2 : 1 ≤ m + cntT s' v' kk (most - m) := by omega
              have g3 : m + cntT s' v' kk (most - m) ≤ most := by omega
              exact ⟨j + 1, _, g1, by go_num, rfl, g2, g3, ef, hb3⟩
            case measure => simp [intOf]; omega
        · have ef : Hid (cntT s v k most = m) := by
            rw [Hid, hcnt.out, fdrop_all (by omega)]
            exact cntR_nil hm2
          go_wp2_with fail
          go_ret
          exact ⟨by rw [ef.out]; rfl, after_top hbl⟩
end Go.Proofs.Ythbakmdcepoikaa
