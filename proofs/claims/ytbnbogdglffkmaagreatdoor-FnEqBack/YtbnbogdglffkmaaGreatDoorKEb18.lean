/- Several texts in one: EQW, ER2, ER3, ER4. -/
import Derived.Test.YtbnbogdglffkmaaGreatDoorKEb16
import Derived.Test.YtbnbogdglffkmaaGreatDoorKEb17
import Derived.Test.YtbnbogdglffkmaaGreatDoorKEb15
import Derived.Test.YtbnbogdglffkmaaGreatDoorKEb3
import Derived.Test.YtbnbogdglffkmaaGreatDoorKEb12
import Derived.Test.YtbnbogdglffkmaaGreatDoorKEb13
import Derived.Defers
import Derived.Recover

/-! EQW: EqWrite of the specification and of the program. -/
namespace Go.Proofs.YtbnbogdglffkmaaGreatDoor
open Go.RowKit Go.Deep

/-- The text of an equation. -/
def etx (s v : Int) (k : Fo) (s' v' : Int) (k' : Fo) : List UInt8 := if okW s v k 16 = true ∧ okW s' v' k' 16 = true then tx s v k ++ ([32, 61, 32] ++ tx s' v' k') else []
theorem etx_ok {s v : Int} {k : Fo} {s' v' : Int} {k' : Fo} (h : okW s v k 16 = true) (h' : okW s' v' k' 16 = true) : etx s v k s' v' k' = tx s v k ++ ([32, 61, 32] ++ tx s' v' k') := by unfold etx; rw [if_pos ⟨h, h'⟩]
theorem etx_no {s v : Int} {k : Fo} {s' v' : Int} {k' : Fo} (h : okW s v k 16 = false ∨ okW s' v' k' 16 = false) : etx s v k s' v' k' = [] := by
  unfold etx
  rw [if_neg]
  rintro ⟨h1, h2⟩
  rcases h with h | h
  · rw [h1] at h; cases h
  · rw [h2] at h; cases h
theorem esl_one {w : World} {s v : Int} {a : Option Addr} {c : Nat} {k : Fo} {s' v' : Int} {a' : Option Addr} {c' : Nat} {k' : Fo} (hl : Sl w 0 w.heap.size a k) (hl' : Sl w 0 w.heap.size a' k') (T : TypeId) :
    ESl (w.alloc (.cells #[.int .i64 s, .int .i64 v, .slice a (flen k) c, .int .i64 s', .int .i64 v', .slice a' (flen k') c'] T)) 0 (w.alloc (.cells #[.int .i64 s, .int .i64 v, .slice a (flen k) c, .int .i64 s', .int .i64 v', .slice a' (flen k') c'] T)).heap.size (some ⟨w.heap.size, 0, none⟩) [((s, v, k), s', v', k')] := by
  have hb : Below w.heap.size w (w.alloc (.cells #[.int .i64 s, .int .i64 v, .slice a (flen k) c, .int .i64 s', .int .i64 v', .slice a' (flen k') c'] T)) := (Below.refl _ _).alloc (Nat.le_refl _) _
  refine .inr ⟨w.heap.size, 0, rfl, Nat.zero_le _, by simp, fun i x hx => ?_⟩
  cases i with
  | zero =>
    simp only [List.getElem?_cons_zero, Option.some.injEq] at hx
    subst hx
    refine ⟨a, c, a', c', ?_, ?_, ?_, ?_, ?_, ?_, (hl.below hb).mono (Nat.le_refl _) hb.size, (hl'.below hb).mono (Nat.le_refl _) hb.size⟩
    all_goals simp
  | succ i => simp at hx

set_option maxRecDepth 100000 in
set_option maxHeartbeats 2000000 in
theorem sEqWrite_any (s v : Int) (a : Option Addr) (c : Nat) (k : Fo) (s' v' : Int) (a' : Option Addr) (c' : Nat) (k' : Fo) (w : World) (hl : Sl w 0 w.heap.size a k) (hl' : Sl w 0 w.heap.size a' k') :
    Calls Tryz.prog 7 #[.agg #[.int .i64 s, .int .i64 v, .slice a (flen k) c, .int .i64 s', .int .i64 v', .slice a' (flen k') c']] w fun e w' => e = .returned (.string (str (etx s v k s' v' k'))) ∧ Below w.heap.size w w' := by
  have hb0 : Below w.heap.size w (w.alloc (.cells #[.int .i64 s, .int .i64 v, .slice a (flen k) c, .int .i64 s', .int .i64 v', .slice a' (flen k') c'] 27)) := (Below.refl _ _).alloc (Nat.le_refl _) _
  have hl0 := (hl.below hb0).mono (Nat.le_refl _) hb0.size
  have hl0' := (hl'.below hb0).mono (Nat.le_refl _) hb0.size
  have hes := esl_one (s := s) (v := v) (c := c) (s' := s') (v' := v') (c' := c') hl0 hl0' 27
  have hb1 := hb0.alloc hb0.size (.cells #[.int .i64 s, .int .i64 v, .slice a (flen k) c, .int .i64 s', .int .i64 v', .slice a' (flen k') c'] 27)
  have hcells : ∀ u : World, Below (w.heap.size + 1) (w.alloc (.cells #[.int .i64 s, .int .i64 v, .slice a (flen k) c, .int .i64 s', .int .i64 v', .slice a' (flen k') c'] 27)) u → ∀ i, i < 6 → u.cell? ⟨w.heap.size, i, none⟩ = #[Value.int .i64 s, .int .i64 v, .slice a (flen k) c, .int .i64 s', .int .i64 v', .slice a' (flen k') c'][i]? := fun u hu i _ => by rw [hu.cell (by simp), box6]
  have hok := sEqsOk_any [((s, v, k), s', v', k')] _ 1 _ hes (by simp)
  simp only [World.size_alloc, List.length_singleton] at hok
  have HOK := Lib.hid hok
  have HB1 := Lib.hid hb1
  have HC := Lib.hid hcells
  have HL := Lib.hid hl0
  have HL' := Lib.hid hl0'
  clear hl hl' hl0 hl0' hes hb0 hb1 hok hcells
  go_enter Tryz.func7, Tryz.ntmps7
  go_wp2_with fail
  with_reducible refine HOK.out.mono ?_
  rintro e w2 ⟨rfl, hb2⟩
  have hw2 : Below (w.heap.size + 1) (w.alloc (.cells #[.int .i64 s, .int .i64 v, .slice a (flen k) c, .int .i64 s', .int .i64 v', .slice a' (flen k') c'] 27)) w2 := ((Below.refl _ _).alloc (by simp) _).trans (hb2.mono (by simp))
  have hs2 := hb2.size
  simp at hs2
  have HW2 := Lib.hid hw2
  have HB2 : Hid (Below w.heap.size w w2) := ((Below.refl _ _).alloc (Nat.le_refl _) _).trans (hw2.mono (Nat.le_succ _))
  have HL2 : Hid (Sl w2 0 (w.heap.size + 1) a k) := (HL.out.below (hw2.mono (by simp))).mono (Nat.le_refl _) (by simp)
  have HL2' : Hid (Sl w2 0 (w.heap.size + 1) a' k') := (HL'.out.below (hw2.mono (by simp))).mono (Nat.le_refl _) (by simp)
  clear hw2 hb2 HOK HB1 HL HL'
  have hE : okEs [((s, v, k), s', v', k')] = (okW s v k 16 && okW s' v' k' 16) := by simp [okEs, okE, okT3]
  rw [hE]
  cases h1 : okW s v k 16 with
  | false =>
    have HF := Lib.hid (etx_no (s' := s') (v' := v') (k' := k') (.inl h1))
    clear hE h1
    go_wp2_with fail
    go_ret
    exact ⟨by rw [HF.out]; rfl, HB2.out⟩
  | true =>
    cases h2 : okW s' v' k' 16 with
    | false =>
      have HF := Lib.hid (etx_no (s := s) (v := v) (k := k) (.inr h2))
      clear hE h1 h2
      go_wp2_with fail
      go_ret
      exact ⟨by rw [HF.out]; rfl, HB2.out⟩
    | true =>
      have HX := Lib.hid (etx_ok h1 h2)
      have ho1 := (okW_iff _ _ _ _).1 h1
      have ho2 := (okW_iff _ _ _ _).1 h2
      have HO1 := Lib.hid ho1
      have HO2 := Lib.hid ho2
      have hz1 : fsz k ≤ 15 := by have := ho1.2.2; omega
      have hz2 : fsz k' ≤ 15 := by have := ho2.2.2; omega
      obtain ⟨X, hX⟩ : ∃ X, X = str (tx s v k) := ⟨_, rfl⟩
      obtain ⟨Y, hY⟩ : ∃ Y, Y = str (tx s' v' k') := ⟨_, rfl⟩
      have hXz : X.size ≤ 200 := by rw [hX, str_size]; exact tx_len h1
      have hYz : Y.size ≤ 200 := by rw [hY, str_size]; exact tx_len h2
      have hall : ∀ u : After (w.heap.size + 1) w2, ∀ i, i < 6 → u.world.cell? ⟨w.heap.size, i, none⟩ = #[Value.int .i64 s, .int .i64 v, .slice a (flen k) c, .int .i64 s', .int .i64 v', .slice a' (flen k') c'][i]? := fun u i hi => HC.out _ (HW2.out.trans u.below) i hi
      have hu0 : ∀ u : After (w.heap.size + 1) w2, u.world.cell? ⟨w.heap.size, 0, none⟩ = some (.int .i64 s) := fun u => hall u 0 (by omega)
      have hu1 : ∀ u : After (w.heap.size + 1) w2, u.world.cell? ⟨w.heap.size, 1, none⟩ = some (.int .i64 v) := fun u => hall u 1 (by omega)
      have hu2 : ∀ u : After (w.heap.size + 1) w2, u.world.cell? ⟨w.heap.size, 2, none⟩ = some (.slice a (flen k) c) := fun u => hall u 2 (by omega)
      have hu3 : ∀ u : After (w.heap.size + 1) w2, u.world.cell? ⟨w.heap.size, 3, none⟩ = some (.int .i64 s') := fun u => hall u 3 (by omega)
      have hu4 : ∀ u : After (w.heap.size + 1) w2, u.world.cell? ⟨w.heap.size, 4, none⟩ = some (.int .i64 v') := fun u => hall u 4 (by omega)
      have hu5 : ∀ u : After (w.heap.size + 1) w2, u.world.cell? ⟨w.heap.size, 5, none⟩ = some (.slice a' (flen k') c') := fun u => hall u 5 (by omega)
      have hf : (str (tx s v k) ++ ⟨#[32, 61, 32]⟩) ++ str (tx s' v' k') = str (etx s v k s' v' k') := by
        rw [HX.out, show (⟨#[32, 61, 32]⟩ : ByteArray) = str [32, 61, 32] from rfl, str_add, str_add, List.append_assoc]
      rw [← hX, ← hY] at hf
      have HFF := Lib.hid hf
      have hd1 : ¬ 9223372036854775807 < X.size + 3 := by omega
      have hd2 : ¬ 9223372036854775807 < X.size + 3 + Y.size := by omega
      have HXX := Lib.hid hX
      have HYY := Lib.hid hY
      clear hE hX hY hf hall ho1 ho2 h1 h2
      go_wp2_with fail
      refine wp_region_mix (fun w' => ∃ u : After (w.heap.size + 1) w2, w' = u.world) [] [(0, 0), (1, 0), (4, 0), (5, 0), (2, 1), (3, 0), (6, 1), (7, 0), (8, 0)] (by kernel_rfl) (by kernel_rfl) ⟨⟨_, (Below.refl _ _).drew⟩, rfl⟩ ?_
      iterate 4
        refine mix_see rfl (fun K hK => ?_)
        go_simp
        refine hK _ ?_
        clear hK K
      clear hu0 hu1 hu2 hu3 hu4 hu5
      refine mix_hold rfl (fun K hK => ?_)
      go_simp
      with_reducible refine (l1Say_any 15 s v a c k _ ?_ HO1.out.1 HO1.out.2.1 hz1 (by omega)).mono ?_
      · exact (HL2.out.below (Below.refl _ _).drew).mono (Nat.le_refl _) (show w.heap.size + 1 ≤ w2.heap.size by omega)
      rintro e w3 ⟨rfl, hb3⟩
      rw [← HXX.out]
      have hb3' : Below w2.heap.size w2 w3 := bl_undrew hb3
      have hs3 := hb3'.size
      have HL3' : Hid (Sl w3 0 w3.heap.size a' k') := (HL2'.out.below (hb3'.mono (by omega))).mono (Nat.le_refl _) (by omega)
      have HB3 := Lib.hid (HB2.out.trans (hb3'.mono (by omega)))
      have HS3 : Hid (∃ u : After (w.heap.size + 1) w2, w3 = u.world) := ⟨⟨_, hb3'.mono (by omega)⟩, rfl⟩
      refine hK _ _ HS3.out ?_
      clear hK K hb3 hb3'
      refine mix_see rfl (fun K hK => ?_)
      go_simp
      refine hK _ ?_
      clear hK K
      refine mix_hold rfl (fun K hK => ?_)
      go_simp
      with_reducible refine (l1Say_any 15 s' v' a' c' k' _ HL3'.out HO2.out.1 HO2.out.2.1 hz2 (by omega)).mono ?_
      rintro e w4 ⟨rfl, hb4⟩
      rw [← HYY.out]
      have HB4 := Lib.hid (HB3.out.trans (hb4.mono (by omega)))
      have HS4 : Hid (∃ u : After (w.heap.size + 1) w2, w4 = u.world) := by
        obtain ⟨u, hu⟩ := HS3.out
        exact ⟨⟨w4, (hu ▸ u.below : Below (w.heap.size + 1) w2 w3).trans (hb4.mono (by omega))⟩, rfl⟩
      refine hK _ _ HS4.out ?_
      clear hK K hb4
      iterate 2
        refine mix_see rfl (fun K hK => ?_)
        go_simp
        refine hK _ ?_
        clear hK K
      refine mix_end ?_
      go_wp2_with fail
      go_ret
      exact ⟨by rw [← HFF.out]; rfl, HB4.out⟩

theorem text_empty {s v : Int} {k : Fo} {b : Bool} (h : okW s v k 16 = b) : (str (if okW s v k 16 = true then tx s v k else [])).toList.isEmpty = !b := by
  rw [Lib.toList_data, str_toList']
  cases b with
  | false => rw [h]; rfl
  | true =>
    rw [if_pos h]
    cases ht : tx s v k with
    | nil => exact absurd ht tx_ne
    | cons => rfl
set_option maxRecDepth 100000 in
set_option maxHeartbeats 2000000 in
theorem iEqWrite_any (s v : Int) (a : Option Addr) (c : Nat) (k : Fo) (s' v' : Int) (a' : Option Addr) (c' : Nat) (k' : Fo) (w : World) (hl : Sl w 0 w.heap.size a k) (hl' : Sl w 0 w.heap.size a' k') :
    Calls Tryz.prog 6 #[.agg #[.int .i64 s, .int .i64 v, .slice a (flen k) c, .int .i64 s', .int .i64 v', .slice a' (flen k') c']] w fun e w' => e = .returned (.string (str (etx s v k s' v' k'))) ∧ Below w.heap.size w w' := by
  have hb0 : Below w.heap.size w (w.alloc (.cells #[.int .i64 s, .int .i64 v, .slice a (flen k) c, .int .i64 s', .int .i64 v', .slice a' (flen k') c'] 27)) := (Below.refl _ _).alloc (Nat.le_refl _) _
  have HL : Hid (Sl (w.alloc (.cells #[.int .i64 s, .int .i64 v, .slice a (flen k) c, .int .i64 s', .int .i64 v', .slice a' (flen k') c'] 27)) 0 (w.heap.size + 1) a k) := (hl.below hb0).mono (Nat.le_refl _) (by omega)
  have HL' : Hid (Sl (w.alloc (.cells #[.int .i64 s, .int .i64 v, .slice a (flen k) c, .int .i64 s', .int .i64 v', .slice a' (flen k') c'] 27)) 0 (w.heap.size + 1) a' k') := (hl'.below hb0).mono (Nat.le_refl _) (by omega)
  obtain ⟨w2, hw2⟩ : ∃ w2, w2 = w.alloc (.cells #[.int .i64 s, .int .i64 v, .slice a (flen k) c, .int .i64 s', .int .i64 v', .slice a' (flen k') c'] 27) := ⟨_, rfl⟩
  have hs2 : w2.heap.size = w.heap.size + 1 := by rw [hw2]; simp
  have hs2' : w.heap.size + 1 ≤ w2.heap.size := by omega
  have HS2 := Lib.hid hs2
  have HB2 : Hid (Below w.heap.size w w2) := by rw [hw2]; exact hb0
  have hall : ∀ u : After (w.heap.size + 1) w2, ∀ i, i < 6 → u.world.cell? ⟨w.heap.size, i, none⟩ = #[Value.int .i64 s, .int .i64 v, .slice a (flen k) c, .int .i64 s', .int .i64 v', .slice a' (flen k') c'][i]? := fun u i hi => by rw [u.below.cell (by simp), hw2, box6]
  have hu0 : ∀ u : After (w.heap.size + 1) w2, u.world.cell? ⟨w.heap.size, 0, none⟩ = some (.int .i64 s) := fun u => hall u 0 (by omega)
  have hu1 : ∀ u : After (w.heap.size + 1) w2, u.world.cell? ⟨w.heap.size, 1, none⟩ = some (.int .i64 v) := fun u => hall u 1 (by omega)
  have hu2 : ∀ u : After (w.heap.size + 1) w2, u.world.cell? ⟨w.heap.size, 2, none⟩ = some (.slice a (flen k) c) := fun u => hall u 2 (by omega)
  have hu3 : ∀ u : After (w.heap.size + 1) w2, u.world.cell? ⟨w.heap.size, 3, none⟩ = some (.int .i64 s') := fun u => hall u 3 (by omega)
  have hu4 : ∀ u : After (w.heap.size + 1) w2, u.world.cell? ⟨w.heap.size, 4, none⟩ = some (.int .i64 v') := fun u => hall u 4 (by omega)
  have hu5 : ∀ u : After (w.heap.size + 1) w2, u.world.cell? ⟨w.heap.size, 5, none⟩ = some (.slice a' (flen k') c') := fun u => hall u 5 (by omega)
  obtain ⟨X, hX⟩ : ∃ X, X = str (if okW s v k 16 = true then tx s v k else []) := ⟨_, rfl⟩
  obtain ⟨Y, hY⟩ : ∃ Y, Y = str (if okW s' v' k' 16 = true then tx s' v' k' else []) := ⟨_, rfl⟩
  have HXX := Lib.hid hX
  have HYY := Lib.hid hY
  rw [← hw2] at HL HL'
  clear hX hY hs2 hall hl hl' hb0
  go_enter Tryz.func6, Tryz.ntmps6
  go_wp2_with fail
  rw [← hw2]
  clear hw2
  refine wp_region_mix (fun w' => ∃ u : After (w.heap.size + 1) w2, w' = u.world) [] [(0, 0), (1, 0), (3, 0), (4, 0), (2, 1), (5, 1), (6, 0), (7, 0)] (by kernel_rfl) (by kernel_rfl) ⟨⟨_, (Below.refl _ _).drew⟩, rfl⟩ ?_
  iterate 4
    refine mix_see rfl (fun K hK => ?_)
    go_simp
    refine hK _ ?_
    clear hK K
  clear hu0 hu1 hu2 hu3 hu4 hu5
  refine mix_hold rfl (fun K hK => ?_)
  go_simp
  with_reducible refine (iTermText_any s v a c k _ ?_).mono ?_
  · exact (HL.out.below (Below.refl _ _).drew).mono (Nat.le_refl _) (show w.heap.size + 1 ≤ w2.heap.size from hs2')
  rintro e w3 ⟨rfl, hb3⟩
  rw [← HXX.out]
  have hb3' : Below w2.heap.size w2 w3 := bl_undrew hb3
  have hs3 := hb3'.size
  have HL3' : Hid (Sl w3 0 w3.heap.size a' k') := (HL'.out.below (hb3'.mono (by omega))).mono (Nat.le_refl _) (by omega)
  have HB3 := Lib.hid (HB2.out.trans (hb3'.mono (by omega)))
  have HS3 : Hid (∃ u : After (w.heap.size + 1) w2, w3 = u.world) := ⟨⟨_, hb3'.mono (by omega)⟩, rfl⟩
  refine hK _ _ HS3.out ?_
  clear hK K hb3 hb3'
  refine mix_hold rfl (fun K hK => ?_)
  go_simp
  with_reducible refine (iTermText_any s' v' a' c' k' _ HL3'.out).mono ?_
  rintro e w4 ⟨rfl, hb4⟩
  rw [← HYY.out]
  have HB4 := Lib.hid (HB3.out.trans (hb4.mono (by omega)))
  have HS4 : Hid (∃ u : After (w.heap.size + 1) w2, w4 = u.world) := by
    obtain ⟨u, hu⟩ := HS3.out
    exact ⟨⟨w4, (hu ▸ u.below : Below (w.heap.size + 1) w2 w3).trans (hb4.mono (by omega))⟩, rfl⟩
  refine hK _ _ HS4.out ?_
  clear hK K hb4
  iterate 2
    refine mix_see rfl (fun K hK => ?_)
    go_simp
    refine hK _ ?_
    clear hK K
  refine mix_end ?_
  cases h1 : okW s v k 16 with
  | false =>
    have HF := Lib.hid (etx_no (s' := s') (v' := v') (k' := k') (.inl h1))
    have q1 : X.toList.isEmpty = true := by rw [HXX.out]; exact text_empty h1
    clear h1
    go_wp2_with fail
    go_ret
    exact ⟨by rw [HF.out]; rfl, HB4.out⟩
  | true =>
    have q1 : X.toList.isEmpty = false := by rw [HXX.out]; exact text_empty h1
    cases h2 : okW s' v' k' 16 with
    | false =>
      have HF := Lib.hid (etx_no (s := s) (v := v) (k := k) (.inr h2))
      have q2 : Y.toList.isEmpty = true := by rw [HYY.out]; exact text_empty h2
      clear h1 h2
      go_wp2_with fail
      go_ret
      exact ⟨by rw [HF.out]; rfl, HB4.out⟩
    | true =>
      have q2 : Y.toList.isEmpty = false := by rw [HYY.out]; exact text_empty h2
      have hXX : X = str (tx s v k) := by rw [HXX.out, if_pos h1]
      have hYY : Y = str (tx s' v' k') := by rw [HYY.out, if_pos h2]
      have hXz : X.size ≤ 200 := by rw [hXX, str_size]; exact tx_len h1
      have hYz : Y.size ≤ 200 := by rw [hYY, str_size]; exact tx_len h2
      have hf : (X ++ ⟨#[32, 61, 32]⟩) ++ Y = str (etx s v k s' v' k') := by
        rw [hXX, hYY, etx_ok h1 h2, show (⟨#[32, 61, 32]⟩ : ByteArray) = str [32, 61, 32] from rfl, str_add, str_add, List.append_assoc]
      have HFF := Lib.hid hf
      have hd1 : ¬ 9223372036854775807 < X.size + 3 := by omega
      have hd2 : ¬ 9223372036854775807 < X.size + 3 + Y.size := by omega
      clear h1 h2 hXX hYY hf
      go_wp2_with fail
      go_ret
      exact ⟨by rw [← HFF.out]; rfl, HB4.out⟩
end Go.Proofs.YtbnbogdglffkmaaGreatDoor

/-! ER2: EqRead of the specification. -/
namespace Go.Proofs.YtbnbogdglffkmaaGreatDoor
open Go.RowKit Go.Deep

def EsPost (l : List UInt8) (w : World) (e : Ending) (w' : World) : Prop :=
  ∃ a c s v k a' c' s' v' k' t, eqA l = ((s, v, k), (s', v', k'), t) ∧ e = .returned (.tuple #[.agg #[.int .i64 s, .int .i64 v, .slice a (flen k) c, .int .i64 s', .int .i64 v', .slice a' (flen k') c'], .bool t]) ∧ Below w.heap.size w w' ∧ Sl w' w.heap.size w'.heap.size a k ∧ Sl w' w.heap.size w'.heap.size a' k'
theorem box6u {W w2 : World} {n : Nat} (hn : n = W.heap.size) {c0 c1 c2 c3 c4 c5 : Value} {T : TypeId} (h : Below (n + 1) (W.alloc (.cells #[c0, c1, c2, c3, c4, c5] T)) w2) :
    w2.cell? ⟨n, 0, none⟩ = some c0 ∧ w2.cell? ⟨n, 1, none⟩ = some c1 ∧ w2.cell? ⟨n, 2, none⟩ = some c2 ∧ w2.cell? ⟨n, 3, none⟩ = some c3 ∧ w2.cell? ⟨n, 4, none⟩ = some c4 ∧ w2.cell? ⟨n, 5, none⟩ = some c5 := by
  subst hn
  refine ⟨?_, ?_, ?_, ?_, ?_, ?_⟩
  all_goals rw [h.cell (by simp), box6]; rfl
theorem froz6 {W w2 : World} {n : Nat} (hn : n = W.heap.size) {c0 c1 c2 c3 c4 c5 : Value} {T : TypeId} (h : Below (n + 1) (W.alloc (.cells #[c0, c1, c2, c3, c4, c5] T)) w2) :
    w2.frozen? ⟨n, 0, none⟩ = false ∧ w2.frozen? ⟨n, 1, none⟩ = false ∧ w2.frozen? ⟨n, 2, none⟩ = false ∧ w2.frozen? ⟨n, 3, none⟩ = false ∧ w2.frozen? ⟨n, 4, none⟩ = false ∧ w2.frozen? ⟨n, 5, none⟩ = false := by
  subst hn
  refine ⟨?_, ?_, ?_, ?_, ?_, ?_⟩
  all_goals rw [h.frozen (by simp), World.frozen?_alloc_at _ _ _ _ (by simp)]
theorem below_set6 {w w1 : World} {B n : Nat} (hn : B ≤ n) (h : Below B w w1) (x0 x1 x2 x3 x4 x5 : Value) :
    Below B w ((((((w1.setCell ⟨n, 0, none⟩ x0).setCell ⟨n, 1, none⟩ x1).setCell ⟨n, 2, none⟩ x2).setCell ⟨n, 3, none⟩ x3).setCell ⟨n, 4, none⟩ x4).setCell ⟨n, 5, none⟩ x5) :=
  (((((h.setCell (by simpa using hn) _).setCell (by simpa using hn) _).setCell (by simpa using hn) _).setCell (by simpa using hn) _).setCell (by simpa using hn) _).setCell (by simpa using hn) _
theorem same_set6 {w1 : World} {lo hi n : Nat} (hn : n < lo) (x0 x1 x2 x3 x4 x5 : Value) :
    Same lo hi w1 ((((((w1.setCell ⟨n, 0, none⟩ x0).setCell ⟨n, 1, none⟩ x1).setCell ⟨n, 2, none⟩ x2).setCell ⟨n, 3, none⟩ x3).setCell ⟨n, 4, none⟩ x4).setCell ⟨n, 5, none⟩ x5) :=
  ((((((Same.setCell (fun _ _ _ => rfl) (.inl (by simpa using hn)) _).setCell (.inl (by simpa using hn)) _).setCell (.inl (by simpa using hn)) _).setCell (.inl (by simpa using hn)) _).setCell (.inl (by simpa using hn)) _).setCell (.inl (by simpa using hn)) _)
theorem es_end {w w1 : World} {l : List UInt8} {s v : Int} {k : Fo} {s' v' : Int} {k' : Fo} {t : Bool} {a a' : Option Addr} {c c' : Nat} (hr : eqA l = ((s, v, k), (s', v', k'), t)) (hb : Below w.heap.size w w1) (hl : Sl w1 (w.heap.size + 1) w1.heap.size a k) (hl' : Sl w1 (w.heap.size + 1) w1.heap.size a' k') (x0 x1 x2 x3 x4 x5 : Value) :
    EsPost l w (.returned (.tuple #[.agg #[.int .i64 s, .int .i64 v, .slice a (flen k) c, .int .i64 s', .int .i64 v', .slice a' (flen k') c'], .bool t])) ((((((w1.setCell ⟨w.heap.size, 0, none⟩ x0).setCell ⟨w.heap.size, 1, none⟩ x1).setCell ⟨w.heap.size, 2, none⟩ x2).setCell ⟨w.heap.size, 3, none⟩ x3).setCell ⟨w.heap.size, 4, none⟩ x4).setCell ⟨w.heap.size, 5, none⟩ x5) :=
  ⟨a, c, s, v, k, a', c', s', v', k', t, hr, rfl, below_set6 (Nat.le_refl _) hb .., (hl.same (same_set6 (n := w.heap.size) (by omega) x0 x1 x2 x3 x4 x5)).mono (by omega) (by simp), (hl'.same (same_set6 (n := w.heap.size) (by omega) x0 x1 x2 x3 x4 x5)).mono (by omega) (by simp)⟩

set_option maxRecDepth 100000 in
set_option maxHeartbeats 2000000 in
theorem sEqRead_any (l : List UInt8) (w : World) (hl : l.length ≤ 1048576) :
    Calls Tryz.prog 11 #[.string (str l)] w (EsPost l w) := by
  have hb0 : Below w.heap.size w (w.alloc (.cells #[.int .i64 0, .int .i64 0, .slice none 0 0, .int .i64 0, .int .i64 0, .slice none 0 0] 27)) := (Below.refl _ _).alloc (Nat.le_refl _) _
  have HB0 := Lib.hid hb0
  have HL := Lib.hid hl
  clear hb0 hl
  go_enter Tryz.func11, Tryz.ntmps11
  go_wp2_with fail
  with_reducible refine (l31Split_any l _ HL.out).mono ?_
  rintro e w2 ⟨A, C, rfl, hb2, hwd⟩
  have hs2 := hb2.size
  simp at hs2
  have hb2' : Below (w.heap.size + 1) (w.alloc (.cells #[.int .i64 0, .int .i64 0, .slice none 0 0, .int .i64 0, .int .i64 0, .slice none 0 0] 27)) w2 := by simpa using hb2
  have HB2 := Lib.hid hb2'
  have HB2' := Lib.hid (HB0.out.trans (hb2'.mono (Nat.le_succ _)))
  have HWD := Lib.hid hwd
  clear hb2 hb2' hwd
  by_cases h3 : (spl l).length = 3
  · obtain ⟨p, q, r, hw⟩ : ∃ p q r, spl l = [p, q, r] := by
      match hsp : spl l, h3 with
      | [p, q, r], _ => exact ⟨p, q, r, rfl⟩
    have HW := Lib.hid hw
    have hwd := HWD.out
    rw [hw] at hwd
    obtain ⟨b, rfl, hbl, hbB, hcell⟩ := hwd
    simp at hbl
    have hc0 : w2.cell? ⟨b, 0, none⟩ = some (.string (str p)) := hcell 0 p rfl
    have hc2 : w2.cell? ⟨b, 2, none⟩ = some (.string (str r)) := hcell 2 r rfl
    have HP : Hid (p.length ≤ 1048576) := Nat.le_trans (spl_mem (l := l) (by rw [hw]; simp)) HL.out
    have HR : Hid (r.length ≤ 1048576) := Nat.le_trans (spl_mem (l := l) (by rw [hw]; simp)) HL.out
    have HC2 : Hid (w2.cell? ⟨b, 2, none⟩ = some (.string (str r))) := hc2
    have HBB : Hid (w.heap.size + 1 ≤ b ∧ b < w2.heap.size) := ⟨hbl, hbB⟩
    rw [h3]
    clear h3 hw hcell HWD hc2 hbl hbB
    go_wp2_with fail
    with_reducible refine (sTermRead_any p _ HP.out).mono ?_
    rintro e w3 ⟨a3, c3, s, v, k, t, hR, rfl, hb3, hl3⟩
    have HR3 := Lib.hid hR
    have hs3 := hb3.size
    have hb4 := hb3.alloc hs3 (.cells #[.int .i64 s, .int .i64 v, .slice a3 (flen k) c3] 25)
    have HB4 := Lib.hid (HB2.out.trans (hb4.mono (by omega)))
    have hl4 : Sl (w3.alloc (.cells #[.int .i64 s, .int .i64 v, .slice a3 (flen k) c3] 25)) (w.heap.size + 1) w3.heap.size a3 k := (hl3.below ((Below.refl _ _).alloc (Nat.le_refl _) _)).mono (by omega) (Nat.le_refl _)
    have HL4 := Lib.hid hl4
    have hd2 : (w3.alloc (.cells #[.int .i64 s, .int .i64 v, .slice a3 (flen k) c3] 25)).cell? ⟨b, 2, none⟩ = some (.string (str r)) := by rw [hb4.cell (by have := HBB.out; simp; omega)]; exact HC2.out
    have HX4 : Hid (Below (w3.heap.size + 1) (w3.alloc (.cells #[.int .i64 s, .int .i64 v, .slice a3 (flen k) c3] 25)) (w3.alloc (.cells #[.int .i64 s, .int .i64 v, .slice a3 (flen k) c3] 25))) := Below.refl _ _
    clear hb3 hb4 hl3 hl4 hR hc0 HC2
    go_wp2_with fail
    with_reducible refine (sTermRead_any r _ HR.out).mono ?_
    rintro e w5 ⟨a5, c5, s', v', k', t', hR, rfl, hb5, hl5⟩
    have HR5 := Lib.hid hR
    have hs5 := hb5.size
    simp at hs5
    have hb6 := (hb5.alloc hb5.size (.cells #[.int .i64 s', .int .i64 v', .slice a5 (flen k') c5] 25))
    have HX6 := Lib.hid (HX4.out.trans (hb6.mono (by simp)))
    have HB6 := Lib.hid (HB4.out.trans (hb6.mono (by simp; omega)))
    have HY6 : Hid (Below (w5.heap.size + 1) (w5.alloc (.cells #[.int .i64 s', .int .i64 v', .slice a5 (flen k') c5] 25)) (w5.alloc (.cells #[.int .i64 s', .int .i64 v', .slice a5 (flen k') c5] 25))) := Below.refl _ _
    have HL6 : Hid (Sl (w5.alloc (.cells #[.int .i64 s', .int .i64 v', .slice a5 (flen k') c5] 25)) (w.heap.size + 1) w3.heap.size a3 k) := HL4.out.same (Same.of_below (hb6.mono (by simp)))
    have HL6' : Hid (Sl (w5.alloc (.cells #[.int .i64 s', .int .i64 v', .slice a5 (flen k') c5] 25)) (w.heap.size + 1) w5.heap.size a5 k') := (hl5.below ((Below.refl _ _).alloc (Nat.le_refl _) _)).mono (by simp; omega) (Nat.le_refl _)
    clear hb5 hb6 hl5 hR hd2
    obtain ⟨hx0, hx1, hx2⟩ := box_cells ⟨_, HX6.out⟩
    dsimp only at hx0 hx1 hx2
    obtain ⟨hy0, hy1, hy2⟩ := box_cells ⟨_, HY6.out⟩
    dsimp only at hy0 hy1 hy2
    have hb8 := HB6.out.alloc (by simp; omega) (.cells #[.int .i64 s, .int .i64 v, .slice a3 (flen k) c3, .int .i64 s', .int .i64 v', .slice a5 (flen k') c5] 27)
    obtain ⟨hr0, hr1, hr2, hr3, hr4, hr5⟩ := box6u rfl hb8
    obtain ⟨hq0, hq1, hq2, hq3, hq4, hq5⟩ := froz6 rfl hb8
    have HB8 := Lib.hid hb8
    have HB8' := Lib.hid (HB0.out.trans (hb8.mono (Nat.le_succ _)))
    have hbe : Below (w5.heap.size + 1) (w5.alloc (.cells #[.int .i64 s', .int .i64 v', .slice a5 (flen k') c5] 25)) ((w5.alloc (.cells #[.int .i64 s', .int .i64 v', .slice a5 (flen k') c5] 25)).alloc (.cells #[.int .i64 s, .int .i64 v, .slice a3 (flen k) c3, .int .i64 s', .int .i64 v', .slice a5 (flen k') c5] 27)) := (Below.refl _ _).alloc (by simp) _
    have HL8 : Hid (Sl _ _ _ a3 k) := HL6.out.same (Same.of_below (hbe.mono (by omega)))
    have HL8' : Hid (Sl _ _ _ a5 k') := HL6'.out.same (Same.of_below (hbe.mono (by omega)))
    clear hb8 hbe
    by_cases hno : t = false ∨ t' = false
    · have HA := Lib.hid (eqA_no HW.out HR3.out HR5.out (hno.imp_right .inl))
      have ht : ∃ tt tt', t = tt ∧ t' = tt' ∧ (tt = false ∨ tt' = false) := ⟨t, t', rfl, rfl, hno⟩
      clear hno
      cases t
      · clear ht
        go_wp2_with fail
        refine bodyPost_ret (v := .tuple #[.agg #[.int .i64 0, .int .i64 0, .slice none 0 0, .int .i64 0, .int .i64 0, .slice none 0 0], .bool false]) ?_ rfl (es_end (k := .nil) (k' := .nil) HA.out HB8'.out (.inl rfl) (.inl rfl) _ _ _ _ _ _)
        simp [results, Tryz.results11, go_sem, hr0, hr1, hr2, hr3, hr4, hr5]
      · cases t'
        · clear ht
          go_wp2_with fail
          refine bodyPost_ret (v := .tuple #[.agg #[.int .i64 0, .int .i64 0, .slice none 0 0, .int .i64 0, .int .i64 0, .slice none 0 0], .bool false]) ?_ rfl (es_end (k := .nil) (k' := .nil) HA.out HB8'.out (.inl rfl) (.inl rfl) _ _ _ _ _ _)
          simp [results, Tryz.results11, go_sem, hr0, hr1, hr2, hr3, hr4, hr5]
        · obtain ⟨tt, tt', rfl, rfl, h⟩ := ht
          simp at h
    · have ht : t = true ∧ t' = true := by
        constructor
        · cases t
          · exact absurd (.inl rfl) hno
          · rfl
        · cases t'
          · exact absurd (.inr rfl) hno
          · rfl
      obtain ⟨rfl, rfl⟩ := ht
      clear hno
      go_wp2_with fail
      with_reducible refine (sEqWrite_any s v a3 c3 k s' v' a5 c5 k' _ (HL8.out.mono (Nat.zero_le _) (by simp; omega)) (HL8'.out.mono (Nat.zero_le _) (by simp; omega))).mono ?_
      rintro e w9 ⟨rfl, hb9⟩
      have hs9 := hb9.size
      simp at hs9
      have hb9' := HB8.out.trans (hb9.mono (by simp; omega))
      have HB9' := Lib.hid (HB8'.out.trans (hb9.mono (by simp; omega)))
      have HL9 := Lib.hid ((HL8.out.same (Same.of_below (hb9.mono (by simp; omega)))).mono (Nat.le_refl _) (show w3.heap.size ≤ w9.heap.size by omega))
      have HL9' := Lib.hid ((HL8'.out.same (Same.of_below (hb9.mono (by simp; omega)))).mono (Nat.le_refl _) (show w5.heap.size ≤ w9.heap.size by omega))
      clear hr0 hr1 hr2 hr3 hr4 hr5 hq0 hq1 hq2 hq3 hq4 hq5
      obtain ⟨hr0, hr1, hr2, hr3, hr4, hr5⟩ := box6u rfl hb9'
      obtain ⟨hq0, hq1, hq2, hq3, hq4, hq5⟩ := froz6 rfl hb9'
      have hE : ∀ i, i < 6 → w9.cell? ⟨w5.heap.size + 1, i, none⟩ = #[Value.int .i64 s, .int .i64 v, .slice a3 (flen k) c3, .int .i64 s', .int .i64 v', .slice a5 (flen k') c5][i]? := fun i hi => by
        rw [hb9.cell (by simp)]
        have h6 := box6 (w := w5.alloc (.cells #[.int .i64 s', .int .i64 v', .slice a5 (flen k') c5] 25)) (c0 := .int .i64 s) (c1 := .int .i64 v) (c2 := .slice a3 (flen k) c3) (c3 := .int .i64 s') (c4 := .int .i64 v') (c5 := .slice a5 (flen k') c5) (T := 27) i
        rw [World.size_alloc] at h6
        exact h6
      have g0 : w9.cell? ⟨w5.heap.size + 1, 0, none⟩ = some (.int .i64 s) := hE 0 (by omega)
      have g1 : w9.cell? ⟨w5.heap.size + 1, 1, none⟩ = some (.int .i64 v) := hE 1 (by omega)
      have g2 : w9.cell? ⟨w5.heap.size + 1, 2, none⟩ = some (.slice a3 (flen k) c3) := hE 2 (by omega)
      have g3 : w9.cell? ⟨w5.heap.size + 1, 3, none⟩ = some (.int .i64 s') := hE 3 (by omega)
      have g4 : w9.cell? ⟨w5.heap.size + 1, 4, none⟩ = some (.int .i64 v') := hE 4 (by omega)
      have g5 : w9.cell? ⟨w5.heap.size + 1, 5, none⟩ = some (.slice a5 (flen k') c5) := hE 5 (by omega)
      have HQ : Hid (etx s v k s' v' k' = tx s v k ++ (sepE ++ tx s' v' k')) := etx_ok (rdR_some (rdA_true HR3.out)).1 (rdR_some (rdA_true HR5.out)).1
      clear hb9 hb9' hE hx0 hx1 hx2 hy0 hy1 hy2
      obtain ⟨X, hX⟩ : ∃ X, X = etx s v k s' v' k' := ⟨_, rfl⟩
      rw [← hX]
      have HX := Lib.hid hX
      clear hX
      by_cases hXl : X = l
      · have hq : ((str X).toList == (str l).toList) = true := by rw [hXl]; simp
        have HA : Hid (eqA l = ((s, v, k), (s', v', k'), true)) := eqA_yes HR3.out HR5.out (HQ.out.symm.trans (HX.out.symm.trans hXl))
        clear hXl
        go_wp2_with fail
        refine bodyPost_ret (v := .tuple #[.agg #[.int .i64 s, .int .i64 v, .slice a3 (flen k) c3, .int .i64 s', .int .i64 v', .slice a5 (flen k') c5], .bool true]) ?_ rfl (es_end HA.out HB9'.out HL9.out HL9'.out _ _ _ _ _ _)
        simp [results, Tryz.results11, go_sem, hr0, hr1, hr2, hr3, hr4, hr5]
      · have hq : ((str X).toList == (str l).toList) = false := by
          rw [Lib.toList_data, Lib.toList_data, str_toList, str_toList]
          exact beq_eq_false_iff_ne.2 hXl
        have HA := Lib.hid (eqA_no HW.out HR3.out HR5.out (.inr (.inr fun e => hXl (HX.out.trans (HQ.out.trans e)))))
        clear hXl
        go_wp2_with fail
        refine bodyPost_ret (v := .tuple #[.agg #[.int .i64 0, .int .i64 0, .slice none 0 0, .int .i64 0, .int .i64 0, .slice none 0 0], .bool false]) ?_ rfl (es_end (k := .nil) (k' := .nil) HA.out HB9'.out (.inl rfl) (.inl rfl) _ _ _ _ _ _)
        simp [results, Tryz.results11, go_sem, hr0, hr1, hr2, hr3, hr4, hr5]
  · have e3 : (((spl l).length : Int) != 3) = true := by simp; omega
    have HA := Lib.hid (eqA_len h3)
    obtain ⟨hr0, hr1, hr2, hr3, hr4, hr5⟩ := box6u rfl HB2.out
    obtain ⟨hq0, hq1, hq2, hq3, hq4, hq5⟩ := froz6 rfl HB2.out
    clear h3 HWD
    go_wp2_with fail
    refine bodyPost_ret (v := .tuple #[.agg #[.int .i64 0, .int .i64 0, .slice none 0 0, .int .i64 0, .int .i64 0, .slice none 0 0], .bool false]) ?_ rfl (es_end (k := .nil) (k' := .nil) HA.out HB2'.out (.inl rfl) (.inl rfl) _ _ _ _ _ _)
    simp [results, Tryz.results11, go_sem, hr0, hr1, hr2, hr3, hr4, hr5]
end Go.Proofs.YtbnbogdglffkmaaGreatDoor

/-! ER3: eqOf of the program: it returns the equation, its terms of its own, or gives the text up. -/
namespace Go.Proofs.YtbnbogdglffkmaaGreatDoor
open Go.RowKit Go.Deep

/-- Where the library's length lies. -/
def MxAt (w : World) : Prop := ∃ m, w.cell? ⟨0, 0, none⟩ = some (.int .i64 m)
theorem MxAt.below {w w' : World} (h : MxAt w) (hb : Below w.heap.size w w') : MxAt w' := by
  obtain ⟨m, hm⟩ := h
  exact ⟨m, by rw [hb.cell (World.block_lt_of_cell? _ _ hm)]; exact hm⟩
theorem cut_any (l : List UInt8) (w : World) (hl : l.length ≤ 1048576) (hm : MxAt w) :
    Calls Tryz.prog 30 #[.string (str l), .string ⟨#[32, 61, 32]⟩] w fun e w' => e = .returned (.tuple #[.string (str (Lib.cut l sepE).1), .string (str (Lib.cut l sepE).2.1), .bool (Lib.cut l sepE).2.2]) ∧ Below w.heap.size w w' := by
  obtain ⟨m, hm⟩ := hm
  have hz := str_size l
  have h := Any.strings_Cut Tryz.lays145 (str l) ⟨#[32, 61, 32]⟩ m w (by omega) hm
  refine Calls.mono h fun e w' ⟨he, n, hw⟩ => ⟨?_, ?_⟩
  · rw [he]; rfl
  · rw [hw]; exact below_drewN (Below.refl _ _) n
theorem cut_len {l : List UInt8} : (Lib.cut l sepE).1.length ≤ l.length ∧ (Lib.cut l sepE).2.1.length ≤ l.length := by
  unfold Lib.cut
  split
  · simp; omega
  · simp
/-- What the program gives a text up with. -/
def gaveUp : List PanicEntry := [{ v := .iface 61 (.agg #[]), recovered := false }]
def EoPost (l : List UInt8) (w : World) (e : Ending) (w' : World) : Prop :=
  ∃ s v k s' v' k' t, eqA l = ((s, v, k), (s', v', k'), t) ∧ Below w.heap.size w w' ∧
    ((t = true ∧ ∃ a c a' c' m, e = .returned (.agg #[.int .i64 s, .int .i64 v, .slice a (flen k) c, .int .i64 s', .int .i64 v', .slice a' (flen k') c']) ∧ w.heap.size ≤ m ∧ m ≤ w'.heap.size ∧ TX w' w.heap.size m a k ∧ TX w' m w'.heap.size a' k') ∨
     (t = false ∧ e = .panicked gaveUp))

theorem eo_give {l : List UInt8} {w w' : World} (h : eqA l = ((0, 0, .nil), (0, 0, .nil), false)) (hb : Below w.heap.size w w') : EoPost l w (.panicked gaveUp) w' :=
  ⟨_, _, _, _, _, _, _, h, hb, .inr ⟨rfl, rfl⟩⟩
theorem eo_end {w w1 : World} {l : List UInt8} {s v : Int} {k : Fo} {s' v' : Int} {k' : Fo} {a a' : Option Addr} {c c' m n : Nat} (hr : eqA l = ((s, v, k), (s', v', k'), true)) (hb : Below w.heap.size w w1) (hl : TX w1 (w.heap.size + 1) m a k) (hl' : TX w1 (m + 1) n a' k') (hm : w.heap.size ≤ m) (hm' : m ≤ w1.heap.size) (hn : n ≤ w1.heap.size) (x0 x1 x2 x3 x4 x5 : Value) :
    EoPost l w (.returned (.agg #[.int .i64 s, .int .i64 v, .slice a (flen k) c, .int .i64 s', .int .i64 v', .slice a' (flen k') c'])) ((((((w1.setCell ⟨w.heap.size, 0, none⟩ x0).setCell ⟨w.heap.size, 1, none⟩ x1).setCell ⟨w.heap.size, 2, none⟩ x2).setCell ⟨w.heap.size, 3, none⟩ x3).setCell ⟨w.heap.size, 4, none⟩ x4).setCell ⟨w.heap.size, 5, none⟩ x5) :=
  ⟨s, v, k, s', v', k', true, hr, below_set6 (Nat.le_refl _) hb .., .inl ⟨rfl, a, c, a', c', m, rfl, hm, by simpa using hm', (hl.same (same_set6 (n := w.heap.size) (by omega) x0 x1 x2 x3 x4 x5)).mono (by omega) (Nat.le_refl _), (hl'.same (same_set6 (n := w.heap.size) (by omega) x0 x1 x2 x3 x4 x5)).mono (by omega) (by simpa using hn)⟩⟩

set_option maxRecDepth 100000 in
set_option maxHeartbeats 2000000 in
theorem eqOf_any (l : List UInt8) (w : World) (hl : l.length ≤ 1048576) (hE : ErrAt w w.heap.size) (hM : MxAt w) :
    Calls Tryz.prog 18 #[.string (str l)] w (EoPost l w) := by
  have hb0 : Below w.heap.size w (w.alloc (.cells #[.int .i64 0, .int .i64 0, .slice none 0 0, .int .i64 0, .int .i64 0, .slice none 0 0] 27)) := (Below.refl _ _).alloc (Nat.le_refl _) _
  have HB0 := Lib.hid hb0
  have hcut := cut_any l _ hl (hM.below hb0)
  have hce : ∃ A B f, Lib.cut l sepE = (A, B, f) := ⟨_, _, _, rfl⟩
  obtain ⟨A, B, f, hce⟩ := hce
  have hAB := cut_len (l := l)
  rw [hce] at hcut hAB
  have HCE := Lib.hid hce
  have HCUT := Lib.hid hcut
  have HA : Hid (A.length ≤ 1048576) := Nat.le_trans hAB.1 hl
  have HB : Hid (B.length ≤ 1048576) := Nat.le_trans hAB.2 hl
  have HE := Lib.hid hE
  clear hb0 hcut hce hAB hl hE hM
  go_enter Tryz.func18, Tryz.ntmps18
  go_wp2_with fail
  with_reducible refine HCUT.out.mono ?_
  rintro e w2 ⟨rfl, hb2⟩
  have hs2 := hb2.size
  simp at hs2
  have hb2' : Below (w.heap.size + 1) (w.alloc (.cells #[.int .i64 0, .int .i64 0, .slice none 0 0, .int .i64 0, .int .i64 0, .slice none 0 0] 27)) w2 := by simpa using hb2
  have HB2 := Lib.hid hb2'
  have HB2' := Lib.hid (HB0.out.trans (hb2'.mono (Nat.le_succ _)))
  have HE2 : Hid (ErrAt w2 w2.heap.size) := (HE.out.same (Same.of_below HB2'.out)).mono (by omega)
  clear hb2 hb2' HCUT
  go_wp2_with fail
  with_reducible refine (iTermReadT_any A _ HA.out HE2.out).mono ?_
  rintro e w3 ⟨a3, c3, s, v, k, t, hR, rfl, hb3, hl3⟩
  have HR3 := Lib.hid hR
  have hs3 := hb3.size
  have hb4 := hb3.alloc hs3 (.cells #[.int .i64 s, .int .i64 v, .slice a3 (flen k) c3] 25)
  have HB4 := Lib.hid (HB2.out.trans (hb4.mono (by omega)))
  have HB4' := Lib.hid (HB2'.out.trans (hb4.mono (by omega)))
  have hl4 : TX (w3.alloc (.cells #[.int .i64 s, .int .i64 v, .slice a3 (flen k) c3] 25)) (w.heap.size + 1) w3.heap.size a3 k := (hl3.same (Same.of_below ((Below.refl _ _).alloc (Nat.le_refl _) _))).mono (by omega) (Nat.le_refl _)
  have HL4 := Lib.hid hl4
  have HX4 : Hid (Below (w3.heap.size + 1) (w3.alloc (.cells #[.int .i64 s, .int .i64 v, .slice a3 (flen k) c3] 25)) (w3.alloc (.cells #[.int .i64 s, .int .i64 v, .slice a3 (flen k) c3] 25))) := Below.refl _ _
  have HE4 : Hid (ErrAt (w3.alloc (.cells #[.int .i64 s, .int .i64 v, .slice a3 (flen k) c3] 25)) (w3.alloc (.cells #[.int .i64 s, .int .i64 v, .slice a3 (flen k) c3] 25)).heap.size) := (HE.out.same (Same.of_below HB4'.out)).mono (by simp; omega)
  clear hb3 hb4 hl3 hl4 hR
  go_wp2_with fail
  with_reducible refine (iTermReadT_any B _ HB.out HE4.out).mono ?_
  rintro e w5 ⟨a5, c5, s', v', k', t', hR, rfl, hb5, hl5⟩
  have HR5 := Lib.hid hR
  have hs5 := hb5.size
  simp at hs5
  have hb6 := (hb5.alloc hb5.size (.cells #[.int .i64 s', .int .i64 v', .slice a5 (flen k') c5] 25))
  have HX6 := Lib.hid (HX4.out.trans (hb6.mono (by simp)))
  have HB6 := Lib.hid (HB4.out.trans (hb6.mono (by simp; omega)))
  have HB6' := Lib.hid (HB4'.out.trans (hb6.mono (by simp; omega)))
  have HY6 : Hid (Below (w5.heap.size + 1) (w5.alloc (.cells #[.int .i64 s', .int .i64 v', .slice a5 (flen k') c5] 25)) (w5.alloc (.cells #[.int .i64 s', .int .i64 v', .slice a5 (flen k') c5] 25))) := Below.refl _ _
  have HL6 : Hid (TX (w5.alloc (.cells #[.int .i64 s', .int .i64 v', .slice a5 (flen k') c5] 25)) (w.heap.size + 1) w3.heap.size a3 k) := HL4.out.same (Same.of_below (hb6.mono (by simp)))
  have HL6' : Hid (TX (w5.alloc (.cells #[.int .i64 s', .int .i64 v', .slice a5 (flen k') c5] 25)) (w3.heap.size + 1) w5.heap.size a5 k') := (hl5.same (Same.of_below ((Below.refl _ _).alloc (Nat.le_refl _) _))).mono (by simp) (Nat.le_refl _)
  clear hb5 hb6 hl5 hR
  have HA := Lib.hid (eqA_cut HCE.out HR3.out HR5.out)
  obtain ⟨hx0, hx1, hx2⟩ := box_cells ⟨_, HX6.out⟩
  dsimp only at hx0 hx1 hx2
  obtain ⟨hy0, hy1, hy2⟩ := box_cells ⟨_, HY6.out⟩
  dsimp only at hy0 hy1 hy2
  obtain ⟨hr0, hr1, hr2, hr3, hr4, hr5⟩ := box6u rfl HB6.out
  obtain ⟨hq0, hq1, hq2, hq3, hq4, hq5⟩ := froz6 rfl HB6.out
  cases f
  · have HF := Lib.hid (HA.out.trans (if_neg (by simp)))
    go_wp2_with fail
    exact ⟨rfl, eo_give HF.out HB6'.out⟩
  cases t
  · have HF := Lib.hid (HA.out.trans (if_neg (by simp)))
    go_wp2_with fail
    exact ⟨rfl, eo_give HF.out HB6'.out⟩
  cases t'
  · have HF := Lib.hid (HA.out.trans (if_neg (by simp)))
    go_wp2_with fail
    exact ⟨rfl, eo_give HF.out HB6'.out⟩
  have HF := Lib.hid (HA.out.trans (if_pos (by simp)))
  go_wp2_with fail
  refine bodyPost_ret (v := .agg #[.int .i64 s, .int .i64 v, .slice a3 (flen k) c3, .int .i64 s', .int .i64 v', .slice a5 (flen k') c5]) ?_ rfl (eo_end HF.out HB6'.out HL6.out HL6'.out (by omega) (by simp; omega) (by simp) _ _ _ _ _ _)
  simp [results, Tryz.results18, go_sem, hr0, hr1, hr2, hr3, hr4, hr5]
end Go.Proofs.YtbnbogdglffkmaaGreatDoor

/-! ER4: The closure that the program's read defers: it takes up what gives a text up, and nothing else. -/
namespace Go.Proofs.YtbnbogdglffkmaaGreatDoor
open Go.RowKit Go.Deep

theorem assert_gave (w : World) : (Instr.typeAssert (.iface 61 (.agg #[])) 20 61 true).run Tryz.prog w = .ok (.tuple #[.agg #[], .bool true]) w := by kernel_rfl
theorem assert_none (w : World) : (Instr.typeAssert .nilIface 20 61 true).run Tryz.prog w = .ok (.tuple #[.agg #[], .bool false]) w := by kernel_rfl
set_option maxRecDepth 100000 in
theorem catch_give (w : World) :
    CallsD Tryz.prog 29 #[] (.panicking gaveUp) w fun e u' w' =>
      e = .returned (.tuple #[]) ∧ u' = .panicking [{ v := .iface 61 (.agg #[]), recovered := true }] ∧ Below w.heap.size w w' := by
  have hta := assert_gave
  have htn := assert_none
  refine callsD_of_wpS Tryz.func29 rfl fun c₀ cs hu => ?_
  simp only [Tryz.ntmps29, List.size_toArray, List.length_nil, Nat.reduceSub, Array.replicate_succ, Array.replicate_zero, List.push_toArray, List.append_toArray, List.nil_append, List.cons_append]
  apply wpS_seq
  apply wpS_region
  simp [wpOpsS, go_sem, recoverD, hu, gaveUp, Exit.thenS]
  refine wpS_of_wp ?_
  go_wp2_with fail
  exact ⟨rfl, _, rfl, .tuple #[], results_none rfl _ _ _, rfl, rfl, (Below.refl _ _).alloc (Nat.le_refl _) _⟩

set_option maxRecDepth 100000 in
theorem catch_idle (w : World) :
    CallsD Tryz.prog 29 #[] .returning w fun e u' w' => e = .returned (.tuple #[]) ∧ u' = .returning ∧ Below w.heap.size w w' := by
  have hta := assert_gave
  have htn := assert_none
  refine callsD_of_wpS Tryz.func29 rfl fun c₀ cs hu => ?_
  simp only [Tryz.ntmps29, List.size_toArray, List.length_nil, Nat.reduceSub, Array.replicate_succ, Array.replicate_zero, List.push_toArray, List.append_toArray, List.nil_append, List.cons_append]
  apply wpS_seq
  apply wpS_region
  simp [wpOpsS, go_sem, recoverD, hu, Exit.thenS]
  refine wpS_of_wp ?_
  go_wp2_with fail
  exact ⟨rfl, .returning, by cases c₀; simp_all, .tuple #[], results_none rfl _ _ _, rfl, rfl, (Below.refl _ _).alloc (Nat.le_refl _) _⟩
end Go.Proofs.YtbnbogdglffkmaaGreatDoor
