/- Several texts in one: EQW, XE2, ReadE. -/
import Derived.Test.YtbnbogdglffkmaaKEw5
import Derived.Test.YtbnbogdglffkmaaKEw11
import Derived.Test.YtbnbogdglffkmaaKEw12
import Derived.Test.YtbnbogdglffkmaaKEw3

/-! EQW: EqWrite of the specification and of the program. -/
namespace Go.Proofs.Ytbnbogdglffkmaa
open Go.RowKit Go.Deep

/-- The text of an equation. -/
def etx (s v : Int) (k : Fo) (s' v' : Int) (k' : Fo) : List UInt8 := if okW s v k 16 = true ∧ okW s' v' k' 16 = true then tx s v k ++ ([32, 61, 32] ++ tx s' v' k') else []
theorem etx_ok {s v : Int} {k : Fo} {s' v' : Int} {k' : Fo} (h : okW s v k 16 = true) (h' : okW s' v' k' 16 = true) : etx s v k s' v' k' = tx s v k ++ ([32, 61, 32] ++ tx s' v' k') := by unfold etx; rw [if_pos ⟨h, h'⟩]
theorem etx_no {s v : Int} {k : Fo} {s' v' : Int} {k' : Fo} (h : okW s v k 16 = false ∨ okW s' v' k' 16 = false) : etx s v k s' v' k' = [] := by
  unfold etx
  rw [if_neg]
  rintro ⟨h1, h2⟩
  rcases h with h | h
  · rw [h1] at h; cases h
  · rw [h2] at h; cases h
theorem esl_one {w : World} {s v : Int} {a : Option Addr} {c : Nat} {k : Fo} {s' v' : Int} {a' : Option Addr} {c' : Nat} {k' : Fo} (hl : Sl w 0 w.heap.size a k) (hl' : Sl w 0 w.heap.size a' k') (T : TypeId) :
    ESl (w.alloc (.cells #[.int .i64 s, .int .i64 v, .slice a (flen k) c, .int .i64 s', .int .i64 v', .slice a' (flen k') c'] T)) 0 (w.alloc (.cells #[.int .i64 s, .int .i64 v, .slice a (flen k) c, .int .i64 s', .int .i64 v', .slice a' (flen k') c'] T)).heap.size (some ⟨w.heap.size, 0, none⟩) [((s, v, k), s', v', k')] := by
  have hb : Below w.heap.size w (w.alloc (.cells #[.int .i64 s, .int .i64 v, .slice a (flen k) c, .int .i64 s', .int .i64 v', .slice a' (flen k') c'] T)) := (Below.refl _ _).alloc (Nat.le_refl _) _
  refine .inr ⟨w.heap.size, 0, rfl, Nat.zero_le _, by simp, fun i x hx => ?_⟩
  cases i with
  | zero =>
    simp only [List.getElem?_cons_zero, Option.some.injEq] at hx
    subst hx
    refine ⟨a, c, a', c', ?_, ?_, ?_, ?_, ?_, ?_, (hl.below hb).mono (Nat.le_refl _) hb.size, (hl'.below hb).mono (Nat.le_refl _) hb.size⟩
    all_goals simp
  | succ i => simp at hx

set_option maxRecDepth 100000 in
set_option maxHeartbeats 2000000 in
theorem sEqWrite_any (s v : Int) (a : Option Addr) (c : Nat) (k : Fo) (s' v' : Int) (a' : Option Addr) (c' : Nat) (k' : Fo) (w : World) (hl : Sl w 0 w.heap.size a k) (hl' : Sl w 0 w.heap.size a' k') :
    Calls Try.prog 5 #[.agg #[.int .i64 s, .int .i64 v, .slice a (flen k) c, .int .i64 s', .int .i64 v', .slice a' (flen k') c']] w fun e w' => e = .returned (.string (str (etx s v k s' v' k'))) ∧ Below w.heap.size w w' := by
  have hb0 : Below w.heap.size w (w.alloc (.cells #[.int .i64 s, .int .i64 v, .slice a (flen k) c, .int .i64 s', .int .i64 v', .slice a' (flen k') c'] 33)) := (Below.refl _ _).alloc (Nat.le_refl _) _
  have hl0 := (hl.below hb0).mono (Nat.le_refl _) hb0.size
  have hl0' := (hl'.below hb0).mono (Nat.le_refl _) hb0.size
  have hes := esl_one (s := s) (v := v) (c := c) (s' := s') (v' := v') (c' := c') hl0 hl0' 33
  have hb1 := hb0.alloc hb0.size (.cells #[.int .i64 s, .int .i64 v, .slice a (flen k) c, .int .i64 s', .int .i64 v', .slice a' (flen k') c'] 33)
  have hcells : ∀ u : World, Below (w.heap.size + 1) (w.alloc (.cells #[.int .i64 s, .int .i64 v, .slice a (flen k) c, .int .i64 s', .int .i64 v', .slice a' (flen k') c'] 33)) u → ∀ i, i < 6 → u.cell? ⟨w.heap.size, i, none⟩ = #[Value.int .i64 s, .int .i64 v, .slice a (flen k) c, .int .i64 s', .int .i64 v', .slice a' (flen k') c'][i]? := fun u hu i _ => by rw [hu.cell (by simp), box6]
  have hok := sEqsOk_any [((s, v, k), s', v', k')] _ 1 _ hes (by simp)
  simp only [World.size_alloc, List.length_singleton] at hok
  have HOK := Lib.hid hok
  have HB1 := Lib.hid hb1
  have HC := Lib.hid hcells
  have HL := Lib.hid hl0
  have HL' := Lib.hid hl0'
  clear hl hl' hl0 hl0' hes hb0 hb1 hok hcells
  go_enter Try.func5, Try.ntmps5
  go_wp2_with fail
  with_reducible refine HOK.out.mono ?_
  rintro e w2 ⟨rfl, hb2⟩
  have hw2 : Below (w.heap.size + 1) (w.alloc (.cells #[.int .i64 s, .int .i64 v, .slice a (flen k) c, .int .i64 s', .int .i64 v', .slice a' (flen k') c'] 33)) w2 := ((Below.refl _ _).alloc (by simp) _).trans (hb2.mono (by simp))
  have hs2 := hb2.size
  simp at hs2
  have HW2 := Lib.hid hw2
  have HB2 : Hid (Below w.heap.size w w2) := ((Below.refl _ _).alloc (Nat.le_refl _) _).trans (hw2.mono (Nat.le_succ _))
  have HL2 : Hid (Sl w2 0 (w.heap.size + 1) a k) := (HL.out.below (hw2.mono (by simp))).mono (Nat.le_refl _) (by simp)
  have HL2' : Hid (Sl w2 0 (w.heap.size + 1) a' k') := (HL'.out.below (hw2.mono (by simp))).mono (Nat.le_refl _) (by simp)
  clear hw2 hb2 HOK HB1 HL HL'
  have hE : okEs [((s, v, k), s', v', k')] = (okW s v k 16 && okW s' v' k' 16) := by simp [okEs, okE, okT3]
  rw [hE]
  cases h1 : okW s v k 16 with
  | false =>
    have HF := Lib.hid (etx_no (s' := s') (v' := v') (k' := k') (.inl h1))
    clear hE h1
    go_wp2_with fail
    go_ret
    exact ⟨by rw [HF.out]; rfl, HB2.out⟩
  | true =>
    cases h2 : okW s' v' k' 16 with
    | false =>
      have HF := Lib.hid (etx_no (s := s) (v := v) (k := k) (.inr h2))
      clear hE h1 h2
      go_wp2_with fail
      go_ret
      exact ⟨by rw [HF.out]; rfl, HB2.out⟩
    | true =>
      have HX := Lib.hid (etx_ok h1 h2)
      have ho1 := (okW_iff _ _ _ _).1 h1
      have ho2 := (okW_iff _ _ _ _).1 h2
      have HO1 := Lib.hid ho1
      have HO2 := Lib.hid ho2
      have hz1 : fsz k ≤ 15 := by have := ho1.2.2; omega
      have hz2 : fsz k' ≤ 15 := by have := ho2.2.2; omega
      obtain ⟨X, hX⟩ : ∃ X, X = str (tx s v k) := ⟨_, rfl⟩
      obtain ⟨Y, hY⟩ : ∃ Y, Y = str (tx s' v' k') := ⟨_, rfl⟩
      have hXz : X.size ≤ 200 := by rw [hX, str_size]; exact tx_len h1
      have hYz : Y.size ≤ 200 := by rw [hY, str_size]; exact tx_len h2
      have hall : ∀ u : After (w.heap.size + 1) w2, ∀ i, i < 6 → u.world.cell? ⟨w.heap.size, i, none⟩ = #[Value.int .i64 s, .int .i64 v, .slice a (flen k) c, .int .i64 s', .int .i64 v', .slice a' (flen k') c'][i]? := fun u i hi => HC.out _ (HW2.out.trans u.below) i hi
      have hu0 : ∀ u : After (w.heap.size + 1) w2, u.world.cell? ⟨w.heap.size, 0, none⟩ = some (.int .i64 s) := fun u => hall u 0 (by omega)
      have hu1 : ∀ u : After (w.heap.size + 1) w2, u.world.cell? ⟨w.heap.size, 1, none⟩ = some (.int .i64 v) := fun u => hall u 1 (by omega)
      have hu2 : ∀ u : After (w.heap.size + 1) w2, u.world.cell? ⟨w.heap.size, 2, none⟩ = some (.slice a (flen k) c) := fun u => hall u 2 (by omega)
      have hu3 : ∀ u : After (w.heap.size + 1) w2, u.world.cell? ⟨w.heap.size, 3, none⟩ = some (.int .i64 s') := fun u => hall u 3 (by omega)
      have hu4 : ∀ u : After (w.heap.size + 1) w2, u.world.cell? ⟨w.heap.size, 4, none⟩ = some (.int .i64 v') := fun u => hall u 4 (by omega)
      have hu5 : ∀ u : After (w.heap.size + 1) w2, u.world.cell? ⟨w.heap.size, 5, none⟩ = some (.slice a' (flen k') c') := fun u => hall u 5 (by omega)
      have hf : (str (tx s v k) ++ ⟨#[32, 61, 32]⟩) ++ str (tx s' v' k') = str (etx s v k s' v' k') := by
        rw [HX.out, show (⟨#[32, 61, 32]⟩ : ByteArray) = str [32, 61, 32] from rfl, str_add, str_add, List.append_assoc]
      rw [← hX, ← hY] at hf
      have HFF := Lib.hid hf
      have hd1 : ¬ 9223372036854775807 < X.size + 3 := by omega
      have hd2 : ¬ 9223372036854775807 < X.size + 3 + Y.size := by omega
      have HXX := Lib.hid hX
      have HYY := Lib.hid hY
      clear hE hX hY hf hall ho1 ho2 h1 h2
      go_wp2_with fail
      refine wp_region_mix (fun w' => ∃ u : After (w.heap.size + 1) w2, w' = u.world) [] [(0, 0), (1, 0), (4, 0), (5, 0), (2, 1), (3, 0), (6, 1), (7, 0), (8, 0)] (by kernel_rfl) (by kernel_rfl) ⟨⟨_, (Below.refl _ _).drew⟩, rfl⟩ ?_
      iterate 4
        refine mix_see rfl (fun K hK => ?_)
        go_simp
        refine hK _ ?_
        clear hK K
      clear hu0 hu1 hu2 hu3 hu4 hu5
      refine mix_hold rfl (fun K hK => ?_)
      go_simp
      with_reducible refine (l1Say_any 15 s v a c k _ ?_ HO1.out.1 HO1.out.2.1 hz1 (by omega)).mono ?_
      · exact (HL2.out.below (Below.refl _ _).drew).mono (Nat.le_refl _) (show w.heap.size + 1 ≤ w2.heap.size by omega)
      rintro e w3 ⟨rfl, hb3⟩
      rw [← HXX.out]
      have hb3' : Below w2.heap.size w2 w3 := bl_undrew hb3
      have hs3 := hb3'.size
      have HL3' : Hid (Sl w3 0 w3.heap.size a' k') := (HL2'.out.below (hb3'.mono (by omega))).mono (Nat.le_refl _) (by omega)
      have HB3 := Lib.hid (HB2.out.trans (hb3'.mono (by omega)))
      have HS3 : Hid (∃ u : After (w.heap.size + 1) w2, w3 = u.world) := ⟨⟨_, hb3'.mono (by omega)⟩, rfl⟩
      refine hK _ _ HS3.out ?_
      clear hK K hb3 hb3'
      refine mix_see rfl (fun K hK => ?_)
      go_simp
      refine hK _ ?_
      clear hK K
      refine mix_hold rfl (fun K hK => ?_)
      go_simp
      with_reducible refine (l1Say_any 15 s' v' a' c' k' _ HL3'.out HO2.out.1 HO2.out.2.1 hz2 (by omega)).mono ?_
      rintro e w4 ⟨rfl, hb4⟩
      rw [← HYY.out]
      have HB4 := Lib.hid (HB3.out.trans (hb4.mono (by omega)))
      have HS4 : Hid (∃ u : After (w.heap.size + 1) w2, w4 = u.world) := by
        obtain ⟨u, hu⟩ := HS3.out
        exact ⟨⟨w4, (hu ▸ u.below : Below (w.heap.size + 1) w2 w3).trans (hb4.mono (by omega))⟩, rfl⟩
      refine hK _ _ HS4.out ?_
      clear hK K hb4
      iterate 2
        refine mix_see rfl (fun K hK => ?_)
        go_simp
        refine hK _ ?_
        clear hK K
      refine mix_end ?_
      go_wp2_with fail
      go_ret
      exact ⟨by rw [← HFF.out]; rfl, HB4.out⟩

theorem text_empty {s v : Int} {k : Fo} {b : Bool} (h : okW s v k 16 = b) : (str (if okW s v k 16 = true then tx s v k else [])).toList.isEmpty = !b := by
  rw [Lib.toList_data, str_toList']
  cases b with
  | false => rw [h]; rfl
  | true =>
    rw [if_pos h]
    cases ht : tx s v k with
    | nil => exact absurd ht tx_ne
    | cons => rfl
set_option maxRecDepth 100000 in
set_option maxHeartbeats 2000000 in
theorem iEqWrite_any (s v : Int) (a : Option Addr) (c : Nat) (k : Fo) (s' v' : Int) (a' : Option Addr) (c' : Nat) (k' : Fo) (w : World) (hl : Sl w 0 w.heap.size a k) (hl' : Sl w 0 w.heap.size a' k') :
    Calls Try.prog 7 #[.agg #[.int .i64 s, .int .i64 v, .slice a (flen k) c, .int .i64 s', .int .i64 v', .slice a' (flen k') c']] w fun e w' => e = .returned (.string (str (etx s v k s' v' k'))) ∧ Below w.heap.size w w' := by
  have hb0 : Below w.heap.size w (w.alloc (.cells #[.int .i64 s, .int .i64 v, .slice a (flen k) c, .int .i64 s', .int .i64 v', .slice a' (flen k') c'] 33)) := (Below.refl _ _).alloc (Nat.le_refl _) _
  have HL : Hid (Sl (w.alloc (.cells #[.int .i64 s, .int .i64 v, .slice a (flen k) c, .int .i64 s', .int .i64 v', .slice a' (flen k') c'] 33)) 0 (w.heap.size + 1) a k) := (hl.below hb0).mono (Nat.le_refl _) (by omega)
  have HL' : Hid (Sl (w.alloc (.cells #[.int .i64 s, .int .i64 v, .slice a (flen k) c, .int .i64 s', .int .i64 v', .slice a' (flen k') c'] 33)) 0 (w.heap.size + 1) a' k') := (hl'.below hb0).mono (Nat.le_refl _) (by omega)
  obtain ⟨w2, hw2⟩ : ∃ w2, w2 = w.alloc (.cells #[.int .i64 s, .int .i64 v, .slice a (flen k) c, .int .i64 s', .int .i64 v', .slice a' (flen k') c'] 33) := ⟨_, rfl⟩
  have hs2 : w2.heap.size = w.heap.size + 1 := by rw [hw2]; simp
  have hs2' : w.heap.size + 1 ≤ w2.heap.size := by omega
  have HS2 := Lib.hid hs2
  have HB2 : Hid (Below w.heap.size w w2) := by rw [hw2]; exact hb0
  have hall : ∀ u : After (w.heap.size + 1) w2, ∀ i, i < 6 → u.world.cell? ⟨w.heap.size, i, none⟩ = #[Value.int .i64 s, .int .i64 v, .slice a (flen k) c, .int .i64 s', .int .i64 v', .slice a' (flen k') c'][i]? := fun u i hi => by rw [u.below.cell (by simp), hw2, box6]
  have hu0 : ∀ u : After (w.heap.size + 1) w2, u.world.cell? ⟨w.heap.size, 0, none⟩ = some (.int .i64 s) := fun u => hall u 0 (by omega)
  have hu1 : ∀ u : After (w.heap.size + 1) w2, u.world.cell? ⟨w.heap.size, 1, none⟩ = some (.int .i64 v) := fun u => hall u 1 (by omega)
  have hu2 : ∀ u : After (w.heap.size + 1) w2, u.world.cell? ⟨w.heap.size, 2, none⟩ = some (.slice a (flen k) c) := fun u => hall u 2 (by omega)
  have hu3 : ∀ u : After (w.heap.size + 1) w2, u.world.cell? ⟨w.heap.size, 3, none⟩ = some (.int .i64 s') := fun u => hall u 3 (by omega)
  have hu4 : ∀ u : After (w.heap.size + 1) w2, u.world.cell? ⟨w.heap.size, 4, none⟩ = some (.int .i64 v') := fun u => hall u 4 (by omega)
  have hu5 : ∀ u : After (w.heap.size + 1) w2, u.world.cell? ⟨w.heap.size, 5, none⟩ = some (.slice a' (flen k') c') := fun u => hall u 5 (by omega)
  obtain ⟨X, hX⟩ : ∃ X, X = str (if okW s v k 16 = true then tx s v k else []) := ⟨_, rfl⟩
  obtain ⟨Y, hY⟩ : ∃ Y, Y = str (if okW s' v' k' 16 = true then tx s' v' k' else []) := ⟨_, rfl⟩
  have HXX := Lib.hid hX
  have HYY := Lib.hid hY
  rw [← hw2] at HL HL'
  clear hX hY hs2 hall hl hl' hb0
  go_enter Try.func7, Try.ntmps7
  go_wp2_with fail
  rw [← hw2]
  clear hw2
  refine wp_region_mix (fun w' => ∃ u : After (w.heap.size + 1) w2, w' = u.world) [] [(0, 0), (1, 0), (3, 0), (4, 0), (2, 1), (5, 1), (6, 0), (7, 0)] (by kernel_rfl) (by kernel_rfl) ⟨⟨_, (Below.refl _ _).drew⟩, rfl⟩ ?_
  iterate 4
    refine mix_see rfl (fun K hK => ?_)
    go_simp
    refine hK _ ?_
    clear hK K
  clear hu0 hu1 hu2 hu3 hu4 hu5
  refine mix_hold rfl (fun K hK => ?_)
  go_simp
  with_reducible refine (iTermText_any s v a c k _ ?_).mono ?_
  · exact (HL.out.below (Below.refl _ _).drew).mono (Nat.le_refl _) (show w.heap.size + 1 ≤ w2.heap.size from hs2')
  rintro e w3 ⟨rfl, hb3⟩
  rw [← HXX.out]
  have hb3' : Below w2.heap.size w2 w3 := bl_undrew hb3
  have hs3 := hb3'.size
  have HL3' : Hid (Sl w3 0 w3.heap.size a' k') := (HL'.out.below (hb3'.mono (by omega))).mono (Nat.le_refl _) (by omega)
  have HB3 := Lib.hid (HB2.out.trans (hb3'.mono (by omega)))
  have HS3 : Hid (∃ u : After (w.heap.size + 1) w2, w3 = u.world) := ⟨⟨_, hb3'.mono (by omega)⟩, rfl⟩
  refine hK _ _ HS3.out ?_
  clear hK K hb3 hb3'
  refine mix_hold rfl (fun K hK => ?_)
  go_simp
  with_reducible refine (iTermText_any s' v' a' c' k' _ HL3'.out).mono ?_
  rintro e w4 ⟨rfl, hb4⟩
  rw [← HYY.out]
  have HB4 := Lib.hid (HB3.out.trans (hb4.mono (by omega)))
  have HS4 : Hid (∃ u : After (w.heap.size + 1) w2, w4 = u.world) := by
    obtain ⟨u, hu⟩ := HS3.out
    exact ⟨⟨w4, (hu ▸ u.below : Below (w.heap.size + 1) w2 w3).trans (hb4.mono (by omega))⟩, rfl⟩
  refine hK _ _ HS4.out ?_
  clear hK K hb4
  iterate 2
    refine mix_see rfl (fun K hK => ?_)
    go_simp
    refine hK _ ?_
    clear hK K
  refine mix_end ?_
  cases h1 : okW s v k 16 with
  | false =>
    have HF := Lib.hid (etx_no (s' := s') (v' := v') (k' := k') (.inl h1))
    have q1 : X.toList.isEmpty = true := by rw [HXX.out]; exact text_empty h1
    clear h1
    go_wp2_with fail
    go_ret
    exact ⟨by rw [HF.out]; rfl, HB4.out⟩
  | true =>
    have q1 : X.toList.isEmpty = false := by rw [HXX.out]; exact text_empty h1
    cases h2 : okW s' v' k' 16 with
    | false =>
      have HF := Lib.hid (etx_no (s := s) (v := v) (k := k) (.inr h2))
      have q2 : Y.toList.isEmpty = true := by rw [HYY.out]; exact text_empty h2
      clear h1 h2
      go_wp2_with fail
      go_ret
      exact ⟨by rw [HF.out]; rfl, HB4.out⟩
    | true =>
      have q2 : Y.toList.isEmpty = false := by rw [HYY.out]; exact text_empty h2
      have hXX : X = str (tx s v k) := by rw [HXX.out, if_pos h1]
      have hYY : Y = str (tx s' v' k') := by rw [HYY.out, if_pos h2]
      have hXz : X.size ≤ 200 := by rw [hXX, str_size]; exact tx_len h1
      have hYz : Y.size ≤ 200 := by rw [hYY, str_size]; exact tx_len h2
      have hf : (X ++ ⟨#[32, 61, 32]⟩) ++ Y = str (etx s v k s' v' k') := by
        rw [hXX, hYY, etx_ok h1 h2, show (⟨#[32, 61, 32]⟩ : ByteArray) = str [32, 61, 32] from rfl, str_add, str_add, List.append_assoc]
      have HFF := Lib.hid hf
      have hd1 : ¬ 9223372036854775807 < X.size + 3 := by omega
      have hd2 : ¬ 9223372036854775807 < X.size + 3 + Y.size := by omega
      clear h1 h2 hXX hYY hf
      go_wp2_with fail
      go_ret
      exact ⟨by rw [← HFF.out]; rfl, HB4.out⟩
end Go.Proofs.Ytbnbogdglffkmaa

/-! XE2: - Copies of slices of equations in the exact laws. -/
namespace Go.Proofs.Ytbnbogdglffkmaa
open Go.RowKit Go.Deep

def TeqPost (s v : Int) (k : Fo) (s' v' : Int) (k' : Fo) (w : World) (e : Ending) (w' : World) : Prop :=
  ∃ a c a' c', e = .returned (.agg #[.int .i64 s, .int .i64 v, .slice a (flen k) c, .int .i64 s', .int .i64 v', .slice a' (flen k') c']) ∧ Below w.heap.size w w' ∧ Sl w' w.heap.size w'.heap.size a k ∧ Sl w' w.heap.size w'.heap.size a' k'
/-- Three boxes of six cells: the argument, the result, the copy. -/
structure T3b (w : World) (C : Array Value) (u : World) : Prop where
  low : Below w.heap.size w u
  size : w.heap.size + 3 ≤ u.heap.size
  a : ∀ i, i < 6 → u.cell? ⟨w.heap.size, i, none⟩ = C[i]?
  r : ∀ i, i < 6 → (u.cell? ⟨w.heap.size + 1, i, none⟩).isSome = true
  o : ∀ i, i < 6 → (u.cell? ⟨w.heap.size + 1 + 1, i, none⟩).isSome = true
  f : ∀ i, u.frozen? ⟨w.heap.size + 1, i, none⟩ = false
  g : ∀ i, u.frozen? ⟨w.heap.size + 1 + 1, i, none⟩ = false
theorem T3b.next {w : World} {C : Array Value} {u u' : World} (h : T3b w C u) (hb : Below u.heap.size u u') : T3b w C u' := by
  have hs := h.size
  exact ⟨h.low.trans (hb.mono (by omega)), Nat.le_trans hs hb.size, fun i hi => (hb.cell (by simp; omega)).trans (h.a i hi), fun i hi => by rw [hb.cell (by simp; omega)]; exact h.r i hi, fun i hi => by rw [hb.cell (by simp; omega)]; exact h.o i hi, fun i => (hb.frozen (by simp; omega)).trans (h.f i), fun i => (hb.frozen (by simp; omega)).trans (h.g i)⟩
theorem isSome_setCell {u : World} {p q : Addr} {x : Value} (h : (u.cell? q).isSome = true) : ((u.setCell p x).cell? q).isSome = true := by
  by_cases e : p = q
  · subst e
    rw [World.cell?_setCell_same' _ _ _ h]; rfl
  · rw [World.cell?_setCell_other _ _ _ _ e]; exact h
theorem T3b.set {w : World} {C : Array Value} {u : World} (h : T3b w C u) (j : Nat) (x : Value) : T3b w C (u.setCell ⟨w.heap.size + 1 + 1, j, none⟩ x) :=
  ⟨h.low.setCell (by dsimp only; omega) _, by rw [World.size_setCell]; exact h.size, fun i hi => (World.cell?_setCell_other _ _ _ _ (fun e => by have := congrArg Addr.block e; dsimp only at this; omega)).trans (h.a i hi), fun i hi => isSome_setCell (h.r i hi), fun i hi => isSome_setCell (h.o i hi), fun i => by rw [World.frozen?_setCell]; exact h.f i, fun i => by rw [World.frozen?_setCell]; exact h.g i⟩
theorem T3b.start {w : World} {c0 c1 c2 c3 c4 c5 : Value} {T1 T2 T3 : TypeId} : T3b w #[c0, c1, c2, c3, c4, c5] (((w.alloc (.cells #[c0, c1, c2, c3, c4, c5] T1)).alloc (.cells #[.int .i64 0, .int .i64 0, .slice none 0 0, .int .i64 0, .int .i64 0, .slice none 0 0] T2)).alloc (.cells #[.int .i64 0, .int .i64 0, .slice none 0 0, .int .i64 0, .int .i64 0, .slice none 0 0] T3)) := by
  refine ⟨(((Below.refl _ _).alloc (Nat.le_refl _) _).alloc (by simp) _).alloc (by simp; omega) _, by simp, fun i _ => ?_, fun i hi => ?_, fun i hi => ?_, fun i => ?_, fun i => ?_⟩
  · rw [World.cell?_alloc_lt _ _ _ (by simp; omega), World.cell?_alloc_lt _ _ _ (by simp), World.cell?_alloc_at _ _ _ _ (by simp)]
  · rw [World.cell?_alloc_lt _ _ _ (by simp), World.cell?_alloc_at _ _ _ _ (by simp)]; simpa using hi
  · rw [World.cell?_alloc_at _ _ _ _ (by simp)]; simpa using hi
  · rw [((Below.refl _ _).alloc (Nat.le_refl _) _).frozen (by simp), World.frozen?_alloc_at _ _ _ _ (by simp)]
  · rw [World.frozen?_alloc_at _ _ _ _ (by simp)]

set_option maxRecDepth 100000 in
set_option maxHeartbeats 1000000 in
theorem toEq_any (s v : Int) (a : Option Addr) (c : Nat) (k : Fo) (s' v' : Int) (a' : Option Addr) (c' : Nat) (k' : Fo) (w : World) (hl : Sl w 0 w.heap.size a k) (hl' : Sl w 0 w.heap.size a' k') (hN : fsz k ≤ 1048576) (hN' : fsz k' ≤ 1048576) :
    Calls Try.prog 6 #[.agg #[.int .i64 s, .int .i64 v, .slice a (flen k) c, .int .i64 s', .int .i64 v', .slice a' (flen k') c']] w (TeqPost s v k s' v' k' w) := by
  obtain ⟨W, hW⟩ : ∃ W, ((w.alloc (.cells #[.int .i64 s, .int .i64 v, .slice a (flen k) c, .int .i64 s', .int .i64 v', .slice a' (flen k') c'] 26)).alloc (.cells #[.int .i64 0, .int .i64 0, .slice none 0 0, .int .i64 0, .int .i64 0, .slice none 0 0] 33)).alloc (.cells #[.int .i64 0, .int .i64 0, .slice none 0 0, .int .i64 0, .int .i64 0, .slice none 0 0] 33) = W := ⟨_, rfl⟩
  have hS0 : T3b w #[.int .i64 s, .int .i64 v, .slice a (flen k) c, .int .i64 s', .int .i64 v', .slice a' (flen k') c'] W := hW ▸ T3b.start
  have HS := Lib.hid hS0
  have HL := Lib.hid (Sl.next hl hS0.low)
  have HL2 := Lib.hid hl'
  have c0 : W.cell? ⟨w.heap.size, 0, none⟩ = some (.int .i64 s) := hS0.a 0 (by decide)
  have c1 : W.cell? ⟨w.heap.size, 1, none⟩ = some (.int .i64 v) := hS0.a 1 (by decide)
  have c2 : W.cell? ⟨w.heap.size, 2, none⟩ = some (.slice a (flen k) c) := hS0.a 2 (by decide)
  clear hS0 hl hl'
  go_enter Try.func6, Try.ntmps6
  go_wp2_with fail
  with_reducible refine (toTerm_ofT s v a c k _ (fun w1 hb1 => toTermS_anyT (fsz k) a c k w1 ((HL.out.below hb1).mono (Nat.le_refl _) hb1.size) (Nat.le_refl _) hN)).mono ?_
  rintro e w1 ⟨a1, d1, rfl, hb, hx⟩
  have hS1 := HS.out.next hb
  have HSL1 := Lib.hid hx.1
  obtain ⟨x0, o0⟩ := Option.isSome_iff_exists.1 (hS1.o 0 (by decide))
  obtain ⟨x1, o1⟩ := Option.isSome_iff_exists.1 (hS1.o 1 (by decide))
  obtain ⟨x2, o2⟩ := Option.isSome_iff_exists.1 (hS1.o 2 (by decide))
  have g0 := hS1.g 0
  have g1 := hS1.g 1
  have g2 := hS1.g 2
  obtain ⟨V, hV⟩ : ∃ V, ((w1.setCell ⟨w.heap.size + 1 + 1, 0, none⟩ (.int .i64 s)).setCell ⟨w.heap.size + 1 + 1, 1, none⟩ (.int .i64 v)).setCell ⟨w.heap.size + 1 + 1, 2, none⟩ (.slice a1 (flen k) d1) = V := ⟨_, rfl⟩
  have hSV := ((hS1.set 0 (.int .i64 s)).set 1 (.int .i64 v)).set 2 (.slice a1 (flen k) d1)
  have hp0 : V.cell? ⟨w.heap.size + 1 + 1, 0, none⟩ = some (.int .i64 s) := by rw [← hV, World.cell?_setCell_other _ _ _ _ (by simp), World.cell?_setCell_other _ _ _ _ (by simp), World.cell?_setCell_same _ _ _ o0]
  have hp1 : V.cell? ⟨w.heap.size + 1 + 1, 1, none⟩ = some (.int .i64 v) := by rw [← hV, World.cell?_setCell_other _ _ _ _ (by simp), World.cell?_setCell_same' _ _ _ (isSome_setCell (by rw [o1]; rfl))]
  have hp2 : V.cell? ⟨w.heap.size + 1 + 1, 2, none⟩ = some (.slice a1 (flen k) d1) := by rw [← hV, World.cell?_setCell_same' _ _ _ (isSome_setCell (isSome_setCell (by rw [o2]; rfl)))]
  have hV1 : Same (w.heap.size + 3) w1.heap.size w1 V := by
    rw [← hV]
    exact ((Same.setCell (fun _ _ _ => rfl) (.inl (by simp)) _).setCell (.inl (by simp)) _).setCell (.inl (by simp)) _
  rw [hV] at hSV
  have hszV : w1.heap.size ≤ V.heap.size := by rw [← hV]; simp
  have hsW := HS.out.size
  have HSL2 : Hid (Sl V (w.heap.size + 3) V.heap.size a1 k) := ((HSL1.out.mono hsW (Nat.le_refl _)).same hV1).mono (Nat.le_refl _) hszV
  have HSV := Lib.hid hSV
  have HLV := Lib.hid (Sl.next HL2.out hSV.low)
  have d3 : V.cell? ⟨w.heap.size, 3, none⟩ = some (.int .i64 s') := hSV.a 3 (by decide)
  have d4 : V.cell? ⟨w.heap.size, 4, none⟩ = some (.int .i64 v') := hSV.a 4 (by decide)
  have d5 : V.cell? ⟨w.heap.size, 5, none⟩ = some (.slice a' (flen k') c') := hSV.a 5 (by decide)
  clear hS1 hSV hx hV1 c0 c1 c2 HS HL HL2 hb
  go_wp2_with fail
  clear d3 d4 d5 o0 o1 o2 g0 g1 g2
  with_reducible refine (toTerm_ofT s' v' a' c' k' _ (fun w2 hb2 => toTermS_anyT (fsz k') a' c' k' w2 ((HLV.out.below hb2).mono (Nat.le_refl _) hb2.size) (Nat.le_refl _) hN')).mono ?_
  rintro e w2 ⟨a2, d2, rfl, hb2, hx2⟩
  have hS2 := HSV.out.next hb2
  have p0 := cell_low hb2 hp0
  have p1 := cell_low hb2 hp1
  have p2 := cell_low hb2 hp2
  obtain ⟨x3, o3⟩ := Option.isSome_iff_exists.1 (hS2.o 3 (by decide))
  obtain ⟨x4, o4⟩ := Option.isSome_iff_exists.1 (hS2.o 4 (by decide))
  obtain ⟨x5, o5⟩ := Option.isSome_iff_exists.1 (hS2.o 5 (by decide))
  obtain ⟨y0, r0⟩ := Option.isSome_iff_exists.1 (hS2.r 0 (by decide))
  obtain ⟨y1, r1⟩ := Option.isSome_iff_exists.1 (hS2.r 1 (by decide))
  obtain ⟨y2, r2⟩ := Option.isSome_iff_exists.1 (hS2.r 2 (by decide))
  obtain ⟨y3, r3⟩ := Option.isSome_iff_exists.1 (hS2.r 3 (by decide))
  obtain ⟨y4, r4⟩ := Option.isSome_iff_exists.1 (hS2.r 4 (by decide))
  obtain ⟨y5, r5⟩ := Option.isSome_iff_exists.1 (hS2.r 5 (by decide))
  have g3 := hS2.g 3
  have g4 := hS2.g 4
  have g5 := hS2.g 5
  have f0 := hS2.f 0
  have f1 := hS2.f 1
  have f2 := hS2.f 2
  have f3 := hS2.f 3
  have f4 := hS2.f 4
  have f5 := hS2.f 5
  have hsV := HSV.out.size
  have HLOW := Lib.hid hS2.low
  have HA : Hid (Sl w2 (w.heap.size + 3) w2.heap.size a1 k) := (HSL2.out.same (Same.of_below hb2)).mono (Nat.le_refl _) hb2.size
  have HB : Hid (Sl w2 (w.heap.size + 3) w2.heap.size a2 k') := hx2.1.mono hsV (Nat.le_refl _)
  clear hS2 hx2 hb2 HSV HSL2 HSL1 HLV hp0 hp1 hp2
  go_wp2_with fail
  refine bodyPost_ret (v := .agg #[.int .i64 s, .int .i64 v, .slice a1 (flen k) d1, .int .i64 s', .int .i64 v', .slice a2 (flen k') d2]) ?_ rfl ⟨a1, d1, a2, d2, rfl, ?_, ?_, ?_⟩
  · simp [results, Try.results6, go_sem, r0, r1, r2, r3, r4, r5]
  · iterate 9 refine Below.setCell ?_ (by dsimp only; omega) _
    exact HLOW.out
  · refine (HA.out.same ?_).mono (by omega) (by simp)
    iterate 9 refine Same.setCell ?_ (.inl (by dsimp only; omega)) _
    exact fun _ _ _ => rfl
  · refine (HB.out.same ?_).mono (by omega) (by simp)
    iterate 9 refine Same.setCell ?_ (.inl (by dsimp only; omega)) _
    exact fun _ _ _ => rfl

theorem make_eqs (n : Nat) (hn : n ≤ 1048576) (w : World) :
    (Instr.makeSlice 39 (.int .i64 (n : Int)) (.int .i64 (n : Int))).run Try.prog w = .ok (.slice (some ⟨w.heap.size, 0, none⟩) n n) (w.alloc (.cells (madeCells #[.int .i64 0, .int .i64 0, .slice none 0 0, .int .i64 0, .int .i64 0, .slice none 0 0] (n * 6)) 33)) := by
  obtain ⟨i, hi, hz, hs, hb⟩ : ∃ i, Try.prog.info? 33 = some i ∧ i.zero = some (.agg #[.int .i64 0, .int .i64 0, .slice none 0 0, .int .i64 0, .int .i64 0, .slice none 0 0]) ∧ i.size = 6 ∧ i.bytes = 80 := by
    have := (by kernel_rfl : (Try.prog.info? 33).map (fun i => (i.zero, i.size, i.bytes)) = some (some (.agg #[.int .i64 0, .int .i64 0, .slice none 0 0, .int .i64 0, .int .i64 0, .slice none 0 0]), 6, 80))
    obtain ⟨i, hi, hz⟩ := Option.map_eq_some_iff.1 this
    simp only [Prod.mk.injEq] at hz
    exact ⟨i, hi, hz.1, hz.2.1, hz.2.2⟩
  have := run_make (P := Try.prog) w 39 33 i _ Try.underlying39 hi hz .i64 .i64 (n : Int) (n : Int) (by omega) (by omega) (by rw [hb]; omega) (by omega)
  rw [hs] at this
  simpa [Value.cells] using this

/-- What holds at the head of toEqS's loop. -/
structure TeqAt (w : World) (es : List Eqd) (j : Nat) (wr : World) : Prop where
  below : Below w.heap.size w wr
  size : w.heap.size < wr.heap.size
  row : ∃ f : Nat → Value, wr.rowIs w.heap.size 33 (es.length * 6) f ∧ ∀ i x, i < j → es[i]? = some x → ∃ a c a' c', f (i * 6) = .int .i64 x.1.1 ∧ f (i * 6 + 1) = .int .i64 x.1.2.1 ∧ f (i * 6 + 2) = .slice a (flen x.1.2.2) c ∧ f (i * 6 + 3) = .int .i64 x.2.1 ∧ f (i * 6 + 4) = .int .i64 x.2.2.1 ∧ f (i * 6 + 5) = .slice a' (flen x.2.2.2) c' ∧ Sl wr (w.heap.size + 1) wr.heap.size a x.1.2.2 ∧ Sl wr (w.heap.size + 1) wr.heap.size a' x.2.2.2
theorem TeqAt.start (w : World) (es : List Eqd) : TeqAt w es 0 (w.alloc (.cells (madeCells #[.int .i64 0, .int .i64 0, .slice none 0 0, .int .i64 0, .int .i64 0, .slice none 0 0] (es.length * 6)) 33)) := by
  refine ⟨(Below.refl _ _).alloc (Nat.le_refl _) _, by simp, ⟨fun i => #[Value.int .i64 0, .int .i64 0, .slice none 0 0, .int .i64 0, .int .i64 0, .slice none 0 0][i % 6]!, ?_, fun i x hi => by omega⟩⟩
  have := World.rowIs_alloc w (madeCells #[.int .i64 0, .int .i64 0, .slice none 0 0, .int .i64 0, .int .i64 0, .slice none 0 0] (es.length * 6)) 33 (fun i => #[Value.int .i64 0, .int .i64 0, .slice none 0 0, .int .i64 0, .int .i64 0, .slice none 0 0][i % 6]!) (fun i hi => by
    rw [size_madeCells] at hi
    exact made_at _ _ _ hi)
  rw [size_madeCells] at this
  exact this
/-- An equation's six cells. -/
def e6 (w : World) (b o : Nat) (c0 c1 c2 c3 c4 c5 : Value) : World := (((((w.setCell ⟨b, o, none⟩ c0).setCell ⟨b, o + 1, none⟩ c1).setCell ⟨b, o + 2, none⟩ c2).setCell ⟨b, o + 3, none⟩ c3).setCell ⟨b, o + 4, none⟩ c4).setCell ⟨b, o + 5, none⟩ c5
theorem TeqAt.step {w wr w2 : World} {es : List Eqd} {j : Nat} {s v s' v' : Int} {k k' : Fo} {a a' : Option Addr} {c c' : Nat} (h : TeqAt w es j wr) (hx : es[j]? = some ((s, v, k), s', v', k')) (hb : Below wr.heap.size wr w2) (hl : Sl w2 wr.heap.size w2.heap.size a k) (hl' : Sl w2 wr.heap.size w2.heap.size a' k') :
    TeqAt w es (j + 1) (e6 w2 w.heap.size (j * 6) (.int .i64 s) (.int .i64 v) (.slice a (flen k) c) (.int .i64 s') (.int .i64 v') (.slice a' (flen k') c')) := by
  have hs := h.size
  have hs2 := hb.size
  obtain ⟨f, hf, hall⟩ := h.row
  have hf2 := hf.of_block (hb.block _ hs)
  have hsame : ∀ {L H : Nat}, w.heap.size < L → Same L H w2 (e6 w2 w.heap.size (j * 6) (.int .i64 s) (.int .i64 v) (.slice a (flen k) c) (.int .i64 s') (.int .i64 v') (.slice a' (flen k') c')) := fun hL => by
    unfold e6
    iterate 6 refine Same.setCell ?_ (.inl hL) _
    exact fun _ _ _ => rfl
  have hsz : (e6 w2 w.heap.size (j * 6) (.int .i64 s) (.int .i64 v) (.slice a (flen k) c) (.int .i64 s') (.int .i64 v') (.slice a' (flen k') c')).heap.size = w2.heap.size := by simp [e6]
  refine ⟨?_, by rw [hsz]; omega, ⟨_, (((((hf2.set _ _).set _ _).set _ _).set _ _).set _ _).set _ _, fun i y hi hy => ?_⟩⟩
  · unfold e6
    iterate 6 refine Below.setCell ?_ (by dsimp only; omega) _
    exact h.below.trans (hb.mono (by omega))
  by_cases hij : i = j
  · subst hij
    rw [hx] at hy
    obtain rfl := Option.some.inj hy
    exact ⟨a, c, a', c', by simp, by simp, by simp, by simp, by simp, by simp, (hl.same (hsame (by omega))).mono (by omega) (by rw [hsz]; omega), (hl'.same (hsame (by omega))).mono (by omega) (by rw [hsz]; omega)⟩
  · obtain ⟨b1, d1, b2, d2, h0, h1, h2, h3, h4, h5, hsl, hsl2⟩ := hall i y (by omega) hy
    refine ⟨b1, d1, b2, d2, ?_, ?_, ?_, ?_, ?_, ?_, ((hsl.same (fun b h1 h2 => hb.block b h2)).same (hsame (by omega))).mono (Nat.le_refl _) (by rw [hsz]; omega), ((hsl2.same (fun b h1 h2 => hb.block b h2)).same (hsame (by omega))).mono (Nat.le_refl _) (by rw [hsz]; omega)⟩
    all_goals rw [if_neg (by omega), if_neg (by omega), if_neg (by omega), if_neg (by omega), if_neg (by omega), if_neg (by omega)]
    · exact h0
    · exact h1
    · exact h2
    · exact h3
    · exact h4
    · exact h5
theorem TeqAt.esl {w wr : World} {es : List Eqd} {j : Nat} (h : TeqAt w es j wr) (hj : es.length ≤ j) : ESl wr w.heap.size wr.heap.size (some ⟨w.heap.size, 0, none⟩) es := by
  obtain ⟨f, hf, hall⟩ := h.row
  refine .inr ⟨w.heap.size, 0, rfl, Nat.le_refl _, h.size, fun i x hx => ?_⟩
  have hi := (List.getElem?_eq_some_iff.1 hx).1
  obtain ⟨a, c, a', c', h0, h1, h2, h3, h4, h5, hs, hs'⟩ := hall i x (by omega) hx
  refine ⟨a, c, a', c', ?_, ?_, ?_, ?_, ?_, ?_, hs.mono (by omega) (Nat.le_refl _), hs'.mono (by omega) (Nat.le_refl _)⟩
  · rw [← h0, Nat.zero_add]; exact hf.cell (by omega)
  · rw [← h1, Nat.zero_add]; exact hf.cell (by omega)
  · rw [← h2, Nat.zero_add]; exact hf.cell (by omega)
  · rw [← h3, Nat.zero_add]; exact hf.cell (by omega)
  · rw [← h4, Nat.zero_add]; exact hf.cell (by omega)
  · rw [← h5, Nat.zero_add]; exact hf.cell (by omega)
def TeqsPost (es : List Eqd) (w : World) (e : Ending) (w' : World) : Prop :=
  ∃ A C, e = .returned (.slice A (List.length es) C) ∧ Below w.heap.size w w' ∧ ESl w' w.heap.size w'.heap.size A es

end Go.Proofs.Ytbnbogdglffkmaa

/-! ReadE: - A slice of equations that came in as an argument, as the walks take it. -/
namespace Go.Proofs.Ytbnbogdglffkmaa
open Go.ChangeShapes Go.WideShapes Go.ChangeAt Go.RowKit Go.Deep Go.Joins

theorem Try.cellsEqL : Try.prog.cellsOf 26 = 6 := by kernel_rfl

set_option maxRecDepth 100000 in
theorem read_eq {H : Type} {enc : TypeId × Value → H} {w : World} {sp : Nat → Bool} {hd : Bool} {fuel : Nat} {cs : List Value} {x : DataW H × List MemPlace} (h : DataW.trod enc Try.prog w 0 sp hd fuel 26 cs = some x) :
    ∃ s v a c k s' v' a' c' k', cs = [.int .i64 s, .int .i64 v, .slice a (flen k) c, .int .i64 s', .int .i64 v', .slice a' (flen k') c'] ∧ (Sl w 0 w.heap.size a k ∧ flen k ≤ maxLen ∧ fcap k) ∧ Sl w 0 w.heap.size a' k' ∧ flen k' ≤ maxLen ∧ fcap k' := by
  obtain ⟨xs, n, rfl, _, hlen, hxl, hf⟩ := DataW.trod_struct Try.underlying26 h
  rw [Try.cellsEqL] at hlen
  match cs, hlen with
  | [c0, c1, c2, c3, c4, c5], _ =>
    have f0 : DataW.trod enc Try.prog w 0 sp hd n 24 (([c0, c1, c2, c3, c4, c5].drop 0).take (Try.prog.cellsOf 24)) = xs[0]? := hf 0 _ rfl
    have f1 : DataW.trod enc Try.prog w 0 sp hd n 24 (([c0, c1, c2, c3, c4, c5].drop 3).take (Try.prog.cellsOf 24)) = xs[1]? := hf 1 _ rfl
    simp only [Try.cellsTerm, List.drop_zero, List.take_succ_cons, List.take_zero, List.drop_succ_cons] at f0 f1
    have hx0 : xs[0]? = some (xs[0]'(by rw [hxl]; decide)) := List.getElem?_eq_getElem _
    have hx1 : xs[1]? = some (xs[1]'(by rw [hxl]; decide)) := List.getElem?_eq_getElem _
    rw [hx0] at f0
    rw [hx1] at f1
    obtain ⟨s, v, a, c, k, e0, hs, hk1, hk2⟩ := read_term n _ _ f0
    obtain ⟨s', v', a', c', k', e1, hs', hk1', hk2'⟩ := read_term n _ _ f1
    simp only [List.cons.injEq, and_true] at e0 e1
    obtain ⟨rfl, rfl, rfl⟩ := e0
    obtain ⟨rfl, rfl, rfl⟩ := e1
    exact ⟨s, v, a, c, k, s', v', a', c', k', rfl, ⟨hs, hk1, hk2⟩, hs', hk1', hk2'⟩

end Go.Proofs.Ytbnbogdglffkmaa
