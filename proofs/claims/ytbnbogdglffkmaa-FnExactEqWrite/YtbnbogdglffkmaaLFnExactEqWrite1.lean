/- Several texts in one: XEw. -/
import Derived.Test.YtbnbogdglffkmaaKEw13
import Derived.Test.YtbnbogdglffkmaaKEw11

/-! XEw: For every equation, laws.FnExactEqWrite answers true and writes nothing that was there. -/
namespace Go.Proofs.Ytbnbogdglffkmaa
open Go.RowKit Go.Deep

theorem box6u {W w2 : World} {n : Nat} (hn : n = W.heap.size) {c0 c1 c2 c3 c4 c5 : Value} {T : TypeId} (h : Below (n + 1) (W.alloc (.cells #[c0, c1, c2, c3, c4, c5] T)) w2) :
    w2.cell? ⟨n, 0, none⟩ = some c0 ∧ w2.cell? ⟨n, 1, none⟩ = some c1 ∧ w2.cell? ⟨n, 2, none⟩ = some c2 ∧ w2.cell? ⟨n, 3, none⟩ = some c3 ∧ w2.cell? ⟨n, 4, none⟩ = some c4 ∧ w2.cell? ⟨n, 5, none⟩ = some c5 := by
  subst hn
  refine ⟨?_, ?_, ?_, ?_, ?_, ?_⟩
  all_goals rw [h.cell (by simp), box6]; rfl

set_option maxRecDepth 100000 in
set_option maxHeartbeats 2000000 in
theorem exactEqWrite_walk (s v : Int) (a : Option Addr) (c : Nat) (k : Fo) (s' v' : Int) (a' : Option Addr) (c' : Nat) (k' : Fo) (w : World) (hl : Sl w 0 w.heap.size a k) (hc : fcap k) (hm : flen k ≤ maxLen) (hl' : Sl w 0 w.heap.size a' k') (hc' : fcap k') (hm' : flen k' ≤ maxLen) :
    Calls Try.prog 3 #[.agg #[.int .i64 s, .int .i64 v, .slice a (flen k) c, .int .i64 s', .int .i64 v', .slice a' (flen k') c']] w fun e w' => e = .returned (.bool true) ∧ Below w.heap.size w w' := by
  have hb0 : Below w.heap.size w (w.alloc (.cells #[.int .i64 s, .int .i64 v, .slice a (flen k) c, .int .i64 s', .int .i64 v', .slice a' (flen k') c'] 26)) := (Below.refl _ _).alloc (Nat.le_refl _) _
  have HL : Hid (Sl (w.alloc (.cells #[.int .i64 s, .int .i64 v, .slice a (flen k) c, .int .i64 s', .int .i64 v', .slice a' (flen k') c'] 26)) 0 w.heap.size a k) := hl.below hb0
  have HL' : Hid (Sl (w.alloc (.cells #[.int .i64 s, .int .i64 v, .slice a (flen k) c, .int .i64 s', .int .i64 v', .slice a' (flen k') c'] 26)) 0 w.heap.size a' k') := hl'.below hb0
  have HB0 : Hid (Below (w.heap.size + 1) (w.alloc (.cells #[.int .i64 s, .int .i64 v, .slice a (flen k) c, .int .i64 s', .int .i64 v', .slice a' (flen k') c'] 26)) (w.alloc (.cells #[.int .i64 s, .int .i64 v, .slice a (flen k) c, .int .i64 s', .int .i64 v', .slice a' (flen k') c'] 26))) := Below.refl _ _
  have HLOW : Hid (∀ u, Below (w.heap.size + 1) (w.alloc (.cells #[.int .i64 s, .int .i64 v, .slice a (flen k) c, .int .i64 s', .int .i64 v', .slice a' (flen k') c'] 26)) u → Below w.heap.size w u) := fun u hu => hb0.trans (hu.mono (Nat.le_succ _))
  have HSZ := Lib.hid (szEq_any s v a c k s' v' a' c' k' 1048576 (w.alloc (.cells #[.int .i64 s, .int .i64 v, .slice a (flen k) c, .int .i64 s', .int .i64 v', .slice a' (flen k') c'] 26)) (HL.out.mono (Nat.le_refl _) (by simp)) hc hm (HL'.out.mono (Nat.le_refl _) (by simp)) hc' hm' (by omega) (by omega))
  clear hl hl' hc hm hc' hm' hb0
  go_enter Try.func3, Try.ntmps3
  go_wp2_with fail
  with_reducible refine HSZ.out.mono ?_
  rintro e w1 ⟨rfl, hb1⟩
  have hs1 := hb1.size
  simp at hs1
  have HB1 := Lib.hid (HB0.out.trans (hb1.mono (by simp)))
  clear hb1 HSZ
  have hcase : szER ((s, v, k), s', v', k') 1048576 = -1 ∨ (0 ≤ szER ((s, v, k), s', v', k') 1048576 ∧ fsz k ≤ 1048576 ∧ fsz k' ≤ 1048576) := by
    unfold szER fszE
    split
    · rename_i h
      refine .inr ⟨by omega, ?_, ?_⟩
      all_goals dsimp only at h; omega
    · exact .inl rfl
  rcases hcase with hz | ⟨hz, hN, hN'⟩
  · rw [hz]
    clear hz
    go_wp2_with fail
    go_ret
    exact ⟨rfl, HLOW.out _ HB1.out⟩
  generalize szER ((s, v, k), s', v', k') 1048576 = z at *
  obtain ⟨hc0, hc1, hc2, hc3, hc4, hc5⟩ := box6u rfl HB1.out
  go_wp2_with fail
  with_reducible refine (toEq_any s v a c k s' v' a' c' k' w1 ((HL.out.below (HB1.out.mono (by omega))).mono (Nat.le_refl _) (by omega)) ((HL'.out.below (HB1.out.mono (by omega))).mono (Nat.le_refl _) (by omega)) hN hN').mono ?_
  rintro e w2 ⟨a2, c2, a2', c2', rfl, hb2, hl2, hl2'⟩
  have hs2 := hb2.size
  have HB2 := Lib.hid (HB1.out.trans (hb2.mono (by omega)))
  have HL2 := Lib.hid (hl2.mono (lo' := 0) (Nat.zero_le _) (Nat.le_refl _))
  have HL2' := Lib.hid (hl2'.mono (lo' := 0) (Nat.zero_le _) (Nat.le_refl _))
  clear hb2 hl2 hl2' hc0 hc1 hc2 hc3 hc4 hc5
  go_wp2_with fail
  with_reducible refine (sEqWrite_any s v a2 c2 k s' v' a2' c2' k' w2 HL2.out HL2'.out).mono ?_
  rintro e w3 ⟨rfl, hb3⟩
  have hs3 := hb3.size
  have HB3 := Lib.hid (HB2.out.trans (hb3.mono (by omega)))
  clear hb3 HL2 HL2'
  obtain ⟨X, hX⟩ : ∃ X, X = str (etx s v k s' v' k') := ⟨_, rfl⟩
  have HX := Lib.hid hX
  rw [← hX]
  clear hX
  obtain ⟨hc0, hc1, hc2, hc3, hc4, hc5⟩ := box6u rfl HB3.out
  go_wp2_with fail
  with_reducible refine (toEq_any s v a c k s' v' a' c' k' w3 ((HL.out.below (HB3.out.mono (by omega))).mono (Nat.le_refl _) (by omega)) ((HL'.out.below (HB3.out.mono (by omega))).mono (Nat.le_refl _) (by omega)) hN hN').mono ?_
  rintro e w4 ⟨a4, c4, a4', c4', rfl, hb4, hl4, hl4'⟩
  have hs4 := hb4.size
  have hb5 := hb4.alloc hs4 (.cells #[.int .i64 s, .int .i64 v, .slice a4 (flen k) c4, .int .i64 s', .int .i64 v', .slice a4' (flen k') c4'] 33)
  have HB5 := Lib.hid (HB3.out.trans (hb5.mono (by omega)))
  have HX5 : Hid (Below (w4.heap.size + 1) (w4.alloc (.cells #[.int .i64 s, .int .i64 v, .slice a4 (flen k) c4, .int .i64 s', .int .i64 v', .slice a4' (flen k') c4'] 33)) (w4.alloc (.cells #[.int .i64 s, .int .i64 v, .slice a4 (flen k) c4, .int .i64 s', .int .i64 v', .slice a4' (flen k') c4'] 33))) := Below.refl _ _
  have HY : Hid (Sl (w4.alloc (.cells #[.int .i64 s, .int .i64 v, .slice a4 (flen k) c4, .int .i64 s', .int .i64 v', .slice a4' (flen k') c4'] 33)) 0 w4.heap.size a4 k) := (hl4.below ((Below.refl _ _).alloc (Nat.le_refl _) _)).mono (Nat.zero_le _) (Nat.le_refl _)
  have HY' : Hid (Sl (w4.alloc (.cells #[.int .i64 s, .int .i64 v, .slice a4 (flen k) c4, .int .i64 s', .int .i64 v', .slice a4' (flen k') c4'] 33)) 0 w4.heap.size a4' k') := (hl4'.below ((Below.refl _ _).alloc (Nat.le_refl _) _)).mono (Nat.zero_le _) (Nat.le_refl _)
  clear hb4 hb5 hl4 hl4' hc0 hc1 hc2 hc3 hc4 hc5
  obtain ⟨hx0, hx1, hx2, hx3, hx4, hx5⟩ := box6u rfl HX5.out
  go_wp2_with fail
  with_reducible refine (iEqWrite_any s v a4 c4 k s' v' a4' c4' k' _ (HY.out.mono (Nat.le_refl _) (by simp)) (HY'.out.mono (Nat.le_refl _) (by simp))).mono ?_
  rintro e w6 ⟨rfl, hb6⟩
  rw [← HX.out]
  have hs6 := hb6.size
  simp at hs6
  have HB6 := Lib.hid (HB5.out.trans (hb6.mono (by simp; omega)))
  have HX6 := Lib.hid (HX5.out.trans (hb6.mono (by simp)))
  clear hb6 hx0 hx1 hx2 hx3 hx4 hx5
  have e1 : (X.toList != X.toList) = false := by simp
  have hu : ∀ u : After w6.heap.size w6, Below (w.heap.size + 1) (w.alloc (.cells #[.int .i64 s, .int .i64 v, .slice a (flen k) c, .int .i64 s', .int .i64 v', .slice a' (flen k') c'] 26)) u.world := fun u => HB6.out.trans (u.below.mono (by omega))
  have hv : ∀ u : After w6.heap.size w6, Below (w4.heap.size + 1) (w4.alloc (.cells #[.int .i64 s, .int .i64 v, .slice a4 (flen k) c4, .int .i64 s', .int .i64 v', .slice a4' (flen k') c4'] 33)) u.world := fun u => HX6.out.trans (u.below.mono (by omega))
  have hu0 : ∀ u : After w6.heap.size w6, u.world.cell? ⟨w.heap.size, 0, none⟩ = some (.int .i64 s) := fun u => (box6u rfl (hu u)).1
  have hu1 : ∀ u : After w6.heap.size w6, u.world.cell? ⟨w.heap.size, 1, none⟩ = some (.int .i64 v) := fun u => (box6u rfl (hu u)).2.1
  have hu2 : ∀ u : After w6.heap.size w6, u.world.cell? ⟨w.heap.size, 2, none⟩ = some (.slice a (flen k) c) := fun u => (box6u rfl (hu u)).2.2.1
  have hu3 : ∀ u : After w6.heap.size w6, u.world.cell? ⟨w.heap.size, 3, none⟩ = some (.int .i64 s') := fun u => (box6u rfl (hu u)).2.2.2.1
  have hu4 : ∀ u : After w6.heap.size w6, u.world.cell? ⟨w.heap.size, 4, none⟩ = some (.int .i64 v') := fun u => (box6u rfl (hu u)).2.2.2.2.1
  have hu5 : ∀ u : After w6.heap.size w6, u.world.cell? ⟨w.heap.size, 5, none⟩ = some (.slice a' (flen k') c') := fun u => (box6u rfl (hu u)).2.2.2.2.2
  have hv0 : ∀ u : After w6.heap.size w6, u.world.cell? ⟨w4.heap.size, 0, none⟩ = some (.int .i64 s) := fun u => (box6u rfl (hv u)).1
  have hv1 : ∀ u : After w6.heap.size w6, u.world.cell? ⟨w4.heap.size, 1, none⟩ = some (.int .i64 v) := fun u => (box6u rfl (hv u)).2.1
  have hv2 : ∀ u : After w6.heap.size w6, u.world.cell? ⟨w4.heap.size, 2, none⟩ = some (.slice a4 (flen k) c4) := fun u => (box6u rfl (hv u)).2.2.1
  have hv3 : ∀ u : After w6.heap.size w6, u.world.cell? ⟨w4.heap.size, 3, none⟩ = some (.int .i64 s') := fun u => (box6u rfl (hv u)).2.2.2.1
  have hv4 : ∀ u : After w6.heap.size w6, u.world.cell? ⟨w4.heap.size, 4, none⟩ = some (.int .i64 v') := fun u => (box6u rfl (hv u)).2.2.2.2.1
  have hv5 : ∀ u : After w6.heap.size w6, u.world.cell? ⟨w4.heap.size, 5, none⟩ = some (.slice a4' (flen k') c4') := fun u => (box6u rfl (hv u)).2.2.2.2.2
  clear hu hv
  go_wp2_with fail
  refine wp_region_mix (fun w' => ∃ u : After w6.heap.size w6, w' = u.world) [] [(0, 0), (1, 0), (2, 1), (3, 1), (4, 1)] (by kernel_rfl) (by kernel_rfl) ⟨⟨_, (Below.refl _ _).drew⟩, rfl⟩ ?_
  iterate 2
    refine mix_see rfl (fun K hK => ?_)
    go_simp
    refine hK _ ?_
    clear hK K
  clear hu0 hu1 hu2 hu3 hu4 hu5 hv0 hv1 hv2 hv3 hv4 hv5
  refine mix_hold rfl (fun K hK => ?_)
  go_simp
  have HT : Hid (Sl w6.drew 0 w6.drew.heap.size a k) := ((HL.out.below (HB6.out.mono (by omega))).below (Below.refl _ _).drew).mono (Nat.le_refl _) (show w.heap.size ≤ w6.heap.size by omega)
  have HT' : Hid (Sl w6.drew 0 w6.drew.heap.size a' k') := ((HL'.out.below (HB6.out.mono (by omega))).below (Below.refl _ _).drew).mono (Nat.le_refl _) (show w.heap.size ≤ w6.heap.size by omega)
  with_reducible refine (toEq_any s v a c k s' v' a' c' k' _ HT.out HT'.out hN hN').mono ?_
  rintro e w9 ⟨a9, c9, a9', c9', rfl, hb9', hl9, hl9'⟩
  have hb9 : Below w6.heap.size w6 w9 := bl_undrew hb9'
  have hs9 := hb9.size
  have HM9 : Hid (Sl w9 0 w9.heap.size a4 k) := ((HY.out.below (HX6.out.mono (by omega))).below (hb9.mono (by omega))).mono (Nat.le_refl _) (by omega)
  have HM9' : Hid (Sl w9 0 w9.heap.size a4' k') := ((HY'.out.below (HX6.out.mono (by omega))).below (hb9.mono (by omega))).mono (Nat.le_refl _) (by omega)
  have HN9 := Lib.hid (hl9.mono (lo' := 0) (Nat.zero_le _) (Nat.le_refl _))
  have HN9' := Lib.hid (hl9'.mono (lo' := 0) (Nat.zero_le _) (Nat.le_refl _))
  refine hK _ _ ⟨⟨_, hb9⟩, rfl⟩ ?_
  clear hK K hb9' hl9 hl9'
  refine mix_hold rfl (fun K hK => ?_)
  go_simp
  with_reducible refine (eqEq_same s v a4 c4 k s' v' a4' c4' k' a9 c9 a9' c9' _ HM9.out HM9'.out HN9.out HN9'.out hN hN').mono ?_
  rintro e w10 ⟨rfl, hb10'⟩
  have hb10 := hb9.trans (hb10'.mono hs9)
  refine hK _ _ ⟨⟨_, hb10⟩, rfl⟩ ?_
  clear hK K hb10'
  refine mix_hold rfl (fun K hK => ?_)
  go_simp
  refine hK _ _ ⟨⟨_, hb10⟩, rfl⟩ ?_
  clear hK K
  refine mix_end ?_
  have HB10 := Lib.hid (HB6.out.trans (hb10.mono (by omega)))
  clear hb9 hb10
  go_wp2_with fail
  go_ret
  exact ⟨rfl, HLOW.out _ HB10.out⟩
end Go.Proofs.Ytbnbogdglffkmaa
