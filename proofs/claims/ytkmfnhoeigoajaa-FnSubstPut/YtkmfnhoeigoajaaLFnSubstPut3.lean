/- Several texts in one: D3. -/
import Derived.Test.YtkmfnhoeigoajaaLFnSubstPut2
import Derived.Deep.RegionHeld3
import Derived.Deep.DrawnRows

/-! D3: DrawTermPut. -/
namespace Go.Proofs.Ytkmfnhoeigoajaa
open Go.RowKit Go.Deep
attribute [local go_sem ↓] Go.wp_at_zero Go.wp_at_succ

/-- The cells of two boxes. -/
theorem tb_cells {w w' : World} {x y z x' y' z' : Value} {T T' : TypeId} (h : Below (w.heap.size + 2) ((w.alloc (.cells #[x, y, z] T)).alloc (.cells #[x', y', z'] T')) w') :
    w'.cell? ⟨w.heap.size, 0, none⟩ = some x ∧ w'.cell? ⟨w.heap.size, 1, none⟩ = some y ∧ w'.cell? ⟨w.heap.size, 2, none⟩ = some z ∧
      w'.cell? ⟨w.heap.size + 1, 0, none⟩ = some x' ∧ w'.cell? ⟨w.heap.size + 1, 1, none⟩ = some y' ∧ w'.cell? ⟨w.heap.size + 1, 2, none⟩ = some z' := by
  refine ⟨?_, ?_, ?_, ?_, ?_, ?_⟩
  · rw [h.cell (by simp), World.cell?_alloc_lt _ _ _ (by simp), World.cell?_alloc_at _ _ _ _ (by simp)]; rfl
  · rw [h.cell (by simp), World.cell?_alloc_lt _ _ _ (by simp), World.cell?_alloc_at _ _ _ _ (by simp)]; rfl
  · rw [h.cell (by simp), World.cell?_alloc_lt _ _ _ (by simp), World.cell?_alloc_at _ _ _ _ (by simp)]; rfl
  · rw [h.cell (by simp), World.cell?_alloc_at _ _ _ _ (by simp)]; rfl
  · rw [h.cell (by simp), World.cell?_alloc_at _ _ _ _ (by simp)]; rfl
  · rw [h.cell (by simp), World.cell?_alloc_at _ _ _ _ (by simp)]; rfl
theorem tb_free {w w' : World} {o o' : Obj} (h : Below (w.heap.size + 2) ((w.alloc o).alloc o') w') (j : Nat) {c c' : Array Value} {T T' : TypeId} (ho : o = .cells c T) (ho' : o' = .cells c' T') :
    w'.frozen? ⟨w.heap.size, j, none⟩ = false ∧ w'.frozen? ⟨w.heap.size + 1, j, none⟩ = false := by
  subst ho
  subst ho'
  constructor
  · rw [h.frozen (by simp), World.frozen?_alloc_past _ _ _ (by simp), World.frozen?_alloc_at _ _ _ _ (by simp)]
  · rw [h.frozen (by simp), World.frozen?_alloc_at _ _ _ _ (by simp)]

/-- A world in which a box holds three values. -/
structure Box3 (b : Nat) (x y z : Value) where
  world : World
  cells : world.cell? ⟨b, 0, none⟩ = some x ∧ world.cell? ⟨b, 1, none⟩ = some y ∧ world.cell? ⟨b, 2, none⟩ = some z

def TputPost (w : World) (e : Ending) (w' : World) : Prop :=
  ∃ s v a c k A C place s2 v2 a2 c2 k2, e = .returned (.tuple #[.agg #[.int .i64 s, .int .i64 v, .slice a (flen k) c], .slice A (List.length place) C, .agg #[.int .i64 s2, .int .i64 v2, .slice a2 (flen k2) c2]]) ∧ 1 + fsz k ≤ 31000 ∧ place.length ≤ 2000 ∧ 1 + fsz k2 ≤ 31000 ∧ Below w.heap.size w w' ∧ Sl w' w.heap.size w'.heap.size a k ∧ ISc w' w.heap.size w'.heap.size A C place ∧ Sl w' w.heap.size w'.heap.size a2 k2

theorem keep_set6 {w3 : World} {b n m : Nat} {x y z x' y' z' x2 y2 z2 : Value} (h0 : w3.cell? ⟨b, 0, none⟩ = some x) (h1 : w3.cell? ⟨b, 1, none⟩ = some y) (h2 : w3.cell? ⟨b, 2, none⟩ = some z) (hne : n < b) (hme : m < b) :
    ((((((w3.setCell ⟨n, 0, none⟩ x').setCell ⟨n, 1, none⟩ y').setCell ⟨n, 2, none⟩ z').setCell ⟨m, 0, none⟩ x2).setCell ⟨m, 1, none⟩ y2).setCell ⟨m, 2, none⟩ z2).cell? ⟨b, 0, none⟩ = some x ∧ ((((((w3.setCell ⟨n, 0, none⟩ x').setCell ⟨n, 1, none⟩ y').setCell ⟨n, 2, none⟩ z').setCell ⟨m, 0, none⟩ x2).setCell ⟨m, 1, none⟩ y2).setCell ⟨m, 2, none⟩ z2).cell? ⟨b, 1, none⟩ = some y ∧
      ((((((w3.setCell ⟨n, 0, none⟩ x').setCell ⟨n, 1, none⟩ y').setCell ⟨n, 2, none⟩ z').setCell ⟨m, 0, none⟩ x2).setCell ⟨m, 1, none⟩ y2).setCell ⟨m, 2, none⟩ z2).cell? ⟨b, 2, none⟩ = some z := by
  obtain ⟨g0, g1, g2⟩ := keep_set (x' := x') (y' := y') (z' := z') h0 h1 h2 hne
  exact keep_set g0 g1 g2 hme
theorem tput_end {w w1 : World} {o o' : Obj} {s v s2 v2 : Int} {a A a2 : Option Addr} {c C c2 : Nat} {k k2 : Fo} {place : List Int} (hb : Below (w.heap.size + 2) ((w.alloc o).alloc o') w1) (hS : 1 + fsz k ≤ 31000) (hpl : place.length ≤ 2000) (hS2 : 1 + fsz k2 ≤ 31000) (hl : Sl w1 (w.heap.size + 2) w1.heap.size a k) (hi : ISc w1 (w.heap.size + 2) w1.heap.size A C place) (hl2 : Sl w1 (w.heap.size + 2) w1.heap.size a2 k2) (p q r p' q' r' : Value) :
    TputPost w (.returned (.tuple #[.agg #[.int .i64 s, .int .i64 v, .slice a (flen k) c], .slice A place.length C, .agg #[.int .i64 s2, .int .i64 v2, .slice a2 (flen k2) c2]])) ((((((w1.setCell ⟨w.heap.size, 0, none⟩ p).setCell ⟨w.heap.size, 1, none⟩ q).setCell ⟨w.heap.size, 2, none⟩ r).setCell ⟨w.heap.size + 1, 0, none⟩ p').setCell ⟨w.heap.size + 1, 1, none⟩ q').setCell ⟨w.heap.size + 1, 2, none⟩ r') := by
  have hs : Same (w.heap.size + 2) w1.heap.size w1 ((((((w1.setCell ⟨w.heap.size, 0, none⟩ p).setCell ⟨w.heap.size, 1, none⟩ q).setCell ⟨w.heap.size, 2, none⟩ r).setCell ⟨w.heap.size + 1, 0, none⟩ p').setCell ⟨w.heap.size + 1, 1, none⟩ q').setCell ⟨w.heap.size + 1, 2, none⟩ r') :=
    ((((((Same.setCell (fun _ _ _ => rfl) (.inl (by simp)) _).setCell (.inl (by simp)) _).setCell (.inl (by simp)) _).setCell (.inl (by simp)) _).setCell (.inl (by simp)) _).setCell (.inl (by simp)) _)
  have hb' : Below w.heap.size w w1 := (((Below.refl _ _).alloc (Nat.le_refl _) o).alloc (by simp) o').trans (hb.mono (by omega))
  exact ⟨s, v, a, c, k, A, C, place, s2, v2, a2, c2, k2, rfl, hS, hpl, hS2, (((((hb'.setCell (Nat.le_refl _) _).setCell (Nat.le_refl _) _).setCell (Nat.le_refl _) _).setCell (by simp) _).setCell (by simp) _).setCell (by simp) _, (hl.same hs).mono (by omega) (by simp), (hi.same hs).mono (by omega) (by simp), (hl2.same hs).mono (by omega) (by simp)⟩

set_option maxRecDepth 100000 in
set_option maxHeartbeats 1000000 in
theorem DrawTermPut_any (a : Option Addr) (len cap : Nat) (w : World) (hby : Bytes w a len) (hlen : len ≤ cap) :
    Calls Try.prog 21 #[.slice a len cap] w (TputPost w) := by
  have HBY := Lib.hid hby
  clear hby
  go_enter Try.func21, Try.ntmps21
  go_wp2_with fail
  with_reducible refine (l6Open_any a len cap _ ((HBY.out.alloc _).alloc _) hlen).mono ?_
  rintro e w1 ⟨rfl, hb1, hrd⟩
  have hs1 := hb1.size
  simp at hs1
  simp only [World.size_alloc] at hrd
  have hlt1 := hrd.lt
  have HRD := Lib.hid hrd
  have HB1 : Hid (Below (w.heap.size + 2) ((w.alloc (.cells #[.int .i64 0, .int .i64 0, .slice none 0 0] 26)).alloc (.cells #[.int .i64 0, .int .i64 0, .slice none 0 0] 26)) w1) := hb1.mono (by simp)
  clear hb1 hrd
  simp only [World.size_alloc]
  go_wp2_with fail
  with_reducible refine (l71Some_any (w.heap.size + 1 + 1) 0 _ HRD.out (by omega)).mono ?_
  rintro e w2 ⟨s, v, a2, c2, k, p2, rfl, _, hp2, hS2, ha2, hl2⟩
  have hs2 := ha2.size
  have HB2 := Lib.hid (adv_low HB1.out (by omega) (by omega) ha2)
  have HR2 := Lib.hid ((ha2.rd HRD.out).alloc (.cells #[.int .i64 s, .int .i64 v, .slice a2 (flen k) c2] 26))
  have hl2' : Sl w2 (w.heap.size + 1 + 1 + 1) w2.heap.size a2 k := hl2.mono (by omega) (Nat.le_refl _)
  have HL2 := Lib.hid (hl2'.low ((Below.refl _ _).alloc (Nat.le_refl _) (.cells #[.int .i64 s, .int .i64 v, .slice a2 (flen k) c2] 26)))
  clear ha2 hl2 hl2'
  obtain ⟨hc0, hc1, hc2⟩ := box_cells (w := w2) (x := .int .i64 s) (y := .int .i64 v) (z := .slice a2 (flen k) c2) (T := 26) ⟨_, Below.refl _ _⟩
  dsimp only at hc0 hc1 hc2
  have HRX : Hid (Rd (w2.alloc (.cells #[.int .i64 s, .int .i64 v, .slice a2 (flen k) c2] 26)).drew (w.heap.size + 1 + 1) p2) := Rd.next HR2.out (bl_self (Below.refl _ _).drew HR2.out.place)
  have HLX : Hid (Sl (w2.alloc (.cells #[.int .i64 s, .int .i64 v, .slice a2 (flen k) c2] 26)).drew ((w.heap.size + 1 + 1) + 1) (w2.alloc (.cells #[.int .i64 s, .int .i64 v, .slice a2 (flen k) c2] 26)).drew.heap.size a2 k) := HL2.out.below (Below.refl _ _).drew
  have HP2 : Hid (p2 ≤ 10000000) := by unfold Hid; omega
  have HW : Hid (∀ w3 p3, Adv (w2.alloc (.cells #[.int .i64 s, .int .i64 v, .slice a2 (flen k) c2] 26)).drew (w.heap.size + 1 + 1) p3 w3 → Adv (w2.alloc (.cells #[.int .i64 s, .int .i64 v, .slice a2 (flen k) c2] 26)) (w.heap.size + 1 + 1) p3 w3) := fun w3 p3 h => (Adv.start HR2.out (Below.refl _ _).drew).trans h
  have HW2 : Hid (∀ w3 p3, Adv (w2.alloc (.cells #[.int .i64 s, .int .i64 v, .slice a2 (flen k) c2] 26)) (w.heap.size + 1 + 1) p3 w3 → Below (w.heap.size + 2) ((w.alloc (.cells #[.int .i64 0, .int .i64 0, .slice none 0 0] 26)).alloc (.cells #[.int .i64 0, .int .i64 0, .slice none 0 0] 26)) w3 ∧ Sl w3 (w.heap.size + 2) w3.heap.size a2 k ∧ w3.cell? ⟨w2.heap.size, 0, none⟩ = some (.int .i64 s) ∧ w3.cell? ⟨w2.heap.size, 1, none⟩ = some (.int .i64 v) ∧ w3.cell? ⟨w2.heap.size, 2, none⟩ = some (.slice a2 (flen k) c2)) := fun w3 p3 h =>
    ⟨adv_low (HB2.out.alloc (by omega) (.cells #[.int .i64 s, .int .i64 v, .slice a2 (flen k) c2] 26)) (by omega) (by simp; omega) h, (HL2.out.adv h (Nat.lt_succ_self _)).mono (by omega) (Nat.le_refl _), h.cell hc0 (by simp; omega), h.cell hc1 (by simp; omega), h.cell hc2 (by simp; omega)⟩
  have hs2' : w.heap.size + 1 + 1 + 1 ≤ w2.heap.size := by omega
  have hu0 : ∀ u : Box3 w2.heap.size (.int .i64 s) (.int .i64 v) (.slice a2 (flen k) c2), u.world.cell? ⟨w2.heap.size, 0, none⟩ = some (.int .i64 s) := fun u => u.cells.1
  have hu1 : ∀ u : Box3 w2.heap.size (.int .i64 s) (.int .i64 v) (.slice a2 (flen k) c2), u.world.cell? ⟨w2.heap.size, 1, none⟩ = some (.int .i64 v) := fun u => u.cells.2.1
  have hu2 : ∀ u : Box3 w2.heap.size (.int .i64 s) (.int .i64 v) (.slice a2 (flen k) c2), u.world.cell? ⟨w2.heap.size, 2, none⟩ = some (.slice a2 (flen k) c2) := fun u => u.cells.2.2
  have HC : Hid ((w2.alloc (.cells #[.int .i64 s, .int .i64 v, .slice a2 (flen k) c2] 26)).drew.cell? ⟨w2.heap.size, 0, none⟩ = some (.int .i64 s) ∧ (w2.alloc (.cells #[.int .i64 s, .int .i64 v, .slice a2 (flen k) c2] 26)).drew.cell? ⟨w2.heap.size, 1, none⟩ = some (.int .i64 v) ∧ (w2.alloc (.cells #[.int .i64 s, .int .i64 v, .slice a2 (flen k) c2] 26)).drew.cell? ⟨w2.heap.size, 2, none⟩ = some (.slice a2 (flen k) c2)) := ⟨cell_low (Below.refl _ _).drew hc0, cell_low (Below.refl _ _).drew hc1, cell_low (Below.refl _ _).drew hc2⟩
  have hne : Nonempty (Box3 w2.heap.size (.int .i64 s) (.int .i64 v) (.slice a2 (flen k) c2)) := ⟨⟨_, HC.out⟩⟩
  go_wp2_with fail
  clear hc0 hc1 hc2
  refine wp_region_mix (fun w' => ∃ u : Box3 w2.heap.size (.int .i64 s) (.int .i64 v) (.slice a2 (flen k) c2), w' = u.world) [] [(0, 0), (1, 0), (2, 0), (4, 0), (3, 1), (5, 1), (6, 1), (7, 1), (8, 1)] (by kernel_rfl) (by kernel_rfl) ⟨⟨_, HC.out⟩, rfl⟩ ?_
  iterate 4
    refine mix_see rfl (fun K hK => ?_)
    go_simp
    refine hK _ ?_
    clear hK K
  clear hu0 hu1 hu2 hne
  refine mix_hold rfl (fun K hK => ?_)
  go_simp
  with_reducible refine (l71Place_any (w.heap.size + 1 + 1) p2 s v a2 c2 k _ HRX.out HP2.out HLX.out).mono ?_
  rintro e w3 ⟨A3, C3, place, p3, rfl, _, hp3, hpl, ha3', hi3⟩
  have ha3 := HW.out _ _ ha3'
  have hs3 : w2.heap.size + 1 ≤ w3.heap.size := by have := ha3.size; simpa using this
  obtain ⟨_, _, hd0, hd1, hd2⟩ := HW2.out _ _ ha3
  have HI3 : Hid (ISc w3 (w.heap.size + 1 + 1 + 1) w3.heap.size A3 C3 place) := hi3.mono (by simp; omega) (Nat.le_refl _)
  have HR3 : Hid (Rd w3 (w.heap.size + 1 + 1) p3) := ha3'.rd HRX.out
  have HA3 := Lib.hid ha3
  have hp3' : p3 ≤ 10000000 := by omega
  refine hK _ _ ⟨⟨_, ⟨hd0, hd1, hd2⟩⟩, rfl⟩ ?_
  clear hK K ha3 ha3' hi3 hd0 hd1 hd2
  refine mix_hold rfl (fun K hK => ?_)
  go_simp
  with_reducible refine (l71Some_any (w.heap.size + 1 + 1) p3 w3 HR3.out hp3').mono ?_
  rintro e w4 ⟨s5, v5, a5, c5, k5, p5, rfl, _, hp5, hS5, ha5, hl5⟩
  have hs5 := ha5.size
  obtain ⟨hb4, hl4, he0, he1, he2⟩ := HW2.out _ _ (HA3.out.trans ha5)
  obtain ⟨hr0, hr1, hr2, hr3, hr4, hr5⟩ := tb_cells hb4
  obtain ⟨hf0, hf3⟩ := tb_free hb4 0 rfl rfl
  obtain ⟨hf1, hf4⟩ := tb_free hb4 1 rfl rfl
  obtain ⟨hf2, hf5⟩ := tb_free hb4 2 rfl rfl
  have HL4 := Lib.hid hl4
  have HB4 := Lib.hid hb4
  have HI4 : Hid (ISc w4 (w.heap.size + 2) w4.heap.size A3 C3 place) := (HI3.out.same (ha5.same (Nat.le_refl _) (.inl (by omega)))).mono (by omega) hs5
  have HL5 : Hid (Sl w4 (w.heap.size + 2) w4.heap.size a5 k5) := hl5.mono (by omega) (Nat.le_refl _)
  have HC4 : Hid (w4.cell? ⟨w2.heap.size, 0, none⟩ = some (.int .i64 s) ∧ w4.cell? ⟨w2.heap.size, 1, none⟩ = some (.int .i64 v) ∧ w4.cell? ⟨w2.heap.size, 2, none⟩ = some (.slice a2 (flen k) c2)) := ⟨he0, he1, he2⟩
  refine hK _ _ ⟨⟨_, HC4.out⟩, rfl⟩ ?_
  clear hK K hb4 hl4 hl5 ha5 he0 he1 he2
  refine mix_hold rfl (fun K hK => ?_)
  go_simp
  refine hK _ _ ⟨⟨_, keep_set HC4.out.1 HC4.out.2.1 HC4.out.2.2 (by omega)⟩, rfl⟩ ?_
  clear hK K
  refine mix_hold rfl (fun K hK => ?_)
  go_simp
  refine hK _ _ ⟨⟨_, keep_set HC4.out.1 HC4.out.2.1 HC4.out.2.2 (by omega)⟩, rfl⟩ ?_
  clear hK K
  refine mix_hold rfl (fun K hK => ?_)
  go_simp
  refine hK _ _ ⟨⟨_, keep_set6 HC4.out.1 HC4.out.2.1 HC4.out.2.2 (by omega) (by omega)⟩, rfl⟩ ?_
  clear hK K
  refine mix_end ?_
  go_wp2_with fail
  refine bodyPost_ret (v := .tuple #[.agg #[.int .i64 s, .int .i64 v, .slice a2 (flen k) c2], .slice A3 place.length C3, .agg #[.int .i64 s5, .int .i64 v5, .slice a5 (flen k5) c5]]) ?_ rfl (tput_end HB4.out hS2 hpl hS5 HL4.out HI4.out HL5.out _ _ _ _ _ _)
  simp [results, Try.results21, go_sem, hr0, hr1, hr2, hr3, hr4, hr5]
end Go.Proofs.Ytkmfnhoeigoajaa
