/- Several texts in one: D3, P6a, V4b, V2, V4, V5d, V5, P7a, P5a, P7, V6, WL, WDi, FrameO, Frame. -/
import Derived.Test.YtafhhhkinodoiaaKSubst14
import Derived.Deep.RegionHeld3
import Derived.Deep.DrawnRows
import Derived.Test.YtafhhhkinodoiaaKSubst7
import Derived.Test.YtafhhhkinodoiaaKSubst10
import Derived.Test.YtafhhhkinodoiaaKSubst1
import Derived.Test.YtafhhhkinodoiaaKSubst12
import Derived.Test.YtafhhhkinodoiaaKSubst11
import Derived.Test.YtafhhhkinodoiaaKSubst9
import Derived.Test.YtafhhhkinodoiaaKSubst8
import Derived.Test.YtafhhhkinodoiaaKSubst5
import Derived.Test.YtafhhhkinodoiaaKSubst2
import Derived.Test.YtafhhhkinodoiaaRows
import Derived.WalkKit
import Derived.ProofKit
import Derived.OpenShut
import Derived.ShutString
import Derived.ChangeOld
import Derived.Below

/-! D3: DrawTermPut. -/
namespace Go.Proofs.Ytafhhhkinodoiaa
open Go.RowKit Go.Deep
attribute [local go_sem ↓] Go.wp_at_zero Go.wp_at_succ

/-- The cells of two boxes. -/
theorem tb_cells {w w' : World} {x y z x' y' z' : Value} {T T' : TypeId} (h : Below (w.heap.size + 2) ((w.alloc (.cells #[x, y, z] T)).alloc (.cells #[x', y', z'] T')) w') :
    w'.cell? ⟨w.heap.size, 0, none⟩ = some x ∧ w'.cell? ⟨w.heap.size, 1, none⟩ = some y ∧ w'.cell? ⟨w.heap.size, 2, none⟩ = some z ∧
      w'.cell? ⟨w.heap.size + 1, 0, none⟩ = some x' ∧ w'.cell? ⟨w.heap.size + 1, 1, none⟩ = some y' ∧ w'.cell? ⟨w.heap.size + 1, 2, none⟩ = some z' := by
  refine ⟨?_, ?_, ?_, ?_, ?_, ?_⟩
  · rw [h.cell (by simp), World.cell?_alloc_lt _ _ _ (by simp), World.cell?_alloc_at _ _ _ _ (by simp)]; rfl
  · rw [h.cell (by simp), World.cell?_alloc_lt _ _ _ (by simp), World.cell?_alloc_at _ _ _ _ (by simp)]; rfl
  · rw [h.cell (by simp), World.cell?_alloc_lt _ _ _ (by simp), World.cell?_alloc_at _ _ _ _ (by simp)]; rfl
  · rw [h.cell (by simp), World.cell?_alloc_at _ _ _ _ (by simp)]; rfl
  · rw [h.cell (by simp), World.cell?_alloc_at _ _ _ _ (by simp)]; rfl
  · rw [h.cell (by simp), World.cell?_alloc_at _ _ _ _ (by simp)]; rfl
theorem tb_free {w w' : World} {o o' : Obj} (h : Below (w.heap.size + 2) ((w.alloc o).alloc o') w') (j : Nat) {c c' : Array Value} {T T' : TypeId} (ho : o = .cells c T) (ho' : o' = .cells c' T') :
    w'.frozen? ⟨w.heap.size, j, none⟩ = false ∧ w'.frozen? ⟨w.heap.size + 1, j, none⟩ = false := by
  subst ho
  subst ho'
  constructor
  · rw [h.frozen (by simp), World.frozen?_alloc_past _ _ _ (by simp), World.frozen?_alloc_at _ _ _ _ (by simp)]
  · rw [h.frozen (by simp), World.frozen?_alloc_at _ _ _ _ (by simp)]

/-- A world in which a box holds three values. -/
structure Box3 (b : Nat) (x y z : Value) where
  world : World
  cells : world.cell? ⟨b, 0, none⟩ = some x ∧ world.cell? ⟨b, 1, none⟩ = some y ∧ world.cell? ⟨b, 2, none⟩ = some z

def TputPost (w : World) (e : Ending) (w' : World) : Prop :=
  ∃ s v a c k A C place s2 v2 a2 c2 k2, e = .returned (.tuple #[.agg #[.int .i64 s, .int .i64 v, .slice a (flen k) c], .slice A (List.length place) C, .agg #[.int .i64 s2, .int .i64 v2, .slice a2 (flen k2) c2]]) ∧ 1 + fsz k ≤ 31000 ∧ place.length ≤ 2000 ∧ 1 + fsz k2 ≤ 31000 ∧ Below w.heap.size w w' ∧ Sl w' w.heap.size w'.heap.size a k ∧ ISc w' w.heap.size w'.heap.size A C place ∧ Sl w' w.heap.size w'.heap.size a2 k2

theorem keep_set6 {w3 : World} {b n m : Nat} {x y z x' y' z' x2 y2 z2 : Value} (h0 : w3.cell? ⟨b, 0, none⟩ = some x) (h1 : w3.cell? ⟨b, 1, none⟩ = some y) (h2 : w3.cell? ⟨b, 2, none⟩ = some z) (hne : n < b) (hme : m < b) :
    ((((((w3.setCell ⟨n, 0, none⟩ x').setCell ⟨n, 1, none⟩ y').setCell ⟨n, 2, none⟩ z').setCell ⟨m, 0, none⟩ x2).setCell ⟨m, 1, none⟩ y2).setCell ⟨m, 2, none⟩ z2).cell? ⟨b, 0, none⟩ = some x ∧ ((((((w3.setCell ⟨n, 0, none⟩ x').setCell ⟨n, 1, none⟩ y').setCell ⟨n, 2, none⟩ z').setCell ⟨m, 0, none⟩ x2).setCell ⟨m, 1, none⟩ y2).setCell ⟨m, 2, none⟩ z2).cell? ⟨b, 1, none⟩ = some y ∧
      ((((((w3.setCell ⟨n, 0, none⟩ x').setCell ⟨n, 1, none⟩ y').setCell ⟨n, 2, none⟩ z').setCell ⟨m, 0, none⟩ x2).setCell ⟨m, 1, none⟩ y2).setCell ⟨m, 2, none⟩ z2).cell? ⟨b, 2, none⟩ = some z := by
  obtain ⟨g0, g1, g2⟩ := keep_set (x' := x') (y' := y') (z' := z') h0 h1 h2 hne
  exact keep_set g0 g1 g2 hme
theorem tput_end {w w1 : World} {o o' : Obj} {s v s2 v2 : Int} {a A a2 : Option Addr} {c C c2 : Nat} {k k2 : Fo} {place : List Int} (hb : Below (w.heap.size + 2) ((w.alloc o).alloc o') w1) (hS : 1 + fsz k ≤ 31000) (hpl : place.length ≤ 2000) (hS2 : 1 + fsz k2 ≤ 31000) (hl : Sl w1 (w.heap.size + 2) w1.heap.size a k) (hi : ISc w1 (w.heap.size + 2) w1.heap.size A C place) (hl2 : Sl w1 (w.heap.size + 2) w1.heap.size a2 k2) (p q r p' q' r' : Value) :
    TputPost w (.returned (.tuple #[.agg #[.int .i64 s, .int .i64 v, .slice a (flen k) c], .slice A place.length C, .agg #[.int .i64 s2, .int .i64 v2, .slice a2 (flen k2) c2]])) ((((((w1.setCell ⟨w.heap.size, 0, none⟩ p).setCell ⟨w.heap.size, 1, none⟩ q).setCell ⟨w.heap.size, 2, none⟩ r).setCell ⟨w.heap.size + 1, 0, none⟩ p').setCell ⟨w.heap.size + 1, 1, none⟩ q').setCell ⟨w.heap.size + 1, 2, none⟩ r') := by
  have hs : Same (w.heap.size + 2) w1.heap.size w1 ((((((w1.setCell ⟨w.heap.size, 0, none⟩ p).setCell ⟨w.heap.size, 1, none⟩ q).setCell ⟨w.heap.size, 2, none⟩ r).setCell ⟨w.heap.size + 1, 0, none⟩ p').setCell ⟨w.heap.size + 1, 1, none⟩ q').setCell ⟨w.heap.size + 1, 2, none⟩ r') :=
    ((((((Same.setCell (fun _ _ _ => rfl) (.inl (by simp)) _).setCell (.inl (by simp)) _).setCell (.inl (by simp)) _).setCell (.inl (by simp)) _).setCell (.inl (by simp)) _).setCell (.inl (by simp)) _)
  have hb' : Below w.heap.size w w1 := (((Below.refl _ _).alloc (Nat.le_refl _) o).alloc (by simp) o').trans (hb.mono (by omega))
  exact ⟨s, v, a, c, k, A, C, place, s2, v2, a2, c2, k2, rfl, hS, hpl, hS2, (((((hb'.setCell (Nat.le_refl _) _).setCell (Nat.le_refl _) _).setCell (Nat.le_refl _) _).setCell (by simp) _).setCell (by simp) _).setCell (by simp) _, (hl.same hs).mono (by omega) (by simp), (hi.same hs).mono (by omega) (by simp), (hl2.same hs).mono (by omega) (by simp)⟩

set_option maxRecDepth 100000 in
set_option maxHeartbeats 1000000 in
theorem DrawTermPut_any (a : Option Addr) (len cap : Nat) (w : World) (hby : Bytes w a len) (hlen : len ≤ cap) :
    Calls Try.prog 25 #[.slice a len cap] w (TputPost w) := by
  have HBY := Lib.hid hby
  clear hby
  go_enter Try.func25, Try.ntmps25
  go_wp2_with fail
  with_reducible refine (l6Open_any a len cap _ ((HBY.out.alloc _).alloc _) hlen).mono ?_
  rintro e w1 ⟨rfl, hb1, hrd⟩
  have hs1 := hb1.size
  simp at hs1
  simp only [World.size_alloc] at hrd
  have hlt1 := hrd.lt
  have HRD := Lib.hid hrd
  have HB1 : Hid (Below (w.heap.size + 2) ((w.alloc (.cells #[.int .i64 0, .int .i64 0, .slice none 0 0] 26)).alloc (.cells #[.int .i64 0, .int .i64 0, .slice none 0 0] 26)) w1) := hb1.mono (by simp)
  clear hb1 hrd
  simp only [World.size_alloc]
  go_wp2_with fail
  with_reducible refine (l71Some_any (w.heap.size + 1 + 1) 0 _ HRD.out (by omega)).mono ?_
  rintro e w2 ⟨s, v, a2, c2, k, p2, rfl, _, hp2, hS2, ha2, hl2⟩
  have hs2 := ha2.size
  have HB2 := Lib.hid (adv_low HB1.out (by omega) (by omega) ha2)
  have HR2 := Lib.hid ((ha2.rd HRD.out).alloc (.cells #[.int .i64 s, .int .i64 v, .slice a2 (flen k) c2] 26))
  have hl2' : Sl w2 (w.heap.size + 1 + 1 + 1) w2.heap.size a2 k := hl2.mono (by omega) (Nat.le_refl _)
  have HL2 := Lib.hid (hl2'.low ((Below.refl _ _).alloc (Nat.le_refl _) (.cells #[.int .i64 s, .int .i64 v, .slice a2 (flen k) c2] 26)))
  clear ha2 hl2 hl2'
  obtain ⟨hc0, hc1, hc2⟩ := box_cells (w := w2) (x := .int .i64 s) (y := .int .i64 v) (z := .slice a2 (flen k) c2) (T := 26) ⟨_, Below.refl _ _⟩
  dsimp only at hc0 hc1 hc2
  have HRX : Hid (Rd (w2.alloc (.cells #[.int .i64 s, .int .i64 v, .slice a2 (flen k) c2] 26)).drew (w.heap.size + 1 + 1) p2) := Rd.next HR2.out (bl_self (Below.refl _ _).drew HR2.out.place)
  have HLX : Hid (Sl (w2.alloc (.cells #[.int .i64 s, .int .i64 v, .slice a2 (flen k) c2] 26)).drew ((w.heap.size + 1 + 1) + 1) (w2.alloc (.cells #[.int .i64 s, .int .i64 v, .slice a2 (flen k) c2] 26)).drew.heap.size a2 k) := HL2.out.below (Below.refl _ _).drew
  have HP2 : Hid (p2 ≤ 10000000) := by unfold Hid; omega
  have HW : Hid (∀ w3 p3, Adv (w2.alloc (.cells #[.int .i64 s, .int .i64 v, .slice a2 (flen k) c2] 26)).drew (w.heap.size + 1 + 1) p3 w3 → Adv (w2.alloc (.cells #[.int .i64 s, .int .i64 v, .slice a2 (flen k) c2] 26)) (w.heap.size + 1 + 1) p3 w3) := fun w3 p3 h => (Adv.start HR2.out (Below.refl _ _).drew).trans h
  have HW2 : Hid (∀ w3 p3, Adv (w2.alloc (.cells #[.int .i64 s, .int .i64 v, .slice a2 (flen k) c2] 26)) (w.heap.size + 1 + 1) p3 w3 → Below (w.heap.size + 2) ((w.alloc (.cells #[.int .i64 0, .int .i64 0, .slice none 0 0] 26)).alloc (.cells #[.int .i64 0, .int .i64 0, .slice none 0 0] 26)) w3 ∧ Sl w3 (w.heap.size + 2) w3.heap.size a2 k ∧ w3.cell? ⟨w2.heap.size, 0, none⟩ = some (.int .i64 s) ∧ w3.cell? ⟨w2.heap.size, 1, none⟩ = some (.int .i64 v) ∧ w3.cell? ⟨w2.heap.size, 2, none⟩ = some (.slice a2 (flen k) c2)) := fun w3 p3 h =>
    ⟨adv_low (HB2.out.alloc (by omega) (.cells #[.int .i64 s, .int .i64 v, .slice a2 (flen k) c2] 26)) (by omega) (by simp; omega) h, (HL2.out.adv h (Nat.lt_succ_self _)).mono (by omega) (Nat.le_refl _), h.cell hc0 (by simp; omega), h.cell hc1 (by simp; omega), h.cell hc2 (by simp; omega)⟩
  have hs2' : w.heap.size + 1 + 1 + 1 ≤ w2.heap.size := by omega
  have hu0 : ∀ u : Box3 w2.heap.size (.int .i64 s) (.int .i64 v) (.slice a2 (flen k) c2), u.world.cell? ⟨w2.heap.size, 0, none⟩ = some (.int .i64 s) := fun u => u.cells.1
  have hu1 : ∀ u : Box3 w2.heap.size (.int .i64 s) (.int .i64 v) (.slice a2 (flen k) c2), u.world.cell? ⟨w2.heap.size, 1, none⟩ = some (.int .i64 v) := fun u => u.cells.2.1
  have hu2 : ∀ u : Box3 w2.heap.size (.int .i64 s) (.int .i64 v) (.slice a2 (flen k) c2), u.world.cell? ⟨w2.heap.size, 2, none⟩ = some (.slice a2 (flen k) c2) := fun u => u.cells.2.2
  have HC : Hid ((w2.alloc (.cells #[.int .i64 s, .int .i64 v, .slice a2 (flen k) c2] 26)).drew.cell? ⟨w2.heap.size, 0, none⟩ = some (.int .i64 s) ∧ (w2.alloc (.cells #[.int .i64 s, .int .i64 v, .slice a2 (flen k) c2] 26)).drew.cell? ⟨w2.heap.size, 1, none⟩ = some (.int .i64 v) ∧ (w2.alloc (.cells #[.int .i64 s, .int .i64 v, .slice a2 (flen k) c2] 26)).drew.cell? ⟨w2.heap.size, 2, none⟩ = some (.slice a2 (flen k) c2)) := ⟨cell_low (Below.refl _ _).drew hc0, cell_low (Below.refl _ _).drew hc1, cell_low (Below.refl _ _).drew hc2⟩
  have hne : Nonempty (Box3 w2.heap.size (.int .i64 s) (.int .i64 v) (.slice a2 (flen k) c2)) := ⟨⟨_, HC.out⟩⟩
  go_wp2_with fail
  clear hc0 hc1 hc2
  refine wp_region_mix (fun w' => ∃ u : Box3 w2.heap.size (.int .i64 s) (.int .i64 v) (.slice a2 (flen k) c2), w' = u.world) [] [(0, 0), (1, 0), (2, 0), (4, 0), (3, 1), (5, 1), (6, 1), (7, 1), (8, 1)] (by kernel_rfl) (by kernel_rfl) ⟨⟨_, HC.out⟩, rfl⟩ ?_
  iterate 4
    refine mix_see rfl (fun K hK => ?_)
    go_simp
    refine hK _ ?_
    clear hK K
  clear hu0 hu1 hu2 hne
  refine mix_hold rfl (fun K hK => ?_)
  go_simp
  with_reducible refine (l71Place_any (w.heap.size + 1 + 1) p2 s v a2 c2 k _ HRX.out HP2.out HLX.out).mono ?_
  rintro e w3 ⟨A3, C3, place, p3, rfl, _, hp3, hpl, ha3', hi3⟩
  have ha3 := HW.out _ _ ha3'
  have hs3 : w2.heap.size + 1 ≤ w3.heap.size := by have := ha3.size; simpa using this
  obtain ⟨_, _, hd0, hd1, hd2⟩ := HW2.out _ _ ha3
  have HI3 : Hid (ISc w3 (w.heap.size + 1 + 1 + 1) w3.heap.size A3 C3 place) := hi3.mono (by simp; omega) (Nat.le_refl _)
  have HR3 : Hid (Rd w3 (w.heap.size + 1 + 1) p3) := ha3'.rd HRX.out
  have HA3 := Lib.hid ha3
  have hp3' : p3 ≤ 10000000 := by omega
  refine hK _ _ ⟨⟨_, ⟨hd0, hd1, hd2⟩⟩, rfl⟩ ?_
  clear hK K ha3 ha3' hi3 hd0 hd1 hd2
  refine mix_hold rfl (fun K hK => ?_)
  go_simp
  with_reducible refine (l71Some_any (w.heap.size + 1 + 1) p3 w3 HR3.out hp3').mono ?_
  rintro e w4 ⟨s5, v5, a5, c5, k5, p5, rfl, _, hp5, hS5, ha5, hl5⟩
  have hs5 := ha5.size
  obtain ⟨hb4, hl4, he0, he1, he2⟩ := HW2.out _ _ (HA3.out.trans ha5)
  obtain ⟨hr0, hr1, hr2, hr3, hr4, hr5⟩ := tb_cells hb4
  obtain ⟨hf0, hf3⟩ := tb_free hb4 0 rfl rfl
  obtain ⟨hf1, hf4⟩ := tb_free hb4 1 rfl rfl
  obtain ⟨hf2, hf5⟩ := tb_free hb4 2 rfl rfl
  have HL4 := Lib.hid hl4
  have HB4 := Lib.hid hb4
  have HI4 : Hid (ISc w4 (w.heap.size + 2) w4.heap.size A3 C3 place) := (HI3.out.same (ha5.same (Nat.le_refl _) (.inl (by omega)))).mono (by omega) hs5
  have HL5 : Hid (Sl w4 (w.heap.size + 2) w4.heap.size a5 k5) := hl5.mono (by omega) (Nat.le_refl _)
  have HC4 : Hid (w4.cell? ⟨w2.heap.size, 0, none⟩ = some (.int .i64 s) ∧ w4.cell? ⟨w2.heap.size, 1, none⟩ = some (.int .i64 v) ∧ w4.cell? ⟨w2.heap.size, 2, none⟩ = some (.slice a2 (flen k) c2)) := ⟨he0, he1, he2⟩
  refine hK _ _ ⟨⟨_, HC4.out⟩, rfl⟩ ?_
  clear hK K hb4 hl4 hl5 ha5 he0 he1 he2
  refine mix_hold rfl (fun K hK => ?_)
  go_simp
  refine hK _ _ ⟨⟨_, keep_set HC4.out.1 HC4.out.2.1 HC4.out.2.2 (by omega)⟩, rfl⟩ ?_
  clear hK K
  refine mix_hold rfl (fun K hK => ?_)
  go_simp
  refine hK _ _ ⟨⟨_, keep_set HC4.out.1 HC4.out.2.1 HC4.out.2.2 (by omega)⟩, rfl⟩ ?_
  clear hK K
  refine mix_hold rfl (fun K hK => ?_)
  go_simp
  refine hK _ _ ⟨⟨_, keep_set6 HC4.out.1 HC4.out.2.1 HC4.out.2.2 (by omega) (by omega)⟩, rfl⟩ ?_
  clear hK K
  refine mix_end ?_
  go_wp2_with fail
  refine bodyPost_ret (v := .tuple #[.agg #[.int .i64 s, .int .i64 v, .slice a2 (flen k) c2], .slice A3 place.length C3, .agg #[.int .i64 s5, .int .i64 v5, .slice a5 (flen k5) c5]]) ?_ rfl (tput_end HB4.out hS2 hpl hS5 HL4.out HI4.out HL5.out _ _ _ _ _ _)
  simp [results, Try.results25, go_sem, hr0, hr1, hr2, hr3, hr4, hr5]
end Go.Proofs.Ytafhhhkinodoiaa

/-! P6a: impl.TermPlaces and spec.TermPlaces: of a term the places, of any other value none. -/
namespace Go.Proofs.Ytafhhhkinodoiaa
open Go.RowKit Go.Deep

set_option maxRecDepth 100000 in
set_option maxHeartbeats 1000000 in
theorem iTermPlaces_any (s v : Int) (a : Option Addr) (c : Nat) (k : Fo) (w : World) (hl : Sl w 0 w.heap.size a k) :
    Calls Try.prog 20 #[.agg #[.int .i64 s, .int .i64 v, .slice a (flen k) c]] w (TpPost s v k w) := by
  cases hok : okW s v k 16 with
  | false =>
    have HOK := Lib.hid hok
    clear hok
    go_enter Try.func20, Try.ntmps20
    go_wp2_with fail
    with_reducible refine (nodeOf_any s v a c k 16 _ ?_ (by omega) (by omega)).mono ?_
    · exact (hl.below ((Below.refl _ _).alloc (Nat.le_refl _) _)).mono (Nat.le_refl _) (by simp)
    rintro e w2 ⟨nv, he, hb, hyes⟩
    rw [HOK.out] at he
    subst he
    clear hyes
    go_wp2_with fail
    go_ret
    exact ⟨none, 0, [], rfl, by rw [HOK.out]; rfl, ((Below.refl _ _).alloc (Nat.le_refl _) _).trans (hb.mono (by simp)), .inl rfl⟩
  | true =>
    have HOK := Lib.hid hok
    have hsz := ((okW_iff _ _ _ _).1 hok).2.2
    clear hok
    go_enter Try.func20, Try.ntmps20
    go_wp2_with fail
    with_reducible refine (nodeOf_any s v a c k 16 _ ?_ (by omega) (by omega)).mono ?_
    · exact (hl.below ((Below.refl _ _).alloc (Nat.le_refl _) _)).mono (Nat.le_refl _) (by simp)
    rintro e w2 ⟨nv, he, hb, hyes⟩
    rw [HOK.out] at he
    subst he
    have HN := Lib.hid (hyes HOK.out)
    have HB := Lib.hid (((Below.refl _ _).alloc (Nat.le_refl _) _).trans (hb.mono (by simp)))
    have hs2 := HB.out.size
    clear hyes hb
    obtain ⟨ty, vv, rfl⟩ : ∃ ty vv, nv = .iface ty vv := by
      rcases HN.out with ⟨_, _, rfl⟩ | ⟨_, _, _, rfl, _⟩
      · exact ⟨_, _, rfl⟩
      · exact ⟨_, _, rfl⟩
    go_wp2_with fail
    with_reducible refine (placesOf_any (fsz k) s v k _ _ ?_ (Nat.le_refl _) (by omega)).mono ?_
    · exact HN.out.mono (Nat.zero_le _) (Nat.le_refl _)
    rintro e w3 ⟨A, C, rfl, hb3, hr3⟩
    have HP : Hid (TpPost s v k w (.returned (.slice A (places k).length C)) w3) :=
      ⟨A, C, places k, rfl, by rw [HOK.out]; rfl, HB.out.trans (hb3.mono hs2), hr3.mono hs2 (Nat.le_refl _)⟩
    clear hb3 hr3
    go_wp2_with fail
    go_ret
    exact HP.out

end Go.Proofs.Ytafhhhkinodoiaa

/-! V4b: laIn: whether a number is among such. -/
namespace Go.Proofs.Ytafhhhkinodoiaa
open Go.RowKit Go.Deep

set_option maxRecDepth 100000 in
set_option maxHeartbeats 1000000 in
theorem laIn_any (xs : List Int) (A : Option Addr) (ca : Nat) (n : Int) (w : World) (hA : ISl w 0 w.heap.size A xs) (hx : xs.length ≤ 2000) :
    Calls Try.prog 24 #[.slice A xs.length ca, .int .i64 n] w fun e w' => e = .returned (.bool (decide (n ∈ xs))) ∧ Below w.heap.size w w' := by
  have HA := Lib.hid hA
  clear hA
  go_enter Try.func24, Try.ntmps24
  go_wp2_with fail
  go_loopw [5] (fun i wr => ∃ j : Nat, j ≤ xs.length ∧ i = .int .i64 j ∧ Hid (n ∈ xs ↔ n ∈ xs.drop j) ∧ Below w.heap.size w wr) (fun i _ => xs.length - (intOf i).toNat)
  case atStart => exact ⟨0, by omega, rfl, by simp [Hid], Below.refl _ _⟩
  case round =>
    obtain ⟨j, hj, rfl, hq, hbl⟩ := hrel
    have hbs := hbl.size
    by_cases hlt : j < xs.length
    · obtain ⟨b, o, rfl, _, hb1, hc⟩ := isl_at (HA.out.below hbl) hlt
      have hq1 := hq.out
      rw [List.drop_eq_getElem_cons hlt] at hq1
      have HQ := Lib.hid hq1
      clear hq hq1
      generalize xs[j] = x at hc HQ
      have g1 : (0 : Int) ≤ (j : Int) := by omega
      have g2 : (j : Int) < (xs.length : Int) := by omega
      by_cases hxn : x = n
      · subst hxn
        have ex : (x == x) = true := by simp
        have HE : Hid (decide (x ∈ xs) = true) := decide_eq_true (HQ.out.2 (by simp))
        go_wp2_with fail
        go_ret
        exact ⟨by rw [HE.out]; rfl, hbl⟩
      · have ex : (x == n) = false := by simpa using hxn
        have HE : Hid (n ∈ xs ↔ n ∈ xs.drop (j + 1)) := by
          have : n ≠ x := fun e => hxn e.symm
          rw [Hid, HQ.out]
          simp [this]
        go_wp2_with fail
        go_roundw
        case rel => exact ⟨j + 1, by omega, by go_num, HE, hbl⟩
        case measure => simp [intOf]; omega
    · have HE : Hid (decide (n ∈ xs) = false) := by
        refine decide_eq_false fun h => ?_
        have := hq.out.1 h
        rw [List.drop_eq_nil_of_le (by omega)] at this
        simp at this
      clear hq
      go_wp2_with fail
      go_ret
      exact ⟨by rw [HE.out]; rfl, hbl⟩
end Go.Proofs.Ytafhhhkinodoiaa

/-! V2: - l1Has: whether a variable is in a term. -/
namespace Go.Proofs.Ytafhhhkinodoiaa
open Go.RowKit Go.Deep

theorem one_box {w wr : World} {x y z : Value} (h : Below (w.heap.size + 1) (w.alloc (.cells #[x, y, z] 26)) wr) : wr.cell? ⟨w.heap.size, 2, none⟩ = some z := by
  rw [h.cell (by simp), World.cell?_alloc_at _ _ _ _ (by simp)]; rfl

theorem fvl_drop {x : Int} {j : Nat} {k : Fo} {a b : Nat} {s v : Int} {kk r : Fo} (h : fdrop j k = .node a b (s, v) kk r) : x ∈ fvl (fdrop j k) ↔ x ∈ fvs s v kk ∨ x ∈ fvl r := by
  rw [h]
  simp only [fvl, fvs, List.mem_append]

end Go.Proofs.Ytafhhhkinodoiaa

/-! V4: - spec.TermVars. -/
namespace Go.Proofs.Ytafhhhkinodoiaa
open Go.RowKit Go.Deep

theorem one_box3 {w wr : World} {x y z : Value} (h : Below (w.heap.size + 1) (w.alloc (.cells #[x, y, z] 26)) wr) :
    wr.cell? ⟨w.heap.size, 0, none⟩ = some x ∧ wr.cell? ⟨w.heap.size, 1, none⟩ = some y ∧ wr.cell? ⟨w.heap.size, 2, none⟩ = some z := by
  refine ⟨?_, ?_, ?_⟩
  · rw [h.cell (by simp), World.cell?_alloc_at _ _ _ _ (by simp)]; rfl
  · rw [h.cell (by simp), World.cell?_alloc_at _ _ _ _ (by simp)]; rfl
  · rw [h.cell (by simp), World.cell?_alloc_at _ _ _ _ (by simp)]; rfl

end Go.Proofs.Ytafhhhkinodoiaa

/-! V5d: - DrawTermVars. -/
namespace Go.Proofs.Ytafhhhkinodoiaa
open Go.RowKit Go.Deep

end Go.Proofs.Ytafhhhkinodoiaa

/-! V5: DrawTermVars; the variables of a term with another put to a place. -/
namespace Go.Proofs.Ytafhhhkinodoiaa
open Go.RowKit Go.Deep

theorem fvl_at : ∀ (n : Nat) (k : Fo) {a b : Nat} {s v : Int} {kk r : Fo} {x : Int}, fdrop n k = .node a b (s, v) kk r → x ∈ fvs s v kk → x ∈ fvl k
  | 0, .nil, _, _, _, _, _, _, _, h, _ => by simp [fdrop] at h
  | 0, .node _ _ _ _ _, _, _, _, _, _, _, _, h, hx => by
    simp only [fdrop, BT.node.injEq] at h
    obtain ⟨_, _, rfl, rfl, _⟩ := h
    simp only [fvl, List.mem_append]
    exact .inl hx
  | _ + 1, .nil, _, _, _, _, _, _, _, h, _ => by simp [fdrop] at h
  | n + 1, .node _ _ _ _ r, _, _, _, _, _, _, _, h, hx => by
    simp only [fvl, List.mem_append]
    exact .inr (fvl_at n r (by simpa [fdrop] using h) hx)
theorem fvl_set : ∀ (k : Fo) (n : Nat) (y : Int × Int × Fo) {x : Int}, x ∈ fvl (fset k n y) → x ∈ fvl k ∨ x ∈ fvs y.1 y.2.1 y.2.2
  | .nil, _, _, _, h => .inl h
  | .node _ _ _ _ r, 0, y, x, h => by
    simp only [fset, fvl, List.mem_append] at h ⊢
    rcases h with h | h
    · exact .inr h
    · exact .inl (.inr h)
  | .node _ _ _ _ r, n + 1, y, x, h => by
    simp only [fset, fvl, List.mem_append] at h ⊢
    rcases h with h | h
    · exact .inl (.inl h)
    · rcases fvl_set r n y h with h | h
      · exact .inl (.inr h)
      · exact .inr h
/-- What is put brings its variables alone. -/
theorem fput_vars : ∀ (p : List Int) (s v : Int) (k : Fo) (y : Int × Int × Fo) {s' v' : Int} {k' : Fo} {x : Int}, okN s v (flen k) = true → fok k = true → fput s v k p y = some (s', v', k') → x ∈ fvs s' v' k' → x ∈ fvs s v k ∨ x ∈ fvs y.1 y.2.1 y.2.2
  | [], _, _, _, _, _, _, _, _, _, _, h, hx => by simp only [fput, Option.some.injEq] at h; subst h; exact .inr hx
  | i :: ps, s, v, k, y, s', v', k', x, hok, hfo, h, hx => by
    obtain ⟨n, b, o, s1, v1, kk, ⟨z1, z2, z3⟩, rfl, hn, hd, hz, e⟩ := fput_cons h
    simp only [Prod.mk.injEq] at e
    obtain ⟨rfl, rfl, rfl⟩ := e
    have hs0 : s' ≠ 0 := fun e => by
      subst e
      have := ((okN_iff _ _ _).1 hok).1
      simp [ar] at this
      omega
    have hkid := fok_kid hfo hd
    unfold fvs at hx ⊢
    rw [if_neg hs0] at hx ⊢
    rcases fvl_set k n (z1, z2, z3) hx with h1 | h1
    · exact .inl h1
    · rcases fput_vars ps s1 v1 kk y hkid.1 hkid.2 hz h1 with h2 | h2
      · exact .inl (fvl_at n k hd h2)
      · exact .inr h2
/-- .. and all of them. -/
theorem fput_mine : ∀ (p : List Int) (s v : Int) (k : Fo) (y : Int × Int × Fo) {s' v' : Int} {k' : Fo} {x : Int}, okN s v (flen k) = true → fok k = true → fput s v k p y = some (s', v', k') → x ∈ fvs y.1 y.2.1 y.2.2 → x ∈ fvs s' v' k'
  | [], _, _, _, _, _, _, _, _, _, _, h, hx => by simp only [fput, Option.some.injEq] at h; subst h; exact hx
  | i :: ps, s, v, k, y, s', v', k', x, hok, hfo, h, hx => by
    obtain ⟨n, b, o, s1, v1, kk, ⟨z1, z2, z3⟩, rfl, hn, hd, hz, e⟩ := fput_cons h
    simp only [Prod.mk.injEq] at e
    obtain ⟨rfl, rfl, rfl⟩ := e
    have hs0 : s' ≠ 0 := fun e => by
      subst e
      have := ((okN_iff _ _ _).1 hok).1
      simp [ar] at this
      omega
    have hkid := fok_kid hfo hd
    have h1 := fput_mine ps s1 v1 kk y hkid.1 hkid.2 hz hx
    obtain ⟨b', o', e'⟩ := fset_at k n (z1, z2, z3) hn
    unfold fvs
    rw [if_neg hs0]
    exact fvl_at n _ e' h1

theorem tvR_mem {s v : Int} {k : Fo} (h : okW s v k 16 = true) (x : Int) : x ∈ tvR s v k ↔ x ∈ fvs s v k := by
  unfold tvR
  rw [if_pos h, among_mem]
  constructor
  · exact fun h => h.1
  · intro hx
    have := fvs_in h x hx
    exact ⟨hx, by omega, by omega⟩
end Go.Proofs.Ytafhhhkinodoiaa

/-! P7a: Each place is there, none twice: plain. -/
namespace Go.Proofs.Ytafhhhkinodoiaa
open Go.RowKit Go.Deep

mutual
theorem fpl_at : ∀ (r : Fo) (s v : Int) (k : Fo) (i : Nat) (p : List Int), fdrop i k = r → p ∈ fpl r i → ∃ x, fat s v k p = some x
  | .nil, _, _, _, _, _, _, hp => by simp [fpl] at hp
  | .node x y (s', v') kk r, s, v, k, i, p, hd, hp => by
    simp only [fpl, List.mem_append, List.mem_map] at hp
    rcases hp with ⟨q, hq, rfl⟩ | hp
    · have hi : i < flen k := by
        by_cases h : i < flen k
        · exact h
        · rw [fdrop_all (by omega)] at hd; cases hd
      obtain ⟨z, hz⟩ := places_at kk s' v' q hq
      refine ⟨z, ?_⟩
      simp only [fat]
      rw [if_pos (by omega)]
      simp only [Int.toNat_natCast, hd]
      exact hz
    · have hd' : fdrop (i + 1) k = r := by
        have hi : i < flen k := by
          by_cases h : i < flen k
          · exact h
          · rw [fdrop_all (by omega)] at hd; cases hd
        obtain ⟨x', y', s2, v2, kk2, e⟩ := fdrop_succ i k hi
        rw [hd] at e
        simp only [BT.node.injEq] at e
        exact e.2.2.2.2.symm
      exact fpl_at r s v k (i + 1) p hd' hp
  termination_by r => (SizeOf.sizeOf r, 0)
theorem places_at : ∀ (k : Fo) (s v : Int) (p : List Int), p ∈ [] :: fpl k 0 → ∃ x, fat s v k p = some x
  | k, s, v, p, hp => by
    rcases List.mem_cons.1 hp with rfl | hp
    · exact ⟨_, rfl⟩
    · exact fpl_at k s v k 0 p rfl hp
  termination_by k => (SizeOf.sizeOf k, 1)
end

theorem fpl_head : ∀ (k : Fo) (i : Nat) (p : List Int), p ∈ fpl k i → ∃ (j : Nat) (q : List Int), p = (j : Int) :: q ∧ i ≤ j
  | .nil, _, _, hp => by simp [fpl] at hp
  | .node _ _ _ kk r, i, p, hp => by
    simp only [fpl, List.mem_append, List.mem_map] at hp
    rcases hp with ⟨q, _, rfl⟩ | hp
    · exact ⟨i, q, rfl, Nat.le_refl _⟩
    · obtain ⟨j, q, e, h⟩ := fpl_head r (i + 1) p hp
      exact ⟨j, q, e, by omega⟩
theorem nil_fpl {k : Fo} {i : Nat} {b : List Int} (hb : b ∈ fpl k i) : [] ≠ b := by
  obtain ⟨j, q, e, _⟩ := fpl_head k i b hb
  intro e'
  rw [e] at e'
  cases e'
theorem fpl_apart : ∀ (k : Fo) (i : Nat), (fpl k i).Pairwise (· ≠ ·)
  | .nil, _ => List.Pairwise.nil
  | .node _ _ _ kk r, i => by
    simp only [fpl]
    rw [List.pairwise_append]
    refine ⟨?_, fpl_apart r (i + 1), fun a ha b hb => ?_⟩
    · rw [List.pairwise_map]
      have h : ([] :: fpl kk 0).Pairwise (· ≠ ·) := List.pairwise_cons.2 ⟨fun _ hb => nil_fpl hb, fpl_apart kk 0⟩
      exact h.imp fun hne e => hne (List.cons.inj e).2
    · obtain ⟨q, _, rfl⟩ := List.mem_map.1 ha
      obtain ⟨j, q', rfl, hj⟩ := fpl_head r (i + 1) b hb
      intro e
      have := (List.cons.inj e).1
      omega
theorem places_apart (k : Fo) : (places k).Pairwise (· ≠ ·) :=
  List.pairwise_cons.2 ⟨fun _ hb => nil_fpl hb, fpl_apart k 0⟩
theorem places_unlike {k : Fo} {i j : Nat} {p q : List Int} (hi : (places k)[i]? = some p) (hj : (places k)[j]? = some q) (hij : i < j) : p ≠ q := by
  obtain ⟨h1, rfl⟩ := List.getElem?_eq_some_iff.1 hi
  obtain ⟨h2, rfl⟩ := List.getElem?_eq_some_iff.1 hj
  exact List.pairwise_iff_getElem.1 (places_apart k) i j h1 h2 hij
end Go.Proofs.Ytafhhhkinodoiaa

/-! P5a: - laInts: what is the same comes out the same. -/
namespace Go.Proofs.Ytafhhhkinodoiaa
open Go.RowKit Go.Deep

end Go.Proofs.Ytafhhhkinodoiaa

/-! P7: - Places of a term: each is there, none comes twice; laInts on unlike rows. -/
namespace Go.Proofs.Ytafhhhkinodoiaa
open Go.RowKit Go.Deep


end Go.Proofs.Ytafhhhkinodoiaa

/-! V6: The variables of a term are those at its places. Plain lemmas. -/
namespace Go.Proofs.Ytafhhhkinodoiaa
open Go.RowKit Go.Deep

theorem fdrop_lt {n : Nat} {k : Fo} {a b : Nat} {p : Int × Int} {kk r : Fo} (h : fdrop n k = .node a b p kk r) : n < flen k := by
  rcases Nat.lt_or_ge n (flen k) with h' | h'
  · exact h'
  · rw [fdrop_all h'] at h; cases h
theorem fpl_mem : ∀ (n : Nat) (k : Fo) (i : Nat) {a b : Nat} {q : Int × Int} {kk r : Fo} {p : List Int}, fdrop n k = .node a b q kk r → p ∈ places kk → ((i + n : Nat) : Int) :: p ∈ fpl k i
  | 0, .nil, _, _, _, _, _, _, _, h, _ => by simp [fdrop] at h
  | 0, .node _ _ _ _ _, i, _, _, _, _, _, _, h, hp => by
    simp only [fdrop, BT.node.injEq] at h
    obtain ⟨_, _, _, rfl, _⟩ := h
    simp only [fpl, List.mem_append]
    exact .inl (List.mem_map.2 ⟨_, hp, rfl⟩)
  | _ + 1, .nil, _, _, _, _, _, _, _, h, _ => by simp [fdrop] at h
  | n + 1, .node _ _ _ _ r, i, _, _, _, _, _, _, h, hp => by
    simp only [fpl, List.mem_append]
    have := fpl_mem n r (i + 1) (by simpa [fdrop] using h) hp
    rw [show i + (n + 1) = i + 1 + n from by omega]
    exact .inr this
theorem fvl_ex : ∀ (k : Fo) {x : Int}, x ∈ fvl k → ∃ n a b s v kk r, fdrop n k = .node a b (s, v) kk r ∧ x ∈ fvs s v kk
  | .nil, _, h => by simp [fvl] at h
  | .node a b (s, v) kk r, x, h => by
    simp only [fvl, List.mem_append] at h
    rcases h with h | h
    · exact ⟨0, a, b, s, v, kk, r, rfl, h⟩
    · obtain ⟨n, a', b', s', v', kk', r', e, hx⟩ := fvl_ex r h
      exact ⟨n + 1, a', b', s', v', kk', r', e, hx⟩
theorem var_place (N : Nat) : ∀ (s v : Int) (k : Fo) {x : Int}, fsz k ≤ N → x ∈ fvs s v k → ∃ p kk, p ∈ places k ∧ fat s v k p = some (0, x, kk) := by
  induction N using Nat.strongRecOn with
  | _ N ih =>
    intro s v k x hN hx
    unfold fvs at hx
    split at hx
    · rename_i hs
      simp only [List.mem_singleton] at hx
      subst hs
      subst hx
      exact ⟨[], k, by simp [places], rfl⟩
    · obtain ⟨n, a, b, s', v', kk, r, e, hx'⟩ := fvl_ex k hx
      have hk := fsz_kid e
      obtain ⟨p, k2, hp, hf⟩ := ih (fsz kk) (by omega) s' v' kk (Nat.le_refl _) hx'
      refine ⟨(n : Int) :: p, k2, ?_, by rw [fat_step (fdrop_lt e) e]; exact hf⟩
      have := fpl_mem n k 0 e hp
      rw [Nat.zero_add] at this
      exact List.mem_cons_of_mem _ this
theorem place_var : ∀ (p : List Int) (s v : Int) (k : Fo) {x : Int} {kk : Fo}, okN s v (flen k) = true → fok k = true → fat s v k p = some (0, x, kk) → x ∈ fvs s v k
  | [], s, v, k, x, kk, _, _, h => by
    simp only [fat, Option.some.injEq, Prod.mk.injEq] at h
    obtain ⟨rfl, rfl, rfl⟩ := h
    simp [fvs]
  | i :: ps, s, v, k, x, kk, hok, hfo, h => by
    by_cases hi : 0 ≤ i ∧ i < (flen k : Int)
    · obtain ⟨n, rfl⟩ : ∃ n : Nat, i = n := ⟨i.toNat, by omega⟩
      obtain ⟨a, b, s', v', k', e⟩ := fdrop_succ n k (by omega)
      rw [fat_step (by omega) e] at h
      have hkid := fok_kid hfo e
      have := place_var ps s' v' k' hkid.1 hkid.2 h
      have hs0 : s ≠ 0 := fun e => by
        subst e
        have := ((okN_iff _ _ _).1 hok).1
        simp [ar] at this
        omega
      unfold fvs
      rw [if_neg hs0]
      exact fvl_at n k e this
    · rw [fat_out hi] at h; cases h

/-- The variables at the first j places. -/
def Seen (s v : Int) (k : Fo) (j : Nat) (ns : List Int) : Prop := ns.Nodup ∧ ∀ y, y ∈ ns ↔ ∃ i p kk, i < j ∧ (places k)[i]? = some p ∧ fat s v k p = some (0, y, kk)
theorem Seen.start (s v : Int) (k : Fo) : Seen s v k 0 [] := ⟨List.nodup_nil, fun y => ⟨fun h => by simp at h, fun ⟨i, p, kk, hi, _⟩ => by omega⟩⟩
theorem Seen.skip {s v : Int} {k : Fo} {j : Nat} {ns : List Int} {p : List Int} {y1 y2 : Int} {y3 : Fo} (h : Seen s v k j ns) (hp : (places k)[j]? = some p) (hf : fat s v k p = some (y1, y2, y3)) (hy : y1 ≠ 0 ∨ y2 ∈ ns) : Seen s v k (j + 1) ns := by
  refine ⟨h.1, fun y => ⟨fun hyn => ?_, fun hyn => ?_⟩⟩
  · obtain ⟨i, q, kk, hi, e⟩ := (h.2 y).1 hyn
    exact ⟨i, q, kk, by omega, e⟩
  · obtain ⟨i, q, kk, hi, e1, e2⟩ := hyn
    by_cases hij : i < j
    · exact (h.2 y).2 ⟨i, q, kk, hij, e1, e2⟩
    · have : i = j := by omega
      subst this
      rw [hp] at e1
      cases e1
      rw [hf] at e2
      simp only [Option.some.injEq, Prod.mk.injEq] at e2
      obtain ⟨e3, e4, _⟩ := e2
      rcases hy with hy | hy
      · exact absurd e3 hy
      · rw [← e4]; exact hy
theorem Seen.more {s v : Int} {k : Fo} {j : Nat} {ns : List Int} {p : List Int} {y2 : Int} {y3 : Fo} (h : Seen s v k j ns) (hp : (places k)[j]? = some p) (hf : fat s v k p = some (0, y2, y3)) (hy : y2 ∉ ns) : Seen s v k (j + 1) (ns ++ [y2]) := by
  refine ⟨List.nodup_append.2 ⟨h.1, by simp, fun a ha b hb => ?_⟩, fun y => ?_⟩
  · simp only [List.mem_singleton] at hb
    subst hb
    exact fun e => hy (by rw [← e]; exact ha)
  · rw [List.mem_append, List.mem_singleton]
    constructor
    · rintro (hyn | rfl)
      · obtain ⟨i, q, kk, hi, e⟩ := (h.2 y).1 hyn
        exact ⟨i, q, kk, by omega, e⟩
      · exact ⟨j, p, y3, by omega, hp, hf⟩
    · rintro ⟨i, q, kk, hi, e1, e2⟩
      by_cases hij : i < j
      · exact .inl ((h.2 y).2 ⟨i, q, kk, hij, e1, e2⟩)
      · have : i = j := by omega
        subst this
        rw [hp] at e1
        cases e1
        rw [hf] at e2
        simp only [Option.some.injEq, Prod.mk.injEq] at e2
        exact .inr e2.2.1.symm
theorem Seen.all {s v : Int} {k : Fo} {ns : List Int} (hok : okW s v k 16 = true) (h : Seen s v k (places k).length ns) : ns.length = (tvR s v k).length := by
  have h' := (okW_iff _ _ _ _).1 hok
  have hd : (tvR s v k).Nodup := by
    unfold tvR
    rw [if_pos hok]
    exact (among_strict _ _).imp (fun h => by omega)
  refine ((List.perm_ext_iff_of_nodup h.1 hd).2 fun y => ?_).length_eq
  rw [tvR_mem hok, h.2 y]
  constructor
  · rintro ⟨i, p, kk, _, _, hf⟩
    exact place_var p s v k h'.1 h'.2.1 hf
  · intro hy
    obtain ⟨p, kk, hp, hf⟩ := var_place (fsz k) s v k (Nat.le_refl _) hy
    obtain ⟨i, hi, e⟩ := List.getElem_of_mem hp
    exact ⟨i, p, kk, hi, by rw [List.getElem?_eq_getElem hi, e], hf⟩
theorem grown_cell {w w' : World} {o : Obj} {row : Option Nat} {b i : Nat} {u : Value} (h : (w.alloc o).grownBy w' row) (hr : ∀ g, row = some g → g ≠ b) (hc : w.cell? ⟨b, i, none⟩ = some u) : w'.cell? ⟨b, i, none⟩ = some u := by
  have h1 := cell_low ((Below.refl _ _).alloc (Nat.le_refl _) o) hc
  rw [h.cell_far _ (World.block_lt_of_cell? _ _ h1) (fun e => hr _ e.symm rfl)]
  exact h1
theorem tvR_up {s v : Int} {k : Fo} {q : Nat} {x y : Int} (hx : (tvR s v k)[q]? = some x) (hy : (tvR s v k)[q + 1]? = some y) : x < y := by
  have h : (tvR s v k).Pairwise (· < ·) := by
    unfold tvR
    split
    · exact among_strict _ _
    · exact List.Pairwise.nil
  obtain ⟨h1, rfl⟩ := List.getElem?_eq_some_iff.1 hx
  obtain ⟨h2, rfl⟩ := List.getElem?_eq_some_iff.1 hy
  exact List.pairwise_iff_getElem.1 h q (q + 1) h1 h2 (Nat.lt_succ_self _)
end Go.Proofs.Ytafhhhkinodoiaa

/-! WL: - The size of a node; TermSize. -/
namespace Go.Proofs.Ytafhhhkinodoiaa
open Go.RowKit Go.Deep
set_option maxRecDepth 100000 in
set_option maxHeartbeats 1000000 in
theorem iTermSize_any (s v : Int) (a : Option Addr) (c : Nat) (k : Fo) (w : World) (hl : Sl w 0 w.heap.size a k) :
    Calls Try.prog 23 #[.agg #[.int .i64 s, .int .i64 v, .slice a (flen k) c]] w fun e w' => e = .returned (.int .i64 (if okW s v k 16 = true then 1 + fsz k else -1)) ∧ Below w.heap.size w w' := by
  cases hok : okW s v k 16 with
  | false =>
    have HOK := Lib.hid hok
    clear hok
    go_enter Try.func23, Try.ntmps23
    go_wp2_with fail
    with_reducible refine (nodeOf_any s v a c k 16 _ ?_ (by omega) (by omega)).mono ?_
    · exact (hl.below ((Below.refl _ _).alloc (Nat.le_refl _) _)).mono (Nat.le_refl _) (by simp)
    rintro e w2 ⟨nv, he, hb, hyes⟩
    rw [HOK.out] at he
    subst he
    clear hyes
    go_wp2_with fail
    go_ret
    exact ⟨rfl, ((Below.refl _ _).alloc (Nat.le_refl _) _).trans (hb.mono (by simp))⟩
  | true =>
    have HOK := Lib.hid hok
    have hsz := ((okW_iff _ _ _ _).1 hok).2.2
    clear hok
    go_enter Try.func23, Try.ntmps23
    go_wp2_with fail
    with_reducible refine (nodeOf_any s v a c k 16 _ ?_ (by omega) (by omega)).mono ?_
    · exact (hl.below ((Below.refl _ _).alloc (Nat.le_refl _) _)).mono (Nat.le_refl _) (by simp)
    rintro e w2 ⟨nv, he, hb, hyes⟩
    rw [HOK.out] at he
    subst he
    have hn := hyes HOK.out
    have HB := Lib.hid (((Below.refl _ _).alloc (Nat.le_refl _) _).trans (hb.mono (by simp)))
    clear hyes hb
    rcases hn with ⟨hs', rfl, rfl⟩ | ⟨hs', a2, c2, rfl, hn2⟩
    · go_wp2_with fail
      refine upon_method 129 (by kernel_rfl) (by kernel_rfl) ?_
      go_simp
      with_reducible refine (varSize_any v _).mono ?_
      rintro e w3 ⟨rfl, rfl⟩
      go_wp2_with fail
      go_ret
      exact ⟨rfl, HB.out⟩
    · have HN2 := Lib.hid hn2
      clear hn2
      go_wp2_with fail
      refine upon_method 132 (by kernel_rfl) (by kernel_rfl) ?_
      go_simp
      with_reducible refine (symSize_any (fsz k) s a2 c2 k _ ?_ (Nat.le_refl _) (by omega)).mono ?_
      · exact HN2.out.mono (Nat.zero_le _) (Nat.le_refl _)
      rintro e w3 ⟨rfl, hb3⟩
      go_wp2_with fail
      go_ret
      exact ⟨by simp, HB.out.trans (hb3.mono HB.out.size)⟩

end Go.Proofs.Ytafhhhkinodoiaa

/-! WDi: TermOk of the program. -/
namespace Go.Proofs.Ytafhhhkinodoiaa
open Go.RowKit Go.Deep

set_option maxHeartbeats 400000 in
theorem iTermOk_any (s v : Int) (a : Option Addr) (c : Nat) (k : Fo) (w : World) (hl : Sl w 0 w.heap.size a k) :
    Calls Try.prog 22 #[.agg #[.int .i64 s, .int .i64 v, .slice a (flen k) c]] w fun e w' => e = .returned (.bool (okW s v k 16)) ∧ Below w.heap.size w w' := by
  go_enter Try.func22, Try.ntmps22
  go_wp2_with fail
  with_reducible refine (nodeOf_any s v a c k 16 _ ?_ ?_ ?_).mono ?_
  · exact (hl.below ((Below.refl _ _).alloc (Nat.le_refl _) _)).mono (Nat.le_refl _) (by simp)
  · omega
  · omega
  rintro e w2 ⟨nv, rfl, hb, hyes⟩
  clear hyes
  go_wp2_with fail
  go_ret
  exact ⟨rfl, ((Below.refl _ _).alloc (Nat.le_refl _) _).trans (hb.mono (by simp))⟩
end Go.Proofs.Ytafhhhkinodoiaa

/-! FrameO: What every row's closing text needs. -/
namespace Go.Proofs.Ytafhhhkinodoiaa
theorem Try.own : ownKnob Try.prog.godebug = none := by kernel_rfl
theorem Try.laidOut : laidOutB Try.prog = true := by kernel_rfl
end Go.Proofs.Ytafhhhkinodoiaa

/-! Frame: A slice of bytes that came in, as the walks take it. -/
namespace Go.Proofs.Ytafhhhkinodoiaa
open Go.ChangeShapes Go.WideShapes Go.ChangeAt Go.RowKit

/-- A slice of bytes: it is nil; or it leads to a row of cap cells. -/
def IsRow (w : World) (a : Option Addr) (len cap : Nat) (zs : List Int) : Prop :=
  (a = none ∧ len = 0 ∧ cap = 0 ∧ zs = []) ∨
  ∃ x, a = some x ∧ len ≤ cap ∧ cap ≤ maxLen ∧ zs.length = cap ∧ (∀ i, i < zs.length → w.cell? (x.add i) = some (.int .u8 (zs.getD i 0))) ∧ ∀ n ∈ zs, (Lit.int .u8 n).wf = true

theorem bytes_of_row {w : World} {a : Option Addr} {len cap : Nat} {zs : List Int} (h : IsRow w a len cap zs) : Bytes w a len ∧ len ≤ cap := by
  rcases h with ⟨_, h1, h2, _⟩ | ⟨x, rfl, h1, _, h2, h3, h4⟩
  · exact ⟨.inl h1, by omega⟩
  · refine ⟨?_, h1⟩
    by_cases hl : len = 0
    · exact .inl hl
    · obtain ⟨b, o, spot⟩ := x
      have c0 := h3 0 (by omega)
      have hs : spot = none := by simpa [Addr.add] using World.cell?_spot c0
      subst hs
      have ha : ∀ n, (⟨b, o, none⟩ : Addr).add n = ⟨b, o + n, none⟩ := fun n => by unfold Addr.add; split <;> simp_all
      rw [ha] at c0
      refine .inr ⟨b, o, rfl, World.block_lt_of_cell? _ _ c0, fun i hi => ?_⟩
      have ci := h3 i (by omega)
      rw [ha] at ci
      have hm : zs.getD i 0 ∈ zs := by
        rw [List.getD_eq_getElem?_getD, List.getElem?_eq_getElem (by omega)]
        exact List.getElem_mem _
      have hb := bounds_u8 (h4 _ hm)
      obtain ⟨n, hn⟩ := Int.eq_ofNat_of_zero_le hb.1
      exact ⟨n, by omega, by rw [ci, hn]⟩

/-- Out of the reading of an argument. -/
theorem row_of_trod {H : Type} {enc : TypeId × Value → H} {W : World} {a : Option Addr} {len cap : Nat} {d : DataW H} {p : List MemPlace} (h : DataW.Trod enc Try.prog W 0 (fun _ => true) true 22 (.slice a len cap) d p) : ∃ zs, IsRow W a len cap zs := by
  obtain ⟨fuel, hf⟩ := h
  rcases open_ints Try.underlying22 Try.underlying5 (by kernel_rfl) hf with ⟨hcs, _⟩ | ⟨x, l, c, zs, hcs, _, hl, hm, hz, _, hcell, hwz⟩
  · simp [Value.cells] at hcs
    obtain ⟨rfl, rfl, rfl⟩ := hcs
    exact ⟨[], .inl ⟨rfl, rfl, rfl, rfl⟩⟩
  · simp [Value.cells] at hcs
    obtain ⟨rfl, rfl, rfl⟩ := hcs
    exact ⟨zs, .inr ⟨_, rfl, hl, hm, by simpa using hz, hcell, hwz⟩⟩

end Go.Proofs.Ytafhhhkinodoiaa
