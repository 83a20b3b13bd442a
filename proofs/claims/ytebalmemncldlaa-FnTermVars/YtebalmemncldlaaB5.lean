/- DrawTermAt. -/
import Derived.Test.YtebalmemncldlaaB4
import Derived.Deep.RegionHeld3
import Derived.Deep.DrawnRows
namespace Go.Proofs.Ytebalmemncldlaa
open Go.RowKit Go.Deep
attribute [local go_sem ↓] Go.wp_at_zero Go.wp_at_succ

theorem keep_set {w3 : World} {b n : Nat} {x y z x' y' z' : Value} (h0 : w3.cell? ⟨b, 0, none⟩ = some x) (h1 : w3.cell? ⟨b, 1, none⟩ = some y) (h2 : w3.cell? ⟨b, 2, none⟩ = some z) (hne : n < b) :
    (((w3.setCell ⟨n, 0, none⟩ x').setCell ⟨n, 1, none⟩ y').setCell ⟨n, 2, none⟩ z').cell? ⟨b, 0, none⟩ = some x ∧ (((w3.setCell ⟨n, 0, none⟩ x').setCell ⟨n, 1, none⟩ y').setCell ⟨n, 2, none⟩ z').cell? ⟨b, 1, none⟩ = some y ∧ (((w3.setCell ⟨n, 0, none⟩ x').setCell ⟨n, 1, none⟩ y').setCell ⟨n, 2, none⟩ z').cell? ⟨b, 2, none⟩ = some z := by
  have hc : ∀ {q : Addr} {u : Value}, w3.cell? q = some u → q.block ≠ n → (((w3.setCell ⟨n, 0, none⟩ x').setCell ⟨n, 1, none⟩ y').setCell ⟨n, 2, none⟩ z').cell? q = some u := fun {q u} hq hne => by
    rw [World.cell?_setCell_other _ _ _ _ (by intro e; exact hne (congrArg Addr.block e).symm), World.cell?_setCell_other _ _ _ _ (by intro e; exact hne (congrArg Addr.block e).symm), World.cell?_setCell_other _ _ _ _ (by intro e; exact hne (congrArg Addr.block e).symm)]
    exact hq
  exact ⟨hc h0 (by simp; omega), hc h1 (by simp; omega), hc h2 (by simp; omega)⟩

def TaPost (w : World) (e : Ending) (w' : World) : Prop :=
  ∃ s v a c k A C place, e = .returned (.tuple #[.agg #[.int .i64 s, .int .i64 v, .slice a (flen k) c], .slice A (List.length place) C]) ∧ 1 + fsz k ≤ 31000 ∧ place.length ≤ 2000 ∧ Below w.heap.size w w' ∧ Sl w' w.heap.size w'.heap.size a k ∧ ISc w' w.heap.size w'.heap.size A C place

theorem ta_end {w w1 : World} {o : Obj} {s v : Int} {a A : Option Addr} {c C : Nat} {k : Fo} {place : List Int} (hb : Below (w.heap.size + 1) (w.alloc o) w1) (hS : 1 + fsz k ≤ 31000) (hpl : place.length ≤ 2000) (hl : Sl w1 (w.heap.size + 1) w1.heap.size a k) (hi : ISc w1 (w.heap.size + 1) w1.heap.size A C place) (x y z : Value) :
    TaPost w (.returned (.tuple #[.agg #[.int .i64 s, .int .i64 v, .slice a (flen k) c], .slice A place.length C])) (((w1.setCell ⟨w.heap.size, 0, none⟩ x).setCell ⟨w.heap.size, 1, none⟩ y).setCell ⟨w.heap.size, 2, none⟩ z) := by
  have hs : Same (w.heap.size + 1) w1.heap.size w1 (((w1.setCell ⟨w.heap.size, 0, none⟩ x).setCell ⟨w.heap.size, 1, none⟩ y).setCell ⟨w.heap.size, 2, none⟩ z) :=
    (((Same.setCell (fun _ _ _ => rfl) (.inl (by simp)) _).setCell (.inl (by simp)) _).setCell (.inl (by simp)) _)
  have hb' : Below w.heap.size w w1 := ((Below.refl _ _).alloc (Nat.le_refl _) o).trans (hb.mono (by omega))
  exact ⟨s, v, a, c, k, A, C, place, rfl, hS, hpl, ((hb'.setCell (Nat.le_refl _) _).setCell (Nat.le_refl _) _).setCell (Nat.le_refl _) _, (hl.same hs).mono (by omega) (by simp), (hi.same hs).mono (by omega) (by simp)⟩

set_option maxRecDepth 100000 in
set_option maxHeartbeats 1000000 in
theorem DrawTermAt_any (a : Option Addr) (len cap : Nat) (w : World) (hby : Bytes w a len) (hlen : len ≤ cap) :
    Calls Try.prog 13 #[.slice a len cap] w (TaPost w) := by
  have HBY := Lib.hid hby
  clear hby
  go_enter Try.func13, Try.ntmps13
  go_wp2_with fail
  with_reducible refine (l6Open_any a len cap _ (HBY.out.alloc _) hlen).mono ?_
  rintro e w1 ⟨rfl, hb1, hrd⟩
  have hs1 := hb1.size
  simp at hs1
  simp only [World.size_alloc] at hrd
  have hlt1 := hrd.lt
  have HRD := Lib.hid hrd
  have HB1 : Hid (Below (w.heap.size + 1) (w.alloc (.cells #[.int .i64 0, .int .i64 0, .slice none 0 0] 25)) w1) := hb1.mono (by simp)
  clear hb1 hrd
  simp only [World.size_alloc]
  go_wp2_with fail
  with_reducible refine (l71Some_any (w.heap.size + 1) 0 _ HRD.out (by omega)).mono ?_
  rintro e w2 ⟨s, v, a2, c2, k, p2, rfl, _, hp2, hS2, ha2, hl2⟩
  have hs2 := ha2.size
  have HB2 := Lib.hid (adv_low HB1.out (by omega) (by omega) ha2)
  have HR2 := Lib.hid ((ha2.rd HRD.out).alloc (.cells #[.int .i64 s, .int .i64 v, .slice a2 (flen k) c2] 25))
  have hl2' : Sl w2 (w.heap.size + 1 + 1) w2.heap.size a2 k := hl2.mono (by omega) (Nat.le_refl _)
  have HL2 := Lib.hid (hl2'.low ((Below.refl _ _).alloc (Nat.le_refl _) (.cells #[.int .i64 s, .int .i64 v, .slice a2 (flen k) c2] 25)))
  clear ha2 hl2 hl2'
  obtain ⟨hc0, hc1, hc2⟩ := box_cells (w := w2) (x := .int .i64 s) (y := .int .i64 v) (z := .slice a2 (flen k) c2) (T := 25) ⟨_, Below.refl _ _⟩
  dsimp only at hc0 hc1 hc2
  have HRX : Hid (Rd (w2.alloc (.cells #[.int .i64 s, .int .i64 v, .slice a2 (flen k) c2] 25)).drew (w.heap.size + 1) p2) := Rd.next HR2.out (bl_self (Below.refl _ _).drew HR2.out.place)
  have HLX : Hid (Sl (w2.alloc (.cells #[.int .i64 s, .int .i64 v, .slice a2 (flen k) c2] 25)).drew (w.heap.size + 1 + 1) (w2.alloc (.cells #[.int .i64 s, .int .i64 v, .slice a2 (flen k) c2] 25)).drew.heap.size a2 k) := HL2.out.below (Below.refl _ _).drew
  have HP2 : Hid (p2 ≤ 10000000) := by unfold Hid; omega
  have HW : Hid (∀ w3 p3, Adv (w2.alloc (.cells #[.int .i64 s, .int .i64 v, .slice a2 (flen k) c2] 25)).drew (w.heap.size + 1) p3 w3 → Adv (w2.alloc (.cells #[.int .i64 s, .int .i64 v, .slice a2 (flen k) c2] 25)) (w.heap.size + 1) p3 w3) := fun w3 p3 h => (Adv.start HR2.out (Below.refl _ _).drew).trans h
  have HW2 : Hid (∀ w3 p3, Adv (w2.alloc (.cells #[.int .i64 s, .int .i64 v, .slice a2 (flen k) c2] 25)) (w.heap.size + 1) p3 w3 → Below (w.heap.size + 1) (w.alloc (.cells #[.int .i64 0, .int .i64 0, .slice none 0 0] 25)) w3 ∧ Sl w3 (w.heap.size + 1) w3.heap.size a2 k ∧ w3.cell? ⟨w2.heap.size, 0, none⟩ = some (.int .i64 s) ∧ w3.cell? ⟨w2.heap.size, 1, none⟩ = some (.int .i64 v) ∧ w3.cell? ⟨w2.heap.size, 2, none⟩ = some (.slice a2 (flen k) c2)) := fun w3 p3 h =>
    ⟨adv_low (HB2.out.alloc (by omega) (.cells #[.int .i64 s, .int .i64 v, .slice a2 (flen k) c2] 25)) (by omega) (by simp; omega) h, (HL2.out.adv h (Nat.lt_succ_self _)).mono (by omega) (Nat.le_refl _), h.cell hc0 (by simp; omega), h.cell hc1 (by simp; omega), h.cell hc2 (by simp; omega)⟩
  go_wp2_with fail
  go_region_held3 (fun w' => w'.cell? ⟨w2.heap.size, 0, none⟩ = some (.int .i64 s) ∧ w'.cell? ⟨w2.heap.size, 1, none⟩ = some (.int .i64 v) ∧ w'.cell? ⟨w2.heap.size, 2, none⟩ = some (.slice a2 (flen k) c2))
    (first
      | exact ⟨hd0, hd1, hd2⟩
      | exact keep_set hd0 hd1 hd2 (by omega)
      | go_keep)
    ((go_at_call 38; refine (l71Place_any (w.heap.size + 1) p2 s v a2 c2 k (w2.alloc (.cells #[.int .i64 s, .int .i64 v, .slice a2 (flen k) c2] 25)).drew HRX.out HP2.out HLX.out).mono ?_; rintro e w3 ⟨A3, C3, place, p3, rfl, _, _, hpl, ha3', hi3⟩; have ha3 := HW.out _ _ ha3'; have hs3 : w2.heap.size + 1 ≤ w3.heap.size := (by have := ha3.size; simpa using this); obtain ⟨hb3, hl3, hd0, hd1, hd2⟩ := HW2.out _ _ ha3; obtain ⟨hr0, hr1, hr2, hf0, hf1, hf2⟩ := res_low hb3; have HL3 := Lib.hid hl3; have HB3 := Lib.hid hb3; have HI3 : Hid (ISc w3 (w.heap.size + 1) w3.heap.size A3 C3 place) := hi3.mono (by simp; omega) (Nat.le_refl _); clear hl3 hb3 hi3))
  go_wp2_with fail
  refine bodyPost_ret (v := .tuple #[.agg #[.int .i64 s, .int .i64 v, .slice a2 (flen k) c2], .slice A3 place.length C3]) ?_ rfl (ta_end HB3.out hS2 hpl HL3.out HI3.out _ _ _)
  simp [results, Try.results13, go_sem, hr0, hr1, hr2]
end Go.Proofs.Ytebalmemncldlaa
