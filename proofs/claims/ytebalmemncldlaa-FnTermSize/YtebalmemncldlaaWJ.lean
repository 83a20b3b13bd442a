/- DrawTermOk, l71Some, DrawTermSize. -/
import Derived.Test.YtebalmemncldlaaWI
namespace Go.Proofs.Ytebalmemncldlaa
open Go.RowKit Go.Deep

/-- A term of at most that size is handed back, in new memory. -/
def TermPost (S : Nat) (w : World) (e : Ending) (w' : World) : Prop :=
  ∃ s v a c k, e = .returned (.agg #[.int .i64 s, .int .i64 v, .slice a (flen k) c]) ∧ 1 + fsz k ≤ S ∧ Below w.heap.size w w' ∧ Sl w' w.heap.size w'.heap.size a k

theorem adv_low {w w1 w2 : World} {n br p : Nat} (hb : Below n w w1) (h1 : n ≤ br) (h2 : n ≤ w1.heap.size) (ha : Adv w1 br p w2) : Below n w w2 :=
  (hb.setCell (p := ⟨br, 1, none⟩) (by simpa using h1) (.int .i64 p)).trans (Below.mono ha h2)

/-- The result's cells, laid at the call's head, in a later world. -/
theorem res_low {w w2 : World} {x y z : Value} {T : TypeId} (hb : Below (w.heap.size + 1) (w.alloc (.cells #[x, y, z] T)) w2) :
    w2.cell? ⟨w.heap.size, 0, none⟩ = some x ∧ w2.cell? ⟨w.heap.size, 1, none⟩ = some y ∧ w2.cell? ⟨w.heap.size, 2, none⟩ = some z ∧
      w2.frozen? ⟨w.heap.size, 0, none⟩ = false ∧ w2.frozen? ⟨w.heap.size, 1, none⟩ = false ∧ w2.frozen? ⟨w.heap.size, 2, none⟩ = false := by
  refine ⟨?_, ?_, ?_, ?_, ?_, ?_⟩
  iterate 3
    · rw [hb.cell (by simp)]; simp
  iterate 3
    · rw [hb.frozen (by simp)]; simp
theorem term_end {w w2 : World} {S : Nat} {s v : Int} {a : Option Addr} {c : Nat} {k : Fo} {o : Obj} {x y z : Value} (hb : Below (w.heap.size + 1) (w.alloc o) w2) (hS : 1 + fsz k ≤ S) (hl : Sl w2 (w.heap.size + 1) w2.heap.size a k) :
    TermPost S w (.returned (.agg #[.int .i64 s, .int .i64 v, .slice a (flen k) c])) (((w2.setCell ⟨w.heap.size, 0, none⟩ x).setCell ⟨w.heap.size, 1, none⟩ y).setCell ⟨w.heap.size, 2, none⟩ z) := by
  refine ⟨s, v, a, c, k, rfl, hS, (((after_top hb).setCell (by simp) _).setCell (by simp) _).setCell (by simp) _, ?_⟩
  exact (((hl.store (q := ⟨w.heap.size, 0, none⟩) (by simp) x).store (q := ⟨w.heap.size, 1, none⟩) (by simp) y).store (q := ⟨w.heap.size, 2, none⟩) (by simp) z).mono (by omega) (by simp)

theorem Bytes.alloc {w : World} {a : Option Addr} {len : Nat} (h : Bytes w a len) (o : Obj) : Bytes (w.alloc o) a len := by
  rcases h with h | ⟨b, o', e, hb, h⟩
  · exact .inl h
  · refine .inr ⟨b, o', e, by simp; omega, fun i hi => ?_⟩
    obtain ⟨x, hx, hc⟩ := h i hi
    exact ⟨x, hx, by rw [World.cell?_alloc_lt _ _ _ hb]; exact hc⟩

set_option maxRecDepth 100000 in
set_option maxHeartbeats 1000000 in
theorem DrawTermOk_any (a : Option Addr) (len cap : Nat) (w : World) (hby : Bytes w a len) (hlen : len ≤ cap) :
    Calls Try.prog 33 #[.slice a len cap] w (TermPost 31000 w) := by
  have HBY := Lib.hid hby
  clear hby
  go_enter Try.func33, Try.ntmps33
  go_wp2_with fail
  with_reducible refine (l6Open_any a len cap _ (HBY.out.alloc _) hlen).mono ?_
  rintro e w1 ⟨rfl, hb1, hrd⟩
  have hb1' : Below (w.heap.size + 1) (w.alloc (.cells #[.int .i64 0, .int .i64 0, .slice none 0 0] 25)) w1 := hb1.mono (by simp)
  have hs1 := hb1.size
  simp at hs1
  simp only [World.size_alloc] at hrd
  have hlt1 := hrd.lt
  have HRD := Lib.hid hrd
  have HB1 := Lib.hid hb1'
  clear hb1 hb1' hrd
  simp only [World.size_alloc]
  go_wp2_with fail
  with_reducible refine (l71Term_any 4 4 4 (w.heap.size + 1) 0 _ (by omega) (by omega) (by omega) (by omega) (by omega) HRD.out (by decide)).mono ?_
  rintro e w2 ⟨s, v, a2, c2, k, p2, rfl, _, hp2, hS2, ha2, hl2⟩
  have hp2' : p2 ≤ 93 := by simpa [pkN] using hp2
  have hS2' : 1 + fsz k ≤ 31 := by simpa [szN] using hS2
  have HB2 := Lib.hid (adv_low HB1.out (by omega) (by omega) ha2)
  have hs2 := ha2.size
  have HRD2 := Lib.hid (ha2.rd HRD.out)
  have HL2 := Lib.hid (hl2.mono (lo' := w.heap.size + 2) (by omega) (Nat.le_refl _))
  clear ha2 hl2 hp2 hS2
  go_wp2_with fail
  with_reducible refine (pick_any 2 (w.heap.size + 1) p2 _ (HRD2.out.alloc _) (by omega) (by omega) (by omega)).mono ?_
  rintro e w3 ⟨x, rfl, hx, hb3⟩
  have ha3 : Adv (w2.alloc (.cells #[.int .i64 s, .int .i64 v, .slice a2 (flen k) c2] 25)) (w.heap.size + 1) (p2 + 1) w3 := hb3
  have HB3 := Lib.hid (adv_low (HB2.out.alloc (by omega) (.cells #[.int .i64 s, .int .i64 v, .slice a2 (flen k) c2] 25)) (by omega) (by simp; omega) ha3)
  have hs3 := ha3.size
  simp at hs3
  have HRD3 := Lib.hid (ha3.rd (HRD2.out.alloc _))
  have HL3 := Lib.hid ((HL2.out.low ((Below.refl _ _).alloc (Nat.le_refl _) _)).adv ha3 (by omega))
  have hc0 := ha3.cell (q := ⟨w2.heap.size, 0, none⟩) (v := .int .i64 s) (by simp) (by simp; omega)
  have hc1 := ha3.cell (q := ⟨w2.heap.size, 1, none⟩) (v := .int .i64 v) (by simp) (by simp; omega)
  have hc2 := ha3.cell (q := ⟨w2.heap.size, 2, none⟩) (v := .slice a2 (flen k) c2) (by simp) (by simp; omega)
  clear ha3 hb3
  by_cases hx0 : x = 0
  · subst hx0
    go_wp2_with fail
    with_reducible refine (l71Bad_any s v a2 c2 k (w.heap.size + 1) (p2 + 1) 31 _ ?_ HRD3.out (by omega) (by omega) (by omega)).mono ?_
    · exact HL3.out.mono (Nat.zero_le _) (Nat.le_refl _)
    rintro e w4 ⟨s4, v4, a4, c4, k4, p4, rfl, _, hp4, hS4, ha4, hl4⟩
    have hb4 := adv_low HB3.out (by omega) (by omega) ha4
    have HB4 := Lib.hid hb4
    obtain ⟨hr0, hr1, hr2, hf0, hf1, hf2⟩ := res_low hb4
    have HL4 := Lib.hid (hl4.mono (lo' := w.heap.size + 1) (by omega) (Nat.le_refl _))
    clear ha4 hl4 hb4 hc0 hc1 hc2
    go_wp2_with fail
    refine bodyPost_ret (v := .agg #[.int .i64 s4, .int .i64 v4, .slice a4 (flen k4) c4]) ?_ rfl (term_end HB4.out (by omega) HL4.out)
    simp [results, Try.results33, go_sem, hr0, hr1, hr2]
  · have x0 : ((x : Int) == 0) = false := by simpa using hx0
    obtain ⟨hr0, hr1, hr2, hf0, hf1, hf2⟩ := res_low HB3.out
    go_wp2_with fail
    refine bodyPost_ret (v := .agg #[.int .i64 s, .int .i64 v, .slice a2 (flen k) c2]) ?_ rfl (term_end HB3.out (by omega) (HL3.out.mono (by omega) (Nat.le_refl _)))
    simp [results, Try.results33, go_sem, hr0, hr1, hr2]
end Go.Proofs.Ytebalmemncldlaa
