/- Several texts in one: ReadE. -/
import Derived.Test.YtoafleckcjanaaaKLk14
import Derived.Test.YtoafleckcjanaaaKLk16

/-! ReadE: A slice of equations that came in as an argument, as the walks take it. -/
namespace Go.Proofs.Ytoafleckcjanaaa
open Go.ChangeShapes Go.WideShapes Go.ChangeAt Go.RowKit Go.Deep Go.Joins

theorem Try.cellsEqL : Try.prog.cellsOf 71 = 6 := by kernel_rfl

set_option maxRecDepth 100000 in
theorem read_eq {H : Type} {enc : TypeId × Value → H} {w : World} {sp : Nat → Bool} {hd : Bool} {fuel : Nat} {cs : List Value} {x : DataW H × List MemPlace} (h : DataW.trod enc Try.prog w 0 sp hd fuel 71 cs = some x) :
    ∃ s v a c k s' v' a' c' k', cs = [.int .i64 s, .int .i64 v, .slice a (flen k) c, .int .i64 s', .int .i64 v', .slice a' (flen k') c'] ∧ (Sl w 0 w.heap.size a k ∧ flen k ≤ maxLen ∧ fcap k) ∧ Sl w 0 w.heap.size a' k' ∧ flen k' ≤ maxLen ∧ fcap k' := by
  obtain ⟨xs, n, rfl, _, hlen, hxl, hf⟩ := DataW.trod_struct Try.underlying71 h
  rw [Try.cellsEqL] at hlen
  match cs, hlen with
  | [c0, c1, c2, c3, c4, c5], _ =>
    have f0 : DataW.trod enc Try.prog w 0 sp hd n 25 (([c0, c1, c2, c3, c4, c5].drop 0).take (Try.prog.cellsOf 25)) = xs[0]? := hf 0 _ rfl
    have f1 : DataW.trod enc Try.prog w 0 sp hd n 25 (([c0, c1, c2, c3, c4, c5].drop 3).take (Try.prog.cellsOf 25)) = xs[1]? := hf 1 _ rfl
    simp only [Try.cellsTerm, List.drop_zero, List.take_succ_cons, List.take_zero, List.drop_succ_cons] at f0 f1
    have hx0 : xs[0]? = some (xs[0]'(by rw [hxl]; decide)) := List.getElem?_eq_getElem _
    have hx1 : xs[1]? = some (xs[1]'(by rw [hxl]; decide)) := List.getElem?_eq_getElem _
    rw [hx0] at f0
    rw [hx1] at f1
    obtain ⟨s, v, a, c, k, e0, hs, hk1, hk2⟩ := read_term n _ _ f0
    obtain ⟨s', v', a', c', k', e1, hs', hk1', hk2'⟩ := read_term n _ _ f1
    simp only [List.cons.injEq, and_true] at e0 e1
    obtain ⟨rfl, rfl, rfl⟩ := e0
    obtain ⟨rfl, rfl, rfl⟩ := e1
    exact ⟨s, v, a, c, k, s', v', a', c', k', rfl, ⟨hs, hk1, hk2⟩, hs', hk1', hk2'⟩

set_option maxRecDepth 100000 in
/-- Out of the reading of an argument. -/
theorem eqs_of_trod {H : Type} {enc : TypeId × Value → H} {w : World} {a : Option Addr} {len cap : Nat} {d : DataW H} {p : List MemPlace} (h : DataW.Trod enc Try.prog w 0 (fun _ => true) true 22 (.slice a len cap) d p) :
    ∃ es : List Eqd, len = es.length ∧ ESl w 0 w.heap.size a es ∧ es.length ≤ maxLen ∧ ∀ x ∈ es, (flen x.1.2.2 ≤ maxLen ∧ fcap x.1.2.2) ∧ flen x.2.2.2 ≤ maxLen ∧ fcap x.2.2.2 := by
  obtain ⟨fuel, hf⟩ := h
  rcases DataW.trod_slice Try.underlying22 hf with ⟨e2, _⟩ | ⟨a', len', cap', elems, rest, n', rfl, e2, _, _, hl, hcm, hel, hall, _⟩
  · simp [Value.cells] at e2
    obtain ⟨rfl, rfl, rfl⟩ := e2
    exact ⟨[], rfl, .inl rfl, Nat.zero_le _, fun x hx => by cases hx⟩
  · simp [Value.cells] at e2
    obtain ⟨rfl, rfl, rfl⟩ := e2
    obtain ⟨b, o, spot⟩ := a'
    rw [Try.cellsEqL] at hall
    by_cases hz : len = 0
    · subst hz
      exact ⟨[], rfl, .inl rfl, Nat.zero_le _, fun x hx => by cases hx⟩
    have key0 : ∀ i, i < len → ∃ s v a c k s' v' a' c' k', w.cell? (((⟨b, o, spot⟩ : Addr).add (i * 6)).add 0) = some (.int .i64 s) ∧ w.cell? (((⟨b, o, spot⟩ : Addr).add (i * 6)).add 1) = some (.int .i64 v) ∧ w.cell? (((⟨b, o, spot⟩ : Addr).add (i * 6)).add 2) = some (.slice a (flen k) c) ∧ w.cell? (((⟨b, o, spot⟩ : Addr).add (i * 6)).add 3) = some (.int .i64 s') ∧ w.cell? (((⟨b, o, spot⟩ : Addr).add (i * 6)).add 4) = some (.int .i64 v') ∧ w.cell? (((⟨b, o, spot⟩ : Addr).add (i * 6)).add 5) = some (.slice a' (flen k') c') ∧ (Sl w 0 w.heap.size a k ∧ flen k ≤ maxLen ∧ fcap k) ∧ Sl w 0 w.heap.size a' k' ∧ flen k' ≤ maxLen ∧ fcap k' := by
      intro i hi
      have h1 := hall i hi
      have h2 : elems[i]? = some (elems[i]'(by omega)) := List.getElem?_eq_getElem _
      rw [h2] at h1
      obtain ⟨cs', hc, ht⟩ := Option.bind_eq_some_iff.1 h1
      obtain ⟨s, v, a, c, k, s', v', a', c', k', rfl, hs, hs'⟩ := read_eq ht
      obtain ⟨_, _, hat⟩ := World.cells?_some hc
      have g0 := hat 0 (by omega)
      have g1 := hat 1 (by omega)
      have g2 := hat 2 (by omega)
      have g3 := hat 3 (by omega)
      have g4 := hat 4 (by omega)
      have g5 := hat 5 (by omega)
      exact ⟨s, v, a, c, k, s', v', a', c', k', by simpa using g0, by simpa using g1, by simpa using g2, by simpa using g3, by simpa using g4, by simpa using g5, hs, hs'⟩
    have hsp : spot = none := by
      obtain ⟨s, v, a, c, k, s', v', a', c', k', g0, _⟩ := key0 0 (by omega)
      simpa [Addr.add] using World.cell?_spot g0
    subst hsp
    obtain ⟨es, hbl, hbs⟩ := list_of_all (P := fun i (y : Eqd) => ∃ a1 c1 a2 c2, w.cell? ⟨b, o + i * 6, none⟩ = some (.int .i64 y.1.1) ∧ w.cell? ⟨b, o + i * 6 + 1, none⟩ = some (.int .i64 y.1.2.1) ∧ w.cell? ⟨b, o + i * 6 + 2, none⟩ = some (.slice a1 (flen y.1.2.2) c1) ∧ w.cell? ⟨b, o + i * 6 + 3, none⟩ = some (.int .i64 y.2.1) ∧ w.cell? ⟨b, o + i * 6 + 3 + 1, none⟩ = some (.int .i64 y.2.2.1) ∧ w.cell? ⟨b, o + i * 6 + 3 + 2, none⟩ = some (.slice a2 (flen y.2.2.2) c2) ∧ (Sl w 0 w.heap.size a1 y.1.2.2 ∧ flen y.1.2.2 ≤ maxLen ∧ fcap y.1.2.2) ∧ Sl w 0 w.heap.size a2 y.2.2.2 ∧ flen y.2.2.2 ≤ maxLen ∧ fcap y.2.2.2) len fun i hi => by
      obtain ⟨s, v, a, c, k, s', v', a', c', k', g0, g1, g2, g3, g4, g5, hs, hs'⟩ := key0 i hi
      rw [add_none, add_none] at g0 g1 g2 g3 g4 g5
      exact ⟨((s, v, k), s', v', k'), a, c, a', c', by simpa using g0, g1, g2, g3, g4, g5, hs, hs'⟩
    refine ⟨es, hbl.symm, .inr ⟨b, o, rfl, Nat.zero_le _, ?_, fun i x hx => ?_⟩, by rw [hbl]; omega, fun x hx => ?_⟩
    · obtain ⟨s, v, a, c, k, s', v', a', c', k', g0, _⟩ := key0 0 (by omega)
      rw [add_none, add_none] at g0
      exact World.block_lt_of_cell? _ _ g0
    · obtain ⟨a1, c1, a2, c2, g0, g1, g2, g3, g4, g5, hs, hs'⟩ := hbs i x hx
      exact ⟨a1, c1, a2, c2, g0, g1, g2, g3, g4, g5, hs.1, hs'.1⟩
    · obtain ⟨i, hi⟩ := List.mem_iff_getElem?.1 hx
      obtain ⟨_, _, _, _, _, _, _, _, _, _, hs, hs'⟩ := hbs i x hi
      exact ⟨hs.2, hs'.2⟩
end Go.Proofs.Ytoafleckcjanaaa
