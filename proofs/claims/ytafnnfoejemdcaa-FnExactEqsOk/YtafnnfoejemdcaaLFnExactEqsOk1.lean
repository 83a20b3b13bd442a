/- Several texts in one: XEk, ReadE. -/
import Derived.Test.YtafnnfoejemdcaaKEqs17
import Derived.Test.YtafnnfoejemdcaaKEqs18
import Derived.Test.YtafnnfoejemdcaaKEqs15
import Derived.Test.YtafnnfoejemdcaaKEqs16

/-! XEk: For every slice of equations, laws.FnExactEqsOk answers true and writes nothing that was there. -/
namespace Go.Proofs.Ytafnnfoejemdcaa
open Go.RowKit Go.Deep

/-- A row of equations that lies below. -/
structure Rq (es : List Eqd) (A : Option Addr) (w : World) : Prop where
  top : ESl w 0 w.heap.size A es
theorem Rq.next {es : List Eqd} {A : Option Addr} {w w2 : World} (h : Rq es A w) (hb : Below w.heap.size w w2) : Rq es A w2 := ⟨h.top.next hb⟩

set_option maxRecDepth 100000 in
set_option maxHeartbeats 2000000 in
theorem exactEqsOk_walk (A : Option Addr) (C : Nat) (es : List Eqd) (w : World) (h : ESl w 0 w.heap.size A es) (hm : es.length ≤ maxLen) (hall : ∀ x ∈ es, (flen x.1.2.2 ≤ maxLen ∧ fcap x.1.2.2) ∧ flen x.2.2.2 ≤ maxLen ∧ fcap x.2.2.2) :
    Calls Try.prog 3 #[.slice A es.length C] w fun e w' => e = .returned (.bool true) ∧ Below w.heap.size w w' := by
  have HP : Hid (Rq es A w) := ⟨h⟩
  have HM := Lib.hid hm
  have HA := Lib.hid hall
  clear h hm hall
  go_enter Try.func3, Try.ntmps3
  go_wp2_with fail
  with_reducible refine (szEqS_any es A C 1048576 _ HP.out.top HM.out HA.out (by omega) (by omega)).mono ?_
  rintro e w1 ⟨rfl, hb1⟩
  have HL1 := Lib.hid hb1
  replace HP := Lib.hid (HP.out.next hb1)
  clear hb1
  rcases szQR_case es 1048576 with hz | hz
  · rw [hz]
    clear hz
    go_wp2_with fail
    go_ret
    exact ⟨rfl, HL1.out⟩
  have hfit := (szQR_fit hz (by omega)).1
  have HZ : Hid (∀ x ∈ es, fszE x ≤ 1048576) := fun x hx => by have := szQ_mem hx; omega
  generalize szQR es 1048576 = z at *
  go_wp2_with fail
  with_reducible refine (toEqS_any es A C _ HP.out.top (by omega) HZ.out).mono ?_
  rintro e w2 ⟨A2, C2, rfl, hb2, hs2⟩
  have HL2 := Lib.hid (low_next HL1.out hb2)
  replace HP := Lib.hid (HP.out.next hb2)
  have HS2 := Lib.hid (hs2.mono (lo' := 0) (Nat.zero_le _) (Nat.le_refl _))
  clear hb2 hs2 hz HL1
  go_wp2_with fail
  with_reducible refine (sEqsOk_any es A2 C2 _ HS2.out (by omega)).mono ?_
  rintro e w3 ⟨rfl, hb3⟩
  have HL3 := Lib.hid (low_next HL2.out hb3)
  replace HP := Lib.hid (HP.out.next hb3)
  clear hb3 HS2 HL2
  go_wp2_with fail
  with_reducible refine (toEqS_any es A C _ HP.out.top (by omega) HZ.out).mono ?_
  rintro e w4 ⟨A4, C4, rfl, hb4, hs4⟩
  have HL4 := Lib.hid (low_next HL3.out hb4)
  replace HP := Lib.hid (HP.out.next hb4)
  have HX : Hid (Rq es A4 w4) := ⟨hs4.mono (Nat.zero_le _) (Nat.le_refl _)⟩
  clear hb4 hs4 HL3
  go_wp2_with fail
  with_reducible refine (iEqsOk_any es A4 C4 _ HX.out.top (by omega)).mono ?_
  rintro e w5 ⟨rfl, hb5⟩
  have HL5 := Lib.hid (low_next HL4.out hb5)
  replace HP := Lib.hid (HP.out.next hb5)
  replace HX := Lib.hid (HX.out.next hb5)
  clear hb5 HL4
  have en : (okEs es != okEs es) = false := by simp
  go_wp2_with fail
  with_reducible refine (toEqS_any es A C _ HP.out.top (by omega) HZ.out).mono ?_
  rintro e w6 ⟨A6, C6, rfl, hb6, hs6⟩
  have HL6 := Lib.hid (low_next HL5.out hb6)
  replace HX := Lib.hid (HX.out.next hb6)
  have HS6 := Lib.hid (hs6.mono (lo' := 0) (Nat.zero_le _) (Nat.le_refl _))
  clear hb6 hs6 HL5
  go_wp2_with fail
  with_reducible refine (eqEqS_same es A4 A6 C4 C6 _ HX.out.top HS6.out (by omega) HZ.out).mono ?_
  rintro e w7 ⟨rfl, hb7⟩
  have HL7 := Lib.hid (low_next HL6.out hb7)
  clear hb7
  go_wp2_with fail
  go_ret
  exact ⟨rfl, HL7.out⟩
end Go.Proofs.Ytafnnfoejemdcaa

/-! ReadE: A slice of equations that came in as an argument, as the walks take it. -/
namespace Go.Proofs.Ytafnnfoejemdcaa
open Go.ChangeShapes Go.WideShapes Go.ChangeAt Go.RowKit Go.Deep Go.Joins

theorem Try.cellsEqL : Try.prog.cellsOf 75 = 6 := by kernel_rfl

set_option maxRecDepth 100000 in
theorem read_eq {H : Type} {enc : TypeId × Value → H} {w : World} {sp : Nat → Bool} {hd : Bool} {fuel : Nat} {cs : List Value} {x : DataW H × List MemPlace} (h : DataW.trod enc Try.prog w 0 sp hd fuel 75 cs = some x) :
    ∃ s v a c k s' v' a' c' k', cs = [.int .i64 s, .int .i64 v, .slice a (flen k) c, .int .i64 s', .int .i64 v', .slice a' (flen k') c'] ∧ (Sl w 0 w.heap.size a k ∧ flen k ≤ maxLen ∧ fcap k) ∧ Sl w 0 w.heap.size a' k' ∧ flen k' ≤ maxLen ∧ fcap k' := by
  obtain ⟨xs, n, rfl, _, hlen, hxl, hf⟩ := DataW.trod_struct Try.underlying75 h
  rw [Try.cellsEqL] at hlen
  match cs, hlen with
  | [c0, c1, c2, c3, c4, c5], _ =>
    have f0 : DataW.trod enc Try.prog w 0 sp hd n 31 (([c0, c1, c2, c3, c4, c5].drop 0).take (Try.prog.cellsOf 31)) = xs[0]? := hf 0 _ rfl
    have f1 : DataW.trod enc Try.prog w 0 sp hd n 31 (([c0, c1, c2, c3, c4, c5].drop 3).take (Try.prog.cellsOf 31)) = xs[1]? := hf 1 _ rfl
    simp only [Try.cellsTerm, List.drop_zero, List.take_succ_cons, List.take_zero, List.drop_succ_cons] at f0 f1
    have hx0 : xs[0]? = some (xs[0]'(by rw [hxl]; decide)) := List.getElem?_eq_getElem _
    have hx1 : xs[1]? = some (xs[1]'(by rw [hxl]; decide)) := List.getElem?_eq_getElem _
    rw [hx0] at f0
    rw [hx1] at f1
    obtain ⟨s, v, a, c, k, e0, hs, hk1, hk2⟩ := read_term n _ _ f0
    obtain ⟨s', v', a', c', k', e1, hs', hk1', hk2'⟩ := read_term n _ _ f1
    simp only [List.cons.injEq, and_true] at e0 e1
    obtain ⟨rfl, rfl, rfl⟩ := e0
    obtain ⟨rfl, rfl, rfl⟩ := e1
    exact ⟨s, v, a, c, k, s', v', a', c', k', rfl, ⟨hs, hk1, hk2⟩, hs', hk1', hk2'⟩

set_option maxRecDepth 100000 in
/-- Out of the reading of an argument. -/
theorem eqs_of_trod {H : Type} {enc : TypeId × Value → H} {w : World} {a : Option Addr} {len cap : Nat} {d : DataW H} {p : List MemPlace} (h : DataW.Trod enc Try.prog w 0 (fun _ => true) true 22 (.slice a len cap) d p) :
    ∃ es : List Eqd, len = es.length ∧ ESl w 0 w.heap.size a es ∧ es.length ≤ maxLen ∧ ∀ x ∈ es, (flen x.1.2.2 ≤ maxLen ∧ fcap x.1.2.2) ∧ flen x.2.2.2 ≤ maxLen ∧ fcap x.2.2.2 := by
  obtain ⟨fuel, hf⟩ := h
  rcases DataW.trod_slice Try.underlying22 hf with ⟨e2, _⟩ | ⟨a', len', cap', elems, rest, n', rfl, e2, _, _, hl, hcm, hel, hall, _⟩
  · simp [Value.cells] at e2
    obtain ⟨rfl, rfl, rfl⟩ := e2
    exact ⟨[], rfl, .inl rfl, Nat.zero_le _, fun x hx => by cases hx⟩
  · simp [Value.cells] at e2
    obtain ⟨rfl, rfl, rfl⟩ := e2
    obtain ⟨b, o, spot⟩ := a'
    rw [Try.cellsEqL] at hall
    by_cases hz : len = 0
    · subst hz
      exact ⟨[], rfl, .inl rfl, Nat.zero_le _, fun x hx => by cases hx⟩
    have key0 : ∀ i, i < len → ∃ s v a c k s' v' a' c' k', w.cell? (((⟨b, o, spot⟩ : Addr).add (i * 6)).add 0) = some (.int .i64 s) ∧ w.cell? (((⟨b, o, spot⟩ : Addr).add (i * 6)).add 1) = some (.int .i64 v) ∧ w.cell? (((⟨b, o, spot⟩ : Addr).add (i * 6)).add 2) = some (.slice a (flen k) c) ∧ w.cell? (((⟨b, o, spot⟩ : Addr).add (i * 6)).add 3) = some (.int .i64 s') ∧ w.cell? (((⟨b, o, spot⟩ : Addr).add (i * 6)).add 4) = some (.int .i64 v') ∧ w.cell? (((⟨b, o, spot⟩ : Addr).add (i * 6)).add 5) = some (.slice a' (flen k') c') ∧ (Sl w 0 w.heap.size a k ∧ flen k ≤ maxLen ∧ fcap k) ∧ Sl w 0 w.heap.size a' k' ∧ flen k' ≤ maxLen ∧ fcap k' := by
      intro i hi
      have h1 := hall i hi
      have h2 : elems[i]? = some (elems[i]'(by omega)) := List.getElem?_eq_getElem _
      rw [h2] at h1
      obtain ⟨cs', hc, ht⟩ := Option.bind_eq_some_iff.1 h1
      obtain ⟨s, v, a, c, k, s', v', a', c', k', rfl, hs, hs'⟩ := read_eq ht
      obtain ⟨_, _, hat⟩ := World.cells?_some hc
      have g0 := hat 0 (by omega)
      have g1 := hat 1 (by omega)
      have g2 := hat 2 (by omega)
      have g3 := hat 3 (by omega)
      have g4 := hat 4 (by omega)
      have g5 := hat 5 (by omega)
      exact ⟨s, v, a, c, k, s', v', a', c', k', by simpa using g0, by simpa using g1, by simpa using g2, by simpa using g3, by simpa using g4, by simpa using g5, hs, hs'⟩
    have hsp : spot = none := by
      obtain ⟨s, v, a, c, k, s', v', a', c', k', g0, _⟩ := key0 0 (by omega)
      simpa [Addr.add] using World.cell?_spot g0
    subst hsp
    obtain ⟨es, hbl, hbs⟩ := list_of_all (P := fun i (y : Eqd) => ∃ a1 c1 a2 c2, w.cell? ⟨b, o + i * 6, none⟩ = some (.int .i64 y.1.1) ∧ w.cell? ⟨b, o + i * 6 + 1, none⟩ = some (.int .i64 y.1.2.1) ∧ w.cell? ⟨b, o + i * 6 + 2, none⟩ = some (.slice a1 (flen y.1.2.2) c1) ∧ w.cell? ⟨b, o + i * 6 + 3, none⟩ = some (.int .i64 y.2.1) ∧ w.cell? ⟨b, o + i * 6 + 3 + 1, none⟩ = some (.int .i64 y.2.2.1) ∧ w.cell? ⟨b, o + i * 6 + 3 + 2, none⟩ = some (.slice a2 (flen y.2.2.2) c2) ∧ (Sl w 0 w.heap.size a1 y.1.2.2 ∧ flen y.1.2.2 ≤ maxLen ∧ fcap y.1.2.2) ∧ Sl w 0 w.heap.size a2 y.2.2.2 ∧ flen y.2.2.2 ≤ maxLen ∧ fcap y.2.2.2) len fun i hi => by
      obtain ⟨s, v, a, c, k, s', v', a', c', k', g0, g1, g2, g3, g4, g5, hs, hs'⟩ := key0 i hi
      rw [add_none, add_none] at g0 g1 g2 g3 g4 g5
      exact ⟨((s, v, k), s', v', k'), a, c, a', c', by simpa using g0, g1, g2, g3, g4, g5, hs, hs'⟩
    refine ⟨es, hbl.symm, .inr ⟨b, o, rfl, Nat.zero_le _, ?_, fun i x hx => ?_⟩, by rw [hbl]; omega, fun x hx => ?_⟩
    · obtain ⟨s, v, a, c, k, s', v', a', c', k', g0, _⟩ := key0 0 (by omega)
      rw [add_none, add_none] at g0
      exact World.block_lt_of_cell? _ _ g0
    · obtain ⟨a1, c1, a2, c2, g0, g1, g2, g3, g4, g5, hs, hs'⟩ := hbs i x hx
      exact ⟨a1, c1, a2, c2, g0, g1, g2, g3, g4, g5, hs.1, hs'.1⟩
    · obtain ⟨i, hi⟩ := List.mem_iff_getElem?.1 hx
      obtain ⟨_, _, _, _, _, _, _, _, _, _, hs, hs'⟩ := hbs i x hi
      exact ⟨hs.2, hs'.2⟩
end Go.Proofs.Ytafnnfoejemdcaa
