/- A term that came in as an argument, as the walks take it. -/
import Derived.Test.YthbakmdcepoikaaBase
import Derived.Test.YthbakmdcepoikaaRows
import Derived.ProofKit
import Derived.Lib.SmallJoins
namespace Go.Proofs.Ythbakmdcepoikaa
open Go.ChangeShapes Go.WideShapes Go.RowKit Go.Deep Go.Joins

theorem add_none (b o n : Nat) : (⟨b, o, none⟩ : Addr).add n = ⟨b, o + n, none⟩ := by unfold Addr.add; split <;> simp_all

theorem Try.cellsTerm : Try.prog.cellsOf 32 = 3 := by kernel_rfl
theorem Try.cellsInt : Try.prog.cellsOf 3 = 1 := by kernel_rfl
theorem Try.cellsTerms : Try.prog.cellsOf 30 = 1 := by kernel_rfl

/-- No slice in it is longer than a slice can be. -/
def fcap : Fo → Prop
  | .nil => True
  | .node _ _ _ k r => flen k ≤ maxLen ∧ fcap k ∧ fcap r
theorem fcap_drop : ∀ (i : Nat) (k : Fo), fcap k → fcap (fdrop i k)
  | 0, _, h => h
  | _ + 1, .nil, h => h
  | n + 1, .node _ _ _ _ r, h => fcap_drop n r h.2.2

/-- Elements one by one: a row of terms. -/
theorem row_of_elems {w : World} {b o len : Nat} (h : ∀ i, i < len → ∃ s v a c k, w.cell? ⟨b, o + i * 3, none⟩ = some (.int .i64 s) ∧ w.cell? ⟨b, o + i * 3 + 1, none⟩ = some (.int .i64 v) ∧
      w.cell? ⟨b, o + i * 3 + 2, none⟩ = some (.slice a (flen k) c) ∧ Sl w 0 w.heap.size a k ∧ flen k ≤ maxLen ∧ fcap k) :
    ∀ m, m ≤ len → ∃ k, flen k = m ∧ fcap k ∧ Row w 0 w.heap.size k b (o + (len - m) * 3)
  | 0, _ => ⟨.nil, rfl, trivial, trivial⟩
  | m + 1, hm => by
    obtain ⟨r, hr, hrc, hrow⟩ := row_of_elems h m (by omega)
    obtain ⟨s, v, a, c, k, h0, h1, h2, hs, hk1, hk2⟩ := h (len - (m + 1)) (by omega)
    refine ⟨.node 0 0 (s, v) k r, by simp [flen, hr], ⟨hk1, hk2, hrc⟩, Nat.zero_le _, World.block_lt_of_cell? _ _ h0, h0, h1, ⟨a, c, h2, hs⟩, ?_⟩
    rw [show o + (len - (m + 1)) * 3 + 3 = o + (len - m) * 3 from by omega]
    exact hrow

set_option maxRecDepth 100000 in
theorem read_term {H : Type} {enc : TypeId × Value → H} {w : World} {sp : Nat → Bool} {hd : Bool} (fuel : Nat) : ∀ (cs : List Value) (x : DataW H × List MemPlace), DataW.trod enc Try.prog w 0 sp hd fuel 32 cs = some x →
    ∃ s v a c k, cs = [.int .i64 s, .int .i64 v, .slice a (flen k) c] ∧ Sl w 0 w.heap.size a k ∧ flen k ≤ maxLen ∧ fcap k := by
  induction fuel using Nat.strongRecOn with
  | _ fuel ih =>
    intro cs x h
    obtain ⟨xs, n, rfl, _, hlen, hxl, hf⟩ := DataW.trod_struct Try.underlying32 h
    rw [Try.cellsTerm] at hlen
    match cs, hlen with
    | [c0, c1, c2], _ =>
      have f0 : DataW.trod enc Try.prog w 0 sp hd n 3 (([c0, c1, c2].drop 0).take (Try.prog.cellsOf 3)) = xs[0]? := hf 0 _ rfl
      have f1 : DataW.trod enc Try.prog w 0 sp hd n 3 (([c0, c1, c2].drop 1).take (Try.prog.cellsOf 3)) = xs[1]? := hf 1 _ rfl
      have f2 : DataW.trod enc Try.prog w 0 sp hd n 30 (([c0, c1, c2].drop 2).take (Try.prog.cellsOf 30)) = xs[2]? := hf 2 _ rfl
      simp only [Try.cellsInt, Try.cellsTerms, List.drop_zero, List.take_succ_cons, List.take_zero, List.drop_succ_cons] at f0 f1 f2
      have hx0 : xs[0]? = some (xs[0]'(by rw [hxl]; decide)) := List.getElem?_eq_getElem _
      have hx1 : xs[1]? = some (xs[1]'(by rw [hxl]; decide)) := List.getElem?_eq_getElem _
      have hx2 : xs[2]? = some (xs[2]'(by rw [hxl]; decide)) := List.getElem?_eq_getElem _
      rw [hx0] at f0
      rw [hx1] at f1
      rw [hx2] at f2
      obtain ⟨s, e0, _, _⟩ := DataW.trod_int Try.underlying3 f0
      obtain ⟨v, e1, _, _⟩ := DataW.trod_int Try.underlying3 f1
      simp only [List.cons.injEq, and_true] at e0 e1
      subst e0 e1
      rcases DataW.trod_slice Try.underlying30 f2 with ⟨e2, _⟩ | ⟨a, len, cap, elems, rest, n', rfl, e2, _, _, hl, hcm, hel, hall, _⟩
      · simp only [List.cons.injEq, and_true] at e2
        subst e2
        exact ⟨s, v, none, 0, .nil, rfl, .inl rfl, Nat.zero_le _, trivial⟩
      · simp only [List.cons.injEq, and_true] at e2
        subst e2
        obtain ⟨b, o, spot⟩ := a
        rw [Try.cellsTerm] at hall
        by_cases hz : len = 0
        · subst hz
          exact ⟨s, v, _, cap, .nil, rfl, .inl rfl, Nat.zero_le _, trivial⟩
        have hsp : spot = none := by
          have h1 := hall 0 (by omega)
          have h2 : elems[0]? = some (elems[0]'(by omega)) := List.getElem?_eq_getElem _
          rw [h2] at h1
          obtain ⟨cs', hc, ht⟩ := Option.bind_eq_some_iff.1 h1
          obtain ⟨s', v', a', c', k', rfl, _⟩ := ih n' (by omega) cs' _ ht
          obtain ⟨_, _, hat⟩ := World.cells?_some hc
          have g0 := hat 0 (by omega)
          simpa [Addr.add] using World.cell?_spot g0
        subst hsp
        have key : ∀ i, i < len → ∃ s v a c k, w.cell? ⟨b, o + i * 3, none⟩ = some (.int .i64 s) ∧ w.cell? ⟨b, o + i * 3 + 1, none⟩ = some (.int .i64 v) ∧
            w.cell? ⟨b, o + i * 3 + 2, none⟩ = some (.slice a (flen k) c) ∧ Sl w 0 w.heap.size a k ∧ flen k ≤ maxLen ∧ fcap k := by
          intro i hi
          have h1 := hall i hi
          have h2 : elems[i]? = some (elems[i]'(by omega)) := List.getElem?_eq_getElem _
          rw [h2] at h1
          obtain ⟨cs', hc, ht⟩ := Option.bind_eq_some_iff.1 h1
          obtain ⟨s', v', a', c', k', rfl, hs, hk1, hk2⟩ := ih n' (by omega) cs' _ ht
          obtain ⟨_, _, hat⟩ := World.cells?_some hc
          have g0 := hat 0 (by omega)
          have g1 := hat 1 (by omega)
          have g2 := hat 2 (by omega)
          rw [add_none, add_none] at g0 g1 g2
          exact ⟨s', v', a', c', k', by simpa using g0, by simpa using g1, by simpa using g2, hs, hk1, hk2⟩
        obtain ⟨k, hk, hkc, hrow⟩ := row_of_elems key len (Nat.le_refl _)
        rw [Nat.sub_self, Nat.zero_mul, Nat.add_zero] at hrow
        exact ⟨s, v, _, cap, k, by rw [hk], .inr ⟨b, o, rfl, hrow⟩, by rw [hk]; omega, hkc⟩

end Go.Proofs.Ythbakmdcepoikaa
