/- Several texts in one: LOw, SC. -/
import Derived.Test.YtdkcbbhkoibplaaKLm10
import Derived.Test.YtdkcbbhkoibplaaKLm18
import Derived.Test.YtdkcbbhkoibplaaKLm4
import Derived.Test.YtdkcbbhkoibplaaKLm9
import Derived.Test.YtdkcbbhkoibplaaKLm16

/-! LOw: A row of links of the call's own. Plain lemmas. -/
namespace Go.Proofs.Ytdkcbbhkoibplaa
open Go.RowKit Go.Deep

/-- One link of a row: its cells, and where its place and binds lie. -/
def LAt (w : World) (base : Nat) (g : Option Nat) (xs : List Value) (i : Nat) (x : Lk) : Prop :=
  ∃ pA pC sA sC L H, xs[i * 4]? = some (.int .i64 x.1) ∧ xs[i * 4 + 1]? = some (.bool x.2.1) ∧ xs[i * 4 + 2]? = some (.slice pA x.2.2.1.length pC) ∧ xs[i * 4 + 3]? = some (.slice sA x.2.2.2.length sC) ∧
    ISc w L H pA pC x.2.2.1 ∧ BSl w L H sA x.2.2.2 ∧ base ≤ L ∧ H ≤ w.heap.size ∧ ∀ b, g = some b → b < L ∨ H ≤ b
/-- The slice is a row of links of the call's own; what a link leads to lies not in the row's own block. -/
def LOwn (w : World) (base : Nat) (ls : List Lk) (A : Option Addr) (C : Nat) : Prop :=
  ∃ xs, w.ownsRow base 43 4 (.slice A ls.length C) ls.length xs ∧ ∀ (i : Nat) (x : Lk), ls[i]? = some x → LAt w base (Value.slice A ls.length C).ownBlock xs i x
theorem LOwn.same {w w2 : World} {base : Nat} {ls : List Lk} {A : Option Addr} {C : Nat} (h : LOwn w base ls A C) (hs : Same base w.heap.size w w2) (hle : w.heap.size ≤ w2.heap.size) : LOwn w2 base ls A C := by
  obtain ⟨xs, hown, hall⟩ := h
  refine ⟨xs, own_block hown fun g hg => ?_, fun i x hx => ?_⟩
  · have h1 := hown.lt g hg
    exact hs g h1.1 h1.2
  · obtain ⟨pA, pC, sA, sC, L, H, c0, c1, c2, c3, hp, hb, h1, h2, h3⟩ := hall i x hx
    have hs' : Same L H w w2 := fun b q1 q2 => hs b (by omega) (by omega)
    exact ⟨pA, pC, sA, sC, L, H, c0, c1, c2, c3, hp.same hs', hb.same hs', h1, by omega, h3⟩
theorem LOwn.adv {w w2 : World} {base br p : Nat} {ls : List Lk} {A : Option Addr} {C : Nat} (h : LOwn w base ls A C) (ha : Adv w br p w2) (hb : br < base) : LOwn w2 base ls A C := h.same (ha.same (Nat.le_refl _) (.inl hb)) ha.size
theorem LOwn.low {w w2 : World} {base : Nat} {ls : List Lk} {A : Option Addr} {C : Nat} (h : LOwn w base ls A C) (hb : Below w.heap.size w w2) : LOwn w2 base ls A C := h.same (Same.of_below hb) hb.size
theorem LOwn.lsl {w : World} {base : Nat} {ls : List Lk} {A : Option Addr} {C : Nat} (h : LOwn w base ls A C) : LSl w base w.heap.size A ls := by
  obtain ⟨xs, hown, hall⟩ := h
  rcases Nat.eq_zero_or_pos ls.length with h0 | h0
  · exact .inl (List.eq_nil_of_length_eq_zero h0)
  · obtain ⟨g, cap, hv, hb, hlt⟩ := hown.form h0
    have hA : A = some ⟨g, 0, none⟩ := by simp only [Value.slice.injEq] at hv; exact hv.1
    subst hA
    refine .inr ⟨g, 0, rfl, hb, hlt, fun i x hx => ?_⟩
    have hi := (List.getElem?_eq_some_iff.1 hx).1
    obtain ⟨pA, pC, sA, sC, L, H, c0, c1, c2, c3, hp, hbs, h1, h2, h3⟩ := hall i x hx
    refine ⟨pA, pC, sA, sC, ?_, ?_, ?_, ?_, hp.mono h1 h2, hbs.mono h1 h2⟩
    · rw [Nat.zero_add, hown.cellAt _ (by omega)]; exact c0
    · rw [Nat.zero_add, hown.cellAt _ (by omega)]; exact c1
    · rw [Nat.zero_add, hown.cellAt _ (by omega)]; exact c2
    · rw [Nat.zero_add, hown.cellAt _ (by omega)]; exact c3
theorem LOwn.cap {w : World} {base : Nat} {ls : List Lk} {A : Option Addr} {C : Nat} (h : LOwn w base ls A C) : ls.length ≤ C := by
  obtain ⟨xs, hown, _⟩ := h
  rcases hown.2 with ⟨_, h2⟩ | ⟨g, cap, cur, h3, _, _, h6, _⟩
  · omega
  · simp only [Value.slice.injEq] at h3
    omega
theorem LOwn.start {w : World} {base : Nat} (hb : base ≤ w.heap.size) : LOwn (w.alloc (.cells #[] 43)) base [] (some ⟨w.heap.size, 0, none⟩) 0 :=
  ⟨[], ⟨rfl, .inr ⟨w.heap.size, 0, #[], rfl, hb, heap_alloc_new _ _, Nat.le_refl _, by decide, rfl, rfl⟩⟩, fun i x hx => by simp at hx⟩
/-- One more link. w: the world ahead of the block that shows it to append. -/
theorem LOwn.append {w w3 : World} {base : Nat} {ls : List Lk} {A : Option Addr} {C g cap : Nat} {blk : Obj} {eq : Int} {back : Bool} {pA : Option Addr} {pC : Nat} {place : List Int} {B : Option Addr} {D : Nat} {bs : List Bd} {xs : List Value} {L H : Nat}
    (hown : w.ownsRow base 43 4 (.slice A ls.length C) ls.length xs) (hall : ∀ (i : Nat) (x : Lk), ls[i]? = some x → LAt w base (Value.slice A ls.length C).ownBlock xs i x)
    (hown3 : w3.ownsRow base 43 4 (.slice (some ⟨g, 0, none⟩) (ls.length + 1) cap) (ls.length + 1) (xs ++ [.int .i64 eq, .bool back, .slice pA place.length pC, .slice B bs.length D]))
    (hp : ISc w L H pA pC place) (hb : BSl w L H B bs) (hL : base ≤ L) (hH : H ≤ w.heap.size) (hg0 : ∀ b, (Value.slice A ls.length C).ownBlock = some b → b < L ∨ H ≤ b)
    (hgrow : (w.alloc blk).grownBy w3 (Value.slice A ls.length C).ownBlock) (hatg : (Value.slice A ls.length C).ownBlock = some g ∨ g = w.heap.size + 1) : LOwn w3 base (ls ++ [(eq, back, place, bs)]) (some ⟨g, 0, none⟩) cap := by
  have hs3 := hgrow.size
  simp at hs3
  have hxl : xs.length = ls.length * 4 := hown.1
  have hl : (ls ++ [((eq, back, place, bs) : Lk)]).length = ls.length + 1 := by simp
  have hkeep : ∀ {L H : Nat}, H ≤ w.heap.size → (∀ b, (Value.slice A ls.length C).ownBlock = some b → b < L ∨ H ≤ b) → Same L H w w3 := fun h2 h3 b hb1 hb2 => by
    rw [hgrow.block b (by simp; omega) (fun e => by have := h3 b e.symm; omega), Below.heap_alloc _ _ _ (by omega)]
  have hnew : ∀ {L H : Nat}, H ≤ w.heap.size → (∀ b, (Value.slice A ls.length C).ownBlock = some b → b < L ∨ H ≤ b) → ∀ b, (Value.slice (some (⟨g, 0, none⟩ : Addr)) (ls ++ [((eq, back, place, bs) : Lk)]).length cap).ownBlock = some b → b < L ∨ H ≤ b := fun h2 h3 g' hg' => by
    have : g' = g := by simpa [Value.ownBlock] using hg'.symm
    subst this
    rcases hatg with hg1 | hg1
    · exact h3 _ hg1
    · omega
  refine ⟨xs ++ [.int .i64 eq, .bool back, .slice pA place.length pC, .slice B bs.length D], by rw [hl]; exact hown3, fun i y hy => ?_⟩
  by_cases hi : i < ls.length
  · rw [List.getElem?_append_left hi] at hy
    obtain ⟨qA, qC, sA, sC, L', H', c0, c1, c2, c3, hp', hb', h1, h2, h3⟩ := hall i y hy
    exact ⟨qA, qC, sA, sC, L', H', by rw [List.getElem?_append_left (by omega)]; exact c0, by rw [List.getElem?_append_left (by omega)]; exact c1, by rw [List.getElem?_append_left (by omega)]; exact c2, by rw [List.getElem?_append_left (by omega)]; exact c3, hp'.same (hkeep h2 h3), hb'.same (hkeep h2 h3), h1, by omega, hnew h2 h3⟩
  · have hi' : i = ls.length := by have := (List.getElem?_eq_some_iff.1 hy).1; omega
    subst hi'
    simp at hy
    subst hy
    refine ⟨pA, pC, B, D, L, H, ?_, ?_, ?_, ?_, hp.same (hkeep hH hg0), hb.same (hkeep hH hg0), hL, by omega, hnew hH hg0⟩
    · rw [List.getElem?_append_right (by omega), hxl]; simp
    · rw [List.getElem?_append_right (by omega), hxl, show ls.length * 4 + 1 - ls.length * 4 = 1 from by omega]; rfl
    · rw [List.getElem?_append_right (by omega), hxl, show ls.length * 4 + 2 - ls.length * 4 = 2 from by omega]; rfl
    · rw [List.getElem?_append_right (by omega), hxl, show ls.length * 4 + 3 - ls.length * 4 = 3 from by omega]; rfl
theorem Try.infoLink : ∃ i, Try.prog.info? 43 = some i ∧ i.zero = some (.agg #[.int .i64 0, .bool false, .slice none 0 0, .slice none 0 0]) ∧ i.size = 4 ∧ i.bytes = 64 := by
  have h : (Try.prog.info? 43).map (fun i => (i.zero, i.size, i.bytes)) = some (some (.agg #[.int .i64 0, .bool false, .slice none 0 0, .slice none 0 0]), 4, 64) := by kernel_rfl
  obtain ⟨i, hi, hz⟩ := Option.map_eq_some_iff.1 h
  simp only [Prod.mk.injEq] at hz
  exact ⟨i, hi, hz.1, hz.2.1, hz.2.2⟩
/-- A row of links from its n-th on, and its first n. -/
theorem cutL_from {A : Option Addr} {C n : Nat} {ls : List Lk} (hn : n ≤ ls.length) (hc : ls.length ≤ C) : ∃ A', (∀ w : World, (Instr.slice 66 (.slice A ls.length C) (some (.int .i64 (n : Int))) none none).run Try.prog w = .ok (.slice A' (ls.length - n) (C - n)) w) ∧
    ∀ {w : World} {lo hi : Nat}, LSl w lo hi A ls → LSl w lo hi A' (ls.drop n) := by
  obtain ⟨ti, hti, htz, hts, htb⟩ := Try.infoLink
  have hsz : ∀ w : World, (sizeOf (Try.prog.elem 66)).run Try.prog w = .ok 4 w := fun w => by
    have he : Try.prog.elem 66 = 43 := by kernel_rfl
    rw [he]
    simp [sizeOf, typeInfo, hti, hts]
  have hel : Try.prog.underlying 66 = some (.slice (Try.prog.elem 66)) := by kernel_rfl
  have hrun : ∀ w : World, (Instr.slice 66 (.slice A ls.length C) (some (.int .i64 (n : Int))) none none).run Try.prog w = .ok (sliced A n ls.length C 4) w := fun w => by
    rw [run_slice_l (P := Try.prog) w 66 A ls.length C hel .i64 (n : Int) (by omega) (by omega), hsz]
    simp [Result.andThen]
  refine ⟨if C = n then A else A.map (·.add (n * 4)), fun w => by rw [hrun w]; rfl, fun {w lo hi} h => ?_⟩
  split
  · exact .inl (List.drop_eq_nil_of_le (by omega))
  · rcases h with rfl | ⟨b, o, rfl, h1, h2, h3⟩
    · exact .inl (by simp)
    · refine .inr ⟨b, o + n * 4, ?_, h1, h2, fun j x hx => ?_⟩
      · have ha : (⟨b, o, none⟩ : Addr).add (n * 4) = ⟨b, o + n * 4, none⟩ := by unfold Addr.add; split <;> simp_all
        simp only [Option.map_some, ha]
      · rw [List.getElem?_drop] at hx
        have h4 := h3 (n + j) x hx
        rw [show o + (n + j) * 4 = o + n * 4 + j * 4 from by omega] at h4
        exact h4
theorem cutL_to {A : Option Addr} {L C n : Nat} (hn : n ≤ L) (hc : L ≤ C) (w : World) : (Instr.slice 66 (.slice A L C) none (some (.int .i64 (n : Int))) none).run Try.prog w = .ok (.slice A n C) w := by
  obtain ⟨ti, hti, htz, hts, htb⟩ := Try.infoLink
  have hsz : ∀ w : World, (sizeOf (Try.prog.elem 66)).run Try.prog w = .ok 4 w := fun w => by
    have he : Try.prog.elem 66 = 43 := by kernel_rfl
    rw [he]
    simp [sizeOf, typeInfo, hti, hts]
  have hel : Try.prog.underlying 66 = some (.slice (Try.prog.elem 66)) := by kernel_rfl
  rw [run_slice_h (P := Try.prog) w 66 A L C hel .i64 (n : Int) (by omega) (by omega), hsz]
  cases A <;> simp [Result.andThen, sliced, Addr.add]
theorem LSl.take {w : World} {lo B : Nat} {a : Option Addr} {ls : List Lk} (h : LSl w lo B a ls) (n : Nat) : LSl w lo B a (ls.take n) := by
  rcases h with rfl | ⟨b, o, e, h1, h2, h3⟩
  · exact .inl (by simp)
  · refine .inr ⟨b, o, e, h1, h2, fun i x hx => h3 i x ?_⟩
    rw [List.getElem?_take] at hx
    split at hx
    · exact hx
    · cases hx
end Go.Proofs.Ytdkcbbhkoibplaa

/-! SC: Worlds in which some cells are known; plain lemmas. -/
namespace Go.Proofs.Ytdkcbbhkoibplaa
open Go.RowKit Go.Deep

/-- A world in which the cells of l hold what l says. -/
structure SeenD (l : List (Addr × Value)) where
  world : World
  at_ : ∀ p, p ∈ l → world.cell? p.1 = some p.2
def cl3 (p : Nat) (s v : Int) (y : Value) : List (Addr × Value) := [(⟨p, 0, none⟩, .int .i64 s), (⟨p, 1, none⟩, .int .i64 v), (⟨p, 2, none⟩, y)]
theorem cl3_at {w : World} {p : Nat} {s v : Int} {y : Value} (h0 : w.cell? ⟨p, 0, none⟩ = some (.int .i64 s)) (h1 : w.cell? ⟨p, 1, none⟩ = some (.int .i64 v)) (h2 : w.cell? ⟨p, 2, none⟩ = some y) : ∀ q, q ∈ cl3 p s v y → w.cell? q.1 = some q.2 := fun q hq => by
  simp only [cl3, List.mem_cons, List.not_mem_nil, or_false] at hq
  rcases hq with rfl | rfl | rfl
  · exact h0
  · exact h1
  · exact h2
theorem cl3_blk {p : Nat} {s v : Int} {y : Value} {n : Nat} (h : p ≠ n) : ∀ q, q ∈ cl3 p s v y → q.1.block ≠ n := fun q hq => by
  simp only [cl3, List.mem_cons, List.not_mem_nil, or_false] at hq
  rcases hq with rfl | rfl | rfl <;> assumption
def cl6 (b : Nat) (x y z : Value) (b' : Nat) (x' y' z' : Value) : List (Addr × Value) := [(⟨b, 0, none⟩, x), (⟨b, 1, none⟩, y), (⟨b, 2, none⟩, z), (⟨b', 0, none⟩, x'), (⟨b', 1, none⟩, y'), (⟨b', 2, none⟩, z')]
theorem cl6_at {w : World} {b : Nat} {x y z : Value} {b' : Nat} {x' y' z' : Value} (h0 : w.cell? ⟨b, 0, none⟩ = some x) (h1 : w.cell? ⟨b, 1, none⟩ = some y) (h2 : w.cell? ⟨b, 2, none⟩ = some z) (h3 : w.cell? ⟨b', 0, none⟩ = some x') (h4 : w.cell? ⟨b', 1, none⟩ = some y') (h5 : w.cell? ⟨b', 2, none⟩ = some z') :
    ∀ p, p ∈ cl6 b x y z b' x' y' z' → w.cell? p.1 = some p.2 := fun q hq => by
  simp only [cl6, List.mem_cons, List.not_mem_nil, or_false] at hq
  rcases hq with rfl | rfl | rfl | rfl | rfl | rfl
  · exact h0
  · exact h1
  · exact h2
  · exact h3
  · exact h4
  · exact h5
theorem cl6_blk {b : Nat} {x y z : Value} {b' : Nat} {x' y' z' : Value} {n : Nat} (h : b ≠ n) (h' : b' ≠ n) : ∀ p, p ∈ cl6 b x y z b' x' y' z' → p.1.block ≠ n := fun q hq => by
  simp only [cl6, List.mem_cons, List.not_mem_nil, or_false] at hq
  rcases hq with rfl | rfl | rfl | rfl | rfl | rfl <;> assumption
theorem seenD_drew {l : List (Addr × Value)} {w : World} (h : ∀ p, p ∈ l → w.cell? p.1 = some p.2) : ∃ u : SeenD l, w.drew = u.world := ⟨⟨w.drew, h⟩, rfl⟩
theorem storeD {w : World} {l : List (Addr × Value)} (h : ∀ p, p ∈ l → w.cell? p.1 = some p.2) {n : Nat} (hn : ∀ p, p ∈ l → p.1.block ≠ n) (x y z : Value) : ∀ p, p ∈ l → (((w.setCell ⟨n, 0, none⟩ x).setCell ⟨n, 1, none⟩ y).setCell ⟨n, 2, none⟩ z).cell? p.1 = some p.2 :=
  seen_set (seen_set (seen_set h hn _ _) hn _ _) hn _ _
end Go.Proofs.Ytdkcbbhkoibplaa
