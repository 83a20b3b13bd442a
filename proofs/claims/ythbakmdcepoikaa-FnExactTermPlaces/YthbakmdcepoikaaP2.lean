/- kidsOf; rows of the call's own. -/
import Derived.Test.YthbakmdcepoikaaP1
namespace Go.Proofs.Ythbakmdcepoikaa
open Go.RowKit Go.Deep

def KidsPost (B : Nat) (k : Fo) (w : World) (e : Ending) (w' : World) : Prop := ∃ a c, e = .returned (.slice a (flen k) c) ∧ Below w.heap.size w w' ∧ NSl w 0 B a k

theorem assert_var (v : Int) (w : World) : (Instr.typeAssert (.iface 72 (.int .i64 v)) 42 74 true).run Try.prog w = .ok (.tuple #[.agg #[.int .i64 0, .slice none 0 0], .bool false]) w := by kernel_rfl
theorem assert_sym (s : Int) (a : Option Addr) (n c : Nat) (w : World) : (Instr.typeAssert (.iface 74 (.agg #[.int .i64 s, .slice a n c])) 42 74 true).run Try.prog w = .ok (.tuple #[.agg #[.int .i64 s, .slice a n c], .bool true]) w := by kernel_rfl

set_option maxRecDepth 100000 in
set_option maxHeartbeats 400000 in
theorem kidsOf_any (s v : Int) (k : Fo) (nv : Value) (B : Nat) (w : World) (hn : NodeIs w 0 B nv s v k) : Calls Try.prog 39 #[nv] w (KidsPost B k w) := by
  have hta := assert_var
  have htb := assert_sym
  rcases hn with ⟨rfl, rfl, rfl⟩ | ⟨hs, a, c, rfl, hn⟩
  · go_enter Try.func39, Try.ntmps39
    go_wp2_with fail
    go_ret
    exact ⟨none, 0, rfl, Below.refl _ _, .inl rfl⟩
  · have HN := Lib.hid hn
    clear hn
    go_enter Try.func39, Try.ntmps39
    go_wp2_with fail
    go_ret
    exact ⟨a, c, rfl, (Below.refl _ _).alloc (Nat.le_refl _) _, HN.out⟩

/-- The slice (A, m, C) is a row of rows of the call's own, made from block base on; no row below it lies in its own block. -/
def ROwn (w : World) (base : Nat) (rows : List (List Int)) (A : Option Addr) (C : Nat) : Prop :=
  ∃ xs : List Value, w.ownsRow base 53 1 (.slice A rows.length C) rows.length xs ∧ ∀ (i : Nat) (r : List Int), rows[i]? = some r → ∃ a' c' L H, xs[i]? = some (Value.slice a' r.length c') ∧ ISc w L H a' c' r ∧ base ≤ L ∧ H ≤ w.heap.size ∧
    (∀ g, (Value.slice A rows.length C).ownBlock = some g → g < L ∨ H ≤ g)

theorem ROwn.sl {w : World} {base : Nat} {rows : List (List Int)} {A : Option Addr} {C : Nat} (h : ROwn w base rows A C) : RSl w base w.heap.size A rows := by
  obtain ⟨xs, hown, hall⟩ := h
  rcases Nat.eq_zero_or_pos rows.length with h0 | h0
  · exact .inl (List.eq_nil_of_length_eq_zero h0)
  · obtain ⟨g, cap, hv, hb, hlt⟩ := hown.form h0
    have hA : A = some ⟨g, 0, none⟩ := by simp only [Value.slice.injEq] at hv; exact hv.1
    have hc := hown.cells (g := g) (by rw [hA]; rfl)
    have ha : ∀ n, (⟨g, 0, none⟩ : Addr).add n = ⟨g, 0 + n, none⟩ := fun n => by unfold Addr.add; split <;> simp_all
    refine .inr ⟨g, 0, hA, hb, hlt, fun i r hr => ?_⟩
    obtain ⟨a', c', L, H, hx, hi, hL, hH, _⟩ := hall i r hr
    exact ⟨a', c', by have := hc _ _ hx; rwa [ha] at this, hi.mono hL hH⟩
theorem ROwn.low {w w2 : World} {base base' : Nat} {rows : List (List Int)} {A : Option Addr} {C : Nat} (h : ROwn w base rows A C) (hb : Below w.heap.size w w2) (hbase : base' ≤ base) : ROwn w2 base' rows A C := by
  obtain ⟨xs, hown, hall⟩ := h
  refine ⟨xs, own_base hbase (own_low hb hown), fun i r hr => ?_⟩
  obtain ⟨a', c', L, H, hx, hi, hL, hH, hg⟩ := hall i r hr
  exact ⟨a', c', L, H, hx, hi.same (fun b _ hb' => hb.block b (by omega)), by omega, Nat.le_trans hH hb.size, hg⟩
/-- One more row is appended: w: where the rows stood; w2: where the new one lies too; blk: the block that shows it to append. -/
theorem ROwn.append {w w2 w3 : World} {base : Nat} {rows : List (List Int)} {A A' : Option Addr} {C C' : Nat} {blk : Obj} {r : List Int} {a2 : Option Addr} {c2 : Nat} {xs : List Value} (hown : w.ownsRow base 53 1 (.slice A rows.length C) rows.length xs)
    (hall : ∀ (i : Nat) (r : List Int), rows[i]? = some r → ∃ a' c' L H, xs[i]? = some (Value.slice a' r.length c') ∧ ISc w L H a' c' r ∧ base ≤ L ∧ H ≤ w.heap.size ∧ (∀ g, (Value.slice A rows.length C).ownBlock = some g → g < L ∨ H ≤ g))
    (hown3 : w3.ownsRow base 53 1 (.slice A' (rows.length + 1) C') (rows.length + 1) (xs ++ [.slice a2 r.length c2])) (hb2 : Below w.heap.size w w2) (hi2 : ISc w2 w.heap.size w2.heap.size a2 c2 r) (hbase : base ≤ w.heap.size)
    (hgrow : (w2.alloc blk).grownBy w3 (Value.slice A rows.length C).ownBlock) (hat : (Value.slice A' (rows.length + 1) C').ownBlock = (Value.slice A rows.length C).ownBlock ∨ (Value.slice A' (rows.length + 1) C').ownBlock = some (w2.heap.size + 1)) : ROwn w3 base (rows ++ [r]) A' C' := by
  have hs2 := hb2.size
  have hs3 := hgrow.size
  simp at hs3
  have hxl : xs.length = rows.length := by have := hown.1; omega
  have hl : (rows ++ [r]).length = rows.length + 1 := by simp
  rw [ROwn, hl]
  refine ⟨_, hown3, fun i r' hr => ?_⟩
  have hcond : ∀ {L H : Nat}, (∀ g, (Value.slice A rows.length C).ownBlock = some g → g < L ∨ H ≤ g) → H ≤ w2.heap.size → ∀ g', (Value.slice A' (rows.length + 1) C').ownBlock = some g' → g' < L ∨ H ≤ g' := fun hg hH g' hg' => by
    rcases hat with h1 | h1
    · exact hg g' (by rw [← h1]; exact hg')
    · rw [h1] at hg'; simp at hg'; omega
  by_cases hi : i < rows.length
  · rw [List.getElem?_append_left hi] at hr
    obtain ⟨a', c', L, H, hx, hsl, hL, hH, hg⟩ := hall i r' hr
    refine ⟨a', c', L, H, by rw [List.getElem?_append_left (by omega)]; exact hx, hsl.same (fun b h1 h2 => ?_), hL, by omega, hcond hg (by omega)⟩
    rw [hgrow.block b (by simp; omega) (fun e => by have := hg b e.symm; omega), Below.heap_alloc _ _ _ (by omega), hb2.block b (by omega)]
  · have hir : i = rows.length := by
      have := (List.getElem?_eq_some_iff.1 hr).1
      simp at this
      omega
    subst hir
    simp at hr
    subst hr
    refine ⟨a2, c2, w.heap.size, w2.heap.size, by rw [← hxl]; simp, hi2.same (fun b h1 h2 => ?_), hbase, by omega, hcond (fun g hg => .inl (hown.lt _ hg).2) (Nat.le_refl _)⟩
    rw [hgrow.block b (by simp; omega) (fun e => by have := (hown.lt b e.symm).2; omega), Below.heap_alloc _ _ _ (by omega)]

/-- Numbers that a row of the call's own holds. -/
theorem isl_of_own {w : World} {base : Nat} {A : Option Addr} {C n : Nat} {xs : List Int} (h : w.ownsRow base 3 1 (.slice A n C) n (xs.map (Value.int .i64))) : ISl w base w.heap.size A xs := by
  have hl : xs.length = n := by have := h.1; simpa using this
  rcases Nat.eq_zero_or_pos n with h0 | h0
  · exact .inl (List.eq_nil_of_length_eq_zero (by omega))
  · obtain ⟨g, cap, hv, hb, hlt⟩ := h.form h0
    have hA : A = some ⟨g, 0, none⟩ := by simp only [Value.slice.injEq] at hv; exact hv.1
    have hc := h.cells (g := g) (by rw [hA]; rfl)
    have ha : ∀ n, (⟨g, 0, none⟩ : Addr).add n = ⟨g, 0 + n, none⟩ := fun n => by unfold Addr.add; split <;> simp_all
    refine .inr ⟨g, 0, hA, hb, hlt, fun i x hx => ?_⟩
    have := hc i (.int .i64 x) (by simp [hx])
    rwa [ha] at this
/-- The source of an append of numbers. -/
theorem own_cap {w : World} {base : Nat} {A : Option Addr} {C n e : Nat} {xs : List Value} (h : w.ownsRow base e 1 (.slice A n C) n xs) : n ≤ C := by
  rcases h.2 with ⟨_, h2⟩ | ⟨g, cap, cur, h3, _, _, h6, _⟩
  · omega
  · simp only [Value.slice.injEq] at h3
    omega
theorem isc_of_own {w : World} {base : Nat} {A : Option Addr} {C n : Nat} {xs : List Int} (h : w.ownsRow base 3 1 (.slice A n C) n (xs.map (Value.int .i64))) : ISc w base w.heap.size A C xs :=
  ⟨isl_of_own h, by have := own_cap h; have := h.1; simp at this; omega⟩
theorem src_of_isl {w : World} {lo B : Nat} {a : Option Addr} {xs : List Int} (h : ISl w lo B a xs) (hn : a = none → xs = []) : Src w 1 a xs.length (xs.map (Value.int .i64)) := by
  refine ⟨by simp, ?_⟩
  cases a with
  | none => exact .inl ⟨rfl, by rw [hn rfl]; rfl⟩
  | some ad =>
    refine .inr ⟨ad, rfl, fun j u hu => ?_⟩
    rcases h with h | ⟨b, o, e, h1, h2, h3⟩
    · rw [h] at hu; simp at hu
    · have ha : ad = ⟨b, o, none⟩ := by simpa using e
      subst ha
      rw [List.getElem?_map, Option.map_eq_some_iff] at hu
      obtain ⟨x, hx, rfl⟩ := hu
      rw [show (⟨b, o, none⟩ : Addr).add j = ⟨b, o + j, none⟩ from by unfold Addr.add; split <;> simp_all]
      exact h3 j x hx
theorem isl_none {w : World} {lo B : Nat} {xs : List Int} (h : ISl w lo B none xs) : xs = [] := by
  rcases h with h | ⟨b, o, e, _⟩
  · exact h
  · cases e
end Go.Proofs.Ythbakmdcepoikaa
