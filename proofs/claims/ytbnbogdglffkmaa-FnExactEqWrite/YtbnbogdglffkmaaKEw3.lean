/- Several texts in one: Mix, WG, S0. -/
import Derived.OrdersHeld
import Derived.Tactics
import Derived.Tactics2
import Derived.Test.YtbnbogdglffkmaaKEw2
import Derived.Deep.AppendLies
import Derived.Deep.DrawnRows
import Derived.Maps.Own
import Derived.Maps.OwnSet

/-! Mix: Regions that draw their order: operations that only look may be taken first as long as what they look at stands; the rest comes in one forced order. No condition. -/
namespace Go.Proofs.Ytbnbogdglffkmaa

section
variable {P : Program} {ops : Array Oper} {Q : Exit → Act → World → Prop} {md : Region.Mode} {S : World → Prop} {late : List Nat}

/-- Whatever order is picked from here on; S holds behind every operation as long as none of the late ones has come up. -/
def wpAnyT (P : Program) (md : Region.Mode) (ops : Array Oper) (Q : Exit → Act → World → Prop) (S : World → Prop) (late : List Nat) : Nat → Array Bool → Act → World → Prop
  | 0, listed, a, w => Region.ready md ops listed = [] ∧ Q .normal a w
  | fuel + 1, listed, a, w =>
    (Region.ready md ops listed = [] → Q .normal a w) ∧
    ∀ i ∈ Region.ready md ops listed, wpOp P ops Q i (fun a' w' => ((∃ j ∈ late, (listed.setIfInBounds i true).getD j false = true) ∨ S w') ∧ wpAnyT P md ops Q S late fuel (listed.setIfInBounds i true) a' w') a w

theorem wpAny_of_T : ∀ (fuel : Nat) (listed : Array Bool) (a : Act) (w : World), wpAnyT P md ops Q S late fuel listed a w → wpAny P md ops Q fuel listed a w
  | 0, _, _, _, h => h
  | fuel + 1, _, _, _, h => ⟨h.1, fun i hi => wpOp_mono (fun a' w' h' => wpAny_of_T fuel _ a' w' h'.2) (h.2 i hi)⟩

theorem listed_no {listed : Array Bool} {i : Nat} (h0 : listed.getD i true = false) : listed.getD i false = false := by
  rcases Nat.lt_or_ge i listed.size with h' | h'
  · simp [h'] at h0 ⊢; exact h0
  · simp [Array.getElem?_eq_none h'] at h0

theorem wpAnyT_first {i : Nat} {oi : Oper} {v : Value} (hi : ops[i]? = some oi) (hsel : ∀ (j : Nat) (o : Oper) cs b, ops[j]? = some o → o.op ≠ .select cs b)
    (hQ : ∀ c a w, Q (.panic c) (a.put oi.dst v) w → Q (.panic c) a w) (hlate : ∀ j ∈ late, ∃ oj, ops[j]? = some oj ∧ ∃ e ∈ oj.after, Region.binds md e = true ∧ e.on = i) :
    ∀ (fuel : Nat) (listed : Array Bool) (a : Act) (w : World),
      (∀ j oj, ops[j]? = some oj → j ≠ i → listed.getD j true = false → (∀ e ∈ oj.after, Region.binds md e = true → e.on ≠ i) → oi.apart ops oj = true) →
      i ∈ Region.ready md ops listed → YieldsIf P ops S oi v a → S w → (∀ j ∈ late, listed.getD j false = false) →
      wpAnyT P md ops Q S late fuel (listed.setIfInBounds i true) (a.put oi.dst v) w → wpAnyT P md ops Q S late (fuel + 1) listed a w := by
  intro fuel
  induction fuel with
  | zero =>
    intro listed a w _ hr hy hS hnl H
    refine ⟨fun h => (by rw [h] at hr; cases hr), fun j hj => ?_⟩
    by_cases hji : j = i
    · subst hji; exact hy.wpOp hi hS ⟨.inr hS, H⟩
    · have := ready_mono hj hji
      rw [H.1] at this
      cases this
  | succ fuel ih =>
    intro listed a w hfree hr hy hS hnl H
    refine ⟨fun h => (by rw [h] at hr; cases hr), fun j hj => ?_⟩
    by_cases hji : j = i
    · subst hji; exact hy.wpOp hi hS ⟨.inr hS, H⟩
    · have h1 := H.2 j (ready_mono hj hji)
      obtain ⟨hjun, oj, hoj, hall⟩ := mem_ready.1 hj
      have hiun := listed_no (mem_ready.1 hr).1
      have hnot : ∀ e ∈ oj.after, Region.binds md e = true → e.on ≠ i := fun e he hb heq => by
        have h1 := hall e he hb
        rw [heq, hiun] at h1
        cases h1
      have hjl : j ∉ late := fun hm => by
        obtain ⟨oj', hoj', e, he, hb, hon⟩ := hlate j hm
        rw [hoj] at hoj'
        cases hoj'
        exact hnot e he hb hon
      have hil : i ∉ late := fun hm => by
        obtain ⟨oi', hoi', e, he, hb, hon⟩ := hlate i hm
        obtain ⟨_, o2, ho2, hall2⟩ := mem_ready.1 hr
        rw [hoi'] at ho2
        cases ho2
        have := hall2 e he hb
        rw [hon, hiun] at this
        cases this
      have hnl' : ∀ k ∈ late, (listed.setIfInBounds j true).getD k false = false := fun k hk => by
        have hne : j ≠ k := fun e => hjl (by rw [e]; exact hk)
        rw [getD_set_ne false hne]
        exact hnl k hk
      have h2 := wpOp_putIf hoj (hfree j oj hoj hji hjun hnot) (fun cs b => hsel i oi cs b hi) (fun cs b => hsel j oj cs b hoj) hQ hy h1
      have hfree' : ∀ k ok, ops[k]? = some ok → k ≠ i → (listed.setIfInBounds j true).getD k true = false →
          (∀ e ∈ ok.after, Region.binds md e = true → e.on ≠ i) → oi.apart ops ok = true := fun k ok hk hki hun hno => by
        refine hfree k ok hk hki ?_ hno
        by_cases hjk : j = k
        · subst hjk; exact hjun
        · rw [getD_set_ne true hjk] at hun; exact hun
      refine wpOp_mono (fun a' w' h3 => ?_) h2
      have hS' : S w' := by
        rcases h3.2.1 with ⟨k, hk, hl⟩ | h
        · have hne : j ≠ k := fun e => hjl (by rw [e]; exact hk)
          have hne2 : i ≠ k := fun e => hil (by rw [e]; exact hk)
          rw [getD_set_ne false hne, getD_set_ne false hne2, hnl k hk] at hl
          cases hl
        · exact h
      refine ⟨.inr hS', ih (listed.setIfInBounds j true) a' w' hfree' (ready_mono hr (Ne.symm hji)) h3.1 hS' hnl' ?_⟩
      rw [Array.setIfInBounds_comm _ _ hji]
      exact h3.2.2

/-- A step of the walk: an operation that only looks (0), one behind which S is shown anew (1), a late one (2). -/
def wpMix (P : Program) (ops : Array Oper) (Q : Exit → Act → World → Prop) (S : World → Prop) : List (Nat × Nat) → Act → World → Prop
  | [], a, w => Q .normal a w
  | (i, 0) :: rest, a, w => ∃ o v, ops[i]? = some o ∧ YieldsIf P ops S o v a ∧ wpMix P ops Q S rest (a.put o.dst v) w
  | (i, 1) :: rest, a, w => wpOp P ops Q i (fun a' w' => S w' ∧ wpMix P ops Q S rest a' w') a w
  | (i, _ + 2) :: rest, a, w => wpOp P ops Q i (wpMix P ops Q S rest) a w

/-- The order fits the region: what only looks may be taken first, the rest comes up alone; calm: none of the late ones has come up. -/
def mixB (md : Region.Mode) (ops : Array Oper) (late : List Nat) : List (Nat × Nat) → Bool → Array Bool → Bool
  | [], _, listed => (Region.ready md ops listed).isEmpty
  | (i, 0) :: rest, calm, listed => calm && (Region.ready md ops listed).contains i && Region.free md ops listed i &&
      late.all (fun j => match ops[j]? with | some oj => oj.after.any (fun e => Region.binds md e && e.on == i) | none => false) && late.all (fun j => !(listed.getD j false)) && mixB md ops late rest calm (listed.setIfInBounds i true)
  | (i, 1) :: rest, calm, listed => (Region.ready md ops listed == [i]) && mixB md ops late rest calm (listed.setIfInBounds i true)
  | (i, _ + 2) :: rest, _, listed => (Region.ready md ops listed == [i]) && late.contains i && decide (i < listed.size) && mixB md ops late rest false (listed.setIfInBounds i true)

theorem wpAnyT_mix (hs : Region.noSelect ops = true) (hQ : ∀ c a w, ¬ Q (.panic c) a w) : ∀ (l : List (Nat × Nat)) (calm : Bool) (listed : Array Bool) (a : Act) (w : World), mixB md ops late l calm listed = true → (calm = true → S w) →
    wpMix P ops Q S l a w → wpAnyT P md ops Q S late l.length listed a w
  | [], _, _, _, _, hB, _, h => ⟨by simpa [mixB] using hB, h⟩
  | (i, 0) :: rest, calm, listed, a, w, hB, hc, ⟨o, v, ho, hy, h⟩ => by
    simp only [mixB, Bool.and_eq_true] at hB
    obtain ⟨⟨⟨⟨⟨h1, h2⟩, h3⟩, h4⟩, h5⟩, h6⟩ := hB
    refine wpAnyT_first ho (Region.noSelect_spec hs) (fun c a w h => absurd h (hQ c _ w)) (fun j hj => ?_) rest.length listed a w (Region.free_spec ho h3) (by simpa using h2) hy (hc h1) (fun j hj => ?_) (wpAnyT_mix hs hQ rest calm _ _ w h6 hc h)
    · have := List.all_eq_true.1 h4 j hj
      split at this
      · rename_i oj hoj
        obtain ⟨e, he, hb⟩ := Array.any_eq_true'.1 this
        simp only [Bool.and_eq_true, beq_iff_eq] at hb
        exact ⟨oj, hoj, e, he, hb⟩
      · cases this
    · have := List.all_eq_true.1 h5 j hj
      simpa using this
  | (i, 1) :: rest, calm, listed, a, w, hB, hc, h => by
    simp only [mixB, Bool.and_eq_true, beq_iff_eq] at hB
    refine ⟨fun h0 => (by rw [hB.1] at h0; cases h0), fun j hj => ?_⟩
    rw [hB.1] at hj
    simp only [List.mem_singleton] at hj
    subst hj
    exact wpOp_mono (fun a' w' h' => ⟨.inr h'.1, wpAnyT_mix hs hQ rest calm _ a' w' hB.2 (fun _ => h'.1) h'.2⟩) h
  | (i, _ + 2) :: rest, calm, listed, a, w, hB, hc, h => by
    simp only [mixB, Bool.and_eq_true, beq_iff_eq, decide_eq_true_eq] at hB
    obtain ⟨⟨⟨h1, h2⟩, h3⟩, h4⟩ := hB
    refine ⟨fun h0 => (by rw [h1] at h0; cases h0), fun j hj => ?_⟩
    rw [h1] at hj
    simp only [List.mem_singleton] at hj
    subst hj
    exact wpOp_mono (fun a' w' h' => ⟨.inl ⟨j, by simpa using h2, by simp [h3]⟩, wpAnyT_mix hs hQ rest false _ a' w' h4 (fun h => by cases h) h'⟩) h

/-- Q, but not at a panic. -/
def QN (Q : Exit → Act → World → Prop) : Exit → Act → World → Prop
  | .panic _, _, _ => False
  | e, a, w => Q e a w

/-- The region, walked in one order. -/
theorem wp_region_mix {id : Nat} {a : Act} {w : World} (S : World → Prop) (late : List Nat) (l : List (Nat × Nat)) (hm : P.follows .mixedOrders = true) (hB : (Region.noSelect ops && (l.length == ops.size) && mixB .any ops late l true (Array.replicate ops.size false)) = true)
    (hS : S w.drew) (h : wpMix P ops (QN Q) S l a w.drew) : (Code.region id ops true).wp P Q a w := by
  simp only [Bool.and_eq_true, beq_iff_eq] at hB
  obtain ⟨⟨h1, h2⟩, h3⟩ := hB
  refine Code.wp_mono (Q := QN Q) (fun e a w h => by cases e <;> first | exact h | exact h.elim) ?_
  refine wp_region_any hm (wpAny_of_T (S := S) (late := late) _ _ _ _ ?_)
  rw [← h2]
  exact wpAnyT_mix h1 (fun c a w h => h) l true _ a _ (by rw [h2]; exact h3) (fun _ => hS) h

theorem mix_end {a : Act} {w : World} (h : Q .normal a w) : wpMix P ops (QN Q) S [] a w := h
theorem mix_look {i : Nat} {rest : List (Nat × Nat)} {a : Act} {w : World} {o : Oper} {v : Value} (ho : ops[i]? = some o) (hw : Region.wanted o (yielded ops a.tmps) = true) (hr : ∀ w, S w → (execOp a.eval o).run P w = .ok (.value v) w)
    (h : wpMix P ops Q S rest (a.put o.dst v) w) : wpMix P ops Q S ((i, 0) :: rest) a w := ⟨o, v, ho, .inl ⟨hw, hr⟩, h⟩
theorem mix_see {i : Nat} {rest : List (Nat × Nat)} {a : Act} {w : World} {o : Oper} (ho : ops[i]? = some o)
    (h : ∀ K : Act → Prop, (∀ a', wpMix P ops Q S rest a' w → K a') → if Region.wanted o (yielded ops a.tmps) = true then ∃ v, (∀ w, S w → (execOp a.eval o).run P w = .ok (.value v) w) ∧ K (a.put o.dst v) else K (a.put o.dst undef)) : wpMix P ops Q S ((i, 0) :: rest) a w := by
  have := h (fun a' => wpMix P ops Q S rest a' w) (fun _ h => h)
  split at this
  · rename_i hw
    obtain ⟨v, h1, h2⟩ := this
    exact ⟨o, v, ho, .inl ⟨hw, h1⟩, h2⟩
  · rename_i hw
    exact ⟨o, undef, ho, .inr ⟨by simpa using hw, rfl⟩, this⟩
theorem mix_hold {i : Nat} {rest : List (Nat × Nat)} {a : Act} {w : World} {o : Oper} (ho : ops[i]? = some o)
    (h : ∀ K : Act → World → Prop, (∀ a' w', S w' → wpMix P ops Q S rest a' w' → K a' w') → if Region.wanted o (yielded ops a.tmps) = true then o.wp P a w K Q else K (a.put o.dst undef) w) : wpMix P ops Q S ((i, 1) :: rest) a w := by
  have := h (fun a' w' => S w' ∧ wpMix P ops Q S rest a' w') (fun _ _ h1 h2 => ⟨h1, h2⟩)
  show wpOp P ops Q i _ a w
  unfold wpOp
  simp only [ho]
  split at this
  · rename_i hw; rw [if_pos hw]; exact .inl this
  · rename_i hw; rw [if_neg hw]; exact this
theorem mix_late {i : Nat} {rest : List (Nat × Nat)} {a : Act} {w : World} {o : Oper} (ho : ops[i]? = some o)
    (h : ∀ K : Act → World → Prop, (∀ a' w', wpMix P ops Q S rest a' w' → K a' w') → if Region.wanted o (yielded ops a.tmps) = true then o.wp P a w K Q else K (a.put o.dst undef) w) : wpMix P ops Q S ((i, 2) :: rest) a w := by
  have := h (wpMix P ops Q S rest) (fun _ _ h => h)
  show wpOp P ops Q i _ a w
  unfold wpOp
  simp only [ho]
  split at this
  · rename_i hw; rw [if_pos hw]; exact .inl this
  · rename_i hw; rw [if_neg hw]; exact this
end
end Go.Proofs.Ytbnbogdglffkmaa

/-! WG: - l1Copy. -/
namespace Go.Proofs.Ytbnbogdglffkmaa
open Go.RowKit Go.Deep
attribute [local go_sem ↓] Go.wp_at_zero Go.wp_at_succ

/-- The slice (A, j, C) is a row of the call's own, made from block base on; its elements are the first j terms of k, and no term below them lies in the row's own block. -/
def Own (w : World) (base : Nat) (k : Fo) (j : Nat) (A : Option Addr) (C : Nat) : Prop :=
  ∃ xs, w.ownsRow base 31 3 (.slice A j C) j xs ∧ ∀ i, i < j → ∃ x y s' v' kk a' c' L H, fdrop i k = .node x y (s', v') kk (fdrop (i + 1) k) ∧
    xs[i * 3]? = some (.int .i64 s') ∧ xs[i * 3 + 1]? = some (.int .i64 v') ∧ xs[i * 3 + 2]? = some (.slice a' (flen kk) c') ∧ Sl w L H a' kk ∧ base ≤ L ∧ H ≤ w.heap.size ∧
    (∀ g, (Value.slice A j C).ownBlock = some g → g < L ∨ H ≤ g)

def CopyPost (s v : Int) (k : Fo) (w : World) (e : Ending) (w' : World) : Prop :=
  ∃ a c, e = .returned (.agg #[.int .i64 s, .int .i64 v, .slice a (flen k) c]) ∧ Below w.heap.size w w' ∧ Own w' w.heap.size k (flen k) a c

theorem cell_low {W w2 : World} {q : Addr} {x : Value} (hb : Below W.heap.size W w2) (h : W.cell? q = some x) : w2.cell? q = some x := by
  rw [hb.cell (World.block_lt_of_cell? _ _ h)]; exact h
theorem own_low {W w2 : World} {base : Nat} {e : TypeId} {size : Nat} {v : Value} {n : Nat} {xs : List Value} (hb : Below W.heap.size W w2) (h : W.ownsRow base e size v n xs) : w2.ownsRow base e size v n xs := by
  refine ⟨h.1, ?_⟩
  rcases h.2 with h2 | ⟨g, cap, cur, h3, h4, h5, h6⟩
  · exact .inl h2
  · have hg : g < W.heap.size := (h.lt g (by rw [h3]; rfl)).2
    exact .inr ⟨g, cap, cur, h3, h4, by rw [hb.block g hg]; exact h5, h6⟩
theorem own_base {W : World} {base base' : Nat} {e : TypeId} {size : Nat} {v : Value} {n : Nat} {xs : List Value} (hb : base' ≤ base) (h : W.ownsRow base e size v n xs) : W.ownsRow base' e size v n xs := by
  refine ⟨h.1, ?_⟩
  rcases h.2 with h2 | ⟨g, cap, cur, h3, h4, h5⟩
  · exact .inl h2
  · exact .inr ⟨g, cap, cur, h3, by omega, h5⟩
theorem cell_grown {W w3 : World} {base : Nat} {row : Option Nat} (hg : W.grownBy w3 row) (hr : ∀ g, row = some g → base ≤ g) {q : Addr} {x : Value} (h : W.cell? q = some x) (hq : q.block < base) : w3.cell? q = some x := by
  rw [hg.cell_far q (World.block_lt_of_cell? _ _ h) (fun e => by have := hr _ e.symm; omega)]; exact h

theorem row_of_all {w : World} {lo B : Nat} : ∀ (k : Fo) (b o : Nat), lo ≤ b → b < B →
    (∀ i, i < flen k → ∃ x y s v kk a c, fdrop i k = .node x y (s, v) kk (fdrop (i + 1) k) ∧ w.cell? ⟨b, o + i * 3, none⟩ = some (.int .i64 s) ∧ w.cell? ⟨b, o + i * 3 + 1, none⟩ = some (.int .i64 v) ∧
      w.cell? ⟨b, o + i * 3 + 2, none⟩ = some (.slice a (flen kk) c) ∧ Sl w lo B a kk) → Row w lo B k b o
  | .nil, _, _, _, _, _ => trivial
  | .node x y p kk r, b, o, h1, h2, h => by
    obtain ⟨x', y', s, v, kk', a, c, e, c0, c1, c2, hs⟩ := h 0 (by simp [flen])
    simp only [fdrop, BT.node.injEq] at e
    obtain ⟨_, _, rfl, rfl, _⟩ := e
    refine ⟨h1, h2, by simpa using c0, by simpa using c1, ⟨a, c, by simpa using c2, hs⟩, row_of_all r b (o + 3) h1 h2 fun i hi => ?_⟩
    obtain ⟨x', y', s, v, kk', a, c, e, c0, c1, c2, hs⟩ := h (i + 1) (by simp [flen]; omega)
    have e3 : o + 3 + i * 3 = o + (i + 1) * 3 := by omega
    exact ⟨x', y', s, v, kk', a, c, e, by rw [e3]; exact c0, by rw [e3]; exact c1, by rw [e3]; exact c2, hs⟩

theorem Own.sl {w : World} {base : Nat} {k : Fo} {A : Option Addr} {C : Nat} (h : Own w base k (flen k) A C) : Sl w base w.heap.size A k := by
  cases hk : k with
  | nil => exact .inl rfl
  | node x0 y0 p0 k0 r0 =>
    rw [← hk]
    obtain ⟨xs, hown, hall⟩ := h
    obtain ⟨g, cap, hv, hb, hlt⟩ := hown.form (by rw [hk]; simp [flen])
    have hA : A = some ⟨g, 0, none⟩ := by simp only [Value.slice.injEq] at hv; exact hv.1
    refine .inr ⟨g, 0, hA, row_of_all k g 0 hb hlt fun i hi => ?_⟩
    obtain ⟨x, y, s', v', kk, a', c', L, H, e, h0, h1, h2, hs, hL, hH, _⟩ := hall i hi
    have hc := hown.cells (g := g) (by rw [hA]; rfl)
    have ha : ∀ n, (⟨g, 0, none⟩ : Addr).add n = ⟨g, 0 + n, none⟩ := fun n => by unfold Addr.add; split <;> simp_all
    refine ⟨x, y, s', v', kk, a', c', e, ?_, ?_, ?_, hs.mono hL hH⟩
    · have := hc _ _ h0; rw [ha] at this; exact this
    · have := hc _ _ h1; rw [ha] at this; exact this
    · have := hc _ _ h2; rw [ha] at this; exact this
theorem Own.low {w w2 : World} {base base' : Nat} {k : Fo} {j : Nat} {A : Option Addr} {C : Nat} (h : Own w base k j A C) (hb : Below w.heap.size w w2) (hbase : base' ≤ base) : Own w2 base' k j A C := by
  obtain ⟨xs, hown, hall⟩ := h
  refine ⟨xs, own_base hbase (own_low hb hown), fun i hi => ?_⟩
  obtain ⟨x, y, s', v', kk, a', c', L, H, e, h0, h1, h2, hs, hL, hH, hg⟩ := hall i hi
  exact ⟨x, y, s', v', kk, a', c', L, H, e, h0, h1, h2, hs.same (fun b _ hb' => hb.block b (by omega)), by omega, Nat.le_trans hH hb.size, hg⟩
/-- A store into a block below base, or past the end. -/
theorem Own.store {w : World} {base : Nat} {k : Fo} {j : Nat} {A : Option Addr} {C : Nat} (h : Own w base k j A C) {q : Addr} (hq : q.block < base) (u : Value) : Own (w.setCell q u) base k j A C := by
  obtain ⟨xs, hown, hall⟩ := h
  refine ⟨xs, ownsRow_setCell_below hown hq u, fun i hi => ?_⟩
  obtain ⟨x, y, s', v', kk, a', c', L, H, e, h0, h1, h2, hs, hL, hH, hg⟩ := hall i hi
  exact ⟨x, y, s', v', kk, a', c', L, H, e, h0, h1, h2, hs.same (Same.setCell (fun _ _ _ => rfl) (.inl (by omega)) _), hL, by simpa using hH, hg⟩
/-- One more term is appended. -/
theorem Own.append {wr w2 w3 : World} {base : Nat} {k : Fo} {j : Nat} {A : Option Addr} {C g cap : Nat} {blk : Obj} {x y : Nat} {s' v' : Int} {kk : Fo} {a2 : Option Addr} {c2 : Nat} (h : ∃ xs, wr.ownsRow base 31 3 (.slice A j C) j xs ∧
      w3.ownsRow base 31 3 (.slice (some ⟨g, 0, none⟩) (j + 1) cap) (j + 1) (xs ++ [.int .i64 s', .int .i64 v', .slice a2 (flen kk) c2]) ∧
      ∀ i, i < j → ∃ x y s' v' kk a' c' L H, fdrop i k = .node x y (s', v') kk (fdrop (i + 1) k) ∧
        xs[i * 3]? = some (.int .i64 s') ∧ xs[i * 3 + 1]? = some (.int .i64 v') ∧ xs[i * 3 + 2]? = some (.slice a' (flen kk) c') ∧ Sl wr L H a' kk ∧ base ≤ L ∧ H ≤ wr.heap.size ∧ (∀ g, (Value.slice A j C).ownBlock = some g → g < L ∨ H ≤ g))
    (hb2 : Below wr.heap.size wr w2) (hl2 : Sl w2 wr.heap.size w2.heap.size a2 kk) (hbase : base ≤ wr.heap.size) (hd : fdrop j k = .node x y (s', v') kk (fdrop (j + 1) k))
    (hgrow : (w2.alloc blk).grownBy w3 (Value.slice A j C).ownBlock) (hatg : (Value.slice A j C).ownBlock = some g ∨ g = w2.heap.size + 1) : Own w3 base k (j + 1) (some ⟨g, 0, none⟩) cap := by
  obtain ⟨xs, hown, hown3, hall⟩ := h
  have hs2 := hb2.size
  have hs3 := hgrow.size
  simp at hs3
  have hxl : xs.length = j * 3 := hown.1
  refine ⟨_, hown3, fun i hi => ?_⟩
  by_cases hij : i < j
  · obtain ⟨x, y, s1, v1, k1, a1, c1, L, H, e, h0, h1, h2, hs, hL, hH, hg⟩ := hall i hij
    refine ⟨x, y, s1, v1, k1, a1, c1, L, H, e, ?_, ?_, ?_, hs.same (fun b h1 h2 => ?_), hL, by omega, fun g' hg' => ?_⟩
    · rw [List.getElem?_append_left (by omega)]; exact h0
    · rw [List.getElem?_append_left (by omega)]; exact h1
    · rw [List.getElem?_append_left (by omega)]; exact h2
    · rw [hgrow.block b (by simp; omega) (fun e => by have := hg b e.symm; omega), Below.heap_alloc _ _ _ (by omega), hb2.block b (by omega)]
    · have : g' = g := by simpa [Value.ownBlock] using hg'.symm
      subst this
      rcases hatg with hg1 | hg1
      · exact hg _ hg1
      · omega
  · have : i = j := by omega
    subst this
    refine ⟨x, y, s', v', kk, a2, c2, wr.heap.size, w2.heap.size, hd, ?_, ?_, ?_, hl2.same (fun b h1 h2 => ?_), hbase, by omega, fun g' hg' => ?_⟩
    · rw [List.getElem?_append_right (by omega), hxl]; simp
    · rw [List.getElem?_append_right (by omega), hxl, show i * 3 + 1 - i * 3 = 1 from by omega]; rfl
    · rw [List.getElem?_append_right (by omega), hxl, show i * 3 + 2 - i * 3 = 2 from by omega]; rfl
    · rw [hgrow.block b (by simp; omega) (fun e => by have := (hown.lt b e.symm).2; omega), Below.heap_alloc _ _ _ (by omega)]
    · have : g' = g := by simpa [Value.ownBlock] using hg'.symm
      subst this
      rcases hatg with hg1 | hg1
      · exact .inl (hown.lt _ hg1).2
      · exact .inr (by omega)

theorem Try.infoTerm : ∃ i, Try.prog.info? 31 = some i ∧ i.zero = some (.agg #[.int .i64 0, .int .i64 0, .slice none 0 0]) ∧ i.size = 3 ∧ i.bytes = 40 := by
  have h : (Try.prog.info? 31).map (fun i => (i.zero, i.size, i.bytes)) = some (some (.agg #[.int .i64 0, .int .i64 0, .slice none 0 0]), 3, 40) := by kernel_rfl
  obtain ⟨i, hi, hz⟩ := Option.map_eq_some_iff.1 h
  simp only [Prod.mk.injEq] at hz
  exact ⟨i, hi, hz.1, hz.2.1, hz.2.2⟩

theorem bl_undrew {B : Nat} {w w2 : World} (h : Below B w.drew w2) : Below B w w2 := ⟨h.os, h.tape, h.output, h.size, h.block⟩

/-- What holds at the head of l1Copy's loop: j kids are copied, the new slice is (A, j, C). -/
structure CpAt (w : World) (s v : Int) (a : Option Addr) (c : Nat) (k : Fo) (j : Nat) (A : Option Addr) (C : Nat) (wr : World) : Prop where
  below : Below (w.heap.size + 2) ((w.alloc (.cells #[.int .i64 s, .int .i64 v, .slice a (flen k) c] 31)).alloc (.cells #[.int .i64 0, .int .i64 0, .slice none 0 0] 31)) wr
  out0 : wr.cell? ⟨w.heap.size + 2, 0, none⟩ = some (.int .i64 s)
  out1 : wr.cell? ⟨w.heap.size + 2, 1, none⟩ = some (.int .i64 v)
  out2 : wr.cell? ⟨w.heap.size + 2, 2, none⟩ = some (.slice A j C)
  free : wr.frozen? ⟨w.heap.size + 2, 2, none⟩ = false
  size : w.heap.size + 3 ≤ wr.heap.size
  own : Own wr (w.heap.size + 3) k j A C

theorem CpAt.start (w : World) (s v : Int) (a : Option Addr) (c : Nat) (k : Fo) : CpAt w s v a c k 0 none 0 (((w.alloc (.cells #[.int .i64 s, .int .i64 v, .slice a (flen k) c] 31)).alloc (.cells #[.int .i64 0, .int .i64 0, .slice none 0 0] 31)).alloc (.cells #[.int .i64 s, .int .i64 v, .slice none 0 0] 31)) := by
  refine ⟨(Below.refl _ _).alloc (by simp) _, ?_, ?_, ?_, ?_, by simp, ⟨[], World.ownsRow_nil _ _ _ _, fun i hi => by omega⟩⟩
  · rw [World.cell?_alloc_at _ _ _ _ (by simp)]; rfl
  · rw [World.cell?_alloc_at _ _ _ _ (by simp)]; rfl
  · rw [World.cell?_alloc_at _ _ _ _ (by simp)]; rfl
  · rw [World.frozen?_alloc_at _ _ _ _ (by simp)]
theorem CpAt.step {w wr w2 w3 : World} {s v : Int} {a : Option Addr} {c : Nat} {k : Fo} {j : Nat} {A : Option Addr} {C g cap : Nat} {blk : Obj} {xs : List Value} {x y : Nat} {s' v' : Int} {kk : Fo} {a2 : Option Addr} {c2 : Nat} (h : CpAt w s v a c k j A C wr)
    (hb2 : Below wr.heap.size wr w2) (hl2 : Sl w2 wr.heap.size w2.heap.size a2 kk) (hd : fdrop j k = .node x y (s', v') kk (fdrop (j + 1) k)) (hown : wr.ownsRow (w.heap.size + 3) 31 3 (.slice A j C) j xs)
    (hall : ∀ i, i < j → ∃ x y s' v' kk a' c' L H, fdrop i k = .node x y (s', v') kk (fdrop (i + 1) k) ∧
        xs[i * 3]? = some (.int .i64 s') ∧ xs[i * 3 + 1]? = some (.int .i64 v') ∧ xs[i * 3 + 2]? = some (.slice a' (flen kk) c') ∧ Sl wr L H a' kk ∧ w.heap.size + 3 ≤ L ∧ H ≤ wr.heap.size ∧ (∀ g, (Value.slice A j C).ownBlock = some g → g < L ∨ H ≤ g))
    (hown3 : w3.ownsRow (w.heap.size + 3) 31 3 (.slice (some ⟨g, 0, none⟩) (j + 1) cap) (j + 1) (xs ++ [.int .i64 s', .int .i64 v', .slice a2 (flen kk) c2]))
    (hgrow : (w2.alloc blk).grownBy w3 (Value.slice A j C).ownBlock) (hatg : (Value.slice A j C).ownBlock = some g ∨ g = w2.heap.size + 1) :
    CpAt w s v a c k (j + 1) (some ⟨g, 0, none⟩) cap (w3.setCell ⟨w.heap.size + 2, 2, none⟩ (.slice (some ⟨g, 0, none⟩) (j + 1) cap)) := by
  have hs1 := h.size
  have hs2 := hb2.size
  have hs3 := hgrow.size
  simp at hs3
  have hr : ∀ g, (Value.slice A j C).ownBlock = some g → w.heap.size + 3 ≤ g := fun g hg => (hown.lt g hg).1
  have hcell : ∀ {q : Addr} {u : Value}, wr.cell? q = some u → q.block < w.heap.size + 3 → w3.cell? q = some u := fun hq hlt =>
    cell_grown hgrow hr (cell_low ((Below.refl _ _).alloc (Nat.le_refl _) _) (cell_low hb2 hq)) hlt
  refine ⟨?_, ?_, ?_, ?_, ?_, by simp; omega, ?_⟩
  · exact (((h.below.trans (hb2.mono (by omega))).alloc (by omega) _).grown hgrow (by simp; omega) (fun g hg => by have := hr g hg; omega)).setCell (by simp) _
  · rw [World.cell?_setCell_other _ _ _ _ (by intro h'; have := congrArg Addr.off h'; simp at this)]; exact hcell h.out0 (by simp)
  · rw [World.cell?_setCell_other _ _ _ _ (by intro h'; have := congrArg Addr.off h'; simp at this)]; exact hcell h.out1 (by simp)
  · exact World.cell?_setCell_same _ _ _ (hcell h.out2 (by simp))
  · rw [World.frozen?_setCell, hgrow.frozen_far _ (by simp; omega) (fun e => by have := hr _ e.symm; dsimp only at this; omega), World.frozen?_alloc_old _ _ _ (by simp; omega), hb2.frozen (by simp; omega)]
    exact h.free
  · exact (Own.append ⟨xs, hown, hown3, hall⟩ hb2 hl2 (by omega) hd hgrow hatg).store (by simp) _
theorem CpAt.low {w wr : World} {s v : Int} {a : Option Addr} {c : Nat} {k : Fo} {j : Nat} {A : Option Addr} {C : Nat} (h : CpAt w s v a c k j A C wr) : Below w.heap.size w wr :=
  (((Below.refl _ _).alloc (Nat.le_refl _) _).alloc (by simp) _).trans (h.below.mono (by omega))
theorem CpAt.done {w wr : World} {s v : Int} {a : Option Addr} {c : Nat} {k : Fo} {A : Option Addr} {C : Nat} (h : CpAt w s v a c k (flen k) A C wr) (x y z : Value) :
    CopyPost s v k w (.returned (.agg #[.int .i64 s, .int .i64 v, .slice A (flen k) C])) (((wr.setCell ⟨w.heap.size + 1, 0, none⟩ x).setCell ⟨w.heap.size + 1, 1, none⟩ y).setCell ⟨w.heap.size + 1, 2, none⟩ z) := by
  refine ⟨A, C, rfl, ((h.low.setCell (by simp) _).setCell (by simp) _).setCell (by simp) _, ?_⟩
  exact (((h.own.store (by simp) x).store (by simp) y).store (by simp) z).low (Below.refl _ _) (by omega)
theorem CpAt.res {w wr : World} {s v : Int} {a : Option Addr} {c : Nat} {k : Fo} {j : Nat} {A : Option Addr} {C : Nat} (h : CpAt w s v a c k j A C wr) :
    wr.cell? ⟨w.heap.size + 1, 0, none⟩ = some (.int .i64 0) ∧ wr.cell? ⟨w.heap.size + 1, 1, none⟩ = some (.int .i64 0) ∧ wr.cell? ⟨w.heap.size + 1, 2, none⟩ = some (.slice none 0 0) ∧
      wr.frozen? ⟨w.heap.size + 1, 0, none⟩ = false ∧ wr.frozen? ⟨w.heap.size + 1, 1, none⟩ = false ∧ wr.frozen? ⟨w.heap.size + 1, 2, none⟩ = false ∧ wr.cell? ⟨w.heap.size, 2, none⟩ = some (.slice a (flen k) c) := by
  refine ⟨?_, ?_, ?_, ?_, ?_, ?_, ?_⟩
  · rw [h.below.cell (by simp), World.cell?_alloc_at _ _ _ _ (by simp)]; rfl
  · rw [h.below.cell (by simp), World.cell?_alloc_at _ _ _ _ (by simp)]; rfl
  · rw [h.below.cell (by simp), World.cell?_alloc_at _ _ _ _ (by simp)]; rfl
  · rw [h.below.frozen (by simp), World.frozen?_alloc_at _ _ _ _ (by simp)]
  · rw [h.below.frozen (by simp), World.frozen?_alloc_at _ _ _ _ (by simp)]
  · rw [h.below.frozen (by simp), World.frozen?_alloc_at _ _ _ _ (by simp)]
  · rw [h.below.cell (by simp), World.cell?_alloc_lt _ _ _ (by simp)]; simp

theorem fsz_drop : ∀ (i : Nat) (k : Fo), fsz (fdrop i k) ≤ fsz k
  | 0, _ => Nat.le_refl _
  | _ + 1, .nil => Nat.le_refl _
  | n + 1, .node _ _ _ _ r => by have := fsz_drop n r; simp only [fdrop, fsz]; omega
theorem fsz_kid {i : Nat} {k : Fo} {x y : Nat} {p : Int × Int} {kk r : Fo} (h : fdrop i k = .node x y p kk r) : fsz kk < fsz k := by
  have := fsz_drop i k
  rw [h] at this
  simp only [fsz] at this
  omega

end Go.Proofs.Ytbnbogdglffkmaa

/-! S0: Substitutions as plain data, in memory as rows of binds, and as a map of nodes. Definitions and plain lemmas. -/
namespace Go.Proofs.Ytbnbogdglffkmaa
open Go.RowKit Go.Deep Go.Maps

/-- A variable and the term that it stands for. -/
abbrev Bd := Int × Int × Int × Fo

/-- A slice's address at which the binds bs lie. -/
def BSl (w : World) (lo B : Nat) (a : Option Addr) (bs : List Bd) : Prop :=
  bs = [] ∨ ∃ b o, a = some ⟨b, o, none⟩ ∧ lo ≤ b ∧ b < B ∧ ∀ (i : Nat) (x : Bd), bs[i]? = some x → ∃ a' c', w.cell? ⟨b, o + i * 4, none⟩ = some (.int .i64 x.1) ∧ w.cell? ⟨b, o + i * 4 + 1, none⟩ = some (.int .i64 x.2.1) ∧ w.cell? ⟨b, o + i * 4 + 1 + 1, none⟩ = some (.int .i64 x.2.2.1) ∧ w.cell? ⟨b, o + i * 4 + 1 + 2, none⟩ = some (.slice a' (flen x.2.2.2) c') ∧ Sl w lo B a' x.2.2.2
theorem BSl.same {w w' : World} {lo B : Nat} {a : Option Addr} {bs : List Bd} (hb : Same lo B w w') (h : BSl w lo B a bs) : BSl w' lo B a bs := by
  rcases h with h | ⟨b, o, e, h1, h2, h3⟩
  · exact .inl h
  · refine .inr ⟨b, o, e, h1, h2, fun i x hx => ?_⟩
    obtain ⟨a', c', c0, c1, c2, c3, hl⟩ := h3 i x hx
    exact ⟨a', c', by rw [hb.cell h1 h2]; exact c0, by rw [hb.cell h1 h2]; exact c1, by rw [hb.cell h1 h2]; exact c2, by rw [hb.cell h1 h2]; exact c3, hl.same hb⟩
theorem BSl.mono {w : World} {lo lo' B B' : Nat} {a : Option Addr} {bs : List Bd} (hlo : lo' ≤ lo) (hB : B ≤ B') (h : BSl w lo B a bs) : BSl w lo' B' a bs := by
  rcases h with h | ⟨b, o, e, h1, h2, h3⟩
  · exact .inl h
  · refine .inr ⟨b, o, e, by omega, by omega, fun i x hx => ?_⟩
    obtain ⟨a', c', c0, c1, c2, c3, hl⟩ := h3 i x hx
    exact ⟨a', c', c0, c1, c2, c3, hl.mono hlo hB⟩
theorem BSl.below {w w' : World} {lo B : Nat} {a : Option Addr} {bs : List Bd} (hb : Below B w w') (h : BSl w lo B a bs) : BSl w' lo B a bs := h.same (Same.of_below hb)

/-- In form: ascending behind last, below 12, of terms of so many signs. -/
def sokFrom (room : Int) : Int → List Bd → Bool
  | _, [] => true
  | last, x :: r => okW x.2.1 x.2.2.1 x.2.2.2 room && (decide (last < x.1) && (decide (x.1 < 12) && sokFrom room x.1 r))
def sok (room : Int) (bs : List Bd) : Bool := sokFrom room (-1) bs
/-- What a variable stands for. -/
def sv : List Bd → Int → Option (Int × Int × Fo)
  | [], _ => none
  | x :: r, v => if x.1 = v then some x.2 else sv r v

theorem sv_snoc {bs : List Bd} {x : Bd} (h : sv bs x.1 = none) (v : Int) : sv (bs ++ [x]) v = if x.1 = v then some x.2 else sv bs v := by
  induction bs with
  | nil => rfl
  | cons y r ih =>
    simp only [sv] at h
    by_cases e : y.1 = x.1
    · rw [if_pos e] at h; cases h
    · rw [if_neg e] at h
      simp only [List.cons_append, sv]
      by_cases e2 : y.1 = v
      · rw [if_pos e2, if_pos e2, if_neg (by rw [← e2]; exact fun e' => e e'.symm)]
      · rw [if_neg e2, if_neg e2]; exact ih h

/-- A value reads as itself. -/
def rdV (v : Value) : Option (DataW Value × List MemPlace) := some (.held v, [])

/-- Block b is a map in which the variables of bs have nodes of their terms. -/
def MapIs (w : World) (b : Nat) (bs : List Bd) : Prop :=
  ∃ n D, w.ownsMap Try.prog 60 rdV b n D ∧ n ≤ 12 + bs.length ∧ ∀ x : Int, (Lit.int .i64 x).wf = true →
    (sv bs x = none → Maps.has D (.int .i64 x) = false) ∧ ∀ s v k, sv bs x = some (s, v, k) → Maps.has D (.int .i64 x) = true ∧ ∃ nv, D.atKey (.int .i64 x) (.held .nilIface) = .held nv ∧ NodeIs w 0 w.heap.size nv s v k
end Go.Proofs.Ytbnbogdglffkmaa
