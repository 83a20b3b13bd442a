/- Several texts in one: Mix2, Mix3, ZB, B3, TP, P6a, P7a, PS2, FrameO, Frame, SHv. -/
import Derived.Test.YtkmfnhoeigoajaaKSub3
import Derived.Test.YtkmfnhoeigoajaaKSub11
import Derived.Test.YtkmfnhoeigoajaaKSub4
import Derived.Test.YtkmfnhoeigoajaaKSub1
import Derived.Test.YtkmfnhoeigoajaaKSub7
import Derived.Test.YtkmfnhoeigoajaaKSub2
import Derived.Test.YtkmfnhoeigoajaaKSub10
import Derived.Test.YtkmfnhoeigoajaaKSub9
import Derived.Test.YtkmfnhoeigoajaaRows
import Derived.WalkKit
import Derived.ProofKit
import Derived.OpenShut
import Derived.ShutString
import Derived.ChangeOld
import Derived.Below
import Derived.Test.YtkmfnhoeigoajaaProg
import Derived.Shelf.Sort.Plain
import Derived.Shelf.Slices.CompactI
import Derived.Shelf.Slices.In.SortNone
import Derived.Ground.NamesProg
import Derived.Ground.Names2Prog

/-! Mix2: Regions that draw their order and end in two stores, either of which may come first. No condition. -/
namespace Go.Proofs.Ytkmfnhoeigoajaa

section
variable {P : Program} {ops : Array Oper} {Q : Exit → Act → World → Prop} {md : Region.Mode} {S : World → Prop} {late : List Nat}

/-- What reads no memory may be taken first, whatever has come up. -/
theorem wpAnyT_look {i : Nat} {oi : Oper} {v : Value} (hi : ops[i]? = some oi) (hsel : ∀ (j : Nat) (o : Oper) cs b, ops[j]? = some o → o.op ≠ .select cs b)
    (hQ : ∀ c a w, Q (.panic c) (a.put oi.dst v) w → Q (.panic c) a w) (hil : i ∉ late) :
    ∀ (fuel : Nat) (listed : Array Bool) (a : Act) (w : World),
      (∀ j oj, ops[j]? = some oj → j ≠ i → listed.getD j true = false → (∀ e ∈ oj.after, Region.binds md e = true → e.on ≠ i) → oi.apart ops oj = true) →
      i ∈ Region.ready md ops listed → YieldsIf P ops (fun _ => True) oi v a → ((∃ j ∈ late, listed.getD j false = true) ∨ S w) →
      wpAnyT P md ops Q S late fuel (listed.setIfInBounds i true) (a.put oi.dst v) w → wpAnyT P md ops Q S late (fuel + 1) listed a w := by
  have cur : ∀ (listed : Array Bool) (w : World), ((∃ j ∈ late, listed.getD j false = true) ∨ S w) → (∃ j ∈ late, (listed.setIfInBounds i true).getD j false = true) ∨ S w := fun listed w h => h.imp (fun ⟨k, hk, hl⟩ => ⟨k, hk, by
    have hne : i ≠ k := fun e => hil (by rw [e]; exact hk)
    rw [getD_set_ne false hne]; exact hl⟩) id
  intro fuel
  induction fuel with
  | zero =>
    intro listed a w _ hr hy hS H
    refine ⟨fun h => (by rw [h] at hr; cases hr), fun j hj => ?_⟩
    by_cases hji : j = i
    · subst hji; exact hy.wpOp hi trivial ⟨cur _ _ hS, H⟩
    · have := ready_mono hj hji
      rw [H.1] at this
      cases this
  | succ fuel ih =>
    intro listed a w hfree hr hy hS H
    refine ⟨fun h => (by rw [h] at hr; cases hr), fun j hj => ?_⟩
    by_cases hji : j = i
    · subst hji; exact hy.wpOp hi trivial ⟨cur _ _ hS, H⟩
    · have h1 := H.2 j (ready_mono hj hji)
      obtain ⟨hjun, oj, hoj, hall⟩ := mem_ready.1 hj
      have hiun := listed_no (mem_ready.1 hr).1
      have hnot : ∀ e ∈ oj.after, Region.binds md e = true → e.on ≠ i := fun e he hb heq => by
        have h1 := hall e he hb
        rw [heq, hiun] at h1
        cases h1
      have h2 := wpOp_putIf hoj (hfree j oj hoj hji hjun hnot) (fun cs b => hsel i oi cs b hi) (fun cs b => hsel j oj cs b hoj) hQ hy h1
      have hfree' : ∀ k ok, ops[k]? = some ok → k ≠ i → (listed.setIfInBounds j true).getD k true = false →
          (∀ e ∈ ok.after, Region.binds md e = true → e.on ≠ i) → oi.apart ops ok = true := fun k ok hk hki hun hno => by
        refine hfree k ok hk hki ?_ hno
        by_cases hjk : j = k
        · subst hjk; exact hjun
        · rw [getD_set_ne true hjk] at hun; exact hun
      refine wpOp_mono (fun a' w' h3 => ?_) h2
      have hS' : (∃ k ∈ late, (listed.setIfInBounds j true).getD k false = true) ∨ S w' := h3.2.1.imp (fun ⟨k, hk, hl⟩ => ⟨k, hk, by
        have hne2 : i ≠ k := fun e => hil (by rw [e]; exact hk)
        rw [Array.setIfInBounds_comm _ _ (Ne.symm hji), getD_set_ne false hne2] at hl
        exact hl⟩) id
      refine ⟨hS', ih (listed.setIfInBounds j true) a' w' hfree' (ready_mono hr (Ne.symm hji)) h3.1 hS' ?_⟩
      rw [Array.setIfInBounds_comm _ _ hji]
      exact h3.2.2

/-- A step of the walk: an operation that only looks (0), one behind which S is shown anew (1), one that reads no memory (2); in the end the two last ones, in either order. -/
def wpMixP (P : Program) (ops : Array Oper) (Q : Exit → Act → World → Prop) (S : World → Prop) (p q : Nat) : List (Nat × Nat) → Act → World → Prop
  | [], a, w => wpOp P ops Q p (fun a w => wpOp P ops Q q (fun a w => Q .normal a w) a w) a w ∧ wpOp P ops Q q (fun a w => wpOp P ops Q p (fun a w => Q .normal a w) a w) a w
  | (i, 0) :: rest, a, w => ∃ o v, ops[i]? = some o ∧ YieldsIf P ops S o v a ∧ wpMixP P ops Q S p q rest (a.put o.dst v) w
  | (i, 1) :: rest, a, w => wpOp P ops Q i (fun a' w' => S w' ∧ wpMixP P ops Q S p q rest a' w') a w
  | (i, _ + 2) :: rest, a, w => ∃ o v, ops[i]? = some o ∧ YieldsIf P ops (fun _ => True) o v a ∧ wpMixP P ops Q S p q rest (a.put o.dst v) w

def mixP (md : Region.Mode) (ops : Array Oper) (p q : Nat) : List (Nat × Nat) → Array Bool → Bool
  | [], listed => (Region.ready md ops listed == [p, q]) && (Region.ready md ops (listed.setIfInBounds p true) == [q]) && (Region.ready md ops (listed.setIfInBounds q true) == [p]) && (Region.ready md ops ((listed.setIfInBounds p true).setIfInBounds q true)).isEmpty &&
      (Region.ready md ops ((listed.setIfInBounds q true).setIfInBounds p true)).isEmpty && decide (p < listed.size) && decide (q < listed.size)
  | (i, 0) :: rest, listed => (Region.ready md ops listed).contains i && Region.free md ops listed i &&
      [p, q].all (fun j => match ops[j]? with | some oj => oj.after.any (fun e => Region.binds md e && e.on == i) | none => false) && [p, q].all (fun j => !(listed.getD j false)) && mixP md ops p q rest (listed.setIfInBounds i true)
  | (i, 1) :: rest, listed => (Region.ready md ops listed == [i]) && mixP md ops p q rest (listed.setIfInBounds i true)
  | (i, _ + 2) :: rest, listed => (Region.ready md ops listed).contains i && Region.free md ops listed i && !([p, q].contains i) && mixP md ops p q rest (listed.setIfInBounds i true)

theorem wpAnyT_mixP {p q : Nat} (hs : Region.noSelect ops = true) (hQ : ∀ c a w, ¬ Q (.panic c) a w) : ∀ (l : List (Nat × Nat)) (listed : Array Bool) (a : Act) (w : World), mixP md ops p q l listed = true → S w →
    wpMixP P ops Q S p q l a w → wpAnyT P md ops Q S [p, q] (l.length + 2) listed a w
  | [], listed, a, w, hB, hS, h => by
    simp only [mixP, Bool.and_eq_true, beq_iff_eq, decide_eq_true_eq, List.isEmpty_iff] at hB
    obtain ⟨⟨⟨⟨⟨⟨h1, h2⟩, h3⟩, h4⟩, h5⟩, h6⟩, h7⟩ := hB
    have lp : ∀ (l' : Array Bool) (r : Nat), r < l'.size → (l'.setIfInBounds r true).getD r false = true := fun l' r hr => by simp [hr]
    refine ⟨fun h0 => (by rw [h1] at h0; cases h0), fun j hj => ?_⟩
    rw [h1] at hj
    simp only [List.mem_cons, List.not_mem_nil, or_false] at hj
    rcases hj with rfl | rfl
    · refine wpOp_mono (fun a' w' h' => ⟨.inl ⟨j, by simp, lp _ _ h6⟩, ⟨fun h0 => (by rw [h2] at h0; cases h0), fun k hk => ?_⟩⟩) h.1
      rw [h2] at hk
      simp only [List.mem_singleton] at hk
      subst hk
      exact wpOp_mono (fun a' w' h' => ⟨.inl ⟨k, by simp, lp _ _ (by simpa using h7)⟩, ⟨h4, h'⟩⟩) h'
    · refine wpOp_mono (fun a' w' h' => ⟨.inl ⟨j, by simp, lp _ _ h7⟩, ⟨fun h0 => (by rw [h3] at h0; cases h0), fun k hk => ?_⟩⟩) h.2
      rw [h3] at hk
      simp only [List.mem_singleton] at hk
      subst hk
      exact wpOp_mono (fun a' w' h' => ⟨.inl ⟨k, by simp, lp _ _ (by simpa using h6)⟩, ⟨h5, h'⟩⟩) h'
  | (i, 0) :: rest, listed, a, w, hB, hS, ⟨o, v, ho, hy, h⟩ => by
    simp only [mixP, Bool.and_eq_true] at hB
    obtain ⟨⟨⟨⟨h2, h3⟩, h4⟩, h5⟩, h6⟩ := hB
    refine wpAnyT_first ho (Region.noSelect_spec hs) (fun c a w h => absurd h (hQ c _ w)) (fun j hj => ?_) (rest.length + 2) listed a w (Region.free_spec ho h3) (by simpa using h2) hy hS (fun j hj => ?_) (wpAnyT_mixP hs hQ rest _ _ w h6 hS h)
    · have := List.all_eq_true.1 h4 j hj
      split at this
      · rename_i oj hoj
        obtain ⟨e, he, hb⟩ := Array.any_eq_true'.1 this
        simp only [Bool.and_eq_true, beq_iff_eq] at hb
        exact ⟨oj, hoj, e, he, hb⟩
      · cases this
    · have := List.all_eq_true.1 h5 j hj
      simpa using this
  | (i, 1) :: rest, listed, a, w, hB, hS, h => by
    simp only [mixP, Bool.and_eq_true, beq_iff_eq] at hB
    refine ⟨fun h0 => (by rw [hB.1] at h0; cases h0), fun j hj => ?_⟩
    rw [hB.1] at hj
    simp only [List.mem_singleton] at hj
    subst hj
    exact wpOp_mono (fun a' w' h' => ⟨.inr h'.1, wpAnyT_mixP hs hQ rest _ a' w' hB.2 h'.1 h'.2⟩) h
  | (i, _ + 2) :: rest, listed, a, w, hB, hS, ⟨o, v, ho, hy, h⟩ => by
    simp only [mixP, Bool.and_eq_true] at hB
    obtain ⟨⟨⟨h2, h3⟩, h4⟩, h6⟩ := hB
    exact wpAnyT_look ho (Region.noSelect_spec hs) (fun c a w h => absurd h (hQ c _ w)) (by simpa using h4) (rest.length + 2) listed a w (Region.free_spec ho h3) (by simpa using h2) hy (.inr hS) (wpAnyT_mixP hs hQ rest _ _ w h6 hS h)

/-- The region, walked in one order but for its two last stores. -/
theorem wp_region_mixP {id : Nat} {a : Act} {w : World} (S : World → Prop) (p q : Nat) (l : List (Nat × Nat)) (hm : P.follows .mixedOrders = true) (hB : (Region.noSelect ops && (l.length + 2 == ops.size) && mixP .any ops p q l (Array.replicate ops.size false)) = true)
    (hS : S w.drew) (h : wpMixP P ops (QN Q) S p q l a w.drew) : (Code.region id ops true).wp P Q a w := by
  simp only [Bool.and_eq_true, beq_iff_eq] at hB
  obtain ⟨⟨h1, h2⟩, h3⟩ := hB
  refine Code.wp_mono (Q := QN Q) (fun e a w h => by cases e <;> first | exact h | exact h.elim) ?_
  refine wp_region_any hm (wpAny_of_T (S := S) (late := [p, q]) _ _ _ _ ?_)
  rw [← h2]
  exact wpAnyT_mixP h1 (fun c a w h => h) l _ a _ (by rw [h2]; exact h3) hS h

theorem mixp_see {p q i : Nat} {rest : List (Nat × Nat)} {a : Act} {w : World} {o : Oper} (ho : ops[i]? = some o)
    (h : ∀ K : Act → Prop, (∀ a', wpMixP P ops Q S p q rest a' w → K a') → if Region.wanted o (yielded ops a.tmps) = true then ∃ v, (∀ w, S w → (execOp a.eval o).run P w = .ok (.value v) w) ∧ K (a.put o.dst v) else K (a.put o.dst undef)) : wpMixP P ops Q S p q ((i, 0) :: rest) a w := by
  have := h (fun a' => wpMixP P ops Q S p q rest a' w) (fun _ h => h)
  split at this
  · rename_i hw
    obtain ⟨v, h1, h2⟩ := this
    exact ⟨o, v, ho, .inl ⟨hw, h1⟩, h2⟩
  · rename_i hw
    exact ⟨o, undef, ho, .inr ⟨by simpa using hw, rfl⟩, this⟩
theorem mixp_any {p q i : Nat} {rest : List (Nat × Nat)} {a : Act} {w : World} {o : Oper} (ho : ops[i]? = some o)
    (h : ∀ K : Act → Prop, (∀ a', wpMixP P ops Q S p q rest a' w → K a') → if Region.wanted o (yielded ops a.tmps) = true then ∃ v, (∀ w, True → (execOp a.eval o).run P w = .ok (.value v) w) ∧ K (a.put o.dst v) else K (a.put o.dst undef)) : wpMixP P ops Q S p q ((i, 2) :: rest) a w := by
  have := h (fun a' => wpMixP P ops Q S p q rest a' w) (fun _ h => h)
  split at this
  · rename_i hw
    obtain ⟨v, h1, h2⟩ := this
    exact ⟨o, v, ho, .inl ⟨hw, h1⟩, h2⟩
  · rename_i hw
    exact ⟨o, undef, ho, .inr ⟨by simpa using hw, rfl⟩, this⟩
theorem mixp_hold {p q i : Nat} {rest : List (Nat × Nat)} {a : Act} {w : World} {o : Oper} (ho : ops[i]? = some o)
    (h : ∀ K : Act → World → Prop, (∀ a' w', S w' → wpMixP P ops Q S p q rest a' w' → K a' w') → if Region.wanted o (yielded ops a.tmps) = true then o.wp P a w K Q else K (a.put o.dst undef) w) : wpMixP P ops Q S p q ((i, 1) :: rest) a w := by
  have := h (fun a' w' => S w' ∧ wpMixP P ops Q S p q rest a' w') (fun _ _ h1 h2 => ⟨h1, h2⟩)
  show wpOp P ops Q i _ a w
  unfold wpOp
  simp only [ho]
  split at this
  · rename_i hw; rw [if_pos hw]; exact .inl this
  · rename_i hw; rw [if_neg hw]; exact this
/-- One of the two last ones. -/
theorem mixp_op {i : Nat} {a : Act} {w : World} {o : Oper} {R : Act → World → Prop} (ho : ops[i]? = some o)
    (h : ∀ K : Act → World → Prop, (∀ a' w', R a' w' → K a' w') → if Region.wanted o (yielded ops a.tmps) = true then o.wp P a w K Q else K (a.put o.dst undef) w) : wpOp P ops Q i R a w := by
  have := h R (fun _ _ h => h)
  unfold wpOp
  simp only [ho]
  split at this
  · rename_i hw; rw [if_pos hw]; exact .inl this
  · rename_i hw; rw [if_neg hw]; exact this
theorem mixp_end {p q : Nat} {a : Act} {w : World} (h1 : wpOp P ops (QN Q) p (fun a w => wpOp P ops (QN Q) q (fun a w => Q .normal a w) a w) a w) (h2 : wpOp P ops (QN Q) q (fun a w => wpOp P ops (QN Q) p (fun a w => Q .normal a w) a w) a w) : wpMixP P ops (QN Q) S p q [] a w := ⟨h1, h2⟩
end
end Go.Proofs.Ytkmfnhoeigoajaa

/-! Mix3: Regions that draw their order, walked order by order; what only looks is taken first. No condition. -/
namespace Go.Proofs.Ytkmfnhoeigoajaa

section
variable {P : Program} {ops : Array Oper} {Q : Exit → Act → World → Prop} {S : World → Prop}

theorem wp_region_anyT {id : Nat} {a : Act} {w : World} (S : World → Prop) (hm : P.follows .mixedOrders = true) (h : wpAnyT P .any ops (QN Q) S [] ops.size (Array.replicate ops.size false) a w.drew) : (Code.region id ops true).wp P Q a w := by
  refine Code.wp_mono (Q := QN Q) (fun e a w h => by cases e <;> first | exact h | exact h.elim) ?_
  exact wp_region_any hm (wpAny_of_T (S := S) (late := []) _ _ _ _ h)

theorem anyT_look {fuel : Nat} {listed : Array Bool} {i : Nat} {a : Act} {w : World} {o : Oper} (ho : ops[i]? = some o) (hB : (Region.noSelect ops && (Region.ready .any ops listed).contains i && Region.free .any ops listed i) = true) (hS : S w)
    (h : ∀ K : Act → Prop, (∀ a', wpAnyT P .any ops (QN Q) S [] fuel (listed.setIfInBounds i true) a' w → K a') → if Region.wanted o (yielded ops a.tmps) = true then ∃ v, (∀ w, S w → (execOp a.eval o).run P w = .ok (.value v) w) ∧ K (a.put o.dst v) else K (a.put o.dst undef)) :
    wpAnyT P .any ops (QN Q) S [] (fuel + 1) listed a w := by
  simp only [Bool.and_eq_true] at hB
  obtain ⟨⟨h1, h2⟩, h3⟩ := hB
  have := h (fun a' => wpAnyT P .any ops (QN Q) S [] fuel (listed.setIfInBounds i true) a' w) (fun _ h => h)
  split at this
  · rename_i hw
    obtain ⟨v, h4, h5⟩ := this
    exact wpAnyT_first ho (Region.noSelect_spec h1) (fun c a w h => h.elim) (fun j hj => by cases hj) fuel listed a w (Region.free_spec ho h3) (by simpa using h2) (.inl ⟨hw, h4⟩) hS (fun j hj => by cases hj) h5
  · rename_i hw
    exact wpAnyT_first (v := undef) ho (Region.noSelect_spec h1) (fun c a w h => h.elim) (fun j hj => by cases hj) fuel listed a w (Region.free_spec ho h3) (by simpa using h2) (.inr ⟨by simpa using hw, rfl⟩) hS (fun j hj => by cases hj) this

theorem anyT_op {fuel : Nat} {listed : Array Bool} {i : Nat} {a : Act} {w : World} {o : Oper} (ho : ops[i]? = some o)
    (h : ∀ K : Act → World → Prop, (∀ a' w', S w' → wpAnyT P .any ops Q S [] fuel (listed.setIfInBounds i true) a' w' → K a' w') → if Region.wanted o (yielded ops a.tmps) = true then o.wp P a w K Q else K (a.put o.dst undef) w) :
    wpOp P ops Q i (fun a' w' => ((∃ j ∈ ([] : List Nat), (listed.setIfInBounds i true).getD j false = true) ∨ S w') ∧ wpAnyT P .any ops Q S [] fuel (listed.setIfInBounds i true) a' w') a w := by
  have := h (fun a' w' => ((∃ j ∈ ([] : List Nat), (listed.setIfInBounds i true).getD j false = true) ∨ S w') ∧ wpAnyT P .any ops Q S [] fuel (listed.setIfInBounds i true) a' w') (fun _ _ h1 h2 => ⟨.inr h1, h2⟩)
  unfold wpOp
  simp only [ho]
  split at this
  · rename_i hw; rw [if_pos hw]; exact .inl this
  · rename_i hw; rw [if_neg hw]; exact this

/-- One operation may come up. -/
theorem anyT_one {fuel : Nat} {listed : Array Bool} {i : Nat} {a : Act} {w : World} {o : Oper} (hB : Region.ready .any ops listed = [i]) (ho : ops[i]? = some o)
    (h : ∀ K : Act → World → Prop, (∀ a' w', S w' → wpAnyT P .any ops (QN Q) S [] fuel (listed.setIfInBounds i true) a' w' → K a' w') → if Region.wanted o (yielded ops a.tmps) = true then o.wp P a w K (QN Q) else K (a.put o.dst undef) w) :
    wpAnyT P .any ops (QN Q) S [] (fuel + 1) listed a w := by
  refine ⟨fun h0 => (by rw [hB] at h0; cases h0), fun k hk => ?_⟩
  rw [hB] at hk
  simp only [List.mem_singleton] at hk
  subst hk
  exact anyT_op ho h
/-- One of two may come up. -/
theorem anyT_two {fuel : Nat} {listed : Array Bool} {i j : Nat} {a : Act} {w : World} {o o' : Oper} (hB : Region.ready .any ops listed = [i, j]) (ho : ops[i]? = some o) (ho' : ops[j]? = some o')
    (h : ∀ K : Act → World → Prop, (∀ a' w', S w' → wpAnyT P .any ops (QN Q) S [] fuel (listed.setIfInBounds i true) a' w' → K a' w') → if Region.wanted o (yielded ops a.tmps) = true then o.wp P a w K (QN Q) else K (a.put o.dst undef) w)
    (h' : ∀ K : Act → World → Prop, (∀ a' w', S w' → wpAnyT P .any ops (QN Q) S [] fuel (listed.setIfInBounds j true) a' w' → K a' w') → if Region.wanted o' (yielded ops a.tmps) = true then o'.wp P a w K (QN Q) else K (a.put o'.dst undef) w) :
    wpAnyT P .any ops (QN Q) S [] (fuel + 1) listed a w := by
  refine ⟨fun h0 => (by rw [hB] at h0; cases h0), fun k hk => ?_⟩
  rw [hB] at hk
  simp only [List.mem_cons, List.not_mem_nil, or_false] at hk
  rcases hk with rfl | rfl
  · exact anyT_op ho h
  · exact anyT_op ho' h'
theorem anyT_done {listed : Array Bool} {a : Act} {w : World} (hB : Region.ready .any ops listed = []) (h : Q .normal a w) : wpAnyT P .any ops (QN Q) S [] 0 listed a w := ⟨hB, h⟩
end

/-- Cells that a store elsewhere leaves. -/
theorem seen_set {l : List (Addr × Value)} {w : World} (h : ∀ p, p ∈ l → w.cell? p.1 = some p.2) {n : Nat} (hn : ∀ p, p ∈ l → p.1.block ≠ n) (i : Nat) (x : Value) : ∀ p, p ∈ l → (w.setCell ⟨n, i, none⟩ x).cell? p.1 = some p.2 := fun p hp => by
  rw [World.cell?_setCell_other _ _ _ _ (by intro e; exact hn p hp (congrArg Addr.block e).symm)]
  exact h p hp
end Go.Proofs.Ytkmfnhoeigoajaa

/-! ZB: A fresh box of a term, and what is stored into it. Plain lemmas. -/
namespace Go.Proofs.Ytkmfnhoeigoajaa
open Go.RowKit Go.Deep

/-- A fresh box. -/
structure Zb (b : Nat) (wn : World) : Prop where
  lt : b < wn.heap.size
  z0 : wn.cell? ⟨b, 0, none⟩ = some (.int .i64 0)
  z1 : wn.cell? ⟨b, 1, none⟩ = some (.int .i64 0)
  z2 : wn.cell? ⟨b, 2, none⟩ = some (.slice none 0 0)
  f : ∀ o, wn.frozen? ⟨b, o, none⟩ = false
theorem zb_new (X : World) : Zb X.heap.size (X.alloc (.cells #[.int .i64 0, .int .i64 0, .slice none 0 0] 26)) := by
  refine ⟨by simp, ?_, ?_, ?_, fun o => ?_⟩
  iterate 3
    rw [World.cell?_alloc_at _ _ _ _ rfl]; rfl
  rw [World.frozen?_alloc_at _ _ _ _ rfl]
theorem Zb.low {b : Nat} {wn wm : World} (h : Zb b wn) (hb : Below wn.heap.size wn wm) : Zb b wm :=
  ⟨Nat.lt_of_lt_of_le h.lt hb.size, cell_low hb h.z0, cell_low hb h.z1, cell_low hb h.z2, fun o => (hb.frozen h.lt).trans (h.f o)⟩
theorem box_set {b : Nat} {wn : World} (h : Zb b wn) (x y z : Value) : (((wn.setCell ⟨b, 0, none⟩ x).setCell ⟨b, 1, none⟩ y).setCell ⟨b, 2, none⟩ z).cell? ⟨b, 0, none⟩ = some x ∧ (((wn.setCell ⟨b, 0, none⟩ x).setCell ⟨b, 1, none⟩ y).setCell ⟨b, 2, none⟩ z).cell? ⟨b, 1, none⟩ = some y ∧ (((wn.setCell ⟨b, 0, none⟩ x).setCell ⟨b, 1, none⟩ y).setCell ⟨b, 2, none⟩ z).cell? ⟨b, 2, none⟩ = some z := by
  have d01 : (⟨b, 0, none⟩ : Addr) ≠ ⟨b, 1, none⟩ := by intro e; have := congrArg Addr.off e; simp at this
  have d02 : (⟨b, 0, none⟩ : Addr) ≠ ⟨b, 2, none⟩ := by intro e; have := congrArg Addr.off e; simp at this
  have d12 : (⟨b, 1, none⟩ : Addr) ≠ ⟨b, 2, none⟩ := by intro e; have := congrArg Addr.off e; simp at this
  refine ⟨?_, ?_, ?_⟩
  · rw [World.cell?_setCell_other _ _ _ _ d02.symm, World.cell?_setCell_other _ _ _ _ d01.symm]
    exact World.cell?_setCell_same _ _ _ h.z0
  · rw [World.cell?_setCell_other _ _ _ _ d12.symm]
    refine World.cell?_setCell_same _ _ _ (?_ : _ = some (.int .i64 0))
    rw [World.cell?_setCell_other _ _ _ _ d01]
    exact h.z1
  · refine World.cell?_setCell_same _ _ _ (?_ : _ = some (.slice none 0 0))
    rw [World.cell?_setCell_other _ _ _ _ d12, World.cell?_setCell_other _ _ _ _ d02]
    exact h.z2
theorem Sl.set3 {wn : World} {lo hi b : Nat} {a : Option Addr} {k : Fo} (h : Sl wn lo hi a k) (hb : b < lo ∨ hi ≤ b) (x y z : Value) : Sl (((wn.setCell ⟨b, 0, none⟩ x).setCell ⟨b, 1, none⟩ y).setCell ⟨b, 2, none⟩ z) lo hi a k := by
  have h0 : Same lo hi wn wn := fun _ _ _ => rfl
  exact h.same (((h0.setCell hb _).setCell hb _).setCell hb _)
/-- What is stored into a fresh box stands there; the rest is as it was. -/
theorem zb_fin {wr wz : World} {b lo hi : Nat} {s v : Int} {a : Option Addr} {c : Nat} {k : Fo} (hz : Zb b wz) (hb : Below wr.heap.size wr wz) (hlo : wr.heap.size ≤ b) (hl : Sl wz lo hi a k) (hh : hi ≤ wz.heap.size) (hd : b < lo ∨ hi ≤ b) :
    Below wr.heap.size wr (((wz.setCell ⟨b, 0, none⟩ (.int .i64 s)).setCell ⟨b, 1, none⟩ (.int .i64 v)).setCell ⟨b, 2, none⟩ (.slice a (flen k) c)) ∧ Tb b s v a c k (((wz.setCell ⟨b, 0, none⟩ (.int .i64 s)).setCell ⟨b, 1, none⟩ (.int .i64 v)).setCell ⟨b, 2, none⟩ (.slice a (flen k) c)) := by
  obtain ⟨h0, h1, h2⟩ := box_set hz (.int .i64 s) (.int .i64 v) (.slice a (flen k) c)
  exact ⟨((hb.setCell hlo _).setCell hlo _).setCell hlo _, h0, h1, h2, (hl.set3 hd _ _ _).mono (Nat.zero_le _) (by simpa using hh)⟩
end Go.Proofs.Ytkmfnhoeigoajaa

/-! B3: laTerm: what is the same comes out the same. -/
namespace Go.Proofs.Ytkmfnhoeigoajaa
open Go.RowKit Go.Deep

theorem two_boxes {w wr : World} {x y z x' y' z' : Value} (h : Below (w.heap.size + 2) ((w.alloc (.cells #[x, y, z] 26)).alloc (.cells #[x', y', z'] 26)) wr) :
    wr.cell? ⟨w.heap.size, 2, none⟩ = some z ∧ wr.cell? ⟨w.heap.size + 1, 2, none⟩ = some z' := by
  refine ⟨?_, ?_⟩
  · rw [h.cell (by simp), World.cell?_alloc_lt _ _ _ (by simp), World.cell?_alloc_at _ _ _ _ (by simp)]; rfl
  · rw [h.cell (by simp), World.cell?_alloc_at _ _ _ _ (by simp)]; rfl

set_option maxRecDepth 100000 in
set_option maxHeartbeats 1000000 in
theorem laTerm_same (N : Nat) : ∀ (s v : Int) (a a' : Option Addr) (c c' : Nat) (k : Fo) (w : World), Sl w 0 w.heap.size a k → Sl w 0 w.heap.size a' k → fsz k ≤ N → N ≤ 1000000 →
    Calls Try.prog 12 #[.agg #[.int .i64 s, .int .i64 v, .slice a (flen k) c], .agg #[.int .i64 s, .int .i64 v, .slice a' (flen k) c']] w fun e w' => e = .returned (.bool true) ∧ Below w.heap.size w w' := by
  induction N using Nat.strongRecOn with
  | _ N ih =>
    intro s v a a' c c' k w hl hl' hN hN2
    have hfl := flen_le_sz k
    have IH := Lib.hid ih
    clear ih
    have e0 : (s != s) = false := by simp
    have e1 : (v != v) = false := by simp
    have e2 : ((flen k : Int) != (flen k : Int)) = false := by simp
    have hb0 : Below w.heap.size w ((w.alloc (.cells #[.int .i64 s, .int .i64 v, .slice a (flen k) c] 26)).alloc (.cells #[.int .i64 s, .int .i64 v, .slice a' (flen k) c'] 26)) := ((Below.refl _ _).alloc (Nat.le_refl _) _).alloc (by simp) _
    have HB0 := Lib.hid hb0
    clear hb0
    go_enter Try.func12, Try.ntmps12
    go_wp2_with fail
    go_loopw [5] (fun i wr => ∃ j : Nat, j ≤ flen k ∧ i = .int .i64 j ∧ Below (w.heap.size + 2) ((w.alloc (.cells #[.int .i64 s, .int .i64 v, .slice a (flen k) c] 26)).alloc (.cells #[.int .i64 s, .int .i64 v, .slice a' (flen k) c'] 26)) wr) (fun i _ => flen k - (intOf i).toNat)
    case atStart => exact ⟨0, by omega, rfl, Below.refl _ _⟩
    case round =>
      obtain ⟨j, hj, rfl, hbl⟩ := hrel
      have hsr := hbl.size
      simp at hsr
      obtain ⟨hx2, hy2⟩ := two_boxes hbl
      have hbw := HB0.out.trans (hbl.mono (show w.heap.size ≤ w.heap.size + 2 by omega))
      by_cases hlt : j < flen k
      · rcases hl with rfl | ⟨b, o, rfl, hrow⟩
        · simp [flen] at hlt
        rcases hl' with rfl | ⟨b', o', rfl, hrow'⟩
        · simp [flen] at hlt
        obtain ⟨s1, v1, kk, a1, c1, ⟨x, y, hd⟩, _, hbB, hk0, hk1, hk2, hsl⟩ := row_at (hrow.below hbw) hlt
        obtain ⟨s2, v2, kk2, a2, c2, ⟨x2, y2, hd2⟩, _, hbB', hk3, hk4, hk5, hsl2⟩ := row_at (hrow'.below hbw) hlt
        have hdd := hd.symm.trans hd2
        simp only [BT.node.injEq, Prod.mk.injEq] at hdd
        obtain ⟨_, _, ⟨rfl, rfl⟩, rfl, _⟩ := hdd
        have hkN := fsz_kid hd
        have HS := Lib.hid hsl
        have HS2 := Lib.hid hsl2
        have HBL := Lib.hid hbl
        clear hd hd2 hsl hsl2 hrow hrow' hbl hbw
        have g1 : (0 : Int) ≤ (j : Int) := by omega
        have g2 : (j : Int) < (flen k : Int) := by omega
        have hu0 : ∀ u : After wr.heap.size wr, u.world.cell? ⟨b, o + j * 3, none⟩ = some (.int .i64 s1) := fun u => u.cell (by simp; omega) hk0
        have hu1 : ∀ u : After wr.heap.size wr, u.world.cell? ⟨b, o + j * 3 + 1, none⟩ = some (.int .i64 v1) := fun u => u.cell (by simp; omega) hk1
        have hu2 : ∀ u : After wr.heap.size wr, u.world.cell? ⟨b, o + j * 3 + 2, none⟩ = some (.slice a1 (flen kk) c1) := fun u => u.cell (by simp; omega) hk2
        have hu3 : ∀ u : After wr.heap.size wr, u.world.cell? ⟨b', o' + j * 3, none⟩ = some (.int .i64 s1) := fun u => u.cell (by simp; omega) hk3
        have hu4 : ∀ u : After wr.heap.size wr, u.world.cell? ⟨b', o' + j * 3 + 1, none⟩ = some (.int .i64 v1) := fun u => u.cell (by simp; omega) hk4
        have hu5 : ∀ u : After wr.heap.size wr, u.world.cell? ⟨b', o' + j * 3 + 2, none⟩ = some (.slice a2 (flen kk) c2) := fun u => u.cell (by simp; omega) hk5
        have hu6 : ∀ u : After wr.heap.size wr, u.world.cell? ⟨w.heap.size, 2, none⟩ = some (.slice (some ⟨b, o, none⟩) (flen k) c) := fun u => u.cell (by simp; omega) hx2
        have hu7 : ∀ u : After wr.heap.size wr, u.world.cell? ⟨w.heap.size + 1, 2, none⟩ = some (.slice (some ⟨b', o', none⟩) (flen k) c') := fun u => u.cell (by simp; omega) hy2
        have HCALL : Hid (∀ u : After wr.heap.size wr, Calls Try.prog 12 #[.agg #[.int .i64 s1, .int .i64 v1, .slice a1 (flen kk) c1], .agg #[.int .i64 s1, .int .i64 v1, .slice a2 (flen kk) c2]] u.world fun e w' => e = .returned (.bool true) ∧ Below u.world.heap.size u.world w') := fun u => by
          have hu := u.below
          have hus := hu.size
          refine IH.out (fsz kk) (by omega) s1 v1 a1 a2 c1 c2 kk u.world ?_ ?_ (Nat.le_refl _) (by omega)
          · exact (HS.out.below (hu.mono (by omega))).mono (Nat.le_refl _) (by omega)
          · exact (HS2.out.below (hu.mono (by omega))).mono (Nat.le_refl _) (by omega)
        go_wp2_with fail
        refine wp_region_after wr.heap.size (by kernel_rfl) (by kernel_rfl) ?_
        repeat (go_big_quiet_step ((go_at_call 12; exact Calls.after (After.below ‹_›).size (HCALL.out _))))
        refine wpQuiet_nil ?_
        rintro u ⟨⟨_, hu⟩, rfl⟩
        clear hu0 hu1 hu2 hu3 hu4 hu5 hu6 hu7 hk0 hk1 hk2 hk3 hk4 hk5 hx2 hy2
        have HB2 := Lib.hid (HBL.out.trans (hu.mono hsr))
        clear hu
        go_wp2_with fail
        go_roundw
        case rel => exact ⟨j + 1, by omega, by go_num, HB2.out⟩
        case measure => simp [intOf]; omega
      · have HBW := Lib.hid hbw
        clear hbw hbl
        go_wp2_with fail
        go_ret
        exact ⟨rfl, HBW.out⟩
end Go.Proofs.Ytkmfnhoeigoajaa

/-! TP: What TermPlaces answers. -/
namespace Go.Proofs.Ytkmfnhoeigoajaa
open Go.RowKit Go.Deep

theorem isl_nil {w : World} {lo B : Nat} {a : Option Addr} : ISl w lo B a [] := Or.inl rfl

def TpPost (s v : Int) (k : Fo) (w : World) (e : Ending) (w' : World) : Prop :=
  ∃ A C rows, e = .returned (.slice A rows.length C) ∧ rows = (if okW s v k 16 = true then places k else []) ∧ Below w.heap.size w w' ∧ RSl w' w.heap.size w'.heap.size A rows
end Go.Proofs.Ytkmfnhoeigoajaa

/-! P6a: impl.TermPlaces and spec.TermPlaces: of a term the places, of any other value none. -/
namespace Go.Proofs.Ytkmfnhoeigoajaa
open Go.RowKit Go.Deep

set_option maxRecDepth 100000 in
set_option maxHeartbeats 1000000 in
theorem iTermPlaces_any (s v : Int) (a : Option Addr) (c : Nat) (k : Fo) (w : World) (hl : Sl w 0 w.heap.size a k) :
    Calls Try.prog 13 #[.agg #[.int .i64 s, .int .i64 v, .slice a (flen k) c]] w (TpPost s v k w) := by
  cases hok : okW s v k 16 with
  | false =>
    have HOK := Lib.hid hok
    clear hok
    go_enter Try.func13, Try.ntmps13
    go_wp2_with fail
    with_reducible refine (nodeOf_any s v a c k 16 _ ?_ (by omega) (by omega)).mono ?_
    · exact (hl.below ((Below.refl _ _).alloc (Nat.le_refl _) _)).mono (Nat.le_refl _) (by simp)
    rintro e w2 ⟨nv, he, hb, hyes⟩
    rw [HOK.out] at he
    subst he
    clear hyes
    go_wp2_with fail
    go_ret
    exact ⟨none, 0, [], rfl, by rw [HOK.out]; rfl, ((Below.refl _ _).alloc (Nat.le_refl _) _).trans (hb.mono (by simp)), .inl rfl⟩
  | true =>
    have HOK := Lib.hid hok
    have hsz := ((okW_iff _ _ _ _).1 hok).2.2
    clear hok
    go_enter Try.func13, Try.ntmps13
    go_wp2_with fail
    with_reducible refine (nodeOf_any s v a c k 16 _ ?_ (by omega) (by omega)).mono ?_
    · exact (hl.below ((Below.refl _ _).alloc (Nat.le_refl _) _)).mono (Nat.le_refl _) (by simp)
    rintro e w2 ⟨nv, he, hb, hyes⟩
    rw [HOK.out] at he
    subst he
    have HN := Lib.hid (hyes HOK.out)
    have HB := Lib.hid (((Below.refl _ _).alloc (Nat.le_refl _) _).trans (hb.mono (by simp)))
    have hs2 := HB.out.size
    clear hyes hb
    obtain ⟨ty, vv, rfl⟩ : ∃ ty vv, nv = .iface ty vv := by
      rcases HN.out with ⟨_, _, rfl⟩ | ⟨_, _, _, rfl, _⟩
      · exact ⟨_, _, rfl⟩
      · exact ⟨_, _, rfl⟩
    go_wp2_with fail
    with_reducible refine (placesOf_any (fsz k) s v k _ _ ?_ (Nat.le_refl _) (by omega)).mono ?_
    · exact HN.out.mono (Nat.zero_le _) (Nat.le_refl _)
    rintro e w3 ⟨A, C, rfl, hb3, hr3⟩
    have HP : Hid (TpPost s v k w (.returned (.slice A (places k).length C)) w3) :=
      ⟨A, C, places k, rfl, by rw [HOK.out]; rfl, HB.out.trans (hb3.mono hs2), hr3.mono hs2 (Nat.le_refl _)⟩
    clear hb3 hr3
    go_wp2_with fail
    go_ret
    exact HP.out

end Go.Proofs.Ytkmfnhoeigoajaa

/-! P7a: Each place is there, none twice: plain. -/
namespace Go.Proofs.Ytkmfnhoeigoajaa
open Go.RowKit Go.Deep

mutual
theorem fpl_at : ∀ (r : Fo) (s v : Int) (k : Fo) (i : Nat) (p : List Int), fdrop i k = r → p ∈ fpl r i → ∃ x, fat s v k p = some x
  | .nil, _, _, _, _, _, _, hp => by simp [fpl] at hp
  | .node x y (s', v') kk r, s, v, k, i, p, hd, hp => by
    simp only [fpl, List.mem_append, List.mem_map] at hp
    rcases hp with ⟨q, hq, rfl⟩ | hp
    · have hi : i < flen k := by
        by_cases h : i < flen k
        · exact h
        · rw [fdrop_all (by omega)] at hd; cases hd
      obtain ⟨z, hz⟩ := places_at kk s' v' q hq
      refine ⟨z, ?_⟩
      simp only [fat]
      rw [if_pos (by omega)]
      simp only [Int.toNat_natCast, hd]
      exact hz
    · have hd' : fdrop (i + 1) k = r := by
        have hi : i < flen k := by
          by_cases h : i < flen k
          · exact h
          · rw [fdrop_all (by omega)] at hd; cases hd
        obtain ⟨x', y', s2, v2, kk2, e⟩ := fdrop_succ i k hi
        rw [hd] at e
        simp only [BT.node.injEq] at e
        exact e.2.2.2.2.symm
      exact fpl_at r s v k (i + 1) p hd' hp
  termination_by r => (SizeOf.sizeOf r, 0)
theorem places_at : ∀ (k : Fo) (s v : Int) (p : List Int), p ∈ [] :: fpl k 0 → ∃ x, fat s v k p = some x
  | k, s, v, p, hp => by
    rcases List.mem_cons.1 hp with rfl | hp
    · exact ⟨_, rfl⟩
    · exact fpl_at k s v k 0 p rfl hp
  termination_by k => (SizeOf.sizeOf k, 1)
end

theorem fpl_head : ∀ (k : Fo) (i : Nat) (p : List Int), p ∈ fpl k i → ∃ (j : Nat) (q : List Int), p = (j : Int) :: q ∧ i ≤ j
  | .nil, _, _, hp => by simp [fpl] at hp
  | .node _ _ _ kk r, i, p, hp => by
    simp only [fpl, List.mem_append, List.mem_map] at hp
    rcases hp with ⟨q, _, rfl⟩ | hp
    · exact ⟨i, q, rfl, Nat.le_refl _⟩
    · obtain ⟨j, q, e, h⟩ := fpl_head r (i + 1) p hp
      exact ⟨j, q, e, by omega⟩
theorem nil_fpl {k : Fo} {i : Nat} {b : List Int} (hb : b ∈ fpl k i) : [] ≠ b := by
  obtain ⟨j, q, e, _⟩ := fpl_head k i b hb
  intro e'
  rw [e] at e'
  cases e'
theorem fpl_apart : ∀ (k : Fo) (i : Nat), (fpl k i).Pairwise (· ≠ ·)
  | .nil, _ => List.Pairwise.nil
  | .node _ _ _ kk r, i => by
    simp only [fpl]
    rw [List.pairwise_append]
    refine ⟨?_, fpl_apart r (i + 1), fun a ha b hb => ?_⟩
    · rw [List.pairwise_map]
      have h : ([] :: fpl kk 0).Pairwise (· ≠ ·) := List.pairwise_cons.2 ⟨fun _ hb => nil_fpl hb, fpl_apart kk 0⟩
      exact h.imp fun hne e => hne (List.cons.inj e).2
    · obtain ⟨q, _, rfl⟩ := List.mem_map.1 ha
      obtain ⟨j, q', rfl, hj⟩ := fpl_head r (i + 1) b hb
      intro e
      have := (List.cons.inj e).1
      omega
theorem places_apart (k : Fo) : (places k).Pairwise (· ≠ ·) :=
  List.pairwise_cons.2 ⟨fun _ hb => nil_fpl hb, fpl_apart k 0⟩
theorem places_unlike {k : Fo} {i j : Nat} {p q : List Int} (hi : (places k)[i]? = some p) (hj : (places k)[j]? = some q) (hij : i < j) : p ≠ q := by
  obtain ⟨h1, rfl⟩ := List.getElem?_eq_some_iff.1 hi
  obtain ⟨h2, rfl⟩ := List.getElem?_eq_some_iff.1 hj
  exact List.pairwise_iff_getElem.1 (places_apart k) i j h1 h2 hij
end Go.Proofs.Ytkmfnhoeigoajaa

/-! PS2: What stands at the places of a term with something put in; sums over places. Plain lemmas. -/
namespace Go.Proofs.Ytkmfnhoeigoajaa
open Go.RowKit Go.Deep

theorem atR_of {s v : Int} {k : Fo} {p : List Int} {s' v' : Int} {k' : Fo} (h : okW s v k 16 = true) (hf : fat s v k p = some (s', v', k')) : atR s v k p = (s', v', k', true) ∧ okW s' v' k' 16 = true := by
  have h1 := (okW_iff _ _ _ _).1 h
  have h2 := fat_ok p s v k h1.1 h1.2.1 hf
  refine ⟨by unfold atR; rw [h, hf]; rfl, (okW_iff _ _ _ _).2 ⟨h2.1, h2.2.1, by omega⟩⟩
theorem sub_parts {bs : List Bd} {s v : Int} {k : Fo} {sx vx : Int} {kx : Fo} {pl : List Int} (hd : sdR bs s v k = (sx, vx, kx, true)) (hp : pl ∈ places k) :
    ∃ s1 v1 k1 s3 v3 k3, atR s v k pl = (s1, v1, k1, true) ∧ sdR bs s1 v1 k1 = (s3, v3, k3, true) ∧ atR sx vx kx pl = (s3, v3, k3, true) := by
  rcases sdR_cases hd with ⟨h, _⟩ | ⟨_, hsok, hok, ht, hokx⟩
  · cases h
  obtain ⟨⟨s1, v1, k1⟩, hf⟩ := places_at k s v pl hp
  have h1 := (okW_iff _ _ _ _).1 hok
  have hF := fat_sub (sv bs) pl s v k h1.1 h1.2.1 hf
  rw [ht] at hF
  dsimp only at hF
  generalize htt : tsub (sv bs) s1 v1 k1 = tt at hF
  obtain ⟨s3, v3, k3⟩ := tt
  have hx := atR_of hokx hF
  refine ⟨s1, v1, k1, s3, v3, k3, (atR_of hok hf).1, sdR_of hsok (atR_of hok hf).2 htt ?_, hx.1⟩
  have := ((okW_iff _ _ _ _).1 hx.2).2.2
  omega
theorem atR_fat {s v : Int} {k : Fo} {p : List Int} {s' v' : Int} {k' : Fo} (h : atR s v k p = (s', v', k', true)) : okW s v k 16 = true ∧ fat s v k p = some (s', v', k') := by
  unfold atR at h
  cases ho : okW s v k 16 with
  | false => rw [ho] at h; simp at h
  | true =>
    rw [ho] at h
    cases hf : fat s v k p with
    | none => rw [hf] at h; simp at h
    | some y => rw [hf] at h; simp at h; obtain ⟨h1, h2, h3⟩ := h; exact ⟨rfl, by obtain ⟨a, b, c⟩ := y; simp_all⟩
def psum (σ : Int → Option (Int × Int × Fo)) (s v : Int) (k : Fo) (j : Nat) : Nat := (((places k).take j).map fun p => pcnt σ (fat s v k p)).sum
theorem psum_zero (σ : Int → Option (Int × Int × Fo)) (s v : Int) (k : Fo) : psum σ s v k 0 = 0 := by simp [psum]
theorem psum_step {σ : Int → Option (Int × Int × Fo)} {s v : Int} {k : Fo} {j : Nat} {pl : List Int} {s1 v1 : Int} {k1 : Fo} (hp : (places k)[j]? = some pl) (hf : fat s v k pl = some (s1, v1, k1)) : psum σ s v k (j + 1) = psum σ s v k j + pcnt σ (some (s1, v1, k1)) := by
  unfold psum
  rw [List.take_add_one, hp]
  simp [hf]
theorem psum_all {bs : List Bd} {s v : Int} {k : Fo} {sx vx : Int} {kx : Fo} {j : Nat} (hd : sdR bs s v k = (sx, vx, kx, true)) (hj : (places k).length ≤ j) : psum (sv bs) s v k j = 1 + fsz kx := by
  rcases sdR_cases hd with ⟨h, _⟩ | ⟨_, hsok, hok, ht, hokx⟩
  · cases h
  have h1 := (okW_iff _ _ _ _).1 hok
  unfold psum
  rw [List.take_of_length_le hj, places_sum (sv bs) h1.1 h1.2.1, ht]
/-- One step of the sum: what stands at a place, what comes of it. -/
theorem psum_at {bs : List Bd} {s v : Int} {k : Fo} {sx vx : Int} {kx : Fo} {j : Nat} {pl : List Int} (hd : sdR bs s v k = (sx, vx, kx, true)) (hp : (places k)[j]? = some pl) :
    ∃ s1 v1 k1 s3 v3 k3, atR s v k pl = (s1, v1, k1, true) ∧ sdR bs s1 v1 k1 = (s3, v3, k3, true) ∧ okW s3 v3 k3 16 = true ∧ (s1 = 0 → psum (sv bs) s v k (j + 1) = psum (sv bs) s v k j + 1 + fsz k3) ∧ (s1 ≠ 0 → psum (sv bs) s v k (j + 1) = psum (sv bs) s v k j + 1) := by
  obtain ⟨s1, v1, k1, s3, v3, k3, h1, h2, h3⟩ := sub_parts hd (List.mem_of_getElem? hp)
  have hf := (atR_fat h1).2
  have hs := psum_step (σ := sv bs) hp hf
  rcases sdR_cases h2 with ⟨h, _⟩ | ⟨_, hsok, hok, ht, hokx⟩
  · cases h
  refine ⟨s1, v1, k1, s3, v3, k3, h1, h2, hokx, fun e => ?_, fun e => ?_⟩
  · subst e
    obtain rfl := kids_none ((okW_iff _ _ _ _).1 hok).1
    rw [hs, pcnt, if_pos rfl, ht]
    dsimp only
    omega
  · rw [hs, pcnt, if_neg e]
end Go.Proofs.Ytkmfnhoeigoajaa

/-! FrameO: What every row's closing text needs. -/
namespace Go.Proofs.Ytkmfnhoeigoajaa
theorem Try.own : ownKnob Try.prog.godebug = none := by kernel_rfl
theorem Try.laidOut : laidOutB Try.prog = true := by kernel_rfl
end Go.Proofs.Ytkmfnhoeigoajaa

/-! Frame: A slice of bytes that came in, as the walks take it. -/
namespace Go.Proofs.Ytkmfnhoeigoajaa
open Go.ChangeShapes Go.WideShapes Go.ChangeAt Go.RowKit

/-- A slice of bytes: it is nil; or it leads to a row of cap cells. -/
def IsRow (w : World) (a : Option Addr) (len cap : Nat) (zs : List Int) : Prop :=
  (a = none ∧ len = 0 ∧ cap = 0 ∧ zs = []) ∨
  ∃ x, a = some x ∧ len ≤ cap ∧ cap ≤ maxLen ∧ zs.length = cap ∧ (∀ i, i < zs.length → w.cell? (x.add i) = some (.int .u8 (zs.getD i 0))) ∧ ∀ n ∈ zs, (Lit.int .u8 n).wf = true

theorem bytes_of_row {w : World} {a : Option Addr} {len cap : Nat} {zs : List Int} (h : IsRow w a len cap zs) : Bytes w a len ∧ len ≤ cap := by
  rcases h with ⟨_, h1, h2, _⟩ | ⟨x, rfl, h1, _, h2, h3, h4⟩
  · exact ⟨.inl h1, by omega⟩
  · refine ⟨?_, h1⟩
    by_cases hl : len = 0
    · exact .inl hl
    · obtain ⟨b, o, spot⟩ := x
      have c0 := h3 0 (by omega)
      have hs : spot = none := by simpa [Addr.add] using World.cell?_spot c0
      subst hs
      have ha : ∀ n, (⟨b, o, none⟩ : Addr).add n = ⟨b, o + n, none⟩ := fun n => by unfold Addr.add; split <;> simp_all
      rw [ha] at c0
      refine .inr ⟨b, o, rfl, World.block_lt_of_cell? _ _ c0, fun i hi => ?_⟩
      have ci := h3 i (by omega)
      rw [ha] at ci
      have hm : zs.getD i 0 ∈ zs := by
        rw [List.getD_eq_getElem?_getD, List.getElem?_eq_getElem (by omega)]
        exact List.getElem_mem _
      have hb := bounds_u8 (h4 _ hm)
      obtain ⟨n, hn⟩ := Int.eq_ofNat_of_zero_le hb.1
      exact ⟨n, by omega, by rw [ci, hn]⟩

/-- Out of the reading of an argument. -/
theorem row_of_trod {H : Type} {enc : TypeId × Value → H} {W : World} {a : Option Addr} {len cap : Nat} {d : DataW H} {p : List MemPlace} (h : DataW.Trod enc Try.prog W 0 (fun _ => true) true 22 (.slice a len cap) d p) : ∃ zs, IsRow W a len cap zs := by
  obtain ⟨fuel, hf⟩ := h
  rcases open_ints Try.underlying22 Try.underlying5 (by kernel_rfl) hf with ⟨hcs, _⟩ | ⟨x, l, c, zs, hcs, _, hl, hm, hz, _, hcell, hwz⟩
  · simp [Value.cells] at hcs
    obtain ⟨rfl, rfl, rfl⟩ := hcs
    exact ⟨[], .inl ⟨rfl, rfl, rfl, rfl⟩⟩
  · simp [Value.cells] at hcs
    obtain ⟨rfl, rfl, rfl⟩ := hcs
    exact ⟨zs, .inr ⟨_, rfl, hl, hm, by simpa using hz, hcell, hwz⟩⟩

end Go.Proofs.Ytkmfnhoeigoajaa

/-! SHv: The contracts of slices.Sort and slices.Compact at this program. -/
namespace Go.Proofs
open Go.Shelf
def Try.lays189_ren : Go.Shelf.Ren := ⟨fun | 189 => 37 | 125 => 57 | 257 => 56 | 128 => 72 | 129 => 73 | 294 => 63 | 295 => 64 | 296 => 65 | 297 => 66 | 298 => 67 | 299 => 68 | 216 => 69 | 300 => 70 | 301 => 71 | 328 => 74 | 329 => 75 | 330 => 76 | 331 => 77 | 332 => 78 | 215 => 79 | 343 => 80 | n => n, fun | 28 => 35 | 3 => 3 | 46 => 95 | 0 => 0 | 51 => 111 | 53 => 113 | 4 => 4 | 183 => 103 | 182 => 102 | 131 => 108 | 5 => 5 | 9 => 9 | 218 => 114 | 222 => 85 | 228 => 120 | 229 => 121 | n => n, fun | n => n⟩
theorem Try.lays189 : Go.Proofs.Lays.n189 Try.prog Try.lays189_ren := {
  mixed := by kernel_rfl
  f125 := Try.func57.trans (congrArg some (by kernel_rfl))
  f128 := Try.func72.trans (congrArg some (by kernel_rfl))
  f129 := Try.func73.trans (congrArg some (by kernel_rfl))
  f189 := Try.func37.trans (congrArg some (by kernel_rfl))
  f215 := Try.func79.trans (congrArg some (by kernel_rfl))
  f216 := Try.func69.trans (congrArg some (by kernel_rfl))
  f257 := Try.func56.trans (congrArg some (by kernel_rfl))
  f294 := Try.func63.trans (congrArg some (by kernel_rfl))
  f295 := Try.func64.trans (congrArg some (by kernel_rfl))
  f296 := Try.func65.trans (congrArg some (by kernel_rfl))
  f297 := Try.func66.trans (congrArg some (by kernel_rfl))
  f298 := Try.func67.trans (congrArg some (by kernel_rfl))
  f299 := Try.func68.trans (congrArg some (by kernel_rfl))
  f300 := Try.func70.trans (congrArg some (by kernel_rfl))
  f301 := Try.func71.trans (congrArg some (by kernel_rfl))
  f328 := Try.func74.trans (congrArg some (by kernel_rfl))
  f329 := Try.func75.trans (congrArg some (by kernel_rfl))
  f330 := Try.func76.trans (congrArg some (by kernel_rfl))
  f331 := Try.func77.trans (congrArg some (by kernel_rfl))
  f332 := Try.func78.trans (congrArg some (by kernel_rfl))
  f343 := Try.func80.trans (congrArg some (by kernel_rfl))
  t0 := Try.underlying0
  a0 := Try.isAgg0
  z0 := Try.sizeOf0
  v0 := Try.zeroValue0
  t3 := Try.underlying3
  a3 := Try.isAgg3
  z3 := Try.sizeOf3
  v3 := Try.zeroValue3
  t4 := Try.underlying4
  a4 := Try.isAgg4
  z4 := Try.sizeOf4
  v4 := Try.zeroValue4
  t5 := Try.underlying5
  a5 := Try.isAgg5
  z5 := Try.sizeOf5
  v5 := Try.zeroValue5
  t9 := Try.underlying9
  a9 := Try.isAgg9
  z9 := Try.sizeOf9
  v9 := Try.zeroValue9
  t28 := Try.underlying35
  a28 := Try.isAgg35
  z28 := Try.sizeOf35
  v28 := Try.zeroValue35
  t46 := Try.underlying95
  a46 := Try.isAgg95
  z46 := Try.sizeOf95
  v46 := Try.zeroValue95
  t51 := Try.underlying111
  a51 := Try.isAgg111
  z51 := Try.sizeOf111
  v51 := Try.zeroValue111
  t53 := Try.underlying113
  a53 := Try.isAgg113
  z53 := Try.sizeOf113
  v53 := Try.zeroValue113
  t131 := Try.underlying108
  a131 := Try.isAgg108
  z131 := Try.sizeOf108
  v131 := Try.zeroValue108
  t182 := Try.underlying102
  a182 := Try.isAgg102
  z182 := Try.sizeOf102
  v182 := Try.zeroValue102
  t183 := Try.underlying103
  a183 := Try.isAgg103
  z183 := Try.sizeOf103
  v183 := Try.zeroValue103
  t218 := Try.underlying114
  a218 := Try.isAgg114
  z218 := Try.sizeOf114
  v218 := Try.zeroValue114
  t222 := Try.underlying85
  a222 := Try.isAgg85
  z222 := Try.sizeOf85
  v222 := Try.zeroValue85
  t228 := Try.underlying120
  a228 := Try.isAgg120
  z228 := Try.sizeOf120
  v228 := Try.zeroValue120
  t229 := Try.underlying121
  a229 := Try.isAgg121
  z229 := Try.sizeOf121
  v229 := Try.zeroValue121 }
def Try.laysNm220_ren : Go.Shelf.Ren := ⟨fun | 20 => 38 | n => n, fun | 22 => 35 | 3 => 3 | 4 => 4 | 0 => 0 | n => n, fun | n => n⟩
theorem Try.laysNm220 : Go.Proofs.Lays2.n20 Try.prog Try.laysNm220_ren := {
  mixed := by kernel_rfl
  f20 := Try.func38.trans (congrArg some (by kernel_rfl))
  t0 := Try.underlying0
  a0 := Try.isAgg0
  z0 := Try.sizeOf0
  v0 := Try.zeroValue0
  t3 := Try.underlying3
  a3 := Try.isAgg3
  z3 := Try.sizeOf3
  v3 := Try.zeroValue3
  t4 := Try.underlying4
  a4 := Try.isAgg4
  z4 := Try.sizeOf4
  v4 := Try.zeroValue4
  t22 := Try.underlying35
  a22 := Try.isAgg35
  z22 := Try.sizeOf35
  v22 := Try.zeroValue35
  i3 := by kernel_rfl }
end Go.Proofs
