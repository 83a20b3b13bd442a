/- Regions that draw their order: operations that only look may be taken first as long as what they look at stands; the rest comes in one forced order. No condition. -/
import Derived.OrdersHeld
import Derived.Tactics
import Derived.Tactics2
namespace Go.Proofs.Ythbakmdcepoikaa

section
variable {P : Program} {ops : Array Oper} {Q : Exit → Act → World → Prop} {md : Region.Mode} {S : World → Prop} {late : List Nat}

/-- Whatever order is picked from here on; S holds behind every operation as long as none of the late ones has come up. -/
def wpAnyT (P : Program) (md : Region.Mode) (ops : Array Oper) (Q : Exit → Act → World → Prop) (S : World → Prop) (late : List Nat) : Nat → Array Bool → Act → World → Prop
  | 0, listed, a, w => Region.ready md ops listed = [] ∧ Q .normal a w
  | fuel + 1, listed, a, w =>
    (Region.ready md ops listed = [] → Q .normal a w) ∧
    ∀ i ∈ Region.ready md ops listed, wpOp P ops Q i (fun a' w' => ((∃ j ∈ late, (listed.setIfInBounds i true).getD j false = true) ∨ S w') ∧ wpAnyT P md ops Q S late fuel (listed.setIfInBounds i true) a' w') a w

theorem wpAny_of_T : ∀ (fuel : Nat) (listed : Array Bool) (a : Act) (w : World), wpAnyT P md ops Q S late fuel listed a w → wpAny P md ops Q fuel listed a w
  | 0, _, _, _, h => h
  | fuel + 1, _, _, _, h => ⟨h.1, fun i hi => wpOp_mono (fun a' w' h' => wpAny_of_T fuel _ a' w' h'.2) (h.2 i hi)⟩

theorem listed_no {listed : Array Bool} {i : Nat} (h0 : listed.getD i true = false) : listed.getD i false = false := by
  rcases Nat.lt_or_ge i listed.size with h' | h'
  · simp [h'] at h0 ⊢; exact h0
  · simp [Array.getElem?_eq_none h'] at h0

theorem wpAnyT_first {i : Nat} {oi : Oper} {v : Value} (hi : ops[i]? = some oi) (hsel : ∀ (j : Nat) (o : Oper) cs b, ops[j]? = some o → o.op ≠ .select cs b)
    (hQ : ∀ c a w, Q (.panic c) (a.put oi.dst v) w → Q (.panic c) a w) (hlate : ∀ j ∈ late, ∃ oj, ops[j]? = some oj ∧ ∃ e ∈ oj.after, Region.binds md e = true ∧ e.on = i) :
    ∀ (fuel : Nat) (listed : Array Bool) (a : Act) (w : World),
      (∀ j oj, ops[j]? = some oj → j ≠ i → listed.getD j true = false → (∀ e ∈ oj.after, Region.binds md e = true → e.on ≠ i) → oi.apart ops oj = true) →
      i ∈ Region.ready md ops listed → YieldsIf P ops S oi v a → S w → (∀ j ∈ late, listed.getD j false = false) →
      wpAnyT P md ops Q S late fuel (listed.setIfInBounds i true) (a.put oi.dst v) w → wpAnyT P md ops Q S late (fuel + 1) listed a w := by
  intro fuel
  induction fuel with
  | zero =>
    intro listed a w _ hr hy hS hnl H
    refine ⟨fun h => (by rw [h] at hr; cases hr), fun j hj => ?_⟩
    by_cases hji : j = i
    · subst hji; exact hy.wpOp hi hS ⟨.inr hS, H⟩
    · have := ready_mono hj hji
      rw [H.1] at this
      cases this
  | succ fuel ih =>
    intro listed a w hfree hr hy hS hnl H
    refine ⟨fun h => (by rw [h] at hr; cases hr), fun j hj => ?_⟩
    by_cases hji : j = i
    · subst hji; exact hy.wpOp hi hS ⟨.inr hS, H⟩
    · have h1 := H.2 j (ready_mono hj hji)
      obtain ⟨hjun, oj, hoj, hall⟩ := mem_ready.1 hj
      have hiun := listed_no (mem_ready.1 hr).1
      have hnot : ∀ e ∈ oj.after, Region.binds md e = true → e.on ≠ i := fun e he hb heq => by
        have h1 := hall e he hb
        rw [heq, hiun] at h1
        cases h1
      have hjl : j ∉ late := fun hm => by
        obtain ⟨oj', hoj', e, he, hb, hon⟩ := hlate j hm
        rw [hoj] at hoj'
        cases hoj'
        exact hnot e he hb hon
      have hil : i ∉ late := fun hm => by
        obtain ⟨oi', hoi', e, he, hb, hon⟩ := hlate i hm
        obtain ⟨_, o2, ho2, hall2⟩ := mem_ready.1 hr
        rw [hoi'] at ho2
        cases ho2
        have := hall2 e he hb
        rw [hon, hiun] at this
        cases this
      have hnl' : ∀ k ∈ late, (listed.setIfInBounds j true).getD k false = false := fun k hk => by
        have hne : j ≠ k := fun e => hjl (by rw [e]; exact hk)
        rw [getD_set_ne false hne]
        exact hnl k hk
      have h2 := wpOp_putIf hoj (hfree j oj hoj hji hjun hnot) (fun cs b => hsel i oi cs b hi) (fun cs b => hsel j oj cs b hoj) hQ hy h1
      have hfree' : ∀ k ok, ops[k]? = some ok → k ≠ i → (listed.setIfInBounds j true).getD k true = false →
          (∀ e ∈ ok.after, Region.binds md e = true → e.on ≠ i) → oi.apart ops ok = true := fun k ok hk hki hun hno => by
        refine hfree k ok hk hki ?_ hno
        by_cases hjk : j = k
        · subst hjk; exact hjun
        · rw [getD_set_ne true hjk] at hun; exact hun
      refine wpOp_mono (fun a' w' h3 => ?_) h2
      have hS' : S w' := by
        rcases h3.2.1 with ⟨k, hk, hl⟩ | h
        · have hne : j ≠ k := fun e => hjl (by rw [e]; exact hk)
          have hne2 : i ≠ k := fun e => hil (by rw [e]; exact hk)
          rw [getD_set_ne false hne, getD_set_ne false hne2, hnl k hk] at hl
          cases hl
        · exact h
      refine ⟨.inr hS', ih (listed.setIfInBounds j true) a' w' hfree' (ready_mono hr (Ne.symm hji)) h3.1 hS' hnl' ?_⟩
      rw [Array.setIfInBounds_comm _ _ hji]
      exact h3.2.2

/-- A step of the walk: an operation that only looks (0), one behind which S is shown anew (1), a late one (2). -/
def wpMix (P : Program) (ops : Array Oper) (Q : Exit → Act → World → Prop) (S : World → Prop) : List (Nat × Nat) → Act → World → Prop
  | [], a, w => Q .normal a w
  | (i, 0) :: rest, a, w => ∃ o v, ops[i]? = some o ∧ YieldsIf P ops S o v a ∧ wpMix P ops Q S rest (a.put o.dst v) w
  | (i, 1) :: rest, a, w => wpOp P ops Q i (fun a' w' => S w' ∧ wpMix P ops Q S rest a' w') a w
  | (i, _ + 2) :: rest, a, w => wpOp P ops Q i (wpMix P ops Q S rest) a w

/-- The order fits the region: what only looks may be taken first, the rest comes up alone; calm: none of the late ones has come up. -/
def mixB (md : Region.Mode) (ops : Array Oper) (late : List Nat) : List (Nat × Nat) → Bool → Array Bool → Bool
  | [], _, listed => (Region.ready md ops listed).isEmpty
  | (i, 0) :: rest, calm, listed => calm && (Region.ready md ops listed).contains i && Region.free md ops listed i &&
      late.all (fun j => match ops[j]? with | some oj => oj.after.any (fun e => Region.binds md e && e.on == i) | none => false) && late.all (fun j => !(listed.getD j false)) && mixB md ops late rest calm (listed.setIfInBounds i true)
  | (i, 1) :: rest, calm, listed => (Region.ready md ops listed == [i]) && mixB md ops late rest calm (listed.setIfInBounds i true)
  | (i, _ + 2) :: rest, _, listed => (Region.ready md ops listed == [i]) && late.contains i && decide (i < listed.size) && mixB md ops late rest false (listed.setIfInBounds i true)

theorem wpAnyT_mix (hs : Region.noSelect ops = true) (hQ : ∀ c a w, ¬ Q (.panic c) a w) : ∀ (l : List (Nat × Nat)) (calm : Bool) (listed : Array Bool) (a : Act) (w : World), mixB md ops late l calm listed = true → (calm = true → S w) →
    wpMix P ops Q S l a w → wpAnyT P md ops Q S late l.length listed a w
  | [], _, _, _, _, hB, _, h => ⟨by simpa [mixB] using hB, h⟩
  | (i, 0) :: rest, calm, listed, a, w, hB, hc, ⟨o, v, ho, hy, h⟩ => by
    simp only [mixB, Bool.and_eq_true] at hB
    obtain ⟨⟨⟨⟨⟨h1, h2⟩, h3⟩, h4⟩, h5⟩, h6⟩ := hB
    refine wpAnyT_first ho (Region.noSelect_spec hs) (fun c a w h => absurd h (hQ c _ w)) (fun j hj => ?_) rest.length listed a w (Region.free_spec ho h3) (by simpa using h2) hy (hc h1) (fun j hj => ?_) (wpAnyT_mix hs hQ rest calm _ _ w h6 hc h)
    · have := List.all_eq_true.1 h4 j hj
      split at this
      · rename_i oj hoj
        obtain ⟨e, he, hb⟩ := Array.any_eq_true'.1 this
        simp only [Bool.and_eq_true, beq_iff_eq] at hb
        exact ⟨oj, hoj, e, he, hb⟩
      · cases this
    · have := List.all_eq_true.1 h5 j hj
      simpa using this
  | (i, 1) :: rest, calm, listed, a, w, hB, hc, h => by
    simp only [mixB, Bool.and_eq_true, beq_iff_eq] at hB
    refine ⟨fun h0 => (by rw [hB.1] at h0; cases h0), fun j hj => ?_⟩
    rw [hB.1] at hj
    simp only [List.mem_singleton] at hj
    subst hj
    exact wpOp_mono (fun a' w' h' => ⟨.inr h'.1, wpAnyT_mix hs hQ rest calm _ a' w' hB.2 (fun _ => h'.1) h'.2⟩) h
  | (i, _ + 2) :: rest, calm, listed, a, w, hB, hc, h => by
    simp only [mixB, Bool.and_eq_true, beq_iff_eq, decide_eq_true_eq] at hB
    obtain ⟨⟨⟨h1, h2⟩, h3⟩, h4⟩ := hB
    refine ⟨fun h0 => (by rw [h1] at h0; cases h0), fun j hj => ?_⟩
    rw [h1] at hj
    simp only [List.mem_singleton] at hj
    subst hj
    exact wpOp_mono (fun a' w' h' => ⟨.inl ⟨j, by simpa using h2, by simp [h3]⟩, wpAnyT_mix hs hQ rest false _ a' w' h4 (fun h => by cases h) h'⟩) h

/-- Q, but not at a panic. -/
def QN (Q : Exit → Act → World → Prop) : Exit → Act → World → Prop
  | .panic _, _, _ => False
  | e, a, w => Q e a w

/-- The region, walked in one order. -/
theorem wp_region_mix {id : Nat} {a : Act} {w : World} (S : World → Prop) (late : List Nat) (l : List (Nat × Nat)) (hm : P.follows .mixedOrders = true) (hB : (Region.noSelect ops && (l.length == ops.size) && mixB .any ops late l true (Array.replicate ops.size false)) = true)
    (hS : S w.drew) (h : wpMix P ops (QN Q) S l a w.drew) : (Code.region id ops true).wp P Q a w := by
  simp only [Bool.and_eq_true, beq_iff_eq] at hB
  obtain ⟨⟨h1, h2⟩, h3⟩ := hB
  refine Code.wp_mono (Q := QN Q) (fun e a w h => by cases e <;> first | exact h | exact h.elim) ?_
  refine wp_region_any hm (wpAny_of_T (S := S) (late := late) _ _ _ _ ?_)
  rw [← h2]
  exact wpAnyT_mix h1 (fun c a w h => h) l true _ a _ (by rw [h2]; exact h3) (fun _ => hS) h

theorem mix_end {a : Act} {w : World} (h : Q .normal a w) : wpMix P ops (QN Q) S [] a w := h
theorem mix_look {i : Nat} {rest : List (Nat × Nat)} {a : Act} {w : World} {o : Oper} {v : Value} (ho : ops[i]? = some o) (hw : Region.wanted o (yielded ops a.tmps) = true) (hr : ∀ w, S w → (execOp a.eval o).run P w = .ok (.value v) w)
    (h : wpMix P ops Q S rest (a.put o.dst v) w) : wpMix P ops Q S ((i, 0) :: rest) a w := ⟨o, v, ho, .inl ⟨hw, hr⟩, h⟩
theorem mix_see {i : Nat} {rest : List (Nat × Nat)} {a : Act} {w : World} {o : Oper} (ho : ops[i]? = some o)
    (h : ∀ K : Act → Prop, (∀ a', wpMix P ops Q S rest a' w → K a') → if Region.wanted o (yielded ops a.tmps) = true then ∃ v, (∀ w, S w → (execOp a.eval o).run P w = .ok (.value v) w) ∧ K (a.put o.dst v) else K (a.put o.dst undef)) : wpMix P ops Q S ((i, 0) :: rest) a w := by
  have := h (fun a' => wpMix P ops Q S rest a' w) (fun _ h => h)
  split at this
  · rename_i hw
    obtain ⟨v, h1, h2⟩ := this
    exact ⟨o, v, ho, .inl ⟨hw, h1⟩, h2⟩
  · rename_i hw
    exact ⟨o, undef, ho, .inr ⟨by simpa using hw, rfl⟩, this⟩
theorem mix_hold {i : Nat} {rest : List (Nat × Nat)} {a : Act} {w : World} {o : Oper} (ho : ops[i]? = some o)
    (h : ∀ K : Act → World → Prop, (∀ a' w', S w' → wpMix P ops Q S rest a' w' → K a' w') → if Region.wanted o (yielded ops a.tmps) = true then o.wp P a w K Q else K (a.put o.dst undef) w) : wpMix P ops Q S ((i, 1) :: rest) a w := by
  have := h (fun a' w' => S w' ∧ wpMix P ops Q S rest a' w') (fun _ _ h1 h2 => ⟨h1, h2⟩)
  show wpOp P ops Q i _ a w
  unfold wpOp
  simp only [ho]
  split at this
  · rename_i hw; rw [if_pos hw]; exact .inl this
  · rename_i hw; rw [if_neg hw]; exact this
theorem mix_late {i : Nat} {rest : List (Nat × Nat)} {a : Act} {w : World} {o : Oper} (ho : ops[i]? = some o)
    (h : ∀ K : Act → World → Prop, (∀ a' w', wpMix P ops Q S rest a' w' → K a' w') → if Region.wanted o (yielded ops a.tmps) = true then o.wp P a w K Q else K (a.put o.dst undef) w) : wpMix P ops Q S ((i, 2) :: rest) a w := by
  have := h (wpMix P ops Q S rest) (fun _ _ h => h)
  show wpOp P ops Q i _ a w
  unfold wpOp
  simp only [ho]
  split at this
  · rename_i hw; rw [if_pos hw]; exact .inl this
  · rename_i hw; rw [if_neg hw]; exact this
end
end Go.Proofs.Ythbakmdcepoikaa
