/- Several texts in one: TY, ZB. -/
import Derived.Test.YtbnbogdglffkmaaGreatDoorKEb19
import Derived.Test.YtbnbogdglffkmaaGreatDoorKEb15

/-! TY: Regions that draw their order, walked without a look at the order: each operation's result is of a kind, which a later step leaves. No condition. -/
namespace Go.Proofs.YtbnbogdglffkmaaGreatDoor

section
variable {P : Program} {ops : Array Oper} {Q : Exit → Act → World → Prop}

/-- What the form of the region must be: edges lead back, no two results in one place, each in its bounds. -/
def tyForm (ops : Array Oper) (n : Nat) : Bool :=
  (List.range ops.size).all fun i => match ops[i]? with
    | some o => (o.after.all fun e => !Region.binds .any e || decide (e.on < i)) && (match o.dst with | some d => decide (d < n) | none => true) &&
        ((List.range ops.size).all fun j => decide (j = i) || match ops[j]?, o.dst with | some oj, some d => !(oj.dst == some d) | _, _ => true)
    | none => true

theorem tyForm_at {n : Nat} (h : tyForm ops n = true) {i : Nat} {o : Oper} (hi : ops[i]? = some o) :
    (∀ e ∈ o.after, Region.binds .any e = true → e.on < i) ∧ (∀ d, o.dst = some d → d < n) ∧ (∀ (j : Nat) (oj : Oper) (d : Nat), ops[j]? = some oj → j ≠ i → o.dst = some d → oj.dst ≠ some d) := by
  have hlt : i < ops.size := (Array.getElem?_eq_some_iff.1 hi).1
  have := List.all_eq_true.1 h i (List.mem_range.2 hlt)
  rw [hi] at this
  simp only [Bool.and_eq_true] at this
  obtain ⟨⟨h1, h2⟩, h3⟩ := this
  refine ⟨fun e he hb => ?_, fun d hd => ?_, fun j oj d hj hne hd he => ?_⟩
  · have := Array.all_eq_true'.1 h1 e he
    simpa [hb] using this
  · rw [hd] at h2; simpa using h2
  · have hjl : j < ops.size := (Array.getElem?_eq_some_iff.1 hj).1
    have := List.all_eq_true.1 h3 j (List.mem_range.2 hjl)
    rw [hj, hd] at this
    simp [hne, he] at this

theorem ready_all {listed : Array Bool} (hf : ∀ (i : Nat) (o : Oper), ops[i]? = some o → ∀ e ∈ o.after, Region.binds .any e = true → e.on < i) (h : Region.ready .any ops listed = []) : ∀ i, i < ops.size → listed.getD i true = true := by
  intro i
  induction i using Nat.strongRecOn with
  | _ i ih =>
    intro hi
    cases hl : listed.getD i true with
    | true => rfl
    | false =>
      exfalso
      obtain ⟨o, ho⟩ : ∃ o, ops[i]? = some o := ⟨ops[i], Array.getElem?_eq_getElem hi⟩
      have hm : i ∈ Region.ready .any ops listed := by
        refine mem_ready.2 ⟨hl, o, ho, fun e he hb => ?_⟩
        have hlt := hf i o ho e he hb
        have := ih e.on hlt (by omega)
        rcases Nat.lt_or_ge e.on listed.size with h' | h'
        · simp [h'] at this ⊢; exact this
        · exfalso
          have h2 : listed.getD i true = true := by simp [Array.getElem?_eq_none (show listed.size ≤ i by omega)]
          rw [h2] at hl; cases hl
      rw [h] at hm
      cases hm

/-- Where the region stands. -/
structure TySt (ops : Array Oper) (T : Nat → Value → World → Prop) (S : Array Bool → Act → World → Prop) (a0 : Act) (listed : Array Bool) (a : Act) (w : World) : Prop where
  s : S listed a w
  lsize : listed.size = ops.size
  size : a.tmps.size = a0.tmps.size
  defers : a.defers = a0.defers
  done : ∀ (i : Nat) (o : Oper), ops[i]? = some o → listed.getD i true = true → ∀ d, o.dst = some d → T i (a.tmps.getD d undef) w
  closed : ∀ (i : Nat) (o : Oper), ops[i]? = some o → listed.getD i false = true → ∀ e ∈ o.after, Region.binds .any e = true → listed.getD e.on false = true
  rest : ∀ t, (∀ (i : Nat) (o : Oper), ops[i]? = some o → o.dst ≠ some t) → a.tmps.getD t undef = a0.tmps.getD t undef

theorem set_mono {listed : Array Bool} {i j : Nat} (h : listed.getD j false = true) : (listed.setIfInBounds i true).getD j false = true := by
  simp only [Array.getD_eq_getD_getElem?] at h ⊢
  by_cases e : i = j
  · subst e
    have hlt : i < listed.size := by
      rcases Nat.lt_or_ge i listed.size with h' | h'
      · exact h'
      · rw [Array.getElem?_eq_none h'] at h; cases h
    rw [Array.getElem?_setIfInBounds_self_of_lt hlt]; rfl
  · rwa [Array.getElem?_setIfInBounds_ne e]
theorem set_was {listed : Array Bool} {i j : Nat} (hne : i ≠ j) (h : (listed.setIfInBounds i true).getD j false = true) : listed.getD j false = true := by
  simp only [Array.getD_eq_getD_getElem?] at h ⊢
  rwa [Array.getElem?_setIfInBounds_ne hne] at h
theorem TySt.step {T : Nat → Value → World → Prop} {S : Array Bool → Act → World → Prop} {R : World → World → Prop} (hmono : ∀ i v w w', T i v w → R w w' → T i v w') {a0 a : Act} {listed : Array Bool} {w w' : World} (hform : tyForm ops a0.tmps.size = true) (h : TySt ops T S a0 listed a w) {i : Nat} {o : Oper}
    (hi : ops[i]? = some o) {v : Value} (hS : S (listed.setIfInBounds i true) (a.put o.dst v) w') (hR : R w w') (hT : ∀ d, o.dst = some d → T i v w') (hall : ∀ e ∈ o.after, Region.binds .any e = true → listed.getD e.on false = true) : TySt ops T S a0 (listed.setIfInBounds i true) (a.put o.dst v) w' := by
  obtain ⟨_, hd, hu⟩ := tyForm_at hform hi
  have hget : ∀ t, o.dst ≠ some t → (a.put o.dst v).tmps.getD t undef = a.tmps.getD t undef := fun t ht => by
    cases ho : o.dst with
    | none => rfl
    | some d =>
      have hne : d ≠ t := fun e => ht (by rw [ho, e])
      simp only [Act.put, Array.getD_eq_getD_getElem?]
      rw [Array.getElem?_setIfInBounds_ne hne]
  refine ⟨hS, by simpa using h.lsize, ?_, ?_, fun j oj hj hl d hdj => ?_, fun j oj hj hl e he hb => ?_, fun t ht => ?_⟩
  · cases ho : o.dst <;> simp [Act.put, h.size]
  · cases ho : o.dst <;> simp [Act.put, h.defers]
  · by_cases hji : j = i
    · subst hji
      rw [hi] at hj
      cases hj
      have hlt := hd d hdj
      rw [hdj]
      simp only [Act.put, Array.getD_eq_getD_getElem?]
      rw [Array.getElem?_setIfInBounds_self_of_lt (by rw [h.size]; exact hlt)]
      exact hT d hdj
    · rw [hget d (fun e => hu j oj d hj hji e hdj)]
      refine hmono _ _ _ _ (h.done j oj hj ?_ d hdj) hR
      simp only [Array.getD_eq_getD_getElem?] at hl ⊢
      rwa [Array.getElem?_setIfInBounds_ne (Ne.symm hji)] at hl
  · by_cases hji : j = i
    · subst hji
      rw [hi] at hj
      cases hj
      exact set_mono (hall e he hb)
    · exact set_mono (h.closed j oj hj (set_was (Ne.symm hji) hl) e he hb)
  · rw [hget t (ht i o hi)]
    exact h.rest t ht

theorem count_false_set {listed : Array Bool} {i n : Nat} (h : listed.getD i true = false) (hc : listed.toList.count false ≤ n + 1) : (listed.setIfInBounds i true).toList.count false ≤ n := by
  have hlt : i < listed.size := by
    rcases Nat.lt_or_ge i listed.size with h' | h'
    · exact h'
    · simp [Array.getElem?_eq_none h'] at h
  rw [Array.toList_setIfInBounds, List.count_set (by simpa using hlt)]
  have hv : listed.toList[i]'(by simpa using hlt) = false := by
    simp [hlt] at h
    simpa using h
  rw [hv, if_pos (show (false == false) = true from rfl), if_neg (show ¬ (true == false) = true by decide)]
  omega

theorem ty_getD {listed : Array Bool} {n : Nat} (hs : listed.size = n) (h : ∀ i, i < n → listed.getD i true = true) : ∀ i, i < n → listed.getD i false = true := fun i hi => by
  have := h i hi
  simp [show i < listed.size by omega] at this ⊢
  exact this
theorem ty_true {listed : Array Bool} {i : Nat} (h : listed.getD i false = true) : listed.getD i true = true := by
  simp only [Array.getD_eq_getD_getElem?] at h ⊢
  rcases Nat.lt_or_ge i listed.size with h' | h'
  · simp [h'] at h ⊢; exact h
  · simp [Array.getElem?_eq_none h']
theorem wpAny_typed {T : Nat → Value → World → Prop} {S : Array Bool → Act → World → Prop} {R : World → World → Prop} (hmono : ∀ i v w w', T i v w → R w w' → T i v w') {a0 : Act} (hform : tyForm ops a0.tmps.size = true)
    (hstep : ∀ (i : Nat) (o : Oper), ops[i]? = some o → ∀ (listed : Array Bool) (a : Act) (w : World), TySt ops T S a0 listed a w → listed.getD i true = false → (∀ e ∈ o.after, Region.binds .any e = true → listed.getD e.on true = true) →
      wpOp P ops (QN Q) i (fun a' w' => ∃ v, a' = a.put o.dst v ∧ S (listed.setIfInBounds i true) a' w' ∧ R w w' ∧ ∀ d, o.dst = some d → T i v w') a w)
    (hdone : ∀ (listed : Array Bool) (a : Act) (w : World), TySt ops T S a0 listed a w → (∀ i, i < ops.size → listed.getD i false = true) → Q .normal a w) :
    ∀ (n : Nat) (listed : Array Bool) (a : Act) (w : World), listed.size = ops.size → listed.toList.count false ≤ n → TySt ops T S a0 listed a w → wpAny P .any ops (QN Q) n listed a w := by
  have hf : ∀ (i : Nat) (o : Oper), ops[i]? = some o → ∀ e ∈ o.after, Region.binds .any e = true → e.on < i := fun i o hi => (tyForm_at hform hi).1
  intro n
  induction n with
  | zero =>
    intro listed a w hsz hc hst
    have hall : ∀ i, i < ops.size → listed.getD i true = true := fun i hi => by
      cases hl : listed.getD i true with
      | true => rfl
      | false =>
        exfalso
        have hlt : i < listed.size := by omega
        simp [hlt] at hl
        have : 0 < listed.toList.count false := List.count_pos_iff.2 (by rw [← hl]; exact Array.getElem_mem_toList hlt)
        omega
    refine ⟨?_, hdone listed a w hst (ty_getD hsz hall)⟩
    refine List.eq_nil_iff_forall_not_mem.2 fun i hi => ?_
    obtain ⟨h0, o, ho, _⟩ := mem_ready.1 hi
    rw [hall i (Array.getElem?_eq_some_iff.1 ho).1] at h0
    cases h0
  | succ n ih =>
    intro listed a w hsz hc hst
    refine ⟨fun h => hdone listed a w hst (ty_getD hsz (ready_all hf h)), fun i hi => ?_⟩
    obtain ⟨h0, o, ho, hall⟩ := mem_ready.1 hi
    have hlt : i < ops.size := (Array.getElem?_eq_some_iff.1 ho).1
    refine wpOp_mono (fun a' w' h' => ?_) (hstep i o ho listed a w hst h0 fun e he hb => ?_)
    · obtain ⟨v, rfl, hS, hR, hT⟩ := h'
      exact ih _ _ _ (by simpa using hsz) (count_false_set h0 hc) (hst.step hmono hform ho hS hR hT hall)
    · have h1 := hall e he hb
      rcases Nat.lt_or_ge e.on listed.size with h' | h'
      · simp [h'] at h1 ⊢; exact h1
      · simp [Array.getElem?_eq_none h'] at h1

theorem ty_dep {o : Oper} {listed : Array Bool} (h : ∀ e ∈ o.after, Region.binds .any e = true → listed.getD e.on true = true) {j : Nat} (hj : (o.after.any fun e => Region.binds .any e && decide (e.on = j)) = true) : listed.getD j true = true := by
  obtain ⟨i, hi, he⟩ := Array.any_eq_true.1 hj
  simp only [Bool.and_eq_true, decide_eq_true_eq] at he
  rw [← he.2]
  exact h _ (Array.getElem_mem hi) he.1
theorem TySt.at {T : Nat → Value → World → Prop} {S : Array Bool → Act → World → Prop} {a0 a : Act} {listed : Array Bool} {w : World} (h : TySt ops T S a0 listed a w) {o : Oper} (hd : ∀ e ∈ o.after, Region.binds .any e = true → listed.getD e.on true = true) (j d : Nat)
    (hj : (o.after.any fun e => Region.binds .any e && decide (e.on = j)) = true) (hjd : (ops[j]?).map (·.dst) = some (some d)) : T j ((a.tmps[d]?).getD undef) w := by
  obtain ⟨oj, ho, he⟩ := Option.map_eq_some_iff.1 hjd
  have := h.done j oj ho (ty_dep hd hj) d he
  simpa only [Array.getD_eq_getD_getElem?] using this
theorem TySt.old {T : Nat → Value → World → Prop} {S : Array Bool → Act → World → Prop} {a0 a : Act} {listed : Array Bool} {w : World} (h : TySt ops T S a0 listed a w) (t : Nat) (ht : (ops.all fun o => !(o.dst == some t)) = true) : (a.tmps[t]?).getD undef = (a0.tmps[t]?).getD undef := by
  have := h.rest t fun i o hi he => by
    have h2 := Array.all_eq_true'.1 ht o (Array.mem_of_getElem? hi)
    simp [he] at h2
  simpa only [Array.getD_eq_getD_getElem?] using this
theorem TySt.dep {T : Nat → Value → World → Prop} {S : Array Bool → Act → World → Prop} {a0 a : Act} {listed : Array Bool} {w : World} (h : TySt ops T S a0 listed a w) {o : Oper} (hd : ∀ e ∈ o.after, Region.binds .any e = true → listed.getD e.on true = true) (j : Nat)
    (hj : (o.after.any fun e => Region.binds .any e && decide (e.on = j)) = true) (hjl : j < ops.size) : listed.getD j false = true := by
  have h1 := ty_dep hd hj
  rw [← h.lsize] at hjl
  simp [hjl] at h1 ⊢
  exact h1
/-- At the end. -/
theorem TySt.fin {T : Nat → Value → World → Prop} {S : Array Bool → Act → World → Prop} {a0 a : Act} {listed : Array Bool} {w : World} (h : TySt ops T S a0 listed a w) (hall : ∀ i, i < ops.size → listed.getD i false = true) (j d : Nat) (hjd : (ops[j]?).map (·.dst) = some (some d)) : T j ((a.tmps[d]?).getD undef) w := by
  obtain ⟨oj, ho, he⟩ := Option.map_eq_some_iff.1 hjd
  have := h.done j oj ho (ty_true (hall j (Array.getElem?_eq_some_iff.1 ho).1)) d he
  simpa only [Array.getD_eq_getD_getElem?] using this
/-- What waits for an operation that has not come up has not come up. -/
theorem TySt.no {T : Nat → Value → World → Prop} {S : Array Bool → Act → World → Prop} {a0 a : Act} {listed : Array Bool} {w : World} (h : TySt ops T S a0 listed a w) {i st : Nat} (hun : listed.getD i true = false)
    (hj : (ops[st]?).map (fun o => o.after.any fun e => Region.binds .any e && decide (e.on = i)) = some true) : listed.getD st false = false := by
  obtain ⟨o, ho, he⟩ := Option.map_eq_some_iff.1 hj
  obtain ⟨j, hjl, hje⟩ := Array.any_eq_true.1 he
  simp only [Bool.and_eq_true, decide_eq_true_eq] at hje
  cases hl : listed.getD st false with
  | false => rfl
  | true =>
    have := h.closed st o ho hl _ (Array.getElem_mem hjl) hje.1
    rw [hje.2, listed_no hun] at this
    cases this
theorem wpOp_of {i : Nat} {o : Oper} {K : Act → World → Prop} {a : Act} {w : World} (hi : ops[i]? = some o) (hg : Region.wanted o (yielded ops a.tmps) = true) (h : ∀ K' : Act → World → Prop, (∀ a' w', K a' w' → K' a' w') → o.wp P a w K' Q) : wpOp P ops Q i K a w := by
  unfold wpOp
  simp only [hi, hg, if_true]
  exact .inl (h K fun _ _ h => h)

/-- The region's law. -/
theorem wp_region_typed (T : Nat → Value → World → Prop) (S : Array Bool → Act → World → Prop) (R : World → World → Prop) {id : Nat} {a0 : Act} {w0 : World} (hm : P.follows .mixedOrders = true) (hform : tyForm ops a0.tmps.size = true)
    (hmono : ∀ i v w w', T i v w → R w w' → T i v w') (h0 : S (Array.replicate ops.size false) a0 w0.drew)
    (hstep : ∀ (i : Nat) (o : Oper), ops[i]? = some o → ∀ (listed : Array Bool) (a : Act) (w : World), TySt ops T S a0 listed a w → listed.getD i true = false → (∀ e ∈ o.after, Region.binds .any e = true → listed.getD e.on true = true) →
      wpOp P ops (QN Q) i (fun a' w' => ∃ v, a' = a.put o.dst v ∧ S (listed.setIfInBounds i true) a' w' ∧ R w w' ∧ ∀ d, o.dst = some d → T i v w') a w)
    (hdone : ∀ (listed : Array Bool) (a : Act) (w : World), TySt ops T S a0 listed a w → (∀ i, i < ops.size → listed.getD i false = true) → Q .normal a w) : (Code.region id ops true).wp P Q a0 w0 := by
  refine Code.wp_mono (Q := QN Q) (fun e a w h => by cases e <;> first | exact h | exact h.elim) ?_
  refine wp_region_any hm (wpAny_typed (R := R) hmono hform hstep hdone ops.size _ _ _ (by simp) ?_ ⟨h0, by simp, rfl, rfl, fun i o hi hl => ?_, fun i o hi hl => ?_, fun _ _ => rfl⟩)
  · simp
  · exfalso
    have hlt : i < ops.size := (Array.getElem?_eq_some_iff.1 hi).1
    simp [hlt] at hl
  · exfalso
    have hlt : i < ops.size := (Array.getElem?_eq_some_iff.1 hi).1
    simp [hlt] at hl
/-- What is in a temporary behind a step. -/
theorem put_at {a : Act} {d t : Nat} (v : Value) (hne : d ≠ t) : ((a.put (some d) v).tmps[t]?).getD undef = (a.tmps[t]?).getD undef := by
  simp only [Act.put]
  rw [Array.getElem?_setIfInBounds_ne hne]
theorem put_self {a : Act} {d : Nat} (v : Value) (hlt : d < a.tmps.size) : ((a.put (some d) v).tmps[d]?).getD undef = v := by
  simp only [Act.put]
  rw [Array.getElem?_setIfInBounds_self_of_lt hlt]; rfl
end
end Go.Proofs.YtbnbogdglffkmaaGreatDoor

/-! ZB: A fresh box of a term, and what is stored into it. Plain lemmas. -/
namespace Go.Proofs.YtbnbogdglffkmaaGreatDoor
open Go.RowKit Go.Deep

/-- A fresh box. -/
structure Zb (b : Nat) (wn : World) : Prop where
  lt : b < wn.heap.size
  z0 : wn.cell? ⟨b, 0, none⟩ = some (.int .i64 0)
  z1 : wn.cell? ⟨b, 1, none⟩ = some (.int .i64 0)
  z2 : wn.cell? ⟨b, 2, none⟩ = some (.slice none 0 0)
  f : ∀ o, wn.frozen? ⟨b, o, none⟩ = false
theorem zb_new (X : World) : Zb X.heap.size (X.alloc (.cells #[.int .i64 0, .int .i64 0, .slice none 0 0] 25)) := by
  refine ⟨by simp, ?_, ?_, ?_, fun o => ?_⟩
  iterate 3
    rw [World.cell?_alloc_at _ _ _ _ rfl]; rfl
  rw [World.frozen?_alloc_at _ _ _ _ rfl]
theorem Zb.low {b : Nat} {wn wm : World} (h : Zb b wn) (hb : Below wn.heap.size wn wm) : Zb b wm :=
  ⟨Nat.lt_of_lt_of_le h.lt hb.size, cell_low hb h.z0, cell_low hb h.z1, cell_low hb h.z2, fun o => (hb.frozen h.lt).trans (h.f o)⟩
theorem box_set {b : Nat} {wn : World} (h : Zb b wn) (x y z : Value) : (((wn.setCell ⟨b, 0, none⟩ x).setCell ⟨b, 1, none⟩ y).setCell ⟨b, 2, none⟩ z).cell? ⟨b, 0, none⟩ = some x ∧ (((wn.setCell ⟨b, 0, none⟩ x).setCell ⟨b, 1, none⟩ y).setCell ⟨b, 2, none⟩ z).cell? ⟨b, 1, none⟩ = some y ∧ (((wn.setCell ⟨b, 0, none⟩ x).setCell ⟨b, 1, none⟩ y).setCell ⟨b, 2, none⟩ z).cell? ⟨b, 2, none⟩ = some z := by
  have d01 : (⟨b, 0, none⟩ : Addr) ≠ ⟨b, 1, none⟩ := by intro e; have := congrArg Addr.off e; simp at this
  have d02 : (⟨b, 0, none⟩ : Addr) ≠ ⟨b, 2, none⟩ := by intro e; have := congrArg Addr.off e; simp at this
  have d12 : (⟨b, 1, none⟩ : Addr) ≠ ⟨b, 2, none⟩ := by intro e; have := congrArg Addr.off e; simp at this
  refine ⟨?_, ?_, ?_⟩
  · rw [World.cell?_setCell_other _ _ _ _ d02.symm, World.cell?_setCell_other _ _ _ _ d01.symm]
    exact World.cell?_setCell_same _ _ _ h.z0
  · rw [World.cell?_setCell_other _ _ _ _ d12.symm]
    refine World.cell?_setCell_same _ _ _ (?_ : _ = some (.int .i64 0))
    rw [World.cell?_setCell_other _ _ _ _ d01]
    exact h.z1
  · refine World.cell?_setCell_same _ _ _ (?_ : _ = some (.slice none 0 0))
    rw [World.cell?_setCell_other _ _ _ _ d12, World.cell?_setCell_other _ _ _ _ d02]
    exact h.z2
theorem Sl.set3 {wn : World} {lo hi b : Nat} {a : Option Addr} {k : Fo} (h : Sl wn lo hi a k) (hb : b < lo ∨ hi ≤ b) (x y z : Value) : Sl (((wn.setCell ⟨b, 0, none⟩ x).setCell ⟨b, 1, none⟩ y).setCell ⟨b, 2, none⟩ z) lo hi a k := by
  have h0 : Same lo hi wn wn := fun _ _ _ => rfl
  exact h.same (((h0.setCell hb _).setCell hb _).setCell hb _)
/-- What is stored into a fresh box stands there; the rest is as it was. -/
theorem zb_fin {wr wz : World} {b lo hi : Nat} {s v : Int} {a : Option Addr} {c : Nat} {k : Fo} (hz : Zb b wz) (hb : Below wr.heap.size wr wz) (hlo : wr.heap.size ≤ b) (hl : Sl wz lo hi a k) (hh : hi ≤ wz.heap.size) (hd : b < lo ∨ hi ≤ b) :
    Below wr.heap.size wr (((wz.setCell ⟨b, 0, none⟩ (.int .i64 s)).setCell ⟨b, 1, none⟩ (.int .i64 v)).setCell ⟨b, 2, none⟩ (.slice a (flen k) c)) ∧ Tb b s v a c k (((wz.setCell ⟨b, 0, none⟩ (.int .i64 s)).setCell ⟨b, 1, none⟩ (.int .i64 v)).setCell ⟨b, 2, none⟩ (.slice a (flen k) c)) := by
  obtain ⟨h0, h1, h2⟩ := box_set hz (.int .i64 s) (.int .i64 v) (.slice a (flen k) c)
  exact ⟨((hb.setCell hlo _).setCell hlo _).setCell hlo _, h0, h1, h2, (hl.set3 hd _ _ _).mono (Nat.zero_le _) (by simpa using hh)⟩
end Go.Proofs.YtbnbogdglffkmaaGreatDoor
