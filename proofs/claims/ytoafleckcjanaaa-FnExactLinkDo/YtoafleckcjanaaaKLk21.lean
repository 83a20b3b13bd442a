/- Several texts in one: PO, Mix2, Mix3, TY. -/
import Derived.Test.YtoafleckcjanaaaKLk18
import Derived.Test.YtoafleckcjanaaaKLk11
import Derived.Test.YtoafleckcjanaaaKLk5

/-! PO: partOf. -/
namespace Go.Proofs.Ytoafleckcjanaaa
open Go.RowKit Go.Deep

theorem OwR.drop {w : World} : ∀ (n : Nat) (k : Fo) (b o : Nat) (P : Nat → Prop), OwR w k b o P → ∃ P', OwR w (fdrop n k) b (o + n * 3) P' ∧ ∀ x, P' x → P x
  | 0, k, b, o, P, h => ⟨P, by simpa [fdrop] using h, fun _ h => h⟩
  | _ + 1, .nil, _, _, P, _ => ⟨P, trivial, fun _ h => h⟩
  | n + 1, .node _ _ _ _ r, b, o, _, ⟨_, _, _, _, _, P2, _, g2, _, _, _, h⟩ => by
    obtain ⟨P', h', hs⟩ := OwR.drop n r b (o + 3) P2 h
    exact ⟨P', by rw [fdrop, show o + (n + 1) * 3 = o + 3 + n * 3 from by omega]; exact h', fun x hx => g2 x (hs x hx)⟩
theorem fat_app : ∀ (p q : List Int) (s v : Int) (k : Fo), fat s v k (p ++ q) = (fat s v k p).bind fun x => fat x.1 x.2.1 x.2.2 q
  | [], _, _, _, _ => rfl
  | i :: p, q, s, v, k => by
    by_cases hi : 0 ≤ i ∧ i < (flen k : Int)
    · obtain ⟨b, o, s', v', kk, e⟩ := fdrop_succ i.toNat k (by omega)
      have hin : i = (i.toNat : Int) := by omega
      rw [List.cons_append, hin, fat_step (by omega) e, fat_step (by omega) e]
      exact fat_app p q s' v' kk
    · rw [List.cons_append, fat_out hi, fat_out hi]; rfl
theorem take_drop_at {place : List Int} {j : Nat} {x : Int} (h : place[j]? = some x) : place = place.take j ++ x :: place.drop (j + 1) := by
  obtain ⟨hj, rfl⟩ := List.getElem?_eq_some_iff.1 h
  rw [← List.drop_eq_getElem_cons hj, List.take_append_drop]
theorem take_next {place : List Int} {j : Nat} {x : Int} (h : place[j]? = some x) : place.take (j + 1) = place.take j ++ [x] := by rw [List.take_add_one, h]; rfl

def PoPost (P0 : Nat → Prop) (s v : Int) (k : Fo) (b o : Nat) (place : List Int) (w : World) (e : Ending) (w' : World) : Prop :=
  w' = w ∧ ((fat s v k place = none ∧ e = .returned (.pointer none)) ∨ ∃ b' o' s' v' k' x y r P, fat s v k place = some (s', v', k') ∧ e = .returned (.pointer (some ⟨b', o', none⟩)) ∧ Way w place b o b' o' ∧ OwR w (.node x y (s', v') k' r) b' o' P ∧ ∀ z, P z → P0 z)

set_option maxRecDepth 100000 in
set_option maxHeartbeats 1000000 in
theorem partOf_any (s v : Int) (k : Fo) (x0 y0 : Nat) (r0 : Fo) (b o : Nat) (P : Nat → Prop) (pA : Option Addr) (pC : Nat) (place : List Int) (w : World) (ho : OwR w (.node x0 y0 (s, v) k r0) b o P) (hp : ISl w 0 w.heap.size pA place) (hpl : place.length ≤ 1048576) :
    Calls Try.prog 96 #[.pointer (some ⟨b, o, none⟩), .slice pA place.length pC] w (PoPost P s v k b o place w) := by
  have HO := Lib.hid ho
  have HP := Lib.hid hp
  clear ho hp
  go_enter Try.func96, Try.ntmps96
  go_wp2_with fail
  go_loopw [0, 9] (fun t i wr => wr = w ∧ ∃ (j b' o' : Nat) (s' v' : Int) (k' : Fo) (x y : Nat) (r : Fo) (P' : Nat → Prop), t = .pointer (some ⟨b', o', none⟩) ∧ i = .int .i64 j ∧ j ≤ place.length ∧ Hid (Way w (place.take j) b o b' o') ∧ Hid (fat s v k (place.take j) = some (s', v', k')) ∧ Hid (OwR w (.node x y (s', v') k' r) b' o' P' ∧ ∀ z, P' z → P z)) (fun _ i _ => place.length - (intOf i).toNat)
  case atStart => exact ⟨rfl, 0, b, o, s, v, k, x0, y0, r0, P, rfl, rfl, Nat.zero_le _, ⟨rfl, rfl⟩, rfl, HO.out, fun _ h => h⟩
  case round =>
    obtain ⟨rfl, j, b', o', s', v', k', x, y, r, P', rfl, rfl, hj, HW, HF, HR⟩ := hrel
    by_cases hlt : j < place.length
    · obtain ⟨i, hi⟩ : ∃ i, place[j]? = some i := ⟨place[j], List.getElem?_eq_getElem hlt⟩
      rcases HP.out with hpn | ⟨pb, po, rfl, _, _, hc⟩
      · rw [hpn] at hlt; simp at hlt
      have hcj := hc j i hi
      have HI := Lib.hid hi
      clear hc hi
      have g1 : (0 : Int) ≤ (j : Int) := by omega
      have g2 : (j : Int) < (place.length : Int) := by omega
      obtain ⟨⟨⟨c0, c1⟩, _, a, c, P1, P2, g10, _, _, c2, hk, _⟩, hsub⟩ := HR.out
      by_cases hin : 0 ≤ i ∧ i < (flen k' : Int)
      · obtain ⟨n, rfl⟩ : ∃ n : Nat, i = n := ⟨i.toNat, by omega⟩
        have hn : n < flen k' := by omega
        rcases hk with hk | ⟨b1, P3, rfl, _, _, g13, hrow⟩
        · subst hk; simp [flen] at hn
        obtain ⟨P4, hdr, h4⟩ := hrow.drop n
        obtain ⟨x', y', s1, v1, kk, hd⟩ := fdrop_succ n k' hn
        rw [hd] at hdr
        have HR2 := Lib.hid (And.intro hdr (fun z hz => hsub z (g10 z (g13 z (h4 z hz)))))
        have d1 : decide ((n : Int) < 0) = false := by simp
        have d2 : decide ((n : Int) ≥ (flen k' : Int)) = false := by simp; omega
        have g3 : (0 : Int) ≤ (n : Int) := by omega
        have g4 : (n : Int) < (flen k' : Int) := by omega
        have HW2 : Hid (Way wr (place.take (j + 1)) b o b1 (n * 3)) := by
          rw [Hid, take_next HI.out]
          have := HW.out.snoc c2 (i := (n : Int)) (by omega)
          simpa using this
        have HF2 : Hid (fat s v k (place.take (j + 1)) = some (s1, v1, kk)) := by
          rw [Hid, take_next HI.out, fat_app, HF.out]
          show fat s' v' k' [(n : Int)] = _
          rw [fat_step hn hd]; rfl
        clear hrow hdr hd c0 c1 hin h4 g13 hsub g10
        go_wp2_with fail
        go_roundw
        case rel => exact ⟨by trivial, j + 1, b1, n * 3, s1, v1, kk, x', y', _, P4, rfl, by go_num, by omega, HW2, HF2, by have := HR2.out.1; rwa [Nat.zero_add] at this, HR2.out.2⟩
        case measure => simp [intOf]; omega
      · have HN : Hid (fat s v k place = none) := by
          rw [Hid, take_drop_at HI.out, fat_app, HF.out]
          exact fat_out (s := s') (v := v') hin
        clear hk hsub g10
        by_cases hneg : i < 0
        · have d1 : decide (i < 0) = true := by simpa using hneg
          go_wp2_with fail
          go_ret
          exact ⟨rfl, .inl ⟨HN.out, rfl⟩⟩
        · have d1 : decide (i < 0) = false := by simpa using hneg
          have d2 : decide (i ≥ (flen k' : Int)) = true := by simp; omega
          go_wp2_with fail
          go_ret
          exact ⟨rfl, .inl ⟨HN.out, rfl⟩⟩
    · obtain rfl : j = place.length := by omega
      have HW2 : Hid (Way wr place b o b' o') := by have := HW.out; rwa [List.take_length] at this
      have HF2 : Hid (fat s v k place = some (s', v', k')) := by have := HF.out; rwa [List.take_length] at this
      go_wp2_with fail
      go_ret
      exact ⟨rfl, .inr ⟨b', o', s', v', k', x, y, r, P', HF2.out, rfl, HW2.out, HR.out.1, HR.out.2⟩⟩
end Go.Proofs.Ytoafleckcjanaaa

/-! Mix2: Regions that draw their order and end in two stores, either of which may come first. No condition. -/
namespace Go.Proofs.Ytoafleckcjanaaa

section
variable {P : Program} {ops : Array Oper} {Q : Exit → Act → World → Prop} {md : Region.Mode} {S : World → Prop} {late : List Nat}

/-- What reads no memory may be taken first, whatever has come up. -/
theorem wpAnyT_look {i : Nat} {oi : Oper} {v : Value} (hi : ops[i]? = some oi) (hsel : ∀ (j : Nat) (o : Oper) cs b, ops[j]? = some o → o.op ≠ .select cs b)
    (hQ : ∀ c a w, Q (.panic c) (a.put oi.dst v) w → Q (.panic c) a w) (hil : i ∉ late) :
    ∀ (fuel : Nat) (listed : Array Bool) (a : Act) (w : World),
      (∀ j oj, ops[j]? = some oj → j ≠ i → listed.getD j true = false → (∀ e ∈ oj.after, Region.binds md e = true → e.on ≠ i) → oi.apart ops oj = true) →
      i ∈ Region.ready md ops listed → YieldsIf P ops (fun _ => True) oi v a → ((∃ j ∈ late, listed.getD j false = true) ∨ S w) →
      wpAnyT P md ops Q S late fuel (listed.setIfInBounds i true) (a.put oi.dst v) w → wpAnyT P md ops Q S late (fuel + 1) listed a w := by
  have cur : ∀ (listed : Array Bool) (w : World), ((∃ j ∈ late, listed.getD j false = true) ∨ S w) → (∃ j ∈ late, (listed.setIfInBounds i true).getD j false = true) ∨ S w := fun listed w h => h.imp (fun ⟨k, hk, hl⟩ => ⟨k, hk, by
    have hne : i ≠ k := fun e => hil (by rw [e]; exact hk)
    rw [getD_set_ne false hne]; exact hl⟩) id
  intro fuel
  induction fuel with
  | zero =>
    intro listed a w _ hr hy hS H
    refine ⟨fun h => (by rw [h] at hr; cases hr), fun j hj => ?_⟩
    by_cases hji : j = i
    · subst hji; exact hy.wpOp hi trivial ⟨cur _ _ hS, H⟩
    · have := ready_mono hj hji
      rw [H.1] at this
      cases this
  | succ fuel ih =>
    intro listed a w hfree hr hy hS H
    refine ⟨fun h => (by rw [h] at hr; cases hr), fun j hj => ?_⟩
    by_cases hji : j = i
    · subst hji; exact hy.wpOp hi trivial ⟨cur _ _ hS, H⟩
    · have h1 := H.2 j (ready_mono hj hji)
      obtain ⟨hjun, oj, hoj, hall⟩ := mem_ready.1 hj
      have hiun := listed_no (mem_ready.1 hr).1
      have hnot : ∀ e ∈ oj.after, Region.binds md e = true → e.on ≠ i := fun e he hb heq => by
        have h1 := hall e he hb
        rw [heq, hiun] at h1
        cases h1
      have h2 := wpOp_putIf hoj (hfree j oj hoj hji hjun hnot) (fun cs b => hsel i oi cs b hi) (fun cs b => hsel j oj cs b hoj) hQ hy h1
      have hfree' : ∀ k ok, ops[k]? = some ok → k ≠ i → (listed.setIfInBounds j true).getD k true = false →
          (∀ e ∈ ok.after, Region.binds md e = true → e.on ≠ i) → oi.apart ops ok = true := fun k ok hk hki hun hno => by
        refine hfree k ok hk hki ?_ hno
        by_cases hjk : j = k
        · subst hjk; exact hjun
        · rw [getD_set_ne true hjk] at hun; exact hun
      refine wpOp_mono (fun a' w' h3 => ?_) h2
      have hS' : (∃ k ∈ late, (listed.setIfInBounds j true).getD k false = true) ∨ S w' := h3.2.1.imp (fun ⟨k, hk, hl⟩ => ⟨k, hk, by
        have hne2 : i ≠ k := fun e => hil (by rw [e]; exact hk)
        rw [Array.setIfInBounds_comm _ _ (Ne.symm hji), getD_set_ne false hne2] at hl
        exact hl⟩) id
      refine ⟨hS', ih (listed.setIfInBounds j true) a' w' hfree' (ready_mono hr (Ne.symm hji)) h3.1 hS' ?_⟩
      rw [Array.setIfInBounds_comm _ _ hji]
      exact h3.2.2

/-- A step of the walk: an operation that only looks (0), one behind which S is shown anew (1), one that reads no memory (2); in the end the two last ones, in either order. -/
def wpMixP (P : Program) (ops : Array Oper) (Q : Exit → Act → World → Prop) (S : World → Prop) (p q : Nat) : List (Nat × Nat) → Act → World → Prop
  | [], a, w => wpOp P ops Q p (fun a w => wpOp P ops Q q (fun a w => Q .normal a w) a w) a w ∧ wpOp P ops Q q (fun a w => wpOp P ops Q p (fun a w => Q .normal a w) a w) a w
  | (i, 0) :: rest, a, w => ∃ o v, ops[i]? = some o ∧ YieldsIf P ops S o v a ∧ wpMixP P ops Q S p q rest (a.put o.dst v) w
  | (i, 1) :: rest, a, w => wpOp P ops Q i (fun a' w' => S w' ∧ wpMixP P ops Q S p q rest a' w') a w
  | (i, _ + 2) :: rest, a, w => ∃ o v, ops[i]? = some o ∧ YieldsIf P ops (fun _ => True) o v a ∧ wpMixP P ops Q S p q rest (a.put o.dst v) w

def mixP (md : Region.Mode) (ops : Array Oper) (p q : Nat) : List (Nat × Nat) → Array Bool → Bool
  | [], listed => (Region.ready md ops listed == [p, q]) && (Region.ready md ops (listed.setIfInBounds p true) == [q]) && (Region.ready md ops (listed.setIfInBounds q true) == [p]) && (Region.ready md ops ((listed.setIfInBounds p true).setIfInBounds q true)).isEmpty &&
      (Region.ready md ops ((listed.setIfInBounds q true).setIfInBounds p true)).isEmpty && decide (p < listed.size) && decide (q < listed.size)
  | (i, 0) :: rest, listed => (Region.ready md ops listed).contains i && Region.free md ops listed i &&
      [p, q].all (fun j => match ops[j]? with | some oj => oj.after.any (fun e => Region.binds md e && e.on == i) | none => false) && [p, q].all (fun j => !(listed.getD j false)) && mixP md ops p q rest (listed.setIfInBounds i true)
  | (i, 1) :: rest, listed => (Region.ready md ops listed == [i]) && mixP md ops p q rest (listed.setIfInBounds i true)
  | (i, _ + 2) :: rest, listed => (Region.ready md ops listed).contains i && Region.free md ops listed i && !([p, q].contains i) && mixP md ops p q rest (listed.setIfInBounds i true)

theorem wpAnyT_mixP {p q : Nat} (hs : Region.noSelect ops = true) (hQ : ∀ c a w, ¬ Q (.panic c) a w) : ∀ (l : List (Nat × Nat)) (listed : Array Bool) (a : Act) (w : World), mixP md ops p q l listed = true → S w →
    wpMixP P ops Q S p q l a w → wpAnyT P md ops Q S [p, q] (l.length + 2) listed a w
  | [], listed, a, w, hB, hS, h => by
    simp only [mixP, Bool.and_eq_true, beq_iff_eq, decide_eq_true_eq, List.isEmpty_iff] at hB
    obtain ⟨⟨⟨⟨⟨⟨h1, h2⟩, h3⟩, h4⟩, h5⟩, h6⟩, h7⟩ := hB
    have lp : ∀ (l' : Array Bool) (r : Nat), r < l'.size → (l'.setIfInBounds r true).getD r false = true := fun l' r hr => by simp [hr]
    refine ⟨fun h0 => (by rw [h1] at h0; cases h0), fun j hj => ?_⟩
    rw [h1] at hj
    simp only [List.mem_cons, List.not_mem_nil, or_false] at hj
    rcases hj with rfl | rfl
    · refine wpOp_mono (fun a' w' h' => ⟨.inl ⟨j, by simp, lp _ _ h6⟩, ⟨fun h0 => (by rw [h2] at h0; cases h0), fun k hk => ?_⟩⟩) h.1
      rw [h2] at hk
      simp only [List.mem_singleton] at hk
      subst hk
      exact wpOp_mono (fun a' w' h' => ⟨.inl ⟨k, by simp, lp _ _ (by simpa using h7)⟩, ⟨h4, h'⟩⟩) h'
    · refine wpOp_mono (fun a' w' h' => ⟨.inl ⟨j, by simp, lp _ _ h7⟩, ⟨fun h0 => (by rw [h3] at h0; cases h0), fun k hk => ?_⟩⟩) h.2
      rw [h3] at hk
      simp only [List.mem_singleton] at hk
      subst hk
      exact wpOp_mono (fun a' w' h' => ⟨.inl ⟨k, by simp, lp _ _ (by simpa using h6)⟩, ⟨h5, h'⟩⟩) h'
  | (i, 0) :: rest, listed, a, w, hB, hS, ⟨o, v, ho, hy, h⟩ => by
    simp only [mixP, Bool.and_eq_true] at hB
    obtain ⟨⟨⟨⟨h2, h3⟩, h4⟩, h5⟩, h6⟩ := hB
    refine wpAnyT_first ho (Region.noSelect_spec hs) (fun c a w h => absurd h (hQ c _ w)) (fun j hj => ?_) (rest.length + 2) listed a w (Region.free_spec ho h3) (by simpa using h2) hy hS (fun j hj => ?_) (wpAnyT_mixP hs hQ rest _ _ w h6 hS h)
    · have := List.all_eq_true.1 h4 j hj
      split at this
      · rename_i oj hoj
        obtain ⟨e, he, hb⟩ := Array.any_eq_true'.1 this
        simp only [Bool.and_eq_true, beq_iff_eq] at hb
        exact ⟨oj, hoj, e, he, hb⟩
      · cases this
    · have := List.all_eq_true.1 h5 j hj
      simpa using this
  | (i, 1) :: rest, listed, a, w, hB, hS, h => by
    simp only [mixP, Bool.and_eq_true, beq_iff_eq] at hB
    refine ⟨fun h0 => (by rw [hB.1] at h0; cases h0), fun j hj => ?_⟩
    rw [hB.1] at hj
    simp only [List.mem_singleton] at hj
    subst hj
    exact wpOp_mono (fun a' w' h' => ⟨.inr h'.1, wpAnyT_mixP hs hQ rest _ a' w' hB.2 h'.1 h'.2⟩) h
  | (i, _ + 2) :: rest, listed, a, w, hB, hS, ⟨o, v, ho, hy, h⟩ => by
    simp only [mixP, Bool.and_eq_true] at hB
    obtain ⟨⟨⟨h2, h3⟩, h4⟩, h6⟩ := hB
    exact wpAnyT_look ho (Region.noSelect_spec hs) (fun c a w h => absurd h (hQ c _ w)) (by simpa using h4) (rest.length + 2) listed a w (Region.free_spec ho h3) (by simpa using h2) hy (.inr hS) (wpAnyT_mixP hs hQ rest _ _ w h6 hS h)

/-- The region, walked in one order but for its two last stores. -/
theorem wp_region_mixP {id : Nat} {a : Act} {w : World} (S : World → Prop) (p q : Nat) (l : List (Nat × Nat)) (hm : P.follows .mixedOrders = true) (hB : (Region.noSelect ops && (l.length + 2 == ops.size) && mixP .any ops p q l (Array.replicate ops.size false)) = true)
    (hS : S w.drew) (h : wpMixP P ops (QN Q) S p q l a w.drew) : (Code.region id ops true).wp P Q a w := by
  simp only [Bool.and_eq_true, beq_iff_eq] at hB
  obtain ⟨⟨h1, h2⟩, h3⟩ := hB
  refine Code.wp_mono (Q := QN Q) (fun e a w h => by cases e <;> first | exact h | exact h.elim) ?_
  refine wp_region_any hm (wpAny_of_T (S := S) (late := [p, q]) _ _ _ _ ?_)
  rw [← h2]
  exact wpAnyT_mixP h1 (fun c a w h => h) l _ a _ (by rw [h2]; exact h3) hS h

theorem mixp_see {p q i : Nat} {rest : List (Nat × Nat)} {a : Act} {w : World} {o : Oper} (ho : ops[i]? = some o)
    (h : ∀ K : Act → Prop, (∀ a', wpMixP P ops Q S p q rest a' w → K a') → if Region.wanted o (yielded ops a.tmps) = true then ∃ v, (∀ w, S w → (execOp a.eval o).run P w = .ok (.value v) w) ∧ K (a.put o.dst v) else K (a.put o.dst undef)) : wpMixP P ops Q S p q ((i, 0) :: rest) a w := by
  have := h (fun a' => wpMixP P ops Q S p q rest a' w) (fun _ h => h)
  split at this
  · rename_i hw
    obtain ⟨v, h1, h2⟩ := this
    exact ⟨o, v, ho, .inl ⟨hw, h1⟩, h2⟩
  · rename_i hw
    exact ⟨o, undef, ho, .inr ⟨by simpa using hw, rfl⟩, this⟩
theorem mixp_any {p q i : Nat} {rest : List (Nat × Nat)} {a : Act} {w : World} {o : Oper} (ho : ops[i]? = some o)
    (h : ∀ K : Act → Prop, (∀ a', wpMixP P ops Q S p q rest a' w → K a') → if Region.wanted o (yielded ops a.tmps) = true then ∃ v, (∀ w, True → (execOp a.eval o).run P w = .ok (.value v) w) ∧ K (a.put o.dst v) else K (a.put o.dst undef)) : wpMixP P ops Q S p q ((i, 2) :: rest) a w := by
  have := h (fun a' => wpMixP P ops Q S p q rest a' w) (fun _ h => h)
  split at this
  · rename_i hw
    obtain ⟨v, h1, h2⟩ := this
    exact ⟨o, v, ho, .inl ⟨hw, h1⟩, h2⟩
  · rename_i hw
    exact ⟨o, undef, ho, .inr ⟨by simpa using hw, rfl⟩, this⟩
theorem mixp_hold {p q i : Nat} {rest : List (Nat × Nat)} {a : Act} {w : World} {o : Oper} (ho : ops[i]? = some o)
    (h : ∀ K : Act → World → Prop, (∀ a' w', S w' → wpMixP P ops Q S p q rest a' w' → K a' w') → if Region.wanted o (yielded ops a.tmps) = true then o.wp P a w K Q else K (a.put o.dst undef) w) : wpMixP P ops Q S p q ((i, 1) :: rest) a w := by
  have := h (fun a' w' => S w' ∧ wpMixP P ops Q S p q rest a' w') (fun _ _ h1 h2 => ⟨h1, h2⟩)
  show wpOp P ops Q i _ a w
  unfold wpOp
  simp only [ho]
  split at this
  · rename_i hw; rw [if_pos hw]; exact .inl this
  · rename_i hw; rw [if_neg hw]; exact this
/-- One of the two last ones. -/
theorem mixp_op {i : Nat} {a : Act} {w : World} {o : Oper} {R : Act → World → Prop} (ho : ops[i]? = some o)
    (h : ∀ K : Act → World → Prop, (∀ a' w', R a' w' → K a' w') → if Region.wanted o (yielded ops a.tmps) = true then o.wp P a w K Q else K (a.put o.dst undef) w) : wpOp P ops Q i R a w := by
  have := h R (fun _ _ h => h)
  unfold wpOp
  simp only [ho]
  split at this
  · rename_i hw; rw [if_pos hw]; exact .inl this
  · rename_i hw; rw [if_neg hw]; exact this
theorem mixp_end {p q : Nat} {a : Act} {w : World} (h1 : wpOp P ops (QN Q) p (fun a w => wpOp P ops (QN Q) q (fun a w => Q .normal a w) a w) a w) (h2 : wpOp P ops (QN Q) q (fun a w => wpOp P ops (QN Q) p (fun a w => Q .normal a w) a w) a w) : wpMixP P ops (QN Q) S p q [] a w := ⟨h1, h2⟩
end
end Go.Proofs.Ytoafleckcjanaaa

/-! Mix3: Regions that draw their order, walked order by order; what only looks is taken first. No condition. -/
namespace Go.Proofs.Ytoafleckcjanaaa

section
variable {P : Program} {ops : Array Oper} {Q : Exit → Act → World → Prop} {S : World → Prop}

theorem wp_region_anyT {id : Nat} {a : Act} {w : World} (S : World → Prop) (hm : P.follows .mixedOrders = true) (h : wpAnyT P .any ops (QN Q) S [] ops.size (Array.replicate ops.size false) a w.drew) : (Code.region id ops true).wp P Q a w := by
  refine Code.wp_mono (Q := QN Q) (fun e a w h => by cases e <;> first | exact h | exact h.elim) ?_
  exact wp_region_any hm (wpAny_of_T (S := S) (late := []) _ _ _ _ h)

theorem anyT_look {fuel : Nat} {listed : Array Bool} {i : Nat} {a : Act} {w : World} {o : Oper} (ho : ops[i]? = some o) (hB : (Region.noSelect ops && (Region.ready .any ops listed).contains i && Region.free .any ops listed i) = true) (hS : S w)
    (h : ∀ K : Act → Prop, (∀ a', wpAnyT P .any ops (QN Q) S [] fuel (listed.setIfInBounds i true) a' w → K a') → if Region.wanted o (yielded ops a.tmps) = true then ∃ v, (∀ w, S w → (execOp a.eval o).run P w = .ok (.value v) w) ∧ K (a.put o.dst v) else K (a.put o.dst undef)) :
    wpAnyT P .any ops (QN Q) S [] (fuel + 1) listed a w := by
  simp only [Bool.and_eq_true] at hB
  obtain ⟨⟨h1, h2⟩, h3⟩ := hB
  have := h (fun a' => wpAnyT P .any ops (QN Q) S [] fuel (listed.setIfInBounds i true) a' w) (fun _ h => h)
  split at this
  · rename_i hw
    obtain ⟨v, h4, h5⟩ := this
    exact wpAnyT_first ho (Region.noSelect_spec h1) (fun c a w h => h.elim) (fun j hj => by cases hj) fuel listed a w (Region.free_spec ho h3) (by simpa using h2) (.inl ⟨hw, h4⟩) hS (fun j hj => by cases hj) h5
  · rename_i hw
    exact wpAnyT_first (v := undef) ho (Region.noSelect_spec h1) (fun c a w h => h.elim) (fun j hj => by cases hj) fuel listed a w (Region.free_spec ho h3) (by simpa using h2) (.inr ⟨by simpa using hw, rfl⟩) hS (fun j hj => by cases hj) this

theorem anyT_op {fuel : Nat} {listed : Array Bool} {i : Nat} {a : Act} {w : World} {o : Oper} (ho : ops[i]? = some o)
    (h : ∀ K : Act → World → Prop, (∀ a' w', S w' → wpAnyT P .any ops Q S [] fuel (listed.setIfInBounds i true) a' w' → K a' w') → if Region.wanted o (yielded ops a.tmps) = true then o.wp P a w K Q else K (a.put o.dst undef) w) :
    wpOp P ops Q i (fun a' w' => ((∃ j ∈ ([] : List Nat), (listed.setIfInBounds i true).getD j false = true) ∨ S w') ∧ wpAnyT P .any ops Q S [] fuel (listed.setIfInBounds i true) a' w') a w := by
  have := h (fun a' w' => ((∃ j ∈ ([] : List Nat), (listed.setIfInBounds i true).getD j false = true) ∨ S w') ∧ wpAnyT P .any ops Q S [] fuel (listed.setIfInBounds i true) a' w') (fun _ _ h1 h2 => ⟨.inr h1, h2⟩)
  unfold wpOp
  simp only [ho]
  split at this
  · rename_i hw; rw [if_pos hw]; exact .inl this
  · rename_i hw; rw [if_neg hw]; exact this

/-- One operation may come up. -/
theorem anyT_one {fuel : Nat} {listed : Array Bool} {i : Nat} {a : Act} {w : World} {o : Oper} (hB : Region.ready .any ops listed = [i]) (ho : ops[i]? = some o)
    (h : ∀ K : Act → World → Prop, (∀ a' w', S w' → wpAnyT P .any ops (QN Q) S [] fuel (listed.setIfInBounds i true) a' w' → K a' w') → if Region.wanted o (yielded ops a.tmps) = true then o.wp P a w K (QN Q) else K (a.put o.dst undef) w) :
    wpAnyT P .any ops (QN Q) S [] (fuel + 1) listed a w := by
  refine ⟨fun h0 => (by rw [hB] at h0; cases h0), fun k hk => ?_⟩
  rw [hB] at hk
  simp only [List.mem_singleton] at hk
  subst hk
  exact anyT_op ho h
/-- One of two may come up. -/
theorem anyT_two {fuel : Nat} {listed : Array Bool} {i j : Nat} {a : Act} {w : World} {o o' : Oper} (hB : Region.ready .any ops listed = [i, j]) (ho : ops[i]? = some o) (ho' : ops[j]? = some o')
    (h : ∀ K : Act → World → Prop, (∀ a' w', S w' → wpAnyT P .any ops (QN Q) S [] fuel (listed.setIfInBounds i true) a' w' → K a' w') → if Region.wanted o (yielded ops a.tmps) = true then o.wp P a w K (QN Q) else K (a.put o.dst undef) w)
    (h' : ∀ K : Act → World → Prop, (∀ a' w', S w' → wpAnyT P .any ops (QN Q) S [] fuel (listed.setIfInBounds j true) a' w' → K a' w') → if Region.wanted o' (yielded ops a.tmps) = true then o'.wp P a w K (QN Q) else K (a.put o'.dst undef) w) :
    wpAnyT P .any ops (QN Q) S [] (fuel + 1) listed a w := by
  refine ⟨fun h0 => (by rw [hB] at h0; cases h0), fun k hk => ?_⟩
  rw [hB] at hk
  simp only [List.mem_cons, List.not_mem_nil, or_false] at hk
  rcases hk with rfl | rfl
  · exact anyT_op ho h
  · exact anyT_op ho' h'
theorem anyT_done {listed : Array Bool} {a : Act} {w : World} (hB : Region.ready .any ops listed = []) (h : Q .normal a w) : wpAnyT P .any ops (QN Q) S [] 0 listed a w := ⟨hB, h⟩
end

/-- Cells that a store elsewhere leaves. -/
theorem seen_set {l : List (Addr × Value)} {w : World} (h : ∀ p, p ∈ l → w.cell? p.1 = some p.2) {n : Nat} (hn : ∀ p, p ∈ l → p.1.block ≠ n) (i : Nat) (x : Value) : ∀ p, p ∈ l → (w.setCell ⟨n, i, none⟩ x).cell? p.1 = some p.2 := fun p hp => by
  rw [World.cell?_setCell_other _ _ _ _ (by intro e; exact hn p hp (congrArg Addr.block e).symm)]
  exact h p hp
end Go.Proofs.Ytoafleckcjanaaa

/-! TY: Regions that draw their order, walked without a look at the order: each operation's result is of a kind, which a later step leaves. No condition. -/
namespace Go.Proofs.Ytoafleckcjanaaa

section
variable {P : Program} {ops : Array Oper} {Q : Exit → Act → World → Prop}

/-- What the form of the region must be: edges lead back, no two results in one place, each in its bounds. -/
def tyForm (ops : Array Oper) (n : Nat) : Bool :=
  (List.range ops.size).all fun i => match ops[i]? with
    | some o => (o.after.all fun e => !Region.binds .any e || decide (e.on < i)) && (match o.dst with | some d => decide (d < n) | none => true) &&
        ((List.range ops.size).all fun j => decide (j = i) || match ops[j]?, o.dst with | some oj, some d => !(oj.dst == some d) | _, _ => true)
    | none => true

theorem tyForm_at {n : Nat} (h : tyForm ops n = true) {i : Nat} {o : Oper} (hi : ops[i]? = some o) :
    (∀ e ∈ o.after, Region.binds .any e = true → e.on < i) ∧ (∀ d, o.dst = some d → d < n) ∧ (∀ (j : Nat) (oj : Oper) (d : Nat), ops[j]? = some oj → j ≠ i → o.dst = some d → oj.dst ≠ some d) := by
  have hlt : i < ops.size := (Array.getElem?_eq_some_iff.1 hi).1
  have := List.all_eq_true.1 h i (List.mem_range.2 hlt)
  rw [hi] at this
  simp only [Bool.and_eq_true] at this
  obtain ⟨⟨h1, h2⟩, h3⟩ := this
  refine ⟨fun e he hb => ?_, fun d hd => ?_, fun j oj d hj hne hd he => ?_⟩
  · have := Array.all_eq_true'.1 h1 e he
    simpa [hb] using this
  · rw [hd] at h2; simpa using h2
  · have hjl : j < ops.size := (Array.getElem?_eq_some_iff.1 hj).1
    have := List.all_eq_true.1 h3 j (List.mem_range.2 hjl)
    rw [hj, hd] at this
    simp [hne, he] at this

theorem ready_all {listed : Array Bool} (hf : ∀ (i : Nat) (o : Oper), ops[i]? = some o → ∀ e ∈ o.after, Region.binds .any e = true → e.on < i) (h : Region.ready .any ops listed = []) : ∀ i, i < ops.size → listed.getD i true = true := by
  intro i
  induction i using Nat.strongRecOn with
  | _ i ih =>
    intro hi
    cases hl : listed.getD i true with
    | true => rfl
    | false =>
      exfalso
      obtain ⟨o, ho⟩ : ∃ o, ops[i]? = some o := ⟨ops[i], Array.getElem?_eq_getElem hi⟩
      have hm : i ∈ Region.ready .any ops listed := by
        refine mem_ready.2 ⟨hl, o, ho, fun e he hb => ?_⟩
        have hlt := hf i o ho e he hb
        have := ih e.on hlt (by omega)
        rcases Nat.lt_or_ge e.on listed.size with h' | h'
        · simp [h'] at this ⊢; exact this
        · exfalso
          have h2 : listed.getD i true = true := by simp [Array.getElem?_eq_none (show listed.size ≤ i by omega)]
          rw [h2] at hl; cases hl
      rw [h] at hm
      cases hm

/-- Where the region stands. -/
structure TySt (ops : Array Oper) (T : Nat → Value → World → Prop) (S : Array Bool → Act → World → Prop) (a0 : Act) (listed : Array Bool) (a : Act) (w : World) : Prop where
  s : S listed a w
  lsize : listed.size = ops.size
  size : a.tmps.size = a0.tmps.size
  defers : a.defers = a0.defers
  done : ∀ (i : Nat) (o : Oper), ops[i]? = some o → listed.getD i true = true → ∀ d, o.dst = some d → T i (a.tmps.getD d undef) w
  closed : ∀ (i : Nat) (o : Oper), ops[i]? = some o → listed.getD i false = true → ∀ e ∈ o.after, Region.binds .any e = true → listed.getD e.on false = true
  rest : ∀ t, (∀ (i : Nat) (o : Oper), ops[i]? = some o → o.dst ≠ some t) → a.tmps.getD t undef = a0.tmps.getD t undef

theorem set_mono {listed : Array Bool} {i j : Nat} (h : listed.getD j false = true) : (listed.setIfInBounds i true).getD j false = true := by
  simp only [Array.getD_eq_getD_getElem?] at h ⊢
  by_cases e : i = j
  · subst e
    have hlt : i < listed.size := by
      rcases Nat.lt_or_ge i listed.size with h' | h'
      · exact h'
      · rw [Array.getElem?_eq_none h'] at h; cases h
    rw [Array.getElem?_setIfInBounds_self_of_lt hlt]; rfl
  · rwa [Array.getElem?_setIfInBounds_ne e]
theorem set_was {listed : Array Bool} {i j : Nat} (hne : i ≠ j) (h : (listed.setIfInBounds i true).getD j false = true) : listed.getD j false = true := by
  simp only [Array.getD_eq_getD_getElem?] at h ⊢
  rwa [Array.getElem?_setIfInBounds_ne hne] at h
theorem TySt.step {T : Nat → Value → World → Prop} {S : Array Bool → Act → World → Prop} {R : World → World → Prop} (hmono : ∀ i v w w', T i v w → R w w' → T i v w') {a0 a : Act} {listed : Array Bool} {w w' : World} (hform : tyForm ops a0.tmps.size = true) (h : TySt ops T S a0 listed a w) {i : Nat} {o : Oper}
    (hi : ops[i]? = some o) {v : Value} (hS : S (listed.setIfInBounds i true) (a.put o.dst v) w') (hR : R w w') (hT : ∀ d, o.dst = some d → T i v w') (hall : ∀ e ∈ o.after, Region.binds .any e = true → listed.getD e.on false = true) : TySt ops T S a0 (listed.setIfInBounds i true) (a.put o.dst v) w' := by
  obtain ⟨_, hd, hu⟩ := tyForm_at hform hi
  have hget : ∀ t, o.dst ≠ some t → (a.put o.dst v).tmps.getD t undef = a.tmps.getD t undef := fun t ht => by
    cases ho : o.dst with
    | none => rfl
    | some d =>
      have hne : d ≠ t := fun e => ht (by rw [ho, e])
      simp only [Act.put, Array.getD_eq_getD_getElem?]
      rw [Array.getElem?_setIfInBounds_ne hne]
  refine ⟨hS, by simpa using h.lsize, ?_, ?_, fun j oj hj hl d hdj => ?_, fun j oj hj hl e he hb => ?_, fun t ht => ?_⟩
  · cases ho : o.dst <;> simp [Act.put, h.size]
  · cases ho : o.dst <;> simp [Act.put, h.defers]
  · by_cases hji : j = i
    · subst hji
      rw [hi] at hj
      cases hj
      have hlt := hd d hdj
      rw [hdj]
      simp only [Act.put, Array.getD_eq_getD_getElem?]
      rw [Array.getElem?_setIfInBounds_self_of_lt (by rw [h.size]; exact hlt)]
      exact hT d hdj
    · rw [hget d (fun e => hu j oj d hj hji e hdj)]
      refine hmono _ _ _ _ (h.done j oj hj ?_ d hdj) hR
      simp only [Array.getD_eq_getD_getElem?] at hl ⊢
      rwa [Array.getElem?_setIfInBounds_ne (Ne.symm hji)] at hl
  · by_cases hji : j = i
    · subst hji
      rw [hi] at hj
      cases hj
      exact set_mono (hall e he hb)
    · exact set_mono (h.closed j oj hj (set_was (Ne.symm hji) hl) e he hb)
  · rw [hget t (ht i o hi)]
    exact h.rest t ht

theorem count_false_set {listed : Array Bool} {i n : Nat} (h : listed.getD i true = false) (hc : listed.toList.count false ≤ n + 1) : (listed.setIfInBounds i true).toList.count false ≤ n := by
  have hlt : i < listed.size := by
    rcases Nat.lt_or_ge i listed.size with h' | h'
    · exact h'
    · simp [Array.getElem?_eq_none h'] at h
  rw [Array.toList_setIfInBounds, List.count_set (by simpa using hlt)]
  have hv : listed.toList[i]'(by simpa using hlt) = false := by
    simp [hlt] at h
    simpa using h
  rw [hv, if_pos (show (false == false) = true from rfl), if_neg (show ¬ (true == false) = true by decide)]
  omega

theorem ty_getD {listed : Array Bool} {n : Nat} (hs : listed.size = n) (h : ∀ i, i < n → listed.getD i true = true) : ∀ i, i < n → listed.getD i false = true := fun i hi => by
  have := h i hi
  simp [show i < listed.size by omega] at this ⊢
  exact this
theorem ty_true {listed : Array Bool} {i : Nat} (h : listed.getD i false = true) : listed.getD i true = true := by
  simp only [Array.getD_eq_getD_getElem?] at h ⊢
  rcases Nat.lt_or_ge i listed.size with h' | h'
  · simp [h'] at h ⊢; exact h
  · simp [Array.getElem?_eq_none h']
theorem wpAny_typed {T : Nat → Value → World → Prop} {S : Array Bool → Act → World → Prop} {R : World → World → Prop} (hmono : ∀ i v w w', T i v w → R w w' → T i v w') {a0 : Act} (hform : tyForm ops a0.tmps.size = true)
    (hstep : ∀ (i : Nat) (o : Oper), ops[i]? = some o → ∀ (listed : Array Bool) (a : Act) (w : World), TySt ops T S a0 listed a w → listed.getD i true = false → (∀ e ∈ o.after, Region.binds .any e = true → listed.getD e.on true = true) →
      wpOp P ops (QN Q) i (fun a' w' => ∃ v, a' = a.put o.dst v ∧ S (listed.setIfInBounds i true) a' w' ∧ R w w' ∧ ∀ d, o.dst = some d → T i v w') a w)
    (hdone : ∀ (listed : Array Bool) (a : Act) (w : World), TySt ops T S a0 listed a w → (∀ i, i < ops.size → listed.getD i false = true) → Q .normal a w) :
    ∀ (n : Nat) (listed : Array Bool) (a : Act) (w : World), listed.size = ops.size → listed.toList.count false ≤ n → TySt ops T S a0 listed a w → wpAny P .any ops (QN Q) n listed a w := by
  have hf : ∀ (i : Nat) (o : Oper), ops[i]? = some o → ∀ e ∈ o.after, Region.binds .any e = true → e.on < i := fun i o hi => (tyForm_at hform hi).1
  intro n
  induction n with
  | zero =>
    intro listed a w hsz hc hst
    have hall : ∀ i, i < ops.size → listed.getD i true = true := fun i hi => by
      cases hl : listed.getD i true with
      | true => rfl
      | false =>
        exfalso
        have hlt : i < listed.size := by omega
        simp [hlt] at hl
        have : 0 < listed.toList.count false := List.count_pos_iff.2 (by rw [← hl]; exact Array.getElem_mem_toList hlt)
        omega
    refine ⟨?_, hdone listed a w hst (ty_getD hsz hall)⟩
    refine List.eq_nil_iff_forall_not_mem.2 fun i hi => ?_
    obtain ⟨h0, o, ho, _⟩ := mem_ready.1 hi
    rw [hall i (Array.getElem?_eq_some_iff.1 ho).1] at h0
    cases h0
  | succ n ih =>
    intro listed a w hsz hc hst
    refine ⟨fun h => hdone listed a w hst (ty_getD hsz (ready_all hf h)), fun i hi => ?_⟩
    obtain ⟨h0, o, ho, hall⟩ := mem_ready.1 hi
    have hlt : i < ops.size := (Array.getElem?_eq_some_iff.1 ho).1
    refine wpOp_mono (fun a' w' h' => ?_) (hstep i o ho listed a w hst h0 fun e he hb => ?_)
    · obtain ⟨v, rfl, hS, hR, hT⟩ := h'
      exact ih _ _ _ (by simpa using hsz) (count_false_set h0 hc) (hst.step hmono hform ho hS hR hT hall)
    · have h1 := hall e he hb
      rcases Nat.lt_or_ge e.on listed.size with h' | h'
      · simp [h'] at h1 ⊢; exact h1
      · simp [Array.getElem?_eq_none h'] at h1

theorem ty_dep {o : Oper} {listed : Array Bool} (h : ∀ e ∈ o.after, Region.binds .any e = true → listed.getD e.on true = true) {j : Nat} (hj : (o.after.any fun e => Region.binds .any e && decide (e.on = j)) = true) : listed.getD j true = true := by
  obtain ⟨i, hi, he⟩ := Array.any_eq_true.1 hj
  simp only [Bool.and_eq_true, decide_eq_true_eq] at he
  rw [← he.2]
  exact h _ (Array.getElem_mem hi) he.1
theorem TySt.at {T : Nat → Value → World → Prop} {S : Array Bool → Act → World → Prop} {a0 a : Act} {listed : Array Bool} {w : World} (h : TySt ops T S a0 listed a w) {o : Oper} (hd : ∀ e ∈ o.after, Region.binds .any e = true → listed.getD e.on true = true) (j d : Nat)
    (hj : (o.after.any fun e => Region.binds .any e && decide (e.on = j)) = true) (hjd : (ops[j]?).map (·.dst) = some (some d)) : T j ((a.tmps[d]?).getD undef) w := by
  obtain ⟨oj, ho, he⟩ := Option.map_eq_some_iff.1 hjd
  have := h.done j oj ho (ty_dep hd hj) d he
  simpa only [Array.getD_eq_getD_getElem?] using this
theorem TySt.old {T : Nat → Value → World → Prop} {S : Array Bool → Act → World → Prop} {a0 a : Act} {listed : Array Bool} {w : World} (h : TySt ops T S a0 listed a w) (t : Nat) (ht : (ops.all fun o => !(o.dst == some t)) = true) : (a.tmps[t]?).getD undef = (a0.tmps[t]?).getD undef := by
  have := h.rest t fun i o hi he => by
    have h2 := Array.all_eq_true'.1 ht o (Array.mem_of_getElem? hi)
    simp [he] at h2
  simpa only [Array.getD_eq_getD_getElem?] using this
theorem TySt.dep {T : Nat → Value → World → Prop} {S : Array Bool → Act → World → Prop} {a0 a : Act} {listed : Array Bool} {w : World} (h : TySt ops T S a0 listed a w) {o : Oper} (hd : ∀ e ∈ o.after, Region.binds .any e = true → listed.getD e.on true = true) (j : Nat)
    (hj : (o.after.any fun e => Region.binds .any e && decide (e.on = j)) = true) (hjl : j < ops.size) : listed.getD j false = true := by
  have h1 := ty_dep hd hj
  rw [← h.lsize] at hjl
  simp [hjl] at h1 ⊢
  exact h1
/-- At the end. -/
theorem TySt.fin {T : Nat → Value → World → Prop} {S : Array Bool → Act → World → Prop} {a0 a : Act} {listed : Array Bool} {w : World} (h : TySt ops T S a0 listed a w) (hall : ∀ i, i < ops.size → listed.getD i false = true) (j d : Nat) (hjd : (ops[j]?).map (·.dst) = some (some d)) : T j ((a.tmps[d]?).getD undef) w := by
  obtain ⟨oj, ho, he⟩ := Option.map_eq_some_iff.1 hjd
  have := h.done j oj ho (ty_true (hall j (Array.getElem?_eq_some_iff.1 ho).1)) d he
  simpa only [Array.getD_eq_getD_getElem?] using this
/-- What waits for an operation that has not come up has not come up. -/
theorem TySt.no {T : Nat → Value → World → Prop} {S : Array Bool → Act → World → Prop} {a0 a : Act} {listed : Array Bool} {w : World} (h : TySt ops T S a0 listed a w) {i st : Nat} (hun : listed.getD i true = false)
    (hj : (ops[st]?).map (fun o => o.after.any fun e => Region.binds .any e && decide (e.on = i)) = some true) : listed.getD st false = false := by
  obtain ⟨o, ho, he⟩ := Option.map_eq_some_iff.1 hj
  obtain ⟨j, hjl, hje⟩ := Array.any_eq_true.1 he
  simp only [Bool.and_eq_true, decide_eq_true_eq] at hje
  cases hl : listed.getD st false with
  | false => rfl
  | true =>
    have := h.closed st o ho hl _ (Array.getElem_mem hjl) hje.1
    rw [hje.2, listed_no hun] at this
    cases this
theorem wpOp_of {i : Nat} {o : Oper} {K : Act → World → Prop} {a : Act} {w : World} (hi : ops[i]? = some o) (hg : Region.wanted o (yielded ops a.tmps) = true) (h : ∀ K' : Act → World → Prop, (∀ a' w', K a' w' → K' a' w') → o.wp P a w K' Q) : wpOp P ops Q i K a w := by
  unfold wpOp
  simp only [hi, hg, if_true]
  exact .inl (h K fun _ _ h => h)

/-- The region's law. -/
theorem wp_region_typed (T : Nat → Value → World → Prop) (S : Array Bool → Act → World → Prop) (R : World → World → Prop) {id : Nat} {a0 : Act} {w0 : World} (hm : P.follows .mixedOrders = true) (hform : tyForm ops a0.tmps.size = true)
    (hmono : ∀ i v w w', T i v w → R w w' → T i v w') (h0 : S (Array.replicate ops.size false) a0 w0.drew)
    (hstep : ∀ (i : Nat) (o : Oper), ops[i]? = some o → ∀ (listed : Array Bool) (a : Act) (w : World), TySt ops T S a0 listed a w → listed.getD i true = false → (∀ e ∈ o.after, Region.binds .any e = true → listed.getD e.on true = true) →
      wpOp P ops (QN Q) i (fun a' w' => ∃ v, a' = a.put o.dst v ∧ S (listed.setIfInBounds i true) a' w' ∧ R w w' ∧ ∀ d, o.dst = some d → T i v w') a w)
    (hdone : ∀ (listed : Array Bool) (a : Act) (w : World), TySt ops T S a0 listed a w → (∀ i, i < ops.size → listed.getD i false = true) → Q .normal a w) : (Code.region id ops true).wp P Q a0 w0 := by
  refine Code.wp_mono (Q := QN Q) (fun e a w h => by cases e <;> first | exact h | exact h.elim) ?_
  refine wp_region_any hm (wpAny_typed (R := R) hmono hform hstep hdone ops.size _ _ _ (by simp) ?_ ⟨h0, by simp, rfl, rfl, fun i o hi hl => ?_, fun i o hi hl => ?_, fun _ _ => rfl⟩)
  · simp
  · exfalso
    have hlt : i < ops.size := (Array.getElem?_eq_some_iff.1 hi).1
    simp [hlt] at hl
  · exfalso
    have hlt : i < ops.size := (Array.getElem?_eq_some_iff.1 hi).1
    simp [hlt] at hl
/-- What is in a temporary behind a step. -/
theorem put_at {a : Act} {d t : Nat} (v : Value) (hne : d ≠ t) : ((a.put (some d) v).tmps[t]?).getD undef = (a.tmps[t]?).getD undef := by
  simp only [Act.put]
  rw [Array.getElem?_setIfInBounds_ne hne]
theorem put_self {a : Act} {d : Nat} (v : Value) (hlt : d < a.tmps.size) : ((a.put (some d) v).tmps[d]?).getD undef = v := by
  simp only [Act.put]
  rw [Array.getElem?_setIfInBounds_self_of_lt hlt]; rfl
end
end Go.Proofs.Ytoafleckcjanaaa
