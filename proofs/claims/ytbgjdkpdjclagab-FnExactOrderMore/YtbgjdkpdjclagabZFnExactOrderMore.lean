/- For every input, laws.FnExactOrderMore returns true, and each argument reads afterwards as it read before. No condition. -/
import Derived.Test.YtbgjdkpdjclagabLFnExactOrderMore1
import Derived.Test.YtbgjdkpdjclagabKOre15
import Derived.Test.YtbgjdkpdjclagabKOre16
namespace Go.Proofs.Ytbgjdkpdjclagab
open Go.ChangeShapes Go.WideShapes Go.ChangeAt Go.RowKit

set_option maxRecDepth 100000 in
theorem fnExactOrderMore_lifted (os : Os) (started : os.Started) (H : Type) (enc : TypeId × Value → H) :
    ReturnsInHanded {} Try.checked os 4 .any (Rows.fnExactOrderMoreSpec.pre6 enc Try.prog Try.f4 Rows.fnExactOrderMoreRow.domain false) (Rows.fnExactOrderMoreSpec.post enc Try.prog Try.f4 false true false false) := by
  refine returnsInHanded_of_change (C := Try.checked) Try.own started (by kernel_rfl) Try.func4
    (ChangeSpec.witness6 (enc := enc) (C := Try.checked) false ⟨#[], #[.slice none 0 0, .agg #[.int .i64 0, .int .i64 0, .slice none 0 0], .agg #[.int .i64 0, .int .i64 0, .slice none 0 0]], []⟩ 8 (by kernel_rfl) (by kernel_rfl) (by kernel_rfl) (by kernel_rfl)) ?_
  intro W base args ds gs before hval0 hW hcnd _
  have hval : ∀ (j : Nat) t v, Try.f4.params[j]? = some t → args[j]? = some v → Value.okWide Try.prog W .any base t v := hval0
  have hW' := hW
  obtain ⟨p, q, hA0, hV, rfl, hfz, hnd⟩ := hW
  have hA : DataW.TrodAll enc Try.prog W 0 (fun _ => true) true Try.f4.params.toList args.toList ds p := hA0
  rw [Try.params4] at hA hval
  obtain ⟨v0, vs0, d0, ds0, p0, q0, hargs, rfl, rfl, h0, r0⟩ := trodAll_cons hA
  obtain ⟨v1, vs1, d1, ds1, p1, q1, rfl, rfl, rfl, h1, r1⟩ := trodAll_cons r0
  obtain ⟨v2, vs2, d2, ds2, p2, q2, rfl, rfl, rfl, h2, r2⟩ := trodAll_cons r1
  obtain ⟨rfl, rfl, rfl⟩ := trodAll_nil r2
  obtain rfl : args = #[v0, v1, v2] := by cases args; simp_all
  obtain ⟨rfl, rfl⟩ := trodVars_none hV
  obtain ⟨a0, len0, cap0, rfl⟩ := okWide_slice Try.underlying23 (hval 0 23 v0 rfl rfl)
  have lt0 : ∀ x ∈ p0, x.block < W.heap.size := by obtain ⟨m, hm⟩ := h0; exact DataW.trod_lt m _ _ _ hm
  obtain ⟨z0, el0, hi0, hx0⟩ := ints_of_trod h0
  subst el0
  obtain ⟨cs1, rfl, _⟩ := okWide_struct Try.underlying35 (hval 1 35 v1 rfl rfl)
  have lt1 : ∀ x ∈ p1, x.block < W.heap.size := by obtain ⟨m, hm⟩ := h1; exact DataW.trod_lt m _ _ _ hm
  obtain ⟨s1, x1, a1, c1, k1, hcs1, hl1, hm1, hf1⟩ := (show ∃ s v a c k, cs1.toList = [Value.int .i64 s, .int .i64 v, .slice a (flen k) c] ∧ Sl W 0 W.heap.size a k ∧ flen k ≤ maxLen ∧ fcap k from (by obtain ⟨m, hm⟩ := h1; exact read_term m _ _ hm))
  obtain rfl : cs1 = #[.int .i64 s1, .int .i64 x1, .slice a1 (flen k1) c1] := by cases cs1; simp_all
  obtain ⟨cs2, rfl, _⟩ := okWide_struct Try.underlying35 (hval 2 35 v2 rfl rfl)
  have lt2 : ∀ x ∈ p2, x.block < W.heap.size := by obtain ⟨m, hm⟩ := h2; exact DataW.trod_lt m _ _ _ hm
  obtain ⟨s2, x2, a2, c2, k2, hcs2, hl2, hm2, hf2⟩ := (show ∃ s v a c k, cs2.toList = [Value.int .i64 s, .int .i64 v, .slice a (flen k) c] ∧ Sl W 0 W.heap.size a k ∧ flen k ≤ maxLen ∧ fcap k from (by obtain ⟨m, hm⟩ := h2; exact read_term m _ _ hm))
  obtain rfl : cs2 = #[.int .i64 s2, .int .i64 x2, .slice a2 (flen k2) c2] := by cases cs2; simp_all
  clear hA0 hval0
  refine (exactOrderMore_walk a0 cap0 z0 s1 x1 a1 c1 k1 s2 x2 a2 c2 k2 W hi0 hx0 hl1 hf1 hm1 hl2 hf2 hm2).mono fun e W' ⟨he, bel⟩ => ?_
  subst he
  exact ⟨_, rfl, _, _, _, [], _, [], hW', trodAll_mk1 (shut_bool Try.underlying4 _), (trodAll_cons_mk (Below.trod Try.laidOut (by kernel_rfl) (of_decide_eq_true (by kernel_rfl)) h0 bel lt0) (trodAll_cons_mk (Below.trod Try.laidOut (by kernel_rfl) (of_decide_eq_true (by kernel_rfl)) h1 bel lt1) (trodAll_cons_mk (Below.trod Try.laidOut (by kernel_rfl) (of_decide_eq_true (by kernel_rfl)) h2 bel lt2) trodAll_mk0))), rfl, bel.frame _, fun h => by cases h⟩

theorem fnExactOrderMore_over : Rows.fnExactOrderMoreRow.holds Try.pinned (OpenSpec.ofChange Rows.fnExactOrderMoreSpec) :=
  OpenClaim.holds_of_wide 4 Try.f4 rfl rfl rfl rfl rfl rfl rfl ⟨rfl, rfl, rfl, rfl, rfl⟩ rfl rfl rfl rfl rfl (by kernel_rfl) Try.func4 (by kernel_rfl)
    (of_decide_eq_true (by kernel_rfl)) (by unfold Func.isWrapper; first | (rw [if_pos (by decide +kernel)]; kernel_rfl) | (rw [if_neg (by decide +kernel)]; exact ⟨rfl, rfl⟩))
    (fun os started H enc _ => fnExactOrderMore_lifted os started H enc)

theorem fnExactOrderMore_holds : Rows.FnExactOrderMoreSaid := fnExactOrderMore_over
#print axioms fnExactOrderMore_holds
end Go.Proofs.Ytbgjdkpdjclagab
