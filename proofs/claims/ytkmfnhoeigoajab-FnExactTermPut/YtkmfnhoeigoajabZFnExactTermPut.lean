/- For every input, laws.FnExactTermPut returns true, and each argument reads afterwards as it read before. No condition. -/
import Derived.Test.YtkmfnhoeigoajabLFnExactTermPut2
import Derived.Test.YtkmfnhoeigoajabKVar11
import Derived.Test.YtkmfnhoeigoajabKVar12
import Derived.Test.YtkmfnhoeigoajabKVar15
namespace Go.Proofs.Ytkmfnhoeigoajab
open Go.ChangeShapes Go.WideShapes Go.ChangeAt Go.RowKit

set_option maxRecDepth 100000 in
theorem fnExactTermPut_lifted (os : Os) (started : os.Started) (H : Type) (enc : TypeId × Value → H) :
    ReturnsInHanded {} Try.checked os 7 .any (Rows.fnExactTermPutSpec.pre6 enc Try.prog Try.f7 Rows.fnExactTermPutRow.domain false) (Rows.fnExactTermPutSpec.post enc Try.prog Try.f7 false true false false) := by
  refine returnsInHanded_of_change (C := Try.checked) Try.own started (by kernel_rfl) Try.func7
    (ChangeSpec.witness6 (enc := enc) (C := Try.checked) false ⟨#[], #[.agg #[.int .i64 0, .int .i64 0, .slice none 0 0], .slice none 0 0, .agg #[.int .i64 0, .int .i64 0, .slice none 0 0]], []⟩ 8 (by kernel_rfl) (by kernel_rfl) (by kernel_rfl) (by kernel_rfl)) ?_
  intro W base args ds gs before hval0 hW hcnd _
  have hval : ∀ (j : Nat) t v, Try.f7.params[j]? = some t → args[j]? = some v → Value.okWide Try.prog W .any base t v := hval0
  have hW' := hW
  obtain ⟨p, q, hA0, hV, rfl, hfz, hnd⟩ := hW
  have hA : DataW.TrodAll enc Try.prog W 0 (fun _ => true) true Try.f7.params.toList args.toList ds p := hA0
  rw [Try.params7] at hA hval
  obtain ⟨v0, vs0, d0, ds0, p0, q0, hargs, rfl, rfl, h0, r0⟩ := trodAll_cons hA
  obtain ⟨v1, vs1, d1, ds1, p1, q1, rfl, rfl, rfl, h1, r1⟩ := trodAll_cons r0
  obtain ⟨v2, vs2, d2, ds2, p2, q2, rfl, rfl, rfl, h2, r2⟩ := trodAll_cons r1
  obtain ⟨rfl, rfl, rfl⟩ := trodAll_nil r2
  obtain rfl : args = #[v0, v1, v2] := by cases args; simp_all
  obtain ⟨rfl, rfl⟩ := trodVars_none hV
  obtain ⟨cs0, rfl, _⟩ := okWide_struct Try.underlying45 (hval 0 45 v0 rfl rfl)
  have lt0 : ∀ x ∈ p0, x.block < W.heap.size := by obtain ⟨m, hm⟩ := h0; exact DataW.trod_lt m _ _ _ hm
  obtain ⟨s0, x0, a0, c0, k0, hcs0, hl0, hm0, hf0⟩ := (show ∃ s v a c k, cs0.toList = [Value.int .i64 s, .int .i64 v, .slice a (flen k) c] ∧ Sl W 0 W.heap.size a k ∧ flen k ≤ maxLen ∧ fcap k from (by obtain ⟨m, hm⟩ := h0; exact read_term m _ _ hm))
  obtain rfl : cs0 = #[.int .i64 s0, .int .i64 x0, .slice a0 (flen k0) c0] := by cases cs0; simp_all
  obtain ⟨a1, len1, cap1, rfl⟩ := okWide_slice Try.underlying26 (hval 1 26 v1 rfl rfl)
  have lt1 : ∀ x ∈ p1, x.block < W.heap.size := by obtain ⟨m, hm⟩ := h1; exact DataW.trod_lt m _ _ _ hm
  obtain ⟨z1, el1, hi1, hx1⟩ := ints_of_trod h1
  subst el1
  obtain ⟨cs2, rfl, _⟩ := okWide_struct Try.underlying45 (hval 2 45 v2 rfl rfl)
  have lt2 : ∀ x ∈ p2, x.block < W.heap.size := by obtain ⟨m, hm⟩ := h2; exact DataW.trod_lt m _ _ _ hm
  obtain ⟨s2, x2, a2, c2, k2, hcs2, hl2, hm2, hf2⟩ := (show ∃ s v a c k, cs2.toList = [Value.int .i64 s, .int .i64 v, .slice a (flen k) c] ∧ Sl W 0 W.heap.size a k ∧ flen k ≤ maxLen ∧ fcap k from (by obtain ⟨m, hm⟩ := h2; exact read_term m _ _ hm))
  obtain rfl : cs2 = #[.int .i64 s2, .int .i64 x2, .slice a2 (flen k2) c2] := by cases cs2; simp_all
  clear hA0 hval0
  refine (exactPut_walk s0 x0 a0 c0 k0 a1 cap1 z1 s2 x2 a2 c2 k2 W hl0 hf0 hm0 hi1 hx1 hl2 hf2 hm2).mono fun e W' ⟨he, bel⟩ => ?_
  subst he
  exact ⟨_, rfl, _, _, _, [], _, [], hW', trodAll_mk1 (shut_bool Try.underlying4 _), (trodAll_cons_mk (Below.trod Try.laidOut (by kernel_rfl) (of_decide_eq_true (by kernel_rfl)) h0 bel lt0) (trodAll_cons_mk (Below.trod Try.laidOut (by kernel_rfl) (of_decide_eq_true (by kernel_rfl)) h1 bel lt1) (trodAll_cons_mk (Below.trod Try.laidOut (by kernel_rfl) (of_decide_eq_true (by kernel_rfl)) h2 bel lt2) trodAll_mk0))), rfl, bel.frame _, fun h => by cases h⟩

theorem fnExactTermPut_over : Rows.fnExactTermPutRow.holds Try.pinned (OpenSpec.ofChange Rows.fnExactTermPutSpec) :=
  OpenClaim.holds_of_wide 7 Try.f7 rfl rfl rfl rfl rfl rfl rfl ⟨rfl, rfl, rfl, rfl, rfl⟩ rfl rfl rfl rfl rfl (by kernel_rfl) Try.func7 (by kernel_rfl)
    (of_decide_eq_true (by kernel_rfl)) (by unfold Func.isWrapper; first | (rw [if_pos (by decide +kernel)]; kernel_rfl) | (rw [if_neg (by decide +kernel)]; exact ⟨rfl, rfl⟩))
    (fun os started H enc _ => fnExactTermPut_lifted os started H enc)

theorem fnExactTermPut_holds : Rows.FnExactTermPutSaid := fnExactTermPut_over
#print axioms fnExactTermPut_holds
end Go.Proofs.Ytkmfnhoeigoajab
