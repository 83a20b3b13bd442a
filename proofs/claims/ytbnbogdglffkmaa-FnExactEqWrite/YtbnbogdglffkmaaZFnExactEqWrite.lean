/- For every input, laws.FnExactEqWrite returns true, and each argument reads afterwards as it read before. No condition. -/
import Derived.Test.YtbnbogdglffkmaaLFnExactEqWrite1
import Derived.Test.YtbnbogdglffkmaaKEw11
import Derived.Test.YtbnbogdglffkmaaKEw13
namespace Go.Proofs.Ytbnbogdglffkmaa
open Go.ChangeShapes Go.WideShapes Go.ChangeAt Go.RowKit

set_option maxRecDepth 100000 in
theorem fnExactEqWrite_lifted (os : Os) (started : os.Started) (H : Type) (enc : TypeId × Value → H) :
    ReturnsInHanded {} Try.checked os 3 .any (Rows.fnExactEqWriteSpec.pre6 enc Try.prog Try.f3 Rows.fnExactEqWriteRow.domain false) (Rows.fnExactEqWriteSpec.post enc Try.prog Try.f3 false true false false) := by
  refine returnsInHanded_of_change (C := Try.checked) Try.own started (by kernel_rfl) Try.func3
    (ChangeSpec.witness6 (enc := enc) (C := Try.checked) false ⟨#[], #[.agg #[.int .i64 0, .int .i64 0, .slice none 0 0, .int .i64 0, .int .i64 0, .slice none 0 0]], []⟩ 8 (by kernel_rfl) (by kernel_rfl) (by kernel_rfl) (by kernel_rfl)) ?_
  intro W base args ds gs before hval0 hW hcnd _
  have hval : ∀ (j : Nat) t v, Try.f3.params[j]? = some t → args[j]? = some v → Value.okWide Try.prog W .any base t v := hval0
  have hW' := hW
  obtain ⟨p, q, hA0, hV, rfl, hfz, hnd⟩ := hW
  have hA : DataW.TrodAll enc Try.prog W 0 (fun _ => true) true Try.f3.params.toList args.toList ds p := hA0
  rw [Try.params3] at hA hval
  obtain ⟨v0, vs0, d0, ds0, p0, q0, hargs, rfl, rfl, h0, r0⟩ := trodAll_cons hA
  obtain ⟨rfl, rfl, rfl⟩ := trodAll_nil r0
  obtain rfl : args = #[v0] := by cases args; simp_all
  obtain ⟨rfl, rfl⟩ := trodVars_none hV
  obtain ⟨cs0, rfl, _⟩ := okWide_struct Try.underlying26 (hval 0 26 v0 rfl rfl)
  have lt0 : ∀ x ∈ p0, x.block < W.heap.size := by obtain ⟨m, hm⟩ := h0; exact DataW.trod_lt m _ _ _ hm
  obtain ⟨s0, x0, a0, c0, k0, t0, y0, b0, g0, l0, hcs0, hl0, hm0⟩ := (show ∃ s v a c k s' v' a' c' k', cs0.toList = [Value.int .i64 s, .int .i64 v, .slice a (flen k) c, .int .i64 s', .int .i64 v', .slice a' (flen k') c'] ∧ (Sl W 0 W.heap.size a k ∧ flen k ≤ maxLen ∧ fcap k) ∧ Sl W 0 W.heap.size a' k' ∧ flen k' ≤ maxLen ∧ fcap k' from (by obtain ⟨m, hm⟩ := h0; exact read_eq hm))
  obtain rfl : cs0 = #[.int .i64 s0, .int .i64 x0, .slice a0 (flen k0) c0, .int .i64 t0, .int .i64 y0, .slice b0 (flen l0) g0] := by cases cs0; simp_all
  clear hA0 hval0
  refine (exactEqWrite_walk s0 x0 a0 c0 k0 t0 y0 b0 g0 l0 W hl0.1 hl0.2.2 hl0.2.1 hm0.1 hm0.2.2 hm0.2.1).mono fun e W' ⟨he, bel⟩ => ?_
  subst he
  exact ⟨_, rfl, _, _, _, [], _, [], hW', trodAll_mk1 (shut_bool Try.underlying4 _), (trodAll_cons_mk (Below.trod Try.laidOut (by kernel_rfl) (of_decide_eq_true (by kernel_rfl)) h0 bel lt0) trodAll_mk0), rfl, bel.frame _, fun h => by cases h⟩

theorem fnExactEqWrite_over : Rows.fnExactEqWriteRow.holds Try.pinned (OpenSpec.ofChange Rows.fnExactEqWriteSpec) :=
  OpenClaim.holds_of_wide 3 Try.f3 rfl rfl rfl rfl rfl rfl rfl ⟨rfl, rfl, rfl, rfl, rfl⟩ rfl rfl rfl rfl rfl (by kernel_rfl) Try.func3 (by kernel_rfl)
    (of_decide_eq_true (by kernel_rfl)) (by unfold Func.isWrapper; first | (rw [if_pos (by decide +kernel)]; kernel_rfl) | (rw [if_neg (by decide +kernel)]; exact ⟨rfl, rfl⟩))
    (fun os started H enc _ => fnExactEqWrite_lifted os started H enc)

theorem fnExactEqWrite_holds : Rows.FnExactEqWriteSaid := fnExactEqWrite_over
#print axioms fnExactEqWrite_holds
end Go.Proofs.Ytbnbogdglffkmaa
