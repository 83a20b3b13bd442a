/- For every input, laws.FnExactLinkDo returns true, and each argument reads afterwards as it read before. No condition. -/
import Derived.Test.YtoafleckcjanaaaLFnExactLinkDo1
import Derived.Test.YtoafleckcjanaaaKLk14
import Derived.Test.YtoafleckcjanaaaKLk1
import Derived.Test.YtoafleckcjanaaaKLk34
import Derived.Test.YtoafleckcjanaaaLFnExactLinkDo2
namespace Go.Proofs.Ytoafleckcjanaaa
open Go.ChangeShapes Go.WideShapes Go.ChangeAt Go.RowKit

set_option maxRecDepth 100000 in
theorem fnExactLinkDo_lifted (os : Os) (started : os.Started) (H : Type) (enc : TypeId × Value → H) :
    ReturnsInHanded {} Try.checked os 3 .any (Rows.fnExactLinkDoSpec.pre6 enc Try.prog Try.f3 Rows.fnExactLinkDoRow.domain false) (Rows.fnExactLinkDoSpec.post enc Try.prog Try.f3 false true false false) := by
  refine returnsInHanded_of_change (C := Try.checked) Try.own started (by kernel_rfl) Try.func3
    (ChangeSpec.witness6 (enc := enc) (C := Try.checked) false ⟨#[], #[.slice none 0 0, .agg #[.int .i64 0, .int .i64 0, .slice none 0 0], .agg #[.int .i64 0, .bool false, .slice none 0 0, .slice none 0 0]], []⟩ 8 (by kernel_rfl) (by kernel_rfl) (by kernel_rfl) (by kernel_rfl)) ?_
  intro W base args ds gs before hval0 hW hcnd _
  have hval : ∀ (j : Nat) t v, Try.f3.params[j]? = some t → args[j]? = some v → Value.okWide Try.prog W .any base t v := hval0
  have hW' := hW
  obtain ⟨p, q, hA0, hV, rfl, hfz, hnd⟩ := hW
  have hA : DataW.TrodAll enc Try.prog W 0 (fun _ => true) true Try.f3.params.toList args.toList ds p := hA0
  rw [Try.params3] at hA hval
  obtain ⟨v0, vs0, d0, ds0, p0, q0, hargs, rfl, rfl, h0, r0⟩ := trodAll_cons hA
  obtain ⟨v1, vs1, d1, ds1, p1, q1, rfl, rfl, rfl, h1, r1⟩ := trodAll_cons r0
  obtain ⟨v2, vs2, d2, ds2, p2, q2, rfl, rfl, rfl, h2, r2⟩ := trodAll_cons r1
  obtain ⟨rfl, rfl, rfl⟩ := trodAll_nil r2
  obtain rfl : args = #[v0, v1, v2] := by cases args; simp_all
  obtain ⟨rfl, rfl⟩ := trodVars_none hV
  obtain ⟨a0, len0, cap0, rfl⟩ := okWide_slice Try.underlying22 (hval 0 22 v0 rfl rfl)
  have lt0 : ∀ x ∈ p0, x.block < W.heap.size := by obtain ⟨m, hm⟩ := h0; exact DataW.trod_lt m _ _ _ hm
  obtain ⟨z0, el0, hi0, hx0, hy0⟩ := eqs_of_trod h0
  subst el0
  obtain ⟨cs1, rfl, _⟩ := okWide_struct Try.underlying25 (hval 1 25 v1 rfl rfl)
  have lt1 : ∀ x ∈ p1, x.block < W.heap.size := by obtain ⟨m, hm⟩ := h1; exact DataW.trod_lt m _ _ _ hm
  obtain ⟨s1, x1, a1, c1, k1, hcs1, hl1, hm1, hf1⟩ := (show ∃ s v a c k, cs1.toList = [Value.int .i64 s, .int .i64 v, .slice a (flen k) c] ∧ Sl W 0 W.heap.size a k ∧ flen k ≤ maxLen ∧ fcap k from (by obtain ⟨m, hm⟩ := h1; exact read_term m _ _ hm))
  obtain rfl : cs1 = #[.int .i64 s1, .int .i64 x1, .slice a1 (flen k1) c1] := by cases cs1; simp_all
  obtain ⟨cs2, rfl, _⟩ := okWide_struct Try.underlying29 (hval 2 29 v2 rfl rfl)
  have lt2 : ∀ x ∈ p2, x.block < W.heap.size := by obtain ⟨m, hm⟩ := h2; exact DataW.trod_lt m _ _ _ hm
  obtain ⟨q2e, q2b, q2p, q2c, q2x, q2B, q2D, q2s, hcs2, hlk2⟩ := (show ∃ eq back pA pC place B D bs, cs2.toList = [Value.int .i64 eq, .bool back, .slice pA (List.length place) pC, .slice B (List.length bs) D] ∧ LkIn W place bs pA B from (by obtain ⟨m, hm⟩ := h2; exact read_link hm))
  obtain rfl : cs2 = #[.int .i64 q2e, .bool q2b, .slice q2p (List.length q2x) q2c, .slice q2B (List.length q2s) q2D] := by cases cs2; simp_all
  clear hA0 hval0
  refine (exactLinkDo_walk a0 cap0 z0 s1 x1 a1 c1 k1 q2e q2b q2p q2c q2x q2B q2D q2s W hi0 hx0 hy0 hl1 hf1 hm1 hlk2).mono fun e W' ⟨he, bel⟩ => ?_
  subst he
  exact ⟨_, rfl, _, _, _, [], _, [], hW', trodAll_mk1 (shut_bool Try.underlying4 _), (trodAll_cons_mk (Below.trod Try.laidOut (by kernel_rfl) (of_decide_eq_true (by kernel_rfl)) h0 bel lt0) (trodAll_cons_mk (Below.trod Try.laidOut (by kernel_rfl) (of_decide_eq_true (by kernel_rfl)) h1 bel lt1) (trodAll_cons_mk (Below.trod Try.laidOut (by kernel_rfl) (of_decide_eq_true (by kernel_rfl)) h2 bel lt2) trodAll_mk0))), rfl, bel.frame _, fun h => by cases h⟩

theorem fnExactLinkDo_over : Rows.fnExactLinkDoRow.holds Try.pinned (OpenSpec.ofChange Rows.fnExactLinkDoSpec) :=
  OpenClaim.holds_of_wide 3 Try.f3 rfl rfl rfl rfl rfl rfl rfl ⟨rfl, rfl, rfl, rfl, rfl⟩ rfl rfl rfl rfl rfl (by kernel_rfl) Try.func3 (by kernel_rfl)
    (of_decide_eq_true (by kernel_rfl)) (by unfold Func.isWrapper; first | (rw [if_pos (by decide +kernel)]; kernel_rfl) | (rw [if_neg (by decide +kernel)]; exact ⟨rfl, rfl⟩))
    (fun os started H enc _ => fnExactLinkDo_lifted os started H enc)

theorem fnExactLinkDo_holds : Rows.FnExactLinkDoSaid := fnExactLinkDo_over
#print axioms fnExactLinkDo_holds
end Go.Proofs.Ytoafleckcjanaaa
