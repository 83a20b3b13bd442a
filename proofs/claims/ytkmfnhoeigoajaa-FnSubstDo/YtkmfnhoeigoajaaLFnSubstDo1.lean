/- Several texts in one: WDi. -/
import Derived.Test.YtkmfnhoeigoajaaKSub2

/-! WDi: TermOk of the program. -/
namespace Go.Proofs.Ytkmfnhoeigoajaa
open Go.RowKit Go.Deep

set_option maxHeartbeats 400000 in
theorem iTermOk_any (s v : Int) (a : Option Addr) (c : Nat) (k : Fo) (w : World) (hl : Sl w 0 w.heap.size a k) :
    Calls Try.prog 15 #[.agg #[.int .i64 s, .int .i64 v, .slice a (flen k) c]] w fun e w' => e = .returned (.bool (okW s v k 16)) ∧ Below w.heap.size w w' := by
  go_enter Try.func15, Try.ntmps15
  go_wp2_with fail
  with_reducible refine (nodeOf_any s v a c k 16 _ ?_ ?_ ?_).mono ?_
  · exact (hl.below ((Below.refl _ _).alloc (Nat.le_refl _) _)).mono (Nat.le_refl _) (by simp)
  · omega
  · omega
  rintro e w2 ⟨nv, rfl, hb, hyes⟩
  clear hyes
  go_wp2_with fail
  go_ret
  exact ⟨rfl, ((Below.refl _ _).alloc (Nat.le_refl _) _).trans (hb.mono (by simp))⟩
end Go.Proofs.Ytkmfnhoeigoajaa
