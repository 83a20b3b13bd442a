/- DrawTermText. -/
import Derived.Test.YthbakmdcepoikaaV5d
namespace Go.Proofs.Ythbakmdcepoikaa
open Go.RowKit Go.Deep

set_option maxRecDepth 100000 in
set_option maxHeartbeats 1000000 in
theorem DrawTermText_any (a : Option Addr) (len cap : Nat) (w : World) (hby : Bytes w a len) (hlen : len ≤ cap) :
    Calls Try.prog 6 #[.slice a len cap] w (TermPost 31000 w) := by
  have HBY := Lib.hid hby
  clear hby
  go_enter Try.func6, Try.ntmps6
  go_wp2_with fail
  with_reducible refine (DrawTermVars_any a len cap _ (HBY.out.alloc _) hlen).mono ?_
  rintro e w4 ⟨s4, v4, a4, c4, k4, rfl, hS4, hb4, hl4⟩
  have hb4' : Below (w.heap.size + 1) (w.alloc (.cells #[.int .i64 0, .int .i64 0, .slice none 0 0] 25)) w4 := hb4.mono (by simp)
  have HB4 := Lib.hid hb4'
  obtain ⟨hr0, hr1, hr2, hf0, hf1, hf2⟩ := res_low hb4'
  have HL4 := Lib.hid (hl4.mono (lo' := w.heap.size + 1) (by simp) (Nat.le_refl _))
  clear hl4 hb4 hb4'
  go_wp2_with fail
  refine bodyPost_ret (v := .agg #[.int .i64 s4, .int .i64 v4, .slice a4 (flen k4) c4]) ?_ rfl (term_end HB4.out hS4 HL4.out)
  simp [results, Try.results6, go_sem, hr0, hr1, hr2]
end Go.Proofs.Ythbakmdcepoikaa
