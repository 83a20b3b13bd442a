/- DrawTermVars. -/
import Derived.Test.YthbakmdcepoikaaWK0
namespace Go.Proofs.Ythbakmdcepoikaa
open Go.RowKit Go.Deep

set_option maxRecDepth 100000 in
set_option maxHeartbeats 1000000 in
theorem DrawTermVars_any (a : Option Addr) (len cap : Nat) (w : World) (hby : Bytes w a len) (hlen : len ≤ cap) :
    Calls Try.prog 19 #[.slice a len cap] w (TermPost 31000 w) := by
  have HBY := Lib.hid hby
  clear hby
  go_enter Try.func19, Try.ntmps19
  go_wp2_with fail
  with_reducible refine (l6Open_any a len cap _ (HBY.out.alloc _) hlen).mono ?_
  rintro e w1 ⟨rfl, hb1, hrd⟩
  have hb1' : Below (w.heap.size + 1) (w.alloc (.cells #[.int .i64 0, .int .i64 0, .slice none 0 0] 25)) w1 := hb1.mono (by simp)
  have hs1 := hb1.size
  simp at hs1
  simp only [World.size_alloc] at hrd
  have hlt1 := hrd.lt
  have HRD := Lib.hid hrd
  have HB1 := Lib.hid hb1'
  clear hb1 hb1' hrd
  simp only [World.size_alloc]
  go_wp2_with fail
  with_reducible refine (pick_any 4 (w.heap.size + 1) 0 _ HRD.out (by omega) (by omega) (by omega)).mono ?_
  rintro e w2 ⟨x, rfl, hx, hb2⟩
  have ha2 : Adv w1 (w.heap.size + 1) (0 + 1) w2 := hb2
  have hs2 := ha2.size
  have HB2 := Lib.hid (adv_low HB1.out (by omega) (by omega) ha2)
  have HRD2 := Lib.hid (ha2.rd HRD.out)
  clear ha2 hb2
  by_cases hx0 : x = 0
  · subst hx0
    go_wp2_with fail
    with_reducible refine (l71Some_any (w.heap.size + 1) (0 + 1) _ HRD2.out (by omega)).mono ?_
    rintro e w4 ⟨s4, v4, a4, c4, k4, p4, rfl, _, hp4, hS4, ha4, hl4⟩
    have hb4 := adv_low HB2.out (by omega) (by omega) ha4
    have HB4 := Lib.hid hb4
    obtain ⟨hr0, hr1, hr2, hf0, hf1, hf2⟩ := res_low hb4
    have HL4 := Lib.hid (hl4.mono (lo' := w.heap.size + 1) (by omega) (Nat.le_refl _))
    clear ha4 hl4 hb4
    go_wp2_with fail
    refine bodyPost_ret (v := .agg #[.int .i64 s4, .int .i64 v4, .slice a4 (flen k4) c4]) ?_ rfl (term_end HB4.out (by omega) HL4.out)
    simp [results, Try.results19, go_sem, hr0, hr1, hr2]
  · have x0 : ((x : Int) == 0) = false := by simpa using hx0
    go_wp2_with fail
    with_reducible refine (l71Term_any 4 4 12 (w.heap.size + 1) (0 + 1) _ (by omega) (by omega) (by omega) (by omega) (by omega) HRD2.out (by decide)).mono ?_
    rintro e w4 ⟨s4, v4, a4, c4, k4, p4, rfl, _, hp4, hS4, ha4, hl4⟩
    have hS4' : 1 + fsz k4 ≤ 31 := by simpa [szN] using hS4
    have hb4 := adv_low HB2.out (by omega) (by omega) ha4
    have HB4 := Lib.hid hb4
    obtain ⟨hr0, hr1, hr2, hf0, hf1, hf2⟩ := res_low hb4
    have HL4 := Lib.hid (hl4.mono (lo' := w.heap.size + 1) (by omega) (Nat.le_refl _))
    clear ha4 hl4 hb4
    go_wp2_with fail
    refine bodyPost_ret (v := .agg #[.int .i64 s4, .int .i64 v4, .slice a4 (flen k4) c4]) ?_ rfl (term_end HB4.out (by omega) HL4.out)
    simp [results, Try.results19, go_sem, hr0, hr1, hr2]
end Go.Proofs.Ythbakmdcepoikaa
