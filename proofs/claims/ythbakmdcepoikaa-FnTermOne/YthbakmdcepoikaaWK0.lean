/- l71Some. -/
import Derived.Test.YthbakmdcepoikaaWJ0
namespace Go.Proofs.Ythbakmdcepoikaa
open Go.RowKit Go.Deep

set_option maxRecDepth 100000 in
set_option maxHeartbeats 1000000 in
theorem l71Some_any (br p : Nat) (w : World) (hr : Rd w br p) (hp : p ≤ 10000000) :
    Calls Try.prog 34 #[.pointer (some ⟨br, 0, none⟩)] w (DrawnPost br p 100 31000 w) := by
  have hlt := hr.lt
  have hr' := hr.alloc (.cells #[.int .i64 0, .int .i64 0, .slice none 0 0] 25)
  have HA0 := Lib.hid (Adv.start hr' (Below.refl _ _))
  have HR0 := Lib.hid hr'
  clear hr hr'
  go_enter Try.func34, Try.ntmps34
  go_wp2_with fail
  with_reducible refine (pick_any 2 br p _ HR0.out (by omega) (by omega) (by omega)).mono ?_
  rintro e w1 ⟨x, rfl, hx, hb1⟩
  have ha1 := HA0.out.trans hb1
  have hx2 : x < 2 := by omega
  have HR1 := Lib.hid (Adv.rd hb1 HR0.out)
  have HA1 := Lib.hid ha1
  clear hb1 ha1 hx
  have hs1 := HA1.out.size
  simp at hs1
  have hpb : Hid (p + 1 + pkN 4 ≤ 100000000) := by
    have h93 : pkN 4 = 93 := by decide
    unfold Hid
    omega
  go_wp2_with fail
  with_reducible refine (l71Term_any 4 (3 + x) 3 br (p + 1) _ (by omega) (by omega) (by omega) (by omega) (by omega) HR1.out hpb.out).mono ?_
  rintro e w2 ⟨s, v, a2, c2, k, p2, rfl, hp1, hp2, hS2, ha2, hl2⟩
  have hp2' : p2 ≤ p + 1 + 93 := by simpa [pkN] using hp2
  have hS2' : 1 + fsz k ≤ 31 := by simpa [szN] using hS2
  have HR2 := Lib.hid (ha2.rd HR1.out)
  have HA2 := Lib.hid (HA1.out.trans ha2)
  have hs2 := ha2.size
  have HL2 := Lib.hid (hl2.mono (lo' := w.heap.size + 1) (by omega) (Nat.le_refl _))
  clear ha2 hl2 hp2 hS2
  go_wp2_with fail
  with_reducible refine (pick_any 14 br p2 _ (HR2.out.alloc _) (by omega) (by omega) (by omega)).mono ?_
  rintro e w3 ⟨y, rfl, hy, hb3⟩
  have ha3 : Adv (w2.alloc (.cells #[.int .i64 s, .int .i64 v, .slice a2 (flen k) c2] 25)) br (p2 + 1) w3 := hb3
  have hs3 := ha3.size
  simp at hs3
  have hlt2 : br < w2.heap.size := HR2.out.lt
  have HA3 := Lib.hid ((HA2.out.alloc (.cells #[.int .i64 s, .int .i64 v, .slice a2 (flen k) c2] 25)).trans ha3)
  have HR3 := Lib.hid (ha3.rd (HR2.out.alloc _))
  have HL3 := Lib.hid ((HL2.out.low ((Below.refl _ _).alloc (Nat.le_refl _) _)).adv ha3 (by omega))
  have hc0 := ha3.cell (q := ⟨w2.heap.size, 0, none⟩) (v := .int .i64 s) (by simp) (by simp; omega)
  have hc1 := ha3.cell (q := ⟨w2.heap.size, 1, none⟩) (v := .int .i64 v) (by simp) (by simp; omega)
  have hc2 := ha3.cell (q := ⟨w2.heap.size, 2, none⟩) (v := .slice a2 (flen k) c2) (by simp) (by simp; omega)
  clear ha3 hb3 hy
  by_cases hy0 : y = 0
  · subst hy0
    go_wp2_with fail
    with_reducible refine (l71Bad_any s v a2 c2 k br (p2 + 1) 31 _ (HL3.out.mono (Nat.zero_le _) (Nat.le_refl _)) HR3.out (by omega) (by omega) (by omega)).mono ?_
    rintro e w4 ⟨s4, v4, a4, c4, k4, p4, rfl, hp3, hp4, hS4, ha4, hl4⟩
    have ha5 := HA3.out.trans ha4
    obtain ⟨hr0, hr1, hr2, hf0, hf1, hf2⟩ := res_cells ha5 hlt
    have HA5 := Lib.hid ha5
    have HL4 := Lib.hid (hl4.mono (lo' := w.heap.size + 1) (by omega) (Nat.le_refl _))
    clear ha4 hl4 ha5 hc0 hc1 hc2
    go_wp2_with fail
    refine bodyPost_ret (v := .agg #[.int .i64 s4, .int .i64 v4, .slice a4 (flen k4) c4]) ?_ rfl (drawn_end HA5.out hlt (by omega) (by omega) (by omega) HL4.out)
    simp [results, Try.results34, go_sem, hr0, hr1, hr2]
  · have y0 : ((y : Int) == 0) = false := by simpa using hy0
    obtain ⟨hr0, hr1, hr2, hf0, hf1, hf2⟩ := res_cells HA3.out hlt
    go_wp2_with fail
    refine bodyPost_ret (v := .agg #[.int .i64 s, .int .i64 v, .slice a2 (flen k) c2]) ?_ rfl (drawn_end HA3.out hlt (by omega) (by omega) (by omega) HL3.out)
    simp [results, Try.results34, go_sem, hr0, hr1, hr2]
end Go.Proofs.Ythbakmdcepoikaa
