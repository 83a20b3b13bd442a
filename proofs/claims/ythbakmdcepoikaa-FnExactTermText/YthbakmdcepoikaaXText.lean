/- For every term, laws.FnExactTermText answers true and writes nothing that was there. -/
import Derived.Test.YthbakmdcepoikaaXO0
import Derived.Test.YthbakmdcepoikaaT1
import Derived.Test.YthbakmdcepoikaaT3
import Derived.Test.YthbakmdcepoikaaMix
namespace Go.Proofs.Ythbakmdcepoikaa
open Go.RowKit Go.Deep

set_option maxRecDepth 100000 in
set_option maxHeartbeats 1000000 in
theorem exactText_walk (s v : Int) (a : Option Addr) (c : Nat) (k : Fo) (w : World) (hl : Sl w 0 w.heap.size a k) (hc : fcap k) (hm : flen k ≤ maxLen) :
    Calls Try.prog 4 #[.agg #[.int .i64 s, .int .i64 v, .slice a (flen k) c]] w fun e w' => e = .returned (.bool true) ∧ Below w.heap.size w w' := by
  have HL0 := Lib.hid ((hl.below ((Below.refl _ _).alloc (Nat.le_refl _) (.cells #[.int .i64 s, .int .i64 v, .slice a (flen k) c] 32))).mono (Nat.le_refl _) (show w.heap.size ≤ (w.alloc (.cells #[.int .i64 s, .int .i64 v, .slice a (flen k) c] 32)).heap.size by simp))
  have HC := Lib.hid hc
  have HM := Lib.hid hm
  clear hl hc hm
  go_enter Try.func4, Try.ntmps4
  go_wp2_with fail
  with_reducible refine (szTerm_any HL0.out HC.out HM.out (by omega) (by omega)).mono ?_
  rintro e w1 ⟨rfl, hb1⟩
  have hb1' : Below (w.heap.size + 1) (w.alloc (.cells #[.int .i64 s, .int .i64 v, .slice a (flen k) c] 32)) w1 := by simpa using hb1
  have hs1 := hb1.size
  simp at hs1
  have HL1 := Lib.hid ((HL0.out.below hb1).mono (Nat.le_refl _) hb1.size)
  have HB1 := Lib.hid hb1'
  obtain ⟨hc0, hc1, hc2⟩ : w1.cell? ⟨w.heap.size, 0, none⟩ = some (.int .i64 s) ∧ w1.cell? ⟨w.heap.size, 1, none⟩ = some (.int .i64 v) ∧ w1.cell? ⟨w.heap.size, 2, none⟩ = some (.slice a (flen k) c) := box_cells ⟨w1, hb1'⟩
  clear hb1 hb1'
  rcases szR_case k 1048576 with hz | hz
  · rw [hz]
    clear hz
    go_wp2_with fail
    go_ret
    exact ⟨rfl, box_low HB1.out⟩
  have hN := szR_fit hz
  generalize szR k 1048576 = z at *
  go_wp2_with fail
  with_reducible refine (toTerm_any HL1.out hN).mono ?_
  rintro e w2 ⟨a2, c2, rfl, hb2, hl2⟩
  have HB2 := Lib.hid (HB1.out.trans (hb2.mono (by omega)))
  have HL2 := Lib.hid ((HL1.out.below hb2).mono (Nat.le_refl _) hb2.size)
  have HM2 := Lib.hid (hl2.mono (Nat.zero_le _) (Nat.le_refl _))
  have hd0 := cell_lowX hb2 hc0
  have hd1 := cell_lowX hb2 hc1
  have hd2 := cell_lowX hb2 hc2
  have hs2 := hb2.size
  clear hb2 hl2 hc0 hc1 hc2
  go_wp2_with fail
  with_reducible refine (sTermText_any s v a2 c2 k _ HM2.out).mono ?_
  rintro e w3 ⟨rfl, hb3⟩
  have HB3 := Lib.hid (HB2.out.trans (hb3.mono (by omega)))
  have HL3 := Lib.hid ((HL2.out.below hb3).mono (Nat.le_refl _) hb3.size)
  have hc0 := cell_lowX hb3 hd0
  have hc1 := cell_lowX hb3 hd1
  have hc2 := cell_lowX hb3 hd2
  have hs3 := hb3.size
  clear hb3 hd0 hd1 hd2
  generalize hok : str (if okW s v k 16 = true then tx s v k else []) = ok
  have HOK := Lib.hid hok
  clear hok
  go_wp2_with fail
  with_reducible refine (toTerm_any HL3.out hN).mono ?_
  rintro e w4 ⟨a4, c4, rfl, hb4, hl4⟩
  have HB4 := Lib.hid ((HB3.out.trans (hb4.mono (by omega))).alloc (by have := hb4.size; omega) (.cells #[.int .i64 s, .int .i64 v, .slice a4 (flen k) c4] 25))
  have hba : Below w4.heap.size w4 (w4.alloc (.cells #[.int .i64 s, .int .i64 v, .slice a4 (flen k) c4] 25)) := (Below.refl _ _).alloc (Nat.le_refl _) _
  have HL4 := Lib.hid ((((HL3.out.below hb4).mono (Nat.le_refl _) hb4.size).below hba).mono (Nat.le_refl _) hba.size)
  have HM4 := Lib.hid (((hl4.mono (Nat.zero_le _) (Nat.le_refl _)).below hba).mono (Nat.le_refl _) hba.size)
  have hd0 := cell_lowX hba (cell_lowX hb4 hc0)
  have hd1 := cell_lowX hba (cell_lowX hb4 hc1)
  have hd2 := cell_lowX hba (cell_lowX hb4 hc2)
  have hs4 := hb4.size
  clear hb4 hl4 hc0 hc1 hc2 hba
  go_wp2_with fail
  with_reducible refine (iTermText_any s v a4 c4 k _ HM4.out).mono ?_
  rw [HOK.out]
  rintro e w5 ⟨rfl, hb5⟩
  have HB5 := Lib.hid (HB4.out.trans (hb5.mono (by simp; omega)))
  have HL5 := Lib.hid ((HL4.out.below hb5).mono (Nat.le_refl _) hb5.size)
  have HM5 := Lib.hid ((HM4.out.below hb5).mono (Nat.le_refl _) hb5.size)
  have hc0 := cell_lowX hb5 hd0
  have hc1 := cell_lowX hb5 hd1
  have hc2 := cell_lowX hb5 hd2
  have hx0 := cell_lowX hb5 (q := ⟨w4.heap.size, 0, none⟩) (x := .int .i64 s) (by simp)
  have hx1 := cell_lowX hb5 (q := ⟨w4.heap.size, 1, none⟩) (x := .int .i64 v) (by simp)
  have hx2 := cell_lowX hb5 (q := ⟨w4.heap.size, 2, none⟩) (x := .slice a4 (flen k) c4) (by simp)
  have hs5 := hb5.size
  simp at hs5
  clear hb5 hd0 hd1 hd2
  have hu0 : ∀ u : After w5.heap.size w5, u.world.cell? ⟨w.heap.size, 0, none⟩ = some (.int .i64 s) := fun u => u.cell (by simp; omega) hc0
  have hu1 : ∀ u : After w5.heap.size w5, u.world.cell? ⟨w.heap.size, 1, none⟩ = some (.int .i64 v) := fun u => u.cell (by simp; omega) hc1
  have hu2 : ∀ u : After w5.heap.size w5, u.world.cell? ⟨w.heap.size, 2, none⟩ = some (.slice a (flen k) c) := fun u => u.cell (by simp; omega) hc2
  have hu3 : ∀ u : After w5.heap.size w5, u.world.cell? ⟨w4.heap.size, 0, none⟩ = some (.int .i64 s) := fun u => u.cell (by simp; omega) hx0
  have hu4 : ∀ u : After w5.heap.size w5, u.world.cell? ⟨w4.heap.size, 1, none⟩ = some (.int .i64 v) := fun u => u.cell (by simp; omega) hx1
  have hu5 : ∀ u : After w5.heap.size w5, u.world.cell? ⟨w4.heap.size, 2, none⟩ = some (.slice a4 (flen k) c4) := fun u => u.cell (by simp; omega) hx2
  go_wp2_with fail
  refine wp_region_mix (fun w' => ∃ u : After w5.heap.size w5, w' = u.world) [] [(0, 0), (1, 0), (2, 1), (3, 1), (4, 1)] (by kernel_rfl) (by kernel_rfl) ⟨⟨_, (Below.refl _ _).drew⟩, rfl⟩ ?_
  iterate 2
    refine mix_see rfl (fun K hK => ?_)
    go_simp
    refine hK _ ?_
    clear hK K
  clear hu0 hu1 hu2 hu3 hu4 hu5
  refine mix_hold rfl (fun K hK => ?_)
  go_simp
  with_reducible refine (toTerm_any (k := k) (c := c) ?_ hN).mono ?_
  · exact HL5.out.below (Below.refl _ _).drew
  rintro e w6 ⟨a6, c6, rfl, hb6', hl6⟩
  have hb6 : Below w5.heap.size w5 w6 := ⟨hb6'.os, hb6'.tape, hb6'.output, hb6'.size, hb6'.block⟩
  have hs6 := hb6.size
  have HM6 := Lib.hid ((HM5.out.below hb6).mono (Nat.le_refl _) hb6.size)
  have HN6 := Lib.hid (hl6.mono (Nat.zero_le _) (Nat.le_refl _))
  refine hK _ _ ⟨⟨_, hb6⟩, rfl⟩ ?_
  clear hK K hb6' hl6
  refine mix_hold rfl (fun K hK => ?_)
  go_simp
  with_reducible refine (eqTerm_any (k := k) HM6.out HN6.out hN).mono ?_
  rintro e w7 ⟨rfl, hb7⟩
  have hb8 := hb6.trans (hb7.mono hs6)
  refine hK _ _ ⟨⟨_, hb8⟩, rfl⟩ ?_
  clear hK K
  refine mix_hold rfl (fun K hK => ?_)
  go_simp
  refine hK _ _ ⟨⟨_, hb8⟩, rfl⟩ ?_
  clear hK K
  refine mix_end ?_
  have HB8 := Lib.hid (HB5.out.trans (hb8.mono (by omega)))
  clear hb6 hb7 hb8 hc0 hc1 hc2 hx0 hx1 hx2
  go_wp2_with fail
  go_ret
  exact ⟨rfl, box_low HB8.out⟩
end Go.Proofs.Ythbakmdcepoikaa
