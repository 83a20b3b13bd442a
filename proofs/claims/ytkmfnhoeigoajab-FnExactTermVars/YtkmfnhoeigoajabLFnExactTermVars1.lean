/- Several texts in one: XVars. -/
import Derived.Test.YtkmfnhoeigoajabKVar12
import Derived.Test.YtkmfnhoeigoajabKVar11
import Derived.Test.YtkmfnhoeigoajabKVar14

/-! XVars: For every term, laws.FnExactTermVars answers true and writes nothing that was there. -/
namespace Go.Proofs.Ytkmfnhoeigoajab
open Go.RowKit Go.Deep

theorem toTermT_any {s v : Int} {a : Option Addr} {c : Nat} {k : Fo} {w : World} (hl : Sl w 0 w.heap.size a k) (hN : fsz k ≤ 1048576) :
    Calls Try.prog 26 #[.agg #[.int .i64 s, .int .i64 v, .slice a (flen k) c]] w (ToPostT s v k w) :=
  toTerm_ofT s v a c k w fun w1 hb1 => toTermS_anyT (fsz k) a c k w1 ((hl.below hb1).mono (Nat.le_refl _) hb1.size) (Nat.le_refl _) hN
theorem iown_same {w w2 : World} {base : Nat} {xs : List Int} {A : Option Addr} {C : Nat} (h : IOwn w base xs A C) (hs : ∀ b, base ≤ b → b < w.heap.size → w2.heap[b]? = w.heap[b]?) : IOwn w2 base xs A C := by
  refine ⟨h.1, ?_⟩
  rcases h.2 with h2 | ⟨g, cap, cur, h3, h4, h5, h6⟩
  · exact .inl h2
  · exact .inr ⟨g, cap, cur, h3, h4, by rw [hs g h4 (Array.getElem?_eq_some_iff.1 h5).1]; exact h5, h6⟩

set_option maxRecDepth 100000 in
set_option maxHeartbeats 2000000 in
theorem exactVars_walk (s v : Int) (a : Option Addr) (c : Nat) (k : Fo) (w : World) (hl : Sl w 0 w.heap.size a k) (hc : fcap k) (hm : flen k ≤ maxLen) :
    Calls Try.prog 8 #[.agg #[.int .i64 s, .int .i64 v, .slice a (flen k) c]] w fun e w' => e = .returned (.bool true) ∧ Below w.heap.size w w' := by
  have HL : Hid (Sl (w.alloc (.cells #[.int .i64 s, .int .i64 v, .slice a (flen k) c] 45)) 0 w.heap.size a k) := hl.below ((Below.refl _ _).alloc (Nat.le_refl _) _)
  have HC := Lib.hid hc
  have HM := Lib.hid hm
  clear hl hc hm
  go_enter Try.func8, Try.ntmps8
  go_wp2_with fail
  with_reducible refine (szTerm_any (HL.out.mono (Nat.le_refl _) (by simp)) HC.out HM.out (by omega) (by omega)).mono ?_
  rintro e w1 ⟨rfl, hb1⟩
  have HB1 : Hid (Below (w.heap.size + 1) (w.alloc (.cells #[.int .i64 s, .int .i64 v, .slice a (flen k) c] 45)) w1) := by simpa [Hid] using hb1
  have hs1 := HB1.out.size
  simp at hs1
  clear hb1
  rcases szR_case k 1048576 with hz | hz
  · rw [hz]
    clear hz
    go_wp2_with fail
    go_ret
    exact ⟨rfl, box_lowX HB1.out⟩
  have hN := szR_fit hz
  generalize szR k 1048576 = z at *
  obtain ⟨hc0, hc1, hc2⟩ := box_cells ⟨_, HB1.out⟩
  dsimp only at hc0 hc1 hc2
  go_wp2_with fail
  with_reducible refine (toTerm_any ((HL.out.below (HB1.out.mono (by omega))).mono (Nat.le_refl _) (by omega)) hN).mono ?_
  rintro e w2 ⟨a2, c2, rfl, hb2, hl2⟩
  have hs2 := hb2.size
  have HB2 := Lib.hid (HB1.out.trans (hb2.mono (by omega)))
  have HT2 := Lib.hid (hl2.mono (lo' := 0) (Nat.zero_le _) (Nat.le_refl _))
  clear hb2 hl2 hc0 hc1 hc2
  go_wp2_with fail
  with_reducible refine (sTermVars_any s v a2 c2 k _ HT2.out).mono ?_
  rintro e w3 ⟨A3, C3, xs, hxs, rfl, hb3, hio3⟩
  have hs3 := hb3.size
  have hxl := tvR_len s v k
  rw [← hxs] at hxl
  have HXS := Lib.hid hxs
  have HB3 := Lib.hid (HB2.out.trans (hb3.mono (by omega)))
  have HW3 := Lib.hid (hio3.sl.mono (lo' := 0) (Nat.zero_le _) (Nat.le_refl _))
  clear hb3 hio3 hxs
  obtain ⟨hc0, hc1, hc2⟩ := box_cells ⟨_, HB3.out⟩
  dsimp only at hc0 hc1 hc2
  go_wp2_with fail
  with_reducible refine (toTermT_any ((HL.out.below (HB3.out.mono (by omega))).mono (Nat.le_refl _) (by omega)) hN).mono ?_
  rintro e w4 ⟨a4, c4, rfl, hb4, hl4⟩
  have hs4 := hb4.size
  have hb4' := hb4.alloc hs4 (.cells #[.int .i64 s, .int .i64 v, .slice a4 (flen k) c4] 25)
  have HB4 := Lib.hid (HB3.out.trans (hb4'.mono (by omega)))
  have HV4 := Lib.hid (HW3.out.below hb4')
  have HX4 : Hid (SX (w4.alloc (.cells #[.int .i64 s, .int .i64 v, .slice a4 (flen k) c4] 25)) w3.heap.size w4.heap.size a4 k) := hl4.same (Same.of_below ((Below.refl _ _).alloc (Nat.le_refl _) _))
  have HO4 : Hid (Below (w4.heap.size + 1) (w4.alloc (.cells #[.int .i64 s, .int .i64 v, .slice a4 (flen k) c4] 25)) (w4.alloc (.cells #[.int .i64 s, .int .i64 v, .slice a4 (flen k) c4] 25))) := Below.refl _ _
  have HX4l : Hid (Sl (w4.alloc (.cells #[.int .i64 s, .int .i64 v, .slice a4 (flen k) c4] 25)) 0 (w4.alloc (.cells #[.int .i64 s, .int .i64 v, .slice a4 (flen k) c4] 25)).heap.size a4 k) := HX4.out.1.mono (Nat.zero_le _) (by simp)
  clear hb4 hb4' hl4 hc0 hc1 hc2
  go_wp2_with fail
  with_reducible refine (iTermVars_any s v a4 c4 k _ HX4l.out).mono ?_
  rintro e w5 ⟨A5, C5, ys, hys, rfl, hb5, hio5⟩
  obtain rfl : ys = xs := by rw [hys, HXS.out]
  have hs5 := hb5.size
  simp at hs5
  have HB5 := Lib.hid (HB4.out.trans (hb5.mono (by simp; omega)))
  have HO5 := Lib.hid (HO4.out.trans (hb5.mono (by simp)))
  have HV5 := Lib.hid (HV4.out.below (hb5.mono (by simp; omega)))
  have HX5 := Lib.hid (HX4.out.same (Same.of_below (hb5.mono (by simp))))
  have HG5 : Hid (IOwn w5 (w4.heap.size + 1) ys A5 C5) := by simpa [Hid] using hio5
  clear hb5 hio5 hys
  go_wp2_with fail
  with_reducible refine (eqIntS_same ys A5 A3 C5 C3 _ _ _ (HG5.out.sl.mono (Nat.zero_le _) (Nat.le_refl _)) (HV5.out.mono (Nat.le_refl _) (by omega)) rfl rfl (by omega)).mono ?_
  rintro e w6 ⟨rfl, hb6⟩
  have hs6 := hb6.size
  have HB6 := Lib.hid (HB5.out.trans (hb6.mono (by omega)))
  have HO6 := Lib.hid (HO5.out.trans (hb6.mono (by omega)))
  have HV6 := Lib.hid (HV5.out.below (hb6.mono (by omega)))
  have HX6 := Lib.hid (HX5.out.same (Same.of_below (hb6.mono (by omega))))
  have HG6 := Lib.hid (HG5.out.low hb6)
  clear hb6
  obtain ⟨hc0, hc1, hc2⟩ := box_cells ⟨_, HB6.out⟩
  dsimp only at hc0 hc1 hc2
  obtain ⟨hx0, hx1, hx2⟩ := box_cells ⟨_, HO6.out⟩
  dsimp only at hx0 hx1 hx2
  have hu0 : ∀ u : After w6.heap.size w6, u.world.cell? ⟨w.heap.size, 0, none⟩ = some (.int .i64 s) := fun u => u.cell (by simp; omega) hc0
  have hu1 : ∀ u : After w6.heap.size w6, u.world.cell? ⟨w.heap.size, 1, none⟩ = some (.int .i64 v) := fun u => u.cell (by simp; omega) hc1
  have hu2 : ∀ u : After w6.heap.size w6, u.world.cell? ⟨w.heap.size, 2, none⟩ = some (.slice a (flen k) c) := fun u => u.cell (by simp; omega) hc2
  have hu3 : ∀ u : After w6.heap.size w6, u.world.cell? ⟨w4.heap.size, 0, none⟩ = some (.int .i64 s) := fun u => u.cell (by simp; omega) hx0
  have hu4 : ∀ u : After w6.heap.size w6, u.world.cell? ⟨w4.heap.size, 1, none⟩ = some (.int .i64 v) := fun u => u.cell (by simp; omega) hx1
  have hu5 : ∀ u : After w6.heap.size w6, u.world.cell? ⟨w4.heap.size, 2, none⟩ = some (.slice a4 (flen k) c4) := fun u => u.cell (by simp; omega) hx2
  have HT6a : Hid (Sl w6 0 w6.heap.size a k) := ((HL.out.below (HB6.out.mono (by omega))).mono (Nat.le_refl _) (by omega))
  have HT6 : Hid (Sl w6.drew 0 w6.drew.heap.size a k) := HT6a.out.below (Below.refl _ _).drew
  go_wp2_with fail
  clear hc0 hc1 hc2 hx0 hx1 hx2
  refine wp_region_mix (fun w' => ∃ u : After w6.heap.size w6, w' = u.world) [] [(0, 0), (1, 0), (2, 1), (3, 1), (4, 1)] (by kernel_rfl) (by kernel_rfl) ⟨⟨_, (Below.refl _ _).drew⟩, rfl⟩ ?_
  iterate 2
    refine mix_see rfl (fun K hK => ?_)
    go_simp
    refine hK _ ?_
    clear hK K
  clear hu0 hu1 hu2 hu3 hu4 hu5
  refine mix_hold rfl (fun K hK => ?_)
  go_simp
  with_reducible refine (toTerm_any (k := k) (c := c) HT6.out hN).mono ?_
  rintro e w7 ⟨a7, c7, rfl, hb7', hl7⟩
  have hb7 : Below w6.heap.size w6 w7 := ⟨hb7'.os, hb7'.tape, hb7'.output, hb7'.size, hb7'.block⟩
  have hs7 := hb7.size
  have HM7 : Hid (Sl w7 0 w7.heap.size a4 k) := (HX6.out.1.below (hb7.mono (by omega))).mono (Nat.zero_le _) (by omega)
  have HN7 := Lib.hid (hl7.mono (lo' := 0) (Nat.zero_le _) (Nat.le_refl _))
  refine hK _ _ ⟨⟨_, hb7⟩, rfl⟩ ?_
  clear hK K hb7' hl7
  refine mix_hold rfl (fun K hK => ?_)
  go_simp
  with_reducible refine (eqTerm_any (k := k) HM7.out HN7.out hN).mono ?_
  rintro e w8 ⟨rfl, hb8'⟩
  have hb8 := hb7.trans (hb8'.mono hs7)
  refine hK _ _ ⟨⟨_, hb8⟩, rfl⟩ ?_
  clear hK K hb8'
  refine mix_hold rfl (fun K hK => ?_)
  go_simp
  refine hK _ _ ⟨⟨_, hb8⟩, rfl⟩ ?_
  clear hK K
  refine mix_end ?_
  have hs8 := hb8.size
  have HB8 := Lib.hid (HB6.out.trans (hb8.mono (by omega)))
  have HO8 := Lib.hid (HO6.out.trans (hb8.mono (by omega)))
  have HV8 := Lib.hid (HV6.out.below (hb8.mono (by omega)))
  have HX8 := Lib.hid (HX6.out.same (Same.of_below (hb8.mono (by omega))))
  have HG8 := Lib.hid (HG6.out.low hb8)
  clear hb7 hb8 HM7 HN7
  obtain ⟨hx0, hx1, hx2⟩ := box_cells ⟨_, HO8.out⟩
  dsimp only at hx0 hx1 hx2
  have HX8s := Lib.hid HX8.out.2
  have e1 : decide ((1 : Int) + 2 * (fsz k : Int) < 0) = false := decide_eq_false (by omega)
  go_wp2_with fail
  with_reducible refine (markTerm_any s v a4 c4 k w3.heap.size w4.heap.size 1 _ HX8s.out hN (by omega) (by omega) (by omega) (by omega)).mono ?_
  rintro e w9 ⟨rfl, hmk⟩
  have hs9 := hmk.below.size
  have HB9 := Lib.hid (HB8.out.trans (hmk.below.mono (by omega)))
  have HV9 := Lib.hid (HV8.out.below hmk.below)
  have HG9 : Hid (IOwn w9 (w4.heap.size + 1) ys A5 C5) := iown_same HG8.out (fun b h1 h2 => hmk.far b (by omega) h2)
  clear hmk hx0 hx1 hx2
  go_wp2_with fail
  with_reducible refine (eqIntS_same ys A5 A3 C5 C3 _ _ _ (HG9.out.sl.mono (Nat.zero_le _) (Nat.le_refl _)) (HV9.out.mono (Nat.le_refl _) (by omega)) rfl rfl (by omega)).mono ?_
  rintro e w10 ⟨rfl, hb10⟩
  have hs10 := hb10.size
  have HB10 := Lib.hid (HB9.out.trans (hb10.mono (by omega)))
  have HV10 := Lib.hid (HV9.out.below (hb10.mono (by omega)))
  have HG10 := Lib.hid (HG9.out.low hb10)
  clear hb10
  go_wp2_with fail
  with_reducible refine (markIntS_any (w4.heap.size + 1) ys A5 C5 1 _ HG10.out (by omega) (by omega) (by omega)).mono ?_
  rintro e w11 ⟨rfl, hown11, hgr⟩
  have hs11 := hgr.size
  have HLT : Hid (∀ g, (Value.slice A5 ys.length C5).ownBlock = some g → w4.heap.size + 1 ≤ g) := fun g hg => (HG10.out.lt g hg).1
  have HBb : Hid (Below (w4.heap.size + 1) w10 w11) := (Below.refl _ _).grown hgr (by omega) HLT.out
  have HB11 := Lib.hid (HB10.out.trans (HBb.out.mono (by omega)))
  have HV11 := Lib.hid (HV10.out.below (HBb.out.mono (by omega)))
  have HU11 : Hid (ISl w11 0 w11.heap.size A5 (ups 1 ys.length)) := (isl_of_own hown11).mono (Nat.zero_le _) (Nat.le_refl _)
  have e2 : decide ((1 : Int) + (ys.length : Int) < 0) = false := decide_eq_false (by omega)
  have e3 : (((1 : Int) + (ys.length : Int)) != ((1 : Int) + (ys.length : Int))) = false := by simp
  clear hown11 hgr
  go_wp2_with fail
  with_reducible refine (heldIntS_any ys.length A5 C5 1 _ HU11.out (by omega) (by omega) (by omega)).mono ?_
  rintro e w12 ⟨rfl, hb12⟩
  have hs12 := hb12.size
  have HB12 := Lib.hid (HB11.out.trans (hb12.mono (by omega)))
  have HV12 := Lib.hid (HV11.out.below (hb12.mono (by omega)))
  have HU12 := Lib.hid ((HU11.out.below hb12).mono (lo' := 0) (Nat.le_refl _) hs12)
  clear hb12
  obtain ⟨hc0, hc1, hc2⟩ := box_cells ⟨_, HB12.out⟩
  dsimp only at hc0 hc1 hc2
  go_wp2_with fail
  with_reducible refine (toTerm_any ((HL.out.below (HB12.out.mono (by omega))).mono (Nat.le_refl _) (by omega)) hN).mono ?_
  rintro e w13 ⟨a13, c13, rfl, hb13, hl13⟩
  have hs13 := hb13.size
  have HB13 := Lib.hid (HB12.out.trans (hb13.mono (by omega)))
  have HV13 := Lib.hid (HV12.out.below (hb13.mono (by omega)))
  have HU13 := Lib.hid ((HU12.out.below hb13).mono (lo' := 0) (Nat.le_refl _) hs13)
  have HT13 := Lib.hid (hl13.mono (lo' := 0) (Nat.zero_le _) (Nat.le_refl _))
  clear hb13 hl13 hc0 hc1 hc2
  go_wp2_with fail
  with_reducible refine (iTermVars_any s v a13 c13 k _ HT13.out).mono ?_
  rintro e w14 ⟨A14, C14, zs, hzs, rfl, hb14, hio14⟩
  obtain rfl : zs = ys := by rw [hzs, HXS.out]
  have hs14 := hb14.size
  have HB14 := Lib.hid (HB13.out.trans (hb14.mono (by omega)))
  have HV14 := Lib.hid (HV13.out.below (hb14.mono (by omega)))
  have HU14 := Lib.hid ((HU13.out.below hb14).mono (lo' := 0) (Nat.le_refl _) hs14)
  have HH14 := Lib.hid (hio14.sl.mono (lo' := 0) (Nat.zero_le _) (Nat.le_refl _))
  clear hb14 hio14 hzs
  go_wp2_with fail
  with_reducible refine (eqIntS_same zs A14 A3 C14 C3 _ _ _ HH14.out (HV14.out.mono (Nat.le_refl _) (by omega)) rfl rfl (by omega)).mono ?_
  rintro e w15 ⟨rfl, hb15⟩
  have hs15 := hb15.size
  have HB15 := Lib.hid (HB14.out.trans (hb15.mono (by omega)))
  have HU15 := Lib.hid ((HU14.out.below hb15).mono (lo' := 0) (Nat.le_refl _) hs15)
  clear hb15
  go_wp2_with fail
  with_reducible refine (heldIntS_any zs.length A5 C5 1 _ HU15.out (by omega) (by omega) (by omega)).mono ?_
  rintro e w16 ⟨rfl, hb16⟩
  have HB16 := Lib.hid (HB15.out.trans (hb16.mono (by omega)))
  clear hb16
  go_wp2_with fail
  go_ret
  exact ⟨rfl, box_lowX HB16.out⟩
end Go.Proofs.Ytkmfnhoeigoajab
