/- Several texts in one: XPut. -/
import Derived.Test.YtkmfnhoeigoajabLFnExactTermPut1
import Derived.Deep.DeepCutAuto
import Derived.Deep.RegionHeld3

/-! XPut: For every two terms and every place, laws.FnExactTermPut answers true and writes nothing that was there. -/
namespace Go.Proofs.Ytkmfnhoeigoajab
open Go.RowKit Go.Deep

theorem tb_cellsX {w w' : World} {x y z x' y' z' : Value} {T T' : TypeId} (h : Below (w.heap.size + 2) ((w.alloc (.cells #[x, y, z] T)).alloc (.cells #[x', y', z'] T')) w') :
    w'.cell? ⟨w.heap.size, 0, none⟩ = some x ∧ w'.cell? ⟨w.heap.size, 1, none⟩ = some y ∧ w'.cell? ⟨w.heap.size, 2, none⟩ = some z ∧
      w'.cell? ⟨w.heap.size + 1, 0, none⟩ = some x' ∧ w'.cell? ⟨w.heap.size + 1, 1, none⟩ = some y' ∧ w'.cell? ⟨w.heap.size + 1, 2, none⟩ = some z' := by
  refine ⟨?_, ?_, ?_, ?_, ?_, ?_⟩
  · rw [h.cell (by simp), World.cell?_alloc_lt _ _ _ (by simp), World.cell?_alloc_at _ _ _ _ (by simp)]; rfl
  · rw [h.cell (by simp), World.cell?_alloc_lt _ _ _ (by simp), World.cell?_alloc_at _ _ _ _ (by simp)]; rfl
  · rw [h.cell (by simp), World.cell?_alloc_lt _ _ _ (by simp), World.cell?_alloc_at _ _ _ _ (by simp)]; rfl
  · rw [h.cell (by simp), World.cell?_alloc_at _ _ _ _ (by simp)]; rfl
  · rw [h.cell (by simp), World.cell?_alloc_at _ _ _ _ (by simp)]; rfl
  · rw [h.cell (by simp), World.cell?_alloc_at _ _ _ _ (by simp)]; rfl
theorem two_low {w w' : World} {o o' : Obj} (h : Below (w.heap.size + 2) ((w.alloc o).alloc o') w') : Below w.heap.size w w' :=
  (((Below.refl _ _).alloc (Nat.le_refl _) o).alloc (by simp) o').trans (h.mono (by omega))
theorem szR_fit2 {k : Fo} {l : Int} (h : 0 ≤ szR k l) : (fsz k : Int) ≤ l := by
  unfold szR at h
  split at h
  · assumption
  · omega
theorem szR_le (k : Fo) (l : Int) (h : 0 ≤ l) : szR k l ≤ l := by
  unfold szR
  split <;> omega
theorem IOwn.sc {w : World} {base : Nat} {xs : List Int} {A : Option Addr} {C : Nat} (h : IOwn w base xs A C) : ISc w base w.heap.size A C xs := isc_of_own h

set_option maxRecDepth 100000 in
set_option maxHeartbeats 4000000 in
theorem exactPut_walk (s v : Int) (a : Option Addr) (c : Nat) (k : Fo) (pA : Option Addr) (pC : Nat) (place : List Int) (s2 v2 : Int) (b : Option Addr) (d : Nat) (k2 : Fo) (w : World) (hl : Sl w 0 w.heap.size a k) (hc : fcap k) (hm : flen k ≤ maxLen) (hp : ISl w 0 w.heap.size pA place) (hpm : place.length ≤ maxLen) (hl2 : Sl w 0 w.heap.size b k2) (hc2 : fcap k2) (hm2 : flen k2 ≤ maxLen) :
    Calls Try.prog 7 #[.agg #[.int .i64 s, .int .i64 v, .slice a (flen k) c], .slice pA place.length pC, .agg #[.int .i64 s2, .int .i64 v2, .slice b (flen k2) d]] w fun e w' => e = .returned (.bool true) ∧ Below w.heap.size w w' := by
  have hbA : Below w.heap.size w ((w.alloc (.cells #[.int .i64 s, .int .i64 v, .slice a (flen k) c] 45)).alloc (.cells #[.int .i64 s2, .int .i64 v2, .slice b (flen k2) d] 45)) := ((Below.refl _ _).alloc (Nat.le_refl _) _).alloc (by simp) _
  have HL : Hid (Sl ((w.alloc (.cells #[.int .i64 s, .int .i64 v, .slice a (flen k) c] 45)).alloc (.cells #[.int .i64 s2, .int .i64 v2, .slice b (flen k2) d] 45)) 0 w.heap.size a k) := hl.below hbA
  have HS : Hid (Sl ((w.alloc (.cells #[.int .i64 s, .int .i64 v, .slice a (flen k) c] 45)).alloc (.cells #[.int .i64 s2, .int .i64 v2, .slice b (flen k2) d] 45)) 0 w.heap.size b k2) := hl2.below hbA
  have HP : Hid (ISl ((w.alloc (.cells #[.int .i64 s, .int .i64 v, .slice a (flen k) c] 45)).alloc (.cells #[.int .i64 s2, .int .i64 v2, .slice b (flen k2) d] 45)) 0 w.heap.size pA place) := hp.below hbA
  have HB0 : Hid (Below (w.heap.size + 2) ((w.alloc (.cells #[.int .i64 s, .int .i64 v, .slice a (flen k) c] 45)).alloc (.cells #[.int .i64 s2, .int .i64 v2, .slice b (flen k2) d] 45)) ((w.alloc (.cells #[.int .i64 s, .int .i64 v, .slice a (flen k) c] 45)).alloc (.cells #[.int .i64 s2, .int .i64 v2, .slice b (flen k2) d] 45))) := Below.refl _ _
  have HC := Lib.hid hc
  have HM := Lib.hid hm
  have HC2 := Lib.hid hc2
  have HM2 := Lib.hid hm2
  clear hl hc hm hp hl2 hc2 hm2 hbA
  unfold maxLen at hpm
  by_cases hbig : 1048576 < place.length
  · go_enter Try.func7, Try.ntmps7
    go_wp2_with fail
    go_ret
    exact ⟨rfl, two_low HB0.out⟩
  clear hpm
  go_enter Try.func7, Try.ntmps7
  go_wp2_with fail
  with_reducible refine (szTerm_any (HL.out.mono (Nat.le_refl _) (by first | omega | (simp; done) | (simp; omega))) HC.out HM.out (by omega) (by omega)).mono ?_
  rintro e w1 ⟨rfl, hb1⟩
  have HB1 : Hid (Below (w.heap.size + 2) ((w.alloc (.cells #[.int .i64 s, .int .i64 v, .slice a (flen k) c] 45)).alloc (.cells #[.int .i64 s2, .int .i64 v2, .slice b (flen k2) d] 45)) w1) := hb1.mono (by simp)
  have hs1 := HB1.out.size
  try simp at hs1
  clear hb1
  rcases szR_case k 1048576 with hz | hz
  · rw [hz]
    clear hz
    go_wp2_with fail
    go_ret
    exact ⟨rfl, two_low HB1.out⟩
  have hN := szR_fit hz
  have hzl := szR_le k 1048576 (by omega)
  generalize szR k 1048576 = z at *
  obtain ⟨hc0, hc1, hc2, hd0, hd1, hd2⟩ := tb_cellsX HB1.out
  go_wp2_with fail
  with_reducible refine (szTerm_any ((HS.out.below (HB1.out.mono (by first | omega | (simp; done) | (simp; omega)))).mono (Nat.le_refl _) (by first | omega | (simp; done) | (simp; omega))) HC2.out HM2.out hz hzl).mono ?_
  rintro e w1b ⟨rfl, hb1⟩
  have hs1b := hb1.size
  have HB1b := Lib.hid (HB1.out.trans (hb1.mono (by first | omega | (simp; done) | (simp; omega))))
  clear hb1 hc0 hc1 hc2 hd0 hd1 hd2
  rcases szR_case k2 z with hz2 | hz2
  · rw [hz2]
    clear hz2
    go_wp2_with fail
    go_ret
    exact ⟨rfl, two_low HB1b.out⟩
  have hN2' := szR_fit2 hz2
  have hN2 : fsz k2 ≤ 1048576 := by omega
  generalize szR k2 z = z2 at *
  obtain ⟨hc0, hc1, hc2, hd0, hd1, hd2⟩ := tb_cellsX HB1b.out
  go_upto_region 10 with fail
  go_cut [8, 9] (fun p8 t9 wx => ∃ g a4 c4 s' v' k' t, p8 = .pointer (some ⟨g, 0, none⟩) ∧ t9 = .bool t ∧ putR s v k place (s2, v2, k2) = (s', v', k', t) ∧ Hid (PutCut w1b wx g a4 c4 s' v' k'))
  case first =>
    have HX6 : Hid (Six w1b w.heap.size (.int .i64 s) (.int .i64 v) (.slice a (flen k) c) (.int .i64 s2) (.int .i64 v2) (.slice b (flen k2) d)) := ⟨hc0, hc1, hc2, hd0, hd1, hd2⟩
    have JV0 : Hid (Below w1b.heap.size w1b w1b.drew) := (Below.refl _ _).drew
    have JV0b : Hid (Below w1b.heap.size w1b (w1b.alloc (.cells #[.int .i64 0, .int .i64 0, .slice none 0 0] 25)).drew) := (pc_one (o := .cells #[.int .i64 0, .int .i64 0, .slice none 0 0] 25)).drew
    have JTi : Hid (Sl w1b 0 w1b.heap.size a k) := ((HL.out.below (HB1b.out.mono (by first | omega | (simp; done) | (simp; omega)))).mono (Nat.le_refl _) (by first | omega | (simp; done) | (simp; omega)))
    have JSi : Hid (Sl w1b 0 w1b.heap.size b k2) := ((HS.out.below (HB1b.out.mono (by first | omega | (simp; done) | (simp; omega)))).mono (Nat.le_refl _) (by first | omega | (simp; done) | (simp; omega)))
    have JPi : Hid (ISl w1b 0 w1b.heap.size pA place) := ((HP.out.below (HB1b.out.mono (by first | omega | (simp; done) | (simp; omega)))).mono (Nat.le_refl _) (by first | omega | (simp; done) | (simp; omega)))
    have HPL : Hid (place.length ≤ 1048576) := by unfold Hid; omega
    clear hc0 hc1 hc2 hd0 hd1 hd2
    go_region_held3 (fun w' => w'.cell? ⟨w.heap.size, 0, none⟩ = some (.int .i64 s) ∧ w'.cell? ⟨w.heap.size, 1, none⟩ = some (.int .i64 v) ∧ w'.cell? ⟨w.heap.size, 2, none⟩ = some (.slice a (flen k) c) ∧ w'.cell? ⟨w.heap.size + 1, 0, none⟩ = some (.int .i64 s2) ∧ w'.cell? ⟨w.heap.size + 1, 1, none⟩ = some (.int .i64 v2) ∧ w'.cell? ⟨w.heap.size + 1, 2, none⟩ = some (.slice b (flen k2) d))
        (first
          | (with_reducible exact HX6.out.on JV4.out)
          | (with_reducible exact HX6.out.on JV3.out)
          | (with_reducible exact HX6.out.on JV2.out)
          | (with_reducible exact HX6.out.on JV1.out)
          | (with_reducible exact HX6.out.on JV0.out)
          | (with_reducible exact HX6.out.on JV0b.out)
          | (with_reducible exact HX6.out.on (pc_al JV4.out))
          | (with_reducible exact HX6.out.on (pc_al JV3.out))
          | (with_reducible exact HX6.out.on (pc_al JV2.out))
          | (with_reducible exact HX6.out.on (pc_al JV1.out))
          | (with_reducible exact HX6.out.on (pc_al JV0.out))
          | (with_reducible exact HX6.out.on (pc_set JV4.out (Nat.le_refl _)))
          | (with_reducible exact HX6.out.on (pc_set JV4.out JV1.out.size))
          | (with_reducible exact HX6.out.on (pc_set JV4.out JV2.out.size))
          | (with_reducible exact HX6.out.on (pc_set JV4.out JV3.out.size)))
        ((first
          | (go_at_call 26; (with_reducible refine (toTerm_any (s := s) (v := v) (c := c) (pc_sl JTi.out JV0.out) hN).mono ?_); rintro e wq1 ⟨aq1, cq1, rfl, hb0, hl0⟩; have JV1 := Lib.hid (pc_tr JV0.out hb0); have JT1 := Lib.hid (pc_zero hl0); clear hl0 hb0)
          | (go_at_call 26; (with_reducible refine (toTerm_any (s := s) (v := v) (c := c) (pc_sl JTi.out JV0b.out) hN).mono ?_); rintro e wq1 ⟨aq1, cq1, rfl, hb0, hl0⟩; have JQ : Hid (PB wq1 w1b.heap.size) := ((pc_new (T := 25)).keep (Below.refl _ _).drew).keep hb0; have JV1 := Lib.hid (pc_tr JV0b.out hb0); have JT1 := Lib.hid (pc_zero hl0); clear hl0 hb0)
          | (go_at_call 27; (with_reducible refine (toIntS_any place pA pC _ (pc_il JPi.out JV1.out) HPL.out).mono ?_); rintro e wq2 ⟨Aq2, Cq2, rfl, hio0, hb0⟩; have hb := hb0; (try have JQ := Lib.hid (JQ.out.keep hb)); have JV2 := Lib.hid (pc_tr JV1.out hb); have JT2 := Lib.hid (pc_sl JT1.out hb); have JI2 := Lib.hid (pc_own hio0); clear hio0; clear hb0 hb)
          | (go_at_call 27; (with_reducible refine (toIntS_any place pA pC _ (pc_il JPi.out (pc_al JV1.out)) HPL.out).mono ?_); rintro e wq2 ⟨Aq2, Cq2, rfl, hio0, hb0⟩; have JQ : Hid (PB wq2 wq1.heap.size) := (pc_new (T := 25)).keep hb0; have hb := pc_tr pc_one hb0; have JV2 := Lib.hid (pc_tr JV1.out hb); have JT2 := Lib.hid (pc_sl JT1.out hb); have JI2 := Lib.hid (pc_own hio0); clear hio0; clear hb0 hb)
          | (go_at_call 26; (with_reducible refine (toTerm_any (s := s2) (v := v2) (c := d) (pc_sl JSi.out JV2.out) hN2).mono ?_); rintro e wq3 ⟨aq3, cq3, rfl, hb0, hl0⟩; have hb := hb0; (try have JQ := Lib.hid (JQ.out.keep hb)); have JV3 := Lib.hid (pc_tr JV2.out hb); have JT3 := Lib.hid (pc_sl JT2.out hb); have JI3 := Lib.hid (pc_ic JI2.out hb); have JU3 := Lib.hid (pc_zero hl0); clear hl0; clear hb0 hb)
          | (go_at_call 26; (with_reducible refine (toTerm_any (s := s2) (v := v2) (c := d) (pc_sl JSi.out (pc_al JV2.out)) hN2).mono ?_); rintro e wq3 ⟨aq3, cq3, rfl, hb0, hl0⟩; have JQ : Hid (PB wq3 wq2.heap.size) := (pc_new (T := 25)).keep hb0; have hb := pc_tr pc_one hb0; have JV3 := Lib.hid (pc_tr JV2.out hb); have JT3 := Lib.hid (pc_sl JT2.out hb); have JI3 := Lib.hid (pc_ic JI2.out hb); have JU3 := Lib.hid (pc_zero hl0); clear hl0; clear hb0 hb)
          | (go_at_call 10; (with_reducible refine (sTermPut_any s v aq1 cq1 k Aq2 Cq2 place s2 v2 aq3 cq3 k2 _ JT3.out JI3.out HPL.out JU3.out).mono ?_); rintro e wq4 ⟨aq, cq, sq, vq, kq, tq, hRq, rfl, hb0, hl0⟩; (try have JG := Lib.hid JQ.out.lt); have hb := hb0; (try have JQ := Lib.hid (JQ.out.keep hb)); have JV4 := Lib.hid (pc_tr JV3.out hb); have JL4 := Lib.hid hl0; have JR := Lib.hid hRq; (try obtain ⟨jq, jq0, jq1, jq2, jf0, jf1, jf2⟩ := JQ.out); clear hl0 hRq; clear hb0 hb)
          | (go_at_call 10; (with_reducible refine (sTermPut_any s v aq1 cq1 k Aq2 Cq2 place s2 v2 aq3 cq3 k2 _ (pc_sl JT3.out pc_one) (pc_ic JI3.out pc_one) HPL.out (pc_sl JU3.out pc_one)).mono ?_); rintro e wq4 ⟨aq, cq, sq, vq, kq, tq, hRq, rfl, hb0, hl0⟩; have JG := Lib.hid (pc_lt (W := wq3) (o := .cells #[.int .i64 0, .int .i64 0, .slice none 0 0] 25)); have JQ : Hid (PB wq4 wq3.heap.size) := (pc_new (T := 25)).keep hb0; have hb := pc_tr pc_one hb0; have JV4 := Lib.hid (pc_tr JV3.out hb); have JL4 := Lib.hid hl0; have JR := Lib.hid hRq; (try obtain ⟨jq, jq0, jq1, jq2, jf0, jf1, jf2⟩ := JQ.out); clear hl0 hRq; clear hb0 hb)))
    all_goals (try go_wp2_with fail)
    all_goals go_meet
    all_goals (first
      | exact ⟨_, aq, cq, sq, vq, kq, tq, rfl, rfl, JR.out, pc_finA JV4.out JL4.out⟩
      | exact ⟨_, aq, cq, sq, vq, kq, tq, rfl, rfl, JR.out, pc_finS JV4.out (Nat.le_refl _) JQ.out JG.out JL4.out⟩
      | exact ⟨_, aq, cq, sq, vq, kq, tq, rfl, rfl, JR.out, pc_finS JV4.out JV1.out.size JQ.out JG.out JL4.out⟩
      | exact ⟨_, aq, cq, sq, vq, kq, tq, rfl, rfl, JR.out, pc_finS JV4.out JV2.out.size JQ.out JG.out JL4.out⟩
      | exact ⟨_, aq, cq, sq, vq, kq, tq, rfl, rfl, JR.out, pc_finS JV4.out JV3.out.size JQ.out JG.out JL4.out⟩)
  obtain ⟨g4, a4, c4, s', v', k', t, rfl, rfl, hR, HQ4⟩ := hcut
  obtain ⟨w4, hw4⟩ : ∃ x, x = wc := ⟨_, rfl⟩
  subst hw4
  clear hc0 hc1 hc2 hd0 hd1 hd2
  have hs4 := HQ4.out.below.size
  have hg4 := HQ4.out.hi
  have HR := Lib.hid hR
  have hk' := putR_sz hR
  have HB4 := Lib.hid (HB1b.out.trans (HQ4.out.below.mono (by first | omega | (simp; done) | (simp; omega))))
  have HW4 : Hid (Below w4.heap.size w4 w4) := Below.refl _ _
  have HLW := Lib.hid HQ4.out.sl
  clear hR
  obtain ⟨hc0, hc1, hc2, hd0, hd1, hd2⟩ := tb_cellsX HB4.out
  go_wp2_with fail
  with_reducible refine (toTermT_any ((HL.out.below (HB4.out.mono (by first | omega | (simp; done) | (simp; omega)))).mono (Nat.le_refl _) (by first | omega | (simp; done) | (simp; omega))) hN).mono ?_
  rintro e w5 ⟨a5, c5, rfl, hb5, hl5⟩
  have hs5 := hb5.size
  try simp at hs5
  have hb5' := hb5.alloc hb5.size (.cells #[.int .i64 s, .int .i64 v, .slice a5 (flen k) c5] 25)
  have HB5 := Lib.hid (HB4.out.trans (hb5'.mono (by first | omega | (simp; done) | (simp; omega))))
  have HW5 := Lib.hid (HW4.out.trans (hb5'.mono (by first | omega | (simp; done) | (simp; omega))))
  have HX5 : Hid (Below (w5.heap.size + 1) (w5.alloc (.cells #[.int .i64 s, .int .i64 v, .slice a5 (flen k) c5] 25)) (w5.alloc (.cells #[.int .i64 s, .int .i64 v, .slice a5 (flen k) c5] 25))) := Below.refl _ _
  have HSX5 : Hid (SX (w5.alloc (.cells #[.int .i64 s, .int .i64 v, .slice a5 (flen k) c5] 25)) w4.heap.size w5.heap.size a5 k) := (hl5.same (Same.of_below ((Below.refl _ _).alloc (Nat.le_refl _) _))).mono (by simp) (Nat.le_refl _)
  clear hb5 hb5' hl5 hc0 hc1 hc2 hd0 hd1 hd2
  go_wp2_with fail
  with_reducible refine (toIntS_any place pA pC _ ((HP.out.below (HB5.out.mono (by first | omega | (simp; done) | (simp; omega)))).mono (Nat.le_refl _) (by first | omega | (simp; done) | (simp; omega))) (by omega)).mono ?_
  rintro e w6 ⟨A6, C6, rfl, hio6, hb6⟩
  have hs6 := hb6.size
  try simp at hs6
  have HB6 := Lib.hid (HB5.out.trans (hb6.mono (by first | omega | (simp; done) | (simp; omega))))
  have HW6 := Lib.hid (HW5.out.trans (hb6.mono (by first | omega | (simp; done) | (simp; omega))))
  have HX6 := Lib.hid (HX5.out.trans (hb6.mono (by first | omega | (simp; done) | (simp; omega))))
  have HSX6 := Lib.hid (HSX5.out.same (Same.of_below (hb6.mono (by first | omega | (simp; done) | (simp; omega)))))
  have HI6 : Hid (IOwn w6 (w5.heap.size + 1) place A6 C6) := by simpa [Hid] using hio6
  have HOB : Hid (∀ g, (Value.slice A6 place.length C6).ownBlock = some g → w5.heap.size + 1 ≤ g ∧ g < w6.heap.size) := fun g hg => HI6.out.lt g hg
  clear hb6 hio6
  obtain ⟨hc0, hc1, hc2, hd0, hd1, hd2⟩ := tb_cellsX HB6.out
  go_wp2_with fail
  with_reducible refine (toTermT_any ((HS.out.below (HB6.out.mono (by first | omega | (simp; done) | (simp; omega)))).mono (Nat.le_refl _) (by first | omega | (simp; done) | (simp; omega))) hN2).mono ?_
  rintro e w6b ⟨a6, c6, rfl, hb6b, hl6⟩
  have hs6b := hb6b.size
  have hb6' := hb6b.alloc hs6b (.cells #[.int .i64 s2, .int .i64 v2, .slice a6 (flen k2) c6] 25)
  have HB6b := Lib.hid (HB6.out.trans (hb6'.mono (by first | omega | (simp; done) | (simp; omega))))
  have HW6b := Lib.hid (HW6.out.trans (hb6'.mono (by first | omega | (simp; done) | (simp; omega))))
  have HX6b := Lib.hid (HX6.out.trans (hb6'.mono (by first | omega | (simp; done) | (simp; omega))))
  have HSX6b := Lib.hid (HSX6.out.same (Same.of_below (hb6'.mono (by first | omega | (simp; done) | (simp; omega)))))
  have HI6b := Lib.hid (HI6.out.low hb6')
  have HY6b : Hid (Below (w6b.heap.size + 1) (w6b.alloc (.cells #[.int .i64 s2, .int .i64 v2, .slice a6 (flen k2) c6] 25)) (w6b.alloc (.cells #[.int .i64 s2, .int .i64 v2, .slice a6 (flen k2) c6] 25))) := Below.refl _ _
  have HSY6b : Hid (SX (w6b.alloc (.cells #[.int .i64 s2, .int .i64 v2, .slice a6 (flen k2) c6] 25)) w6.heap.size w6b.heap.size a6 k2) := hl6.same (Same.of_below ((Below.refl _ _).alloc (Nat.le_refl _) _))
  have HXs : Hid (Sl (w6b.alloc (.cells #[.int .i64 s2, .int .i64 v2, .slice a6 (flen k2) c6] 25)) 0 (w6b.alloc (.cells #[.int .i64 s2, .int .i64 v2, .slice a6 (flen k2) c6] 25)).heap.size a5 k) := HSX6b.out.1.mono (Nat.zero_le _) (by first | omega | (simp; done) | (simp; omega))
  have HYs : Hid (Sl (w6b.alloc (.cells #[.int .i64 s2, .int .i64 v2, .slice a6 (flen k2) c6] 25)) 0 (w6b.alloc (.cells #[.int .i64 s2, .int .i64 v2, .slice a6 (flen k2) c6] 25)).heap.size a6 k2) := HSY6b.out.1.mono (Nat.zero_le _) (by first | omega | (simp; done) | (simp; omega))
  have HIs : Hid (ISc (w6b.alloc (.cells #[.int .i64 s2, .int .i64 v2, .slice a6 (flen k2) c6] 25)) 0 (w6b.alloc (.cells #[.int .i64 s2, .int .i64 v2, .slice a6 (flen k2) c6] 25)).heap.size A6 C6 place) := HI6b.out.sc.mono (Nat.zero_le _) (Nat.le_refl _)
  clear hb6b hb6' hl6 hc0 hc1 hc2 hd0 hd1 hd2
  obtain ⟨hx0, hx1, hx2⟩ := box_cells ⟨_, HX6b.out⟩
  obtain ⟨hy0, hy1, hy2⟩ := box_cells ⟨_, HY6b.out⟩
  dsimp only at hx0 hx1 hx2 hy0 hy1 hy2
  go_wp2_with fail
  with_reducible refine (iTermPutT_any s v a5 c5 k A6 C6 place s2 v2 a6 c6 k2 _ HXs.out HIs.out (by omega) HYs.out).mono ?_
  rintro e w7 ⟨a7, c7, s7, v7, k7, t7, hR7, rfl, hb7, hl7⟩
  rw [HR.out] at hR7
  simp only [Prod.mk.injEq] at hR7
  obtain ⟨rfl, rfl, rfl, rfl⟩ := hR7
  have hs7 := hb7.size
  try simp at hs7
  have hb7' := hb7.alloc hb7.size (.cells #[.int .i64 s', .int .i64 v', .slice a7 (flen k') c7] 25)
  have HB7 := Lib.hid (HB6b.out.trans (hb7'.mono (by first | omega | (simp; done) | (simp; omega))))
  have HW7 := Lib.hid (HW6b.out.trans (hb7'.mono (by first | omega | (simp; done) | (simp; omega))))
  have HX7 := Lib.hid (HX6b.out.trans (hb7'.mono (by first | omega | (simp; done) | (simp; omega))))
  have HY7 := Lib.hid (HY6b.out.trans (hb7'.mono (by first | omega | (simp; done) | (simp; omega))))
  have HSX7 := Lib.hid (HSX6b.out.same (Same.of_below (hb7'.mono (by first | omega | (simp; done) | (simp; omega)))))
  have HSY7 := Lib.hid (HSY6b.out.same (Same.of_below (hb7'.mono (by first | omega | (simp; done) | (simp; omega)))))
  have HI7 := Lib.hid (HI6b.out.low hb7')
  have HG7 : Hid (Below (w7.heap.size + 1) (w7.alloc (.cells #[.int .i64 s', .int .i64 v', .slice a7 (flen k') c7] 25)) (w7.alloc (.cells #[.int .i64 s', .int .i64 v', .slice a7 (flen k') c7] 25))) := Below.refl _ _
  have HTG7 : Hid (TX (w7.alloc (.cells #[.int .i64 s', .int .i64 v', .slice a7 (flen k') c7] 25)) (w6b.heap.size + 1) w7.heap.size a7 k') := (hl7.same (Same.of_below ((Below.refl _ _).alloc (Nat.le_refl _) _))).mono (by simp) (Nat.le_refl _)
  have HTG7s : Hid (Sl (w7.alloc (.cells #[.int .i64 s', .int .i64 v', .slice a7 (flen k') c7] 25)) 0 (w7.alloc (.cells #[.int .i64 s', .int .i64 v', .slice a7 (flen k') c7] 25)).heap.size a7 k') := HTG7.out.1.mono (Nat.zero_le _) (by first | omega | (simp; done) | (simp; omega))
  clear hb7 hb7' hl7 hx0 hx1 hx2 hy0 hy1 hy2 HXs HYs HIs
  obtain ⟨hw0, hw1, hw2⟩ := HQ4.out.cells (HW7.out.mono (by first | omega | (simp; done) | (simp; omega)))
  obtain ⟨hz0, hz1, hz2⟩ := box_cells ⟨_, HG7.out⟩
  dsimp only at hz0 hz1 hz2
  have e0 : (t != t) = false := by simp
  go_wp2_with fail
  with_reducible refine (eqTerm_any (k := k') HTG7s.out ((HLW.out.below (HW7.out.mono (by first | omega | (simp; done) | (simp; omega)))).mono (Nat.le_refl _) (by first | omega | (simp; done) | (simp; omega))) (by omega)).mono ?_
  rintro e w8 ⟨rfl, hb8⟩
  have hs8 := hb8.size
  try simp at hs8
  have HB8 := Lib.hid (HB7.out.trans (hb8.mono (by first | omega | (simp; done) | (simp; omega))))
  have HW8 := Lib.hid (HW7.out.trans (hb8.mono (by first | omega | (simp; done) | (simp; omega))))
  have HX8 := Lib.hid (HX7.out.trans (hb8.mono (by first | omega | (simp; done) | (simp; omega))))
  have HY8 := Lib.hid (HY7.out.trans (hb8.mono (by first | omega | (simp; done) | (simp; omega))))
  have HSX8 := Lib.hid (HSX7.out.same (Same.of_below (hb8.mono (by first | omega | (simp; done) | (simp; omega)))))
  have HSY8 := Lib.hid (HSY7.out.same (Same.of_below (hb8.mono (by first | omega | (simp; done) | (simp; omega)))))
  have HI8 := Lib.hid (HI7.out.low hb8)
  have HG8 := Lib.hid (HG7.out.trans (hb8.mono (by first | omega | (simp; done) | (simp; omega))))
  have HTG8 := Lib.hid (HTG7.out.same (Same.of_below (hb8.mono (by first | omega | (simp; done) | (simp; omega)))))
  clear hb8 hw0 hw1 hw2 hz0 hz1 hz2
  obtain ⟨hc0, hc1, hc2, hd0, hd1, hd2⟩ := tb_cellsX HB8.out
  obtain ⟨hx0, hx1, hx2⟩ := box_cells ⟨_, HX8.out⟩
  dsimp only at hx0 hx1 hx2
  have hu0 : ∀ u : After w8.heap.size w8, u.world.cell? ⟨w.heap.size, 0, none⟩ = some (.int .i64 s) := fun u => u.cell (by first | omega | (simp; done) | (simp; omega)) hc0
  have hu1 : ∀ u : After w8.heap.size w8, u.world.cell? ⟨w.heap.size, 1, none⟩ = some (.int .i64 v) := fun u => u.cell (by first | omega | (simp; done) | (simp; omega)) hc1
  have hu2 : ∀ u : After w8.heap.size w8, u.world.cell? ⟨w.heap.size, 2, none⟩ = some (.slice a (flen k) c) := fun u => u.cell (by first | omega | (simp; done) | (simp; omega)) hc2
  have hu3 : ∀ u : After w8.heap.size w8, u.world.cell? ⟨w5.heap.size, 0, none⟩ = some (.int .i64 s) := fun u => u.cell (by first | omega | (simp; done) | (simp; omega)) hx0
  have hu4 : ∀ u : After w8.heap.size w8, u.world.cell? ⟨w5.heap.size, 1, none⟩ = some (.int .i64 v) := fun u => u.cell (by first | omega | (simp; done) | (simp; omega)) hx1
  have hu5 : ∀ u : After w8.heap.size w8, u.world.cell? ⟨w5.heap.size, 2, none⟩ = some (.slice a5 (flen k) c5) := fun u => u.cell (by first | omega | (simp; done) | (simp; omega)) hx2
  have HTa8 : Hid (Sl w8 0 w8.heap.size a k) := ((HL.out.below (HB8.out.mono (by first | omega | (simp; done) | (simp; omega)))).mono (Nat.le_refl _) (by first | omega | (simp; done) | (simp; omega)))
  have HTd8 : Hid (Sl w8.drew 0 w8.drew.heap.size a k) := HTa8.out.below (Below.refl _ _).drew
  go_wp2_with fail
  clear hc0 hc1 hc2 hd0 hd1 hd2 hx0 hx1 hx2
  refine wp_region_mix (fun w' => ∃ u : After w8.heap.size w8, w' = u.world) [] [(0, 0), (1, 0), (2, 1), (3, 1), (4, 1)] (by kernel_rfl) (by kernel_rfl) ⟨⟨_, (Below.refl _ _).drew⟩, rfl⟩ ?_
  iterate 2
    refine mix_see rfl (fun K hK => ?_)
    go_simp
    refine hK _ ?_
    clear hK K
  clear hu0 hu1 hu2 hu3 hu4 hu5
  refine mix_hold rfl (fun K hK => ?_)
  go_simp
  with_reducible refine (toTerm_any (k := k) (c := c) HTd8.out hN).mono ?_
  rintro e w9 ⟨am, cm, rfl, hbm', hlm⟩
  have hbm : Below w8.heap.size w8 w9 := ⟨hbm'.os, hbm'.tape, hbm'.output, hbm'.size, hbm'.block⟩
  have hs9 := hbm.size
  have HMm : Hid (Sl w9 0 w9.heap.size a5 k) := (HSX8.out.1.below (hbm.mono (by first | omega | (simp; done) | (simp; omega)))).mono (Nat.zero_le _) (by first | omega | (simp; done) | (simp; omega))
  have HNm := Lib.hid (hlm.mono (lo' := 0) (Nat.zero_le _) (Nat.le_refl _))
  refine hK _ _ ⟨⟨_, hbm⟩, rfl⟩ ?_
  clear hK K hbm' hlm
  refine mix_hold rfl (fun K hK => ?_)
  go_simp
  with_reducible refine (eqTerm_any (k := k) HMm.out HNm.out hN).mono ?_
  rintro e w10 ⟨rfl, hbe'⟩
  have hbe := hbm.trans (hbe'.mono hs9)
  refine hK _ _ ⟨⟨_, hbe⟩, rfl⟩ ?_
  clear hK K hbe'
  refine mix_hold rfl (fun K hK => ?_)
  go_simp
  refine hK _ _ ⟨⟨_, hbe⟩, rfl⟩ ?_
  clear hK K
  refine mix_end ?_
  have hs10 := hbe.size
  have HB10 := Lib.hid (HB8.out.trans (hbe.mono (by first | omega | (simp; done) | (simp; omega))))
  have HW10 := Lib.hid (HW8.out.trans (hbe.mono (by first | omega | (simp; done) | (simp; omega))))
  have HX10 := Lib.hid (HX8.out.trans (hbe.mono (by first | omega | (simp; done) | (simp; omega))))
  have HY10 := Lib.hid (HY8.out.trans (hbe.mono (by first | omega | (simp; done) | (simp; omega))))
  have HSX10 := Lib.hid (HSX8.out.same (Same.of_below (hbe.mono (by first | omega | (simp; done) | (simp; omega)))))
  have HSY10 := Lib.hid (HSY8.out.same (Same.of_below (hbe.mono (by first | omega | (simp; done) | (simp; omega)))))
  have HI10 := Lib.hid (HI8.out.low hbe)
  have HG10 := Lib.hid (HG8.out.trans (hbe.mono (by first | omega | (simp; done) | (simp; omega))))
  have HTG10 := Lib.hid (HTG8.out.same (Same.of_below (hbe.mono (by first | omega | (simp; done) | (simp; omega)))))
  clear hbm hbe HMm HNm
  go_wp2_with fail
  with_reducible refine (toIntS_any place pA pC _ ((HP.out.below (HB10.out.mono (by first | omega | (simp; done) | (simp; omega)))).mono (Nat.le_refl _) (by first | omega | (simp; done) | (simp; omega))) (by omega)).mono ?_
  rintro e w11 ⟨A11, C11, rfl, hio11, hb11⟩
  have hs11 := hb11.size
  have HI11a := Lib.hid ((HI10.out.low hb11).sl.mono (lo' := 0) (Nat.zero_le _) (Nat.le_refl _))
  have HI11b := Lib.hid (hio11.sl.mono (lo' := 0) (Nat.zero_le _) (Nat.le_refl _))
  go_wp2_with fail
  with_reducible refine (eqIntS_same place A6 A11 C6 C11 _ _ _ HI11a.out HI11b.out rfl rfl (by omega)).mono ?_
  rintro e w12 ⟨rfl, hb12'⟩
  have hb12 := hb11.trans (hb12'.mono hs11)
  have hs12 := hb12.size
  have HB12 := Lib.hid (HB10.out.trans (hb12.mono (by first | omega | (simp; done) | (simp; omega))))
  have HW12 := Lib.hid (HW10.out.trans (hb12.mono (by first | omega | (simp; done) | (simp; omega))))
  have HX12 := Lib.hid (HX10.out.trans (hb12.mono (by first | omega | (simp; done) | (simp; omega))))
  have HY12 := Lib.hid (HY10.out.trans (hb12.mono (by first | omega | (simp; done) | (simp; omega))))
  have HSX12 := Lib.hid (HSX10.out.same (Same.of_below (hb12.mono (by first | omega | (simp; done) | (simp; omega)))))
  have HSY12 := Lib.hid (HSY10.out.same (Same.of_below (hb12.mono (by first | omega | (simp; done) | (simp; omega)))))
  have HI12 := Lib.hid (HI10.out.low hb12)
  have HG12 := Lib.hid (HG10.out.trans (hb12.mono (by first | omega | (simp; done) | (simp; omega))))
  have HTG12 := Lib.hid (HTG10.out.same (Same.of_below (hb12.mono (by first | omega | (simp; done) | (simp; omega)))))
  clear hb11 hio11 hb12 hb12'
  obtain ⟨hc0, hc1, hc2, hd0, hd1, hd2⟩ := tb_cellsX HB12.out
  obtain ⟨hy0, hy1, hy2⟩ := box_cells ⟨_, HY12.out⟩
  dsimp only at hy0 hy1 hy2
  have hu0 : ∀ u : After w12.heap.size w12, u.world.cell? ⟨w.heap.size + 1, 0, none⟩ = some (.int .i64 s2) := fun u => u.cell (by first | omega | (simp; done) | (simp; omega)) hd0
  have hu1 : ∀ u : After w12.heap.size w12, u.world.cell? ⟨w.heap.size + 1, 1, none⟩ = some (.int .i64 v2) := fun u => u.cell (by first | omega | (simp; done) | (simp; omega)) hd1
  have hu2 : ∀ u : After w12.heap.size w12, u.world.cell? ⟨w.heap.size + 1, 2, none⟩ = some (.slice b (flen k2) d) := fun u => u.cell (by first | omega | (simp; done) | (simp; omega)) hd2
  have hu3 : ∀ u : After w12.heap.size w12, u.world.cell? ⟨w6b.heap.size, 0, none⟩ = some (.int .i64 s2) := fun u => u.cell (by first | omega | (simp; done) | (simp; omega)) hy0
  have hu4 : ∀ u : After w12.heap.size w12, u.world.cell? ⟨w6b.heap.size, 1, none⟩ = some (.int .i64 v2) := fun u => u.cell (by first | omega | (simp; done) | (simp; omega)) hy1
  have hu5 : ∀ u : After w12.heap.size w12, u.world.cell? ⟨w6b.heap.size, 2, none⟩ = some (.slice a6 (flen k2) c6) := fun u => u.cell (by first | omega | (simp; done) | (simp; omega)) hy2
  have HTa12 : Hid (Sl w12 0 w12.heap.size b k2) := ((HS.out.below (HB12.out.mono (by first | omega | (simp; done) | (simp; omega)))).mono (Nat.le_refl _) (by first | omega | (simp; done) | (simp; omega)))
  have HTd12 : Hid (Sl w12.drew 0 w12.drew.heap.size b k2) := HTa12.out.below (Below.refl _ _).drew
  go_wp2_with fail
  clear hc0 hc1 hc2 hd0 hd1 hd2 hy0 hy1 hy2
  refine wp_region_mix (fun w' => ∃ u : After w12.heap.size w12, w' = u.world) [] [(0, 0), (1, 0), (2, 1), (3, 1), (4, 1)] (by kernel_rfl) (by kernel_rfl) ⟨⟨_, (Below.refl _ _).drew⟩, rfl⟩ ?_
  iterate 2
    refine mix_see rfl (fun K hK => ?_)
    go_simp
    refine hK _ ?_
    clear hK K
  clear hu0 hu1 hu2 hu3 hu4 hu5
  refine mix_hold rfl (fun K hK => ?_)
  go_simp
  with_reducible refine (toTerm_any (k := k2) (c := d) HTd12.out hN2).mono ?_
  rintro e w12a ⟨am, cm, rfl, hbm', hlm⟩
  have hbm : Below w12.heap.size w12 w12a := ⟨hbm'.os, hbm'.tape, hbm'.output, hbm'.size, hbm'.block⟩
  have hs12a := hbm.size
  have HMm : Hid (Sl w12a 0 w12a.heap.size a6 k2) := (HSY12.out.1.below (hbm.mono (by first | omega | (simp; done) | (simp; omega)))).mono (Nat.zero_le _) (by first | omega | (simp; done) | (simp; omega))
  have HNm := Lib.hid (hlm.mono (lo' := 0) (Nat.zero_le _) (Nat.le_refl _))
  refine hK _ _ ⟨⟨_, hbm⟩, rfl⟩ ?_
  clear hK K hbm' hlm
  refine mix_hold rfl (fun K hK => ?_)
  go_simp
  with_reducible refine (eqTerm_any (k := k2) HMm.out HNm.out hN2).mono ?_
  rintro e w12b ⟨rfl, hbe'⟩
  have hbe := hbm.trans (hbe'.mono hs12a)
  refine hK _ _ ⟨⟨_, hbe⟩, rfl⟩ ?_
  clear hK K hbe'
  refine mix_hold rfl (fun K hK => ?_)
  go_simp
  refine hK _ _ ⟨⟨_, hbe⟩, rfl⟩ ?_
  clear hK K
  refine mix_end ?_
  have hs12b := hbe.size
  have HB12b := Lib.hid (HB12.out.trans (hbe.mono (by first | omega | (simp; done) | (simp; omega))))
  have HW12b := Lib.hid (HW12.out.trans (hbe.mono (by first | omega | (simp; done) | (simp; omega))))
  have HX12b := Lib.hid (HX12.out.trans (hbe.mono (by first | omega | (simp; done) | (simp; omega))))
  have HY12b := Lib.hid (HY12.out.trans (hbe.mono (by first | omega | (simp; done) | (simp; omega))))
  have HSX12b := Lib.hid (HSX12.out.same (Same.of_below (hbe.mono (by first | omega | (simp; done) | (simp; omega)))))
  have HSY12b := Lib.hid (HSY12.out.same (Same.of_below (hbe.mono (by first | omega | (simp; done) | (simp; omega)))))
  have HI12b := Lib.hid (HI12.out.low hbe)
  have HG12b := Lib.hid (HG12.out.trans (hbe.mono (by first | omega | (simp; done) | (simp; omega))))
  have HTG12b := Lib.hid (HTG12.out.same (Same.of_below (hbe.mono (by first | omega | (simp; done) | (simp; omega)))))
  clear hbm hbe HMm HNm
  obtain ⟨hx0, hx1, hx2⟩ := box_cells ⟨_, HX12b.out⟩
  obtain ⟨hz0, hz1, hz2⟩ := box_cells ⟨_, HG12b.out⟩
  obtain ⟨hy0, hy1, hy2⟩ := box_cells ⟨_, HY12b.out⟩
  dsimp only at hx0 hx1 hx2 hz0 hz1 hz2 hy0 hy1 hy2
  have HSXs := Lib.hid HSX12b.out.2
  go_wp2_with fail
  with_reducible refine (markTerm_any s v a5 c5 k w4.heap.size w5.heap.size 1 _ HSXs.out hN (by omega) (by omega) (by omega) (by omega)).mono ?_
  rintro e w13 ⟨rfl, hmk⟩
  have hs13 := hmk.below.size
  have hfar : Same w5.heap.size w12b.heap.size w12b w13 := fun b h1 h2 => hmk.far b h1 h2
  have HB13 := Lib.hid (HB12b.out.trans (hmk.below.mono (by first | omega | (simp; done) | (simp; omega))))
  have HW13 := Lib.hid (HW12b.out.trans hmk.below)
  have HI13 : Hid (IOwn w13 (w5.heap.size + 1) place A6 C6) := iown_same HI12b.out (fun b h1 h2 => hfar b (by omega) h2)
  have HTG13 := Lib.hid (HTG12b.out.same (hfar.mono (by omega) (by omega)))
  have HSY13 := Lib.hid (HSY12b.out.same (hfar.mono (by omega) (by omega)))
  have hg0 : w13.cell? ⟨w7.heap.size, 0, none⟩ = some (.int .i64 s') := by rw [hfar.cell (by first | omega | (simp; done) | (simp; omega)) (by first | omega | (simp; done) | (simp; omega))]; exact hz0
  have hg1 : w13.cell? ⟨w7.heap.size, 1, none⟩ = some (.int .i64 v') := by rw [hfar.cell (by first | omega | (simp; done) | (simp; omega)) (by first | omega | (simp; done) | (simp; omega))]; exact hz1
  have hg2 : w13.cell? ⟨w7.heap.size, 2, none⟩ = some (.slice a7 (flen k') c7) := by rw [hfar.cell (by first | omega | (simp; done) | (simp; omega)) (by first | omega | (simp; done) | (simp; omega))]; exact hz2
  have hh0 : w13.cell? ⟨w6b.heap.size, 0, none⟩ = some (.int .i64 s2) := by rw [hfar.cell (by first | omega | (simp; done) | (simp; omega)) (by first | omega | (simp; done) | (simp; omega))]; exact hy0
  have hh1 : w13.cell? ⟨w6b.heap.size, 1, none⟩ = some (.int .i64 v2) := by rw [hfar.cell (by first | omega | (simp; done) | (simp; omega)) (by first | omega | (simp; done) | (simp; omega))]; exact hy1
  have hh2 : w13.cell? ⟨w6b.heap.size, 2, none⟩ = some (.slice a6 (flen k2) c6) := by rw [hfar.cell (by first | omega | (simp; done) | (simp; omega)) (by first | omega | (simp; done) | (simp; omega))]; exact hy2
  clear hmk hfar hx0 hx1 hx2 hz0 hz1 hz2 hy0 hy1 hy2
  go_wp2_with fail
  with_reducible refine (markIntS_any (w5.heap.size + 1) place A6 C6 (1 + 2 * (fsz k : Int)) _ HI13.out (by omega) (by omega) (by omega)).mono ?_
  rintro e w14 ⟨rfl, hown14, hgr⟩
  have hs14 := hgr.size
  have hgs : Same w6.heap.size w13.heap.size w13 w14 := fun b h1 h2 => hgr.block b h2 (fun e => by have := HOB.out b e.symm; omega)
  have hb14 : Below (w5.heap.size + 1) w13 w14 := (Below.refl _ _).grown hgr (by omega) (fun g hg => (HOB.out g hg).1)
  have HB14 := Lib.hid (HB13.out.trans (hb14.mono (by first | omega | (simp; done) | (simp; omega))))
  have HW14 := Lib.hid (HW13.out.trans (hb14.mono (by first | omega | (simp; done) | (simp; omega))))
  have HTG14 := Lib.hid (HTG13.out.same (hgs.mono (by omega) (by omega)))
  have HSY14 := Lib.hid (HSY13.out.same (hgs.mono (by omega) (by omega)))
  have HSY14s := Lib.hid HSY14.out.2
  have hz0 : w14.cell? ⟨w7.heap.size, 0, none⟩ = some (.int .i64 s') := by rw [hgs.cell (by first | omega | (simp; done) | (simp; omega)) (by first | omega | (simp; done) | (simp; omega))]; exact hg0
  have hz1 : w14.cell? ⟨w7.heap.size, 1, none⟩ = some (.int .i64 v') := by rw [hgs.cell (by first | omega | (simp; done) | (simp; omega)) (by first | omega | (simp; done) | (simp; omega))]; exact hg1
  have hz2 : w14.cell? ⟨w7.heap.size, 2, none⟩ = some (.slice a7 (flen k') c7) := by rw [hgs.cell (by first | omega | (simp; done) | (simp; omega)) (by first | omega | (simp; done) | (simp; omega))]; exact hg2
  have hy0 : w14.cell? ⟨w6b.heap.size, 0, none⟩ = some (.int .i64 s2) := by rw [hgs.cell (by first | omega | (simp; done) | (simp; omega)) (by first | omega | (simp; done) | (simp; omega))]; exact hh0
  have hy1 : w14.cell? ⟨w6b.heap.size, 1, none⟩ = some (.int .i64 v2) := by rw [hgs.cell (by first | omega | (simp; done) | (simp; omega)) (by first | omega | (simp; done) | (simp; omega))]; exact hh1
  have hy2 : w14.cell? ⟨w6b.heap.size, 2, none⟩ = some (.slice a6 (flen k2) c6) := by rw [hgs.cell (by first | omega | (simp; done) | (simp; omega)) (by first | omega | (simp; done) | (simp; omega))]; exact hh2
  clear hown14 hgr hgs hb14 hg0 hg1 hg2 hh0 hh1 hh2
  go_wp2_with fail
  with_reducible refine (markTerm_any s2 v2 a6 c6 k2 w6.heap.size w6b.heap.size (1 + 2 * (fsz k : Int) + (place.length : Int)) _ HSY14s.out hN2 (by omega) (by omega) (by omega) (by omega)).mono ?_
  rintro e w14b ⟨rfl, hmk⟩
  have hs14b := hmk.below.size
  have hfar : Same w6b.heap.size w14.heap.size w14 w14b := fun b h1 h2 => hmk.far b h1 h2
  have HB14b := Lib.hid (HB14.out.trans (hmk.below.mono (by first | omega | (simp; done) | (simp; omega))))
  have HW14b := Lib.hid (HW14.out.trans (hmk.below.mono (by first | omega | (simp; done) | (simp; omega))))
  have HTG14b := Lib.hid (HTG14.out.same (hfar.mono (by omega) (by omega)))
  have HTG14s : Hid (Sl w14b 0 w14b.heap.size a7 k') := HTG14b.out.1.mono (Nat.zero_le _) (by omega)
  have hg0 : w14b.cell? ⟨w7.heap.size, 0, none⟩ = some (.int .i64 s') := by rw [hfar.cell (by first | omega | (simp; done) | (simp; omega)) (by first | omega | (simp; done) | (simp; omega))]; exact hz0
  have hg1 : w14b.cell? ⟨w7.heap.size, 1, none⟩ = some (.int .i64 v') := by rw [hfar.cell (by first | omega | (simp; done) | (simp; omega)) (by first | omega | (simp; done) | (simp; omega))]; exact hz1
  have hg2 : w14b.cell? ⟨w7.heap.size, 2, none⟩ = some (.slice a7 (flen k') c7) := by rw [hfar.cell (by first | omega | (simp; done) | (simp; omega)) (by first | omega | (simp; done) | (simp; omega))]; exact hz2
  have e1 : decide (1 + 2 * (fsz k : Int) + (place.length : Int) + 2 * (fsz k2 : Int) < 0) = false := decide_eq_false (by omega)
  clear hmk hfar hz0 hz1 hz2 hy0 hy1 hy2
  obtain ⟨hw0, hw1, hw2⟩ := HQ4.out.cells (HW14b.out.mono (by first | omega | (simp; done) | (simp; omega)))
  go_wp2_with fail
  with_reducible refine (eqTerm_any (k := k') HTG14s.out ((HLW.out.below (HW14b.out.mono (by first | omega | (simp; done) | (simp; omega)))).mono (Nat.le_refl _) (by first | omega | (simp; done) | (simp; omega))) (by omega)).mono ?_
  rintro e w15 ⟨rfl, hb15⟩
  have hs15 := hb15.size
  have HB15 := Lib.hid (HB14b.out.trans (hb15.mono (by first | omega | (simp; done) | (simp; omega))))
  have HW15 := Lib.hid (HW14b.out.trans (hb15.mono (by first | omega | (simp; done) | (simp; omega))))
  have HTG15 := Lib.hid (HTG14b.out.same (Same.of_below (hb15.mono (by first | omega | (simp; done) | (simp; omega)))))
  have HTG15s := Lib.hid HTG15.out.2
  have hy0 := cell_lowX hb15 hg0
  have hy1 := cell_lowX hb15 hg1
  have hy2 := cell_lowX hb15 hg2
  clear hb15 hg0 hg1 hg2 hw0 hw1 hw2
  go_wp2_with fail
  with_reducible refine (markTermT_any s' v' a7 c7 k' (w6b.heap.size + 1) w7.heap.size 1 _ HTG15s.out (by omega) (by omega) (by omega) (by omega) (by omega)).mono ?_
  rintro e w16 ⟨rfl, hmk, hhd⟩
  have hs16 := hmk.below.size
  have hfar : Same w7.heap.size w15.heap.size w15 w16 := fun b h1 h2 => hmk.far b h1 h2
  have HB16 := Lib.hid (HB15.out.trans (hmk.below.mono (by first | omega | (simp; done) | (simp; omega))))
  have HW16 := Lib.hid (HW15.out.trans (hmk.below.mono (by first | omega | (simp; done) | (simp; omega))))
  have HHD16 := Lib.hid hhd
  have hz0 : w16.cell? ⟨w7.heap.size, 0, none⟩ = some (.int .i64 s') := by rw [hfar.cell (by first | omega | (simp; done) | (simp; omega)) (by first | omega | (simp; done) | (simp; omega))]; exact hy0
  have hz1 : w16.cell? ⟨w7.heap.size, 1, none⟩ = some (.int .i64 v') := by rw [hfar.cell (by first | omega | (simp; done) | (simp; omega)) (by first | omega | (simp; done) | (simp; omega))]; exact hy1
  have hz2 : w16.cell? ⟨w7.heap.size, 2, none⟩ = some (.slice a7 (flen k') c7) := by rw [hfar.cell (by first | omega | (simp; done) | (simp; omega)) (by first | omega | (simp; done) | (simp; omega))]; exact hy2
  have e2 : decide (1 + 2 * (fsz k' : Int) < 0) = false := decide_eq_false (by omega)
  have e3 : ((1 + 2 * (fsz k' : Int)) != (1 + 2 * (fsz k' : Int))) = false := by simp
  clear hmk hhd hfar hy0 hy1 hy2
  go_wp2_with fail
  with_reducible refine (heldTerm_any s' v' a7 c7 k' (w6b.heap.size + 1) w7.heap.size 1 _ HHD16.out (by omega) (by omega) (by omega) (by omega)).mono ?_
  rintro e w17 ⟨rfl, hb17⟩
  have hs17 := hb17.size
  have HB17 := Lib.hid (HB16.out.trans (hb17.mono (by first | omega | (simp; done) | (simp; omega))))
  have HW17 := Lib.hid (HW16.out.trans (hb17.mono (by first | omega | (simp; done) | (simp; omega))))
  have HHD17 := Lib.hid (HHD16.out.same (Same.of_below (hb17.mono (by first | omega | (simp; done) | (simp; omega)))))
  have hy0 := cell_lowX hb17 hz0
  have hy1 := cell_lowX hb17 hz1
  have hy2 := cell_lowX hb17 hz2
  clear hb17 hz0 hz1 hz2
  obtain ⟨hc0, hc1, hc2, hd0, hd1, hd2⟩ := tb_cellsX HB17.out
  go_upto_region 37 with fail
  go_cut [18, 19] (fun p8 t9 wx => ∃ g a4 c4 s' v' k' t, p8 = .pointer (some ⟨g, 0, none⟩) ∧ t9 = .bool t ∧ putR s v k place (s2, v2, k2) = (s', v', k', t) ∧ Hid (PutCut w17 wx g a4 c4 s' v' k'))
  case first =>
    have HX6 : Hid (Six w17 w.heap.size (.int .i64 s) (.int .i64 v) (.slice a (flen k) c) (.int .i64 s2) (.int .i64 v2) (.slice b (flen k2) d)) := ⟨hc0, hc1, hc2, hd0, hd1, hd2⟩
    have JV0 : Hid (Below w17.heap.size w17 w17.drew) := (Below.refl _ _).drew
    have JV0b : Hid (Below w17.heap.size w17 (w17.alloc (.cells #[.int .i64 0, .int .i64 0, .slice none 0 0] 25)).drew) := (pc_one (o := .cells #[.int .i64 0, .int .i64 0, .slice none 0 0] 25)).drew
    have JTi : Hid (Sl w17 0 w17.heap.size a k) := ((HL.out.below (HB17.out.mono (by first | omega | (simp; done) | (simp; omega)))).mono (Nat.le_refl _) (by first | omega | (simp; done) | (simp; omega)))
    have JSi : Hid (Sl w17 0 w17.heap.size b k2) := ((HS.out.below (HB17.out.mono (by first | omega | (simp; done) | (simp; omega)))).mono (Nat.le_refl _) (by first | omega | (simp; done) | (simp; omega)))
    have JPi : Hid (ISl w17 0 w17.heap.size pA place) := ((HP.out.below (HB17.out.mono (by first | omega | (simp; done) | (simp; omega)))).mono (Nat.le_refl _) (by first | omega | (simp; done) | (simp; omega)))
    have HPL : Hid (place.length ≤ 1048576) := by unfold Hid; omega
    clear hc0 hc1 hc2 hd0 hd1 hd2
    go_region_held3 (fun w' => w'.cell? ⟨w.heap.size, 0, none⟩ = some (.int .i64 s) ∧ w'.cell? ⟨w.heap.size, 1, none⟩ = some (.int .i64 v) ∧ w'.cell? ⟨w.heap.size, 2, none⟩ = some (.slice a (flen k) c) ∧ w'.cell? ⟨w.heap.size + 1, 0, none⟩ = some (.int .i64 s2) ∧ w'.cell? ⟨w.heap.size + 1, 1, none⟩ = some (.int .i64 v2) ∧ w'.cell? ⟨w.heap.size + 1, 2, none⟩ = some (.slice b (flen k2) d))
        (first
          | (with_reducible exact HX6.out.on JV4.out)
          | (with_reducible exact HX6.out.on JV3.out)
          | (with_reducible exact HX6.out.on JV2.out)
          | (with_reducible exact HX6.out.on JV1.out)
          | (with_reducible exact HX6.out.on JV0.out)
          | (with_reducible exact HX6.out.on JV0b.out)
          | (with_reducible exact HX6.out.on (pc_al JV4.out))
          | (with_reducible exact HX6.out.on (pc_al JV3.out))
          | (with_reducible exact HX6.out.on (pc_al JV2.out))
          | (with_reducible exact HX6.out.on (pc_al JV1.out))
          | (with_reducible exact HX6.out.on (pc_al JV0.out))
          | (with_reducible exact HX6.out.on (pc_set JV4.out (Nat.le_refl _)))
          | (with_reducible exact HX6.out.on (pc_set JV4.out JV1.out.size))
          | (with_reducible exact HX6.out.on (pc_set JV4.out JV2.out.size))
          | (with_reducible exact HX6.out.on (pc_set JV4.out JV3.out.size)))
        ((first
          | (go_at_call 26; (with_reducible refine (toTerm_any (s := s) (v := v) (c := c) (pc_sl JTi.out JV0.out) hN).mono ?_); rintro e wq1 ⟨aq1, cq1, rfl, hb0, hl0⟩; have JV1 := Lib.hid (pc_tr JV0.out hb0); have JT1 := Lib.hid (pc_zero hl0); clear hl0 hb0)
          | (go_at_call 26; (with_reducible refine (toTerm_any (s := s) (v := v) (c := c) (pc_sl JTi.out JV0b.out) hN).mono ?_); rintro e wq1 ⟨aq1, cq1, rfl, hb0, hl0⟩; have JQ : Hid (PB wq1 w17.heap.size) := ((pc_new (T := 25)).keep (Below.refl _ _).drew).keep hb0; have JV1 := Lib.hid (pc_tr JV0b.out hb0); have JT1 := Lib.hid (pc_zero hl0); clear hl0 hb0)
          | (go_at_call 27; (with_reducible refine (toIntS_any place pA pC _ (pc_il JPi.out JV1.out) HPL.out).mono ?_); rintro e wq2 ⟨Aq2, Cq2, rfl, hio0, hb0⟩; have hb := hb0; (try have JQ := Lib.hid (JQ.out.keep hb)); have JV2 := Lib.hid (pc_tr JV1.out hb); have JT2 := Lib.hid (pc_sl JT1.out hb); have JI2 := Lib.hid (pc_own hio0); clear hio0; clear hb0 hb)
          | (go_at_call 27; (with_reducible refine (toIntS_any place pA pC _ (pc_il JPi.out (pc_al JV1.out)) HPL.out).mono ?_); rintro e wq2 ⟨Aq2, Cq2, rfl, hio0, hb0⟩; have JQ : Hid (PB wq2 wq1.heap.size) := (pc_new (T := 25)).keep hb0; have hb := pc_tr pc_one hb0; have JV2 := Lib.hid (pc_tr JV1.out hb); have JT2 := Lib.hid (pc_sl JT1.out hb); have JI2 := Lib.hid (pc_own hio0); clear hio0; clear hb0 hb)
          | (go_at_call 26; (with_reducible refine (toTerm_any (s := s2) (v := v2) (c := d) (pc_sl JSi.out JV2.out) hN2).mono ?_); rintro e wq3 ⟨aq3, cq3, rfl, hb0, hl0⟩; have hb := hb0; (try have JQ := Lib.hid (JQ.out.keep hb)); have JV3 := Lib.hid (pc_tr JV2.out hb); have JT3 := Lib.hid (pc_sl JT2.out hb); have JI3 := Lib.hid (pc_ic JI2.out hb); have JU3 := Lib.hid (pc_zero hl0); clear hl0; clear hb0 hb)
          | (go_at_call 26; (with_reducible refine (toTerm_any (s := s2) (v := v2) (c := d) (pc_sl JSi.out (pc_al JV2.out)) hN2).mono ?_); rintro e wq3 ⟨aq3, cq3, rfl, hb0, hl0⟩; have JQ : Hid (PB wq3 wq2.heap.size) := (pc_new (T := 25)).keep hb0; have hb := pc_tr pc_one hb0; have JV3 := Lib.hid (pc_tr JV2.out hb); have JT3 := Lib.hid (pc_sl JT2.out hb); have JI3 := Lib.hid (pc_ic JI2.out hb); have JU3 := Lib.hid (pc_zero hl0); clear hl0; clear hb0 hb)
          | (go_at_call 11; (with_reducible refine (iTermPut_any s v aq1 cq1 k Aq2 Cq2 place s2 v2 aq3 cq3 k2 _ JT3.out JI3.out HPL.out JU3.out).mono ?_); rintro e wq4 ⟨aq, cq, sq, vq, kq, tq, hRq, rfl, hb0, hl0⟩; (try have JG := Lib.hid JQ.out.lt); have hb := hb0; (try have JQ := Lib.hid (JQ.out.keep hb)); have JV4 := Lib.hid (pc_tr JV3.out hb); have JL4 := Lib.hid hl0; have JR := Lib.hid hRq; (try obtain ⟨jq, jq0, jq1, jq2, jf0, jf1, jf2⟩ := JQ.out); clear hl0 hRq; clear hb0 hb)
          | (go_at_call 11; (with_reducible refine (iTermPut_any s v aq1 cq1 k Aq2 Cq2 place s2 v2 aq3 cq3 k2 _ (pc_sl JT3.out pc_one) (pc_ic JI3.out pc_one) HPL.out (pc_sl JU3.out pc_one)).mono ?_); rintro e wq4 ⟨aq, cq, sq, vq, kq, tq, hRq, rfl, hb0, hl0⟩; have JG := Lib.hid (pc_lt (W := wq3) (o := .cells #[.int .i64 0, .int .i64 0, .slice none 0 0] 25)); have JQ : Hid (PB wq4 wq3.heap.size) := (pc_new (T := 25)).keep hb0; have hb := pc_tr pc_one hb0; have JV4 := Lib.hid (pc_tr JV3.out hb); have JL4 := Lib.hid hl0; have JR := Lib.hid hRq; (try obtain ⟨jq, jq0, jq1, jq2, jf0, jf1, jf2⟩ := JQ.out); clear hl0 hRq; clear hb0 hb)))
    all_goals (try go_wp2_with fail)
    all_goals go_meet
    all_goals (first
      | exact ⟨_, aq, cq, sq, vq, kq, tq, rfl, rfl, JR.out, pc_finA JV4.out JL4.out⟩
      | exact ⟨_, aq, cq, sq, vq, kq, tq, rfl, rfl, JR.out, pc_finS JV4.out (Nat.le_refl _) JQ.out JG.out JL4.out⟩
      | exact ⟨_, aq, cq, sq, vq, kq, tq, rfl, rfl, JR.out, pc_finS JV4.out JV1.out.size JQ.out JG.out JL4.out⟩
      | exact ⟨_, aq, cq, sq, vq, kq, tq, rfl, rfl, JR.out, pc_finS JV4.out JV2.out.size JQ.out JG.out JL4.out⟩
      | exact ⟨_, aq, cq, sq, vq, kq, tq, rfl, rfl, JR.out, pc_finS JV4.out JV3.out.size JQ.out JG.out JL4.out⟩)
  obtain ⟨g20, a20, c20, s20, v20, k20, t20, rfl, rfl, hR20, HQ20⟩ := hcut
  obtain ⟨w20, hw20⟩ : ∃ x, x = wc := ⟨_, rfl⟩
  subst hw20
  clear hc0 hc1 hc2 hd0 hd1 hd2
  rw [HR.out] at hR20
  simp only [Prod.mk.injEq] at hR20
  obtain ⟨rfl, rfl, rfl, rfl⟩ := hR20
  have hs20 := HQ20.out.below.size
  have hb21 := HQ20.out.below
  have HB20 := Lib.hid (HB17.out.trans (hb21.mono (by first | omega | (simp; done) | (simp; omega))))
  have HW20 := Lib.hid (HW17.out.trans (hb21.mono (by first | omega | (simp; done) | (simp; omega))))
  have HHD20 := Lib.hid (HHD17.out.same (Same.of_below (hb21.mono (by first | omega | (simp; done) | (simp; omega)))))
  have hz0 := cell_lowX hb21 hy0
  have hz1 := cell_lowX hb21 hy1
  have hz2 := cell_lowX hb21 hy2
  have HLH := Lib.hid HQ20.out.sl
  have hv0 := HQ20.out.c0
  have hv1 := HQ20.out.c1
  have hv2 := HQ20.out.c2
  clear hb21 hy0 hy1 hy2
  obtain ⟨hw0, hw1, hw2⟩ := HQ4.out.cells (HW20.out.mono (by first | omega | (simp; done) | (simp; omega)))
  go_wp2_with fail
  with_reducible refine (eqTerm_any (k := k') HLH.out ((HLW.out.below (HW20.out.mono (by first | omega | (simp; done) | (simp; omega)))).mono (Nat.le_refl _) (by first | omega | (simp; done) | (simp; omega))) (by omega)).mono ?_
  rintro e w21 ⟨rfl, hb21⟩
  have hs21 := hb21.size
  try simp at hs21
  have HB21 := Lib.hid (HB20.out.trans (hb21.mono (by first | omega | (simp; done) | (simp; omega))))
  have HHD21 := Lib.hid (HHD20.out.same (Same.of_below (hb21.mono (by first | omega | (simp; done) | (simp; omega)))))
  have hy0 := cell_lowX hb21 hz0
  have hy1 := cell_lowX hb21 hz1
  have hy2 := cell_lowX hb21 hz2
  clear hb21 hz0 hz1 hz2 hw0 hw1 hw2 hv0 hv1 hv2
  go_wp2_with fail
  with_reducible refine (heldTerm_any s' v' a7 c7 k' (w6b.heap.size + 1) w7.heap.size 1 _ HHD21.out (by omega) (by omega) (by omega) (by omega)).mono ?_
  rintro e w22 ⟨rfl, hb22⟩
  have HB22 := Lib.hid (HB21.out.trans (hb22.mono (by omega)))
  clear hb22 hy0 hy1 hy2
  go_wp2_with fail
  go_ret
  exact ⟨rfl, two_low HB22.out⟩
end Go.Proofs.Ytkmfnhoeigoajab
