/- Several texts in one: UU, UR, SM, MS. -/
import Derived.Test.YtpfkhgiiojikbaaKUnify4
import Derived.Test.YtpfkhgiiojikbaaKThen13
import Derived.Test.YtpfkhgiiojikbaaKThen10
import Derived.Test.YtpfkhgiiojikbaaKThen5
import Derived.Test.YtpfkhgiiojikbaaKThen14

/-! UU: unify: two nodes made the same, beside what is known. -/
namespace Go.Proofs.Ytpfkhgiiojikbaa
open Go.RowKit Go.Deep Go.Maps

/-- unify, so many steps down. -/
def UnTo (base b lim n : Nat) : Prop :=
  ∀ {bs : List Bd} {s v : Int} {k : Fo} {nv : Value} {s' v' : Int} {k' : Fo} {nv' : Value} {w : World}, MapIs w b bs → Wb lim bs → base ≤ w.heap.size → NodeIs w 0 w.heap.size nv s v k → NodeIs w 0 w.heap.size nv' s' v' k' → okT (s, v, k) → okT (s', v', k') → Un lim n bs (s, v, k) → Un lim n bs (s', v', k') →
    Calls Try.prog 90 #[.map (some b), nv, nv', .int .i64 (lim : Int)] w (UbPost base b (unT lim n bs (s, v, k) (s', v', k')) w)

set_option maxRecDepth 100000 in
set_option maxHeartbeats 1000000 in
theorem unLeaf_any {base b lim n c1 c2 : Nat} (H : UnTo base b lim n) {bs : List Bd} {s v : Int} {k : Fo} {nv : Value} {s' v' : Int} {k' : Fo} {nv' : Value} {w : World} (hc1 : w.cell? ⟨c1, 0, none⟩ = some (.map (some b))) (hc2 : w.cell? ⟨c2, 0, none⟩ = some (.int .i64 (lim : Int))) (hm : MapIs w b bs) (hw : Wb lim bs) (hb : base ≤ w.heap.size) (hn : NodeIs w 0 w.heap.size nv s v k) (hn' : NodeIs w 0 w.heap.size nv' s' v' k') (ho : okT (s, v, k)) (ho' : okT (s', v', k')) (hu : Un lim n bs (s, v, k)) (hu' : Un lim n bs (s', v', k')) :
    Calls Try.prog 102 #[nv, nv', .pointer (some ⟨c1, 0, none⟩), .pointer (some ⟨c2, 0, none⟩)] w (UbPost base b (unT lim n bs (s, v, k) (s', v', k')) w) := by
  have HC := Lib.hid (H hm hw hb hn hn' ho ho' hu hu')
  clear H hm hw hn hn' ho ho' hu hu'
  go_enter Try.func102, Try.ntmps102
  go_wp2_with fail
  with_reducible refine HC.out.mono ?_
  rintro e w1 ⟨hk, hcase⟩
  have HK := Lib.hid hk
  clear hk HC
  rcases hcase with ⟨b2, hr, rfl, hm2⟩ | ⟨hr, rfl⟩
  · have HR := Lib.hid hr
    have HM2 := Lib.hid hm2
    clear hr hm2
    go_wp2_with fail
    go_ret
    exact ⟨HK.out, .inl ⟨b2, HR.out, rfl, HM2.out⟩⟩
  · have HR := Lib.hid hr
    clear hr
    go_wp2_with fail
    go_ret
    exact ⟨HK.out, .inr ⟨HR.out, rfl⟩⟩

set_option maxRecDepth 100000 in
set_option maxHeartbeats 2000000 in
theorem kidsAgreeU_any {base b lim n c1 c2 : Nat} (H : UnTo base b lim n) {bs : List Bd} {s v : Int} {k : Fo} {pv : Value} {s' v' : Int} {k' : Fo} {tv : Value} {w : World} (hm : MapIs w b bs) (hw : Wb lim bs) (hbw : base ≤ w.heap.size) (h : Nj w pv s v k) (h' : Nj w tv s' v' k') (hc1 : w.cell? ⟨c1, 0, none⟩ = some (.map (some b))) (hc2 : w.cell? ⟨c2, 0, none⟩ = some (.int .i64 (lim : Int)))
    (hu : ∀ (b1 : List Bd), Wb lim b1 → Le bs b1 → ∀ (j x y : Nat) (s1 v1 : Int) (k1 r : Fo), fdrop j k = .node x y (s1, v1) k1 r → Un lim n b1 (s1, v1, k1)) (hu' : ∀ (b1 : List Bd), Wb lim b1 → Le bs b1 → ∀ (j x y : Nat) (s1 v1 : Int) (k1 r : Fo), fdrop j k' = .node x y (s1, v1) k1 r → Un lim n b1 (s1, v1, k1)) (R : Option (List Bd)) (hR : (if s = s' then unF (unT lim n) bs k k' else none) = R) :
    Calls Try.prog 92 #[pv, tv, .func (.func 102) #[] #[.pointer (some ⟨c1, 0, none⟩), .pointer (some ⟨c2, 0, none⟩)]] w (UbPost base b R w) := by
  have HP := Lib.hid h
  have HT := Lib.hid h'
  have HM := Lib.hid hm
  have HH : Hid (UnTo base b lim n) := H
  have HW := Lib.hid hw
  have HU := Lib.hid hu
  have HU' := Lib.hid hu'
  have HRR := Lib.hid hR
  have HC1 := Lib.hid hc1
  have HC2 := Lib.hid hc2
  have hfl := flen_le_sz k
  have hsm := h.small
  clear h h' hm H hw hu hu' hc1 hc2 hR
  go_enter Try.func92, Try.ntmps92
  go_wp2_with fail
  with_reducible refine (signOfI_any HP.out).mono ?_
  rintro e w1 ⟨rfl, hb1⟩
  have HK1 := Lib.hid (Kp.of hb1 hbw)
  have HM1 := Lib.hid (HM.out.below hb1)
  have HP1 := Lib.hid (HP.out.next hb1)
  have HT1 := Lib.hid (HT.out.next hb1)
  have hs1 := hb1.size
  clear hb1
  go_wp2_with fail
  with_reducible refine (signOfI_any HT1.out).mono ?_
  rintro e w2 ⟨rfl, hb2⟩
  have HK2 := Lib.hid (HK1.out.trans (Kp.of hb2 (Nat.le_trans hbw hs1)))
  have HM2 := Lib.hid (HM1.out.below hb2)
  have HP2 := Lib.hid (HP1.out.next hb2)
  have HT2 := Lib.hid (HT1.out.next hb2)
  have hs2 := hb2.size
  clear hb2 HK1 HM1 HP1 HT1
  by_cases hss : s = s'
  case neg =>
    have e0 : (s != s') = true := by simp [hss]
    have HN : Hid (R = none) := by rw [Hid, ← HRR.out]; exact if_neg hss
    clear hss
    go_wp2_with fail
    go_ret
    exact ⟨HK2.out, .inr ⟨HN.out, rfl⟩⟩
  subst hss
  have e0 : (s != s) = false := by simp
  go_wp2_with fail
  with_reducible refine (kidsOf_any s v' k' tv w2.heap.size w2 HT2.out.node).mono ?_
  rintro e w3 ⟨a2, ca2, rfl, hb3, hn2⟩
  have HK3 := Lib.hid (HK2.out.trans (Kp.of hb3 (by omega)))
  have HM3 := Lib.hid (HM2.out.below hb3)
  have HP3 := Lib.hid (HP2.out.next hb3)
  have HN2 : Hid (NSl w3 0 w3.heap.size a2 k') := (hn2.below hb3).mono (Nat.le_refl _) hb3.size
  have hs3 := hb3.size
  clear hb3 hn2 HK2 HM2 HP2 HT2
  go_wp2_with fail
  with_reducible refine (kidsOf_any s v k pv w3.heap.size w3 HP3.out.node).mono ?_
  rintro e w4 ⟨a1, ca1, rfl, hb4, hn1⟩
  have HK4 := Lib.hid (HK3.out.trans (Kp.of hb4 (by omega)))
  have HM4 := Lib.hid (HM3.out.below hb4)
  have HN1 : Hid (NSl w4 0 w4.heap.size a1 k) := (hn1.below hb4).mono (Nat.le_refl _) hb4.size
  have HN2' : Hid (NSl w4 0 w4.heap.size a2 k') := (HN2.out.below hb4).mono (Nat.le_refl _) hb4.size
  have hs4 := hb4.size
  have hfl2 := flen_same HP.out.okn HT.out.okn
  have HFE : Hid (R = unF (unT lim n) bs k k') := by rw [Hid, ← HRR.out]; simp
  have HFK := Lib.hid HP.out.ok
  have HFK' := Lib.hid HT.out.ok
  have hsm' := HT.out.small
  clear hb4 hn1 HN2 HK3 HM3 HP3 HP HT HM
  have HFL := Lib.hid hfl2
  clear hfl2
  go_wp2_with fail
  go_loopw [20] (fun i wr => ∃ (j : Nat) (b1 : List Bd), i = .int .i64 j ∧ j ≤ flen k ∧ Hid (unF (unT lim n) bs k k' = unF (unT lim n) b1 (fdrop j k) (fdrop j k')) ∧ Hid (MapIs wr b b1) ∧ Hid (Wb lim b1) ∧ Hid (Le bs b1) ∧ Hid (Kp base w4 wr)) (fun i _ => flen k - (intOf i).toNat)
  case atStart => exact ⟨0, bs, rfl, Nat.zero_le _, rfl, HM4, HW, HW.out.le, Kp.refl _ _⟩
  case round =>
    clear HM4
    obtain ⟨j, b1, rfl, hj, HF, HMr, HWr, HLr, HKr⟩ := hrel
    have hkr := HKr.out.low.size
    by_cases hlt : j < flen k
    · have hlt' : j < flen k' := by rw [← HFL.out]; exact hlt
      have hnr := HN1.out.kp HKr.out
      rcases hnr with rfl | ⟨kb, ko, rfl, hrow⟩
      · simp [flen] at hlt
      have hnr' := HN2'.out.kp HKr.out
      rcases hnr' with rfl | ⟨kb', ko', rfl, hrow'⟩
      · simp [flen] at hlt'
      obtain ⟨s1, v1, k1, val1, ⟨x, y, hd⟩, _, _, hc, hn⟩ := nrow_at hrow hlt
      obtain ⟨s2, v2, k2, val2, ⟨x', y', hd'⟩, _, _, hc', hn'⟩ := nrow_at hrow' hlt'
      have hk1 := fok_kid HFK.out hd
      have hk2 := fok_kid HFK'.out hd'
      have HST := Lib.hid (unF_step (f := unT lim n) (bs := b1) hd hd')
      have HCALL := Lib.hid (unLeaf_any HH.out (c1 := c1) (c2 := c2) (HKr.out.cell _ _ (HK4.out.cell _ _ HC1.out)) (HKr.out.cell _ _ (HK4.out.cell _ _ HC2.out)) HMr.out HWr.out (by omega) hn hn' ⟨hk1.1, hk1.2⟩ ⟨hk2.1, hk2.2⟩ (HU.out b1 HWr.out HLr.out j _ _ _ _ _ _ hd) (HU'.out b1 HWr.out HLr.out j _ _ _ _ _ _ hd'))
      have HWN : Hid (∀ b2, unT lim n b1 (s1, v1, k1) (s2, v2, k2) = some b2 → Wb lim b2 ∧ Le b1 b2) := fun b2 h => unT_wb n b1 _ _ b2 HWr.out ⟨hk1.1, hk1.2⟩ ⟨hk2.1, hk2.2⟩ h
      have g1 : (0 : Int) ≤ (j : Int) := by omega
      have g2 : (j : Int) < (flen k : Int) := by omega
      have g3 : (j : Int) < (flen k' : Int) := by omega
      clear hn hn' hd hd' hk1 hk2 hrow hrow'
      go_wp2_with fail
      with_reducible refine HCALL.out.mono ?_
      rintro e w5 ⟨hkp, hcase⟩
      have HK5 := Lib.hid (HKr.out.trans hkp)
      clear hkp HCALL hc hc'
      rcases hcase with ⟨b2, ht, rfl, hm2⟩ | ⟨ht, rfl⟩
      · have HF2 : Hid (unF (unT lim n) bs k k' = unF (unT lim n) b2 (fdrop (j + 1) k) (fdrop (j + 1) k')) := by rw [Hid, HF.out, HST.out, ht]; rfl
        have HM5 := Lib.hid hm2
        have HWL := Lib.hid (HWN.out b2 ht)
        have HL5 : Hid (Le bs b2) := HLr.out.trans HWL.out.2 HW.out
        clear ht hm2
        go_wp2_with fail
        go_roundw
        case rel => exact ⟨j + 1, b2, by go_num, by omega, HF2, HM5, HWL.out.1, HL5, HK5⟩
        case measure => simp [intOf]; omega
      · have HN : Hid (R = none) := by rw [Hid, HFE.out, HF.out, HST.out, ht]; rfl
        clear ht
        go_wp2_with fail
        go_ret
        exact ⟨HK4.out.trans HK5.out, .inr ⟨HN.out, rfl⟩⟩
    · have HS : Hid (R = some b1) := by rw [Hid, HFE.out, HF.out, fdrop_all (by omega), fdrop_all (k := k') (by have := HFL.out; omega)]; rfl
      go_wp2_with fail
      go_ret
      exact ⟨HK4.out.trans HKr.out, .inl ⟨b1, HS.out, rfl, HMr.out⟩⟩

set_option maxRecDepth 100000 in
set_option maxHeartbeats 4000000 in
theorem unify_any {base b lim : Nat} (hbb : base ≤ b) (hlim : lim ≤ 64) (n : Nat) (hn600 : n ≤ 600) : UnTo base b lim n := by
  induction n with
  | zero =>
    intro bs s v k nv s' v' k' nv' w _ hw _ _ _ _ _ hu _
    have := hu.now hw
    simp only [sz] at this
    omega
  | succ n ih =>
    intro bs s v k nv s' v' k' nv' w hm hw hbw hn hn' ho ho' hu hu'
    have hta := assert_varV
    have htb := assert_symV
    have HH : Hid (UnTo base b lim n) := ih (by omega)
    have hz1 := hu.self hw ho
    have hz2 := hu'.self hw ho'
    have hz3 := hu.now hw
    have hz4 := hu'.now hw
    obtain ⟨oa1, oa2⟩ := hw.okA ho
    obtain ⟨ob1, ob2⟩ := hw.okA ho'
    simp only [sz] at hz1 hz2
    have hbx : Below w.heap.size w ((w.alloc (.cells #[.map (some b)] 69)).alloc (.cells #[.int .i64 (lim : Int)] 3)) := ((Below.refl _ _).alloc (Nat.le_refl _) _).alloc (by simp) _
    have HK0 : Hid (Kp base w ((w.alloc (.cells #[.map (some b)] 69)).alloc (.cells #[.int .i64 (lim : Int)] 3))) := Kp.of hbx hbw
    have HM0 := Lib.hid (hm.below hbx)
    have HN0 : Hid (NodeIs ((w.alloc (.cells #[.map (some b)] 69)).alloc (.cells #[.int .i64 (lim : Int)] 3)) 0 ((w.alloc (.cells #[.map (some b)] 69)).alloc (.cells #[.int .i64 (lim : Int)] 3)).heap.size nv s v k) := (hn.below hbx).mono (Nat.le_refl _) hbx.size
    have HN0' : Hid (NodeIs ((w.alloc (.cells #[.map (some b)] 69)).alloc (.cells #[.int .i64 (lim : Int)] 3)) 0 ((w.alloc (.cells #[.map (some b)] 69)).alloc (.cells #[.int .i64 (lim : Int)] 3)).heap.size nv' s' v' k') := (hn'.below hbx).mono (Nat.le_refl _) hbx.size
    have hc1 : ((w.alloc (.cells #[.map (some b)] 69)).alloc (.cells #[.int .i64 (lim : Int)] 3)).cell? ⟨w.heap.size, 0, none⟩ = some (.map (some b)) := by
      rw [World.cell?_alloc_lt _ _ _ (by simp), World.cell?_alloc_at _ _ _ _ (by simp)]; rfl
    have hc2 : ((w.alloc (.cells #[.map (some b)] 69)).alloc (.cells #[.int .i64 (lim : Int)] 3)).cell? ⟨w.heap.size + 1, 0, none⟩ = some (.int .i64 (lim : Int)) := by
      rw [World.cell?_alloc_at _ _ _ _ (by simp)]; rfl
    have HC1 := Lib.hid hc1
    have HC2 := Lib.hid hc2
    have HO1 := Lib.hid ho.1
    have HO2 := Lib.hid ho.2
    have HO1' := Lib.hid ho'.1
    have HO2' := Lib.hid ho'.2
    dsimp only at HO1 HO2 HO1' HO2'
    have HW := Lib.hid hw
    have hszw : base ≤ ((w.alloc (.cells #[.map (some b)] 69)).alloc (.cells #[.int .i64 (lim : Int)] 3)).heap.size := by simp; omega
    have HFA := Lib.hid (hw.free_ap ho)
    have HFB := Lib.hid (hw.free_ap ho')
    have HUK : Hid (∀ (b1 : List Bd), Wb lim b1 → Le bs b1 → (ap (sv bs) (s, v, k)).1 ≠ 0 → ∀ (j x y : Nat) (s1 v1 : Int) (k1 r : Fo), fdrop j (ap (sv bs) (s, v, k)).2.2 = .node x y (s1, v1) k1 r → Un lim n b1 (s1, v1, k1)) := fun b1 h1 h2 h3 j x y s1 v1 k1 r hd => hu.kid hw h2 ho h3 hd
    have HUK' : Hid (∀ (b1 : List Bd), Wb lim b1 → Le bs b1 → (ap (sv bs) (s', v', k')).1 ≠ 0 → ∀ (j x y : Nat) (s1 v1 : Int) (k1 r : Fo), fdrop j (ap (sv bs) (s', v', k')).2.2 = .node x y (s1, v1) k1 r → Un lim n b1 (s1, v1, k1)) := fun b1 h1 h2 h3 j x y s1 v1 k1 r hd => hu'.kid hw h2 ho' h3 hd
    have HR : Hid (unT lim (n + 1) bs (s, v, k) (s', v', k') = _) := unT_succ lim n bs (s, v, k) (s', v', k')
    have HEA : Hid (tsub (sv bs) s v k = ap (sv bs) (s, v, k)) := rfl
    have HEB : Hid (tsub (sv bs) s' v' k' = ap (sv bs) (s', v', k')) := rfl
    clear hm hw hn hn' ho ho' hu hu' ih hbx
    generalize unT lim (n + 1) bs (s, v, k) (s', v', k') = R at *
    generalize ap (sv bs) (s, v, k) = ta at *
    generalize ap (sv bs) (s', v', k') = tb at *
    obtain ⟨sa, va, ka⟩ := ta
    obtain ⟨sb, vb, kb⟩ := tb
    simp only [sz] at hz3 hz4
    dsimp only at HR HUK HUK' oa1 oa2 ob1 ob2
    have HOA1 := Lib.hid oa1
    have HOA2 := Lib.hid oa2
    have HOB1 := Lib.hid ob1
    have HOB2 := Lib.hid ob2
    clear oa1 oa2 ob1 ob2
    go_enter Try.func90, Try.ntmps90
    go_wp2_with fail
    generalize ((w.alloc (.cells #[.map (some b)] 69)).alloc (.cells #[.int .i64 (lim : Int)] 3)) = w0 at *
    have hu0 : ∀ u : After w0.heap.size w0, u.world.cell? ⟨w.heap.size, 0, none⟩ = some (.map (some b)) := fun u => cell_low u.below HC1.out
    clear hc1 hc2
    refine wp_region_mix (fun w' => ∃ u : After w0.heap.size w0, w' = u.world) [] [(0, 0), (1, 0), (3, 0), (4, 0), (2, 1), (5, 1), (6, 1), (7, 1)] (by kernel_rfl) (by kernel_rfl) ⟨⟨_, (Below.refl _ _).drew⟩, rfl⟩ ?_
    have HBD : Hid (Below w0.heap.size w0 w0.drew) := (Below.refl _ _).drew
    generalize w0.drew = wd at *
    iterate 4
      refine mix_see rfl (fun K hK => ?_)
      go_simp
      refine hK _ ?_
      clear hK K
    clear hu0
    refine mix_hold rfl (fun K hK => ?_)
    go_simp
    with_reducible refine (apply_any bs b s v k nv _ ((HN0.out.below HBD.out).mono (Nat.le_refl _) HBD.out.size) (HM0.out.below HBD.out) HO1.out HO2.out (by omega)).mono ?_
    rw [HEA.out]
    dsimp only
    rintro e w1 ⟨n1, rfl, hb1, hn1⟩
    have HB1 := Lib.hid (below_next HBD.out hb1)
    have HN1 := Lib.hid hn1
    refine hK _ _ ⟨⟨_, HB1.out⟩, rfl⟩ ?_
    clear hK K hb1 hn1
    refine mix_hold rfl (fun K hK => ?_)
    go_simp
    with_reducible refine (apply_any bs b s' v' k' nv' _ ((HN0'.out.below HB1.out).mono (Nat.le_refl _) HB1.out.size) (HM0.out.below HB1.out) HO1'.out HO2'.out (by omega)).mono ?_
    rw [HEB.out]
    dsimp only
    rintro e w2 ⟨n2, rfl, hb2, hn2⟩
    have HB2 := Lib.hid (below_next HB1.out hb2)
    have HN1b : Hid (NodeIs w2 0 w2.heap.size n1 sa va ka) := (HN1.out.below hb2).mono (Nat.le_refl _) hb2.size
    have HN2 := Lib.hid hn2
    refine hK _ _ ⟨⟨_, HB2.out⟩, rfl⟩ ?_
    clear hK K hb2 hn2 HN1
    iterate 2
      refine mix_hold rfl (fun K hK => ?_)
      go_simp
      refine hK _ _ ⟨⟨_, HB2.out⟩, rfl⟩ ?_
      clear hK K
    refine mix_end ?_
    have HKW := Lib.hid (HK0.out.low2 HB2.out hszw)
    have HMW := Lib.hid (HM0.out.below HB2.out)
    have hbw2 : base ≤ w2.heap.size := Nat.le_trans hszw HB2.out.size
    have HD1 := Lib.hid (cell_low HB2.out HC1.out)
    have HD2 := Lib.hid (cell_low HB2.out HC2.out)
    clear HK0 HM0 HN0 HN0' HC1 HC2 HO1 HO2 HO1' HO2' HEA HEB HB1 HB2 HBD hszw hz1 hz2
    have HNJ1 : Hid (Nj w2 n1 sa va ka) := ⟨HN1b.out, HOA1.out, HOA2.out, by omega⟩
    have HNJ2 : Hid (Nj w2 n2 sb vb kb) := ⟨HN2.out, HOB1.out, HOB2.out, by omega⟩
    clear HN1b HN2
    go_wp2_with fail
    with_reducible refine (sameNodeI_any HNJ1.out HNJ2.out).mono ?_
    rintro e w3 ⟨rfl, hb3⟩
    have HK3 := Lib.hid (HKW.out.low2 hb3 hbw2)
    have HM3 := Lib.hid (HMW.out.below hb3)
    have hbw3 : base ≤ w3.heap.size := Nat.le_trans hbw2 hb3.size
    have HE1 := Lib.hid (cell_low hb3 HD1.out)
    have HE2 := Lib.hid (cell_low hb3 HD2.out)
    have HJ1 := Lib.hid (HNJ1.out.next hb3)
    have HJ2 := Lib.hid (HNJ2.out.next hb3)
    clear hb3 HKW HMW HD1 HD2 HNJ1 HNJ2 hbw2
    cases hq : teq sa va ka sb vb kb with
    | true =>
      have HRS : Hid (R = some bs) := by rw [Hid, HR.out, if_pos (show tq (sa, va, ka) (sb, vb, kb) = true from hq)]
      clear hq
      go_wp2_with fail
      refine bodyPost_ret (v := .bool true) ?_ rfl ⟨HK3.out, .inl ⟨bs, HRS.out, rfl, HM3.out⟩⟩
      simp [results, Try.results90, go_sem]
    | false =>
      have HR2 : Hid (R = if sa = 0 then unB lim bs va (sb, vb, kb) else if sb = 0 then unB lim bs vb (sa, va, ka) else if sa = sb then unF (unT lim n) bs ka kb else none) := by
        rw [Hid, HR.out, if_neg (show ¬ tq (sa, va, ka) (sb, vb, kb) = true by rw [show tq (sa, va, ka) (sb, vb, kb) = false from hq]; simp)]
      clear hq HR
      have hnode := HJ1.out.node
      rcases hnode with ⟨rfl, rfl, rfl⟩ | ⟨hsa, a1, c1, rfl, hn1⟩
      · have HRS : Hid (R = unB lim bs va (sb, vb, kb)) := by rw [Hid, HR2.out]; exact if_pos rfl
        have hva := ((okN_iff _ _ _).1 HOA1.out).2.1 rfl
        have HC := Lib.hid (bind_any hbb lim hlim bs va (sb, vb, kb) n2 w3 HM3.out HW.out hbw3 HJ2.out.node ⟨HOB1.out, HOB2.out⟩ (by simp only [sz]; omega) (HFA.out va (List.mem_singleton.2 rfl)) hva)
        clear HR2
        have he1 := HE1.out
        have he2 := HE2.out
        go_wp2_with fail
        with_reducible refine HC.out.mono ?_
        rintro e w4 ⟨hk4, hcase⟩
        have HK4 := Lib.hid (HK3.out.trans hk4)
        clear hk4 HC
        rcases hcase with ⟨b2, hr, rfl, hm2⟩ | ⟨hr, rfl⟩
        · have HP : Hid (UbPost base b R w (.returned (.bool true)) w4) := ⟨HK4.out, .inl ⟨b2, HRS.out.trans hr, rfl, hm2⟩⟩
          clear hr hm2
          go_wp2_with fail
          refine bodyPost_ret (v := .bool true) ?_ rfl HP.out
          simp [results, Try.results90, go_sem]
        · have HP : Hid (UbPost base b R w (.returned (.bool false)) w4) := ⟨HK4.out, .inr ⟨HRS.out.trans hr, rfl⟩⟩
          clear hr
          go_wp2_with fail
          refine bodyPost_ret (v := .bool false) ?_ rfl HP.out
          simp [results, Try.results90, go_sem]
      · have HR3 : Hid (R = if sb = 0 then unB lim bs vb (sa, va, ka) else if sa = sb then unF (unT lim n) bs ka kb else none) := by rw [Hid, HR2.out]; exact if_neg hsa
        have HSA := Lib.hid hsa
        clear HR2 hn1 hsa
        have hnode := HJ2.out.node
        rcases hnode with ⟨rfl, rfl, rfl⟩ | ⟨hsb, a2, c2, rfl, hn2⟩
        · have HRS : Hid (R = unB lim bs vb (sa, va, ka)) := by rw [Hid, HR3.out]; exact if_pos rfl
          have hvb := ((okN_iff _ _ _).1 HOB1.out).2.1 rfl
          have HC := Lib.hid (bind_any hbb lim hlim bs vb (sa, va, ka) _ w3 HM3.out HW.out hbw3 HJ1.out.node ⟨HOA1.out, HOA2.out⟩ (by simp only [sz]; omega) (HFB.out vb (List.mem_singleton.2 rfl)) hvb)
          clear HR3
          have he1 := HE1.out
          have he2 := HE2.out
          go_wp2_with fail
          with_reducible refine HC.out.mono ?_
          rintro e w4 ⟨hk4, hcase⟩
          have HK4 := Lib.hid (HK3.out.trans hk4)
          clear hk4 HC
          rcases hcase with ⟨b2, hr, rfl, hm2⟩ | ⟨hr, rfl⟩
          · have HP : Hid (UbPost base b R w (.returned (.bool true)) w4) := ⟨HK4.out, .inl ⟨b2, HRS.out.trans hr, rfl, hm2⟩⟩
            clear hr hm2
            go_wp2_with fail
            refine bodyPost_ret (v := .bool true) ?_ rfl HP.out
            simp [results, Try.results90, go_sem]
          · have HP : Hid (UbPost base b R w (.returned (.bool false)) w4) := ⟨HK4.out, .inr ⟨HRS.out.trans hr, rfl⟩⟩
            clear hr
            go_wp2_with fail
            refine bodyPost_ret (v := .bool false) ?_ rfl HP.out
            simp [results, Try.results90, go_sem]
        · have HRS : Hid ((if sa = sb then unF (unT lim n) bs ka kb else none) = R) := by rw [Hid, HR3.out]; exact (if_neg hsb).symm
          have HC := Lib.hid (kidsAgreeU_any HH.out (c1 := w.heap.size) (c2 := w.heap.size + 1) HM3.out HW.out hbw3 HJ1.out HJ2.out HE1.out HE2.out (fun b1 h1 h2 => HUK.out b1 h1 h2 HSA.out) (fun b1 h1 h2 => HUK'.out b1 h1 h2 hsb) R HRS.out)
          clear HR3 hn2 hsb HRS
          go_wp2_with fail
          with_reducible refine HC.out.mono ?_
          rintro e w4 ⟨hk4, hcase⟩
          have HK4 := Lib.hid (HK3.out.trans hk4)
          clear hk4 HC
          rcases hcase with ⟨b2, hr, rfl, hm2⟩ | ⟨hr, rfl⟩
          · have HP : Hid (UbPost base b R w (.returned (.bool true)) w4) := ⟨HK4.out, .inl ⟨b2, hr, rfl, hm2⟩⟩
            clear hr hm2
            go_wp2_with fail
            refine bodyPost_ret (v := .bool true) ?_ rfl HP.out
            simp [results, Try.results90, go_sem]
          · have HP : Hid (UbPost base b R w (.returned (.bool false)) w4) := ⟨HK4.out, .inr ⟨hr, rfl⟩⟩
            clear hr
            go_wp2_with fail
            refine bodyPost_ret (v := .bool false) ?_ rfl HP.out
            simp [results, Try.results90, go_sem]
end Go.Proofs.Ytpfkhgiiojikbaa

/-! UR: What UnifyOf answers: plain. -/
namespace Go.Proofs.Ytpfkhgiiojikbaa
open Go.RowKit Go.Deep

/-- What makes two terms the same, all terms of so many signs at most. -/
def uniR (lim : Nat) (a b : T3) : Option (List Bd) := (unT lim 600 [] a b).bind fun bs => if sz (ap (sv bs) a) ≤ lim then some bs else none
theorem uniR_some {lim : Nat} {a b : T3} {bs : List Bd} : uniR lim a b = some bs ↔ unT lim 600 [] a b = some bs ∧ sz (ap (sv bs) a) ≤ lim := by
  unfold uniR
  rw [Option.bind_eq_some_iff]
  constructor
  · rintro ⟨x, h1, h2⟩
    split at h2
    · obtain rfl := Option.some.inj h2; exact ⟨h1, by assumption⟩
    · cases h2
  · rintro ⟨h1, h2⟩
    exact ⟨bs, h1, by rw [if_pos h2]⟩
theorem uniR_none {lim : Nat} {a b : T3} : uniR lim a b = none ↔ ∀ bs, unT lim 600 [] a b = some bs → ¬ sz (ap (sv bs) a) ≤ lim := by
  constructor
  · intro h bs h1 h2
    rw [uniR_some.2 ⟨h1, h2⟩] at h; cases h
  · intro h
    cases hu : uniR lim a b with
    | none => rfl
    | some bs => obtain ⟨h1, h2⟩ := uniR_some.1 hu; exact absurd h2 (h bs h1)
/-- The answer of UnifyOf. -/
def unR (s v : Int) (k : Fo) (s' v' : Int) (k' : Fo) : List Bd × Bool :=
  if okW s v k 16 = true ∧ okW s' v' k' 16 = true then match uniR 16 (s, v, k) (s', v', k') with
    | some bs => (bs, true)
    | none => ([], false)
  else ([], false)
theorem unR_bad {s v : Int} {k : Fo} {s' v' : Int} {k' : Fo} (h : ¬ (okW s v k 16 = true ∧ okW s' v' k' 16 = true)) : unR s v k s' v' k' = ([], false) := by unfold unR; rw [if_neg h]
theorem unR_some {s v : Int} {k : Fo} {s' v' : Int} {k' : Fo} {bs : List Bd} (h1 : okW s v k 16 = true) (h2 : okW s' v' k' 16 = true) (h : uniR 16 (s, v, k) (s', v', k') = some bs) : unR s v k s' v' k' = (bs, true) := by unfold unR; rw [if_pos ⟨h1, h2⟩, h]
theorem unR_none {s v : Int} {k : Fo} {s' v' : Int} {k' : Fo} (h : uniR 16 (s, v, k) (s', v', k') = none) : unR s v k s' v' k' = ([], false) := by
  unfold unR
  split
  · rw [h]
  · rfl
theorem unR_cases {s v : Int} {k : Fo} {s' v' : Int} {k' : Fo} {bs : List Bd} {t : Bool} (h : unR s v k s' v' k' = (bs, t)) : (t = false ∧ bs = []) ∨ (t = true ∧ okW s v k 16 = true ∧ okW s' v' k' 16 = true ∧ uniR 16 (s, v, k) (s', v', k') = some bs) := by
  unfold unR at h
  split at h
  · rename_i hc
    split at h
    · rename_i b1 hu
      simp only [Prod.mk.injEq] at h
      obtain ⟨rfl, rfl⟩ := h
      exact .inr ⟨rfl, hc.1, hc.2, hu⟩
    · simp only [Prod.mk.injEq] at h
      exact .inl ⟨h.2.symm, h.1.symm⟩
  · simp only [Prod.mk.injEq] at h
    exact .inl ⟨h.2.symm, h.1.symm⟩
theorem okT_w {s v : Int} {k : Fo} {room : Int} (h : okW s v k room = true) : okT (s, v, k) := by
  have := (okW_iff _ _ _ _).1 h; exact ⟨this.1, this.2.1⟩
theorem sz_w {s v : Int} {k : Fo} (h : okW s v k 16 = true) : sz (s, v, k) ≤ 16 := by
  have := (okW_iff _ _ _ _).1 h; simp only [sz]; omega
theorem w_sz {t : T3} (h : okT t) {room : Nat} (hz : sz t ≤ room) : okW t.1 t.2.1 t.2.2 room = true := (okW_iff _ _ _ _).2 ⟨h.1, h.2, by simp only [sz] at hz; omega⟩
theorem Wb.sok {bs : List Bd} (h : Wb 16 bs) : sok 16 bs = true := sok_iff.2 ⟨h.asc, fun x hx => by
  have hs := sv_mem h.asc hx
  have hr := h.rng _ _ hs
  exact ⟨by omega, by omega, w_sz (h.ok _ _ hs) (h.small _ _ hs)⟩⟩
theorem Wb.bof {lim : Nat} {bs : List Bd} (h : Wb lim bs) : Bof bs lim := fun x t ht => by
  have h1 := h.ok x t ht
  have h2 := h.small x t ht
  simp only [sz] at h2
  exact ⟨h1.1, h1.2, by omega⟩
theorem uniR_wb {lim : Nat} {a b : T3} {bs : List Bd} (ha : okT a) (hb : okT b) (h : uniR lim a b = some bs) : Wb lim bs := (unT_wb _ _ _ _ _ (Wb.nil lim) ha hb (uniR_some.1 h).1).1
/-- The specification looks at the terms' sizes behind it. -/
theorem uniR_spec {a b : T3} (ha : okT a) (hb : okT b) {bs : List Bd} : uniR 16 a b = some bs ↔ unT 64 600 [] a b = some bs ∧ sok 16 bs = true ∧ sz (ap (sv bs) a) ≤ 16 := by
  constructor
  · intro h
    have hw := uniR_wb ha hb h
    obtain ⟨h1, h2⟩ := uniR_some.1 h
    refine ⟨unT_lim (by omega) _ _ _ _ _ (Wb.nil 16) ha hb h1 fun x hx => ?_, hw.sok, h2⟩
    have := hw.small _ _ (sv_mem hw.asc hx)
    omega
  · rintro ⟨h1, h2, h3⟩
    refine uniR_some.2 ⟨unT_lim (by omega) _ _ _ _ _ (Wb.nil 64) ha hb h1 fun x hx => ?_, h3⟩
    have := (okW_iff _ _ _ _).1 ((sok_in h2).2 x hx).2.2
    simp only [sz]; omega
end Go.Proofs.Ytpfkhgiiojikbaa

/-! SM: l1Same on any two terms. -/
namespace Go.Proofs.Ytpfkhgiiojikbaa
open Go.RowKit Go.Deep

theorem boxes_SM {w wr : World} {x y z x' y' z' : Value} (h : Below (w.heap.size + 2) ((w.alloc (.cells #[x, y, z] 28)).alloc (.cells #[x', y', z'] 28)) wr) :
    wr.cell? ⟨w.heap.size, 2, none⟩ = some z ∧ wr.cell? ⟨w.heap.size + 1, 2, none⟩ = some z' := by
  refine ⟨?_, ?_⟩
  · rw [h.cell (by simp), World.cell?_alloc_lt _ _ _ (by simp), World.cell?_alloc_at _ _ _ _ (by simp)]; rfl
  · rw [h.cell (by simp), World.cell?_alloc_at _ _ _ _ (by simp)]; rfl

set_option maxRecDepth 100000 in
set_option maxHeartbeats 2000000 in
theorem l1Same_any (N : Nat) : ∀ (s v : Int) (a : Option Addr) (c : Nat) (k : Fo) (s' v' : Int) (a' : Option Addr) (c' : Nat) (k' : Fo) (w : World), Sl w 0 w.heap.size a k → Sl w 0 w.heap.size a' k' → fsz k ≤ N → N ≤ 1000000 →
    Calls Try.prog 87 #[.agg #[.int .i64 s, .int .i64 v, .slice a (flen k) c], .agg #[.int .i64 s', .int .i64 v', .slice a' (flen k') c']] w fun e w' => e = .returned (.bool (teq s v k s' v' k')) ∧ Below w.heap.size w w' := by
  induction N using Nat.strongRecOn with
  | _ N ih =>
    intro s v a c k s' v' a' c' k' w hl hl' hN hN2
    have hfl := flen_le_sz k
    have IH := Lib.hid ih
    clear ih
    have hb0 : Below w.heap.size w ((w.alloc (.cells #[.int .i64 s, .int .i64 v, .slice a (flen k) c] 28)).alloc (.cells #[.int .i64 s', .int .i64 v', .slice a' (flen k') c'] 28)) := ((Below.refl _ _).alloc (Nat.le_refl _) _).alloc (by simp) _
    have HB0 := Lib.hid hb0
    clear hb0
    by_cases hs : s = s'
    case neg =>
      have e0 : (s != s') = true := by simp [hs]
      have HF := Lib.hid (teq_sign (v := v) (k := k) (v' := v') (k' := k') hs)
      clear hs
      go_enter Try.func87, Try.ntmps87
      go_wp2_with fail
      go_ret
      exact ⟨by rw [HF.out]; rfl, HB0.out⟩
    subst hs
    have e0 : (s != s) = false := by simp
    by_cases hv : v = v'
    case neg =>
      have e1 : (v != v') = true := by simp [hv]
      have HF := Lib.hid (teq_var (s := s) (k := k) (s' := s) (k' := k') hv)
      clear hv
      go_enter Try.func87, Try.ntmps87
      go_wp2_with fail
      go_ret
      exact ⟨by rw [HF.out]; rfl, HB0.out⟩
    subst hv
    have e1 : (v != v) = false := by simp
    by_cases hk : flen k = flen k'
    case neg =>
      have e2 : ((flen k : Int) != (flen k' : Int)) = true := by simp; omega
      have HF := Lib.hid (teq_len (s := s) (v := v) (s' := s) (v' := v) hk)
      clear hk
      go_enter Try.func87, Try.ntmps87
      go_wp2_with fail
      go_ret
      exact ⟨by rw [HF.out]; rfl, HB0.out⟩
    have e2 : ((flen k : Int) != (flen k' : Int)) = false := by simp [hk]
    have hkl : flen k ≤ flen k' := by omega
    have hkg : flen k' ≤ flen k := by omega
    clear hk
    rw [teq_kids]
    go_enter Try.func87, Try.ntmps87
    go_wp2_with fail
    go_loopw [5] (fun i wr => ∃ j : Nat, j ≤ flen k ∧ i = .int .i64 j ∧ Hid (feq k k' = feq (fdrop j k) (fdrop j k')) ∧ Below (w.heap.size + 2) ((w.alloc (.cells #[.int .i64 s, .int .i64 v, .slice a (flen k) c] 28)).alloc (.cells #[.int .i64 s, .int .i64 v, .slice a' (flen k') c'] 28)) wr) (fun i _ => flen k - (intOf i).toNat)
    case atStart => exact ⟨0, by omega, rfl, rfl, Below.refl _ _⟩
    case round =>
      obtain ⟨j, hj, rfl, hfe, hbl⟩ := hrel
      have hsr := hbl.size
      simp at hsr
      obtain ⟨hx2, hy2⟩ := boxes_SM hbl
      have hbw := HB0.out.trans (hbl.mono (show w.heap.size ≤ w.heap.size + 2 by omega))
      by_cases hlt : j < flen k
      · rcases hl with rfl | ⟨b, o, rfl, hrow⟩
        · simp [flen] at hlt
        rcases hl' with rfl | ⟨b', o', rfl, hrow'⟩
        · simp [flen] at hkl; omega
        obtain ⟨s1, v1, kk, a1, c1, ⟨x, y, hd⟩, _, hbB, hk0, hk1, hk2, hsl⟩ := row_at (hrow.below hbw) hlt
        obtain ⟨s2, v2, kk2, a2, c2, ⟨x2, y2, hd2⟩, _, hbB', hk3, hk4, hk5, hsl2⟩ := row_at (hrow'.below hbw) (show j < flen k' by omega)
        have hfd := feq_drop hd hd2
        have hkN := fsz_kid hd
        have HS := Lib.hid hsl
        have HS2 := Lib.hid hsl2
        have HBL := Lib.hid hbl
        clear hd hd2 hsl hsl2 hrow hrow' hbl hbw
        have g1 : (0 : Int) ≤ (j : Int) := by omega
        have g2 : (j : Int) < (flen k : Int) := by omega
        have g3 : (j : Int) < (flen k' : Int) := by omega
        have hu0 : ∀ u : After wr.heap.size wr, u.world.cell? ⟨b, o + j * 3, none⟩ = some (.int .i64 s1) := fun u => u.cell (by simp; omega) hk0
        have hu1 : ∀ u : After wr.heap.size wr, u.world.cell? ⟨b, o + j * 3 + 1, none⟩ = some (.int .i64 v1) := fun u => u.cell (by simp; omega) hk1
        have hu2 : ∀ u : After wr.heap.size wr, u.world.cell? ⟨b, o + j * 3 + 2, none⟩ = some (.slice a1 (flen kk) c1) := fun u => u.cell (by simp; omega) hk2
        have hu3 : ∀ u : After wr.heap.size wr, u.world.cell? ⟨b', o' + j * 3, none⟩ = some (.int .i64 s2) := fun u => u.cell (by simp; omega) hk3
        have hu4 : ∀ u : After wr.heap.size wr, u.world.cell? ⟨b', o' + j * 3 + 1, none⟩ = some (.int .i64 v2) := fun u => u.cell (by simp; omega) hk4
        have hu5 : ∀ u : After wr.heap.size wr, u.world.cell? ⟨b', o' + j * 3 + 2, none⟩ = some (.slice a2 (flen kk2) c2) := fun u => u.cell (by simp; omega) hk5
        have hu6 : ∀ u : After wr.heap.size wr, u.world.cell? ⟨w.heap.size, 2, none⟩ = some (.slice (some ⟨b, o, none⟩) (flen k) c) := fun u => u.cell (by simp; omega) hx2
        have hu7 : ∀ u : After wr.heap.size wr, u.world.cell? ⟨w.heap.size + 1, 2, none⟩ = some (.slice (some ⟨b', o', none⟩) (flen k') c') := fun u => u.cell (by simp; omega) hy2
        have HCALL : Hid (∀ u : After wr.heap.size wr, Calls Try.prog 87 #[.agg #[.int .i64 s1, .int .i64 v1, .slice a1 (flen kk) c1], .agg #[.int .i64 s2, .int .i64 v2, .slice a2 (flen kk2) c2]] u.world fun e w' => e = .returned (.bool (teq s1 v1 kk s2 v2 kk2)) ∧ Below u.world.heap.size u.world w') := fun u => by
          have hu := u.below
          have hus := hu.size
          refine IH.out (fsz kk) (by omega) s1 v1 a1 c1 kk s2 v2 a2 c2 kk2 u.world ?_ ?_ (Nat.le_refl _) (by omega)
          · exact (HS.out.below (hu.mono (by omega))).mono (Nat.le_refl _) (by omega)
          · exact (HS2.out.below (hu.mono (by omega))).mono (Nat.le_refl _) (by omega)
        cases hte : teq s1 v1 kk s2 v2 kk2 with
        | true =>
          have HFE : Hid (feq k k' = feq (fdrop (j + 1) k) (fdrop (j + 1) k')) := by unfold Hid; rw [hfe.out, hfd, hte, Bool.true_and]
          rw [hte] at HCALL
          clear hfe hfd hte
          go_wp2_with fail
          refine wp_region_after wr.heap.size (by kernel_rfl) (by kernel_rfl) ?_
          repeat (go_big_quiet_step ((go_at_call 87; exact Calls.after (After.below ‹_›).size (HCALL.out _))))
          refine wpQuiet_nil ?_
          rintro u ⟨⟨_, hu⟩, rfl⟩
          clear hu0 hu1 hu2 hu3 hu4 hu5 hu6 hu7 hk0 hk1 hk2 hk3 hk4 hk5 hx2 hy2
          have HB2 := Lib.hid (HBL.out.trans (hu.mono hsr))
          clear hu
          go_wp2_with fail
          go_roundw
          case rel => exact ⟨j + 1, by omega, by go_num, HFE, HB2.out⟩
          case measure => simp [intOf]; omega
        | false =>
          have HFE : Hid (feq k k' = false) := by unfold Hid; rw [hfe.out, hfd, hte, Bool.false_and]
          rw [hte] at HCALL
          clear hfe hfd hte
          go_wp2_with fail
          refine wp_region_after wr.heap.size (by kernel_rfl) (by kernel_rfl) ?_
          repeat (go_big_quiet_step ((go_at_call 87; exact Calls.after (After.below ‹_›).size (HCALL.out _))))
          refine wpQuiet_nil ?_
          rintro u ⟨⟨_, hu⟩, rfl⟩
          clear hu0 hu1 hu2 hu3 hu4 hu5 hu6 hu7 hk0 hk1 hk2 hk3 hk4 hk5 hx2 hy2
          have HB2 := Lib.hid (HB0.out.trans ((HBL.out.trans (hu.mono hsr)).mono (by omega)))
          clear hu
          go_wp2_with fail
          go_ret
          exact ⟨by rw [HFE.out]; rfl, HB2.out⟩
      · have HBW := Lib.hid hbw
        have HFE : Hid (feq k k' = true) := by unfold Hid; rw [hfe.out, fdrop_all (by omega), fdrop_all (by omega)]; rfl
        clear hbw hbl hfe
        go_wp2_with fail
        go_ret
        exact ⟨by rw [HFE.out]; rfl, HBW.out⟩
end Go.Proofs.Ytpfkhgiiojikbaa

/-! MS: - The specification's l2Match. -/
namespace Go.Proofs.Ytpfkhgiiojikbaa
open Go.RowKit Go.Deep

def LmPost (bs : List Bd) (s v : Int) (k : Fo) (s' v' : Int) (k' : Fo) (w : World) (e : Ending) (w' : World) : Prop :=
  ∃ A C b1 t, e = .returned (.tuple #[.slice A (List.length b1) C, .bool t]) ∧ Below w.heap.size w w' ∧ BSl w' 0 w'.heap.size A b1 ∧ ((t = true ∧ tmt bs s v k s' v' k' = some b1) ∨ (t = false ∧ tmt bs s v k s' v' k' = none))

/-- Two boxes of terms, made one behind the other. -/
theorem two_boxesM {w wr : World} {x y z x' y' z' : Value} {T T' : TypeId} (h : Below (w.heap.size + 2) ((w.alloc (.cells #[x, y, z] T)).alloc (.cells #[x', y', z'] T')) wr) :
    wr.cell? ⟨w.heap.size, 0, none⟩ = some x ∧ wr.cell? ⟨w.heap.size, 1, none⟩ = some y ∧ wr.cell? ⟨w.heap.size, 2, none⟩ = some z ∧ wr.cell? ⟨w.heap.size + 1, 0, none⟩ = some x' ∧ wr.cell? ⟨w.heap.size + 1, 1, none⟩ = some y' ∧ wr.cell? ⟨w.heap.size + 1, 2, none⟩ = some z' := by
  refine ⟨?_, ?_, ?_, ?_, ?_, ?_⟩
  · rw [h.cell (by simp), World.cell?_alloc_lt _ _ _ (by simp), World.cell?_alloc_at _ _ _ _ (by simp)]; rfl
  · rw [h.cell (by simp), World.cell?_alloc_lt _ _ _ (by simp), World.cell?_alloc_at _ _ _ _ (by simp)]; rfl
  · rw [h.cell (by simp), World.cell?_alloc_lt _ _ _ (by simp), World.cell?_alloc_at _ _ _ _ (by simp)]; rfl
  · rw [h.cell (by simp), World.cell?_alloc_at _ _ _ _ (by simp)]; rfl
  · rw [h.cell (by simp), World.cell?_alloc_at _ _ _ _ (by simp)]; rfl
  · rw [h.cell (by simp), World.cell?_alloc_at _ _ _ _ (by simp)]; rfl

end Go.Proofs.Ytpfkhgiiojikbaa
