/- Several texts in one: G5, SHo, OK1, G6. -/
import Derived.Test.YtiinmlagcbjloaaGreatKAll13
import Derived.Test.YtiinmlagcbjloaaGreatKAll9
import Derived.Test.YtiinmlagcbjloaaGreatKAll1
import Derived.Test.YtiinmlagcbjloaaGreatProg
import Derived.Shelf.Slices.Turned
import Derived.Ground.NamesProg
import Derived.Test.YtiinmlagcbjloaaGreatKAll6

/-! G5: anyReaches, moreByKids, the comparison itself, OrderMore of the program. -/
namespace Go.Proofs.YtiinmlagcbjloaaGreat
open Go.RowKit Go.Deep

set_option maxRecDepth 100000 in
set_option maxHeartbeats 1000000 in
theorem anyReaches_any {xs : List Int} {rA : Option Addr} {rC M : Nat} (H : MoreTo xs rA rC M) {s v : Int} {k : Fo} {val : Value} {a : Option Addr} {c : Nat} {l : Fo} {w : World} (h : Nd w val s v k) (hl : Nds w a c l) (hr : ISl w 0 w.heap.size rA xs) (hM : fsz l + fsz k ≤ M) :
    Calls Tryz.prog 44 #[.slice a (flen l) c, val, .func (.func 21) #[.slice rA xs.length rC] #[]] w fun e w' => e = .returned (.bool (pB (Reach (rkN xs) (ftm l) (tmOf s v k)))) ∧ Below w.heap.size w w' := by
  have HN := Lib.hid h
  have HL := Lib.hid hl
  have HR := Lib.hid hr
  have HH : Hid (MoreTo xs rA rC M) := H
  have HSH := Lib.hid h.shape
  have hsm := hl.small
  have hfl := flen_le_sz l
  clear h hl hr H
  go_enter Tryz.func44, Tryz.ntmps44
  go_wp2_with fail
  go_loopw [11] (fun i wr => ∃ j : Nat, i = .int .i64 j ∧ j ≤ flen l ∧ Hid (pB (Reach (rkN xs) (ftm l) (tmOf s v k)) = pB (Reach (rkN xs) ((ftm l).drop j) (tmOf s v k))) ∧ Below w.heap.size w wr) (fun i _ => flen l - (intOf i).toNat)
  case atStart => exact ⟨0, rfl, by omega, by simp [Hid], Below.refl _ _⟩
  case round =>
    obtain ⟨j, rfl, hj, hal, hbl⟩ := hrel
    have hbs := hbl.size
    by_cases hlt : j < flen l
    · obtain ⟨b, o, s1, v1, k1, val1, x, y, rfl, hd, hc, hn, hsz⟩ := (HL.out.next hbl).at hlt
      have HAT := Lib.hid (drop_at (ftm_at j l hd))
      have g1 : (0 : Int) ≤ (j : Int) := by omega
      have g2 : (j : Int) < (flen l : Int) := by omega
      have HNN := Lib.hid hn
      have HBL := Lib.hid hbl
      have HNT := Lib.hid (HN.out.next hbl)
      have HRT := Lib.hid ((HR.out.below hbl).mono (Nat.le_refl _) hbs)
      have HTM := Lib.hid (tm_teq hn.shape HSH.out)
      have HMM : Hid (fsz k1 + fsz k < M) := by unfold Hid; omega
      clear hn hbl hd
      cases hte : teq s1 v1 k1 s v k with
      | true =>
        have HAL : Hid (pB (Reach (rkN xs) (ftm l) (tmOf s v k)) = true) := by
          unfold Hid
          rw [hal.out, HAT.out]
          exact pB_true (reach_cons.2 (.inl (.inl (HTM.out.1 hte))))
        have HTE := Lib.hid hte
        clear hte hal
        go_wp2_with fail
        with_reducible refine (sameNode_any HNN.out HNT.out).mono ?_
        rw [HTE.out]
        rintro e w2 ⟨rfl, hb2⟩
        have HB2 := Lib.hid (HBL.out.trans (hb2.mono hbs))
        clear hb2 hc
        go_wp2_with fail
        go_ret
        exact ⟨by rw [HAL.out]; rfl, HB2.out⟩
      | false =>
        have HNE : Hid (tmOf s1 v1 k1 ≠ tmOf s v k) := fun e => by rw [HTM.out.2 e] at hte; cases hte
        have HTE := Lib.hid hte
        clear hte
        cases hg : pB (Gt (rkN xs) (tmOf s1 v1 k1) (tmOf s v k)) with
        | true =>
          have HAL : Hid (pB (Reach (rkN xs) (ftm l) (tmOf s v k)) = true) := by
            unfold Hid
            rw [hal.out, HAT.out]
            exact pB_true (reach_cons.2 (.inl (.inr (pB_t.1 hg))))
          have HG := Lib.hid hg
          clear hg hal
          go_wp2_with fail
          with_reducible refine (sameNode_any HNN.out HNT.out).mono ?_
          rw [HTE.out]
          rintro e w2 ⟨rfl, hb2⟩
          have hs2 := hb2.size
          have HCALL := Lib.hid (HH.out (HNN.out.next hb2) (HNT.out.next hb2) ((HRT.out.below hb2).mono (Nat.le_refl _) hs2) HMM.out)
          rw [HG.out] at HCALL
          have HB2 := Lib.hid (HBL.out.trans (hb2.mono hbs))
          clear hb2 hc
          go_wp2_with fail
          with_reducible refine HCALL.out.mono ?_
          rintro e w3 ⟨rfl, hb3⟩
          have HB3 := Lib.hid (HB2.out.trans (hb3.mono (by omega)))
          clear hb3
          go_wp2_with fail
          go_ret
          exact ⟨by rw [HAL.out]; rfl, HB3.out⟩
        | false =>
          have HAL : Hid (pB (Reach (rkN xs) (ftm l) (tmOf s v k)) = pB (Reach (rkN xs) ((ftm l).drop (j + 1)) (tmOf s v k))) := by
            unfold Hid
            rw [hal.out, HAT.out]
            exact pB_congr (reach_cons.trans ⟨fun h => h.resolve_left fun h => h.elim HNE.out (pB_f.1 hg), .inr⟩)
          have HG := Lib.hid hg
          clear hg hal
          go_wp2_with fail
          with_reducible refine (sameNode_any HNN.out HNT.out).mono ?_
          rw [HTE.out]
          rintro e w2 ⟨rfl, hb2⟩
          have hs2 := hb2.size
          have HCALL := Lib.hid (HH.out (HNN.out.next hb2) (HNT.out.next hb2) ((HRT.out.below hb2).mono (Nat.le_refl _) hs2) HMM.out)
          rw [HG.out] at HCALL
          have HB2 := Lib.hid (HBL.out.trans (hb2.mono hbs))
          clear hb2 hc
          go_wp2_with fail
          with_reducible refine HCALL.out.mono ?_
          rintro e w3 ⟨rfl, hb3⟩
          have HB3 := Lib.hid (HB2.out.trans (hb3.mono (by omega)))
          clear hb3
          go_wp2_with fail
          go_roundw
          case rel => exact ⟨j + 1, by go_num, by omega, HAL, HB3.out⟩
          case measure => simp [intOf]; omega
    · have HAL : Hid (pB (Reach (rkN xs) (ftm l) (tmOf s v k)) = false) := by
        unfold Hid
        rw [hal.out, List.drop_eq_nil_of_le (by rw [ftm_len]; omega)]
        exact pB_false reach_nil
      clear hal
      go_wp2_with fail
      go_ret
      exact ⟨by rw [HAL.out]; rfl, hbl⟩

set_option maxRecDepth 100000 in
set_option maxHeartbeats 2000000 in
theorem moreByKids_any {xs : List Int} {rA : Option Addr} {rC M : Nat} (H : MoreTo xs rA rC M) {s v : Int} {k : Fo} {val : Value} {v' : Int} {k' : Fo} {val' : Value} {w : World} (hs : s ≠ 0) (h : Nd w val s v k) (h' : Nd w val' s v' k') (hr : ISl w 0 w.heap.size rA xs) (hM : fsz k + fsz k' ≤ M) :
    Calls Tryz.prog 40 #[val, val', .func (.func 21) #[.slice rA xs.length rC] #[]] w fun e w' => e = .returned (.bool (pB (Gt (rkN xs) (tmOf s v k) (tmOf s v' k')))) ∧ Below w.heap.size w w' := by
  have HN := Lib.hid h
  have HN' := Lib.hid h'
  have HR := Lib.hid hr
  have HH : Hid (MoreTo xs rA rC M) := H
  obtain ⟨hlen, hmain⟩ := dif_main (rk := rkN xs) hs h.shape h'.shape
  have HM := Lib.hid hmain
  have hlen1 : flen k ≤ flen k' := by omega
  have hlen2 : flen k' ≤ flen k := by omega
  have hfl := flen_le_sz k
  have hsm := h.small
  have HLEN := Lib.hid hlen
  clear h h' hr H hmain hs hlen
  go_enter Tryz.func40, Tryz.ntmps40
  go_wp2_with fail
  with_reducible refine (kidsOfC_any HN.out).mono ?_
  rintro e w1 ⟨a1, c1, rfl, hb1, hk1⟩
  have hs1 := hb1.size
  have HK1 := Lib.hid (hk1.next hb1)
  have HB1 := Lib.hid hb1
  have HN1 := Lib.hid (HN.out.next hb1)
  have HN1' := Lib.hid (HN'.out.next hb1)
  have HR1 := Lib.hid ((HR.out.below hb1).mono (Nat.le_refl _) hs1)
  clear hb1 hk1
  go_wp2_with fail
  with_reducible refine (kidsOfC_any HN1'.out).mono ?_
  rintro e w2 ⟨a2, c2, rfl, hb2, hk2⟩
  have hs2 := hb2.size
  have HK2 := Lib.hid (HK1.out.next hb2)
  have HK2' := Lib.hid (hk2.next hb2)
  have HB2 := Lib.hid (HB1.out.trans (hb2.mono hs1))
  have HN2 := Lib.hid (HN1.out.next hb2)
  have HN2' := Lib.hid (HN1'.out.next hb2)
  have HR2 := Lib.hid ((HR1.out.below hb2).mono (Nat.le_refl _) hs2)
  clear hb2 hk2
  go_wp2_with fail
  with_reducible refine (firstDiff_any HK2.out HK2'.out HLEN.out).mono ?_
  rintro e w3 ⟨rfl, hb3⟩
  have hs3 := hb3.size
  have HK3 := Lib.hid (HK2.out.next hb3)
  have HK3' := Lib.hid (HK2'.out.next hb3)
  have HB3 := Lib.hid (HB2.out.trans (hb3.mono (by omega)))
  have HN3 := Lib.hid (HN2.out.next hb3)
  have HN3' := Lib.hid (HN2'.out.next hb3)
  have HR3 := Lib.hid ((HR2.out.below hb3).mono (Nat.le_refl _) hs3)
  clear hb3
  generalize fdif k k' = d at HM
  rcases HM.out with ⟨hd, hno⟩ | ⟨hd, x, y, hx, hy, hyes, hnot⟩
  · have ed : ((d : Int) == (flen k : Int)) = true := by simp [hd]
    have HNO : Hid (pB (Gt (rkN xs) (tmOf s v k) (tmOf s v' k')) = false) := pB_false hno
    clear hd hno
    go_wp2_with fail
    go_ret
    exact ⟨by rw [HNO.out]; rfl, HB3.out⟩
  · have ed : ((d : Int) == (flen k : Int)) = false := by simp; omega
    obtain ⟨b, o, s1, v1, k1, val1, x1, y1, rfl, hdr, hc, hn1, hz1⟩ := HK3.out.at hd
    obtain ⟨b', o', s2, v2, k2, val2, x2, y2, rfl, hdr', hc', hn2, hz2⟩ := HK3'.out.at (show d < flen k' by omega)
    have ex : tmOf s1 v1 k1 = x := by have := ftm_at d k hdr; rw [hx] at this; exact (Option.some.inj this).symm
    have ey : tmOf s2 v2 k2 = y := by have := ftm_at d k' hdr'; rw [hy] at this; exact (Option.some.inj this).symm
    subst ex
    subst ey
    obtain ⟨ca, cc, hcut, hcutN⟩ := cut_nodes (n := d + 1) (a := some ⟨b, o, none⟩) (c := c1) (k := k) rfl (by omega) HK3.out.cap
    obtain ⟨ca', cc', hcut', hcutN'⟩ := cut_nodes (n := d + 1) (a := some ⟨b', o', none⟩) (c := c2) (k := k') rfl (by omega) HK3'.out.cap
    have hb3lt := World.block_lt_of_cell? _ _ hc
    have hb3lt' := World.block_lt_of_cell? _ _ hc'
    have g1 : (0 : Int) ≤ (d : Int) := by omega
    have g2 : (d : Int) < (flen k : Int) := by omega
    have g3 : (d : Int) < (flen k' : Int) := by omega
    have e1 : ((d + 1 : Nat) : Int) = (d : Int) + 1 := by omega
    rw [e1] at hcut hcut'
    have HC := Lib.hid hcutN
    have HC' := Lib.hid hcutN'
    have HDR : Hid (ftm (fdrop (d + 1) k) = (ftm k).drop (d + 1)) := ftm_drop _ _
    have HDR' : Hid (ftm (fdrop (d + 1) k') = (ftm k').drop (d + 1)) := ftm_drop _ _
    have hzd := fsz_drop (d + 1) k
    have hzd' := fsz_drop (d + 1) k'
    have HCALL : Hid (∀ u : After w3.heap.size w3, Calls Tryz.prog 21 #[.slice rA xs.length rC, val1, val2] u.world fun e w' => e = .returned (.bool (pB (Gt (rkN xs) (tmOf s1 v1 k1) (tmOf s2 v2 k2)))) ∧ Below u.world.heap.size u.world w') := fun u =>
      HH.out (hn1.next u.below) (hn2.next u.below) ((HR3.out.below u.below).mono (Nat.le_refl _) u.below.size) (by omega)
    have hu0 : ∀ u : After w3.heap.size w3, u.world.cell? ⟨b, o + d, none⟩ = some val1 := fun u => u.cell hb3lt hc
    have hu1 : ∀ u : After w3.heap.size w3, u.world.cell? ⟨b', o' + d, none⟩ = some val2 := fun u => u.cell hb3lt' hc'
    clear hdr hdr' hn1 hn2 hx hy e1
    cases hg : pB (Gt (rkN xs) (tmOf s1 v1 k1) (tmOf s2 v2 k2)) with
    | true =>
      have HG : Hid (pB (Gt (rkN xs) (tmOf s v k) (tmOf s v' k')) = pB (All (rkN xs) (tmOf s v k) (ftm (fdrop (d + 1) k')))) := by rw [HDR'.out]; exact pB_congr (hyes (pB_t.1 hg))
      rw [hg] at HCALL
      clear hg hyes hnot
      go_wp2_with fail
      refine wp_region_after w3.heap.size (by kernel_rfl) (by kernel_rfl) ?_
      repeat (go_big_quiet_step ((go_at_call 21; exact Calls.after (After.below ‹_›).size (HCALL.out _))))
      refine wpQuiet_nil ?_
      rintro u ⟨⟨_, hu⟩, rfl⟩
      clear hu0 hu1 hc hc'
      have hus := hu.size
      have HU := Lib.hid hu
      have HB4 := Lib.hid (HB3.out.trans (hu.mono (by omega)))
      clear hu
      go_wp2_with fail
      with_reducible refine (moreThanAll_any HH.out (HN3.out.next HU.out) (HC'.out _ (HK3'.out.next HU.out)) ((HR3.out.below HU.out).mono (Nat.le_refl _) hus) (by omega)).mono ?_
      rintro e w5 ⟨rfl, hb5⟩
      go_wp2_with fail
      go_ret
      exact ⟨by rw [HG.out]; rfl, HB4.out.trans (hb5.mono (by omega))⟩
    | false =>
      have HG : Hid (pB (Gt (rkN xs) (tmOf s v k) (tmOf s v' k')) = pB (Reach (rkN xs) (ftm (fdrop (d + 1) k)) (tmOf s v' k'))) := by rw [HDR.out]; exact pB_congr (hnot (pB_f.1 hg))
      rw [hg] at HCALL
      clear hg hyes hnot
      go_wp2_with fail
      refine wp_region_after w3.heap.size (by kernel_rfl) (by kernel_rfl) ?_
      repeat (go_big_quiet_step ((go_at_call 21; exact Calls.after (After.below ‹_›).size (HCALL.out _))))
      refine wpQuiet_nil ?_
      rintro u ⟨⟨_, hu⟩, rfl⟩
      clear hu0 hu1 hc hc'
      have hus := hu.size
      have HU := Lib.hid hu
      have HB4 := Lib.hid (HB3.out.trans (hu.mono (by omega)))
      clear hu
      go_wp2_with fail
      with_reducible refine (anyReaches_any HH.out (HN3'.out.next HU.out) (HC.out _ (HK3.out.next HU.out)) ((HR3.out.below HU.out).mono (Nat.le_refl _) hus) (by omega)).mono ?_
      rintro e w5 ⟨rfl, hb5⟩
      go_wp2_with fail
      go_ret
      exact ⟨by rw [HG.out]; rfl, HB4.out.trans (hb5.mono (by omega))⟩

set_option maxRecDepth 100000 in
set_option maxHeartbeats 2000000 in
theorem more_any {xs : List Int} {rA : Option Addr} {rC : Nat} (hrk : rkOk xs = true) (M : Nat) : MoreTo xs rA rC M := by
  induction M with
  | zero => intro s v k val s' v' k' val' w _ _ _ hM; omega
  | succ M ih =>
    intro s v k val s' v' k' val' w h h' hr hM
    have HH : Hid (MoreTo xs rA rC M) := ih
    have HRK := Lib.hid hrk
    have HN := Lib.hid h
    have HN' := Lib.hid h'
    have HR := Lib.hid hr
    have HSH := Lib.hid h.shape
    have HSH' := Lib.hid h'.shape
    have HTS := Lib.hid (tm_sign h.shape)
    have HTS' := Lib.hid (tm_sign h'.shape)
    have HTK := Lib.hid (tm_kids h.shape)
    have HTK' := Lib.hid (tm_kids h'.shape)
    clear h h' hr ih hrk
    by_cases hs : s = 0
    · have HF : Hid (pB (Gt (rkN xs) (tmOf s v k) (tmOf s' v' k')) = false) := by
        refine pB_false fun hg => ?_
        have hsh := HSH.out
        subst hs
        cases hsh with
        | var => exact gt_var hg
        | leaf _ h => omega
      have es : (s == 0) = true := by simp [hs]
      clear hs
      go_enter Tryz.func21, Tryz.ntmps21
      go_wp2_with fail
      with_reducible refine (signOf_any HN.out).mono ?_
      rintro e w1 ⟨rfl, hb1⟩
      have hs1 := hb1.size
      have HN1' := Lib.hid (HN'.out.next hb1)
      have HB1 := Lib.hid hb1
      clear hb1
      go_wp2_with fail
      with_reducible refine (signOf_any HN1'.out).mono ?_
      rintro e w2 ⟨rfl, hb2⟩
      have HB2 := Lib.hid (HB1.out.trans (hb2.mono hs1))
      clear hb2
      go_wp2_with fail
      go_ret
      exact ⟨by rw [HF.out]; rfl, HB2.out⟩
    have es : (s == 0) = false := by simp [hs]
    have HS := Lib.hid hs
    have hsr := shape_sign HSH.out hs
    clear hs
    by_cases hss : s = s'
    · subst hss
      have ess : (s == s) = true := by simp
      go_enter Tryz.func21, Tryz.ntmps21
      go_wp2_with fail
      with_reducible refine (signOf_any HN.out).mono ?_
      rintro e w1 ⟨rfl, hb1⟩
      have hs1 := hb1.size
      have HN1 := Lib.hid (HN.out.next hb1)
      have HN1' := Lib.hid (HN'.out.next hb1)
      have HR1 := Lib.hid ((HR.out.below hb1).mono (Nat.le_refl _) hs1)
      have HB1 := Lib.hid hb1
      clear hb1
      go_wp2_with fail
      with_reducible refine (signOf_any HN1'.out).mono ?_
      rintro e w2 ⟨rfl, hb2⟩
      have hs2 := hb2.size
      have HN2 := Lib.hid (HN1.out.next hb2)
      have HN2' := Lib.hid (HN1'.out.next hb2)
      have HR2 := Lib.hid ((HR1.out.below hb2).mono (Nat.le_refl _) hs2)
      have HB2 := Lib.hid (HB1.out.trans (hb2.mono hs1))
      clear hb2
      go_wp2_with fail
      with_reducible refine (moreByKids_any HH.out HS.out HN2.out HN2'.out HR2.out (by omega)).mono ?_
      rintro e w3 ⟨rfl, hb3⟩
      go_wp2_with fail
      go_ret
      exact ⟨rfl, HB2.out.trans (hb3.mono (by omega))⟩
    have ess : (s == s') = false := by simp [hss]
    by_cases hs0 : s' = 0
    · have HG : Hid (pB (Gt (rkN xs) (tmOf s v k) (tmOf s' v' k')) = pB (Reach (rkN xs) (ftm k) (tmOf s' v' k'))) := by
        rw [← HTK.out]
        exact pB_congr (gt_behind (by rw [HTS.out, HTS'.out]; exact hss) (.inl (by rw [HTS'.out]; exact hs0)))
      have es0 : (s' != 0) = false := by simp [hs0]
      clear hss hs0
      go_enter Tryz.func21, Tryz.ntmps21
      go_wp2_with fail
      with_reducible refine (signOf_any HN.out).mono ?_
      rintro e w1 ⟨rfl, hb1⟩
      have hs1 := hb1.size
      have HN1 := Lib.hid (HN.out.next hb1)
      have HN1' := Lib.hid (HN'.out.next hb1)
      have HR1 := Lib.hid ((HR.out.below hb1).mono (Nat.le_refl _) hs1)
      have HB1 := Lib.hid hb1
      clear hb1
      go_wp2_with fail
      with_reducible refine (signOf_any HN1'.out).mono ?_
      rintro e w2 ⟨rfl, hb2⟩
      have hs2 := hb2.size
      have HN2 := Lib.hid (HN1.out.next hb2)
      have HN2' := Lib.hid (HN1'.out.next hb2)
      have HR2 := Lib.hid ((HR1.out.below hb2).mono (Nat.le_refl _) hs2)
      have HB2 := Lib.hid (HB1.out.trans (hb2.mono hs1))
      clear hb2
      go_wp2_with fail
      with_reducible refine (kidsOfC_any HN2.out).mono ?_
      rintro e w3 ⟨a3, c3, rfl, hb3, hk3⟩
      have hs3 := hb3.size
      have HK3 := Lib.hid (hk3.next hb3)
      have HN3' := Lib.hid (HN2'.out.next hb3)
      have HR3 := Lib.hid ((HR2.out.below hb3).mono (Nat.le_refl _) hs3)
      have HB3 := Lib.hid (HB2.out.trans (hb3.mono (by omega)))
      clear hb3 hk3
      go_wp2_with fail
      with_reducible refine (anyReaches_any HH.out HN3'.out HK3.out HR3.out (by omega)).mono ?_
      rintro e w4 ⟨rfl, hb4⟩
      go_wp2_with fail
      go_ret
      exact ⟨by rw [HG.out]; rfl, HB3.out.trans (hb4.mono (by omega))⟩
    have es0 : (s' != 0) = true := by simp [hs0]
    have hsr' := shape_sign HSH'.out hs0
    have HX := Lib.hid (rk_mem HRK.out hsr.1 hsr.2)
    have HY := Lib.hid (rk_mem HRK.out hsr'.1 hsr'.2)
    have H4 := Lib.hid (rk_len HRK.out)
    cases hbf : decide (rkN xs s < rkN xs s') with
    | true =>
      have HG : Hid (pB (Gt (rkN xs) (tmOf s v k) (tmOf s' v' k')) = pB (All (rkN xs) (tmOf s v k) (ftm k'))) := by
        rw [← HTK'.out]
        exact pB_congr (gt_before (by rw [HTS.out]; exact HS.out) (by rw [HTS'.out]; exact hs0) (by rw [HTS.out, HTS'.out]; exact hss) (by rw [HTS.out, HTS'.out]; exact of_decide_eq_true hbf))
      have HBF := Lib.hid hbf
      clear hss hs0 hbf
      go_enter Tryz.func21, Tryz.ntmps21
      go_wp2_with fail
      with_reducible refine (signOf_any HN.out).mono ?_
      rintro e w1 ⟨rfl, hb1⟩
      have hs1 := hb1.size
      have HN1 := Lib.hid (HN.out.next hb1)
      have HN1' := Lib.hid (HN'.out.next hb1)
      have HR1 := Lib.hid ((HR.out.below hb1).mono (Nat.le_refl _) hs1)
      have HB1 := Lib.hid hb1
      clear hb1
      go_wp2_with fail
      with_reducible refine (signOf_any HN1'.out).mono ?_
      rintro e w2 ⟨rfl, hb2⟩
      have hs2 := hb2.size
      have HN2 := Lib.hid (HN1.out.next hb2)
      have HN2' := Lib.hid (HN1'.out.next hb2)
      have HR2 := Lib.hid ((HR1.out.below hb2).mono (Nat.le_refl _) hs2)
      have HB2 := Lib.hid (HB1.out.trans (hb2.mono hs1))
      clear hb2
      go_wp2_with fail
      with_reducible refine (before_any xs rA rC s s' _ HR2.out H4.out HX.out HY.out).mono ?_
      rw [HBF.out]
      rintro e w2' ⟨rfl, rfl⟩
      go_wp2_with fail
      with_reducible refine (kidsOfC_any HN2'.out).mono ?_
      rintro e w3 ⟨a3, c3, rfl, hb3, hk3⟩
      have hs3 := hb3.size
      have HK3 := Lib.hid (hk3.next hb3)
      have HN3 := Lib.hid (HN2.out.next hb3)
      have HR3 := Lib.hid ((HR2.out.below hb3).mono (Nat.le_refl _) hs3)
      have HB3 := Lib.hid (HB2.out.trans (hb3.mono (by omega)))
      clear hb3 hk3
      go_wp2_with fail
      with_reducible refine (moreThanAll_any HH.out HN3.out HK3.out HR3.out (by omega)).mono ?_
      rintro e w4 ⟨rfl, hb4⟩
      go_wp2_with fail
      go_ret
      exact ⟨by rw [HG.out]; rfl, HB3.out.trans (hb4.mono (by omega))⟩
    | false =>
      have HG : Hid (pB (Gt (rkN xs) (tmOf s v k) (tmOf s' v' k')) = pB (Reach (rkN xs) (ftm k) (tmOf s' v' k'))) := by
        rw [← HTK.out]
        exact pB_congr (gt_behind (by rw [HTS.out, HTS'.out]; exact hss) (.inr (by rw [HTS.out, HTS'.out]; exact of_decide_eq_false hbf)))
      have HBF := Lib.hid hbf
      clear hss hs0 hbf
      go_enter Tryz.func21, Tryz.ntmps21
      go_wp2_with fail
      with_reducible refine (signOf_any HN.out).mono ?_
      rintro e w1 ⟨rfl, hb1⟩
      have hs1 := hb1.size
      have HN1 := Lib.hid (HN.out.next hb1)
      have HN1' := Lib.hid (HN'.out.next hb1)
      have HR1 := Lib.hid ((HR.out.below hb1).mono (Nat.le_refl _) hs1)
      have HB1 := Lib.hid hb1
      clear hb1
      go_wp2_with fail
      with_reducible refine (signOf_any HN1'.out).mono ?_
      rintro e w2 ⟨rfl, hb2⟩
      have hs2 := hb2.size
      have HN2 := Lib.hid (HN1.out.next hb2)
      have HN2' := Lib.hid (HN1'.out.next hb2)
      have HR2 := Lib.hid ((HR1.out.below hb2).mono (Nat.le_refl _) hs2)
      have HB2 := Lib.hid (HB1.out.trans (hb2.mono hs1))
      clear hb2
      go_wp2_with fail
      with_reducible refine (before_any xs rA rC s s' _ HR2.out H4.out HX.out HY.out).mono ?_
      rw [HBF.out]
      rintro e w2' ⟨rfl, rfl⟩
      go_wp2_with fail
      with_reducible refine (kidsOfC_any HN2.out).mono ?_
      rintro e w3 ⟨a3, c3, rfl, hb3, hk3⟩
      have hs3 := hb3.size
      have HK3 := Lib.hid (hk3.next hb3)
      have HN3' := Lib.hid (HN2'.out.next hb3)
      have HR3 := Lib.hid ((HR2.out.below hb3).mono (Nat.le_refl _) hs3)
      have HB3 := Lib.hid (HB2.out.trans (hb3.mono (by omega)))
      clear hb3 hk3
      go_wp2_with fail
      with_reducible refine (anyReaches_any HH.out HN3'.out HK3.out HR3.out (by omega)).mono ?_
      rintro e w4 ⟨rfl, hb4⟩
      go_wp2_with fail
      go_ret
      exact ⟨by rw [HG.out]; rfl, HB3.out.trans (hb4.mono (by omega))⟩
end Go.Proofs.YtiinmlagcbjloaaGreat

/-! SHo: The contract of slices.Contains at this program. -/
namespace Go.Proofs
open Go.Shelf
def Tryz.lays107_ren : Go.Shelf.Ren := ⟨fun | 107 => 37 | 108 => 53 | n => n, fun | 28 => 23 | 3 => 3 | 4 => 4 | 0 => 0 | n => n, fun | n => n⟩
theorem Tryz.lays107 : Go.Proofs.Lays.n107 Tryz.prog Tryz.lays107_ren := {
  mixed := by kernel_rfl
  f107 := Tryz.func37.trans (congrArg some (by kernel_rfl))
  f108 := Tryz.func53.trans (congrArg some (by kernel_rfl))
  t0 := Tryz.underlying0
  a0 := Tryz.isAgg0
  z0 := Tryz.sizeOf0
  v0 := Tryz.zeroValue0
  t3 := Tryz.underlying3
  a3 := Tryz.isAgg3
  z3 := Tryz.sizeOf3
  v3 := Tryz.zeroValue3
  t4 := Tryz.underlying4
  a4 := Tryz.isAgg4
  z4 := Tryz.sizeOf4
  v4 := Tryz.zeroValue4
  t28 := Tryz.underlying23
  a28 := Tryz.isAgg23
  z28 := Tryz.sizeOf23
  v28 := Tryz.zeroValue23 }
end Go.Proofs

/-! OK1: - rankingOf and OrderOk of the program; OrderOk of the specification. -/
namespace Go.Proofs.YtiinmlagcbjloaaGreat
open Go.RowKit Go.Deep

theorem contains_any (xs : List Int) (A : Option Addr) (C : Nat) (x : Int) (w : World) (h : ISl w 0 w.heap.size A xs) (hx : xs.length ≤ 9223372036854775807) :
    Calls Tryz.prog 37 #[.slice A xs.length C, .int .i64 x] w fun e w' => e = .returned (.bool (xs.contains x)) ∧ w' = w := by
  rcases h with rfl | ⟨b, o, rfl, _, _, hc⟩
  · exact Any.slices_Contains_int_empty Tryz.lays107 A C x w
  · have := Any.slices_Contains_int Tryz.lays107 b o xs.length C xs x w (Nat.le_refl _) hx (fun j hj => by rw [getD_of hj]; exact hc j _ (List.getElem?_eq_getElem hj))
    rw [List.take_length] at this
    exact this

def RkPost (xs : List Int) (A : Option Addr) (C : Nat) (w : World) (e : Ending) (w' : World) : Prop :=
  ∃ val, e = .returned (.tuple #[val, .bool (rkOk xs)]) ∧ (rkOk xs = true → val = .slice A xs.length C) ∧ w' = w

set_option maxRecDepth 100000 in
set_option maxHeartbeats 1000000 in
theorem rankingOf_any (xs : List Int) (A : Option Addr) (C : Nat) (w : World) (h : ISl w 0 w.heap.size A xs) :
    Calls Tryz.prog 19 #[.slice A xs.length C] w (RkPost xs A C w) := by
  by_cases h4 : xs.length = 4
  · have HI := Lib.hid h
    have e4 : ((xs.length : Int) != 4) = false := by simp [h4]
    have H4 := Lib.hid h4
    clear h h4
    go_enter Tryz.func19, Tryz.ntmps19
    go_wp2_with fail
    go_loopw [4] (fun i wr => ∃ j : Int, i = .int .i64 j ∧ 1 ≤ j ∧ j ≤ 5 ∧ Hid (RkTo xs j) ∧ wr = w) (fun i _ => (5 - intOf i).toNat)
    case atStart => exact ⟨1, rfl, by omega, by omega, fun q h1 h2 => by omega, rfl⟩
    case round =>
      obtain ⟨j, rfl, hj1, hj5, hto, rfl⟩ := hrel
      by_cases hlt : j ≤ 4
      · cases hcb : xs.contains j with
        | true =>
          have HN : Hid (RkTo xs (j + 1)) := hto.out.next hcb
          have HCB := Lib.hid hcb
          clear hcb hto
          go_wp2_with fail
          with_reducible refine (contains_any xs A C j _ HI.out (by have := H4.out; omega)).mono ?_
          rw [HCB.out]
          rintro e w2 ⟨rfl, rfl⟩
          go_wp2_with fail
          go_roundw
          case rel => exact ⟨j + 1, by go_num, by omega, by omega, HN, by first | trivial | rfl⟩
          case measure => simp [intOf]; omega
        | false =>
          have HN : Hid (RkPost xs A C wr (.returned (.tuple #[.slice none 0 0, .bool false])) wr) := by
            have hm := rk_miss hj1 hlt hcb
            exact ⟨_, by rw [hm], fun h => (by rw [hm] at h; cases h), rfl⟩
          have HCB := Lib.hid hcb
          clear hcb hto
          go_wp2_with fail
          with_reducible refine (contains_any xs A C j _ HI.out (by have := H4.out; omega)).mono ?_
          rw [HCB.out]
          rintro e w2 ⟨rfl, rfl⟩
          go_wp2_with fail
          go_ret2
          exact HN.out
      · have hj : j = 5 := by omega
        subst hj
        have HN : Hid (RkPost xs A C wr (.returned (.tuple #[.slice A xs.length C, .bool true])) wr) := ⟨_, by rw [rk_all H4.out hto.out], fun _ => rfl, rfl⟩
        clear hto
        go_wp2_with fail
        go_ret2
        exact HN.out
  · have e4 : ((xs.length : Int) != 4) = true := by simp; omega
    have HN : Hid (RkPost xs A C w (.returned (.tuple #[.slice none 0 0, .bool false])) w) := ⟨_, by rw [rk_no h4], fun h => (by rw [rk_no h4] at h; cases h), rfl⟩
    clear h h4
    go_enter Tryz.func19, Tryz.ntmps19
    go_wp2_with fail
    go_ret2
    exact HN.out

end Go.Proofs.YtiinmlagcbjloaaGreat

/-! G6: OrderMore of the program. -/
namespace Go.Proofs.YtiinmlagcbjloaaGreat
open Go.RowKit Go.Deep

/-- What OrderMore answers. -/
noncomputable def moreR (xs : List Int) (s v : Int) (k : Fo) (s' v' : Int) (k' : Fo) : Bool := rkOk xs && (okW s v k 16 && (okW s' v' k' 16 && pB (Gt (rkN xs) (tmOf s v k) (tmOf s' v' k'))))

theorem nd_ok {w : World} {val : Value} {s v : Int} {k : Fo} (h : okW s v k 16 = true) (hn : NodeC w 0 w.heap.size val s v k) : Nd w val s v k := by
  have := (okW_iff _ _ _ _).1 h
  exact ⟨hn, this.1, this.2.1, by omega⟩
theorem more_at {xs : List Int} {rA : Option Addr} {rC : Nat} (hrk : rkOk xs = true) {s v : Int} {k : Fo} {val : Value} {s' v' : Int} {k' : Fo} {val' : Value} {w : World} (h : Nd w val s v k) (h' : Nd w val' s' v' k') (hr : ISl w 0 w.heap.size rA xs) :
    Calls Tryz.prog 21 #[.slice rA xs.length rC, val, val'] w fun e w' => e = .returned (.bool (pB (Gt (rkN xs) (tmOf s v k) (tmOf s' v' k')))) ∧ Below w.heap.size w w' := by
  have h0 : MoreTo xs rA rC (fsz k + fsz k' + 1) := more_any hrk _
  unfold MoreTo at h0
  exact h0 h h' hr (by omega)
theorem two_box {w w2 : World} {o : Obj} {x y z : Value} {T : TypeId} (hb : Below ((w.alloc o).alloc (.cells #[x, y, z] T)).heap.size ((w.alloc o).alloc (.cells #[x, y, z] T)) w2) :
    w2.cell? ⟨w.heap.size + 1, 0, none⟩ = some x ∧ w2.cell? ⟨w.heap.size + 1, 1, none⟩ = some y ∧ w2.cell? ⟨w.heap.size + 1, 2, none⟩ = some z := by
  refine ⟨?_, ?_, ?_⟩
  all_goals
    rw [hb.cell (by simp), World.cell?_alloc_at _ _ _ _ (by simp)]
    rfl

set_option maxRecDepth 100000 in
set_option maxHeartbeats 2000000 in
theorem iOrderMore_any (xs : List Int) (A : Option Addr) (C : Nat) (s v : Int) (a : Option Addr) (c : Nat) (k : Fo) (s' v' : Int) (a' : Option Addr) (c' : Nat) (k' : Fo) (w : World) (hr : ISl w 0 w.heap.size A xs) (hl : Sl w 0 w.heap.size a k) (hl' : Sl w 0 w.heap.size a' k') :
    Calls Tryz.prog 5 #[.slice A xs.length C, .agg #[.int .i64 s, .int .i64 v, .slice a (flen k) c], .agg #[.int .i64 s', .int .i64 v', .slice a' (flen k') c']] w fun e w' => e = .returned (.bool (moreR xs s v k s' v' k')) ∧ Below w.heap.size w w' := by
  have hb0 : Below w.heap.size w ((w.alloc (.cells #[.int .i64 s, .int .i64 v, .slice a (flen k) c] 26)).alloc (.cells #[.int .i64 s', .int .i64 v', .slice a' (flen k') c'] 26)) := ((Below.refl _ _).alloc (Nat.le_refl _) _).alloc (by simp) _
  have HB0 := Lib.hid hb0
  have HR0 := Lib.hid ((hr.below hb0).mono (Nat.le_refl _) hb0.size)
  have HL0 := Lib.hid ((hl.below hb0).mono (Nat.le_refl _) hb0.size)
  have HM0 := Lib.hid ((hl'.below hb0).mono (Nat.le_refl _) hb0.size)
  clear hb0 hr hl hl'
  cases hrk : rkOk xs <;> cases hok : okW s v k 16 <;> cases hok' : okW s' v' k' 16
  · have HRK := Lib.hid hrk
    have HOK := Lib.hid hok
    have HOK' := Lib.hid hok'
    have HE : Hid (moreR xs s v k s' v' k' = false) := by unfold Hid moreR; rw [hrk, hok, hok']; simp
    clear hrk hok hok'
    go_enter Tryz.func5, Tryz.ntmps5
    go_wp2_with fail
    with_reducible refine (rankingOf_any xs A C _ HR0.out).mono ?_
    rintro e w1 ⟨rv, rfl, hrv, rfl⟩
    rw [HRK.out]
    clear hrv
    go_wp2_with fail
    with_reducible refine (nodeOf_anyC s v a c k 16 _ HL0.out (by omega) (by omega)).mono ?_
    rintro e w2 ⟨nv, rfl, hb2, hyes⟩
    rw [HOK.out]
    have hs2 := hb2.size
    obtain ⟨hq0, hq1, hq2⟩ := two_box hb2
    have HY := Lib.hid hyes
    have HB2 := Lib.hid (HB0.out.trans (hb2.mono (by simp; omega)))
    have HR2 := Lib.hid ((HR0.out.below hb2).mono (Nat.le_refl _) hs2)
    have HM2 := Lib.hid ((HM0.out.below hb2).mono (Nat.le_refl _) hs2)
    clear hb2 hyes
    go_wp2_with fail
    with_reducible refine (nodeOf_anyC s' v' a' c' k' 16 _ HM2.out (by omega) (by omega)).mono ?_
    rintro e w3 ⟨nv', rfl, hb3, hyes'⟩
    rw [HOK'.out]
    have hs3 := hb3.size
    have HY' := Lib.hid hyes'
    have HB3 := Lib.hid (HB2.out.trans (hb3.mono (by have := HB2.out.size; omega)))
    clear hb3 hyes' hq0 hq1 hq2
    go_wp2_with fail
    go_ret
    exact ⟨by rw [HE.out]; rfl, HB3.out⟩
  · have HRK := Lib.hid hrk
    have HOK := Lib.hid hok
    have HOK' := Lib.hid hok'
    have HE : Hid (moreR xs s v k s' v' k' = false) := by unfold Hid moreR; rw [hrk, hok, hok']; simp
    clear hrk hok hok'
    go_enter Tryz.func5, Tryz.ntmps5
    go_wp2_with fail
    with_reducible refine (rankingOf_any xs A C _ HR0.out).mono ?_
    rintro e w1 ⟨rv, rfl, hrv, rfl⟩
    rw [HRK.out]
    clear hrv
    go_wp2_with fail
    with_reducible refine (nodeOf_anyC s v a c k 16 _ HL0.out (by omega) (by omega)).mono ?_
    rintro e w2 ⟨nv, rfl, hb2, hyes⟩
    rw [HOK.out]
    have hs2 := hb2.size
    obtain ⟨hq0, hq1, hq2⟩ := two_box hb2
    have HY := Lib.hid hyes
    have HB2 := Lib.hid (HB0.out.trans (hb2.mono (by simp; omega)))
    have HR2 := Lib.hid ((HR0.out.below hb2).mono (Nat.le_refl _) hs2)
    have HM2 := Lib.hid ((HM0.out.below hb2).mono (Nat.le_refl _) hs2)
    clear hb2 hyes
    go_wp2_with fail
    with_reducible refine (nodeOf_anyC s' v' a' c' k' 16 _ HM2.out (by omega) (by omega)).mono ?_
    rintro e w3 ⟨nv', rfl, hb3, hyes'⟩
    rw [HOK'.out]
    have hs3 := hb3.size
    have HY' := Lib.hid hyes'
    have HB3 := Lib.hid (HB2.out.trans (hb3.mono (by have := HB2.out.size; omega)))
    clear hb3 hyes' hq0 hq1 hq2
    go_wp2_with fail
    go_ret
    exact ⟨by rw [HE.out]; rfl, HB3.out⟩
  · have HRK := Lib.hid hrk
    have HOK := Lib.hid hok
    have HOK' := Lib.hid hok'
    have HE : Hid (moreR xs s v k s' v' k' = false) := by unfold Hid moreR; rw [hrk, hok, hok']; simp
    clear hrk hok hok'
    go_enter Tryz.func5, Tryz.ntmps5
    go_wp2_with fail
    with_reducible refine (rankingOf_any xs A C _ HR0.out).mono ?_
    rintro e w1 ⟨rv, rfl, hrv, rfl⟩
    rw [HRK.out]
    clear hrv
    go_wp2_with fail
    with_reducible refine (nodeOf_anyC s v a c k 16 _ HL0.out (by omega) (by omega)).mono ?_
    rintro e w2 ⟨nv, rfl, hb2, hyes⟩
    rw [HOK.out]
    have hs2 := hb2.size
    obtain ⟨hq0, hq1, hq2⟩ := two_box hb2
    have HY := Lib.hid hyes
    have HB2 := Lib.hid (HB0.out.trans (hb2.mono (by simp; omega)))
    have HR2 := Lib.hid ((HR0.out.below hb2).mono (Nat.le_refl _) hs2)
    have HM2 := Lib.hid ((HM0.out.below hb2).mono (Nat.le_refl _) hs2)
    clear hb2 hyes
    go_wp2_with fail
    with_reducible refine (nodeOf_anyC s' v' a' c' k' 16 _ HM2.out (by omega) (by omega)).mono ?_
    rintro e w3 ⟨nv', rfl, hb3, hyes'⟩
    rw [HOK'.out]
    have hs3 := hb3.size
    have HY' := Lib.hid hyes'
    have HB3 := Lib.hid (HB2.out.trans (hb3.mono (by have := HB2.out.size; omega)))
    clear hb3 hyes' hq0 hq1 hq2
    go_wp2_with fail
    go_ret
    exact ⟨by rw [HE.out]; rfl, HB3.out⟩
  · have HRK := Lib.hid hrk
    have HOK := Lib.hid hok
    have HOK' := Lib.hid hok'
    have HE : Hid (moreR xs s v k s' v' k' = false) := by unfold Hid moreR; rw [hrk, hok, hok']; simp
    clear hrk hok hok'
    go_enter Tryz.func5, Tryz.ntmps5
    go_wp2_with fail
    with_reducible refine (rankingOf_any xs A C _ HR0.out).mono ?_
    rintro e w1 ⟨rv, rfl, hrv, rfl⟩
    rw [HRK.out]
    clear hrv
    go_wp2_with fail
    with_reducible refine (nodeOf_anyC s v a c k 16 _ HL0.out (by omega) (by omega)).mono ?_
    rintro e w2 ⟨nv, rfl, hb2, hyes⟩
    rw [HOK.out]
    have hs2 := hb2.size
    obtain ⟨hq0, hq1, hq2⟩ := two_box hb2
    have HY := Lib.hid hyes
    have HB2 := Lib.hid (HB0.out.trans (hb2.mono (by simp; omega)))
    have HR2 := Lib.hid ((HR0.out.below hb2).mono (Nat.le_refl _) hs2)
    have HM2 := Lib.hid ((HM0.out.below hb2).mono (Nat.le_refl _) hs2)
    clear hb2 hyes
    go_wp2_with fail
    with_reducible refine (nodeOf_anyC s' v' a' c' k' 16 _ HM2.out (by omega) (by omega)).mono ?_
    rintro e w3 ⟨nv', rfl, hb3, hyes'⟩
    rw [HOK'.out]
    have hs3 := hb3.size
    have HY' := Lib.hid hyes'
    have HB3 := Lib.hid (HB2.out.trans (hb3.mono (by have := HB2.out.size; omega)))
    clear hb3 hyes' hq0 hq1 hq2
    go_wp2_with fail
    go_ret
    exact ⟨by rw [HE.out]; rfl, HB3.out⟩
  · have HRK := Lib.hid hrk
    have HOK := Lib.hid hok
    have HOK' := Lib.hid hok'
    have HE : Hid (moreR xs s v k s' v' k' = false) := by unfold Hid moreR; rw [hrk, hok, hok']; simp
    clear hrk hok hok'
    go_enter Tryz.func5, Tryz.ntmps5
    go_wp2_with fail
    with_reducible refine (rankingOf_any xs A C _ HR0.out).mono ?_
    rintro e w1 ⟨rv, rfl, hrv, rfl⟩
    rw [HRK.out]
    obtain rfl := hrv HRK.out
    go_wp2_with fail
    with_reducible refine (nodeOf_anyC s v a c k 16 _ HL0.out (by omega) (by omega)).mono ?_
    rintro e w2 ⟨nv, rfl, hb2, hyes⟩
    rw [HOK.out]
    have hs2 := hb2.size
    obtain ⟨hq0, hq1, hq2⟩ := two_box hb2
    have HY := Lib.hid hyes
    have HB2 := Lib.hid (HB0.out.trans (hb2.mono (by simp; omega)))
    have HR2 := Lib.hid ((HR0.out.below hb2).mono (Nat.le_refl _) hs2)
    have HM2 := Lib.hid ((HM0.out.below hb2).mono (Nat.le_refl _) hs2)
    clear hb2 hyes
    go_wp2_with fail
    with_reducible refine (nodeOf_anyC s' v' a' c' k' 16 _ HM2.out (by omega) (by omega)).mono ?_
    rintro e w3 ⟨nv', rfl, hb3, hyes'⟩
    rw [HOK'.out]
    have hs3 := hb3.size
    have HY' := Lib.hid hyes'
    have HB3 := Lib.hid (HB2.out.trans (hb3.mono (by have := HB2.out.size; omega)))
    clear hb3 hyes' hq0 hq1 hq2
    go_wp2_with fail
    go_ret
    exact ⟨by rw [HE.out]; rfl, HB3.out⟩
  · have HRK := Lib.hid hrk
    have HOK := Lib.hid hok
    have HOK' := Lib.hid hok'
    have HE : Hid (moreR xs s v k s' v' k' = false) := by unfold Hid moreR; rw [hrk, hok, hok']; simp
    clear hrk hok hok'
    go_enter Tryz.func5, Tryz.ntmps5
    go_wp2_with fail
    with_reducible refine (rankingOf_any xs A C _ HR0.out).mono ?_
    rintro e w1 ⟨rv, rfl, hrv, rfl⟩
    rw [HRK.out]
    obtain rfl := hrv HRK.out
    go_wp2_with fail
    with_reducible refine (nodeOf_anyC s v a c k 16 _ HL0.out (by omega) (by omega)).mono ?_
    rintro e w2 ⟨nv, rfl, hb2, hyes⟩
    rw [HOK.out]
    have hs2 := hb2.size
    obtain ⟨hq0, hq1, hq2⟩ := two_box hb2
    have HY := Lib.hid hyes
    have HB2 := Lib.hid (HB0.out.trans (hb2.mono (by simp; omega)))
    have HR2 := Lib.hid ((HR0.out.below hb2).mono (Nat.le_refl _) hs2)
    have HM2 := Lib.hid ((HM0.out.below hb2).mono (Nat.le_refl _) hs2)
    clear hb2 hyes
    go_wp2_with fail
    with_reducible refine (nodeOf_anyC s' v' a' c' k' 16 _ HM2.out (by omega) (by omega)).mono ?_
    rintro e w3 ⟨nv', rfl, hb3, hyes'⟩
    rw [HOK'.out]
    have hs3 := hb3.size
    have HY' := Lib.hid hyes'
    have HB3 := Lib.hid (HB2.out.trans (hb3.mono (by have := HB2.out.size; omega)))
    clear hb3 hyes' hq0 hq1 hq2
    go_wp2_with fail
    go_ret
    exact ⟨by rw [HE.out]; rfl, HB3.out⟩
  · have HRK := Lib.hid hrk
    have HOK := Lib.hid hok
    have HOK' := Lib.hid hok'
    have HE : Hid (moreR xs s v k s' v' k' = false) := by unfold Hid moreR; rw [hrk, hok, hok']; simp
    clear hrk hok hok'
    go_enter Tryz.func5, Tryz.ntmps5
    go_wp2_with fail
    with_reducible refine (rankingOf_any xs A C _ HR0.out).mono ?_
    rintro e w1 ⟨rv, rfl, hrv, rfl⟩
    rw [HRK.out]
    obtain rfl := hrv HRK.out
    go_wp2_with fail
    with_reducible refine (nodeOf_anyC s v a c k 16 _ HL0.out (by omega) (by omega)).mono ?_
    rintro e w2 ⟨nv, rfl, hb2, hyes⟩
    rw [HOK.out]
    have hs2 := hb2.size
    obtain ⟨hq0, hq1, hq2⟩ := two_box hb2
    have HY := Lib.hid hyes
    have HB2 := Lib.hid (HB0.out.trans (hb2.mono (by simp; omega)))
    have HR2 := Lib.hid ((HR0.out.below hb2).mono (Nat.le_refl _) hs2)
    have HM2 := Lib.hid ((HM0.out.below hb2).mono (Nat.le_refl _) hs2)
    clear hb2 hyes
    go_wp2_with fail
    with_reducible refine (nodeOf_anyC s' v' a' c' k' 16 _ HM2.out (by omega) (by omega)).mono ?_
    rintro e w3 ⟨nv', rfl, hb3, hyes'⟩
    rw [HOK'.out]
    have hs3 := hb3.size
    have HY' := Lib.hid hyes'
    have HB3 := Lib.hid (HB2.out.trans (hb3.mono (by have := HB2.out.size; omega)))
    clear hb3 hyes' hq0 hq1 hq2
    go_wp2_with fail
    go_ret
    exact ⟨by rw [HE.out]; rfl, HB3.out⟩
  · have HRK := Lib.hid hrk
    have HOK := Lib.hid hok
    have HOK' := Lib.hid hok'
    have HE : Hid (moreR xs s v k s' v' k' = pB (Gt (rkN xs) (tmOf s v k) (tmOf s' v' k'))) := by unfold Hid moreR; rw [hrk, hok, hok']; simp
    clear hrk hok hok'
    go_enter Tryz.func5, Tryz.ntmps5
    go_wp2_with fail
    with_reducible refine (rankingOf_any xs A C _ HR0.out).mono ?_
    rintro e w1 ⟨rv, rfl, hrv, rfl⟩
    rw [HRK.out]
    obtain rfl := hrv HRK.out
    go_wp2_with fail
    with_reducible refine (nodeOf_anyC s v a c k 16 _ HL0.out (by omega) (by omega)).mono ?_
    rintro e w2 ⟨nv, rfl, hb2, hyes⟩
    rw [HOK.out]
    have hs2 := hb2.size
    obtain ⟨hq0, hq1, hq2⟩ := two_box hb2
    have HY := Lib.hid hyes
    have HB2 := Lib.hid (HB0.out.trans (hb2.mono (by simp; omega)))
    have HR2 := Lib.hid ((HR0.out.below hb2).mono (Nat.le_refl _) hs2)
    have HM2 := Lib.hid ((HM0.out.below hb2).mono (Nat.le_refl _) hs2)
    clear hb2 hyes
    go_wp2_with fail
    with_reducible refine (nodeOf_anyC s' v' a' c' k' 16 _ HM2.out (by omega) (by omega)).mono ?_
    rintro e w3 ⟨nv', rfl, hb3, hyes'⟩
    rw [HOK'.out]
    have hs3 := hb3.size
    have HY' := Lib.hid hyes'
    have HB3 := Lib.hid (HB2.out.trans (hb3.mono (by have := HB2.out.size; omega)))
    have HN3 := Lib.hid (nd_ok HOK.out (((HY.out HOK.out).below hb3).mono (Nat.zero_le _) hs3))
    have HN3' := Lib.hid (nd_ok HOK'.out ((HY'.out HOK'.out).mono (Nat.zero_le _) (Nat.le_refl _)))
    have HR3 := Lib.hid ((HR2.out.below hb3).mono (Nat.le_refl _) hs3)
    clear hb3 hyes' hq0 hq1 hq2
    go_wp2_with fail
    with_reducible refine (more_at (rC := C) HRK.out HN3.out HN3'.out HR3.out).mono ?_
    rintro e w4 ⟨rfl, hb4⟩
    go_wp2_with fail
    go_ret
    exact ⟨by rw [HE.out]; rfl, HB3.out.trans (hb4.mono HB3.out.size)⟩
end Go.Proofs.YtiinmlagcbjloaaGreat
