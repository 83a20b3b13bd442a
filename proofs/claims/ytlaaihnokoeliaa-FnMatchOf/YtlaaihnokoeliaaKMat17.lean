/- Several texts in one: SP3, SP4. -/
import Derived.Test.YtlaaihnokoeliaaKMat13
import Derived.Test.YtlaaihnokoeliaaKMat10
import Derived.Test.YtlaaihnokoeliaaKMat14

/-! SP3: The specification's l2Put: what variables stand for put in. -/
namespace Go.Proofs.Ytlaaihnokoeliaa
open Go.RowKit Go.Deep
attribute [local go_sem ↓] Go.wp_at_zero Go.wp_at_succ

theorem cpS_start (σ : Int → Option (Int × Int × Fo)) (w : World) (s : Int) (a : Option Addr) (c : Nat) (k : Fo) : CpAt w s 0 a c (fsub σ k) 0 none 0 (((w.alloc (.cells #[.int .i64 s, .int .i64 0, .slice a (flen k) c] 25)).alloc (.cells #[.int .i64 0, .int .i64 0, .slice none 0 0] 25)).alloc (.cells #[.int .i64 s, .int .i64 0, .slice none 0 0] 25)) := by
  have h := CpAt.start w s 0 a c (fsub σ k)
  rw [fsub_len] at h
  exact h

theorem put_end0 {w w1 w2 : World} {s' v' : Int} {k' : Fo} {a : Option Addr} {c : Nat} {Y Z : Obj} (hb1 : Below ((w.alloc Y).alloc Z).heap.size ((w.alloc Y).alloc Z) w1) (hb : Below w1.heap.size w1 w2) (ho : Own w2 w1.heap.size k' (flen k') a c) (p q r : Value) :
    CopyPost s' v' k' w (.returned (.agg #[.int .i64 s', .int .i64 v', .slice a (flen k') c])) (((w2.setCell ⟨w.heap.size + 1, 0, none⟩ p).setCell ⟨w.heap.size + 1, 1, none⟩ q).setCell ⟨w.heap.size + 1, 2, none⟩ r) := by
  have h1 := hb1.size
  simp at h1
  have h2 := hb.size
  have hb2 : Below w.heap.size w w2 := ((((Below.refl _ _).alloc (Nat.le_refl _) Y).alloc (by simp) Z).trans (hb1.mono (by simp; omega))).trans (hb.mono (by omega))
  refine ⟨a, c, rfl, ((hb2.setCell (by simp) _).setCell (by simp) _).setCell (by simp) _, ?_⟩
  exact (((ho.store (by simp; omega) p).store (by simp; omega) q).store (by simp; omega) r).low (Below.refl _ _) (by omega)

set_option maxRecDepth 100000 in
set_option maxHeartbeats 1000000 in
theorem l2Put_any (bs : List Bd) (A0 : Option Addr) (C0 : Nat) (hbl : bs.length ≤ 9223372036854775807) (hbz : ∀ x t, sv bs x = some t → fsz t.2.2 ≤ 1000000) (N : Nat) : ∀ (s v : Int) (a : Option Addr) (c : Nat) (k : Fo) (w : World), BSl w 0 w.heap.size A0 bs → Sl w 0 w.heap.size a k → okN s v (flen k) = true → fok k = true → fsz k ≤ N → N ≤ 1000 →
    Calls Try.prog 35 #[.slice A0 bs.length C0, .agg #[.int .i64 s, .int .i64 v, .slice a (flen k) c]] w (CopyPost (tsub (sv bs) s v k).1 (tsub (sv bs) s v k).2.1 (tsub (sv bs) s v k).2.2 w) := by
  induction N using Nat.strongRecOn with
  | _ N ih =>
    intro s v a c k w hbs hl hok hfk hN hN2
    have hfl := flen_le_sz k
    have IH := Lib.hid ih
    have HFK := Lib.hid hfk
    have HBS := Lib.hid hbs
    have HBZ := Lib.hid hbz
    clear ih hfk hbs hbz
    by_cases hs0 : s = 0
    · subst hs0
      have hk0 : k = .nil := by
        have h1 := ((okN_iff _ _ _).1 hok).1
        cases k with
        | nil => rfl
        | node _ _ _ _ r => simp [flen, ar] at h1; omega
      subst hk0
      have hb0 : Below w.heap.size w ((w.alloc (.cells #[.int .i64 0, .int .i64 v, .slice a (flen .nil) c] 25)).alloc (.cells #[.int .i64 0, .int .i64 0, .slice none 0 0] 25)) := ((Below.refl _ _).alloc (Nat.le_refl _) _).alloc (by simp) _
      have HB1 : Hid (BSl ((w.alloc (.cells #[.int .i64 0, .int .i64 v, .slice a (flen .nil) c] 25)).alloc (.cells #[.int .i64 0, .int .i64 0, .slice none 0 0] 25)) 0 ((w.alloc (.cells #[.int .i64 0, .int .i64 v, .slice a (flen .nil) c] 25)).alloc (.cells #[.int .i64 0, .int .i64 0, .slice none 0 0] 25)).heap.size A0 bs) := (HBS.out.below hb0).mono (Nat.le_refl _) hb0.size
      have HZ : Hid (fsz (tsub (sv bs) 0 v .nil).2.2 ≤ 1000000) := by
        rw [Hid, tsub, if_pos rfl]
        cases h : sv bs v with
        | none => simp [fsz]
        | some t => exact HBZ.out v t h
      clear hb0 hok hl
      go_enter Try.func35, Try.ntmps35
      go_wp2_with fail
      with_reducible refine (l2Of_any bs A0 C0 v _ HB1.out hbl).mono ?_
      rintro e w1 ⟨a1, c1, rfl, hb1, hl1⟩
      generalize tsub (sv bs) 0 v .nil = tt at *
      obtain ⟨s', v', k'⟩ := tt
      dsimp only at hl1 HZ ⊢
      have HB2 := Lib.hid hb1
      have HL1 := Lib.hid hl1
      clear hb1 hl1
      go_wp2_with fail
      with_reducible refine (l1Copy_any (fsz k') s' v' a1 c1 k' _ HL1.out (Nat.le_refl _) HZ.out).mono ?_
      rintro e w2 ⟨a2, c2, rfl, hb2, ho2⟩
      have hs1 := HB2.out.size
      simp at hs1
      have hbx := (HB2.out.mono (show w.heap.size + 2 ≤ _ by simp)).trans (hb2.mono (show w.heap.size + 2 ≤ w1.heap.size by omega))
      obtain ⟨_, _, _, hr0, hr1, hr2⟩ := tb_cellsS hbx
      obtain ⟨_, hf0⟩ := tb_freeS hbx 0 rfl rfl
      obtain ⟨_, hf1⟩ := tb_freeS hbx 1 rfl rfl
      obtain ⟨_, hf2⟩ := tb_freeS hbx 2 rfl rfl
      clear hbx
      have HE := Lib.hid (fun p q r => put_end0 (s' := s') (v' := v') (k' := k') (c := c2) HB2.out hb2 ho2 p q r)
      clear hb2 ho2
      go_wp2_with fail
      refine bodyPost_ret (v := .agg #[.int .i64 s', .int .i64 v', .slice a2 (flen k') c2]) ?_ rfl (HE.out _ _ _)
      simp [results, Try.results35, go_sem, hr0, hr1, hr2]
    have hv0 : v = 0 := ((okN_iff _ _ _).1 hok).2.2 hs0
    subst hv0
    have HTT : Hid (tsub (sv bs) s 0 k = (s, 0, fsub (sv bs) k)) := by unfold Hid tsub; rw [if_neg hs0]
    have hse : (s == 0) = false := by simpa using hs0
    have hfl2 := fsub_len (sv bs) k
    rw [HTT.out]
    dsimp only
    clear hok
    have HST := Lib.hid (cpS_start (sv bs) w s a c k)
    go_enter Try.func35, Try.ntmps35
    go_wp2_with fail
    go_loopw [6] (fun i wr => ∃ (j : Nat) (A : Option Addr) (C : Nat), j ≤ flen k ∧ i = .int .i64 j ∧ CpAt w s 0 a c (fsub (sv bs) k) j A C wr) (fun i _ => flen k - (intOf i).toNat)
    case atStart => exact ⟨0, none, 0, Nat.zero_le _, rfl, HST.out⟩
    case round =>
      clear HST
      obtain ⟨j, A, C, hj, rfl, hat⟩ := hrel
      obtain ⟨hr0, hr1, hr2, hq0, hq1, hq2, hb0⟩ := hat.res
      rw [hfl2] at hb0
      have ho0 := hat.out0
      have ho1 := hat.out1
      have ho2 := hat.out2
      have hof := hat.free
      have hsz := hat.size
      by_cases hlt : j < flen k
      · clear hr0 hr1 hr2 hq0 hq1 hq2
        rcases hl with rfl | ⟨b, o, rfl, hrow⟩
        · simp [flen] at hlt
        have hbw := hat.low
        obtain ⟨s', v', kk, a', c', ⟨x, y, hd⟩, _, hbB, hk0, hk1, hk2, hsl⟩ := row_at (hrow.below hbw) hlt
        have hkN := Lib.hid (fsz_kid hd)
        have HD := Lib.hid (fsub_at (sv bs) j k hd)
        have HKID := Lib.hid (fok_kid HFK.out hd)
        have HBR : Hid (BSl wr.drew 0 wr.drew.heap.size A0 bs) := (HBS.out.below hbw.drew).mono (Nat.le_refl _) hbw.drew.size
        have HS := Lib.hid hsl
        have HROW := Lib.hid hrow
        have HAT := Lib.hid hat
        clear hd hsl hrow hat hbw
        have g1 : (0 : Int) ≤ (j : Int) := by omega
        have g2 : (j : Int) < (flen k : Int) := by omega
        obtain ⟨ti, hti, htz, hts, htb⟩ := Try.infoTerm
        obtain ⟨xs, hown, hall⟩ := HAT.out.own
        have HTI := Lib.hid hti
        have HTZ := Lib.hid htz
        have HTS := Lib.hid hts
        have HTB := Lib.hid htb
        have HOWN := Lib.hid hown
        have HALL := Lib.hid hall
        have HLT : Hid (∀ g, (Value.slice A j C).ownBlock = some g → w.heap.size + 3 ≤ g) := fun g hg => (hown.lt g hg).1
        clear hti htz hts htb hown hall
        have hu0 : ∀ u : After (w.heap.size + 3) wr, u.world.cell? ⟨w.heap.size + 1 + 1, 2, none⟩ = some (.slice A j C) := fun u => u.cell (by simp) ho2
        have hu1 : ∀ u : After (w.heap.size + 3) wr, u.world.cell? ⟨w.heap.size, 2, none⟩ = some (.slice (some ⟨b, o, none⟩) (flen k) c) := fun u => u.cell (by simp) hb0
        have hu2 : ∀ u : After (w.heap.size + 3) wr, u.world.cell? ⟨b, o + j * 3, none⟩ = some (.int .i64 s') := fun u => u.cell (by simp; omega) hk0
        have hu3 : ∀ u : After (w.heap.size + 3) wr, u.world.cell? ⟨b, o + j * 3 + 1, none⟩ = some (.int .i64 v') := fun u => u.cell (by simp; omega) hk1
        have hu4 : ∀ u : After (w.heap.size + 3) wr, u.world.cell? ⟨b, o + j * 3 + 2, none⟩ = some (.slice a' (flen kk) c') := fun u => u.cell (by simp; omega) hk2
        go_wp2_with fail
        refine wp_region_mix (fun w' => ∃ u : After (w.heap.size + 3) wr, w' = u.world) [11, 12] [(0, 0), (1, 0), (2, 0), (3, 0), (4, 0), (5, 0), (6, 0), (7, 0), (8, 1), (9, 1), (10, 1), (11, 2), (12, 2)] (by kernel_rfl) (by kernel_rfl) ⟨⟨_, (Below.refl _ _).drew⟩, rfl⟩ ?_
        iterate 8
          refine mix_see rfl (fun K hK => ?_)
          go_simp
          refine hK _ ?_
          clear hK K
        clear hu0 hu1 hu2 hu3 hu4
        refine mix_hold rfl (fun K hK => ?_)
        go_simp
        with_reducible refine (IH.out (fsz kk) (by have := hkN.out; omega) s' v' a' c' kk _ HBR.out ?_ HKID.out.1 HKID.out.2 (Nat.le_refl _) ?_).mono ?_
        · exact (HS.out.below (Below.refl _ _).drew).mono (Nat.le_refl _) (by simp; omega)
        · have := hkN.out; omega
        generalize tsub (sv bs) s' v' kk = tt at *
        obtain ⟨s3, v3, k3⟩ := tt
        dsimp only at HD
        rintro e w2 ⟨a2, c2, rfl, hb2', hown2⟩
        dsimp only at hown2
        have hb2 : Below wr.heap.size wr w2 := bl_undrew hb2'
        have HL2 : Hid (Sl w2 wr.heap.size w2.heap.size a2 k3) := hown2.sl
        have hs2 := hb2.size
        refine hK _ _ ⟨⟨_, hb2.mono (by omega)⟩, rfl⟩ ?_
        clear hK K hb2' hown2
        refine mix_hold rfl (fun K hK => ?_)
        go_simp
        refine hK _ _ ⟨⟨_, (hb2.mono (by omega)).alloc (by omega) _⟩, rfl⟩ ?_
        clear hK K
        refine mix_hold rfl (fun K hK => ?_)
        refine step_append_lies _ (by rfl) _ _ _ (by rfl) (w.heap.size + 3) 25 ti _ 3 40 Try.underlying23 HTI.out HTZ.out HTS.out HTB.out rfl (by omega) (.slice A j C) j xs (by rfl) (own_low ((Below.refl _ _).alloc (Nat.le_refl _) _) (own_low hb2 HOWN.out)) ⟨w2.heap.size, 0, none⟩ 1 1 [.int .i64 s3, .int .i64 v3, .slice a2 (flen k3) c2] (by rfl) (by rfl) (World.news_of_block (heap_alloc_new _ _)) (by simp [Value.oneCell']) (by omega) (by unfold maxLen; omega) (by omega) (by simp; omega) (w2.heap.size + 1) (by simp) ?_
        intro g cap w3 hown3 hgrow hatg hg3
        have hlow : Below (w.heap.size + 3) wr w3 := ((hb2.mono (by omega)).alloc (by omega) _).grown hgrow (by simp; omega) HLT.out
        have hz2 : w3.cell? ⟨w.heap.size + 1 + 1, 2, none⟩ = some (.slice A j C) := by rw [hlow.cell (by simp)]; exact ho2
        have hz3 : w3.frozen? ⟨w.heap.size + 1 + 1, 2, none⟩ = false := by rw [hlow.frozen (by simp)]; exact hof
        have HSTEP := Lib.hid (HAT.out.step hb2 HL2.out HD.out HOWN.out HALL.out hown3 hgrow hatg)
        refine hK _ _ ⟨⟨_, hlow⟩, rfl⟩ ?_
        clear hK K hown3 hgrow hatg
        refine mix_late rfl (fun K hK => ?_)
        go_simp
        refine hK _ _ ?_
        clear hK K
        refine mix_late rfl (fun K hK => ?_)
        go_simp
        refine hK _ _ ?_
        clear hK K
        refine mix_end ?_
        clear hz2 hz3 hlow hb0 ho0 ho1 ho2 hof hk0 hk1 hk2
        go_wp2_with fail
        go_roundw
        case rel => exact ⟨j + 1, _, _, by omega, by go_num, HSTEP.out⟩
        case measure => simp [intOf]; omega
      · have hjk : j = flen k := by omega
        subst hjk
        have HDN : Hid (∀ x y z, CopyPost s 0 (fsub (sv bs) k) w (.returned (.agg #[.int .i64 s, .int .i64 0, .slice A (flen k) C])) (((wr.setCell ⟨w.heap.size + 1, 0, none⟩ x).setCell ⟨w.heap.size + 1, 1, none⟩ y).setCell ⟨w.heap.size + 1, 2, none⟩ z)) := fun x y z => by
          rw [← hfl2] at hat ⊢
          exact hat.done x y z
        clear hat
        go_wp2_with fail
        refine bodyPost_ret (v := .agg #[.int .i64 s, .int .i64 0, .slice A (flen k) C]) ?_ rfl (HDN.out _ _ _)
        simp [results, Try.results35, go_sem, hr0, hr1, hr2]
end Go.Proofs.Ytlaaihnokoeliaa

/-! SP4: The specification's SubstDo. -/
namespace Go.Proofs.Ytlaaihnokoeliaa
open Go.RowKit Go.Deep

theorem okW_of {s v : Int} {k : Fo} (h1 : okN s v (flen k) = true) (h2 : fok k = true) : okW s v k 16 = decide (1 + fsz k ≤ 16) := by
  by_cases h : 1 + fsz k ≤ 16
  · rw [decide_eq_true h]; exact (okW_iff _ _ _ _).2 ⟨h1, h2, by omega⟩
  · rw [decide_eq_false h]
    cases ho : okW s v k 16 with
    | false => rfl
    | true => have := ((okW_iff _ _ _ _).1 ho).2.2; omega

set_option maxRecDepth 100000 in
set_option maxHeartbeats 2000000 in
theorem sSubstDo_any (bs : List Bd) (A : Option Addr) (C : Nat) (s v : Int) (a : Option Addr) (c : Nat) (k : Fo) (w : World) (hb : BSl w 0 w.heap.size A bs) (hbl : bs.length ≤ 9223372036854775807) (hl : Sl w 0 w.heap.size a k) :
    Calls Try.prog 17 #[.slice A bs.length C, .agg #[.int .i64 s, .int .i64 v, .slice a (flen k) c]] w (SdPost bs s v k w) := by
  have hb0 : Below w.heap.size w ((w.alloc (.cells #[.int .i64 s, .int .i64 v, .slice a (flen k) c] 25)).alloc (.cells #[.int .i64 0, .int .i64 0, .slice none 0 0] 25)) := ((Below.refl _ _).alloc (Nat.le_refl _) _).alloc (by simp) _
  have HBS := Lib.hid ((hb.below hb0).mono (Nat.le_refl _) hb0.size)
  have HL0 := Lib.hid ((hl.below hb0).mono (Nat.le_refl _) hb0.size)
  have HB0 : Hid (Below (w.heap.size + 2) ((w.alloc (.cells #[.int .i64 s, .int .i64 v, .slice a (flen k) c] 25)).alloc (.cells #[.int .i64 0, .int .i64 0, .slice none 0 0] 25)) ((w.alloc (.cells #[.int .i64 s, .int .i64 v, .slice a (flen k) c] 25)).alloc (.cells #[.int .i64 0, .int .i64 0, .slice none 0 0] 25))) := Below.refl _ _
  have hsz : w.heap.size + 2 ≤ ((w.alloc (.cells #[.int .i64 s, .int .i64 v, .slice a (flen k) c] 25)).alloc (.cells #[.int .i64 0, .int .i64 0, .slice none 0 0] 25)).heap.size := by simp
  clear hb0 hb hl
  go_enter Try.func17, Try.ntmps17
  go_wp2_with fail
  with_reducible refine (sSubstOk_any bs A C _ HBS.out hbl).mono ?_
  rintro e w1 ⟨rfl, hb1⟩
  have hs1 := hb1.size
  have hb1' := HB0.out.trans (hb1.mono hsz)
  have HB1 := Lib.hid hb1'
  have HL1 := Lib.hid ((HL0.out.below hb1).mono (Nat.le_refl _) hs1)
  have HBS1 := Lib.hid ((HBS.out.below hb1).mono (Nat.le_refl _) hs1)
  obtain ⟨hr0, hr1, hr2, hr3, hr4, hr5⟩ := tb_cellsS hb1'
  obtain ⟨hf0, hf3⟩ := tb_freeS hb1' 0 rfl rfl
  obtain ⟨hf1, hf4⟩ := tb_freeS hb1' 1 rfl rfl
  obtain ⟨hf2, hf5⟩ := tb_freeS hb1' 2 rfl rfl
  clear hb1 hb1'
  cases hsok : sok 16 bs with
  | false =>
    have HR : Hid (sdR bs s v k = (0, 0, .nil, false)) := by unfold Hid sdR; rw [if_neg (by rw [hsok]; simp)]
    clear hsok
    go_wp2_with fail
    refine bodyPost_ret (v := .tuple #[.agg #[.int .i64 0, .int .i64 0, .slice none 0 0], .bool false]) ?_ rfl (sd_end (k' := .nil) HR.out HB1.out (.inl rfl) _ _ _)
    simp [results, Try.results17, go_sem, hr3, hr4, hr5]
  | true =>
    have HSOK := Lib.hid hsok
    clear hsok hr3 hr4 hr5 hf0 hf1 hf2 hf3 hf4 hf5
    go_wp2_with fail
    with_reducible refine (sTermOk_any s v a c k _ HL1.out).mono ?_
    rintro e w2 ⟨rfl, hb2⟩
    have hs2 := hb2.size
    have hb2' := HB1.out.trans (hb2.mono (by omega))
    have HB2 := Lib.hid hb2'
    have HL2 := Lib.hid ((HL1.out.below hb2).mono (Nat.le_refl _) hs2)
    have HBS2 := Lib.hid ((HBS1.out.below hb2).mono (Nat.le_refl _) hs2)
    clear hr0 hr1 hr2
    obtain ⟨hr0, hr1, hr2, hr3, hr4, hr5⟩ := tb_cellsS hb2'
    obtain ⟨hf0, hf3⟩ := tb_freeS hb2' 0 rfl rfl
    obtain ⟨hf1, hf4⟩ := tb_freeS hb2' 1 rfl rfl
    obtain ⟨hf2, hf5⟩ := tb_freeS hb2' 2 rfl rfl
    clear hb2 hb2'
    cases hok : okW s v k 16 with
    | false =>
      have HR : Hid (sdR bs s v k = (0, 0, .nil, false)) := by unfold Hid sdR; rw [if_neg (by rw [hok]; simp)]
      clear hok
      go_wp2_with fail
      refine bodyPost_ret (v := .tuple #[.agg #[.int .i64 0, .int .i64 0, .slice none 0 0], .bool false]) ?_ rfl (sd_end (k' := .nil) HR.out HB2.out (.inl rfl) _ _ _)
      simp [results, Try.results17, go_sem, hr3, hr4, hr5]
    | true =>
      obtain ⟨t1, t2, t3⟩ := tsub_ok HSOK.out hok
      have HT1 := Lib.hid t1
      have HT2 := Lib.hid t2
      have HOK := Lib.hid hok
      obtain ⟨o1, o2, o3⟩ := (okW_iff _ _ _ _).1 hok
      have HO1 := Lib.hid o1
      have HO2 := Lib.hid o2
      have o4 : fsz k ≤ 1000 := by omega
      have HZ : Hid (∀ x t, sv bs x = some t → fsz t.2.2 ≤ 1000000) := fun x t ht => by have := ((okW_iff _ _ _ _).1 (sv_ok bs (-1) HSOK.out x t ht)).2.2; omega
      clear hok t1 t2 o1 o2 hr3 hr4 hr5 hf0 hf1 hf2 hf3 hf4 hf5
      go_wp2_with fail
      with_reducible refine (l2Put_any bs A C hbl HZ.out 1000 s v a c k _ HBS2.out HL2.out HO1.out HO2.out o4 (Nat.le_refl _)).mono ?_
      have HRD : Hid (∀ s' v' k', tsub (sv bs) s v k = (s', v', k') → (1 + fsz k' ≤ 16 → sdR bs s v k = (s', v', k', true)) ∧ (¬ 1 + fsz k' ≤ 16 → sdR bs s v k = (0, 0, .nil, false))) := fun s' v' k' h => by
        unfold sdR
        rw [h]
        exact ⟨fun h1 => by rw [if_pos ⟨HSOK.out, HOK.out, h1⟩], fun h1 => by rw [if_neg fun h2 => h1 h2.2.2]⟩
      generalize htt : tsub (sv bs) s v k = tt at *
      obtain ⟨s', v', k'⟩ := tt
      dsimp only at HT1 HT2 t3
      have HR0 := Lib.hid (HRD.out s' v' k' rfl)
      clear htt HRD
      rintro e w3 ⟨a3, c3, rfl, hb3, ho3⟩
      dsimp only at ho3 ⊢
      have hs3 := hb3.size
      have hb3' := (HB2.out.trans (hb3.mono (by omega))).alloc (show w.heap.size + 2 ≤ w3.heap.size by omega) (.cells #[.int .i64 s', .int .i64 v', .slice a3 (flen k') c3] 25)
      have HB3 := Lib.hid hb3'
      have hba : Below w3.heap.size w3 (w3.alloc (.cells #[.int .i64 s', .int .i64 v', .slice a3 (flen k') c3] 25)) := (Below.refl _ _).alloc (Nat.le_refl _) _
      have HL3 := Lib.hid ((ho3.sl.below hba).mono (lo' := w.heap.size + 2) (by omega) hba.size)
      clear hr0 hr1 hr2 hb3 hb3' ho3 hba
      go_wp2_with fail
      with_reducible refine (sTermOk_any s' v' a3 c3 k' _ (HL3.out.mono (Nat.zero_le _) (Nat.le_refl _))).mono ?_
      rw [okW_of HT1.out HT2.out]
      rintro e w4 ⟨rfl, hb4⟩
      have hs4 := hb4.size
      simp at hs4
      have hb4' := HB3.out.trans (hb4.mono (by simp; omega))
      have HB4 := Lib.hid hb4'
      have HL4 := Lib.hid ((HL3.out.below hb4).mono (Nat.le_refl _) hb4.size)
      obtain ⟨hr0, hr1, hr2, hr3, hr4, hr5⟩ := tb_cellsS hb4'
      obtain ⟨hf0, hf3⟩ := tb_freeS hb4' 0 rfl rfl
      obtain ⟨hf1, hf4⟩ := tb_freeS hb4' 1 rfl rfl
      obtain ⟨hf2, hf5⟩ := tb_freeS hb4' 2 rfl rfl
      obtain ⟨he0, he1, he2⟩ := box_cells (w := w3) (x := .int .i64 s') (y := .int .i64 v') (z := .slice a3 (flen k') c3) (T := 25) ⟨w4, by simpa using hb4⟩
      dsimp only at he0 he1 he2
      clear hb4 hb4'
      by_cases hbig : 1 + fsz k' ≤ 16
      · have HR := Lib.hid (HR0.out.1 hbig)
        rw [decide_eq_true hbig]
        go_wp2_with fail
        refine bodyPost_ret (v := .tuple #[.agg #[.int .i64 s', .int .i64 v', .slice a3 (flen k') c3], .bool true]) ?_ rfl (sd_end HR.out HB4.out HL4.out _ _ _)
        simp [results, Try.results17, go_sem, hr3, hr4, hr5]
      · have HR := Lib.hid (HR0.out.2 hbig)
        rw [decide_eq_false hbig]
        go_wp2_with fail
        refine bodyPost_ret (v := .tuple #[.agg #[.int .i64 0, .int .i64 0, .slice none 0 0], .bool false]) ?_ rfl (sd_end (k' := .nil) HR.out HB4.out (.inl rfl) _ _ _)
        simp [results, Try.results17, go_sem, hr3, hr4, hr5]
end Go.Proofs.Ytlaaihnokoeliaa
