/- Several texts in one: S8, SP4. -/
import Derived.Test.YtpfkhgiiojikbaaGreatKUn17
import Derived.Test.YtpfkhgiiojikbaaGreatKUn19
import Derived.Test.YtpfkhgiiojikbaaGreatKUn11

/-! S8: l71Subst, DrawSubstDo. -/
namespace Go.Proofs.YtpfkhgiiojikbaaGreat
open Go.RowKit Go.Deep

def SbPost (br p : Nat) (w : World) (e : Ending) (w' : World) : Prop :=
  ∃ bs A C p', e = .returned (.slice A (List.length bs) C) ∧ bs.length ≤ 20 ∧ p ≤ p' ∧ p' ≤ p + 3000 ∧ Adv w br p' w' ∧ BOwn w' w.heap.size bs A C

set_option maxRecDepth 100000 in
set_option maxHeartbeats 2000000 in
theorem l71Subst_any (vn br p : Nat) (w : World) (hr : Rd w br p) (hp : p ≤ 10000000) (hv1 : 1 ≤ vn) (hv2 : vn ≤ 10) :
    Calls Tryz.prog 38 #[.pointer (some ⟨br, 0, none⟩), .int .i64 (vn : Int)] w (SbPost br p w) := by
  have hlt := hr.lt
  obtain ⟨ti, hti, htz, hts, htb⟩ := Tryz.infoBind
  have HTI : Hid (Tryz.prog.info? 39 = some ti ∧ ti.zero = some (.agg #[.int .i64 0, .int .i64 0, .int .i64 0, .slice none 0 0]) ∧ ti.size = 4 ∧ ti.bytes = 48) := ⟨hti, htz, hts, htb⟩
  have HA0 : Hid (Adv w br p (w.alloc (.cells #[] 39))) := Adv.start hr ((Below.refl _ _).alloc (Nat.le_refl _) _)
  have HO0 : Hid (BOwn (w.alloc (.cells #[] 39)) w.heap.size [] (some ⟨w.heap.size, 0, none⟩) 0) := ⟨[], ⟨rfl, .inr ⟨w.heap.size, 0, #[], rfl, Nat.le_refl _, heap_alloc_new _ _, Nat.le_refl _, by decide, rfl, rfl⟩⟩, fun i x hx => by simp at hx⟩
  have HR := Lib.hid hr
  have hpk : pkN 3 ≤ 100 := by decide
  have hsk : szN 3 ≤ 500 := by decide
  clear hr hti htz hts htb
  go_enter Tryz.func38, Tryz.ntmps38
  go_wp2_with fail
  go_loopw [5, 6] (fun t i wr => ∃ (n : Nat) (bs : List Bd) (A : Option Addr) (C p' : Nat), t = .slice A bs.length C ∧ i = .int .i64 n ∧ n ≤ vn ∧ bs.length ≤ n ∧ Hid (BOwn wr w.heap.size bs A C) ∧ Hid (Adv w br p' wr) ∧ p ≤ p' ∧ p' ≤ p + n * 101 ∧ Hid (∀ (i : Nat) (x : Bd), bs[i]? = some x → 1 + fsz x.2.2.2 ≤ 500)) (fun _ i _ => vn - (intOf i).toNat)
  case atStart => exact ⟨0, [], _, _, p, rfl, rfl, Nat.zero_le _, Nat.le_refl _, HO0, HA0, Nat.le_refl _, by omega, fun i x hx => by simp at hx⟩
  case round =>
    clear HO0 HA0
    obtain ⟨n, bs, A, C, p', rfl, rfl, hn, hbl, HO, HA, hp1, hp2, HSZ⟩ := hrel
    by_cases hnv : n < vn
    · have g1 : (n : Int) < (vn : Int) := by omega
      go_wp2_with fail
      with_reducible refine (pick_any 3 br p' _ (HA.out.rd HR.out) (by omega) (by omega) (by omega)).mono ?_
      rintro e w1 ⟨y, rfl, hy, hb1⟩
      have ha1 : Adv wr br (p' + 1) w1 := hb1
      have HA1 := Lib.hid (HA.out.trans ha1)
      have HO1 := Lib.hid (HO.out.adv ha1 hlt)
      clear hb1 ha1 hy HO HA
      by_cases hy0 : y = 0
      · subst hy0
        go_wp2_with fail
        go_roundw
        case rel => exact ⟨n + 1, bs, A, C, p' + 1, rfl, by go_num, by omega, by omega, HO1, HA1, by omega, by omega, HSZ⟩
        case measure => simp [intOf]; omega
      · have y0 : (0 : Int) < (y : Int) := by omega
        go_wp2_with fail
        with_reducible refine (l71Term_any 3 3 (vn : Int) br (p' + 1) _ (by omega) (by omega) (by omega) (by omega) (by omega) (HA1.out.rd HR.out) (by omega)).mono ?_
        rintro e w2 ⟨s, v, a2, c2, k, p2, rfl, hpp1, hpp2, hS2, ha2, hl2⟩
        obtain ⟨xs, hown, hall⟩ := HO1.out
        have hs1 := HA1.out.size
        have hs2 := ha2.size
        have HOWN2 : Hid (w2.ownsRow w.heap.size 39 4 (.slice A bs.length C) bs.length xs) := own_block hown fun g hg => by
          have h1 := hown.lt g hg
          exact ha2.same (lo := g) (B := g + 1) (by omega) (by omega) g (Nat.le_refl _) (by omega)
        have HAP := Lib.hid (fun g cap w3 => BOwn.append (w0 := w) (w2 := w2) (br := br) (p := p2) (k := k) (a2 := a2) (x := (n : Int)) (g := g) (cap := cap) (w3 := w3) (blk := .cells #[.int .i64 (n : Int), .int .i64 s, .int .i64 v, .slice a2 (flen k) c2] 39) (s := s) (v := v) (c2 := c2) hown hall)
        have HA2 := Lib.hid ha2
        have HL2 := Lib.hid hl2
        have HA02 := Lib.hid (HA1.out.trans ha2)
        clear hown hall ha2 hl2 HO1
        go_wp2_with (at_builtin; refine wpList_append_lies _ rfl _ _ 28 rfl w.heap.size 39 ti _ 4 48 Tryz.underlying28 HTI.out.1 HTI.out.2.1 HTI.out.2.2.1 HTI.out.2.2.2 rfl (by omega) (.slice A bs.length C) bs.length xs rfl (HOWN2.out.alloc _) ⟨w2.heap.size, 0, none⟩ 1 1 [.int .i64 (n : Int), .int .i64 s, .int .i64 v, .slice a2 (flen k) c2] rfl rfl (World.news_of_block (heap_alloc_new _ _)) (by simp [Value.oneCell']) (by omega) (by unfold maxLen; omega) (by omega) (by simp; omega) (w2.heap.size + 1) (by simp) ?_; intro g cap w3 hown3 hgrow3 hat3 hg3; have HX3 := Lib.hid (HAP.out g cap w3 hown3 HA2.out hlt HL2.out hs1 hgrow3 hat3 HA02.out (Nat.le_refl _)); clear hown3 hgrow3 hat3 hg3)
        go_roundw
        case rel =>
          have hl2' : (bs ++ [((n : Int), s, v, k)]).length = bs.length + 1 := by simp
          refine ⟨n + 1, bs ++ [((n : Int), s, v, k)], some ⟨g, 0, none⟩, cap, p2, by rw [hl2'], by go_num, by omega, by omega, HX3.out.1, HX3.out.2, by omega, by omega, ?_⟩
          intro i x hx
          by_cases hi : i < bs.length
          · rw [List.getElem?_append_left hi] at hx; exact HSZ.out i x hx
          · have hi' : i = bs.length := by have := (List.getElem?_eq_some_iff.1 hx).1; omega
            subst hi'
            simp at hx
            subst hx
            show 1 + fsz k ≤ 500
            omega
        case measure => simp [intOf]; omega
    · go_wp2_with fail
      with_reducible refine (pick_any 24 br p' _ (HA.out.rd HR.out) (by omega) (by omega) (by omega)).mono ?_
      rintro e w1 ⟨y, rfl, hy, hb1⟩
      have ha1 : Adv wr br (p' + 1) w1 := hb1
      have HA1 := Lib.hid (HA.out.trans ha1)
      have HO1 := Lib.hid (HO.out.adv ha1 hlt)
      clear hb1 ha1 hy HO HA
      by_cases hy0 : y = 0
      · subst hy0
        go_wp2_with fail
        with_reducible refine (pick_any 14 br (p' + 1) _ (HA1.out.rd HR.out) (by omega) (by omega) (by omega)).mono ?_
        rintro e w2 ⟨z, rfl, hz, hb2⟩
        have ha2 : Adv w1 br (p' + 1 + 1) w2 := hb2
        have HA2 := Lib.hid (HA1.out.trans ha2)
        have HO2 := Lib.hid (HO1.out.adv ha2 hlt)
        have hz14 : z < 14 := by omega
        clear hb2 ha2 hz HO1 HA1
        go_wp2_with fail
        with_reducible refine (l71Of_any 1 none 0 0 _).mono ?_
        rintro e w3 ⟨rfl, hb3⟩
        have ha3 : Adv w2 br (p' + 1 + 1) w3 := Adv.start (HA2.out.rd HR.out) hb3
        obtain ⟨xs, hown, hall⟩ := HO2.out
        have hs2 := HA2.out.size
        have hs3 := ha3.size
        have HOWN2 : Hid (w3.ownsRow w.heap.size 39 4 (.slice A bs.length C) bs.length xs) := own_block hown fun g hg => by
          have h1 := hown.lt g hg
          exact ha3.same (lo := g) (B := g + 1) (by omega) (by omega) g (Nat.le_refl _) (by omega)
        have HAP := Lib.hid (fun g cap w4 => BOwn.append (w0 := w) (w2 := w3) (br := br) (p := p' + 1 + 1) (x := (z : Int) - 1) (g := g) (cap := cap) (w3 := w4) (blk := .cells #[.int .i64 ((z : Int) - 1), .int .i64 1, .int .i64 0, .slice none 0 0] 39) (s := 1) (v := 0) (k := .nil) (a2 := none) (c2 := 0) hown hall)
        have HA3 := Lib.hid ha3
        have HA03 := Lib.hid (HA2.out.trans ha3)
        clear hown hall ha3 hb3 HO2
        go_wp2_with (at_builtin; refine wpList_append_lies _ rfl _ _ 28 rfl w.heap.size 39 ti _ 4 48 Tryz.underlying28 HTI.out.1 HTI.out.2.1 HTI.out.2.2.1 HTI.out.2.2.2 rfl (by omega) (.slice A bs.length C) bs.length xs rfl (HOWN2.out.alloc _) ⟨w3.heap.size, 0, none⟩ 1 1 [.int .i64 ((z : Int) - 1), .int .i64 1, .int .i64 0, .slice none 0 0] rfl rfl (World.news_of_block (heap_alloc_new _ _)) (by simp [Value.oneCell']) (by omega) (by unfold maxLen; omega) (by omega) (by simp; omega) (w3.heap.size + 1) (by simp) ?_; intro g cap w4 hown4 hgrow4 hat4 hg4; have HX4 := Lib.hid (HAP.out g cap w4 hown4 HA3.out hlt (.inl rfl) hs2 hgrow4 hat4 HA03.out (Nat.le_refl _)); clear hown4 hgrow4 hat4 hg4)
        go_ret
        have hl2' : (bs ++ [((z : Int) - 1, (1 : Int), (0 : Int), (.nil : Fo))]).length = bs.length + 1 := by simp
        exact ⟨_, some ⟨g, 0, none⟩, cap, p' + 1 + 1, by rw [hl2']; rfl, by omega, by omega, by omega, HX4.out.2, HX4.out.1⟩
      have y0 : ((y : Int) == 0) = false := by simpa using hy0
      by_cases hy1 : y = 1
      · subst hy1
        cases bs with
        | nil =>
          go_wp2_with fail
          go_ret
          exact ⟨[], A, C, p' + 1, rfl, by simp, by omega, by omega, HA1.out, HO1.out⟩
        | cons x r =>
          obtain ⟨xv, s, v, k⟩ := x
          have hpos : (0 : Int) < ((((xv, s, v, k) : Bd) :: r).length : Int) := by simp
          obtain ⟨g, hAE, hg1, hg2⟩ : ∃ g, A = some ⟨g, 0, none⟩ ∧ w.heap.size ≤ g ∧ g < w1.heap.size := by
            obtain ⟨xs, hown, _⟩ := HO1.out
            obtain ⟨g, cap, hv, hb, hlt2⟩ := hown.form (by simp)
            simp only [Value.slice.injEq] at hv
            obtain ⟨rfl, _⟩ := hv
            exact ⟨g, rfl, hb, hlt2⟩
          subst hAE
          have hcells : ∀ {w' : World}, BOwn w' w.heap.size ((xv, s, v, k) :: r) (some ⟨g, 0, none⟩) C → ∃ a' c', w'.cell? ⟨g, 1, none⟩ = some (.int .i64 s) ∧ w'.cell? ⟨g, 2, none⟩ = some (.int .i64 v) ∧ w'.cell? ⟨g, 3, none⟩ = some (.slice a' (flen k) c') ∧ Sl w' 0 w'.heap.size a' k := fun {w'} h => by
            rcases h.bsl with h | ⟨g', o, hA, hb, hlt', hrow⟩
            · cases h
            · cases hA
              obtain ⟨a', c', _, d1, d2, d3, hl⟩ := hrow 0 _ rfl
              exact ⟨a', c', d1, d2, d3, hl.mono (Nat.zero_le _) (Nat.le_refl _)⟩
          obtain ⟨a', c', hc1, hc2, hc3, hsl⟩ := hcells HO1.out
          have hsk2 := HSZ.out 0 _ rfl
          simp only at hsk2
          go_wp2_with fail
          with_reducible refine (l71Bad_any s v a' c' k br (p' + 1) 500 _ hsl (HA1.out.rd HR.out) (by omega) (by omega) (by omega)).mono ?_
          rintro e w2 ⟨s2, v2, a2, c2, k2, p2, rfl, hq1, hq2, hS2, ha2, hl2⟩
          clear hc1 hc2 hc3 hsl
          have HS0 := Lib.hid (HO1.out.set0 (s' := s2) (v' := v2) (c2 := c2) ha2 hlt hl2)
          have HA2 := Lib.hid (HA1.out.trans ha2)
          obtain ⟨a'', c'', hc1, hc2, hc3, _⟩ := hcells (HO1.out.adv ha2 hlt)
          have hf1 : w2.frozen? ⟨g, 1, none⟩ = false := by obtain ⟨xs, hown, _⟩ := HO1.out.adv ha2 hlt; exact hown.frozenAt 1
          have hf2 : (w2.setCell ⟨g, 1, none⟩ (.int .i64 s2)).frozen? ⟨g, 2, none⟩ = false := by obtain ⟨xs, hown, _⟩ := HO1.out.adv ha2 hlt; exact (hown.stored 1 _).1.frozenAt 2
          have hf3 : ((w2.setCell ⟨g, 1, none⟩ (.int .i64 s2)).setCell ⟨g, 2, none⟩ (.int .i64 v2)).frozen? ⟨g, 3, none⟩ = false := by obtain ⟨xs, hown, _⟩ := HO1.out.adv ha2 hlt; exact ((hown.stored 1 _).1.stored 2 _).1.frozenAt 3
          have hd2 : (w2.setCell ⟨g, 1, none⟩ (.int .i64 s2)).cell? ⟨g, 2, none⟩ = some (.int .i64 v) := by
            rw [World.cell?_setCell_other _ _ _ _ (by simp)]; exact hc2
          have hd3 : ((w2.setCell ⟨g, 1, none⟩ (.int .i64 s2)).setCell ⟨g, 2, none⟩ (.int .i64 v2)).cell? ⟨g, 3, none⟩ = some (.slice a'' (flen k) c'') := by
            rw [World.cell?_setCell_other _ _ _ _ (by simp), World.cell?_setCell_other _ _ _ _ (by simp)]; exact hc3
          have HE : Hid (Adv w br p2 (((w2.setCell ⟨g, 1, none⟩ (.int .i64 s2)).setCell ⟨g, 2, none⟩ (.int .i64 v2)).setCell ⟨g, 3, none⟩ (.slice a2 (flen k2) c2))) := ((HA2.out.setCell hg1 _).setCell hg1 _).setCell hg1 _
          clear ha2 hl2
          go_wp2_with fail
          go_ret
          exact ⟨(xv, s2, v2, k2) :: r, some ⟨g, 0, none⟩, C, p2, rfl, by simp at hbl ⊢; omega, by omega, by omega, HE.out, HS0.out⟩
      · have y1 : ((y : Int) == 1) = false := by simp; omega
        go_wp2_with fail
        go_ret
        exact ⟨bs, A, C, p' + 1, rfl, by omega, by omega, by omega, HA1.out, HO1.out⟩
end Go.Proofs.YtpfkhgiiojikbaaGreat

/-! SP4: The specification's SubstDo. -/
namespace Go.Proofs.YtpfkhgiiojikbaaGreat
open Go.RowKit Go.Deep

theorem okW_of {s v : Int} {k : Fo} (h1 : okN s v (flen k) = true) (h2 : fok k = true) : okW s v k 16 = decide (1 + fsz k ≤ 16) := by
  by_cases h : 1 + fsz k ≤ 16
  · rw [decide_eq_true h]; exact (okW_iff _ _ _ _).2 ⟨h1, h2, by omega⟩
  · rw [decide_eq_false h]
    cases ho : okW s v k 16 with
    | false => rfl
    | true => have := ((okW_iff _ _ _ _).1 ho).2.2; omega

set_option maxRecDepth 100000 in
set_option maxHeartbeats 2000000 in
theorem sSubstDo_any (bs : List Bd) (A : Option Addr) (C : Nat) (s v : Int) (a : Option Addr) (c : Nat) (k : Fo) (w : World) (hb : BSl w 0 w.heap.size A bs) (hbl : bs.length ≤ 9223372036854775807) (hl : Sl w 0 w.heap.size a k) :
    Calls Tryz.prog 37 #[.slice A bs.length C, .agg #[.int .i64 s, .int .i64 v, .slice a (flen k) c]] w (SdPost bs s v k w) := by
  have hb0 : Below w.heap.size w ((w.alloc (.cells #[.int .i64 s, .int .i64 v, .slice a (flen k) c] 25)).alloc (.cells #[.int .i64 0, .int .i64 0, .slice none 0 0] 25)) := ((Below.refl _ _).alloc (Nat.le_refl _) _).alloc (by simp) _
  have HBS := Lib.hid ((hb.below hb0).mono (Nat.le_refl _) hb0.size)
  have HL0 := Lib.hid ((hl.below hb0).mono (Nat.le_refl _) hb0.size)
  have HB0 : Hid (Below (w.heap.size + 2) ((w.alloc (.cells #[.int .i64 s, .int .i64 v, .slice a (flen k) c] 25)).alloc (.cells #[.int .i64 0, .int .i64 0, .slice none 0 0] 25)) ((w.alloc (.cells #[.int .i64 s, .int .i64 v, .slice a (flen k) c] 25)).alloc (.cells #[.int .i64 0, .int .i64 0, .slice none 0 0] 25))) := Below.refl _ _
  have hsz : w.heap.size + 2 ≤ ((w.alloc (.cells #[.int .i64 s, .int .i64 v, .slice a (flen k) c] 25)).alloc (.cells #[.int .i64 0, .int .i64 0, .slice none 0 0] 25)).heap.size := by simp
  clear hb0 hb hl
  go_enter Tryz.func37, Tryz.ntmps37
  go_wp2_with fail
  with_reducible refine (sSubstOk_any bs A C _ HBS.out hbl).mono ?_
  rintro e w1 ⟨rfl, hb1⟩
  have hs1 := hb1.size
  have hb1' := HB0.out.trans (hb1.mono hsz)
  have HB1 := Lib.hid hb1'
  have HL1 := Lib.hid ((HL0.out.below hb1).mono (Nat.le_refl _) hs1)
  have HBS1 := Lib.hid ((HBS.out.below hb1).mono (Nat.le_refl _) hs1)
  obtain ⟨hr0, hr1, hr2, hr3, hr4, hr5⟩ := tb_cellsS hb1'
  obtain ⟨hf0, hf3⟩ := tb_freeS hb1' 0 rfl rfl
  obtain ⟨hf1, hf4⟩ := tb_freeS hb1' 1 rfl rfl
  obtain ⟨hf2, hf5⟩ := tb_freeS hb1' 2 rfl rfl
  clear hb1 hb1'
  cases hsok : sok 16 bs with
  | false =>
    have HR : Hid (sdR bs s v k = (0, 0, .nil, false)) := by unfold Hid sdR; rw [if_neg (by rw [hsok]; simp)]
    clear hsok
    go_wp2_with fail
    refine bodyPost_ret (v := .tuple #[.agg #[.int .i64 0, .int .i64 0, .slice none 0 0], .bool false]) ?_ rfl (sd_end (k' := .nil) HR.out HB1.out (.inl rfl) _ _ _)
    simp [results, Tryz.results37, go_sem, hr3, hr4, hr5]
  | true =>
    have HSOK := Lib.hid hsok
    clear hsok hr3 hr4 hr5 hf0 hf1 hf2 hf3 hf4 hf5
    go_wp2_with fail
    with_reducible refine (sTermOk_any s v a c k _ HL1.out).mono ?_
    rintro e w2 ⟨rfl, hb2⟩
    have hs2 := hb2.size
    have hb2' := HB1.out.trans (hb2.mono (by omega))
    have HB2 := Lib.hid hb2'
    have HL2 := Lib.hid ((HL1.out.below hb2).mono (Nat.le_refl _) hs2)
    have HBS2 := Lib.hid ((HBS1.out.below hb2).mono (Nat.le_refl _) hs2)
    clear hr0 hr1 hr2
    obtain ⟨hr0, hr1, hr2, hr3, hr4, hr5⟩ := tb_cellsS hb2'
    obtain ⟨hf0, hf3⟩ := tb_freeS hb2' 0 rfl rfl
    obtain ⟨hf1, hf4⟩ := tb_freeS hb2' 1 rfl rfl
    obtain ⟨hf2, hf5⟩ := tb_freeS hb2' 2 rfl rfl
    clear hb2 hb2'
    cases hok : okW s v k 16 with
    | false =>
      have HR : Hid (sdR bs s v k = (0, 0, .nil, false)) := by unfold Hid sdR; rw [if_neg (by rw [hok]; simp)]
      clear hok
      go_wp2_with fail
      refine bodyPost_ret (v := .tuple #[.agg #[.int .i64 0, .int .i64 0, .slice none 0 0], .bool false]) ?_ rfl (sd_end (k' := .nil) HR.out HB2.out (.inl rfl) _ _ _)
      simp [results, Tryz.results37, go_sem, hr3, hr4, hr5]
    | true =>
      obtain ⟨t1, t2, t3⟩ := tsub_ok HSOK.out hok
      have HT1 := Lib.hid t1
      have HT2 := Lib.hid t2
      have HOK := Lib.hid hok
      obtain ⟨o1, o2, o3⟩ := (okW_iff _ _ _ _).1 hok
      have HO1 := Lib.hid o1
      have HO2 := Lib.hid o2
      have o4 : fsz k ≤ 1000 := by omega
      have HZ : Hid (∀ x t, sv bs x = some t → fsz t.2.2 ≤ 1000000) := fun x t ht => by have := ((okW_iff _ _ _ _).1 (sv_ok bs (-1) HSOK.out x t ht)).2.2; omega
      clear hok t1 t2 o1 o2 hr3 hr4 hr5 hf0 hf1 hf2 hf3 hf4 hf5
      go_wp2_with fail
      with_reducible refine (l2Put_any bs A C hbl HZ.out 1000 s v a c k _ HBS2.out HL2.out HO1.out HO2.out o4 (Nat.le_refl _)).mono ?_
      have HRD : Hid (∀ s' v' k', tsub (sv bs) s v k = (s', v', k') → (1 + fsz k' ≤ 16 → sdR bs s v k = (s', v', k', true)) ∧ (¬ 1 + fsz k' ≤ 16 → sdR bs s v k = (0, 0, .nil, false))) := fun s' v' k' h => by
        unfold sdR
        rw [h]
        exact ⟨fun h1 => by rw [if_pos ⟨HSOK.out, HOK.out, h1⟩], fun h1 => by rw [if_neg fun h2 => h1 h2.2.2]⟩
      generalize htt : tsub (sv bs) s v k = tt at *
      obtain ⟨s', v', k'⟩ := tt
      dsimp only at HT1 HT2 t3
      have HR0 := Lib.hid (HRD.out s' v' k' rfl)
      clear htt HRD
      rintro e w3 ⟨a3, c3, rfl, hb3, ho3⟩
      dsimp only at ho3 ⊢
      have hs3 := hb3.size
      have hb3' := (HB2.out.trans (hb3.mono (by omega))).alloc (show w.heap.size + 2 ≤ w3.heap.size by omega) (.cells #[.int .i64 s', .int .i64 v', .slice a3 (flen k') c3] 25)
      have HB3 := Lib.hid hb3'
      have hba : Below w3.heap.size w3 (w3.alloc (.cells #[.int .i64 s', .int .i64 v', .slice a3 (flen k') c3] 25)) := (Below.refl _ _).alloc (Nat.le_refl _) _
      have HL3 := Lib.hid ((ho3.sl.below hba).mono (lo' := w.heap.size + 2) (by omega) hba.size)
      clear hr0 hr1 hr2 hb3 hb3' ho3 hba
      go_wp2_with fail
      with_reducible refine (sTermOk_any s' v' a3 c3 k' _ (HL3.out.mono (Nat.zero_le _) (Nat.le_refl _))).mono ?_
      rw [okW_of HT1.out HT2.out]
      rintro e w4 ⟨rfl, hb4⟩
      have hs4 := hb4.size
      simp at hs4
      have hb4' := HB3.out.trans (hb4.mono (by simp; omega))
      have HB4 := Lib.hid hb4'
      have HL4 := Lib.hid ((HL3.out.below hb4).mono (Nat.le_refl _) hb4.size)
      obtain ⟨hr0, hr1, hr2, hr3, hr4, hr5⟩ := tb_cellsS hb4'
      obtain ⟨hf0, hf3⟩ := tb_freeS hb4' 0 rfl rfl
      obtain ⟨hf1, hf4⟩ := tb_freeS hb4' 1 rfl rfl
      obtain ⟨hf2, hf5⟩ := tb_freeS hb4' 2 rfl rfl
      obtain ⟨he0, he1, he2⟩ := box_cells (w := w3) (x := .int .i64 s') (y := .int .i64 v') (z := .slice a3 (flen k') c3) (T := 25) ⟨w4, by simpa using hb4⟩
      dsimp only at he0 he1 he2
      clear hb4 hb4'
      by_cases hbig : 1 + fsz k' ≤ 16
      · have HR := Lib.hid (HR0.out.1 hbig)
        rw [decide_eq_true hbig]
        go_wp2_with fail
        refine bodyPost_ret (v := .tuple #[.agg #[.int .i64 s', .int .i64 v', .slice a3 (flen k') c3], .bool true]) ?_ rfl (sd_end HR.out HB4.out HL4.out _ _ _)
        simp [results, Tryz.results37, go_sem, hr3, hr4, hr5]
      · have HR := Lib.hid (HR0.out.2 hbig)
        rw [decide_eq_false hbig]
        go_wp2_with fail
        refine bodyPost_ret (v := .tuple #[.agg #[.int .i64 0, .int .i64 0, .slice none 0 0], .bool false]) ?_ rfl (sd_end (k' := .nil) HR.out HB4.out (.inl rfl) _ _ _)
        simp [results, Tryz.results37, go_sem, hr3, hr4, hr5]
end Go.Proofs.YtpfkhgiiojikbaaGreat
