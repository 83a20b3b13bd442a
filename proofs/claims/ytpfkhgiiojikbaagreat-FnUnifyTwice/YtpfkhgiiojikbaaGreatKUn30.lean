/- Several texts in one: MA, MO, S9, DMz, FrameO, Frame. -/
import Derived.Test.YtpfkhgiiojikbaaGreatKUn10
import Derived.Test.YtpfkhgiiojikbaaGreatKUn15
import Derived.Test.YtpfkhgiiojikbaaGreatKUn17
import Derived.Test.YtpfkhgiiojikbaaGreatKUn19
import Derived.Test.YtpfkhgiiojikbaaGreatKUn2
import Derived.Test.YtpfkhgiiojikbaaGreatKUn23
import Derived.Test.YtpfkhgiiojikbaaGreatKUn24
import Derived.Test.YtpfkhgiiojikbaaGreatKUn12
import Derived.Test.YtpfkhgiiojikbaaGreatRows
import Derived.WalkKit
import Derived.ProofKit
import Derived.OpenShut
import Derived.ShutString
import Derived.ChangeOld
import Derived.Below

/-! MA: kidsAgree and match: what a pattern binds goes into the map. -/
namespace Go.Proofs.YtpfkhgiiojikbaaGreat
open Go.RowKit Go.Deep Go.Maps

def MtPost (base b : Nat) (bs : List Bd) (s v : Int) (k : Fo) (s' v' : Int) (k' : Fo) (w : World) (e : Ending) (w' : World) : Prop :=
  Kp base w w' ∧ ((∃ bs', tmt bs s v k s' v' k' = some bs' ∧ e = .returned (.bool true) ∧ MapIs w' b bs') ∨ (tmt bs s v k s' v' k' = none ∧ e = .returned (.bool false)))
/-- The matching at all smaller patterns. -/
def MtTo (base b M : Nat) : Prop :=
  ∀ {s v : Int} {k : Fo} {pv : Value} {s' v' : Int} {k' : Fo} {tv : Value} {bs : List Bd} {w : World}, MapIs w b bs → Bof bs 1000 → base ≤ w.heap.size → Nj w pv s v k → Nj w tv s' v' k' → bs.length + (1 + fsz k) ≤ 1000 → fsz k < M →
    Calls Tryz.prog 40 #[.map (some b), pv, tv] w (MtPost base b bs s v k s' v' k' w)

set_option maxRecDepth 100000 in
set_option maxHeartbeats 2000000 in
theorem kidsAgree_any {base b M : Nat} (H : MtTo base b M) {s v : Int} {k : Fo} {pv : Value} {s' v' : Int} {k' : Fo} {tv : Value} {bs : List Bd} {w : World} (hs : s ≠ 0) (hm : MapIs w b bs) (hbo : Bof bs 1000) (hbw : base ≤ w.heap.size) (h : Nj w pv s v k) (h' : Nj w tv s' v' k') (hbl : bs.length + (1 + fsz k) ≤ 1000) (hM : fsz k ≤ M) :
    Calls Tryz.prog 62 #[pv, tv, .func (.func 40) #[.map (some b)] #[]] w (MtPost base b bs s v k s' v' k' w) := by
  have HP := Lib.hid h
  have HT := Lib.hid h'
  have HM := Lib.hid hm
  have HH : Hid (MtTo base b M) := H
  have HBO := Lib.hid hbo
  have hfl := flen_le_sz k
  have hsm := h.small
  clear h h' hm H hbo
  go_enter Tryz.func62, Tryz.ntmps62
  go_wp2_with fail
  with_reducible refine (signOfI_any HP.out).mono ?_
  rintro e w1 ⟨rfl, hb1⟩
  have HK1 := Lib.hid (Kp.of hb1 hbw)
  have HM1 := Lib.hid (HM.out.below hb1)
  have HP1 := Lib.hid (HP.out.next hb1)
  have HT1 := Lib.hid (HT.out.next hb1)
  have hs1 := hb1.size
  clear hb1
  go_wp2_with fail
  with_reducible refine (signOfI_any HT1.out).mono ?_
  rintro e w2 ⟨rfl, hb2⟩
  have HK2 := Lib.hid (HK1.out.trans (Kp.of hb2 (Nat.le_trans hbw hs1)))
  have HM2 := Lib.hid (HM1.out.below hb2)
  have HP2 := Lib.hid (HP1.out.next hb2)
  have HT2 := Lib.hid (HT1.out.next hb2)
  have hs2 := hb2.size
  clear hb2 HK1 HM1 HP1 HT1
  by_cases hss : s = s'
  case neg =>
    have e0 : (s != s') = true := by simp [hss]
    have HN := Lib.hid (tmt_other (bs := bs) (v := v) (v' := v') (k := k) (k' := k') hs hss)
    clear hss
    go_wp2_with fail
    go_ret
    exact ⟨HK2.out, .inr ⟨HN.out, rfl⟩⟩
  subst hss
  have e0 : (s != s) = false := by simp
  go_wp2_with fail
  with_reducible refine (kidsOf_any s v' k' tv w2.heap.size w2 HT2.out.node).mono ?_
  rintro e w3 ⟨a2, c2, rfl, hb3, hn2⟩
  have HK3 := Lib.hid (HK2.out.trans (Kp.of hb3 (by omega)))
  have HM3 := Lib.hid (HM2.out.below hb3)
  have HP3 := Lib.hid (HP2.out.next hb3)
  have HN2 : Hid (NSl w3 0 w3.heap.size a2 k') := (hn2.below hb3).mono (Nat.le_refl _) hb3.size
  have hs3 := hb3.size
  clear hb3 hn2 HK2 HM2 HP2 HT2
  go_wp2_with fail
  with_reducible refine (kidsOf_any s v k pv w3.heap.size w3 HP3.out.node).mono ?_
  rintro e w4 ⟨a1, c1, rfl, hb4, hn1⟩
  have HK4 := Lib.hid (HK3.out.trans (Kp.of hb4 (by omega)))
  have HM4 := Lib.hid (HM3.out.below hb4)
  have HN1 : Hid (NSl w4 0 w4.heap.size a1 k) := (hn1.below hb4).mono (Nat.le_refl _) hb4.size
  have HN2' : Hid (NSl w4 0 w4.heap.size a2 k') := (HN2.out.below hb4).mono (Nat.le_refl _) hb4.size
  have hs4 := hb4.size
  have hfl2 := flen_same HP.out.okn HT.out.okn
  have HFE := Lib.hid (tmt_sym (bs := bs) (v := v) (v' := v') (k := k) (k' := k') hs)
  have HFK := Lib.hid HP.out.ok
  have HFK' := Lib.hid HT.out.ok
  have hsm' := HT.out.small
  clear hb4 hn1 HN2 HK3 HM3 HP3 HP HT HM
  have HFL := Lib.hid hfl2
  clear hfl2
  go_wp2_with fail
  go_loopw [20] (fun i wr => ∃ (j : Nat) (b1 : List Bd), i = .int .i64 j ∧ j ≤ flen k ∧ Hid (fmt bs k k' = fmt b1 (fdrop j k) (fdrop j k')) ∧ Hid (MapIs wr b b1) ∧ Hid (Bof b1 1000) ∧ Hid (Kp base w4 wr) ∧ Hid (b1.length + fsz (fdrop j k) ≤ bs.length + fsz k)) (fun i _ => flen k - (intOf i).toNat)
  case atStart => exact ⟨0, bs, rfl, Nat.zero_le _, rfl, HM4, HBO, Kp.refl _ _, Nat.le_refl _⟩
  case round =>
    clear HM4 HBO
    obtain ⟨j, b1, rfl, hj, HF, HMr, HBr, HKr, HLr⟩ := hrel
    have hkr := HKr.out.low.size
    by_cases hlt : j < flen k
    · have hlt' : j < flen k' := by rw [← HFL.out]; exact hlt
      have hnr := HN1.out.kp HKr.out
      rcases hnr with rfl | ⟨kb, ko, rfl, hrow⟩
      · simp [flen] at hlt
      have hnr' := HN2'.out.kp HKr.out
      rcases hnr' with rfl | ⟨kb', ko', rfl, hrow'⟩
      · simp [flen] at hlt'
      obtain ⟨s1, v1, k1, val1, ⟨x, y, hd⟩, _, _, hc, hn⟩ := nrow_at hrow hlt
      obtain ⟨s2, v2, k2, val2, ⟨x', y', hd'⟩, _, _, hc', hn'⟩ := nrow_at hrow' hlt'
      have hk1 := fok_kid HFK.out hd
      have hk2 := fok_kid HFK'.out hd'
      have z1 := fsz_kid hd
      have z2 := fsz_kid hd'
      have HST := Lib.hid (fmt_step (bs := b1) hd hd')
      have hzd := fsz_dropN hd
      have hl1 := HLr.out
      have HZ : Hid (b1.length + (1 + fsz k1) + fsz (fdrop (j + 1) k) ≤ bs.length + fsz k) := by show _ ≤ _; omega
      have HCALL := Lib.hid (HH.out HMr.out HBr.out (Nat.le_trans (by omega) hkr) ⟨hn, hk1.1, hk1.2, by omega⟩ ⟨hn', hk2.1, hk2.2, by omega⟩ (by omega) (by omega))
      have g1 : (0 : Int) ≤ (j : Int) := by omega
      have g2 : (j : Int) < (flen k : Int) := by omega
      have g3 : (j : Int) < (flen k' : Int) := by omega
      have HOF : Hid (∀ b2, tmt b1 s1 v1 k1 s2 v2 k2 = some b2 → Bof b2 1000) := fun b2 h => tmt_of h HBr.out hk2.1 hk2.2 (by omega)
      clear hn hn' hd hd' hk1 hk2 hrow hrow' hzd hl1
      go_wp2_with fail
      with_reducible refine HCALL.out.mono ?_
      rintro e w5 ⟨hkp, hcase⟩
      have HK5 := Lib.hid (HKr.out.trans hkp)
      clear hkp HCALL hc hc'
      rcases hcase with ⟨b2, ht, rfl, hm2⟩ | ⟨ht, rfl⟩
      · have HF2 : Hid (fmt bs k k' = fmt b2 (fdrop (j + 1) k) (fdrop (j + 1) k')) := by rw [Hid, HF.out, HST.out, ht]; rfl
        have HM5 := Lib.hid hm2
        have HB5 := Lib.hid (HOF.out b2 ht)
        have HL5 : Hid (b2.length + fsz (fdrop (j + 1) k) ≤ bs.length + fsz k) := by have h1 := tmt_blen ht; have h2 := HZ.out; show _ ≤ _; omega
        clear ht hm2
        go_wp2_with fail
        go_roundw
        case rel => exact ⟨j + 1, b2, by go_num, by omega, HF2, HM5, HB5, HK5, HL5⟩
        case measure => simp [intOf]; omega
      · have HN : Hid (tmt bs s v k s v' k' = none) := by rw [Hid, HFE.out, HF.out, HST.out, ht]; rfl
        clear ht
        go_wp2_with fail
        go_ret
        exact ⟨HK4.out.trans HK5.out, .inr ⟨HN.out, rfl⟩⟩
    · have HS : Hid (tmt bs s v k s v' k' = some b1) := by rw [Hid, HFE.out, HF.out, fdrop_all (by omega), fdrop_all (k := k') (by have := HFL.out; omega)]; rfl
      go_wp2_with fail
      go_ret
      exact ⟨HK4.out.trans HKr.out, .inl ⟨b1, HS.out, rfl, HMr.out⟩⟩

set_option maxRecDepth 100000 in
set_option maxHeartbeats 2000000 in
theorem match_any {base b : Nat} (hbb : base ≤ b) (M : Nat) : MtTo base b M := by
  induction M with
  | zero => intro s v k pv s' v' k' tv bs w _ _ _ _ _ _ hM; omega
  | succ M ih =>
    intro s v k pv s' v' k' tv bs w hm hbo hbw hp ht hbl hM
    have hta := assert_varV
    have htb := assert_symV
    have hz := zeroE
    have HH : Hid (MtTo base b M) := ih
    have HM := Lib.hid hm
    have HP := Lib.hid hp
    have HT := Lib.hid ht
    have HBO := Lib.hid hbo
    clear hm hp ht hbo ih
    have hnode := HP.out.node
    rcases hnode with ⟨rfl, rfl, rfl⟩ | ⟨hs, a, c, rfl, hn⟩
    · have hv := ((okN_iff _ _ _).1 HP.out.okn).2.1 rfl
      have HWF : Hid ((Lit.int .i64 v).wf = true) := WalkArith.wf_i64 (by omega)
      obtain ⟨n, D, hown, hnl, hsv⟩ := HM.out
      have HOWN := Lib.hid hown
      have HKEY := Lib.hid (key_of HWF.out)
      have hx := hsv v HWF.out
      have HSV := Lib.hid hsv
      have HNL := Lib.hid hnl
      clear hown hsv
      cases hs : sv bs v with
      | some u =>
        obtain ⟨s1, v1, k1⟩ := u
        obtain ⟨hh, nv0, hat, hnode⟩ := hx.2 s1 v1 k1 hs
        have hbo1 := HBO.out v _ hs
        have HNJ : Hid (Nj w nv0 s1 v1 k1) := ⟨hnode, hbo1.1, hbo1.2.1, by have := hbo1.2.2; dsimp only at this; omega⟩
        have HAT := Lib.hid hat
        have HE2 := Lib.hid (mtV_found (t := (s', v', k')) hs)
        clear hx hs hnode hat hbo1
        go_enter Tryz.func40, Tryz.ntmps40
        go_wp2_with (at_lookup; refine wpList_lookup_own_ok (H := Value) _ rfl _ _ 59 rfl 90 55 law underM rdV (zeroE _) (.held .nilIface) [] rfl b n D rfl HOWN.out (.int .i64 v) (.int .i64 v) rfl HKEY.out ?_; intro nv ps hnv; rw [hh]; have HE : Hid (nv0 = nv) := (by have := HAT.out; simp only [rdV, Option.some.injEq, Prod.mk.injEq] at hnv; rw [this] at hnv; exact (DataW.held.inj hnv.1).symm); clear hnv)
        obtain rfl : nv0 = nv := HE.out
        with_reducible refine (sameNodeI_any HNJ.out HT.out).mono ?_
        rintro e w2 ⟨rfl, hb2⟩
        have HK2 := Lib.hid (Kp.of hb2 hbw)
        have HM2 := Lib.hid (HM.out.below hb2)
        clear hb2
        go_wp2_with fail
        go_ret
        refine ⟨HK2.out, ?_⟩
        rw [tmt_zero]
        rw [HE2.out]
        dsimp only
        cases teq s1 v1 k1 s' v' k' with
        | true => exact .inl ⟨bs, rfl, rfl, HM2.out⟩
        | false => exact .inr ⟨rfl, rfl⟩
      | none =>
        have hh := hx.1 hs
        have HE2 := Lib.hid (mtV_none (t := (s', v', k')) hs)
        have HS := Lib.hid hs
        have hn12 : n < 2000 := by omega
        have hnm : n < maxLen := by unfold maxLen; omega
        have HSL : Hid (∀ x, sv (ladd bs (v, s', v', k')) x = sv (bs ++ [(v, s', v', k')]) x) := fun x => by rw [sv_ladd (b := (v, s', v', k')) hs, sv_snoc (x := (v, s', v', k')) hs]
        clear hx hs
        go_enter Tryz.func40, Tryz.ntmps40
        go_wp2_with (first | (at_lookup; refine wpList_lookup_own_ok (H := Value) _ rfl _ _ 59 rfl 90 55 law underM rdV (zeroE _) (.held .nilIface) [] rfl b n D rfl HOWN.out (.int .i64 v) (.int .i64 v) rfl HKEY.out ?_; intro nv ps hnv; rw [hh]; clear hnv) | (at_mapUpdate; refine wpList_mapUpdate_own (H := Value) _ rfl _ _ _ 59 rfl 90 55 law underM rdV b n D rfl HOWN.out hnm (.int .i64 v) tv (.int .i64 v) rfl rfl HKEY.out (.held tv) [] rfl ?_; intro w3 hown3 hgrow3; have HM3 := Lib.hid (MapIs.put HNL.out HSV.out HOWN.out hown3 hgrow3 HS.out HT.out.node); have HK3 : Hid (Kp base w w3) := ⟨(Below.refl _ _).grown hgrow3 hbw (fun g hg => by cases hg; exact hbb), cells_keep HOWN.out hgrow3⟩; clear hown3 hgrow3))
        go_ret
        refine ⟨HK3.out, .inl ⟨_, ?_, rfl, HM3.out.congr HSL.out (by rw [ladd_len]; simp)⟩⟩
        rw [tmt_zero]; exact HE2.out
    · have HC := Lib.hid (kidsAgree_any HH.out hs HM.out HBO.out hbw HP.out HT.out hbl (by omega))
      clear hn
      go_enter Tryz.func40, Tryz.ntmps40
      go_wp2_with fail
      with_reducible refine HC.out.mono ?_
      rintro e w2 ⟨hkp, hcase⟩
      rcases hcase with ⟨b2, ht, rfl, hm2⟩ | ⟨ht, rfl⟩
      · have HM2 := Lib.hid hm2
        have HT2 := Lib.hid ht
        have HK2 := Lib.hid hkp
        clear ht hm2 hkp
        go_wp2_with fail
        go_ret
        exact ⟨HK2.out, .inl ⟨b2, HT2.out, rfl, HM2.out⟩⟩
      · have HT2 := Lib.hid ht
        have HK2 := Lib.hid hkp
        clear ht hkp
        go_wp2_with fail
        go_ret
        exact ⟨HK2.out, .inr ⟨HT2.out, rfl⟩⟩
end Go.Proofs.YtpfkhgiiojikbaaGreat

/-! MO: MatchOf of the program and of the specification. -/
namespace Go.Proofs.YtpfkhgiiojikbaaGreat
open Go.RowKit Go.Deep Go.Maps

def MaPost (s v : Int) (k : Fo) (s' v' : Int) (k' : Fo) (w : World) (e : Ending) (w' : World) : Prop :=
  ∃ A C bs t, maR s v k s' v' k' = (bs, t) ∧ e = .returned (.tuple #[.slice A (List.length bs) C, .bool t]) ∧ Below w.heap.size w w' ∧ BSl w' 0 w'.heap.size A bs
theorem ma_none {s v : Int} {k : Fo} {s' v' : Int} {k' : Fo} {w w' : World} {A : Option Addr} {C : Nat} (h : maR s v k s' v' k' = ([], false)) (hb : Below w.heap.size w w') : MaPost s v k s' v' k' w (.returned (.tuple #[.slice A 0 C, .bool false])) w' :=
  ⟨A, C, [], false, h, rfl, hb, .inl rfl⟩
theorem fits_of {bs : List Bd} (ha : Asc bs) (hb : Bof bs 15) : fits 16 bs = true := by
  unfold fits
  rw [List.all_eq_true]
  intro x hx
  have := (hb x.1 x.2 (sv_mem ha hx)).2.2
  simp only [decide_eq_true_eq]
  omega
theorem maR_bad {s v : Int} {k : Fo} {s' v' : Int} {k' : Fo} (h : ¬ (okW s v k 16 = true ∧ okW s' v' k' 16 = true)) : maR s v k s' v' k' = ([], false) := by unfold maR; rw [if_neg h]
theorem Bof.mono {bs : List Bd} {M M' : Nat} (h : Bof bs M) (hM : M ≤ M') : Bof bs M' := fun x t ht => ⟨(h x t ht).1, (h x t ht).2.1, Nat.le_trans (h x t ht).2.2 hM⟩

set_option maxRecDepth 100000 in
set_option maxHeartbeats 2000000 in
theorem iMatchOf_any (s v : Int) (a : Option Addr) (c : Nat) (k : Fo) (s' v' : Int) (a' : Option Addr) (c' : Nat) (k' : Fo) (w : World) (hl : Sl w 0 w.heap.size a k) (hl' : Sl w 0 w.heap.size a' k') :
    Calls Tryz.prog 15 #[.agg #[.int .i64 s, .int .i64 v, .slice a (flen k) c], .agg #[.int .i64 s', .int .i64 v', .slice a' (flen k') c']] w (MaPost s v k s' v' k' w) := by
  have hb0 : Below w.heap.size w ((w.alloc (.cells #[.int .i64 s, .int .i64 v, .slice a (flen k) c] 25)).alloc (.cells #[.int .i64 s', .int .i64 v', .slice a' (flen k') c'] 25)) := ((Below.refl _ _).alloc (Nat.le_refl _) _).alloc (by simp) _
  have HL0 := Lib.hid (hl.next hb0)
  have HL0' := Lib.hid (hl'.next hb0)
  have HW0 := Lib.hid hb0
  have HB0 : Hid (Below (w.heap.size + 2) ((w.alloc (.cells #[.int .i64 s, .int .i64 v, .slice a (flen k) c] 25)).alloc (.cells #[.int .i64 s', .int .i64 v', .slice a' (flen k') c'] 25)) ((w.alloc (.cells #[.int .i64 s, .int .i64 v, .slice a (flen k) c] 25)).alloc (.cells #[.int .i64 s', .int .i64 v', .slice a' (flen k') c'] 25))) := Below.refl _ _
  have hsz : w.heap.size + 2 ≤ ((w.alloc (.cells #[.int .i64 s, .int .i64 v, .slice a (flen k) c] 25)).alloc (.cells #[.int .i64 s', .int .i64 v', .slice a' (flen k') c'] 25)).heap.size := by simp
  have hmm := @run_makeMap Tryz.prog
  clear hb0 hl hl'
  go_enter Tryz.func15, Tryz.ntmps15
  go_wp2_with fail
  with_reducible refine (nodeOf_any s v a c k 16 _ HL0.out (by omega) (by omega)).mono ?_
  rintro e w1 ⟨nv, rfl, hb1, hyes1⟩
  have hb1' := HB0.out.trans (hb1.mono hsz)
  obtain ⟨_, _, _, hr3, hr4, hr5⟩ := two_boxesM hb1'
  have HW1 := Lib.hid (below_next HW0.out hb1)
  have HL1' := Lib.hid (HL0'.out.next hb1)
  have HY1 := Lib.hid hyes1
  clear hb1 hb1' hyes1 HB0 hsz HL0 HL0' HW0
  go_wp2_with fail
  with_reducible refine (nodeOf_any s' v' a' c' k' 16 _ HL1'.out (by omega) (by omega)).mono ?_
  rintro e w2 ⟨nv', rfl, hb2, hyes2⟩
  have HW2 := Lib.hid (below_next HW1.out hb2)
  have HB2 := Lib.hid hb2
  have HY2 := Lib.hid hyes2
  clear hb2 hyes2 hr3 hr4 hr5
  by_cases hok : okW s v k 16 = true
  case neg =>
    have hf : okW s v k 16 = false := by simpa using hok
    have HP : Hid (MaPost s v k s' v' k' w (.returned (.tuple #[.slice none 0 0, .bool false])) w2) := ma_none (maR_bad fun h => hok h.1) HW2.out
    rw [hf]
    clear hok hf
    generalize okW s' v' k' 16 = okk
    cases okk with
    | true =>
      go_wp2_with fail
      refine bodyPost_ret (v := .tuple #[.slice none 0 0, .bool false]) ?_ rfl HP.out
      simp [results, Tryz.results15, go_sem]
    | false =>
      go_wp2_with fail
      refine bodyPost_ret (v := .tuple #[.slice none 0 0, .bool false]) ?_ rfl HP.out
      simp [results, Tryz.results15, go_sem]
  by_cases hok' : okW s' v' k' 16 = true
  case neg =>
    have hf : okW s' v' k' 16 = false := by simpa using hok'
    have HP : Hid (MaPost s v k s' v' k' w (.returned (.tuple #[.slice none 0 0, .bool false])) w2) := ma_none (maR_bad fun h => hok' h.2) HW2.out
    rw [hf, hok]
    clear hok hf hok'
    go_wp2_with fail
    refine bodyPost_ret (v := .tuple #[.slice none 0 0, .bool false]) ?_ rfl HP.out
    simp [results, Tryz.results15, go_sem]
  obtain ⟨o1, o2, o3⟩ := (okW_iff _ _ _ _).1 hok
  obtain ⟨p1, p2, p3⟩ := (okW_iff _ _ _ _).1 hok'
  have hbm : Below w2.heap.size w2 (w2.alloc (.map #[] 0)) := (Below.refl _ _).alloc (Nat.le_refl _) _
  have HN1 : Hid (Nj (w2.alloc (.map #[] 0)) nv s v k) := by
    have h1 := (HY1.out hok).mono (lo' := 0) (Nat.zero_le _) (Nat.le_refl _)
    have h2 := (h1.below HB2.out).mono (lo' := 0) (Nat.le_refl _) HB2.out.size
    exact ⟨(h2.below hbm).mono (Nat.le_refl _) hbm.size, o1, o2, by omega⟩
  have HN2 : Hid (Nj (w2.alloc (.map #[] 0)) nv' s' v' k') := by
    have h2 := (HY2.out hok').mono (lo' := 0) (Nat.zero_le _) (Nat.le_refl _)
    exact ⟨(h2.below hbm).mono (Nat.le_refl _) hbm.size, p1, p2, by omega⟩
  have HMS := Lib.hid (MapIs.start w2)
  have HOK := Lib.hid hok
  have HOK' := Lib.hid hok'
  have HO1 := Lib.hid p1
  have HO2 := Lib.hid p2
  have HWM := Lib.hid (below_next HW2.out hbm)
  have hws := HW2.out.size
  have HCM := Lib.hid (match_any (base := w2.heap.size) (b := w2.heap.size) (Nat.le_refl _) 1000 HMS.out (Bof.nil _) (by simp) HN1.out HN2.out (by simp; omega) (by omega))
  rw [hok, hok']
  clear hok hok' o1 o2 p1 p2 hbm HY1 HY2
  go_wp2_with fail
  with_reducible refine HCM.out.mono ?_
  rintro e w3 ⟨hkp, hcase⟩
  have HW3 := Lib.hid (HWM.out.trans (hkp.low.mono hws))
  clear hkp HN1 HN2 HMS HCM
  rcases hcase with ⟨bs, ht, rfl, hm3⟩ | ⟨ht, rfl⟩
  · have HR := Lib.hid (maR_of HOK.out HOK'.out ht)
    obtain ⟨i1, i2, i3, i4, i5⟩ := maR_in HR.out
    have HFIT := Lib.hid (fits_of i1 i2)
    have HC := Lib.hid (binds_any bs w2.heap.size 16 w3 hm3 i1 i4 (i2.mono (by omega)))
    clear ht hm3 i1 i2 i3 i4 i5
    go_wp2_with fail
    with_reducible refine HC.out.mono ?_
    rintro e w4 ⟨hb4, hc4⟩
    rcases hc4 with ⟨_, A, C, rfl, ho⟩ | ⟨hno, _⟩
    · have HP : Hid (MaPost s v k s' v' k' w (.returned (.tuple #[.slice A bs.length C, .bool true])) w4) := ⟨A, C, bs, true, HR.out, rfl, below_next HW3.out hb4, ho.bsl.mono (Nat.zero_le _) (Nat.le_refl _)⟩
      clear hb4 ho
      go_wp2_with fail
      refine bodyPost_ret (v := .tuple #[.slice A bs.length C, .bool true]) ?_ rfl HP.out
      simp [results, Tryz.results15, go_sem]
    · rw [HFIT.out] at hno; cases hno
  · have HP : Hid (MaPost s v k s' v' k' w (.returned (.tuple #[.slice none 0 0, .bool false])) w3) := ma_none (maR_no ht) HW3.out
    clear ht
    go_wp2_with fail
    refine bodyPost_ret (v := .tuple #[.slice none 0 0, .bool false]) ?_ rfl HP.out
    simp [results, Tryz.results15, go_sem]

set_option maxRecDepth 100000 in
set_option maxHeartbeats 2000000 in
theorem sMatchOf_any (s v : Int) (a : Option Addr) (c : Nat) (k : Fo) (s' v' : Int) (a' : Option Addr) (c' : Nat) (k' : Fo) (w : World) (hl : Sl w 0 w.heap.size a k) (hl' : Sl w 0 w.heap.size a' k') :
    Calls Tryz.prog 14 #[.agg #[.int .i64 s, .int .i64 v, .slice a (flen k) c], .agg #[.int .i64 s', .int .i64 v', .slice a' (flen k') c']] w (MaPost s v k s' v' k' w) := by
  have hb0 : Below w.heap.size w ((w.alloc (.cells #[.int .i64 s, .int .i64 v, .slice a (flen k) c] 25)).alloc (.cells #[.int .i64 s', .int .i64 v', .slice a' (flen k') c'] 25)) := ((Below.refl _ _).alloc (Nat.le_refl _) _).alloc (by simp) _
  have HL0 := Lib.hid (hl.next hb0)
  have HL0' := Lib.hid (hl'.next hb0)
  have HW0 := Lib.hid hb0
  have HB0 : Hid (Below (w.heap.size + 2) ((w.alloc (.cells #[.int .i64 s, .int .i64 v, .slice a (flen k) c] 25)).alloc (.cells #[.int .i64 s', .int .i64 v', .slice a' (flen k') c'] 25)) ((w.alloc (.cells #[.int .i64 s, .int .i64 v, .slice a (flen k) c] 25)).alloc (.cells #[.int .i64 s', .int .i64 v', .slice a' (flen k') c'] 25))) := Below.refl _ _
  have hsz : w.heap.size + 2 ≤ ((w.alloc (.cells #[.int .i64 s, .int .i64 v, .slice a (flen k) c] 25)).alloc (.cells #[.int .i64 s', .int .i64 v', .slice a' (flen k') c'] 25)).heap.size := by simp
  clear hb0 hl hl'
  go_enter Tryz.func14, Tryz.ntmps14
  go_wp2_with fail
  with_reducible refine (sTermOk_any s v a c k _ HL0.out).mono ?_
  rintro e w1 ⟨rfl, hb1⟩
  have hb1' := HB0.out.trans (hb1.mono hsz)
  obtain ⟨hr0, hr1, hr2, hr3, hr4, hr5⟩ := two_boxesM hb1'
  have HW1 := Lib.hid (below_next HW0.out hb1)
  have HL1 := Lib.hid (HL0.out.next hb1)
  have HL1' := Lib.hid (HL0'.out.next hb1)
  have HB1 := Lib.hid hb1'
  have hsz1 : w.heap.size + 2 ≤ w1.heap.size := Nat.le_trans hsz hb1.size
  clear hb1 hb1' HB0 hsz HL0 HL0' HW0
  by_cases hok : okW s v k 16 = true
  case neg =>
    have hf : okW s v k 16 = false := by simpa using hok
    have HP : Hid (MaPost s v k s' v' k' w (.returned (.tuple #[.slice (some ⟨w1.heap.size, 0, none⟩) 0 0, .bool false])) (w1.alloc (.cells #[] 39))) := ma_none (maR_bad fun h => hok h.1) (below_next HW1.out (box_low _ _))
    rw [hf]
    clear hok hf
    go_wp2_with fail
    refine bodyPost_ret (v := .tuple #[.slice (some ⟨w1.heap.size, 0, none⟩) 0 0, .bool false]) ?_ rfl HP.out
    simp [results, Tryz.results14, go_sem]
  rw [hok]
  go_wp2_with fail
  with_reducible refine (sTermOk_any s' v' a' c' k' _ HL1'.out).mono ?_
  rintro e w2 ⟨rfl, hb2⟩
  have HW2 := Lib.hid (below_next HW1.out hb2)
  have hb2' := HB1.out.trans (hb2.mono hsz1)
  have HL2 := Lib.hid (HL1.out.next hb2)
  have HL2' := Lib.hid (HL1'.out.next hb2)
  clear hr0 hr1 hr2 hr3 hr4 hr5 hb2 HL1 HL1' HB1
  by_cases hok' : okW s' v' k' 16 = true
  case neg =>
    have hf : okW s' v' k' 16 = false := by simpa using hok'
    have HP : Hid (MaPost s v k s' v' k' w (.returned (.tuple #[.slice (some ⟨w2.heap.size, 0, none⟩) 0 0, .bool false])) (w2.alloc (.cells #[] 39))) := ma_none (maR_bad fun h => hok' h.2) (below_next HW2.out (box_low _ _))
    rw [hf]
    clear hok hf hok' hb2'
    go_wp2_with fail
    refine bodyPost_ret (v := .tuple #[.slice (some ⟨w2.heap.size, 0, none⟩) 0 0, .bool false]) ?_ rfl HP.out
    simp [results, Tryz.results14, go_sem]
  obtain ⟨o1, o2, o3⟩ := (okW_iff _ _ _ _).1 hok
  obtain ⟨p1, p2, p3⟩ := (okW_iff _ _ _ _).1 hok'
  have hbm : Below w2.heap.size w2 (w2.alloc (.cells #[] 39)) := (Below.refl _ _).alloc (Nat.le_refl _) _
  have hb3' := hb2'.trans (hbm.mono (show w.heap.size + 2 ≤ w2.heap.size by have := hb2'.size; simp at this; omega))
  obtain ⟨hr0, hr1, hr2, hr3, hr4, hr5⟩ := two_boxesM hb3'
  have HOK := Lib.hid hok
  have HOK' := Lib.hid hok'
  have HWM := Lib.hid (below_next HW2.out hbm)
  have HC : Hid (Calls Tryz.prog 39 #[.slice (some ⟨w2.heap.size, 0, none⟩) 0 0, .agg #[.int .i64 s, .int .i64 v, .slice a (flen k) c], .agg #[.int .i64 s', .int .i64 v', .slice a' (flen k') c']] (w2.alloc (.cells #[] 39)) (LmPost [] s v k s' v' k' (w2.alloc (.cells #[] 39)))) := (l2Match_any (fsz k) [] (some ⟨w2.heap.size, 0, none⟩) 0 s v a c k s' v' a' c' k' (w2.alloc (.cells #[] 39)) (.inl rfl) (Bof.nil _) (HL2.out.next hbm) (HL2'.out.next hbm) o1 o2 p1 p2 (by omega) (Nat.le_refl _) (by omega) (by simp; omega))
  rw [hok']
  clear hok hok' o1 o2 p1 p2 hbm hb2' hb3'
  go_wp2_with fail
  with_reducible refine HC.out.mono ?_
  rintro e w3 ⟨A, C, b1, t, rfl, hb3, hs3, hcase⟩
  have HW3 := Lib.hid (below_next HWM.out hb3)
  have HS3 := Lib.hid hs3
  clear hb3 hs3 hr0 hr1 hr2 hr3 hr4 hr5 HC
  rcases hcase with ⟨rfl, ht⟩ | ⟨rfl, ht⟩
  · have HP : Hid (MaPost s v k s' v' k' w (.returned (.tuple #[.slice A b1.length C, .bool true])) w3) := ⟨A, C, b1, true, maR_of HOK.out HOK'.out ht, rfl, HW3.out, HS3.out⟩
    clear ht
    go_wp2_with fail
    refine bodyPost_ret (v := .tuple #[.slice A b1.length C, .bool true]) ?_ rfl HP.out
    simp [results, Tryz.results14, go_sem]
  · have HP : Hid (MaPost s v k s' v' k' w (.returned (.tuple #[.slice (some ⟨w3.heap.size, 0, none⟩) 0 0, .bool false])) (w3.alloc (.cells #[] 39))) := ma_none (maR_no ht) (below_next HW3.out (box_low _ _))
    clear ht
    go_wp2_with fail
    refine bodyPost_ret (v := .tuple #[.slice (some ⟨w3.heap.size, 0, none⟩) 0 0, .bool false]) ?_ rfl HP.out
    simp [results, Tryz.results14, go_sem]
end Go.Proofs.YtpfkhgiiojikbaaGreat

/-! S9: - DrawSubstDo. -/
namespace Go.Proofs.YtpfkhgiiojikbaaGreat
open Go.RowKit Go.Deep

def DsdPost (w : World) (e : Ending) (w' : World) : Prop :=
  ∃ bs A C s v a c k, e = .returned (.tuple #[.slice A (List.length bs) C, .agg #[.int .i64 s, .int .i64 v, .slice a (flen k) c]]) ∧ bs.length ≤ 20 ∧ 1 + fsz k ≤ 31000 ∧ Below w.heap.size w w' ∧ BSl w' w.heap.size w'.heap.size A bs ∧ Sl w' w.heap.size w'.heap.size a k

theorem dsd_end {w w1 : World} {o : Obj} {s v : Int} {a A : Option Addr} {c C : Nat} {k : Fo} {bs : List Bd} (hb : Below (w.heap.size + 1) (w.alloc o) w1) (hS : 1 + fsz k ≤ 31000) (hpl : bs.length ≤ 20) (hl : Sl w1 (w.heap.size + 1) w1.heap.size a k) (hi : BSl w1 (w.heap.size + 1) w1.heap.size A bs) (x y z : Value) :
    DsdPost w (.returned (.tuple #[.slice A bs.length C, .agg #[.int .i64 s, .int .i64 v, .slice a (flen k) c]])) (((w1.setCell ⟨w.heap.size, 0, none⟩ x).setCell ⟨w.heap.size, 1, none⟩ y).setCell ⟨w.heap.size, 2, none⟩ z) := by
  have hs : Same (w.heap.size + 1) w1.heap.size w1 (((w1.setCell ⟨w.heap.size, 0, none⟩ x).setCell ⟨w.heap.size, 1, none⟩ y).setCell ⟨w.heap.size, 2, none⟩ z) :=
    (((Same.setCell (fun _ _ _ => rfl) (.inl (by simp)) _).setCell (.inl (by simp)) _).setCell (.inl (by simp)) _)
  have hb' : Below w.heap.size w w1 := ((Below.refl _ _).alloc (Nat.le_refl _) o).trans (hb.mono (by omega))
  exact ⟨bs, A, C, s, v, a, c, k, rfl, hpl, hS, ((hb'.setCell (Nat.le_refl _) _).setCell (Nat.le_refl _) _).setCell (Nat.le_refl _) _, (hi.same hs).mono (by omega) (by simp), (hl.same hs).mono (by omega) (by simp)⟩

end Go.Proofs.YtpfkhgiiojikbaaGreat

/-! DMz: Draws, their terms without marks. -/
namespace Go.Proofs.YtpfkhgiiojikbaaGreat
open Go.RowKit Go.Deep

def DmPostZ (w : World) (e : Ending) (w' : World) : Prop :=
  ∃ s v a c k s' v' a' c' k', e = .returned (.tuple #[.agg #[.int .i64 s, .int .i64 v, .slice a (flen k) c], .agg #[.int .i64 s', .int .i64 v', .slice a' (flen k') c']]) ∧ (1 + fsz k ≤ 31000 ∧ Zf k) ∧ (1 + fsz k' ≤ 31000 ∧ Zf k') ∧ Below w.heap.size w w' ∧ Sl w' w.heap.size w'.heap.size a k ∧ Sl w' w.heap.size w'.heap.size a' k'
theorem DrawMatchOf_z (a0 : Option Addr) (len cap : Nat) (w : World) (hby : Bytes w a0 len) (hlen : len ≤ cap) :
    Calls Tryz.prog 13 #[.slice a0 len cap] w (DmPostZ w) := by
  refine (DrawMatchOf_any a0 len cap w hby hlen).mono ?_
  rintro e w' ⟨s, v, a, c, k, s', v', a', c', k', rfl, h1, h2, hb, hl, hl'⟩
  exact ⟨s, v, a, c, fer k, s', v', a', c', fer k', by rw [fer_len, fer_len], ⟨by rw [fer_sz]; exact h1, zf_fer k⟩, ⟨by rw [fer_sz]; exact h2, zf_fer k'⟩, hb, hl.fer, hl'.fer⟩
end Go.Proofs.YtpfkhgiiojikbaaGreat

/-! FrameO: What every row's closing text needs. -/
namespace Go.Proofs.YtpfkhgiiojikbaaGreat
theorem Tryz.own : ownKnob Tryz.prog.godebug = none := by kernel_rfl
theorem Tryz.laidOut : laidOutB Tryz.prog = true := by kernel_rfl
end Go.Proofs.YtpfkhgiiojikbaaGreat

/-! Frame: A slice of bytes that came in, as the walks take it. -/
namespace Go.Proofs.YtpfkhgiiojikbaaGreat
open Go.ChangeShapes Go.WideShapes Go.ChangeAt Go.RowKit

/-- A slice of bytes: it is nil; or it leads to a row of cap cells. -/
def IsRow (w : World) (a : Option Addr) (len cap : Nat) (zs : List Int) : Prop :=
  (a = none ∧ len = 0 ∧ cap = 0 ∧ zs = []) ∨
  ∃ x, a = some x ∧ len ≤ cap ∧ cap ≤ maxLen ∧ zs.length = cap ∧ (∀ i, i < zs.length → w.cell? (x.add i) = some (.int .u8 (zs.getD i 0))) ∧ ∀ n ∈ zs, (Lit.int .u8 n).wf = true

theorem bytes_of_row {w : World} {a : Option Addr} {len cap : Nat} {zs : List Int} (h : IsRow w a len cap zs) : Bytes w a len ∧ len ≤ cap := by
  rcases h with ⟨_, h1, h2, _⟩ | ⟨x, rfl, h1, _, h2, h3, h4⟩
  · exact ⟨.inl h1, by omega⟩
  · refine ⟨?_, h1⟩
    by_cases hl : len = 0
    · exact .inl hl
    · obtain ⟨b, o, spot⟩ := x
      have c0 := h3 0 (by omega)
      have hs : spot = none := by simpa [Addr.add] using World.cell?_spot c0
      subst hs
      have ha : ∀ n, (⟨b, o, none⟩ : Addr).add n = ⟨b, o + n, none⟩ := fun n => by unfold Addr.add; split <;> simp_all
      rw [ha] at c0
      refine .inr ⟨b, o, rfl, World.block_lt_of_cell? _ _ c0, fun i hi => ?_⟩
      have ci := h3 i (by omega)
      rw [ha] at ci
      have hm : zs.getD i 0 ∈ zs := by
        rw [List.getD_eq_getElem?_getD, List.getElem?_eq_getElem (by omega)]
        exact List.getElem_mem _
      have hb := bounds_u8 (h4 _ hm)
      obtain ⟨n, hn⟩ := Int.eq_ofNat_of_zero_le hb.1
      exact ⟨n, by omega, by rw [ci, hn]⟩

/-- Out of the reading of an argument. -/
theorem row_of_trod {H : Type} {enc : TypeId × Value → H} {W : World} {a : Option Addr} {len cap : Nat} {d : DataW H} {p : List MemPlace} (h : DataW.Trod enc Tryz.prog W 0 (fun _ => true) true 22 (.slice a len cap) d p) : ∃ zs, IsRow W a len cap zs := by
  obtain ⟨fuel, hf⟩ := h
  rcases open_ints Tryz.underlying22 Tryz.underlying5 (by kernel_rfl) hf with ⟨hcs, _⟩ | ⟨x, l, c, zs, hcs, _, hl, hm, hz, _, hcell, hwz⟩
  · simp [Value.cells] at hcs
    obtain ⟨rfl, rfl, rfl⟩ := hcs
    exact ⟨[], .inl ⟨rfl, rfl, rfl, rfl⟩⟩
  · simp [Value.cells] at hcs
    obtain ⟨rfl, rfl, rfl⟩ := hcs
    exact ⟨zs, .inr ⟨_, rfl, hl, hm, by simpa using hz, hcell, hwz⟩⟩

end Go.Proofs.YtpfkhgiiojikbaaGreat
