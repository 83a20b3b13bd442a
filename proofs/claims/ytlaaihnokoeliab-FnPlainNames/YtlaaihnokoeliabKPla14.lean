/- Several texts in one: MA, PF2, RFp, S7. -/
import Derived.Test.YtlaaihnokoeliabKPla13
import Derived.Test.YtlaaihnokoeliabKPla6
import Derived.Test.YtlaaihnokoeliabKPla4
import Derived.Test.YtlaaihnokoeliabKPla11
import Derived.Deep.AppendLies

/-! MA: kidsAgree and match: what a pattern binds goes into the map. -/
namespace Go.Proofs.Ytlaaihnokoeliab
open Go.RowKit Go.Deep Go.Maps

def MtPost (base b : Nat) (bs : List Bd) (s v : Int) (k : Fo) (s' v' : Int) (k' : Fo) (w : World) (e : Ending) (w' : World) : Prop :=
  Kp base w w' ∧ ((∃ bs', tmt bs s v k s' v' k' = some bs' ∧ e = .returned (.bool true) ∧ MapIs w' b bs') ∨ (tmt bs s v k s' v' k' = none ∧ e = .returned (.bool false)))
/-- The matching at all smaller patterns. -/
def MtTo (base b M : Nat) : Prop :=
  ∀ {s v : Int} {k : Fo} {pv : Value} {s' v' : Int} {k' : Fo} {tv : Value} {bs : List Bd} {w : World}, MapIs w b bs → Bof bs 1000 → base ≤ w.heap.size → Nj w pv s v k → Nj w tv s' v' k' → bs.length + (1 + fsz k) ≤ 1000 → fsz k < M →
    Calls Try.prog 41 #[.map (some b), pv, tv] w (MtPost base b bs s v k s' v' k' w)

set_option maxRecDepth 100000 in
set_option maxHeartbeats 2000000 in
theorem kidsAgree_any {base b M : Nat} (H : MtTo base b M) {s v : Int} {k : Fo} {pv : Value} {s' v' : Int} {k' : Fo} {tv : Value} {bs : List Bd} {w : World} (hs : s ≠ 0) (hm : MapIs w b bs) (hbo : Bof bs 1000) (hbw : base ≤ w.heap.size) (h : Nj w pv s v k) (h' : Nj w tv s' v' k') (hbl : bs.length + (1 + fsz k) ≤ 1000) (hM : fsz k ≤ M) :
    Calls Try.prog 69 #[pv, tv, .func (.func 41) #[.map (some b)] #[]] w (MtPost base b bs s v k s' v' k' w) := by
  have HP := Lib.hid h
  have HT := Lib.hid h'
  have HM := Lib.hid hm
  have HH : Hid (MtTo base b M) := H
  have HBO := Lib.hid hbo
  have hfl := flen_le_sz k
  have hsm := h.small
  clear h h' hm H hbo
  go_enter Try.func69, Try.ntmps69
  go_wp2_with fail
  with_reducible refine (signOfI_any HP.out).mono ?_
  rintro e w1 ⟨rfl, hb1⟩
  have HK1 := Lib.hid (Kp.of hb1 hbw)
  have HM1 := Lib.hid (HM.out.below hb1)
  have HP1 := Lib.hid (HP.out.next hb1)
  have HT1 := Lib.hid (HT.out.next hb1)
  have hs1 := hb1.size
  clear hb1
  go_wp2_with fail
  with_reducible refine (signOfI_any HT1.out).mono ?_
  rintro e w2 ⟨rfl, hb2⟩
  have HK2 := Lib.hid (HK1.out.trans (Kp.of hb2 (Nat.le_trans hbw hs1)))
  have HM2 := Lib.hid (HM1.out.below hb2)
  have HP2 := Lib.hid (HP1.out.next hb2)
  have HT2 := Lib.hid (HT1.out.next hb2)
  have hs2 := hb2.size
  clear hb2 HK1 HM1 HP1 HT1
  by_cases hss : s = s'
  case neg =>
    have e0 : (s != s') = true := by simp [hss]
    have HN := Lib.hid (tmt_other (bs := bs) (v := v) (v' := v') (k := k) (k' := k') hs hss)
    clear hss
    go_wp2_with fail
    go_ret
    exact ⟨HK2.out, .inr ⟨HN.out, rfl⟩⟩
  subst hss
  have e0 : (s != s) = false := by simp
  go_wp2_with fail
  with_reducible refine (kidsOf_any s v' k' tv w2.heap.size w2 HT2.out.node).mono ?_
  rintro e w3 ⟨a2, c2, rfl, hb3, hn2⟩
  have HK3 := Lib.hid (HK2.out.trans (Kp.of hb3 (by omega)))
  have HM3 := Lib.hid (HM2.out.below hb3)
  have HP3 := Lib.hid (HP2.out.next hb3)
  have HN2 : Hid (NSl w3 0 w3.heap.size a2 k') := (hn2.below hb3).mono (Nat.le_refl _) hb3.size
  have hs3 := hb3.size
  clear hb3 hn2 HK2 HM2 HP2 HT2
  go_wp2_with fail
  with_reducible refine (kidsOf_any s v k pv w3.heap.size w3 HP3.out.node).mono ?_
  rintro e w4 ⟨a1, c1, rfl, hb4, hn1⟩
  have HK4 := Lib.hid (HK3.out.trans (Kp.of hb4 (by omega)))
  have HM4 := Lib.hid (HM3.out.below hb4)
  have HN1 : Hid (NSl w4 0 w4.heap.size a1 k) := (hn1.below hb4).mono (Nat.le_refl _) hb4.size
  have HN2' : Hid (NSl w4 0 w4.heap.size a2 k') := (HN2.out.below hb4).mono (Nat.le_refl _) hb4.size
  have hs4 := hb4.size
  have hfl2 := flen_same HP.out.okn HT.out.okn
  have HFE := Lib.hid (tmt_sym (bs := bs) (v := v) (v' := v') (k := k) (k' := k') hs)
  have HFK := Lib.hid HP.out.ok
  have HFK' := Lib.hid HT.out.ok
  have hsm' := HT.out.small
  clear hb4 hn1 HN2 HK3 HM3 HP3 HP HT HM
  have HFL := Lib.hid hfl2
  clear hfl2
  go_wp2_with fail
  go_loopw [20] (fun i wr => ∃ (j : Nat) (b1 : List Bd), i = .int .i64 j ∧ j ≤ flen k ∧ Hid (fmt bs k k' = fmt b1 (fdrop j k) (fdrop j k')) ∧ Hid (MapIs wr b b1) ∧ Hid (Bof b1 1000) ∧ Hid (Kp base w4 wr) ∧ Hid (b1.length + fsz (fdrop j k) ≤ bs.length + fsz k)) (fun i _ => flen k - (intOf i).toNat)
  case atStart => exact ⟨0, bs, rfl, Nat.zero_le _, rfl, HM4, HBO, Kp.refl _ _, Nat.le_refl _⟩
  case round =>
    clear HM4 HBO
    obtain ⟨j, b1, rfl, hj, HF, HMr, HBr, HKr, HLr⟩ := hrel
    have hkr := HKr.out.low.size
    by_cases hlt : j < flen k
    · have hlt' : j < flen k' := by rw [← HFL.out]; exact hlt
      have hnr := HN1.out.kp HKr.out
      rcases hnr with rfl | ⟨kb, ko, rfl, hrow⟩
      · simp [flen] at hlt
      have hnr' := HN2'.out.kp HKr.out
      rcases hnr' with rfl | ⟨kb', ko', rfl, hrow'⟩
      · simp [flen] at hlt'
      obtain ⟨s1, v1, k1, val1, ⟨x, y, hd⟩, _, _, hc, hn⟩ := nrow_at hrow hlt
      obtain ⟨s2, v2, k2, val2, ⟨x', y', hd'⟩, _, _, hc', hn'⟩ := nrow_at hrow' hlt'
      have hk1 := fok_kid HFK.out hd
      have hk2 := fok_kid HFK'.out hd'
      have z1 := fsz_kid hd
      have z2 := fsz_kid hd'
      have HST := Lib.hid (fmt_step (bs := b1) hd hd')
      have hzd := fsz_dropN hd
      have hl1 := HLr.out
      have HZ : Hid (b1.length + (1 + fsz k1) + fsz (fdrop (j + 1) k) ≤ bs.length + fsz k) := by show _ ≤ _; omega
      have HCALL := Lib.hid (HH.out HMr.out HBr.out (Nat.le_trans (by omega) hkr) ⟨hn, hk1.1, hk1.2, by omega⟩ ⟨hn', hk2.1, hk2.2, by omega⟩ (by omega) (by omega))
      have g1 : (0 : Int) ≤ (j : Int) := by omega
      have g2 : (j : Int) < (flen k : Int) := by omega
      have g3 : (j : Int) < (flen k' : Int) := by omega
      have HOF : Hid (∀ b2, tmt b1 s1 v1 k1 s2 v2 k2 = some b2 → Bof b2 1000) := fun b2 h => tmt_of h HBr.out hk2.1 hk2.2 (by omega)
      clear hn hn' hd hd' hk1 hk2 hrow hrow' hzd hl1
      go_wp2_with fail
      with_reducible refine HCALL.out.mono ?_
      rintro e w5 ⟨hkp, hcase⟩
      have HK5 := Lib.hid (HKr.out.trans hkp)
      clear hkp HCALL hc hc'
      rcases hcase with ⟨b2, ht, rfl, hm2⟩ | ⟨ht, rfl⟩
      · have HF2 : Hid (fmt bs k k' = fmt b2 (fdrop (j + 1) k) (fdrop (j + 1) k')) := by rw [Hid, HF.out, HST.out, ht]; rfl
        have HM5 := Lib.hid hm2
        have HB5 := Lib.hid (HOF.out b2 ht)
        have HL5 : Hid (b2.length + fsz (fdrop (j + 1) k) ≤ bs.length + fsz k) := by have h1 := tmt_blen ht; have h2 := HZ.out; show _ ≤ _; omega
        clear ht hm2
        go_wp2_with fail
        go_roundw
        case rel => exact ⟨j + 1, b2, by go_num, by omega, HF2, HM5, HB5, HK5, HL5⟩
        case measure => simp [intOf]; omega
      · have HN : Hid (tmt bs s v k s v' k' = none) := by rw [Hid, HFE.out, HF.out, HST.out, ht]; rfl
        clear ht
        go_wp2_with fail
        go_ret
        exact ⟨HK4.out.trans HK5.out, .inr ⟨HN.out, rfl⟩⟩
    · have HS : Hid (tmt bs s v k s v' k' = some b1) := by rw [Hid, HFE.out, HF.out, fdrop_all (by omega), fdrop_all (k := k') (by have := HFL.out; omega)]; rfl
      go_wp2_with fail
      go_ret
      exact ⟨HK4.out.trans HKr.out, .inl ⟨b1, HS.out, rfl, HMr.out⟩⟩

set_option maxRecDepth 100000 in
set_option maxHeartbeats 2000000 in
theorem match_any {base b : Nat} (hbb : base ≤ b) (M : Nat) : MtTo base b M := by
  induction M with
  | zero => intro s v k pv s' v' k' tv bs w _ _ _ _ _ _ hM; omega
  | succ M ih =>
    intro s v k pv s' v' k' tv bs w hm hbo hbw hp ht hbl hM
    have hta := assert_varV
    have htb := assert_symV
    have hz := zeroE
    have HH : Hid (MtTo base b M) := ih
    have HM := Lib.hid hm
    have HP := Lib.hid hp
    have HT := Lib.hid ht
    have HBO := Lib.hid hbo
    clear hm hp ht hbo ih
    have hnode := HP.out.node
    rcases hnode with ⟨rfl, rfl, rfl⟩ | ⟨hs, a, c, rfl, hn⟩
    · have hv := ((okN_iff _ _ _).1 HP.out.okn).2.1 rfl
      have HWF : Hid ((Lit.int .i64 v).wf = true) := WalkArith.wf_i64 (by omega)
      obtain ⟨n, D, hown, hnl, hsv⟩ := HM.out
      have HOWN := Lib.hid hown
      have HKEY := Lib.hid (key_of HWF.out)
      have hx := hsv v HWF.out
      have HSV := Lib.hid hsv
      have HNL := Lib.hid hnl
      clear hown hsv
      cases hs : sv bs v with
      | some u =>
        obtain ⟨s1, v1, k1⟩ := u
        obtain ⟨hh, nv0, hat, hnode⟩ := hx.2 s1 v1 k1 hs
        have hbo1 := HBO.out v _ hs
        have HNJ : Hid (Nj w nv0 s1 v1 k1) := ⟨hnode, hbo1.1, hbo1.2.1, by have := hbo1.2.2; dsimp only at this; omega⟩
        have HAT := Lib.hid hat
        have HE2 := Lib.hid (mtV_found (t := (s', v', k')) hs)
        clear hx hs hnode hat hbo1
        go_enter Try.func41, Try.ntmps41
        go_wp2_with (at_lookup; refine wpList_lookup_own_ok (H := Value) _ rfl _ _ 62 rfl 95 58 law underM rdV (zeroE _) (.held .nilIface) [] rfl b n D rfl HOWN.out (.int .i64 v) (.int .i64 v) rfl HKEY.out ?_; intro nv ps hnv; rw [hh]; have HE : Hid (nv0 = nv) := (by have := HAT.out; simp only [rdV, Option.some.injEq, Prod.mk.injEq] at hnv; rw [this] at hnv; exact (DataW.held.inj hnv.1).symm); clear hnv)
        obtain rfl : nv0 = nv := HE.out
        with_reducible refine (sameNodeI_any HNJ.out HT.out).mono ?_
        rintro e w2 ⟨rfl, hb2⟩
        have HK2 := Lib.hid (Kp.of hb2 hbw)
        have HM2 := Lib.hid (HM.out.below hb2)
        clear hb2
        go_wp2_with fail
        go_ret
        refine ⟨HK2.out, ?_⟩
        rw [tmt_zero]
        rw [HE2.out]
        dsimp only
        cases teq s1 v1 k1 s' v' k' with
        | true => exact .inl ⟨bs, rfl, rfl, HM2.out⟩
        | false => exact .inr ⟨rfl, rfl⟩
      | none =>
        have hh := hx.1 hs
        have HE2 := Lib.hid (mtV_none (t := (s', v', k')) hs)
        have HS := Lib.hid hs
        have hn12 : n < 2000 := by omega
        have hnm : n < maxLen := by unfold maxLen; omega
        have HSL : Hid (∀ x, sv (ladd bs (v, s', v', k')) x = sv (bs ++ [(v, s', v', k')]) x) := fun x => by rw [sv_ladd (b := (v, s', v', k')) hs, sv_snoc (x := (v, s', v', k')) hs]
        clear hx hs
        go_enter Try.func41, Try.ntmps41
        go_wp2_with (first | (at_lookup; refine wpList_lookup_own_ok (H := Value) _ rfl _ _ 62 rfl 95 58 law underM rdV (zeroE _) (.held .nilIface) [] rfl b n D rfl HOWN.out (.int .i64 v) (.int .i64 v) rfl HKEY.out ?_; intro nv ps hnv; rw [hh]; clear hnv) | (at_mapUpdate; refine wpList_mapUpdate_own (H := Value) _ rfl _ _ _ 62 rfl 95 58 law underM rdV b n D rfl HOWN.out hnm (.int .i64 v) tv (.int .i64 v) rfl rfl HKEY.out (.held tv) [] rfl ?_; intro w3 hown3 hgrow3; have HM3 := Lib.hid (MapIs.put HNL.out HSV.out HOWN.out hown3 hgrow3 HS.out HT.out.node); have HK3 : Hid (Kp base w w3) := ⟨(Below.refl _ _).grown hgrow3 hbw (fun g hg => by cases hg; exact hbb), cells_keep HOWN.out hgrow3⟩; clear hown3 hgrow3))
        go_ret
        refine ⟨HK3.out, .inl ⟨_, ?_, rfl, HM3.out.congr HSL.out (by rw [ladd_len]; simp)⟩⟩
        rw [tmt_zero]; exact HE2.out
    · have HC := Lib.hid (kidsAgree_any HH.out hs HM.out HBO.out hbw HP.out HT.out hbl (by omega))
      clear hn
      go_enter Try.func41, Try.ntmps41
      go_wp2_with fail
      with_reducible refine HC.out.mono ?_
      rintro e w2 ⟨hkp, hcase⟩
      rcases hcase with ⟨b2, ht, rfl, hm2⟩ | ⟨ht, rfl⟩
      · have HM2 := Lib.hid hm2
        have HT2 := Lib.hid ht
        have HK2 := Lib.hid hkp
        clear ht hm2 hkp
        go_wp2_with fail
        go_ret
        exact ⟨HK2.out, .inl ⟨b2, HT2.out, rfl, HM2.out⟩⟩
      · have HT2 := Lib.hid ht
        have HK2 := Lib.hid hkp
        clear ht hkp
        go_wp2_with fail
        go_ret
        exact ⟨HK2.out, .inr ⟨HT2.out, rfl⟩⟩
end Go.Proofs.Ytlaaihnokoeliab

/-! PF2: Rows of rows of the call's own, each row in blocks of its own. Definitions and plain lemmas. -/
namespace Go.Proofs.Ytlaaihnokoeliab
open Go.RowKit Go.Deep

/-- A row of numbers of one's own, in blocks from L on below H. -/
structure RwF (w : World) (L H : Nat) (a : Option Addr) (c : Nat) (r : List Int) : Prop where
  own : IOwn w L r a c
  hi : ∀ g, (Value.slice a r.length c).ownBlock = some g → g < H
theorem RwF.same {w w2 : World} {L H : Nat} {a : Option Addr} {c : Nat} {r : List Int} (h : RwF w L H a c r) (hs : ∀ b, L ≤ b → b < H → w2.heap[b]? = w.heap[b]?) : RwF w2 L H a c r := by
  refine ⟨⟨h.own.1, ?_⟩, h.hi⟩
  rcases h.own.2 with h2 | ⟨g, cap, cur, h3, h4, h5, h6⟩
  · exact .inl h2
  · have hg : g < H := h.hi g (by rw [h3]; rfl)
    exact .inr ⟨g, cap, cur, h3, h4, by rw [hs g h4 hg]; exact h5, h6⟩
theorem RwF.sc {w : World} {L H : Nat} {a : Option Addr} {c : Nat} {r : List Int} (h : RwF w L H a c r) : ISc w L H a c r := by
  refine ⟨?_, (isc_of_own h.own).2⟩
  rcases Nat.eq_zero_or_pos r.length with h0 | h0
  · exact .inl (List.eq_nil_of_length_eq_zero h0)
  · obtain ⟨g, cap, hv, hb, hlt⟩ := h.own.form h0
    have hg : g < H := h.hi g (by rw [hv]; rfl)
    rcases h.own.sl with h1 | ⟨b, o, e, h1, h2, h3⟩
    · exact .inl h1
    · simp only [Value.slice.injEq] at hv
      rw [hv.1] at e
      simp only [Option.some.injEq, Addr.mk.injEq] at e
      refine .inr ⟨b, o, by rw [hv.1]; simp [e.1, e.2.1], h1, by omega, h3⟩

/-- The rows lie in row (A, C), row i from block lo i on below hi i, one behind the other. -/
structure RF (w : World) (base : Nat) (rows : List (List Int)) (A : Option Addr) (C : Nat) (xs : List Value) (lo hi : Nat → Nat) : Prop where
  own : w.ownsRow base 38 1 (.slice A rows.length C) rows.length xs
  up : ∀ i j, i < j → j < rows.length → hi i ≤ lo j
  at_ : ∀ (i : Nat) (r : List Int), rows[i]? = some r → ∃ a' c', xs[i]? = some (Value.slice a' r.length c') ∧ RwF w (lo i) (hi i) a' c' r ∧ base ≤ lo i ∧ hi i ≤ w.heap.size ∧ (∀ g, (Value.slice A rows.length C).ownBlock = some g → g < lo i ∨ hi i ≤ g)
def ROwnF (w : World) (base : Nat) (rows : List (List Int)) (A : Option Addr) (C : Nat) : Prop := ∃ xs lo hi, RF w base rows A C xs lo hi
theorem RF.all {w : World} {base : Nat} {rows : List (List Int)} {A : Option Addr} {C : Nat} {xs : List Value} {lo hi : Nat → Nat} (h : RF w base rows A C xs lo hi) :
    ∀ (i : Nat) (r : List Int), rows[i]? = some r → ∃ a' c' L H, xs[i]? = some (Value.slice a' r.length c') ∧ ISc w L H a' c' r ∧ base ≤ L ∧ H ≤ w.heap.size ∧ (∀ g, (Value.slice A rows.length C).ownBlock = some g → g < L ∨ H ≤ g) := fun i r hr => by
  obtain ⟨a', c', hx, hw, h1, h2, h3⟩ := h.at_ i r hr
  exact ⟨a', c', lo i, hi i, hx, hw.sc, h1, h2, h3⟩
theorem ROwnF.to {w : World} {base : Nat} {rows : List (List Int)} {A : Option Addr} {C : Nat} (h : ROwnF w base rows A C) : ROwn w base rows A C := by
  obtain ⟨xs, lo, hi, h⟩ := h
  exact ⟨xs, h.own, h.all⟩
theorem RF.low {w w2 : World} {base base' : Nat} {rows : List (List Int)} {A : Option Addr} {C : Nat} {xs : List Value} {lo hi : Nat → Nat} (h : RF w base rows A C xs lo hi) (hb : Below w.heap.size w w2) (hbase : base' ≤ base) : RF w2 base' rows A C xs lo hi := by
  refine ⟨own_base hbase (own_low hb h.own), h.up, fun i r hr => ?_⟩
  obtain ⟨a', c', hx, hw, h1, h2, h3⟩ := h.at_ i r hr
  exact ⟨a', c', hx, hw.same (fun b _ hb' => hb.block b (by omega)), by omega, Nat.le_trans h2 hb.size, h3⟩
theorem ROwnF.low {w w2 : World} {base base' : Nat} {rows : List (List Int)} {A : Option Addr} {C : Nat} (h : ROwnF w base rows A C) (hb : Below w.heap.size w w2) (hbase : base' ≤ base) : ROwnF w2 base' rows A C := by
  obtain ⟨xs, lo, hi, h⟩ := h
  exact ⟨xs, lo, hi, h.low hb hbase⟩
/-- One more row is appended. -/
theorem RF.append {w w2 w3 : World} {base : Nat} {rows : List (List Int)} {A A' : Option Addr} {C C' : Nat} {blk : Obj} {r : List Int} {a2 : Option Addr} {c2 : Nat} {xs : List Value} {lo hi : Nat → Nat} (h : RF w base rows A C xs lo hi)
    (hown3 : w3.ownsRow base 38 1 (.slice A' (rows.length + 1) C') (rows.length + 1) (xs ++ [.slice a2 r.length c2])) (hb2 : Below w.heap.size w w2) (hi2 : IOwn w2 w.heap.size r a2 c2) (hbase : base ≤ w.heap.size)
    (hgrow : (w2.alloc blk).grownBy w3 (Value.slice A rows.length C).ownBlock) (hat : (Value.slice A' (rows.length + 1) C').ownBlock = (Value.slice A rows.length C).ownBlock ∨ (Value.slice A' (rows.length + 1) C').ownBlock = some (w2.heap.size + 1)) : ROwnF w3 base (rows ++ [r]) A' C' := by
  have hs2 := hb2.size
  have hs3 := hgrow.size
  simp at hs3
  have hxl : xs.length = rows.length := by have := h.own.1; omega
  have hl : (rows ++ [r]).length = rows.length + 1 := by simp
  refine ⟨xs ++ [.slice a2 r.length c2], fun i => if i < rows.length then lo i else w.heap.size, fun i => if i < rows.length then hi i else w2.heap.size, by rw [hl]; exact hown3, fun i j hij hj => ?_, fun i r' hr => ?_⟩
  · rw [hl] at hj
    rw [if_pos (by omega)]
    split
    · exact h.up i j hij (by omega)
    · obtain ⟨a', c', _, _, _, h2, _⟩ := h.at_ i rows[i] (List.getElem?_eq_getElem (by omega))
      exact h2
  have hcond : ∀ {L H : Nat}, (∀ g, (Value.slice A rows.length C).ownBlock = some g → g < L ∨ H ≤ g) → H ≤ w2.heap.size → ∀ g', (Value.slice A' (rows.length + 1) C').ownBlock = some g' → g' < L ∨ H ≤ g' := fun hg hH g' hg' => by
    rcases hat with h1 | h1
    · exact hg g' (by rw [← h1]; exact hg')
    · rw [h1] at hg'; simp at hg'; omega
  by_cases hi' : i < rows.length
  · rw [List.getElem?_append_left hi'] at hr
    obtain ⟨a', c', hx, hsl, hL, hH, hg⟩ := h.at_ i r' hr
    simp only [if_pos hi']
    refine ⟨a', c', by rw [List.getElem?_append_left (by omega)]; exact hx, hsl.same (fun b h1 h2 => ?_), hL, by omega, by rw [hl]; exact hcond hg (by omega)⟩
    rw [hgrow.block b (by simp; omega) (fun e => by have := hg b e.symm; omega), Below.heap_alloc _ _ _ (by omega), hb2.block b (by omega)]
  · have hir : i = rows.length := by
      have := (List.getElem?_eq_some_iff.1 hr).1
      simp at this
      omega
    subst hir
    simp at hr
    subst hr
    simp only [if_neg hi']
    refine ⟨a2, c2, by rw [← hxl]; simp, RwF.same ⟨hi2, fun g hg => (hi2.lt g hg).2⟩ (fun b h1 h2 => ?_), hbase, by omega, by rw [hl]; exact hcond (fun g hg => .inl (h.own.lt _ hg).2) (Nat.le_refl _)⟩
    rw [hgrow.block b (by simp; omega) (fun e => by have := (h.own.lt b e.symm).2; omega), Below.heap_alloc _ _ _ (by omega)]

/-- The first row: the root's own. -/
theorem rownF_start {w w3 : World} (hb : Below ((w.alloc (.cells #[] 3)).alloc (.cells #[.slice (some ⟨w.heap.size, 0, none⟩) 0 0] 38)).heap.size ((w.alloc (.cells #[] 3)).alloc (.cells #[.slice (some ⟨w.heap.size, 0, none⟩) 0 0] 38)) w3) :
    ROwnF w3 w.heap.size [[]] (some ⟨w.heap.size + 1, 0, none⟩) 1 := by
  refine ROwnF.low (w := (w.alloc (.cells #[] 3)).alloc (.cells #[.slice (some ⟨w.heap.size, 0, none⟩) 0 0] 38)) ⟨[.slice (some ⟨w.heap.size, 0, none⟩) 0 0], fun _ => w.heap.size, fun _ => w.heap.size + 1, ⟨rfl, .inr ⟨w.heap.size + 1, 1, #[.slice (some ⟨w.heap.size, 0, none⟩) 0 0], rfl, by omega, ?_, Nat.le_refl _, by decide, rfl, rfl⟩⟩, fun i j h1 h2 => ?_, fun i r hr => ?_⟩ hb (Nat.le_refl _)
  · have := heap_alloc_new (w.alloc (.cells #[] 3)) (.cells #[.slice (some ⟨w.heap.size, 0, none⟩) 0 0] 38)
    simpa using this
  · simp at h2; omega
  · have hi : i = 0 := by
      have := (List.getElem?_eq_some_iff.1 hr).1
      simp at this
      exact this
    subst hi
    simp at hr
    subst hr
    refine ⟨_, 0, rfl, ⟨⟨rfl, .inr ⟨w.heap.size, 0, #[], rfl, Nat.le_refl _, ?_, Nat.le_refl _, by decide, rfl, rfl⟩⟩, fun g hg => by simp [Value.ownBlock] at hg; omega⟩, Nat.le_refl _, by simp, fun g hg => .inr (by simp [Value.ownBlock] at hg; omega)⟩
    rw [Below.heap_alloc _ _ _ (by simp)]
    exact heap_alloc_new _ _
end Go.Proofs.Ytlaaihnokoeliab

/-! RFp: Rows of rows: one row written over. -/
namespace Go.Proofs.Ytlaaihnokoeliab
open Go.RowKit Go.Deep

theorem own_block {W w2 : World} {base : Nat} {e : TypeId} {size : Nat} {v : Value} {n : Nat} {xs : List Value} (h : W.ownsRow base e size v n xs) (hs : ∀ g, v.ownBlock = some g → w2.heap[g]? = W.heap[g]?) : w2.ownsRow base e size v n xs := by
  refine ⟨h.1, ?_⟩
  rcases h.2 with h2 | ⟨g, cap, cur, h3, h4, h5, h6⟩
  · exact .inl h2
  · exact .inr ⟨g, cap, cur, h3, h4, by rw [hs g (by rw [h3]; rfl)]; exact h5, h6⟩

/-- Row j has been written over. -/
theorem RF.mark {w w2 : World} {base : Nat} {cur : List (List Int)} {A : Option Addr} {C : Nat} {xs : List Value} {lo hi : Nat → Nat} {j : Nat} {r r2 : List Int} {a : Option Addr} {c : Nat} (h : RF w base cur A C xs lo hi) (hr : cur[j]? = some r) (hx : xs[j]? = some (Value.slice a r.length c))
    (hl : r2.length = r.length) (hown : IOwn w2 (lo j) r2 a c) (hg : w.grownBy w2 (Value.slice a r.length c).ownBlock) : RF w2 base (cur.set j r2) A C xs lo hi := by
  have hj := (List.getElem?_eq_some_iff.1 hr).1
  obtain ⟨a', c', hx', hw, h1, h2, h3⟩ := h.at_ j r hr
  rw [hx] at hx'
  simp only [Option.some.injEq, Value.slice.injEq] at hx'
  obtain ⟨rfl, _, rfl⟩ := hx'
  have hs := hg.size
  have hb : ∀ g, (Value.slice a r.length c).ownBlock = some g → lo j ≤ g ∧ g < hi j := fun g hgg => ⟨(hw.own.lt g hgg).1, hw.hi g hgg⟩
  refine ⟨?_, fun i k hik hk => h.up i k hik (by rwa [List.length_set] at hk), fun i r' hr' => ?_⟩
  · rw [List.length_set]
    refine own_block h.own fun g hgg => hg.block g (h.own.lt g hgg).2 fun e => ?_
    have := h3 g hgg
    have := hb g e.symm
    omega
  · rw [List.length_set]
    by_cases e : i = j
    · subst e
      rw [List.getElem?_set_self hj] at hr'
      obtain rfl := Option.some.inj hr'
      exact ⟨a, c, by rw [hl]; exact hx, ⟨hown, by rw [hl]; exact hw.hi⟩, h1, by omega, h3⟩
    · rw [List.getElem?_set_ne (fun h => e h.symm)] at hr'
      obtain ⟨a', c', gx, gw, g1, g2, g3⟩ := h.at_ i r' hr'
      refine ⟨a', c', gx, gw.same (fun b hb1 hb2 => hg.block b (by omega) fun eb => ?_), g1, by omega, g3⟩
      have := hb b eb.symm
      have hi' := (List.getElem?_eq_some_iff.1 hr').1
      rcases Nat.lt_or_gt_of_ne e with hij | hij
      · have := h.up i j hij hj; omega
      · have := h.up j i hij hi'; omega
end Go.Proofs.Ytlaaihnokoeliab

/-! S7: l71Subst. -/
namespace Go.Proofs.Ytlaaihnokoeliab
open Go.RowKit Go.Deep

/-- The slice is a row of binds of the call's own; no term lies in the row's own block. -/
def BOwn (w : World) (base : Nat) (bs : List Bd) (A : Option Addr) (C : Nat) : Prop :=
  ∃ xs, w.ownsRow base 68 4 (.slice A bs.length C) bs.length xs ∧ ∀ (i : Nat) (x : Bd), bs[i]? = some x → ∃ a' c' L H, xs[i * 4]? = some (.int .i64 x.1) ∧ xs[i * 4 + 1]? = some (.int .i64 x.2.1) ∧ xs[i * 4 + 2]? = some (.int .i64 x.2.2.1) ∧ xs[i * 4 + 3]? = some (.slice a' (flen x.2.2.2) c') ∧
    Sl w L H a' x.2.2.2 ∧ base ≤ L ∧ H ≤ w.heap.size ∧ ∀ g, (Value.slice A bs.length C).ownBlock = some g → g < L ∨ H ≤ g
theorem BOwn.adv {w w2 : World} {base br p : Nat} {bs : List Bd} {A : Option Addr} {C : Nat} (h : BOwn w base bs A C) (ha : Adv w br p w2) (hb : br < base) : BOwn w2 base bs A C := by
  obtain ⟨xs, hown, hall⟩ := h
  have hs := ha.size
  refine ⟨xs, own_block hown fun g hg => ?_, fun i x hx => ?_⟩
  · have h1 := hown.lt g hg
    exact ha.same (lo := g) (B := g + 1) (by omega) (by omega) g (Nat.le_refl _) (by omega)
  · obtain ⟨a', c', L, H, c0, c1, c2, c3, hl, h1, h2, h3⟩ := hall i x hx
    exact ⟨a', c', L, H, c0, c1, c2, c3, hl.same (ha.same h2 (.inl (by omega))), h1, by omega, h3⟩
theorem BOwn.bsl {w : World} {base : Nat} {bs : List Bd} {A : Option Addr} {C : Nat} (h : BOwn w base bs A C) : BSl w base w.heap.size A bs := by
  obtain ⟨xs, hown, hall⟩ := h
  rcases Nat.eq_zero_or_pos bs.length with h0 | h0
  · exact .inl (List.eq_nil_of_length_eq_zero h0)
  · obtain ⟨g, cap, hv, hb, hlt⟩ := hown.form h0
    have hA : A = some ⟨g, 0, none⟩ := by simp only [Value.slice.injEq] at hv; exact hv.1
    subst hA
    refine .inr ⟨g, 0, rfl, hb, hlt, fun i x hx => ?_⟩
    have hi := (List.getElem?_eq_some_iff.1 hx).1
    obtain ⟨a', c', L, H, c0, c1, c2, c3, hl, h1, h2, h3⟩ := hall i x hx
    refine ⟨a', c', ?_, ?_, ?_, ?_, hl.mono h1 h2⟩
    · rw [Nat.zero_add, hown.cellAt _ (by omega)]; exact c0
    · rw [Nat.zero_add, hown.cellAt _ (by omega)]; exact c1
    · rw [Nat.zero_add, hown.cellAt _ (by omega)]; exact c2
    · rw [Nat.zero_add, hown.cellAt _ (by omega)]; exact c3
/-- One more bind. w: where the row stood; w2: where the new term lies too; blk: the block that shows it to append. -/
theorem BOwn.append {w0 w w2 w3 : World} {base br p : Nat} {bs : List Bd} {A : Option Addr} {C g cap : Nat} {blk : Obj} {x s v : Int} {k : Fo} {a2 : Option Addr} {c2 : Nat} {xs : List Value} (hown : w.ownsRow base 68 4 (.slice A bs.length C) bs.length xs)
    (hall : ∀ (i : Nat) (x : Bd), bs[i]? = some x → ∃ a' c' L H, xs[i * 4]? = some (.int .i64 x.1) ∧ xs[i * 4 + 1]? = some (.int .i64 x.2.1) ∧ xs[i * 4 + 2]? = some (.int .i64 x.2.2.1) ∧ xs[i * 4 + 3]? = some (.slice a' (flen x.2.2.2) c') ∧
      Sl w L H a' x.2.2.2 ∧ base ≤ L ∧ H ≤ w.heap.size ∧ ∀ g, (Value.slice A bs.length C).ownBlock = some g → g < L ∨ H ≤ g)
    (hown3 : w3.ownsRow base 68 4 (.slice (some ⟨g, 0, none⟩) (bs.length + 1) cap) (bs.length + 1) (xs ++ [.int .i64 x, .int .i64 s, .int .i64 v, .slice a2 (flen k) c2])) (ha : Adv w br p w2) (hbr : br < base) (hl2 : Sl w2 w.heap.size w2.heap.size a2 k) (hbase : base ≤ w.heap.size)
    (hgrow : (w2.alloc blk).grownBy w3 (Value.slice A bs.length C).ownBlock) (hatg : (Value.slice A bs.length C).ownBlock = some g ∨ g = w2.heap.size + 1) (ha0 : Adv w0 br p w2) (hw0 : w0.heap.size ≤ base) : BOwn w3 base (bs ++ [(x, s, v, k)]) (some ⟨g, 0, none⟩) cap ∧ Adv w0 br p w3 := by
  have hs2 := ha.size
  have hs3 := hgrow.size
  simp at hs3
  have hxl : xs.length = bs.length * 4 := hown.1
  have hl : (bs ++ [(x, s, v, k)]).length = bs.length + 1 := by simp
  refine ⟨⟨xs ++ [.int .i64 x, .int .i64 s, .int .i64 v, .slice a2 (flen k) c2], by rw [hl]; exact hown3, fun i y hy => ?_⟩, Below.grown (ha0.alloc blk) hgrow (by have := ha0.size; simp; omega) (fun q hq => by have := (hown.lt q hq).1; omega)⟩
  rw [hl]
  by_cases hi : i < bs.length
  · rw [List.getElem?_append_left hi] at hy
    obtain ⟨a', c', L, H, c0, c1, c2', c3, hsl, h1, h2, h3⟩ := hall i y hy
    refine ⟨a', c', L, H, by rw [List.getElem?_append_left (by omega)]; exact c0, by rw [List.getElem?_append_left (by omega)]; exact c1, by rw [List.getElem?_append_left (by omega)]; exact c2', by rw [List.getElem?_append_left (by omega)]; exact c3, hsl.same (fun b hb1 hb2 => ?_), h1, by omega, fun g' hg' => ?_⟩
    · rw [hgrow.block b (by simp; omega) (fun e => by have := h3 b e.symm; omega), Below.heap_alloc _ _ _ (by omega)]
      exact ha.same h2 (.inl (by omega)) b hb1 hb2
    · have : g' = g := by simpa [Value.ownBlock] using hg'.symm
      subst this
      rcases hatg with hg1 | hg1
      · exact h3 _ hg1
      · omega
  · have hi' : i = bs.length := by have := (List.getElem?_eq_some_iff.1 hy).1; omega
    subst hi'
    simp at hy
    subst hy
    refine ⟨a2, c2, w.heap.size, w2.heap.size, ?_, ?_, ?_, ?_, hl2.same (fun b hb1 hb2 => ?_), hbase, by omega, fun g' hg' => ?_⟩
    · rw [List.getElem?_append_right (by omega), hxl]; simp
    · rw [List.getElem?_append_right (by omega), hxl, show bs.length * 4 + 1 - bs.length * 4 = 1 from by omega]; rfl
    · rw [List.getElem?_append_right (by omega), hxl, show bs.length * 4 + 2 - bs.length * 4 = 2 from by omega]; rfl
    · rw [List.getElem?_append_right (by omega), hxl, show bs.length * 4 + 3 - bs.length * 4 = 3 from by omega]; rfl
    · rw [hgrow.block b (by simp; omega) (fun e => by have := (hown.lt b e.symm).2; omega), Below.heap_alloc _ _ _ (by omega)]
    · have : g' = g := by simpa [Value.ownBlock] using hg'.symm
      subst this
      rcases hatg with hg1 | hg1
      · exact .inl (hown.lt _ hg1).2
      · exact .inr (by omega)

theorem Try.infoBind : ∃ i, Try.prog.info? 68 = some i ∧ i.zero = some (.agg #[.int .i64 0, .int .i64 0, .int .i64 0, .slice none 0 0]) ∧ i.size = 4 ∧ i.bytes = 48 := by
  have h : (Try.prog.info? 68).map (fun i => (i.zero, i.size, i.bytes)) = some (some (.agg #[.int .i64 0, .int .i64 0, .int .i64 0, .slice none 0 0]), 4, 48) := by kernel_rfl
  obtain ⟨i, hi, hz⟩ := Option.map_eq_some_iff.1 h
  simp only [Prod.mk.injEq] at hz
  exact ⟨i, hi, hz.1, hz.2.1, hz.2.2⟩
/-- The first bind's term is another one. -/
theorem BOwn.set0 {w w2 : World} {base br p : Nat} {x s v s' v' : Int} {k k' : Fo} {r : List Bd} {g C : Nat} {a2 : Option Addr} {c2 : Nat} (h : BOwn w base ((x, s, v, k) :: r) (some ⟨g, 0, none⟩) C) (ha : Adv w br p w2) (hbr : br < base) (hl : Sl w2 w.heap.size w2.heap.size a2 k') :
    BOwn (((w2.setCell ⟨g, 1, none⟩ (.int .i64 s')).setCell ⟨g, 2, none⟩ (.int .i64 v')).setCell ⟨g, 3, none⟩ (.slice a2 (flen k') c2)) base ((x, s', v', k') :: r) (some ⟨g, 0, none⟩) C := by
  obtain ⟨xs, hown, hall⟩ := h.adv ha hbr
  obtain ⟨xs0, hown0, _⟩ := h
  have hs := ha.size
  have hgl := hown0.lt g rfl
  have h1 := (hown.stored 1 (.int .i64 s')).1
  have h2 := (h1.stored 2 (.int .i64 v')).1
  have h3 := (h2.stored 3 (.slice a2 (flen k') c2)).1
  have hxl : xs.length = (r.length + 1) * 4 := by have := hown.1; simpa using this
  have hS : ∀ {L H : Nat} {a : Option Addr} {kk : Fo}, Sl w2 L H a kk → (g < L ∨ H ≤ g) → Sl (((w2.setCell ⟨g, 1, none⟩ (.int .i64 s')).setCell ⟨g, 2, none⟩ (.int .i64 v')).setCell ⟨g, 3, none⟩ (.slice a2 (flen k') c2)) L H a kk := fun {L H a kk} hsl hg => by
    have h0 : Same L H w2 w2 := fun _ _ _ => rfl
    exact hsl.same (((h0.setCell hg _).setCell hg _).setCell hg _)
  refine ⟨_, h3, fun i y hy => ?_⟩
  cases i with
  | zero =>
    simp at hy
    subst hy
    refine ⟨a2, c2, w.heap.size, w2.heap.size, ?_, ?_, ?_, ?_, hS hl (.inl hgl.2), Nat.le_of_lt (Nat.lt_of_le_of_lt hgl.1 hgl.2), by simp, fun q hq => ?_⟩
    · obtain ⟨_, _, _, _, c0, _⟩ := hall 0 (x, s, v, k) rfl
      rw [List.getElem?_set_ne (by omega), List.getElem?_set_ne (by omega), List.getElem?_set_ne (by omega)]; exact c0
    · rw [List.getElem?_set_ne (by omega), List.getElem?_set_ne (by omega)]; exact List.getElem?_set_self (by omega)
    · rw [List.getElem?_set_ne (by omega)]; exact List.getElem?_set_self (by simp; omega)
    · exact List.getElem?_set_self (by simp; omega)
    · have : q = g := by simpa [Value.ownBlock] using hq.symm
      omega
  | succ n =>
    obtain ⟨a', c', L, H, c0, c1, c2', c3, hsl, e1, e2, e3⟩ := hall (n + 1) y (by simpa using hy)
    refine ⟨a', c', L, H, ?_, ?_, ?_, ?_, hS hsl (e3 g rfl), e1, by simpa using e2, e3⟩
    · rw [List.getElem?_set_ne (by omega), List.getElem?_set_ne (by omega), List.getElem?_set_ne (by omega)]; exact c0
    · rw [List.getElem?_set_ne (by omega), List.getElem?_set_ne (by omega), List.getElem?_set_ne (by omega)]; exact c1
    · rw [List.getElem?_set_ne (by omega), List.getElem?_set_ne (by omega), List.getElem?_set_ne (by omega)]; exact c2'
    · rw [List.getElem?_set_ne (by omega), List.getElem?_set_ne (by omega), List.getElem?_set_ne (by omega)]; exact c3
end Go.Proofs.Ytlaaihnokoeliab
