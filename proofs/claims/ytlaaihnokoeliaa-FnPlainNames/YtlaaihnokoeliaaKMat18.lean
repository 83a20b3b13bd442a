/- Several texts in one: DM. -/
import Derived.Test.YtlaaihnokoeliaaKMat16
import Derived.Test.YtlaaihnokoeliaaKMat17

/-! DM: DrawMatchOf. -/
namespace Go.Proofs.Ytlaaihnokoeliaa
open Go.RowKit Go.Deep
attribute [local go_sem ↓] Go.wp_at_zero Go.wp_at_succ

def DmPost (w : World) (e : Ending) (w' : World) : Prop :=
  ∃ s v a c k s' v' a' c' k', e = .returned (.tuple #[.agg #[.int .i64 s, .int .i64 v, .slice a (flen k) c], .agg #[.int .i64 s', .int .i64 v', .slice a' (flen k') c']]) ∧ 1 + fsz k ≤ 31000 ∧ 1 + fsz k' ≤ 31000 ∧ Below w.heap.size w w' ∧ Sl w' w.heap.size w'.heap.size a k ∧ Sl w' w.heap.size w'.heap.size a' k'

/-- In the midst of the draw. -/
structure DA (w : World) (br b7 : Nat) (s v : Int) (a : Option Addr) (c : Nat) (k : Fo) (p : Nat) (wn : World) : Prop where
  brE : br = w.heap.size + 2
  rd : Rd wn br p
  low : Below (w.heap.size + 2) ((w.alloc (.cells #[.int .i64 0, .int .i64 0, .slice none 0 0] 25)).alloc (.cells #[.int .i64 0, .int .i64 0, .slice none 0 0] 25)) wn
  one : Sl wn (br + 1) wn.heap.size a k
  lt7 : br < b7
  s7 : b7 < wn.heap.size
  c0 : wn.cell? ⟨b7, 0, none⟩ = some (.int .i64 s)
  c1 : wn.cell? ⟨b7, 1, none⟩ = some (.int .i64 v)
  c2 : wn.cell? ⟨b7, 2, none⟩ = some (.slice a (flen k) c)
section
variable {w : World} {br b7 : Nat} {s v : Int} {a : Option Addr} {c : Nat} {k : Fo} {p : Nat} {wn wm : World}
theorem DA.adv (h : DA w br b7 s v a c k p wn) {p' : Nat} (ha : Adv wn br p' wm) : DA w br b7 s v a c k p' wm := by
  have hb := h.lt7
  have hs := ha.size
  have hl := h.s7
  have hlow := h.low.size
  simp at hlow
  exact ⟨h.brE, ha.rd h.rd, adv_low h.low (by have := h.brE; omega) (by omega) ha, h.one.adv ha (by omega), hb, by omega, ha.cell h.c0 (by simp only; omega), ha.cell h.c1 (by simp only; omega), ha.cell h.c2 (by simp only; omega)⟩
theorem DA.below (h : DA w br b7 s v a c k p wn) (hb : Below wn.heap.size wn wm) : DA w br b7 s v a c k p wm := h.adv (Adv.start h.rd hb)
theorem DA.seen (h : DA w br b7 s v a c k p wn) : ∃ u : SeenD (cl3 b7 s v (.slice a (flen k) c)), wn = u.world := seenD_of (cl3_at h.c0 h.c1 h.c2)
/-- The end: both boxes of the results are written. -/
theorem dm_end (h : DA w br b7 s v a c k p wn) (hS : 1 + fsz k ≤ 31000) {s' v' : Int} {a' : Option Addr} {c' : Nat} {k' : Fo} (hS' : 1 + fsz k' ≤ 31000) (hl' : Sl wn (br + 1) wn.heap.size a' k') (p q r p' q' r' : Value) :
    DmPost w (.returned (.tuple #[.agg #[.int .i64 s, .int .i64 v, .slice a (flen k) c], .agg #[.int .i64 s', .int .i64 v', .slice a' (flen k') c']])) ((((((wn.setCell ⟨w.heap.size, 0, none⟩ p).setCell ⟨w.heap.size, 1, none⟩ q).setCell ⟨w.heap.size, 2, none⟩ r).setCell ⟨w.heap.size + 1, 0, none⟩ p').setCell ⟨w.heap.size + 1, 1, none⟩ q').setCell ⟨w.heap.size + 1, 2, none⟩ r') := by
  have hs : Same (w.heap.size + 2) wn.heap.size wn ((((((wn.setCell ⟨w.heap.size, 0, none⟩ p).setCell ⟨w.heap.size, 1, none⟩ q).setCell ⟨w.heap.size, 2, none⟩ r).setCell ⟨w.heap.size + 1, 0, none⟩ p').setCell ⟨w.heap.size + 1, 1, none⟩ q').setCell ⟨w.heap.size + 1, 2, none⟩ r') :=
    ((((((Same.setCell (fun _ _ _ => rfl) (.inl (by simp)) _).setCell (.inl (by simp)) _).setCell (.inl (by simp)) _).setCell (.inl (by simp)) _).setCell (.inl (by simp)) _).setCell (.inl (by simp)) _)
  have hb' : Below w.heap.size w wn := (((Below.refl _ _).alloc (Nat.le_refl _) (.cells #[.int .i64 0, .int .i64 0, .slice none 0 0] 25)).alloc (by simp) (.cells #[.int .i64 0, .int .i64 0, .slice none 0 0] 25)).trans (h.low.mono (by omega))
  have e := h.brE
  exact ⟨s, v, a, c, k, s', v', a', c', k', rfl, hS, hS', (((((hb'.setCell (Nat.le_refl _) _).setCell (Nat.le_refl _) _).setCell (Nat.le_refl _) _).setCell (by simp) _).setCell (by simp) _).setCell (by simp) _, ((h.one.mono (lo' := w.heap.size + 2) (by omega) (Nat.le_refl _)).same hs).mono (by omega) (by simp), ((hl'.mono (lo' := w.heap.size + 2) (by omega) (Nat.le_refl _)).same hs).mono (by omega) (by simp)⟩
end
theorem dm_drew {w X : World} {e : Ending} (h : DmPost w e X) : DmPost w e X.drew := by
  obtain ⟨s, v, a, c, k, s', v', a', c', k', h1, h3, h4, h5, h7, h8⟩ := h
  have hd : Below X.heap.size X X.drew := (Below.refl _ _).drew
  exact ⟨s, v, a, c, k, s', v', a', c', k', h1, h3, h4, h5.drew, h7.below hd, h8.below hd⟩

theorem sdR_szD {bs : List Bd} {s v : Int} {k : Fo} {s' v' : Int} {k' : Fo} {t : Bool} (h : sdR bs s v k = (s', v', k', t)) : fsz k' ≤ 15 := by
  unfold sdR at h
  split at h
  · rename_i hc
    simp only [Prod.mk.injEq] at h
    obtain ⟨_, _, rfl, _⟩ := h
    have := hc.2.2; omega
  · simp only [Prod.mk.injEq] at h
    obtain ⟨_, _, rfl, _⟩ := h
    simp [fsz]

set_option maxRecDepth 100000 in
set_option maxHeartbeats 1600000 in
theorem DrawMatchOf_any (a0 : Option Addr) (len cap : Nat) (w : World) (hby : Bytes w a0 len) (hlen : len ≤ cap) :
    Calls Try.prog 9 #[.slice a0 len cap] w (DmPost w) := by
  have HBY := Lib.hid hby
  clear hby
  go_enter Try.func9, Try.ntmps9
  go_wp2_with fail
  with_reducible refine (l6Open_any a0 len cap _ ((HBY.out.alloc _).alloc _) hlen).mono ?_
  rintro e w1 ⟨rfl, hb1, hrd⟩
  have hs1 := hb1.size
  simp at hs1
  simp only [World.size_alloc] at hrd
  have HRD := Lib.hid hrd
  have HB1 : Hid (Below (w.heap.size + 2) ((w.alloc (.cells #[.int .i64 0, .int .i64 0, .slice none 0 0] 25)).alloc (.cells #[.int .i64 0, .int .i64 0, .slice none 0 0] 25)) w1) := hb1.mono (by simp)
  clear hb1 hrd
  simp only [World.size_alloc]
  obtain ⟨br, hbrE⟩ : ∃ br, w.heap.size + 1 + 1 = br := ⟨_, rfl⟩
  rw [hbrE]
  rw [hbrE] at HRD
  have HBR : Hid (br = w.heap.size + 2) := hbrE.symm
  clear hbrE
  go_wp2_with fail
  with_reducible refine (l71Some_any br 0 _ HRD.out (by omega)).mono ?_
  rintro e w3 ⟨s, v, a, c, k, p2, rfl, _, hp2, hS, ha2, hl2⟩
  have HD : Hid (DA w br w3.heap.size s v a c k p2 (w3.alloc (.cells #[.int .i64 s, .int .i64 v, .slice a (flen k) c] 25))) := by
    have hlt2 := HRD.out.lt
    have hbrE := HBR.out
    have hs23 := ha2.size
    have hba : Below w3.heap.size w3 (w3.alloc (.cells #[.int .i64 s, .int .i64 v, .slice a (flen k) c] 25)) := (Below.refl _ _).alloc (Nat.le_refl _) _
    refine ⟨hbrE, (ha2.rd HRD.out).alloc _, (adv_low HB1.out (by omega) (by omega) ha2).alloc (by omega) _, ?_, by omega, by simp, ?_, ?_, ?_⟩
    · exact (hl2.mono (lo' := br + 1) (by omega) (Nat.le_refl _)).low hba
    iterate 3
      rw [World.cell?_alloc_at _ _ _ _ rfl]; rfl
  have hp3 : p2 ≤ 300 := by omega
  clear ha2 hl2 HB1
  go_wp2_with fail
  generalize (w3.alloc (.cells #[.int .i64 s, .int .i64 v, .slice a (flen k) c] 25)) = w3b at *
  with_reducible refine (pick_any 3 br p2 _ HD.out.rd (by omega) (by omega) (by omega)).mono ?_
  rintro e w4 ⟨y, rfl, hy, hb4⟩
  have HD4 : Hid (DA w br w3.heap.size s v a c k (p2 + 1) w4) := HD.out.adv hb4
  clear hb4 hy HD
  by_cases hy0 : y = 0
  · subst hy0
    have HD7 := Lib.hid (HD4.out.below (Below.refl _ _).drew)
    have hu0 : ∀ u : SeenD (cl3 w3.heap.size s v (.slice a (flen k) c)), u.world.cell? ⟨w3.heap.size, 0, none⟩ = some (.int .i64 s) := fun u => u.at_ (_, _) (by simp [cl3])
    have hu1 : ∀ u : SeenD (cl3 w3.heap.size s v (.slice a (flen k) c)), u.world.cell? ⟨w3.heap.size, 1, none⟩ = some (.int .i64 v) := fun u => u.at_ (_, _) (by simp [cl3])
    have hu2 : ∀ u : SeenD (cl3 w3.heap.size s v (.slice a (flen k) c)), u.world.cell? ⟨w3.heap.size, 2, none⟩ = some (.slice a (flen k) c) := fun u => u.at_ (_, _) (by simp [cl3])
    haveI : Nonempty (SeenD (cl3 w3.heap.size s v (.slice a (flen k) c))) := ⟨HD7.out.seen.choose⟩
    go_wp2_with fail
    clear HD4
    refine wp_region_mix (fun w' => ∃ u : SeenD (cl3 w3.heap.size s v (.slice a (flen k) c)), w' = u.world) [] [(0, 0), (1, 0), (2, 1), (3, 1), (4, 1)] (by kernel_rfl) (by kernel_rfl) HD7.out.seen ?_
    iterate 2
      refine mix_see rfl (fun K hK => ?_)
      go_simp
      refine hK _ ?_
      clear hK K
    clear hu0 hu1 hu2
    refine mix_hold rfl (fun K hK => ?_)
    go_simp
    with_reducible refine (l71Some_any br (p2 + 1) _ HD7.out.rd (by omega)).mono ?_
    rintro e w8 ⟨s8, v8, a8, c8, k8, p8, rfl, _, hp8, hS8, ha8, hl8⟩
    have HD8 := Lib.hid (HD7.out.adv ha8)
    have HL8 : Hid (Sl w8 (br + 1) w8.heap.size a8 k8) := hl8.mono (by have := HD7.out.rd.lt; omega) (Nat.le_refl _)
    have hbb := HD8.out.brE
    have hb7 := HD8.out.lt7
    have HAT := Lib.hid (cl3_at HD8.out.c0 HD8.out.c1 HD8.out.c2)
    have HN0 : Hid (∀ p, p ∈ (cl3 w3.heap.size s v (.slice a (flen k) c)) → p.1.block ≠ w.heap.size) := cl3_blk (by omega)
    have HN1 : Hid (∀ p, p ∈ (cl3 w3.heap.size s v (.slice a (flen k) c)) → p.1.block ≠ w.heap.size + 1) := cl3_blk (by omega)
    obtain ⟨hr0, hr1, hr2, hr3, hr4, hr5⟩ := tb_cellsS HD8.out.low
    obtain ⟨hf0, hf3⟩ := tb_freeS HD8.out.low 0 rfl rfl
    obtain ⟨hf1, hf4⟩ := tb_freeS HD8.out.low 1 rfl rfl
    obtain ⟨hf2, hf5⟩ := tb_freeS HD8.out.low 2 rfl rfl
    refine hK _ _ (seenD_of HAT.out) ?_
    clear hK K ha8 hl8 hbb hb7
    refine mix_hold rfl (fun K hK => ?_)
    go_simp
    refine hK _ _ (seenD_of (storeD HAT.out HN0.out _ _ _)) ?_
    clear hK K
    refine mix_hold rfl (fun K hK => ?_)
    go_simp
    refine hK _ _ (seenD_of (storeD (storeD HAT.out HN0.out _ _ _) HN1.out _ _ _)) ?_
    clear hK K
    refine mix_end ?_
    go_wp2_with fail
    refine bodyPost_ret (v := .tuple #[.agg #[.int .i64 s, .int .i64 v, .slice a (flen k) c], .agg #[.int .i64 s8, .int .i64 v8, .slice a8 (flen k8) c8]]) ?_ rfl (dm_end HD8.out hS hS8 HL8.out _ _ _ _ _ _)
    simp [results, Try.results9, go_sem, hr0, hr1, hr2, hr3, hr4, hr5]
  · have y0 : ((y : Int) == 0) = false := by simpa using hy0
    have hu0 : ∀ u : SeenD (cl3 w3.heap.size s v (.slice a (flen k) c)), u.world.cell? ⟨w3.heap.size, 0, none⟩ = some (.int .i64 s) := fun u => u.at_ (_, _) (by simp [cl3])
    have hu1 : ∀ u : SeenD (cl3 w3.heap.size s v (.slice a (flen k) c)), u.world.cell? ⟨w3.heap.size, 1, none⟩ = some (.int .i64 v) := fun u => u.at_ (_, _) (by simp [cl3])
    have hu2 : ∀ u : SeenD (cl3 w3.heap.size s v (.slice a (flen k) c)), u.world.cell? ⟨w3.heap.size, 2, none⟩ = some (.slice a (flen k) c) := fun u => u.at_ (_, _) (by simp [cl3])
    haveI : Nonempty (SeenD (cl3 w3.heap.size s v (.slice a (flen k) c))) := ⟨HD4.out.seen.choose⟩
    go_wp2_with fail
    refine wp_region_anyT (fun w' => ∃ u : SeenD (cl3 w3.heap.size s v (.slice a (flen k) c)), w' = u.world) (by kernel_rfl) ?_
    have HDd := Lib.hid (HD4.out.below (Below.refl _ _).drew)
    clear HD4
    generalize w4.drew = wd at *
    have HA : Hid (Adv wd br (p2 + 1) wd) := Adv.start HDd.out.rd (Below.refl _ _)
    have hwd := HDd.out.rd.lt
    refine anyT_look (i := 0) rfl (by kernel_rfl) (HDd.out.adv HA.out).seen (fun K hK => ?_)
    go_simp
    refine hK _ ?_
    clear hK K
    refine anyT_look (i := 2) rfl (by kernel_rfl) (HDd.out.adv HA.out).seen (fun K hK => ?_)
    go_simp
    refine hK _ ?_
    clear hK K
    clear hu0 hu1 hu2
    refine anyT_two (i := 1) (j := 7) (by kernel_rfl) rfl rfl (fun K hK => ?_) (fun K hK => ?_)
    · go_simp
      have HCC : Hid (Calls Try.prog 27 #[.pointer (some ⟨br, 0, none⟩), .int .i64 3] wd (SbPost br (p2 + 1) wd)) := l71Subst_any 3 br (p2 + 1) _ (HDd.out.adv HA.out).rd (by omega) (by omega) (by omega)
      with_reducible refine HCC.out.mono ?_
      rintro e wa ⟨bs, A5, C5, p5, rfl, hbl, _, hp5, hax, ho5⟩
      have hcs : br < wd.heap.size := Nat.lt_of_lt_of_le hwd HA.out.size
      have HI : Hid (BSl wa (br + 1) wa.heap.size A5 bs) := ho5.bsl.mono (by omega) (Nat.le_refl _)
      replace HA := Lib.hid (HA.out.trans hax)
      clear hax
      refine hK _ _ (HDd.out.adv HA.out).seen ?_
      clear hK K ho5 hcs HCC
      refine anyT_two (i := 3) (j := 7) (by kernel_rfl) rfl rfl (fun K hK => ?_) (fun K hK => ?_)
      · go_simp
        with_reducible refine (sSubstDo_any bs A5 C5 s v a c k _ (HI.out.mono (Nat.zero_le _) (Nat.le_refl _)) (by omega) ((HDd.out.adv HA.out).one.mono (Nat.zero_le _) (Nat.le_refl _))).mono ?_
        rintro e wc ⟨aT, cT, sT, vT, kT, t, hR, rfl, hbT, hlT⟩
        have hST : 1 + fsz kT ≤ 31000 := by have := sdR_szD hR; omega
        have hlo : br < wa.heap.size := Nat.lt_of_lt_of_le hwd HA.out.size
        have hhi : wa.heap.size ≤ wc.heap.size := hbT.size
        have HLT := Lib.hid hlT
        have hax : Adv wa br p5 wc := Adv.start (HDd.out.adv HA.out).rd hbT
        replace HA := Lib.hid (HA.out.trans hax)
        replace HI := Lib.hid (show BSl _ (br + 1) _ A5 bs from (HI.out.same (hax.same (Nat.le_refl _) (.inl (Nat.lt_succ_self _)))).mono (Nat.le_refl _) hax.size)
        clear hax
        refine hK _ _ (HDd.out.adv HA.out).seen ?_
        clear hK K hbT hlT hR
        refine anyT_look (i := 4) rfl (by kernel_rfl) (HDd.out.adv HA.out).seen (fun K hK => ?_)
        go_simp
        refine hK _ ?_
        clear hK K
        refine anyT_look (i := 5) rfl (by kernel_rfl) (HDd.out.adv HA.out).seen (fun K hK => ?_)
        go_simp
        refine hK _ ?_
        clear hK K
        refine anyT_look (i := 6) rfl (by kernel_rfl) (HDd.out.adv HA.out).seen (fun K hK => ?_)
        go_simp
        refine hK _ ?_
        clear hK K
        refine anyT_one (i := 7) (by kernel_rfl) rfl (fun K hK => ?_)
        go_simp
        have HZ := Lib.hid (zb_new wc)
        have hbz1 : wd.heap.size ≤ wc.heap.size := HA.out.size
        have hbe : Below wc.heap.size wc (wc.alloc (.cells #[.int .i64 0, .int .i64 0, .slice none 0 0] 25)) := (Below.refl _ _).alloc (Nat.le_refl _) _
        have hax : Adv wc br p5 (wc.alloc (.cells #[.int .i64 0, .int .i64 0, .slice none 0 0] 25)) := Adv.start (HDd.out.adv HA.out).rd hbe
        replace HLT := Lib.hid (HLT.out.below hbe)
        replace HA := Lib.hid (HA.out.trans hax)
        replace HI := Lib.hid (show BSl _ (br + 1) _ A5 bs from (HI.out.same (hax.same (Nat.le_refl _) (.inl (Nat.lt_succ_self _)))).mono (Nat.le_refl _) hax.size)
        clear hax
        refine hK _ _ (HDd.out.adv HA.out).seen ?_
        clear hK K hbe
        generalize hwz : wc.alloc (.cells #[.int .i64 0, .int .i64 0, .slice none 0 0] 25) = wz at *
        clear hwz
        have hzz0 := HZ.out.z0
        have hzz1 := HZ.out.z1
        have hzz2 := HZ.out.z2
        have hzf0 := HZ.out.f 0
        have hzf1 := HZ.out.f 1
        have hzf2 := HZ.out.f 2
        have HAE : Hid (Adv wd br p5 (((wz.setCell ⟨wc.heap.size, 0, none⟩ (.int .i64 sT)).setCell ⟨wc.heap.size, 1, none⟩ (.int .i64 vT)).setCell ⟨wc.heap.size, 2, none⟩ (.slice aT (flen kT) cT))) := ((HA.out.store hbz1 _).store hbz1 _).store hbz1 _
        have HBX := Lib.hid (box_set HZ.out (.int .i64 sT) (.int .i64 vT) (.slice aT (flen kT) cT))
        have hbz2 : br < wc.heap.size := by omega
        have HLF : Hid (Sl (((wz.setCell ⟨wc.heap.size, 0, none⟩ (.int .i64 sT)).setCell ⟨wc.heap.size, 1, none⟩ (.int .i64 vT)).setCell ⟨wc.heap.size, 2, none⟩ (.slice aT (flen kT) cT)) (br + 1) (((wz.setCell ⟨wc.heap.size, 0, none⟩ (.int .i64 sT)).setCell ⟨wc.heap.size, 1, none⟩ (.int .i64 vT)).setCell ⟨wc.heap.size, 2, none⟩ (.slice aT (flen kT) cT)).heap.size aT kT) := (HLT.out.set3 (.inr (Nat.le_refl _)) _ _ _).mono (by omega) (by have := HZ.out.lt; simp <;> omega)
        refine anyT_one (i := 8) (by kernel_rfl) rfl (fun K hK => ?_)
        go_simp
        refine hK _ _ (HDd.out.adv HAE.out).seen ?_
        clear hK K hzz0 hzz1 hzz2 hzf0 hzf1 hzf2
        refine anyT_one (i := 9) (by kernel_rfl) rfl (fun K hK => ?_)
        go_simp
        refine hK _ _ (HDd.out.adv HAE.out).seen ?_
        clear hK K
        refine anyT_done (by kernel_rfl) ?_
        have HDE := Lib.hid (HDd.out.adv HAE.out)
        clear HA HZ HLT HI HDd HAE
        generalize (((wz.setCell ⟨wc.heap.size, 0, none⟩ (.int .i64 sT)).setCell ⟨wc.heap.size, 1, none⟩ (.int .i64 vT)).setCell ⟨wc.heap.size, 2, none⟩ (.slice aT (flen kT) cT)) = we at *
        cases ht : t with
        | false =>
          subst ht
          have hq0 := HDE.out.c0
          have hq1 := HDE.out.c1
          have hq2 := HDE.out.c2
          have HLE := Lib.hid HDE.out.one
          have hb7e := HDE.out.lt7
          go_wp2_with fail
          have hbb := HDE.out.brE
          have hb7 := HDE.out.lt7
          have HAT := Lib.hid (cl6_at HDE.out.c0 HDE.out.c1 HDE.out.c2 hq0 hq1 hq2)
          have HN0 : Hid (∀ p, p ∈ (cl6 w3.heap.size (.int .i64 s) (.int .i64 v) (.slice a (flen k) c) w3.heap.size (.int .i64 s) (.int .i64 v) (.slice a (flen k) c)) → p.1.block ≠ w.heap.size) := cl6_blk (by omega) (by omega)
          have HN1 : Hid (∀ p, p ∈ (cl6 w3.heap.size (.int .i64 s) (.int .i64 v) (.slice a (flen k) c) w3.heap.size (.int .i64 s) (.int .i64 v) (.slice a (flen k) c)) → p.1.block ≠ w.heap.size + 1) := cl6_blk (by omega) (by omega)
          obtain ⟨hr0, hr1, hr2, hr3, hr4, hr5⟩ := tb_cellsS HDE.out.low
          obtain ⟨hf0, hf3⟩ := tb_freeS HDE.out.low 0 rfl rfl
          obtain ⟨hf1, hf4⟩ := tb_freeS HDE.out.low 1 rfl rfl
          obtain ⟨hf2, hf5⟩ := tb_freeS HDE.out.low 2 rfl rfl
          have hu0 : ∀ u : SeenD (cl6 w3.heap.size (.int .i64 s) (.int .i64 v) (.slice a (flen k) c) w3.heap.size (.int .i64 s) (.int .i64 v) (.slice a (flen k) c)), u.world.cell? ⟨w3.heap.size, 0, none⟩ = some (.int .i64 s) := fun u => u.at_ (_, _) (by simp [cl6])
          have hu1 : ∀ u : SeenD (cl6 w3.heap.size (.int .i64 s) (.int .i64 v) (.slice a (flen k) c) w3.heap.size (.int .i64 s) (.int .i64 v) (.slice a (flen k) c)), u.world.cell? ⟨w3.heap.size, 1, none⟩ = some (.int .i64 v) := fun u => u.at_ (_, _) (by simp [cl6])
          have hu2 : ∀ u : SeenD (cl6 w3.heap.size (.int .i64 s) (.int .i64 v) (.slice a (flen k) c) w3.heap.size (.int .i64 s) (.int .i64 v) (.slice a (flen k) c)), u.world.cell? ⟨w3.heap.size, 2, none⟩ = some (.slice a (flen k) c) := fun u => u.at_ (_, _) (by simp [cl6])
          have hu3 : ∀ u : SeenD (cl6 w3.heap.size (.int .i64 s) (.int .i64 v) (.slice a (flen k) c) w3.heap.size (.int .i64 s) (.int .i64 v) (.slice a (flen k) c)), u.world.cell? ⟨w3.heap.size, 0, none⟩ = some (.int .i64 s) := fun u => u.at_ (_, _) (by simp [cl6])
          have hu4 : ∀ u : SeenD (cl6 w3.heap.size (.int .i64 s) (.int .i64 v) (.slice a (flen k) c) w3.heap.size (.int .i64 s) (.int .i64 v) (.slice a (flen k) c)), u.world.cell? ⟨w3.heap.size, 1, none⟩ = some (.int .i64 v) := fun u => u.at_ (_, _) (by simp [cl6])
          have hu5 : ∀ u : SeenD (cl6 w3.heap.size (.int .i64 s) (.int .i64 v) (.slice a (flen k) c) w3.heap.size (.int .i64 s) (.int .i64 v) (.slice a (flen k) c)), u.world.cell? ⟨w3.heap.size, 2, none⟩ = some (.slice a (flen k) c) := fun u => u.at_ (_, _) (by simp [cl6])
          haveI : Nonempty (SeenD (cl6 w3.heap.size (.int .i64 s) (.int .i64 v) (.slice a (flen k) c) w3.heap.size (.int .i64 s) (.int .i64 v) (.slice a (flen k) c))) := ⟨⟨_, HAT.out⟩⟩
          clear hq0 hq1 hq2 hbb hb7
          refine wp_region_mix (fun w' => ∃ u : SeenD (cl6 w3.heap.size (.int .i64 s) (.int .i64 v) (.slice a (flen k) c) w3.heap.size (.int .i64 s) (.int .i64 v) (.slice a (flen k) c)), w' = u.world) [] [(0, 0), (1, 0), (2, 1), (3, 1)] (by kernel_rfl) (by kernel_rfl) (seenD_drew HAT.out) ?_
          iterate 2
            refine mix_see rfl (fun K hK => ?_)
            go_simp
            refine hK _ ?_
            clear hK K
          clear hu0 hu1 hu2 hu3 hu4 hu5
          refine mix_hold rfl (fun K hK => ?_)
          go_simp
          refine hK _ _ (seenD_drew (storeD HAT.out HN0.out _ _ _)) ?_
          clear hK K
          refine mix_hold rfl (fun K hK => ?_)
          go_simp
          refine hK _ _ (seenD_drew (storeD (storeD HAT.out HN0.out _ _ _) HN1.out _ _ _)) ?_
          clear hK K
          refine mix_end ?_
          go_wp2_with fail
          refine bodyPost_ret (v := .tuple #[.agg #[.int .i64 s, .int .i64 v, .slice a (flen k) c], .agg #[.int .i64 s, .int .i64 v, .slice a (flen k) c]]) ?_ rfl (dm_drew (dm_end HDE.out hS hS HLE.out _ _ _ _ _ _))
          simp [results, Try.results9, go_sem, hr0, hr1, hr2, hr3, hr4, hr5]
        | true =>
          subst ht
          obtain ⟨hq0, hq1, hq2⟩ := HBX.out
          go_wp2_with fail
          have hbb := HDE.out.brE
          have hb7 := HDE.out.lt7
          have HAT := Lib.hid (cl6_at HDE.out.c0 HDE.out.c1 HDE.out.c2 hq0 hq1 hq2)
          have HN0 : Hid (∀ p, p ∈ (cl6 w3.heap.size (.int .i64 s) (.int .i64 v) (.slice a (flen k) c) wc.heap.size (.int .i64 sT) (.int .i64 vT) (.slice aT (flen kT) cT)) → p.1.block ≠ w.heap.size) := cl6_blk (by omega) (by omega)
          have HN1 : Hid (∀ p, p ∈ (cl6 w3.heap.size (.int .i64 s) (.int .i64 v) (.slice a (flen k) c) wc.heap.size (.int .i64 sT) (.int .i64 vT) (.slice aT (flen kT) cT)) → p.1.block ≠ w.heap.size + 1) := cl6_blk (by omega) (by omega)
          obtain ⟨hr0, hr1, hr2, hr3, hr4, hr5⟩ := tb_cellsS HDE.out.low
          obtain ⟨hf0, hf3⟩ := tb_freeS HDE.out.low 0 rfl rfl
          obtain ⟨hf1, hf4⟩ := tb_freeS HDE.out.low 1 rfl rfl
          obtain ⟨hf2, hf5⟩ := tb_freeS HDE.out.low 2 rfl rfl
          have hu0 : ∀ u : SeenD (cl6 w3.heap.size (.int .i64 s) (.int .i64 v) (.slice a (flen k) c) wc.heap.size (.int .i64 sT) (.int .i64 vT) (.slice aT (flen kT) cT)), u.world.cell? ⟨w3.heap.size, 0, none⟩ = some (.int .i64 s) := fun u => u.at_ (_, _) (by simp [cl6])
          have hu1 : ∀ u : SeenD (cl6 w3.heap.size (.int .i64 s) (.int .i64 v) (.slice a (flen k) c) wc.heap.size (.int .i64 sT) (.int .i64 vT) (.slice aT (flen kT) cT)), u.world.cell? ⟨w3.heap.size, 1, none⟩ = some (.int .i64 v) := fun u => u.at_ (_, _) (by simp [cl6])
          have hu2 : ∀ u : SeenD (cl6 w3.heap.size (.int .i64 s) (.int .i64 v) (.slice a (flen k) c) wc.heap.size (.int .i64 sT) (.int .i64 vT) (.slice aT (flen kT) cT)), u.world.cell? ⟨w3.heap.size, 2, none⟩ = some (.slice a (flen k) c) := fun u => u.at_ (_, _) (by simp [cl6])
          have hu3 : ∀ u : SeenD (cl6 w3.heap.size (.int .i64 s) (.int .i64 v) (.slice a (flen k) c) wc.heap.size (.int .i64 sT) (.int .i64 vT) (.slice aT (flen kT) cT)), u.world.cell? ⟨wc.heap.size, 0, none⟩ = some (.int .i64 sT) := fun u => u.at_ (_, _) (by simp [cl6])
          have hu4 : ∀ u : SeenD (cl6 w3.heap.size (.int .i64 s) (.int .i64 v) (.slice a (flen k) c) wc.heap.size (.int .i64 sT) (.int .i64 vT) (.slice aT (flen kT) cT)), u.world.cell? ⟨wc.heap.size, 1, none⟩ = some (.int .i64 vT) := fun u => u.at_ (_, _) (by simp [cl6])
          have hu5 : ∀ u : SeenD (cl6 w3.heap.size (.int .i64 s) (.int .i64 v) (.slice a (flen k) c) wc.heap.size (.int .i64 sT) (.int .i64 vT) (.slice aT (flen kT) cT)), u.world.cell? ⟨wc.heap.size, 2, none⟩ = some (.slice aT (flen kT) cT) := fun u => u.at_ (_, _) (by simp [cl6])
          haveI : Nonempty (SeenD (cl6 w3.heap.size (.int .i64 s) (.int .i64 v) (.slice a (flen k) c) wc.heap.size (.int .i64 sT) (.int .i64 vT) (.slice aT (flen kT) cT))) := ⟨⟨_, HAT.out⟩⟩
          clear hq0 hq1 hq2 hbb hb7
          refine wp_region_mix (fun w' => ∃ u : SeenD (cl6 w3.heap.size (.int .i64 s) (.int .i64 v) (.slice a (flen k) c) wc.heap.size (.int .i64 sT) (.int .i64 vT) (.slice aT (flen kT) cT)), w' = u.world) [] [(0, 0), (1, 0), (2, 1), (3, 1)] (by kernel_rfl) (by kernel_rfl) (seenD_drew HAT.out) ?_
          iterate 2
            refine mix_see rfl (fun K hK => ?_)
            go_simp
            refine hK _ ?_
            clear hK K
          clear hu0 hu1 hu2 hu3 hu4 hu5
          refine mix_hold rfl (fun K hK => ?_)
          go_simp
          refine hK _ _ (seenD_drew (storeD HAT.out HN0.out _ _ _)) ?_
          clear hK K
          refine mix_hold rfl (fun K hK => ?_)
          go_simp
          refine hK _ _ (seenD_drew (storeD (storeD HAT.out HN0.out _ _ _) HN1.out _ _ _)) ?_
          clear hK K
          refine mix_end ?_
          go_wp2_with fail
          refine bodyPost_ret (v := .tuple #[.agg #[.int .i64 s, .int .i64 v, .slice a (flen k) c], .agg #[.int .i64 sT, .int .i64 vT, .slice aT (flen kT) cT]]) ?_ rfl (dm_drew (dm_end HDE.out hS hST HLF.out _ _ _ _ _ _))
          simp [results, Try.results9, go_sem, hr0, hr1, hr2, hr3, hr4, hr5]
      · go_simp
        have HZ := Lib.hid (zb_new wa)
        have hbz1 : wd.heap.size ≤ wa.heap.size := HA.out.size
        have hbe : Below wa.heap.size wa (wa.alloc (.cells #[.int .i64 0, .int .i64 0, .slice none 0 0] 25)) := (Below.refl _ _).alloc (Nat.le_refl _) _
        have hax : Adv wa br p5 (wa.alloc (.cells #[.int .i64 0, .int .i64 0, .slice none 0 0] 25)) := Adv.start (HDd.out.adv HA.out).rd hbe
        replace HA := Lib.hid (HA.out.trans hax)
        replace HI := Lib.hid (show BSl _ (br + 1) _ A5 bs from (HI.out.same (hax.same (Nat.le_refl _) (.inl (Nat.lt_succ_self _)))).mono (Nat.le_refl _) hax.size)
        clear hax
        refine hK _ _ (HDd.out.adv HA.out).seen ?_
        clear hK K hbe
        generalize hwz : wa.alloc (.cells #[.int .i64 0, .int .i64 0, .slice none 0 0] 25) = wz at *
        clear hwz
        refine anyT_one (i := 3) (by kernel_rfl) rfl (fun K hK => ?_)
        go_simp
        with_reducible refine (sSubstDo_any bs A5 C5 s v a c k _ (HI.out.mono (Nat.zero_le _) (Nat.le_refl _)) (by omega) ((HDd.out.adv HA.out).one.mono (Nat.zero_le _) (Nat.le_refl _))).mono ?_
        rintro e wc ⟨aT, cT, sT, vT, kT, t, hR, rfl, hbT, hlT⟩
        have hST : 1 + fsz kT ≤ 31000 := by have := sdR_szD hR; omega
        have hlo : br < wz.heap.size := Nat.lt_of_lt_of_le hwd HA.out.size
        have hhi : wz.heap.size ≤ wc.heap.size := hbT.size
        have hzl : wa.heap.size < wz.heap.size := HZ.out.lt
        have HLT := Lib.hid hlT
        have hax : Adv wz br p5 wc := Adv.start (HDd.out.adv HA.out).rd hbT
        replace HA := Lib.hid (HA.out.trans hax)
        replace HZ := Lib.hid (HZ.out.adv hax (by omega))
        replace HI := Lib.hid (show BSl _ (br + 1) _ A5 bs from (HI.out.same (hax.same (Nat.le_refl _) (.inl (Nat.lt_succ_self _)))).mono (Nat.le_refl _) hax.size)
        clear hax
        refine hK _ _ (HDd.out.adv HA.out).seen ?_
        clear hK K hbT hlT hR
        refine anyT_look (i := 4) rfl (by kernel_rfl) (HDd.out.adv HA.out).seen (fun K hK => ?_)
        go_simp
        refine hK _ ?_
        clear hK K
        refine anyT_look (i := 5) rfl (by kernel_rfl) (HDd.out.adv HA.out).seen (fun K hK => ?_)
        go_simp
        refine hK _ ?_
        clear hK K
        refine anyT_look (i := 6) rfl (by kernel_rfl) (HDd.out.adv HA.out).seen (fun K hK => ?_)
        go_simp
        refine hK _ ?_
        clear hK K
        have hzz0 := HZ.out.z0
        have hzz1 := HZ.out.z1
        have hzz2 := HZ.out.z2
        have hzf0 := HZ.out.f 0
        have hzf1 := HZ.out.f 1
        have hzf2 := HZ.out.f 2
        have HAE : Hid (Adv wd br p5 (((wc.setCell ⟨wa.heap.size, 0, none⟩ (.int .i64 sT)).setCell ⟨wa.heap.size, 1, none⟩ (.int .i64 vT)).setCell ⟨wa.heap.size, 2, none⟩ (.slice aT (flen kT) cT))) := ((HA.out.store hbz1 _).store hbz1 _).store hbz1 _
        have HBX := Lib.hid (box_set HZ.out (.int .i64 sT) (.int .i64 vT) (.slice aT (flen kT) cT))
        have hbz2 : br < wa.heap.size := by omega
        have HLF : Hid (Sl (((wc.setCell ⟨wa.heap.size, 0, none⟩ (.int .i64 sT)).setCell ⟨wa.heap.size, 1, none⟩ (.int .i64 vT)).setCell ⟨wa.heap.size, 2, none⟩ (.slice aT (flen kT) cT)) (br + 1) (((wc.setCell ⟨wa.heap.size, 0, none⟩ (.int .i64 sT)).setCell ⟨wa.heap.size, 1, none⟩ (.int .i64 vT)).setCell ⟨wa.heap.size, 2, none⟩ (.slice aT (flen kT) cT)).heap.size aT kT) := (HLT.out.set3 (.inl hzl) _ _ _).mono (by omega) (by have := HZ.out.lt; simp <;> omega)
        refine anyT_one (i := 8) (by kernel_rfl) rfl (fun K hK => ?_)
        go_simp
        refine hK _ _ (HDd.out.adv HAE.out).seen ?_
        clear hK K hzz0 hzz1 hzz2 hzf0 hzf1 hzf2
        refine anyT_one (i := 9) (by kernel_rfl) rfl (fun K hK => ?_)
        go_simp
        refine hK _ _ (HDd.out.adv HAE.out).seen ?_
        clear hK K
        refine anyT_done (by kernel_rfl) ?_
        have HDE := Lib.hid (HDd.out.adv HAE.out)
        clear HA HZ HLT HI HDd HAE
        generalize (((wc.setCell ⟨wa.heap.size, 0, none⟩ (.int .i64 sT)).setCell ⟨wa.heap.size, 1, none⟩ (.int .i64 vT)).setCell ⟨wa.heap.size, 2, none⟩ (.slice aT (flen kT) cT)) = we at *
        cases ht : t with
        | false =>
          subst ht
          have hq0 := HDE.out.c0
          have hq1 := HDE.out.c1
          have hq2 := HDE.out.c2
          have HLE := Lib.hid HDE.out.one
          have hb7e := HDE.out.lt7
          go_wp2_with fail
          have hbb := HDE.out.brE
          have hb7 := HDE.out.lt7
          have HAT := Lib.hid (cl6_at HDE.out.c0 HDE.out.c1 HDE.out.c2 hq0 hq1 hq2)
          have HN0 : Hid (∀ p, p ∈ (cl6 w3.heap.size (.int .i64 s) (.int .i64 v) (.slice a (flen k) c) w3.heap.size (.int .i64 s) (.int .i64 v) (.slice a (flen k) c)) → p.1.block ≠ w.heap.size) := cl6_blk (by omega) (by omega)
          have HN1 : Hid (∀ p, p ∈ (cl6 w3.heap.size (.int .i64 s) (.int .i64 v) (.slice a (flen k) c) w3.heap.size (.int .i64 s) (.int .i64 v) (.slice a (flen k) c)) → p.1.block ≠ w.heap.size + 1) := cl6_blk (by omega) (by omega)
          obtain ⟨hr0, hr1, hr2, hr3, hr4, hr5⟩ := tb_cellsS HDE.out.low
          obtain ⟨hf0, hf3⟩ := tb_freeS HDE.out.low 0 rfl rfl
          obtain ⟨hf1, hf4⟩ := tb_freeS HDE.out.low 1 rfl rfl
          obtain ⟨hf2, hf5⟩ := tb_freeS HDE.out.low 2 rfl rfl
          have hu0 : ∀ u : SeenD (cl6 w3.heap.size (.int .i64 s) (.int .i64 v) (.slice a (flen k) c) w3.heap.size (.int .i64 s) (.int .i64 v) (.slice a (flen k) c)), u.world.cell? ⟨w3.heap.size, 0, none⟩ = some (.int .i64 s) := fun u => u.at_ (_, _) (by simp [cl6])
          have hu1 : ∀ u : SeenD (cl6 w3.heap.size (.int .i64 s) (.int .i64 v) (.slice a (flen k) c) w3.heap.size (.int .i64 s) (.int .i64 v) (.slice a (flen k) c)), u.world.cell? ⟨w3.heap.size, 1, none⟩ = some (.int .i64 v) := fun u => u.at_ (_, _) (by simp [cl6])
          have hu2 : ∀ u : SeenD (cl6 w3.heap.size (.int .i64 s) (.int .i64 v) (.slice a (flen k) c) w3.heap.size (.int .i64 s) (.int .i64 v) (.slice a (flen k) c)), u.world.cell? ⟨w3.heap.size, 2, none⟩ = some (.slice a (flen k) c) := fun u => u.at_ (_, _) (by simp [cl6])
          have hu3 : ∀ u : SeenD (cl6 w3.heap.size (.int .i64 s) (.int .i64 v) (.slice a (flen k) c) w3.heap.size (.int .i64 s) (.int .i64 v) (.slice a (flen k) c)), u.world.cell? ⟨w3.heap.size, 0, none⟩ = some (.int .i64 s) := fun u => u.at_ (_, _) (by simp [cl6])
          have hu4 : ∀ u : SeenD (cl6 w3.heap.size (.int .i64 s) (.int .i64 v) (.slice a (flen k) c) w3.heap.size (.int .i64 s) (.int .i64 v) (.slice a (flen k) c)), u.world.cell? ⟨w3.heap.size, 1, none⟩ = some (.int .i64 v) := fun u => u.at_ (_, _) (by simp [cl6])
          have hu5 : ∀ u : SeenD (cl6 w3.heap.size (.int .i64 s) (.int .i64 v) (.slice a (flen k) c) w3.heap.size (.int .i64 s) (.int .i64 v) (.slice a (flen k) c)), u.world.cell? ⟨w3.heap.size, 2, none⟩ = some (.slice a (flen k) c) := fun u => u.at_ (_, _) (by simp [cl6])
          haveI : Nonempty (SeenD (cl6 w3.heap.size (.int .i64 s) (.int .i64 v) (.slice a (flen k) c) w3.heap.size (.int .i64 s) (.int .i64 v) (.slice a (flen k) c))) := ⟨⟨_, HAT.out⟩⟩
          clear hq0 hq1 hq2 hbb hb7
          refine wp_region_mix (fun w' => ∃ u : SeenD (cl6 w3.heap.size (.int .i64 s) (.int .i64 v) (.slice a (flen k) c) w3.heap.size (.int .i64 s) (.int .i64 v) (.slice a (flen k) c)), w' = u.world) [] [(0, 0), (1, 0), (2, 1), (3, 1)] (by kernel_rfl) (by kernel_rfl) (seenD_drew HAT.out) ?_
          iterate 2
            refine mix_see rfl (fun K hK => ?_)
            go_simp
            refine hK _ ?_
            clear hK K
          clear hu0 hu1 hu2 hu3 hu4 hu5
          refine mix_hold rfl (fun K hK => ?_)
          go_simp
          refine hK _ _ (seenD_drew (storeD HAT.out HN0.out _ _ _)) ?_
          clear hK K
          refine mix_hold rfl (fun K hK => ?_)
          go_simp
          refine hK _ _ (seenD_drew (storeD (storeD HAT.out HN0.out _ _ _) HN1.out _ _ _)) ?_
          clear hK K
          refine mix_end ?_
          go_wp2_with fail
          refine bodyPost_ret (v := .tuple #[.agg #[.int .i64 s, .int .i64 v, .slice a (flen k) c], .agg #[.int .i64 s, .int .i64 v, .slice a (flen k) c]]) ?_ rfl (dm_drew (dm_end HDE.out hS hS HLE.out _ _ _ _ _ _))
          simp [results, Try.results9, go_sem, hr0, hr1, hr2, hr3, hr4, hr5]
        | true =>
          subst ht
          obtain ⟨hq0, hq1, hq2⟩ := HBX.out
          go_wp2_with fail
          have hbb := HDE.out.brE
          have hb7 := HDE.out.lt7
          have HAT := Lib.hid (cl6_at HDE.out.c0 HDE.out.c1 HDE.out.c2 hq0 hq1 hq2)
          have HN0 : Hid (∀ p, p ∈ (cl6 w3.heap.size (.int .i64 s) (.int .i64 v) (.slice a (flen k) c) wa.heap.size (.int .i64 sT) (.int .i64 vT) (.slice aT (flen kT) cT)) → p.1.block ≠ w.heap.size) := cl6_blk (by omega) (by omega)
          have HN1 : Hid (∀ p, p ∈ (cl6 w3.heap.size (.int .i64 s) (.int .i64 v) (.slice a (flen k) c) wa.heap.size (.int .i64 sT) (.int .i64 vT) (.slice aT (flen kT) cT)) → p.1.block ≠ w.heap.size + 1) := cl6_blk (by omega) (by omega)
          obtain ⟨hr0, hr1, hr2, hr3, hr4, hr5⟩ := tb_cellsS HDE.out.low
          obtain ⟨hf0, hf3⟩ := tb_freeS HDE.out.low 0 rfl rfl
          obtain ⟨hf1, hf4⟩ := tb_freeS HDE.out.low 1 rfl rfl
          obtain ⟨hf2, hf5⟩ := tb_freeS HDE.out.low 2 rfl rfl
          have hu0 : ∀ u : SeenD (cl6 w3.heap.size (.int .i64 s) (.int .i64 v) (.slice a (flen k) c) wa.heap.size (.int .i64 sT) (.int .i64 vT) (.slice aT (flen kT) cT)), u.world.cell? ⟨w3.heap.size, 0, none⟩ = some (.int .i64 s) := fun u => u.at_ (_, _) (by simp [cl6])
          have hu1 : ∀ u : SeenD (cl6 w3.heap.size (.int .i64 s) (.int .i64 v) (.slice a (flen k) c) wa.heap.size (.int .i64 sT) (.int .i64 vT) (.slice aT (flen kT) cT)), u.world.cell? ⟨w3.heap.size, 1, none⟩ = some (.int .i64 v) := fun u => u.at_ (_, _) (by simp [cl6])
          have hu2 : ∀ u : SeenD (cl6 w3.heap.size (.int .i64 s) (.int .i64 v) (.slice a (flen k) c) wa.heap.size (.int .i64 sT) (.int .i64 vT) (.slice aT (flen kT) cT)), u.world.cell? ⟨w3.heap.size, 2, none⟩ = some (.slice a (flen k) c) := fun u => u.at_ (_, _) (by simp [cl6])
          have hu3 : ∀ u : SeenD (cl6 w3.heap.size (.int .i64 s) (.int .i64 v) (.slice a (flen k) c) wa.heap.size (.int .i64 sT) (.int .i64 vT) (.slice aT (flen kT) cT)), u.world.cell? ⟨wa.heap.size, 0, none⟩ = some (.int .i64 sT) := fun u => u.at_ (_, _) (by simp [cl6])
          have hu4 : ∀ u : SeenD (cl6 w3.heap.size (.int .i64 s) (.int .i64 v) (.slice a (flen k) c) wa.heap.size (.int .i64 sT) (.int .i64 vT) (.slice aT (flen kT) cT)), u.world.cell? ⟨wa.heap.size, 1, none⟩ = some (.int .i64 vT) := fun u => u.at_ (_, _) (by simp [cl6])
          have hu5 : ∀ u : SeenD (cl6 w3.heap.size (.int .i64 s) (.int .i64 v) (.slice a (flen k) c) wa.heap.size (.int .i64 sT) (.int .i64 vT) (.slice aT (flen kT) cT)), u.world.cell? ⟨wa.heap.size, 2, none⟩ = some (.slice aT (flen kT) cT) := fun u => u.at_ (_, _) (by simp [cl6])
          haveI : Nonempty (SeenD (cl6 w3.heap.size (.int .i64 s) (.int .i64 v) (.slice a (flen k) c) wa.heap.size (.int .i64 sT) (.int .i64 vT) (.slice aT (flen kT) cT))) := ⟨⟨_, HAT.out⟩⟩
          clear hq0 hq1 hq2 hbb hb7
          refine wp_region_mix (fun w' => ∃ u : SeenD (cl6 w3.heap.size (.int .i64 s) (.int .i64 v) (.slice a (flen k) c) wa.heap.size (.int .i64 sT) (.int .i64 vT) (.slice aT (flen kT) cT)), w' = u.world) [] [(0, 0), (1, 0), (2, 1), (3, 1)] (by kernel_rfl) (by kernel_rfl) (seenD_drew HAT.out) ?_
          iterate 2
            refine mix_see rfl (fun K hK => ?_)
            go_simp
            refine hK _ ?_
            clear hK K
          clear hu0 hu1 hu2 hu3 hu4 hu5
          refine mix_hold rfl (fun K hK => ?_)
          go_simp
          refine hK _ _ (seenD_drew (storeD HAT.out HN0.out _ _ _)) ?_
          clear hK K
          refine mix_hold rfl (fun K hK => ?_)
          go_simp
          refine hK _ _ (seenD_drew (storeD (storeD HAT.out HN0.out _ _ _) HN1.out _ _ _)) ?_
          clear hK K
          refine mix_end ?_
          go_wp2_with fail
          refine bodyPost_ret (v := .tuple #[.agg #[.int .i64 s, .int .i64 v, .slice a (flen k) c], .agg #[.int .i64 sT, .int .i64 vT, .slice aT (flen kT) cT]]) ?_ rfl (dm_drew (dm_end HDE.out hS hST HLF.out _ _ _ _ _ _))
          simp [results, Try.results9, go_sem, hr0, hr1, hr2, hr3, hr4, hr5]
    · go_simp
      have HZ := Lib.hid (zb_new wd)
      have hbz1 : wd.heap.size ≤ wd.heap.size := HA.out.size
      have hbe : Below wd.heap.size wd (wd.alloc (.cells #[.int .i64 0, .int .i64 0, .slice none 0 0] 25)) := (Below.refl _ _).alloc (Nat.le_refl _) _
      have hax : Adv wd br (p2 + 1) (wd.alloc (.cells #[.int .i64 0, .int .i64 0, .slice none 0 0] 25)) := Adv.start (HDd.out.adv HA.out).rd hbe
      replace HA := Lib.hid (HA.out.trans hax)
      clear hax
      refine hK _ _ (HDd.out.adv HA.out).seen ?_
      clear hK K hbe
      generalize hwz : wd.alloc (.cells #[.int .i64 0, .int .i64 0, .slice none 0 0] 25) = wz at *
      clear hwz
      refine anyT_one (i := 1) (by kernel_rfl) rfl (fun K hK => ?_)
      go_simp
      have HCC : Hid (Calls Try.prog 27 #[.pointer (some ⟨br, 0, none⟩), .int .i64 3] wz (SbPost br (p2 + 1) wz)) := l71Subst_any 3 br (p2 + 1) _ (HDd.out.adv HA.out).rd (by omega) (by omega) (by omega)
      with_reducible refine HCC.out.mono ?_
      rintro e wa ⟨bs, A5, C5, p5, rfl, hbl, _, hp5, hax, ho5⟩
      have hcs : br < wz.heap.size := Nat.lt_of_lt_of_le hwd HA.out.size
      have HI : Hid (BSl wa (br + 1) wa.heap.size A5 bs) := ho5.bsl.mono (by omega) (Nat.le_refl _)
      replace HA := Lib.hid (HA.out.trans hax)
      replace HZ := Lib.hid (HZ.out.adv hax (by omega))
      clear hax
      refine hK _ _ (HDd.out.adv HA.out).seen ?_
      clear hK K ho5 hcs HCC
      refine anyT_one (i := 3) (by kernel_rfl) rfl (fun K hK => ?_)
      go_simp
      with_reducible refine (sSubstDo_any bs A5 C5 s v a c k _ (HI.out.mono (Nat.zero_le _) (Nat.le_refl _)) (by omega) ((HDd.out.adv HA.out).one.mono (Nat.zero_le _) (Nat.le_refl _))).mono ?_
      rintro e wc ⟨aT, cT, sT, vT, kT, t, hR, rfl, hbT, hlT⟩
      have hST : 1 + fsz kT ≤ 31000 := by have := sdR_szD hR; omega
      have hlo : br < wa.heap.size := Nat.lt_of_lt_of_le hwd HA.out.size
      have hhi : wa.heap.size ≤ wc.heap.size := hbT.size
      have hzl : wd.heap.size < wa.heap.size := HZ.out.lt
      have HLT := Lib.hid hlT
      have hax : Adv wa br p5 wc := Adv.start (HDd.out.adv HA.out).rd hbT
      replace HA := Lib.hid (HA.out.trans hax)
      replace HZ := Lib.hid (HZ.out.adv hax (by omega))
      replace HI := Lib.hid (show BSl _ (br + 1) _ A5 bs from (HI.out.same (hax.same (Nat.le_refl _) (.inl (Nat.lt_succ_self _)))).mono (Nat.le_refl _) hax.size)
      clear hax
      refine hK _ _ (HDd.out.adv HA.out).seen ?_
      clear hK K hbT hlT hR
      refine anyT_look (i := 4) rfl (by kernel_rfl) (HDd.out.adv HA.out).seen (fun K hK => ?_)
      go_simp
      refine hK _ ?_
      clear hK K
      refine anyT_look (i := 5) rfl (by kernel_rfl) (HDd.out.adv HA.out).seen (fun K hK => ?_)
      go_simp
      refine hK _ ?_
      clear hK K
      refine anyT_look (i := 6) rfl (by kernel_rfl) (HDd.out.adv HA.out).seen (fun K hK => ?_)
      go_simp
      refine hK _ ?_
      clear hK K
      have hzz0 := HZ.out.z0
      have hzz1 := HZ.out.z1
      have hzz2 := HZ.out.z2
      have hzf0 := HZ.out.f 0
      have hzf1 := HZ.out.f 1
      have hzf2 := HZ.out.f 2
      have HAE : Hid (Adv wd br p5 (((wc.setCell ⟨wd.heap.size, 0, none⟩ (.int .i64 sT)).setCell ⟨wd.heap.size, 1, none⟩ (.int .i64 vT)).setCell ⟨wd.heap.size, 2, none⟩ (.slice aT (flen kT) cT))) := ((HA.out.store hbz1 _).store hbz1 _).store hbz1 _
      have HBX := Lib.hid (box_set HZ.out (.int .i64 sT) (.int .i64 vT) (.slice aT (flen kT) cT))
      have hbz2 : br < wd.heap.size := by omega
      have HLF : Hid (Sl (((wc.setCell ⟨wd.heap.size, 0, none⟩ (.int .i64 sT)).setCell ⟨wd.heap.size, 1, none⟩ (.int .i64 vT)).setCell ⟨wd.heap.size, 2, none⟩ (.slice aT (flen kT) cT)) (br + 1) (((wc.setCell ⟨wd.heap.size, 0, none⟩ (.int .i64 sT)).setCell ⟨wd.heap.size, 1, none⟩ (.int .i64 vT)).setCell ⟨wd.heap.size, 2, none⟩ (.slice aT (flen kT) cT)).heap.size aT kT) := (HLT.out.set3 (.inl hzl) _ _ _).mono (by omega) (by have := HZ.out.lt; simp <;> omega)
      refine anyT_one (i := 8) (by kernel_rfl) rfl (fun K hK => ?_)
      go_simp
      refine hK _ _ (HDd.out.adv HAE.out).seen ?_
      clear hK K hzz0 hzz1 hzz2 hzf0 hzf1 hzf2
      refine anyT_one (i := 9) (by kernel_rfl) rfl (fun K hK => ?_)
      go_simp
      refine hK _ _ (HDd.out.adv HAE.out).seen ?_
      clear hK K
      refine anyT_done (by kernel_rfl) ?_
      have HDE := Lib.hid (HDd.out.adv HAE.out)
      clear HA HZ HLT HI HDd HAE
      generalize (((wc.setCell ⟨wd.heap.size, 0, none⟩ (.int .i64 sT)).setCell ⟨wd.heap.size, 1, none⟩ (.int .i64 vT)).setCell ⟨wd.heap.size, 2, none⟩ (.slice aT (flen kT) cT)) = we at *
      cases ht : t with
      | false =>
        subst ht
        have hq0 := HDE.out.c0
        have hq1 := HDE.out.c1
        have hq2 := HDE.out.c2
        have HLE := Lib.hid HDE.out.one
        have hb7e := HDE.out.lt7
        go_wp2_with fail
        have hbb := HDE.out.brE
        have hb7 := HDE.out.lt7
        have HAT := Lib.hid (cl6_at HDE.out.c0 HDE.out.c1 HDE.out.c2 hq0 hq1 hq2)
        have HN0 : Hid (∀ p, p ∈ (cl6 w3.heap.size (.int .i64 s) (.int .i64 v) (.slice a (flen k) c) w3.heap.size (.int .i64 s) (.int .i64 v) (.slice a (flen k) c)) → p.1.block ≠ w.heap.size) := cl6_blk (by omega) (by omega)
        have HN1 : Hid (∀ p, p ∈ (cl6 w3.heap.size (.int .i64 s) (.int .i64 v) (.slice a (flen k) c) w3.heap.size (.int .i64 s) (.int .i64 v) (.slice a (flen k) c)) → p.1.block ≠ w.heap.size + 1) := cl6_blk (by omega) (by omega)
        obtain ⟨hr0, hr1, hr2, hr3, hr4, hr5⟩ := tb_cellsS HDE.out.low
        obtain ⟨hf0, hf3⟩ := tb_freeS HDE.out.low 0 rfl rfl
        obtain ⟨hf1, hf4⟩ := tb_freeS HDE.out.low 1 rfl rfl
        obtain ⟨hf2, hf5⟩ := tb_freeS HDE.out.low 2 rfl rfl
        have hu0 : ∀ u : SeenD (cl6 w3.heap.size (.int .i64 s) (.int .i64 v) (.slice a (flen k) c) w3.heap.size (.int .i64 s) (.int .i64 v) (.slice a (flen k) c)), u.world.cell? ⟨w3.heap.size, 0, none⟩ = some (.int .i64 s) := fun u => u.at_ (_, _) (by simp [cl6])
        have hu1 : ∀ u : SeenD (cl6 w3.heap.size (.int .i64 s) (.int .i64 v) (.slice a (flen k) c) w3.heap.size (.int .i64 s) (.int .i64 v) (.slice a (flen k) c)), u.world.cell? ⟨w3.heap.size, 1, none⟩ = some (.int .i64 v) := fun u => u.at_ (_, _) (by simp [cl6])
        have hu2 : ∀ u : SeenD (cl6 w3.heap.size (.int .i64 s) (.int .i64 v) (.slice a (flen k) c) w3.heap.size (.int .i64 s) (.int .i64 v) (.slice a (flen k) c)), u.world.cell? ⟨w3.heap.size, 2, none⟩ = some (.slice a (flen k) c) := fun u => u.at_ (_, _) (by simp [cl6])
        have hu3 : ∀ u : SeenD (cl6 w3.heap.size (.int .i64 s) (.int .i64 v) (.slice a (flen k) c) w3.heap.size (.int .i64 s) (.int .i64 v) (.slice a (flen k) c)), u.world.cell? ⟨w3.heap.size, 0, none⟩ = some (.int .i64 s) := fun u => u.at_ (_, _) (by simp [cl6])
        have hu4 : ∀ u : SeenD (cl6 w3.heap.size (.int .i64 s) (.int .i64 v) (.slice a (flen k) c) w3.heap.size (.int .i64 s) (.int .i64 v) (.slice a (flen k) c)), u.world.cell? ⟨w3.heap.size, 1, none⟩ = some (.int .i64 v) := fun u => u.at_ (_, _) (by simp [cl6])
        have hu5 : ∀ u : SeenD (cl6 w3.heap.size (.int .i64 s) (.int .i64 v) (.slice a (flen k) c) w3.heap.size (.int .i64 s) (.int .i64 v) (.slice a (flen k) c)), u.world.cell? ⟨w3.heap.size, 2, none⟩ = some (.slice a (flen k) c) := fun u => u.at_ (_, _) (by simp [cl6])
        haveI : Nonempty (SeenD (cl6 w3.heap.size (.int .i64 s) (.int .i64 v) (.slice a (flen k) c) w3.heap.size (.int .i64 s) (.int .i64 v) (.slice a (flen k) c))) := ⟨⟨_, HAT.out⟩⟩
        clear hq0 hq1 hq2 hbb hb7
        refine wp_region_mix (fun w' => ∃ u : SeenD (cl6 w3.heap.size (.int .i64 s) (.int .i64 v) (.slice a (flen k) c) w3.heap.size (.int .i64 s) (.int .i64 v) (.slice a (flen k) c)), w' = u.world) [] [(0, 0), (1, 0), (2, 1), (3, 1)] (by kernel_rfl) (by kernel_rfl) (seenD_drew HAT.out) ?_
        iterate 2
          refine mix_see rfl (fun K hK => ?_)
          go_simp
          refine hK _ ?_
          clear hK K
        clear hu0 hu1 hu2 hu3 hu4 hu5
        refine mix_hold rfl (fun K hK => ?_)
        go_simp
        refine hK _ _ (seenD_drew (storeD HAT.out HN0.out _ _ _)) ?_
        clear hK K
        refine mix_hold rfl (fun K hK => ?_)
        go_simp
        refine hK _ _ (seenD_drew (storeD (storeD HAT.out HN0.out _ _ _) HN1.out _ _ _)) ?_
        clear hK K
        refine mix_end ?_
        go_wp2_with fail
        refine bodyPost_ret (v := .tuple #[.agg #[.int .i64 s, .int .i64 v, .slice a (flen k) c], .agg #[.int .i64 s, .int .i64 v, .slice a (flen k) c]]) ?_ rfl (dm_drew (dm_end HDE.out hS hS HLE.out _ _ _ _ _ _))
        simp [results, Try.results9, go_sem, hr0, hr1, hr2, hr3, hr4, hr5]
      | true =>
        subst ht
        obtain ⟨hq0, hq1, hq2⟩ := HBX.out
        go_wp2_with fail
        have hbb := HDE.out.brE
        have hb7 := HDE.out.lt7
        have HAT := Lib.hid (cl6_at HDE.out.c0 HDE.out.c1 HDE.out.c2 hq0 hq1 hq2)
        have HN0 : Hid (∀ p, p ∈ (cl6 w3.heap.size (.int .i64 s) (.int .i64 v) (.slice a (flen k) c) wd.heap.size (.int .i64 sT) (.int .i64 vT) (.slice aT (flen kT) cT)) → p.1.block ≠ w.heap.size) := cl6_blk (by omega) (by omega)
        have HN1 : Hid (∀ p, p ∈ (cl6 w3.heap.size (.int .i64 s) (.int .i64 v) (.slice a (flen k) c) wd.heap.size (.int .i64 sT) (.int .i64 vT) (.slice aT (flen kT) cT)) → p.1.block ≠ w.heap.size + 1) := cl6_blk (by omega) (by omega)
        obtain ⟨hr0, hr1, hr2, hr3, hr4, hr5⟩ := tb_cellsS HDE.out.low
        obtain ⟨hf0, hf3⟩ := tb_freeS HDE.out.low 0 rfl rfl
        obtain ⟨hf1, hf4⟩ := tb_freeS HDE.out.low 1 rfl rfl
        obtain ⟨hf2, hf5⟩ := tb_freeS HDE.out.low 2 rfl rfl
        have hu0 : ∀ u : SeenD (cl6 w3.heap.size (.int .i64 s) (.int .i64 v) (.slice a (flen k) c) wd.heap.size (.int .i64 sT) (.int .i64 vT) (.slice aT (flen kT) cT)), u.world.cell? ⟨w3.heap.size, 0, none⟩ = some (.int .i64 s) := fun u => u.at_ (_, _) (by simp [cl6])
        have hu1 : ∀ u : SeenD (cl6 w3.heap.size (.int .i64 s) (.int .i64 v) (.slice a (flen k) c) wd.heap.size (.int .i64 sT) (.int .i64 vT) (.slice aT (flen kT) cT)), u.world.cell? ⟨w3.heap.size, 1, none⟩ = some (.int .i64 v) := fun u => u.at_ (_, _) (by simp [cl6])
        have hu2 : ∀ u : SeenD (cl6 w3.heap.size (.int .i64 s) (.int .i64 v) (.slice a (flen k) c) wd.heap.size (.int .i64 sT) (.int .i64 vT) (.slice aT (flen kT) cT)), u.world.cell? ⟨w3.heap.size, 2, none⟩ = some (.slice a (flen k) c) := fun u => u.at_ (_, _) (by simp [cl6])
        have hu3 : ∀ u : SeenD (cl6 w3.heap.size (.int .i64 s) (.int .i64 v) (.slice a (flen k) c) wd.heap.size (.int .i64 sT) (.int .i64 vT) (.slice aT (flen kT) cT)), u.world.cell? ⟨wd.heap.size, 0, none⟩ = some (.int .i64 sT) := fun u => u.at_ (_, _) (by simp [cl6])
        have hu4 : ∀ u : SeenD (cl6 w3.heap.size (.int .i64 s) (.int .i64 v) (.slice a (flen k) c) wd.heap.size (.int .i64 sT) (.int .i64 vT) (.slice aT (flen kT) cT)), u.world.cell? ⟨wd.heap.size, 1, none⟩ = some (.int .i64 vT) := fun u => u.at_ (_, _) (by simp [cl6])
        have hu5 : ∀ u : SeenD (cl6 w3.heap.size (.int .i64 s) (.int .i64 v) (.slice a (flen k) c) wd.heap.size (.int .i64 sT) (.int .i64 vT) (.slice aT (flen kT) cT)), u.world.cell? ⟨wd.heap.size, 2, none⟩ = some (.slice aT (flen kT) cT) := fun u => u.at_ (_, _) (by simp [cl6])
        haveI : Nonempty (SeenD (cl6 w3.heap.size (.int .i64 s) (.int .i64 v) (.slice a (flen k) c) wd.heap.size (.int .i64 sT) (.int .i64 vT) (.slice aT (flen kT) cT))) := ⟨⟨_, HAT.out⟩⟩
        clear hq0 hq1 hq2 hbb hb7
        refine wp_region_mix (fun w' => ∃ u : SeenD (cl6 w3.heap.size (.int .i64 s) (.int .i64 v) (.slice a (flen k) c) wd.heap.size (.int .i64 sT) (.int .i64 vT) (.slice aT (flen kT) cT)), w' = u.world) [] [(0, 0), (1, 0), (2, 1), (3, 1)] (by kernel_rfl) (by kernel_rfl) (seenD_drew HAT.out) ?_
        iterate 2
          refine mix_see rfl (fun K hK => ?_)
          go_simp
          refine hK _ ?_
          clear hK K
        clear hu0 hu1 hu2 hu3 hu4 hu5
        refine mix_hold rfl (fun K hK => ?_)
        go_simp
        refine hK _ _ (seenD_drew (storeD HAT.out HN0.out _ _ _)) ?_
        clear hK K
        refine mix_hold rfl (fun K hK => ?_)
        go_simp
        refine hK _ _ (seenD_drew (storeD (storeD HAT.out HN0.out _ _ _) HN1.out _ _ _)) ?_
        clear hK K
        refine mix_end ?_
        go_wp2_with fail
        refine bodyPost_ret (v := .tuple #[.agg #[.int .i64 s, .int .i64 v, .slice a (flen k) c], .agg #[.int .i64 sT, .int .i64 vT, .slice aT (flen kT) cT]]) ?_ rfl (dm_drew (dm_end HDE.out hS hST HLF.out _ _ _ _ _ _))
        simp [results, Try.results9, go_sem, hr0, hr1, hr2, hr3, hr4, hr5]
end Go.Proofs.Ytlaaihnokoeliaa
