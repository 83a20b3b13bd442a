/- Several texts in one: DU. -/
import Derived.Test.YtpfkhgiiojikbaaKUnify8
import Derived.Test.YtpfkhgiiojikbaaKUnify7
import Derived.Test.YtpfkhgiiojikbaaKUnify9
import Derived.Test.YtpfkhgiiojikbaaKThen10

/-! DU: DrawUnifyOf. -/
namespace Go.Proofs.Ytpfkhgiiojikbaa
open Go.RowKit Go.Deep
attribute [local go_sem ↓] Go.wp_at_zero Go.wp_at_succ

theorem Gb.adv {b br p : Nat} {x y z : Value} {wn wm : World} (h : Gb b x y z wn) (ha : Adv wn br p wm) (hb : b ≠ br) : Gb b x y z wm :=
  ⟨Nat.lt_of_lt_of_le h.lt ha.size, ha.cell h.c0 hb, ha.cell h.c1 hb, ha.cell h.c2 hb, fun o => (ha.frozen h.lt).trans (h.f o)⟩
/-- In the midst of the draw: both boxes. -/
structure DB (w : World) (br b5 b6 M : Nat) (s v : Int) (a : Option Addr) (c : Nat) (k : Fo) (s' v' : Int) (a' : Option Addr) (c' : Nat) (k' : Fo) (p : Nat) (wn : World) : Prop where
  brE : br = w.heap.size + 2
  rd : Rd wn br p
  low : Below (w.heap.size + 2) ((w.alloc (.cells #[.int .i64 0, .int .i64 0, .slice none 0 0] 28)).alloc (.cells #[.int .i64 0, .int .i64 0, .slice none 0 0] 28)) wn
  mle : M ≤ wn.heap.size
  l5 : br < b5
  l56 : b5 < b6
  l6 : b6 < M
  one : Sl wn (br + 1) b5 a k
  two : ∃ lo hi, Sl wn lo hi a' k' ∧ br < lo ∧ hi ≤ M ∧ (b6 < lo ∨ hi ≤ b6)
  g5 : Gb b5 (.int .i64 s) (.int .i64 v) (.slice a (flen k) c) wn
  g6 : Gb b6 (.int .i64 s') (.int .i64 v') (.slice a' (flen k') c') wn
section
variable {w : World} {br b5 b6 M : Nat} {s v : Int} {a : Option Addr} {c : Nat} {k : Fo} {s' v' : Int} {a' : Option Addr} {c' : Nat} {k' : Fo} {p : Nat} {wn wm : World}
theorem DB.adv (h : DB w br b5 b6 M s v a c k s' v' a' c' k' p wn) {p' : Nat} (ha : Adv wn br p' wm) : DB w br b5 b6 M s v a c k s' v' a' c' k' p' wm := by
  have hs := ha.size
  have hm := h.mle
  have h5 := h.l5
  have h56 := h.l56
  have h6 := h.l6
  have hlow := h.low.size
  simp at hlow
  obtain ⟨lo, hi, hl, h1, h2, h3⟩ := h.two
  exact ⟨h.brE, ha.rd h.rd, adv_low h.low (by have := h.brE; omega) (by omega) ha, by omega, h5, h56, h6, h.one.same (ha.same (by omega) (.inl (by omega))), ⟨lo, hi, hl.same (ha.same (by omega) (.inl h1)), h1, h2, h3⟩, h.g5.adv ha (by omega), h.g6.adv ha (by omega)⟩
theorem DB.up (h : DB w br b5 b6 M s v a c k s' v' a' c' k' p wn) : DB w br b5 b6 wn.heap.size s v a c k s' v' a' c' k' p wn := by
  have hm := h.mle
  have h6 := h.l6
  obtain ⟨lo, hi, hl, h1, h2, h3⟩ := h.two
  exact ⟨h.brE, h.rd, h.low, Nat.le_refl _, h.l5, h.l56, by omega, h.one, ⟨lo, hi, hl, h1, by omega, h3⟩, h.g5, h.g6⟩
theorem DB.two1 (h : DB w br b5 b6 M s v a c k s' v' a' c' k' p wn) : Sl wn (br + 1) wn.heap.size a' k' := by
  have hm := h.mle
  obtain ⟨lo, hi, hl, h1, h2, h3⟩ := h.two
  exact hl.mono (by omega) (by omega)
theorem DB.toDA (h : DB w br b5 b6 M s v a c k s' v' a' c' k' p wn) : DA w br b5 s v a c k p wn :=
  ⟨h.brE, h.rd, h.low, h.one.mono (Nat.le_refl _) (Nat.le_of_lt h.g5.lt), h.l5, h.g5.lt, h.g5.c0, h.g5.c1, h.g5.c2⟩
theorem DB.seen (h : DB w br b5 b6 M s v a c k s' v' a' c' k' p wn) : ∃ u : SeenD (cl3 b6 s' v' (.slice a' (flen k') c')), wn = u.world := seenD_of (cl3_at h.g6.c0 h.g6.c1 h.g6.c2)
theorem DB.set (h : DB w br b5 b6 M s v a c k s' v' a' c' k' p wn) {s2 v2 : Int} {a2 : Option Addr} {c2 : Nat} {k2 : Fo} {lo hi : Nat} (hl : Sl wn lo hi a2 k2) (hlo : b6 < lo) (hhi : hi ≤ M) : DB w br b5 b6 M s v a c k s2 v2 a2 c2 k2 p (set3 wn b6 (.int .i64 s2) (.int .i64 v2) (.slice a2 (flen k2) c2)) := by
  have h5 := h.l5
  have h56 := h.l56
  have hbr := h.brE
  refine ⟨hbr, ?_, set3_low h.low (by omega) _ _ _, by rw [set3_size]; exact h.mle, h5, h56, h.l6, h.one.same (set3_same (.inr (by omega)) _ _ _), ⟨lo, hi, hl.same (set3_same (.inl hlo) _ _ _), by omega, hhi, .inl hlo⟩, h.g5.other (by omega) _ _ _, h.g6.set _ _ _⟩
  unfold set3
  exact ((h.rd.store (by simp only; omega) _).store (by simp only; omega) _).store (by simp only; omega) _
theorem set3_adv {wr wn : World} {br p b : Nat} (ha : Adv wr br p wn) (hb : wr.heap.size ≤ b) (x y z : Value) : Adv wr br p (set3 wn b x y z) := ((ha.store hb _).store hb _).store hb _
end

set_option maxRecDepth 100000 in
set_option maxHeartbeats 8000000 in
theorem DrawUnifyOf_any (a0 : Option Addr) (len cap : Nat) (w : World) (hby : Bytes w a0 len) (hlen : len ≤ cap) :
    Calls Try.prog 26 #[.slice a0 len cap] w (DmPost w) := by
  have HBY := Lib.hid hby
  clear hby
  go_enter Try.func26, Try.ntmps26
  go_wp2_with fail
  with_reducible refine (l6Open_any a0 len cap _ ((HBY.out.alloc _).alloc _) hlen).mono ?_
  rintro e w1 ⟨rfl, hb1, hrd⟩
  have hs1 := hb1.size
  simp at hs1
  simp only [World.size_alloc] at hrd
  have HRD := Lib.hid hrd
  have HB1 : Hid (Below (w.heap.size + 2) ((w.alloc (.cells #[.int .i64 0, .int .i64 0, .slice none 0 0] 28)).alloc (.cells #[.int .i64 0, .int .i64 0, .slice none 0 0] 28)) w1) := hb1.mono (by simp)
  clear hb1 hrd
  simp only [World.size_alloc]
  obtain ⟨br, hbrE⟩ : ∃ br, w.heap.size + 1 + 1 = br := ⟨_, rfl⟩
  rw [hbrE]
  rw [hbrE] at HRD
  have HBR : Hid (br = w.heap.size + 2) := hbrE.symm
  clear hbrE
  go_wp2_with fail
  with_reducible refine (l71Some_any br 0 _ HRD.out (by omega)).mono ?_
  rintro e w3 ⟨s, v, a, c, k, p2, rfl, _, hp2, hS, ha2, hl2⟩
  have HD : Hid (DA w br w3.heap.size s v a c k p2 (w3.alloc (.cells #[.int .i64 s, .int .i64 v, .slice a (flen k) c] 28))) := by
    have hlt2 := HRD.out.lt
    have hbrE := HBR.out
    have hs23 := ha2.size
    have hba : Below w3.heap.size w3 (w3.alloc (.cells #[.int .i64 s, .int .i64 v, .slice a (flen k) c] 28)) := (Below.refl _ _).alloc (Nat.le_refl _) _
    refine ⟨hbrE, (ha2.rd HRD.out).alloc _, (adv_low HB1.out (by omega) (by omega) ha2).alloc (by omega) _, ?_, by omega, by simp, ?_, ?_, ?_⟩
    · exact (hl2.mono (lo' := br + 1) (by omega) (Nat.le_refl _)).low hba
    iterate 3
      rw [World.cell?_alloc_at _ _ _ _ rfl]; rfl
  have hp3 : p2 ≤ 300 := by omega
  have HGN : Hid (Gb w3.heap.size (.int .i64 s) (.int .i64 v) (.slice a (flen k) c) (w3.alloc (.cells #[.int .i64 s, .int .i64 v, .slice a (flen k) c] 28))) := Gb.new _ _ _ _ _
  have HONE : Hid (Sl (w3.alloc (.cells #[.int .i64 s, .int .i64 v, .slice a (flen k) c] 28)) (br + 1) w3.heap.size a k) := by
    have hlt2 := HRD.out.lt
    exact (hl2.mono (lo' := br + 1) (by omega) (Nat.le_refl _)).below ((Below.refl _ _).alloc (Nat.le_refl _) _)
  clear ha2 hl2 HB1
  go_wp2_with fail
  generalize (w3.alloc (.cells #[.int .i64 s, .int .i64 v, .slice a (flen k) c] 28)) = w3b at *
  with_reducible refine (pick_any 3 br p2 _ HD.out.rd (by omega) (by omega) (by omega)).mono ?_
  rintro e w4 ⟨y, rfl, hy, hb4⟩
  have HD4 : Hid (DA w br w3.heap.size s v a c k (p2 + 1) w4) := HD.out.adv hb4
  have HO4 : Hid (Sl w4 (br + 1) w3.heap.size a k) := HONE.out.same (Adv.same hb4 (Nat.le_of_lt HD.out.s7) (.inl (Nat.lt_succ_self _)))
  have HG4 : Hid (Gb w3.heap.size (.int .i64 s) (.int .i64 v) (.slice a (flen k) c) w4) := HGN.out.adv hb4 (by have := HD.out.lt7; omega)
  clear hb4 hy HD HONE HGN
  by_cases hy0 : y = 0
  · subst hy0
    have HD7 := Lib.hid (HD4.out.below (Below.refl _ _).drew)
    have hu0 : ∀ u : SeenD (cl3 w3.heap.size s v (.slice a (flen k) c)), u.world.cell? ⟨w3.heap.size, 0, none⟩ = some (.int .i64 s) := fun u => u.at_ (_, _) (by simp [cl3])
    have hu1 : ∀ u : SeenD (cl3 w3.heap.size s v (.slice a (flen k) c)), u.world.cell? ⟨w3.heap.size, 1, none⟩ = some (.int .i64 v) := fun u => u.at_ (_, _) (by simp [cl3])
    have hu2 : ∀ u : SeenD (cl3 w3.heap.size s v (.slice a (flen k) c)), u.world.cell? ⟨w3.heap.size, 2, none⟩ = some (.slice a (flen k) c) := fun u => u.at_ (_, _) (by simp [cl3])
    haveI : Nonempty (SeenD (cl3 w3.heap.size s v (.slice a (flen k) c))) := ⟨HD7.out.seen.choose⟩
    go_wp2_with fail
    clear HD4
    refine wp_region_mix (fun w' => ∃ u : SeenD (cl3 w3.heap.size s v (.slice a (flen k) c)), w' = u.world) [] [(0, 0), (1, 0), (2, 1), (3, 1), (4, 1)] (by kernel_rfl) (by kernel_rfl) HD7.out.seen ?_
    iterate 2
      refine mix_see rfl (fun K hK => ?_)
      go_simp
      refine hK _ ?_
      clear hK K
    clear hu0 hu1 hu2
    refine mix_hold rfl (fun K hK => ?_)
    go_simp
    with_reducible refine (l71Some_any br (p2 + 1) _ HD7.out.rd (by omega)).mono ?_
    rintro e w8 ⟨s8, v8, a8, c8, k8, p8, rfl, _, hp8, hS8, ha8, hl8⟩
    have HD8 := Lib.hid (HD7.out.adv ha8)
    have HL8 : Hid (Sl w8 (br + 1) w8.heap.size a8 k8) := hl8.mono (by have := HD7.out.rd.lt; omega) (Nat.le_refl _)
    have hbb := HD8.out.brE
    have hb7 := HD8.out.lt7
    have HAT := Lib.hid (cl3_at HD8.out.c0 HD8.out.c1 HD8.out.c2)
    have HN0 : Hid (∀ p, p ∈ (cl3 w3.heap.size s v (.slice a (flen k) c)) → p.1.block ≠ w.heap.size) := cl3_blk (by omega)
    have HN1 : Hid (∀ p, p ∈ (cl3 w3.heap.size s v (.slice a (flen k) c)) → p.1.block ≠ w.heap.size + 1) := cl3_blk (by omega)
    obtain ⟨hr0, hr1, hr2, hr3, hr4, hr5⟩ := tb_cellsS HD8.out.low
    obtain ⟨hf0, hf3⟩ := tb_freeS HD8.out.low 0 rfl rfl
    obtain ⟨hf1, hf4⟩ := tb_freeS HD8.out.low 1 rfl rfl
    obtain ⟨hf2, hf5⟩ := tb_freeS HD8.out.low 2 rfl rfl
    refine hK _ _ (seenD_of HAT.out) ?_
    clear hK K ha8 hl8 hbb hb7
    refine mix_hold rfl (fun K hK => ?_)
    go_simp
    refine hK _ _ (seenD_of (storeD HAT.out HN0.out _ _ _)) ?_
    clear hK K
    refine mix_hold rfl (fun K hK => ?_)
    go_simp
    refine hK _ _ (seenD_of (storeD (storeD HAT.out HN0.out _ _ _) HN1.out _ _ _)) ?_
    clear hK K
    refine mix_end ?_
    go_wp2_with fail
    refine bodyPost_ret (v := .tuple #[.agg #[.int .i64 s, .int .i64 v, .slice a (flen k) c], .agg #[.int .i64 s8, .int .i64 v8, .slice a8 (flen k8) c8]]) ?_ rfl (dm_end HD8.out hS hS8 HL8.out _ _ _ _ _ _)
    simp [results, Try.results26, go_sem, hr0, hr1, hr2, hr3, hr4, hr5]
  · have y0 : ((y : Int) == 0) = false := by simpa using hy0
    have c0 := HD4.out.c0
    have c1 := HD4.out.c1
    have c2 := HD4.out.c2
    have hk31 := hS
    have hs74 := HD4.out.s7
    have HL4 : Hid (Sl w4 0 w4.heap.size a k) := HO4.out.mono (Nat.zero_le _) (Nat.le_of_lt hs74)
    go_wp2_with fail
    with_reducible refine (l1Copy_any (fsz k) s v a c k w4 HL4.out (Nat.le_refl _) (by omega)).mono ?_
    rintro e w5 ⟨a5, c5, rfl, hb5, ho5⟩
    have HDB : Hid (DB w br w3.heap.size w5.heap.size (w5.alloc (.cells #[.int .i64 s, .int .i64 v, .slice a5 (flen k) c5] 28)).heap.size s v a c k s v a5 c5 k (p2 + 1) (w5.alloc (.cells #[.int .i64 s, .int .i64 v, .slice a5 (flen k) c5] 28))) := by
      have hD := HD4.out
      have hs5 := hb5.size
      have hal : Below w5.heap.size w5 (w5.alloc (.cells #[.int .i64 s, .int .i64 v, .slice a5 (flen k) c5] 28)) := (Below.refl _ _).alloc (Nat.le_refl _) _
      have hb6 : Below w4.heap.size w4 (w5.alloc (.cells #[.int .i64 s, .int .i64 v, .slice a5 (flen k) c5] 28)) := hb5.trans (hal.mono hs5)
      have hD6 := hD.below hb6
      have hf5 : Gb w3.heap.size (.int .i64 s) (.int .i64 v) (.slice a (flen k) c) w4 := HG4.out
      refine ⟨hD.brE, hD6.rd, hD6.low, Nat.le_refl _, hD.lt7, by omega, by simp, HO4.out.same fun q _ hq => hb6.block q (by omega), ⟨w4.heap.size, w5.heap.size, ho5.sl.below hal, by have := hD.rd.lt; omega, by simp, .inr (Nat.le_refl _)⟩, hf5.low hb6, Gb.new _ _ _ _ _⟩
    clear hb5 ho5 c0 c1 c2 HD4 HO4 HL4 HG4
    go_wp2_with fail
    generalize hBB : w5.heap.size = B6 at *
    clear hBB
    generalize hBB : w3.heap.size = B5 at *
    clear hBB
    generalize (w5.alloc (.cells #[.int .i64 s, .int .i64 v, .slice a5 (flen k) c5] 28)) = w6 at *
    with_reducible refine (pick_any 3 br (p2 + 1) w6 HDB.out.rd (by omega) (by omega) (by omega)).mono ?_
    rintro e w7 ⟨y7, rfl, hy7, hb7⟩
    have HD7 : Hid (DB w br B5 B6 w7.heap.size s v a c k s v a5 c5 k (p2 + 1 + 1) w7) := (HDB.out.adv hb7).up
    have hy7b : y7 ≤ 2 := by omega
    clear hb7 HDB hy7
    go_wp2_with fail
    go_loopw [7] (fun i wr => ∃ (m q : Nat) (s' v' : Int) (a' : Option Addr) (c' : Nat) (k' : Fo), i = .int .i64 m ∧ m ≤ 3 ∧ q + 300 * m ≤ 3000 ∧ 1 + fsz k' ≤ 31000 ∧ Hid (DB w br B5 B6 wr.heap.size s v a c k s' v' a' c' k' q wr)) (fun i _ => (intOf i).toNat)
    case atStart => exact ⟨1 + y7, p2 + 1 + 1, s, v, a5, c5, k, by go_num, by omega, by omega, hk31, HD7⟩
    case round =>
      clear HD7
      obtain ⟨m, q, s', v', a', c', k', rfl, hm3, hqm, hk', HDR⟩ := hrel
      by_cases hm0 : 0 < m
      · have gm : decide ((m : Int) > 0) = true := decide_eq_true (by omega)
        have HSB : Hid (br < wr.heap.size ∧ B6 < wr.heap.size) := ⟨by have := HDR.out.rd.lt; omega, HDR.out.l6⟩
        have hu0 : ∀ u : SeenD (cl3 B6 s' v' (.slice a' (flen k') c')), u.world.cell? ⟨B6, 0, none⟩ = some (.int .i64 s') := fun u => u.at_ (_, _) (by simp [cl3])
        have hu1 : ∀ u : SeenD (cl3 B6 s' v' (.slice a' (flen k') c')), u.world.cell? ⟨B6, 1, none⟩ = some (.int .i64 v') := fun u => u.at_ (_, _) (by simp [cl3])
        have hu2 : ∀ u : SeenD (cl3 B6 s' v' (.slice a' (flen k') c')), u.world.cell? ⟨B6, 2, none⟩ = some (.slice a' (flen k') c') := fun u => u.at_ (_, _) (by simp [cl3])
        haveI : Nonempty (SeenD (cl3 B6 s' v' (.slice a' (flen k') c'))) := ⟨HDR.out.seen.choose⟩
        go_wp2_with fail
        refine wp_region_anyT (fun w' => ∃ u : SeenD (cl3 B6 s' v' (.slice a' (flen k') c')), w' = u.world) (by kernel_rfl) ?_
        have HA : Hid (Adv wr br q wr.drew) := Adv.start HDR.out.rd (Below.refl _ _).drew
        generalize wr.drew = wd at *
        refine anyT_look (i := 0) rfl (by kernel_rfl) (HDR.out.adv HA.out).seen (fun K hK => ?_)
        go_simp
        refine hK _ ?_
        clear hK K
        refine anyT_look (i := 1) rfl (by kernel_rfl) (HDR.out.adv HA.out).seen (fun K hK => ?_)
        go_simp
        refine hK _ ?_
        clear hK K
        refine anyT_look (i := 2) rfl (by kernel_rfl) (HDR.out.adv HA.out).seen (fun K hK => ?_)
        go_simp
        refine hK _ ?_
        clear hK K
        refine anyT_look (i := 4) rfl (by kernel_rfl) (HDR.out.adv HA.out).seen (fun K hK => ?_)
        go_simp
        refine hK _ ?_
        clear hK K
        clear hu0 hu1 hu2
        refine anyT_two (i := 3) (j := 11) (by kernel_rfl) rfl rfl (fun K hK => ?_) (fun K hK => ?_)
        · go_simp
          with_reducible refine (l71Place_any br q s' v' a' c' k' wd (HDR.out.adv HA.out).rd (by omega) (HDR.out.adv HA.out).two1).mono ?_
          rintro e wc1 ⟨A3, C3, place, q3, rfl, hq3a, hq3, hpl, hax, hi3⟩
          have hcs := (HDR.out.adv HA.out).rd.lt
          have HPL : Hid (ISc wc1 (br + 1) wc1.heap.size A3 C3 place) := hi3.mono (by omega) (Nat.le_refl _)
          clear hi3 hcs
          replace HA := Lib.hid (HA.out.trans hax)
          clear hax
          refine hK _ _ (HDR.out.adv HA.out).seen ?_
          clear hK K
          refine anyT_two (i := 5) (j := 11) (by kernel_rfl) rfl rfl (fun K hK => ?_) (fun K hK => ?_)
          · go_simp
            with_reducible refine (pick_any 4 br q3 wc1 (HDR.out.adv HA.out).rd (by omega) (by omega) (by omega)).mono ?_
            rintro e wc2 ⟨y5, rfl, hy5, hax⟩
            have hax : Adv wc1 br (q3 + 1) wc2 := hax
            replace HPL : Hid (ISc wc2 (br + 1) wc2.heap.size A3 C3 place) := (HPL.out.same (hax.same (Nat.le_refl _) (.inl (Nat.lt_succ_self _)))).mono (Nat.le_refl _) hax.size
            obtain ⟨q9, hq9⟩ : ∃ q9, q9 = q3 + 1 := ⟨_, rfl⟩
            rw [← hq9] at hax
            clear hy5
            replace HA := Lib.hid (HA.out.trans hax)
            clear hax
            refine hK _ _ (HDR.out.adv HA.out).seen ?_
            clear hK K
            refine anyT_two (i := 6) (j := 11) (by kernel_rfl) rfl rfl (fun K hK => ?_) (fun K hK => ?_)
            · go_simp
              with_reducible refine (l71Var_any (y5 : Int) wc2).mono ?_
              rintro e wc3 ⟨rfl, hb6⟩
              have hax := Adv.start (HDR.out.adv HA.out).rd hb6
              replace HPL : Hid (ISc wc3 (br + 1) wc3.heap.size A3 C3 place) := (HPL.out.same (hax.same (Nat.le_refl _) (.inl (Nat.lt_succ_self _)))).mono (Nat.le_refl _) hax.size
              clear hb6
              replace HA := Lib.hid (HA.out.trans hax)
              clear hax
              refine hK _ _ (HDR.out.adv HA.out).seen ?_
              clear hK K
              refine anyT_two (i := 7) (j := 11) (by kernel_rfl) rfl rfl (fun K hK => ?_) (fun K hK => ?_)
              · go_simp
                have HCP : Hid (Calls Try.prog 58 #[.agg #[.int .i64 s', .int .i64 v', .slice a' (flen k') c'], .slice A3 place.length C3, .agg #[.int .i64 0, .int .i64 (y5 : Int), .slice none 0 0]] wc3 (PutPost s' v' k' place (0, (y5 : Int), .nil) wc3)) := sTermPut_any s' v' a' c' k' A3 C3 place 0 (y5 : Int) none 0 .nil wc3 ((HDR.out.adv HA.out).two1.mono (Nat.zero_le _) (Nat.le_refl _)) (HPL.out.mono (Nat.zero_le _) (Nat.le_refl _)) (by omega) (.inl rfl)
                with_reducible refine HCP.out.mono ?_
                rintro e wc4 ⟨ax, cx, sx, vx, kx, tx, hdx, rfl, hb7, hlx⟩
                have hkx := putR_sz hdx
                have hax := Adv.start (HDR.out.adv HA.out).rd hb7
                have hcs7 : wr.heap.size ≤ wc3.heap.size := HA.out.size
                have HLX : Hid (∃ lo hi, Sl wc4 lo hi ax kx ∧ wr.heap.size ≤ lo ∧ hi ≤ wc4.heap.size ∧ (wc4.heap.size < lo ∨ hi ≤ wc4.heap.size)) := ⟨_, _, hlx, hcs7, Nat.le_refl _, .inr (Nat.le_refl _)⟩
                clear hdx HCP hlx hb7 hcs7
                replace HA := Lib.hid (HA.out.trans hax)
                clear hax
                refine hK _ _ (HDR.out.adv HA.out).seen ?_
                clear hK K
                refine anyT_look (i := 8) rfl (by kernel_rfl) (HDR.out.adv HA.out).seen (fun K hK => ?_)
                go_simp
                refine hK _ ?_
                clear hK K
                refine anyT_look (i := 9) rfl (by kernel_rfl) (HDR.out.adv HA.out).seen (fun K hK => ?_)
                go_simp
                refine hK _ ?_
                clear hK K
                refine anyT_look (i := 10) rfl (by kernel_rfl) (HDR.out.adv HA.out).seen (fun K hK => ?_)
                go_simp
                refine hK _ ?_
                clear hK K
                refine anyT_one (i := 11) (by kernel_rfl) rfl (fun K hK => ?_)
                go_simp
                have HZ := Lib.hid (zb_new wc4)
                have HB8 : Hid (wr.heap.size ≤ wc4.heap.size) := HA.out.size
                replace HA := Lib.hid (HA.out.alloc (.cells #[.int .i64 0, .int .i64 0, .slice none 0 0] 28))
                have hbe : Below wc4.heap.size wc4 (wc4.alloc (.cells #[.int .i64 0, .int .i64 0, .slice none 0 0] 28)) := (Below.refl _ _).alloc (Nat.le_refl _) _
                replace HLX : Hid (∃ lo hi, Sl (wc4.alloc (.cells #[.int .i64 0, .int .i64 0, .slice none 0 0] 28)) lo hi ax kx ∧ wr.heap.size ≤ lo ∧ hi ≤ (wc4.alloc (.cells #[.int .i64 0, .int .i64 0, .slice none 0 0] 28)).heap.size ∧ (wc4.heap.size < lo ∨ hi ≤ wc4.heap.size)) := by obtain ⟨lo, hi, h1, h2, h3, h4⟩ := HLX.out; exact ⟨lo, hi, h1.same fun q _ hq => hbe.block q (by omega), h2, by simp; omega, h4⟩
                clear hbe
                refine hK _ _ (HDR.out.adv HA.out).seen ?_
                clear hK K
                obtain ⟨b8, hb8e⟩ : ∃ z, z = wc4.heap.size := ⟨_, rfl⟩
                generalize wc4.alloc (.cells #[.int .i64 0, .int .i64 0, .slice none 0 0] 28) = wc5 at *
                rw [← hb8e] at HZ HB8 ⊢
                rw [← hb8e] at HLX
                have HSB2 : Hid (br < b8) := by have h1 := HSB.out; have h2 := HB8.out; show _ < _; omega
                clear hb8e
                have hzz0 := HZ.out.z0
                have hzz1 := HZ.out.z1
                have hzz2 := HZ.out.z2
                have hzf0 := HZ.out.f 0
                have hzf1 := HZ.out.f 1
                have hzf2 := HZ.out.f 2
                have HGZ : Hid (Gb b8 (.int .i64 0) (.int .i64 0) (.slice none 0 0) wc5) := ⟨HZ.out.lt, HZ.out.z0, HZ.out.z1, HZ.out.z2, HZ.out.f⟩
                have HA8 : Hid (Adv wr br q9 (set3 wc5 b8 (.int .i64 sx) (.int .i64 vx) (.slice ax (flen kx) cx))) := set3_adv HA.out HB8.out _ _ _
                have HG8 := Lib.hid (HGZ.out.set (.int .i64 sx) (.int .i64 vx) (.slice ax (flen kx) cx))
                obtain ⟨lo8, hi8, hlx, hlo8, hhi8, hd8⟩ := HLX.out
                have HL8 : Hid (Sl (set3 wc5 b8 (.int .i64 sx) (.int .i64 vx) (.slice ax (flen kx) cx)) lo8 hi8 ax kx) := hlx.same (set3_same hd8 _ _ _)
                have hsz8 := set3_size wc5 b8 (.int .i64 sx) (.int .i64 vx) (.slice ax (flen kx) cx)
                clear HGZ HLX hlx HZ HPL
                generalize hw8 : (set3 wc5 b8 (.int .i64 sx) (.int .i64 vx) (.slice ax (flen kx) cx)) = w8 at *
                have HD8 := Lib.hid (HDR.out.adv HA8.out).up
                have hhi9 : hi8 ≤ w8.heap.size := by omega
                unfold set3 at hw8
                refine anyT_one (i := 12) (by kernel_rfl) rfl (fun K hK => ?_)
                go_simp
                refine hK _ _ HD8.out.seen ?_
                clear hK K hw8 hzz0 hzz1 hzz2 hzf0 hzf1 hzf2
                refine anyT_one (i := 13) (by kernel_rfl) rfl (fun K hK => ?_)
                go_simp
                refine hK _ _ HD8.out.seen ?_
                clear hK K
                refine anyT_done (by kernel_rfl) ?_
                clear HA HA8 HDR
                cases tx with
                | false =>
                  go_wp2_with fail
                  go_roundw
                  case rel => exact ⟨m - 1, q9, s', v', a', c', k', by go_num, by omega, by omega, hk', HD8⟩
                  case measure => simp [intOf]; omega
                | true =>
                  have e0 := HG8.out.c0
                  have e1 := HG8.out.c1
                  have e2 := HG8.out.c2
                  have z0 := HD8.out.g6.c0
                  have z1 := HD8.out.g6.c1
                  have z2 := HD8.out.g6.c2
                  have f0 := HD8.out.g6.f 0
                  have f1 := HD8.out.g6.f 1
                  have f2 := HD8.out.g6.f 2
                  have HD9 := Lib.hid ((HD8.out.set (c2 := cx) (s2 := sx) (v2 := vx) HL8.out (by have := HSB.out; omega) hhi9).up)
                  rw [set3_size] at HD9
                  generalize hw9 : set3 w8 B6 (.int .i64 sx) (.int .i64 vx) (.slice ax (flen kx) cx) = w9 at *
                  unfold set3 at hw9
                  have HD9 := Lib.hid HD9.out.up
                  go_wp2_with fail
                  go_roundw
                  case rel => exact ⟨m - 1, q9, sx, vx, ax, cx, kx, by go_num, by omega, by omega, by omega, HD9⟩
                  case measure => simp [intOf]; omega
              · go_simp
                have HZ := Lib.hid (zb_new wc3)
                have HB8 : Hid (wr.heap.size ≤ wc3.heap.size) := HA.out.size
                replace HA := Lib.hid (HA.out.alloc (.cells #[.int .i64 0, .int .i64 0, .slice none 0 0] 28))
                refine hK _ _ (HDR.out.adv HA.out).seen ?_
                clear hK K
                replace HPL : Hid (ISc (wc3.alloc (.cells #[.int .i64 0, .int .i64 0, .slice none 0 0] 28)) (br + 1) (wc3.alloc (.cells #[.int .i64 0, .int .i64 0, .slice none 0 0] 28)).heap.size A3 C3 place) := (HPL.out.same fun q _ hq => ((Below.refl wc3.heap.size wc3).alloc (Nat.le_refl _) (.cells #[.int .i64 0, .int .i64 0, .slice none 0 0] 28)).block q hq).mono (Nat.le_refl _) (by simp)
                obtain ⟨b8, hb8e⟩ : ∃ z, z = wc3.heap.size := ⟨_, rfl⟩
                generalize wc3.alloc (.cells #[.int .i64 0, .int .i64 0, .slice none 0 0] 28) = wc6 at *
                rw [← hb8e] at HZ HB8 ⊢
                have HSB2 : Hid (br < b8) := by have h1 := HSB.out; have h2 := HB8.out; show _ < _; omega
                clear hb8e
                refine anyT_one (i := 7) (by kernel_rfl) rfl (fun K hK => ?_)
                go_simp
                have HCP : Hid (Calls Try.prog 58 #[.agg #[.int .i64 s', .int .i64 v', .slice a' (flen k') c'], .slice A3 place.length C3, .agg #[.int .i64 0, .int .i64 (y5 : Int), .slice none 0 0]] wc6 (PutPost s' v' k' place (0, (y5 : Int), .nil) wc6)) := sTermPut_any s' v' a' c' k' A3 C3 place 0 (y5 : Int) none 0 .nil wc6 ((HDR.out.adv HA.out).two1.mono (Nat.zero_le _) (Nat.le_refl _)) (HPL.out.mono (Nat.zero_le _) (Nat.le_refl _)) (by omega) (.inl rfl)
                with_reducible refine HCP.out.mono ?_
                rintro e wc7 ⟨ax, cx, sx, vx, kx, tx, hdx, rfl, hb7, hlx⟩
                have hkx := putR_sz hdx
                have hax := Adv.start (HDR.out.adv HA.out).rd hb7
                have hcs7 : wr.heap.size ≤ wc6.heap.size := HA.out.size
                have HLX : Hid (∃ lo hi, Sl wc7 lo hi ax kx ∧ wr.heap.size ≤ lo ∧ hi ≤ wc7.heap.size ∧ (b8 < lo ∨ hi ≤ b8)) := ⟨_, _, hlx, hcs7, Nat.le_refl _, .inl HZ.out.lt⟩
                clear hdx HCP hlx hb7 hcs7
                replace HZ := Lib.hid (HZ.out.adv hax (by have := HSB2.out; omega))
                replace HA := Lib.hid (HA.out.trans hax)
                clear hax
                refine hK _ _ (HDR.out.adv HA.out).seen ?_
                clear hK K
                refine anyT_look (i := 8) rfl (by kernel_rfl) (HDR.out.adv HA.out).seen (fun K hK => ?_)
                go_simp
                refine hK _ ?_
                clear hK K
                refine anyT_look (i := 9) rfl (by kernel_rfl) (HDR.out.adv HA.out).seen (fun K hK => ?_)
                go_simp
                refine hK _ ?_
                clear hK K
                refine anyT_look (i := 10) rfl (by kernel_rfl) (HDR.out.adv HA.out).seen (fun K hK => ?_)
                go_simp
                refine hK _ ?_
                clear hK K
                have hzz0 := HZ.out.z0
                have hzz1 := HZ.out.z1
                have hzz2 := HZ.out.z2
                have hzf0 := HZ.out.f 0
                have hzf1 := HZ.out.f 1
                have hzf2 := HZ.out.f 2
                have HGZ : Hid (Gb b8 (.int .i64 0) (.int .i64 0) (.slice none 0 0) wc7) := ⟨HZ.out.lt, HZ.out.z0, HZ.out.z1, HZ.out.z2, HZ.out.f⟩
                have HA8 : Hid (Adv wr br q9 (set3 wc7 b8 (.int .i64 sx) (.int .i64 vx) (.slice ax (flen kx) cx))) := set3_adv HA.out HB8.out _ _ _
                have HG8 := Lib.hid (HGZ.out.set (.int .i64 sx) (.int .i64 vx) (.slice ax (flen kx) cx))
                obtain ⟨lo8, hi8, hlx, hlo8, hhi8, hd8⟩ := HLX.out
                have HL8 : Hid (Sl (set3 wc7 b8 (.int .i64 sx) (.int .i64 vx) (.slice ax (flen kx) cx)) lo8 hi8 ax kx) := hlx.same (set3_same hd8 _ _ _)
                have hsz8 := set3_size wc7 b8 (.int .i64 sx) (.int .i64 vx) (.slice ax (flen kx) cx)
                clear HGZ HLX hlx HZ HPL
                generalize hw8 : (set3 wc7 b8 (.int .i64 sx) (.int .i64 vx) (.slice ax (flen kx) cx)) = w8 at *
                have HD8 := Lib.hid (HDR.out.adv HA8.out).up
                have hhi9 : hi8 ≤ w8.heap.size := by omega
                unfold set3 at hw8
                refine anyT_one (i := 12) (by kernel_rfl) rfl (fun K hK => ?_)
                go_simp
                refine hK _ _ HD8.out.seen ?_
                clear hK K hw8 hzz0 hzz1 hzz2 hzf0 hzf1 hzf2
                refine anyT_one (i := 13) (by kernel_rfl) rfl (fun K hK => ?_)
                go_simp
                refine hK _ _ HD8.out.seen ?_
                clear hK K
                refine anyT_done (by kernel_rfl) ?_
                clear HA HA8 HDR
                cases tx with
                | false =>
                  go_wp2_with fail
                  go_roundw
                  case rel => exact ⟨m - 1, q9, s', v', a', c', k', by go_num, by omega, by omega, hk', HD8⟩
                  case measure => simp [intOf]; omega
                | true =>
                  have e0 := HG8.out.c0
                  have e1 := HG8.out.c1
                  have e2 := HG8.out.c2
                  have z0 := HD8.out.g6.c0
                  have z1 := HD8.out.g6.c1
                  have z2 := HD8.out.g6.c2
                  have f0 := HD8.out.g6.f 0
                  have f1 := HD8.out.g6.f 1
                  have f2 := HD8.out.g6.f 2
                  have HD9 := Lib.hid ((HD8.out.set (c2 := cx) (s2 := sx) (v2 := vx) HL8.out (by have := HSB.out; omega) hhi9).up)
                  rw [set3_size] at HD9
                  generalize hw9 : set3 w8 B6 (.int .i64 sx) (.int .i64 vx) (.slice ax (flen kx) cx) = w9 at *
                  unfold set3 at hw9
                  have HD9 := Lib.hid HD9.out.up
                  go_wp2_with fail
                  go_roundw
                  case rel => exact ⟨m - 1, q9, sx, vx, ax, cx, kx, by go_num, by omega, by omega, by omega, HD9⟩
                  case measure => simp [intOf]; omega
            · go_simp
              have HZ := Lib.hid (zb_new wc2)
              have HB8 : Hid (wr.heap.size ≤ wc2.heap.size) := HA.out.size
              replace HA := Lib.hid (HA.out.alloc (.cells #[.int .i64 0, .int .i64 0, .slice none 0 0] 28))
              refine hK _ _ (HDR.out.adv HA.out).seen ?_
              clear hK K
              replace HPL : Hid (ISc (wc2.alloc (.cells #[.int .i64 0, .int .i64 0, .slice none 0 0] 28)) (br + 1) (wc2.alloc (.cells #[.int .i64 0, .int .i64 0, .slice none 0 0] 28)).heap.size A3 C3 place) := (HPL.out.same fun q _ hq => ((Below.refl wc2.heap.size wc2).alloc (Nat.le_refl _) (.cells #[.int .i64 0, .int .i64 0, .slice none 0 0] 28)).block q hq).mono (Nat.le_refl _) (by simp)
              obtain ⟨b8, hb8e⟩ : ∃ z, z = wc2.heap.size := ⟨_, rfl⟩
              generalize wc2.alloc (.cells #[.int .i64 0, .int .i64 0, .slice none 0 0] 28) = wc8 at *
              rw [← hb8e] at HZ HB8 ⊢
              have HSB2 : Hid (br < b8) := by have h1 := HSB.out; have h2 := HB8.out; show _ < _; omega
              clear hb8e
              refine anyT_one (i := 6) (by kernel_rfl) rfl (fun K hK => ?_)
              go_simp
              with_reducible refine (l71Var_any (y5 : Int) wc8).mono ?_
              rintro e wc9 ⟨rfl, hb6⟩
              have hax := Adv.start (HDR.out.adv HA.out).rd hb6
              replace HPL : Hid (ISc wc9 (br + 1) wc9.heap.size A3 C3 place) := (HPL.out.same (hax.same (Nat.le_refl _) (.inl (Nat.lt_succ_self _)))).mono (Nat.le_refl _) hax.size
              clear hb6
              replace HZ := Lib.hid (HZ.out.adv hax (by have := HSB2.out; omega))
              replace HA := Lib.hid (HA.out.trans hax)
              clear hax
              refine hK _ _ (HDR.out.adv HA.out).seen ?_
              clear hK K
              refine anyT_one (i := 7) (by kernel_rfl) rfl (fun K hK => ?_)
              go_simp
              have HCP : Hid (Calls Try.prog 58 #[.agg #[.int .i64 s', .int .i64 v', .slice a' (flen k') c'], .slice A3 place.length C3, .agg #[.int .i64 0, .int .i64 (y5 : Int), .slice none 0 0]] wc9 (PutPost s' v' k' place (0, (y5 : Int), .nil) wc9)) := sTermPut_any s' v' a' c' k' A3 C3 place 0 (y5 : Int) none 0 .nil wc9 ((HDR.out.adv HA.out).two1.mono (Nat.zero_le _) (Nat.le_refl _)) (HPL.out.mono (Nat.zero_le _) (Nat.le_refl _)) (by omega) (.inl rfl)
              with_reducible refine HCP.out.mono ?_
              rintro e wc10 ⟨ax, cx, sx, vx, kx, tx, hdx, rfl, hb7, hlx⟩
              have hkx := putR_sz hdx
              have hax := Adv.start (HDR.out.adv HA.out).rd hb7
              have hcs7 : wr.heap.size ≤ wc9.heap.size := HA.out.size
              have HLX : Hid (∃ lo hi, Sl wc10 lo hi ax kx ∧ wr.heap.size ≤ lo ∧ hi ≤ wc10.heap.size ∧ (b8 < lo ∨ hi ≤ b8)) := ⟨_, _, hlx, hcs7, Nat.le_refl _, .inl HZ.out.lt⟩
              clear hdx HCP hlx hb7 hcs7
              replace HZ := Lib.hid (HZ.out.adv hax (by have := HSB2.out; omega))
              replace HA := Lib.hid (HA.out.trans hax)
              clear hax
              refine hK _ _ (HDR.out.adv HA.out).seen ?_
              clear hK K
              refine anyT_look (i := 8) rfl (by kernel_rfl) (HDR.out.adv HA.out).seen (fun K hK => ?_)
              go_simp
              refine hK _ ?_
              clear hK K
              refine anyT_look (i := 9) rfl (by kernel_rfl) (HDR.out.adv HA.out).seen (fun K hK => ?_)
              go_simp
              refine hK _ ?_
              clear hK K
              refine anyT_look (i := 10) rfl (by kernel_rfl) (HDR.out.adv HA.out).seen (fun K hK => ?_)
              go_simp
              refine hK _ ?_
              clear hK K
              have hzz0 := HZ.out.z0
              have hzz1 := HZ.out.z1
              have hzz2 := HZ.out.z2
              have hzf0 := HZ.out.f 0
              have hzf1 := HZ.out.f 1
              have hzf2 := HZ.out.f 2
              have HGZ : Hid (Gb b8 (.int .i64 0) (.int .i64 0) (.slice none 0 0) wc10) := ⟨HZ.out.lt, HZ.out.z0, HZ.out.z1, HZ.out.z2, HZ.out.f⟩
              have HA8 : Hid (Adv wr br q9 (set3 wc10 b8 (.int .i64 sx) (.int .i64 vx) (.slice ax (flen kx) cx))) := set3_adv HA.out HB8.out _ _ _
              have HG8 := Lib.hid (HGZ.out.set (.int .i64 sx) (.int .i64 vx) (.slice ax (flen kx) cx))
              obtain ⟨lo8, hi8, hlx, hlo8, hhi8, hd8⟩ := HLX.out
              have HL8 : Hid (Sl (set3 wc10 b8 (.int .i64 sx) (.int .i64 vx) (.slice ax (flen kx) cx)) lo8 hi8 ax kx) := hlx.same (set3_same hd8 _ _ _)
              have hsz8 := set3_size wc10 b8 (.int .i64 sx) (.int .i64 vx) (.slice ax (flen kx) cx)
              clear HGZ HLX hlx HZ HPL
              generalize hw8 : (set3 wc10 b8 (.int .i64 sx) (.int .i64 vx) (.slice ax (flen kx) cx)) = w8 at *
              have HD8 := Lib.hid (HDR.out.adv HA8.out).up
              have hhi9 : hi8 ≤ w8.heap.size := by omega
              unfold set3 at hw8
              refine anyT_one (i := 12) (by kernel_rfl) rfl (fun K hK => ?_)
              go_simp
              refine hK _ _ HD8.out.seen ?_
              clear hK K hw8 hzz0 hzz1 hzz2 hzf0 hzf1 hzf2
              refine anyT_one (i := 13) (by kernel_rfl) rfl (fun K hK => ?_)
              go_simp
              refine hK _ _ HD8.out.seen ?_
              clear hK K
              refine anyT_done (by kernel_rfl) ?_
              clear HA HA8 HDR
              cases tx with
              | false =>
                go_wp2_with fail
                go_roundw
                case rel => exact ⟨m - 1, q9, s', v', a', c', k', by go_num, by omega, by omega, hk', HD8⟩
                case measure => simp [intOf]; omega
              | true =>
                have e0 := HG8.out.c0
                have e1 := HG8.out.c1
                have e2 := HG8.out.c2
                have z0 := HD8.out.g6.c0
                have z1 := HD8.out.g6.c1
                have z2 := HD8.out.g6.c2
                have f0 := HD8.out.g6.f 0
                have f1 := HD8.out.g6.f 1
                have f2 := HD8.out.g6.f 2
                have HD9 := Lib.hid ((HD8.out.set (c2 := cx) (s2 := sx) (v2 := vx) HL8.out (by have := HSB.out; omega) hhi9).up)
                rw [set3_size] at HD9
                generalize hw9 : set3 w8 B6 (.int .i64 sx) (.int .i64 vx) (.slice ax (flen kx) cx) = w9 at *
                unfold set3 at hw9
                have HD9 := Lib.hid HD9.out.up
                go_wp2_with fail
                go_roundw
                case rel => exact ⟨m - 1, q9, sx, vx, ax, cx, kx, by go_num, by omega, by omega, by omega, HD9⟩
                case measure => simp [intOf]; omega
          · go_simp
            have HZ := Lib.hid (zb_new wc1)
            have HB8 : Hid (wr.heap.size ≤ wc1.heap.size) := HA.out.size
            replace HA := Lib.hid (HA.out.alloc (.cells #[.int .i64 0, .int .i64 0, .slice none 0 0] 28))
            refine hK _ _ (HDR.out.adv HA.out).seen ?_
            clear hK K
            replace HPL : Hid (ISc (wc1.alloc (.cells #[.int .i64 0, .int .i64 0, .slice none 0 0] 28)) (br + 1) (wc1.alloc (.cells #[.int .i64 0, .int .i64 0, .slice none 0 0] 28)).heap.size A3 C3 place) := (HPL.out.same fun q _ hq => ((Below.refl wc1.heap.size wc1).alloc (Nat.le_refl _) (.cells #[.int .i64 0, .int .i64 0, .slice none 0 0] 28)).block q hq).mono (Nat.le_refl _) (by simp)
            obtain ⟨b8, hb8e⟩ : ∃ z, z = wc1.heap.size := ⟨_, rfl⟩
            generalize wc1.alloc (.cells #[.int .i64 0, .int .i64 0, .slice none 0 0] 28) = wc11 at *
            rw [← hb8e] at HZ HB8 ⊢
            have HSB2 : Hid (br < b8) := by have h1 := HSB.out; have h2 := HB8.out; show _ < _; omega
            clear hb8e
            refine anyT_one (i := 5) (by kernel_rfl) rfl (fun K hK => ?_)
            go_simp
            with_reducible refine (pick_any 4 br q3 wc11 (HDR.out.adv HA.out).rd (by omega) (by omega) (by omega)).mono ?_
            rintro e wc12 ⟨y5, rfl, hy5, hax⟩
            have hax : Adv wc11 br (q3 + 1) wc12 := hax
            replace HPL : Hid (ISc wc12 (br + 1) wc12.heap.size A3 C3 place) := (HPL.out.same (hax.same (Nat.le_refl _) (.inl (Nat.lt_succ_self _)))).mono (Nat.le_refl _) hax.size
            obtain ⟨q9, hq9⟩ : ∃ q9, q9 = q3 + 1 := ⟨_, rfl⟩
            rw [← hq9] at hax
            clear hy5
            replace HZ := Lib.hid (HZ.out.adv hax (by have := HSB2.out; omega))
            replace HA := Lib.hid (HA.out.trans hax)
            clear hax
            refine hK _ _ (HDR.out.adv HA.out).seen ?_
            clear hK K
            refine anyT_one (i := 6) (by kernel_rfl) rfl (fun K hK => ?_)
            go_simp
            with_reducible refine (l71Var_any (y5 : Int) wc12).mono ?_
            rintro e wc13 ⟨rfl, hb6⟩
            have hax := Adv.start (HDR.out.adv HA.out).rd hb6
            replace HPL : Hid (ISc wc13 (br + 1) wc13.heap.size A3 C3 place) := (HPL.out.same (hax.same (Nat.le_refl _) (.inl (Nat.lt_succ_self _)))).mono (Nat.le_refl _) hax.size
            clear hb6
            replace HZ := Lib.hid (HZ.out.adv hax (by have := HSB2.out; omega))
            replace HA := Lib.hid (HA.out.trans hax)
            clear hax
            refine hK _ _ (HDR.out.adv HA.out).seen ?_
            clear hK K
            refine anyT_one (i := 7) (by kernel_rfl) rfl (fun K hK => ?_)
            go_simp
            have HCP : Hid (Calls Try.prog 58 #[.agg #[.int .i64 s', .int .i64 v', .slice a' (flen k') c'], .slice A3 place.length C3, .agg #[.int .i64 0, .int .i64 (y5 : Int), .slice none 0 0]] wc13 (PutPost s' v' k' place (0, (y5 : Int), .nil) wc13)) := sTermPut_any s' v' a' c' k' A3 C3 place 0 (y5 : Int) none 0 .nil wc13 ((HDR.out.adv HA.out).two1.mono (Nat.zero_le _) (Nat.le_refl _)) (HPL.out.mono (Nat.zero_le _) (Nat.le_refl _)) (by omega) (.inl rfl)
            with_reducible refine HCP.out.mono ?_
            rintro e wc14 ⟨ax, cx, sx, vx, kx, tx, hdx, rfl, hb7, hlx⟩
            have hkx := putR_sz hdx
            have hax := Adv.start (HDR.out.adv HA.out).rd hb7
            have hcs7 : wr.heap.size ≤ wc13.heap.size := HA.out.size
            have HLX : Hid (∃ lo hi, Sl wc14 lo hi ax kx ∧ wr.heap.size ≤ lo ∧ hi ≤ wc14.heap.size ∧ (b8 < lo ∨ hi ≤ b8)) := ⟨_, _, hlx, hcs7, Nat.le_refl _, .inl HZ.out.lt⟩
            clear hdx HCP hlx hb7 hcs7
            replace HZ := Lib.hid (HZ.out.adv hax (by have := HSB2.out; omega))
            replace HA := Lib.hid (HA.out.trans hax)
            clear hax
            refine hK _ _ (HDR.out.adv HA.out).seen ?_
            clear hK K
            refine anyT_look (i := 8) rfl (by kernel_rfl) (HDR.out.adv HA.out).seen (fun K hK => ?_)
            go_simp
            refine hK _ ?_
            clear hK K
            refine anyT_look (i := 9) rfl (by kernel_rfl) (HDR.out.adv HA.out).seen (fun K hK => ?_)
            go_simp
            refine hK _ ?_
            clear hK K
            refine anyT_look (i := 10) rfl (by kernel_rfl) (HDR.out.adv HA.out).seen (fun K hK => ?_)
            go_simp
            refine hK _ ?_
            clear hK K
            have hzz0 := HZ.out.z0
            have hzz1 := HZ.out.z1
            have hzz2 := HZ.out.z2
            have hzf0 := HZ.out.f 0
            have hzf1 := HZ.out.f 1
            have hzf2 := HZ.out.f 2
            have HGZ : Hid (Gb b8 (.int .i64 0) (.int .i64 0) (.slice none 0 0) wc14) := ⟨HZ.out.lt, HZ.out.z0, HZ.out.z1, HZ.out.z2, HZ.out.f⟩
            have HA8 : Hid (Adv wr br q9 (set3 wc14 b8 (.int .i64 sx) (.int .i64 vx) (.slice ax (flen kx) cx))) := set3_adv HA.out HB8.out _ _ _
            have HG8 := Lib.hid (HGZ.out.set (.int .i64 sx) (.int .i64 vx) (.slice ax (flen kx) cx))
            obtain ⟨lo8, hi8, hlx, hlo8, hhi8, hd8⟩ := HLX.out
            have HL8 : Hid (Sl (set3 wc14 b8 (.int .i64 sx) (.int .i64 vx) (.slice ax (flen kx) cx)) lo8 hi8 ax kx) := hlx.same (set3_same hd8 _ _ _)
            have hsz8 := set3_size wc14 b8 (.int .i64 sx) (.int .i64 vx) (.slice ax (flen kx) cx)
            clear HGZ HLX hlx HZ HPL
            generalize hw8 : (set3 wc14 b8 (.int .i64 sx) (.int .i64 vx) (.slice ax (flen kx) cx)) = w8 at *
            have HD8 := Lib.hid (HDR.out.adv HA8.out).up
            have hhi9 : hi8 ≤ w8.heap.size := by omega
            unfold set3 at hw8
            refine anyT_one (i := 12) (by kernel_rfl) rfl (fun K hK => ?_)
            go_simp
            refine hK _ _ HD8.out.seen ?_
            clear hK K hw8 hzz0 hzz1 hzz2 hzf0 hzf1 hzf2
            refine anyT_one (i := 13) (by kernel_rfl) rfl (fun K hK => ?_)
            go_simp
            refine hK _ _ HD8.out.seen ?_
            clear hK K
            refine anyT_done (by kernel_rfl) ?_
            clear HA HA8 HDR
            cases tx with
            | false =>
              go_wp2_with fail
              go_roundw
              case rel => exact ⟨m - 1, q9, s', v', a', c', k', by go_num, by omega, by omega, hk', HD8⟩
              case measure => simp [intOf]; omega
            | true =>
              have e0 := HG8.out.c0
              have e1 := HG8.out.c1
              have e2 := HG8.out.c2
              have z0 := HD8.out.g6.c0
              have z1 := HD8.out.g6.c1
              have z2 := HD8.out.g6.c2
              have f0 := HD8.out.g6.f 0
              have f1 := HD8.out.g6.f 1
              have f2 := HD8.out.g6.f 2
              have HD9 := Lib.hid ((HD8.out.set (c2 := cx) (s2 := sx) (v2 := vx) HL8.out (by have := HSB.out; omega) hhi9).up)
              rw [set3_size] at HD9
              generalize hw9 : set3 w8 B6 (.int .i64 sx) (.int .i64 vx) (.slice ax (flen kx) cx) = w9 at *
              unfold set3 at hw9
              have HD9 := Lib.hid HD9.out.up
              go_wp2_with fail
              go_roundw
              case rel => exact ⟨m - 1, q9, sx, vx, ax, cx, kx, by go_num, by omega, by omega, by omega, HD9⟩
              case measure => simp [intOf]; omega
        · go_simp
          have HZ := Lib.hid (zb_new wd)
          have HB8 : Hid (wr.heap.size ≤ wd.heap.size) := HA.out.size
          replace HA := Lib.hid (HA.out.alloc (.cells #[.int .i64 0, .int .i64 0, .slice none 0 0] 28))
          refine hK _ _ (HDR.out.adv HA.out).seen ?_
          clear hK K
          obtain ⟨b8, hb8e⟩ : ∃ z, z = wd.heap.size := ⟨_, rfl⟩
          generalize wd.alloc (.cells #[.int .i64 0, .int .i64 0, .slice none 0 0] 28) = wc15 at *
          rw [← hb8e] at HZ HB8 ⊢
          have HSB2 : Hid (br < b8) := by have h1 := HSB.out; have h2 := HB8.out; show _ < _; omega
          clear hb8e
          refine anyT_one (i := 3) (by kernel_rfl) rfl (fun K hK => ?_)
          go_simp
          with_reducible refine (l71Place_any br q s' v' a' c' k' wc15 (HDR.out.adv HA.out).rd (by omega) (HDR.out.adv HA.out).two1).mono ?_
          rintro e wc16 ⟨A3, C3, place, q3, rfl, hq3a, hq3, hpl, hax, hi3⟩
          have hcs := (HDR.out.adv HA.out).rd.lt
          have HPL : Hid (ISc wc16 (br + 1) wc16.heap.size A3 C3 place) := hi3.mono (by omega) (Nat.le_refl _)
          clear hi3 hcs
          replace HZ := Lib.hid (HZ.out.adv hax (by have := HSB2.out; omega))
          replace HA := Lib.hid (HA.out.trans hax)
          clear hax
          refine hK _ _ (HDR.out.adv HA.out).seen ?_
          clear hK K
          refine anyT_one (i := 5) (by kernel_rfl) rfl (fun K hK => ?_)
          go_simp
          with_reducible refine (pick_any 4 br q3 wc16 (HDR.out.adv HA.out).rd (by omega) (by omega) (by omega)).mono ?_
          rintro e wc17 ⟨y5, rfl, hy5, hax⟩
          have hax : Adv wc16 br (q3 + 1) wc17 := hax
          replace HPL : Hid (ISc wc17 (br + 1) wc17.heap.size A3 C3 place) := (HPL.out.same (hax.same (Nat.le_refl _) (.inl (Nat.lt_succ_self _)))).mono (Nat.le_refl _) hax.size
          obtain ⟨q9, hq9⟩ : ∃ q9, q9 = q3 + 1 := ⟨_, rfl⟩
          rw [← hq9] at hax
          clear hy5
          replace HZ := Lib.hid (HZ.out.adv hax (by have := HSB2.out; omega))
          replace HA := Lib.hid (HA.out.trans hax)
          clear hax
          refine hK _ _ (HDR.out.adv HA.out).seen ?_
          clear hK K
          refine anyT_one (i := 6) (by kernel_rfl) rfl (fun K hK => ?_)
          go_simp
          with_reducible refine (l71Var_any (y5 : Int) wc17).mono ?_
          rintro e wc18 ⟨rfl, hb6⟩
          have hax := Adv.start (HDR.out.adv HA.out).rd hb6
          replace HPL : Hid (ISc wc18 (br + 1) wc18.heap.size A3 C3 place) := (HPL.out.same (hax.same (Nat.le_refl _) (.inl (Nat.lt_succ_self _)))).mono (Nat.le_refl _) hax.size
          clear hb6
          replace HZ := Lib.hid (HZ.out.adv hax (by have := HSB2.out; omega))
          replace HA := Lib.hid (HA.out.trans hax)
          clear hax
          refine hK _ _ (HDR.out.adv HA.out).seen ?_
          clear hK K
          refine anyT_one (i := 7) (by kernel_rfl) rfl (fun K hK => ?_)
          go_simp
          have HCP : Hid (Calls Try.prog 58 #[.agg #[.int .i64 s', .int .i64 v', .slice a' (flen k') c'], .slice A3 place.length C3, .agg #[.int .i64 0, .int .i64 (y5 : Int), .slice none 0 0]] wc18 (PutPost s' v' k' place (0, (y5 : Int), .nil) wc18)) := sTermPut_any s' v' a' c' k' A3 C3 place 0 (y5 : Int) none 0 .nil wc18 ((HDR.out.adv HA.out).two1.mono (Nat.zero_le _) (Nat.le_refl _)) (HPL.out.mono (Nat.zero_le _) (Nat.le_refl _)) (by omega) (.inl rfl)
          with_reducible refine HCP.out.mono ?_
          rintro e wc19 ⟨ax, cx, sx, vx, kx, tx, hdx, rfl, hb7, hlx⟩
          have hkx := putR_sz hdx
          have hax := Adv.start (HDR.out.adv HA.out).rd hb7
          have hcs7 : wr.heap.size ≤ wc18.heap.size := HA.out.size
          have HLX : Hid (∃ lo hi, Sl wc19 lo hi ax kx ∧ wr.heap.size ≤ lo ∧ hi ≤ wc19.heap.size ∧ (b8 < lo ∨ hi ≤ b8)) := ⟨_, _, hlx, hcs7, Nat.le_refl _, .inl HZ.out.lt⟩
          clear hdx HCP hlx hb7 hcs7
          replace HZ := Lib.hid (HZ.out.adv hax (by have := HSB2.out; omega))
          replace HA := Lib.hid (HA.out.trans hax)
          clear hax
          refine hK _ _ (HDR.out.adv HA.out).seen ?_
          clear hK K
          refine anyT_look (i := 8) rfl (by kernel_rfl) (HDR.out.adv HA.out).seen (fun K hK => ?_)
          go_simp
          refine hK _ ?_
          clear hK K
          refine anyT_look (i := 9) rfl (by kernel_rfl) (HDR.out.adv HA.out).seen (fun K hK => ?_)
          go_simp
          refine hK _ ?_
          clear hK K
          refine anyT_look (i := 10) rfl (by kernel_rfl) (HDR.out.adv HA.out).seen (fun K hK => ?_)
          go_simp
          refine hK _ ?_
          clear hK K
          have hzz0 := HZ.out.z0
          have hzz1 := HZ.out.z1
          have hzz2 := HZ.out.z2
          have hzf0 := HZ.out.f 0
          have hzf1 := HZ.out.f 1
          have hzf2 := HZ.out.f 2
          have HGZ : Hid (Gb b8 (.int .i64 0) (.int .i64 0) (.slice none 0 0) wc19) := ⟨HZ.out.lt, HZ.out.z0, HZ.out.z1, HZ.out.z2, HZ.out.f⟩
          have HA8 : Hid (Adv wr br q9 (set3 wc19 b8 (.int .i64 sx) (.int .i64 vx) (.slice ax (flen kx) cx))) := set3_adv HA.out HB8.out _ _ _
          have HG8 := Lib.hid (HGZ.out.set (.int .i64 sx) (.int .i64 vx) (.slice ax (flen kx) cx))
          obtain ⟨lo8, hi8, hlx, hlo8, hhi8, hd8⟩ := HLX.out
          have HL8 : Hid (Sl (set3 wc19 b8 (.int .i64 sx) (.int .i64 vx) (.slice ax (flen kx) cx)) lo8 hi8 ax kx) := hlx.same (set3_same hd8 _ _ _)
          have hsz8 := set3_size wc19 b8 (.int .i64 sx) (.int .i64 vx) (.slice ax (flen kx) cx)
          clear HGZ HLX hlx HZ HPL
          generalize hw8 : (set3 wc19 b8 (.int .i64 sx) (.int .i64 vx) (.slice ax (flen kx) cx)) = w8 at *
          have HD8 := Lib.hid (HDR.out.adv HA8.out).up
          have hhi9 : hi8 ≤ w8.heap.size := by omega
          unfold set3 at hw8
          refine anyT_one (i := 12) (by kernel_rfl) rfl (fun K hK => ?_)
          go_simp
          refine hK _ _ HD8.out.seen ?_
          clear hK K hw8 hzz0 hzz1 hzz2 hzf0 hzf1 hzf2
          refine anyT_one (i := 13) (by kernel_rfl) rfl (fun K hK => ?_)
          go_simp
          refine hK _ _ HD8.out.seen ?_
          clear hK K
          refine anyT_done (by kernel_rfl) ?_
          clear HA HA8 HDR
          cases tx with
          | false =>
            go_wp2_with fail
            go_roundw
            case rel => exact ⟨m - 1, q9, s', v', a', c', k', by go_num, by omega, by omega, hk', HD8⟩
            case measure => simp [intOf]; omega
          | true =>
            have e0 := HG8.out.c0
            have e1 := HG8.out.c1
            have e2 := HG8.out.c2
            have z0 := HD8.out.g6.c0
            have z1 := HD8.out.g6.c1
            have z2 := HD8.out.g6.c2
            have f0 := HD8.out.g6.f 0
            have f1 := HD8.out.g6.f 1
            have f2 := HD8.out.g6.f 2
            have HD9 := Lib.hid ((HD8.out.set (c2 := cx) (s2 := sx) (v2 := vx) HL8.out (by have := HSB.out; omega) hhi9).up)
            rw [set3_size] at HD9
            generalize hw9 : set3 w8 B6 (.int .i64 sx) (.int .i64 vx) (.slice ax (flen kx) cx) = w9 at *
            unfold set3 at hw9
            have HD9 := Lib.hid HD9.out.up
            go_wp2_with fail
            go_roundw
            case rel => exact ⟨m - 1, q9, sx, vx, ax, cx, kx, by go_num, by omega, by omega, by omega, HD9⟩
            case measure => simp [intOf]; omega
      · have gm : decide ((m : Int) > 0) = false := decide_eq_false (by omega)
        have hu0 : ∀ u : SeenD (cl6 B5 (.int .i64 s) (.int .i64 v) (.slice a (flen k) c) B6 (.int .i64 s') (.int .i64 v') (.slice a' (flen k') c')), u.world.cell? ⟨B5, 0, none⟩ = some (.int .i64 s) := fun u => u.at_ (_, _) (by simp [cl6])
        have hu1 : ∀ u : SeenD (cl6 B5 (.int .i64 s) (.int .i64 v) (.slice a (flen k) c) B6 (.int .i64 s') (.int .i64 v') (.slice a' (flen k') c')), u.world.cell? ⟨B5, 1, none⟩ = some (.int .i64 v) := fun u => u.at_ (_, _) (by simp [cl6])
        have hu2 : ∀ u : SeenD (cl6 B5 (.int .i64 s) (.int .i64 v) (.slice a (flen k) c) B6 (.int .i64 s') (.int .i64 v') (.slice a' (flen k') c')), u.world.cell? ⟨B5, 2, none⟩ = some (.slice a (flen k) c) := fun u => u.at_ (_, _) (by simp [cl6])
        have hu3 : ∀ u : SeenD (cl6 B5 (.int .i64 s) (.int .i64 v) (.slice a (flen k) c) B6 (.int .i64 s') (.int .i64 v') (.slice a' (flen k') c')), u.world.cell? ⟨B6, 0, none⟩ = some (.int .i64 s') := fun u => u.at_ (_, _) (by simp [cl6])
        have hu4 : ∀ u : SeenD (cl6 B5 (.int .i64 s) (.int .i64 v) (.slice a (flen k) c) B6 (.int .i64 s') (.int .i64 v') (.slice a' (flen k') c')), u.world.cell? ⟨B6, 1, none⟩ = some (.int .i64 v') := fun u => u.at_ (_, _) (by simp [cl6])
        have hu5 : ∀ u : SeenD (cl6 B5 (.int .i64 s) (.int .i64 v) (.slice a (flen k) c) B6 (.int .i64 s') (.int .i64 v') (.slice a' (flen k') c')), u.world.cell? ⟨B6, 2, none⟩ = some (.slice a' (flen k') c') := fun u => u.at_ (_, _) (by simp [cl6])
        have HDd := Lib.hid (HDR.out.adv (Adv.start HDR.out.rd (Below.refl _ _).drew))
        have HAT := Lib.hid (cl6_at HDd.out.g5.c0 HDd.out.g5.c1 HDd.out.g5.c2 HDd.out.g6.c0 HDd.out.g6.c1 HDd.out.g6.c2)
        haveI : Nonempty (SeenD (cl6 B5 (.int .i64 s) (.int .i64 v) (.slice a (flen k) c) B6 (.int .i64 s') (.int .i64 v') (.slice a' (flen k') c'))) := ⟨⟨_, HAT.out⟩⟩
        have hbb := HDd.out.brE
        have hb5 := HDd.out.l5
        have hb56 := HDd.out.l56
        have HN0 : Hid (∀ p, p ∈ (cl6 B5 (.int .i64 s) (.int .i64 v) (.slice a (flen k) c) B6 (.int .i64 s') (.int .i64 v') (.slice a' (flen k') c')) → p.1.block ≠ w.heap.size) := cl6_blk (by omega) (by omega)
        have HN1 : Hid (∀ p, p ∈ (cl6 B5 (.int .i64 s) (.int .i64 v) (.slice a (flen k) c) B6 (.int .i64 s') (.int .i64 v') (.slice a' (flen k') c')) → p.1.block ≠ w.heap.size + 1) := cl6_blk (by omega) (by omega)
        go_wp2_with fail
        refine wp_region_mix (fun w' => ∃ u : SeenD (cl6 B5 (.int .i64 s) (.int .i64 v) (.slice a (flen k) c) B6 (.int .i64 s') (.int .i64 v') (.slice a' (flen k') c')), w' = u.world) [] [(0, 0), (1, 0), (2, 1), (3, 1)] (by kernel_rfl) (by kernel_rfl) (seenD_of HAT.out) ?_
        generalize wr.drew = wd at *
        iterate 2
          refine mix_see rfl (fun K hK => ?_)
          go_simp
          refine hK _ ?_
          clear hK K
        clear hu0 hu1 hu2 hu3 hu4 hu5
        obtain ⟨hr0, hr1, hr2, hr3, hr4, hr5⟩ := tb_cellsS HDd.out.low
        obtain ⟨hf0, hf3⟩ := tb_freeS HDd.out.low 0 rfl rfl
        obtain ⟨hf1, hf4⟩ := tb_freeS HDd.out.low 1 rfl rfl
        obtain ⟨hf2, hf5⟩ := tb_freeS HDd.out.low 2 rfl rfl
        refine mix_hold rfl (fun K hK => ?_)
        go_simp
        refine hK _ _ (seenD_of (storeD HAT.out HN0.out _ _ _)) ?_
        clear hK K
        refine mix_hold rfl (fun K hK => ?_)
        go_simp
        refine hK _ _ (seenD_of (storeD (storeD HAT.out HN0.out _ _ _) HN1.out _ _ _)) ?_
        clear hK K
        refine mix_end ?_
        go_wp2_with fail
        refine bodyPost_ret (v := .tuple #[.agg #[.int .i64 s, .int .i64 v, .slice a (flen k) c], .agg #[.int .i64 s', .int .i64 v', .slice a' (flen k') c']]) ?_ rfl (dm_end HDd.out.toDA hk31 hk' HDd.out.two1 _ _ _ _ _ _)
        simp [results, Try.results26, go_sem, hr0, hr1, hr2, hr3, hr4, hr5]
def DmPostU : World → Ending → World → Prop := fun w e w' =>
  ∃ s v a c k s' v' a' c' k', e = .returned (.tuple #[.agg #[.int .i64 s, .int .i64 v, .slice a (flen k) c], .agg #[.int .i64 s', .int .i64 v', .slice a' (flen k') c']]) ∧ (1 + fsz k ≤ 31000 ∧ Zf k) ∧ (1 + fsz k' ≤ 31000 ∧ Zf k') ∧ Below w.heap.size w w' ∧ Sl w' w.heap.size w'.heap.size a k ∧ Sl w' w.heap.size w'.heap.size a' k'
theorem DrawUnifyOf_z (a0 : Option Addr) (len cap : Nat) (w : World) (hby : Bytes w a0 len) (hlen : len ≤ cap) :
    Calls Try.prog 26 #[.slice a0 len cap] w (DmPostU w) := by
  refine (DrawUnifyOf_any a0 len cap w hby hlen).mono ?_
  rintro e w' ⟨s, v, a, c, k, s', v', a', c', k', rfl, h1, h2, hb, hl, hl'⟩
  exact ⟨s, v, a, c, fer k, s', v', a', c', fer k', by rw [fer_len, fer_len], ⟨by rw [fer_sz]; exact h1, zf_fer k⟩, ⟨by rw [fer_sz]; exact h2, zf_fer k'⟩, hb, hl.fer, hl'.fer⟩
end Go.Proofs.Ytpfkhgiiojikbaa
