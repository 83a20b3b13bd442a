/- For every code, laws.FnTermPlaces answers true and writes nothing that was there. No condition. -/
import Derived.Test.YtebalmemncldlabP6
import Derived.Test.YtebalmemncldlabLP0
import Derived.Deep.RegionHeld3
import Derived.Deep.DrawnRows
namespace Go.Proofs.Ytebalmemncldlab
open Go.RowKit Go.Deep
attribute [local go_sem ↓] Go.wp_at_zero Go.wp_at_succ

set_option maxRecDepth 100000 in
set_option maxHeartbeats 1000000 in
theorem lawPlaces_walk (a : Option Addr) (len cap : Nat) (w : World) (hby : Bytes w a len) (hlen : len ≤ cap) :
    Calls Try.prog 3 #[.slice a len cap] w fun e w' => e = .returned (.bool true) ∧ Below w.heap.size w w' := by
  have HBY := Lib.hid hby
  clear hby
  by_cases hbig : 1048576 < len
  · go_enter Try.func3, Try.ntmps3
    go_wp2_with fail
    go_ret
    exact ⟨rfl, Below.refl _ _⟩
  go_enter Try.func3, Try.ntmps3
  go_wp2_with fail
  with_reducible refine (DrawTermPlaces_any a len cap _ HBY.out hlen).mono ?_
  rintro e w1 ⟨s, v, a1, c1, k, rfl, hS, hb1, hl1⟩
  have hs1 := hb1.size
  have HB1 := Lib.hid (hb1.alloc hs1 (.cells #[.int .i64 s, .int .i64 v, .slice a1 (flen k) c1] 25))
  have HL1 := Lib.hid ((hl1.mono (Nat.zero_le _) (Nat.le_refl _)).low ((Below.refl _ _).alloc (Nat.le_refl _) (.cells #[.int .i64 s, .int .i64 v, .slice a1 (flen k) c1] 25)))
  clear hb1 hl1
  go_wp2_with fail
  with_reducible refine (iTermPlaces_any s v a1 c1 k _ HL1.out).mono ?_
  rintro e w2 ⟨A2, C2, rows, rfl, hrows, hb2, hr2⟩
  have hb2' : Below (w1.heap.size + 1) (w1.alloc (.cells #[.int .i64 s, .int .i64 v, .slice a1 (flen k) c1] 25)) w2 := by simpa using hb2
  obtain ⟨hc0, hc1, hc2⟩ := box_cells ⟨w2, hb2'⟩
  dsimp only at hc0 hc1 hc2
  have hs2 := hb2'.size
  simp at hs2
  have HL2 := Lib.hid (HL1.out.low hb2)
  have HB2 := Lib.hid hb2'
  have HR2 := Lib.hid hr2
  clear hb2 hb2' hr2
  have HD : Hid (∀ r ∈ rows, r.length ≤ 2000) := by
    intro r hr
    rw [hrows] at hr
    split at hr
    · rename_i hok
      have := places_deep hr
      have := ((okW_iff _ _ _ _).1 hok).2.2
      omega
    · simp at hr
  have hrl : rows.length ≤ 2000 := by
    rw [hrows]
    split
    · rename_i hok
      rw [places_len]
      have := ((okW_iff _ _ _ _).1 hok).2.2
      omega
    · simp
  have HROWS := Lib.hid hrows
  clear hrows
  go_wp2_with fail
  with_reducible refine (sTermPlaces_any s v a1 c1 k _ HL2.out).mono ?_
  rintro e w3 ⟨A3, C3, rows3, rfl, hrows3, hb3, hr3⟩
  have e3 : rows3 = rows := by rw [hrows3, HROWS.out]
  subst e3
  clear hrows3
  have hs3 := hb3.size
  have HR2' := Lib.hid ((HR2.out.below hb3).mono (lo' := 0) (Nat.zero_le _) hs3)
  have HR3 := Lib.hid (hr3.mono (lo' := 0) (Nat.zero_le _) (Nat.le_refl _))
  have HB3 := Lib.hid (HB2.out.trans (hb3.mono (by omega)))
  have HL3 := Lib.hid (HL2.out.low hb3)
  clear hb3 hr3 hc0 hc1 hc2
  go_wp2_with fail
  with_reducible refine (laRows_same rows3 A2 A3 C2 C3 _ _ _ HR2'.out HR3.out rfl rfl hrl HD.out).mono ?_
  rintro e w4 ⟨rfl, hb4⟩
  have hs4 := hb4.size
  obtain ⟨hd0, hd1, hd2⟩ := box_cells ⟨w4, HB3.out.trans (hb4.mono (by omega))⟩
  dsimp only at hd0 hd1 hd2
  have HB4 := Lib.hid (HB3.out.trans (hb4.mono (by omega)))
  have HL4 := Lib.hid (HL3.out.low hb4)
  have HR4 := Lib.hid ((HR2'.out.below hb4).mono (lo' := 0) (Nat.zero_le _) hs4)
  clear hb4
  cases hok : okW s v k 16 with
  | false =>
    have hok' : Hid (okW s v k 16 = false) := hok
    clear hok
    go_wp2_with fail
    with_reducible refine (sTermOk_any s v a1 c1 k _ HL4.out).mono ?_
    rw [hok'.out]
    rintro e w5 ⟨rfl, hb5⟩
    have hs5 := hb5.size
    obtain ⟨he0, he1, he2⟩ := box_cells ⟨w5, HB4.out.trans (hb5.mono (by omega))⟩
    dsimp only at he0 he1 he2
    have HB5 := Lib.hid (HB4.out.trans (hb5.mono (by omega)))
    have HL5 := Lib.hid (HL4.out.low hb5)
    have HR5 := Lib.hid ((HR4.out.below hb5).mono (lo' := 0) (Nat.zero_le _) hs5)
    clear hb5 hd0 hd1 hd2
    go_wp2_with fail
    with_reducible refine (sTermPlaces_any s v a1 c1 k _ HL5.out).mono ?_
    rintro e w6 ⟨A6, C6, rows6, rfl, hrows6, hb6, hr6⟩
    have e6 : rows6 = rows3 := by rw [hrows6, HROWS.out]
    subst e6
    clear hrows6
    have hs6 := hb6.size
    have HR6 := Lib.hid ((HR5.out.below hb6).mono (lo' := 0) (Nat.zero_le _) hs6)
    have HR7 := Lib.hid (hr6.mono (lo' := 0) (Nat.zero_le _) (Nat.le_refl _))
    have HB6 := Lib.hid (HB5.out.trans (hb6.mono (by omega)))
    clear hb6 hr6 he0 he1 he2
    go_wp2_with fail
    with_reducible refine (laRows_same rows6 A2 A6 C2 C6 _ _ _ HR6.out HR7.out rfl rfl hrl HD.out).mono ?_
    rintro e w7 ⟨rfl, hb7⟩
    have HB7 := Lib.hid (HB6.out.trans (hb7.mono (by omega)))
    clear hb7
    go_wp2_with fail
    go_ret
    exact ⟨rfl, (HB1.out.trans (HB7.out.mono (by omega)))⟩
  | true =>
    have hok' : Hid (okW s v k 16 = true) := hok
    have hk2 : flen k ≤ 2 := okN_le ((okW_iff _ _ _ _).1 hok).1
    have hk16 := ((okW_iff _ _ _ _).1 hok).2.2
    have hre : rows3 = places k := by rw [HROWS.out, hok]; rfl
    clear hok
    subst hre
    go_wp2_with fail
    with_reducible refine (sTermOk_any s v a1 c1 k _ HL4.out).mono ?_
    rw [hok'.out]
    rintro e w5 ⟨rfl, hb5⟩
    have hs5 := hb5.size
    have HB5 := Lib.hid (HB4.out.trans (hb5.mono (by omega)))
    have HR5 := Lib.hid ((HR4.out.below hb5).mono (lo' := 0) (Nat.zero_le _) hs5)
    clear hb5 hd0 hd1 hd2
    have HL5 := Lib.hid (HL1.out.below (Below.mono HB5.out (by simp)))
    go_wp2_with fail
    go_loopw [5] (fun i wr => ∃ j : Nat, j ≤ (places k).length ∧ i = .int .i64 j ∧ Below w5.heap.size w5 wr) (fun i _ => (places k).length - (intOf i).toNat)
    case atStart => exact ⟨0, by omega, rfl, Below.refl _ _⟩
    case round =>
      obtain ⟨wo, hwo⟩ : ∃ wo, wo = wr := ⟨_, rfl⟩
      subst hwo
      obtain ⟨j, hj, rfl, hbl⟩ := hrel
      have hbs := hbl.size
      have hb7 := HB5.out.trans (hbl.mono (show w1.heap.size + 1 ≤ w5.heap.size by omega))
      obtain ⟨hd0, hd1, hd2⟩ := box_cells ⟨wo, hb7⟩
      dsimp only at hd0 hd1 hd2
      by_cases hlt : j < (places k).length
      · obtain ⟨b, o, a6, c6, p, rfl, _, hbB, hp, hk0, hi6⟩ := rsl_at (HR5.out.below hbl) hlt
        have hpl : p.length ≤ 2000 := HD.out p (List.mem_of_getElem? hp)
        obtain ⟨⟨s', v', k'⟩, hf⟩ := places_at k s v p (List.mem_of_getElem? hp)
        have hfo := fat_ok p s v k ((okW_iff _ _ _ _).1 hok'.out).1 ((okW_iff _ _ _ _).1 hok'.out).2.1 hf
        have HR : Hid (atR s v k p = (s', v', k', true)) := by unfold Hid atR; rw [hok'.out, hf]; rfl
        have HOK2 : Hid (okW s' v' k' 16 = true) := (okW_iff _ _ _ _).2 ⟨hfo.1, hfo.2.1, by omega⟩
        have HP := Lib.hid hp
        have HI6 := Lib.hid hi6
        have HSL := Lib.hid ((HL1.out.below (Below.mono hb7 (by simp))).mono (lo' := 0) (Nat.le_refl _) (show _ ≤ wo.heap.size by simp; omega))
        have HBL := Lib.hid hbl
        have g1 : (0 : Int) ≤ (j : Int) := by omega
        have g2 : (j : Int) < ((places k).length : Int) := by omega
        clear hp hi6 hf hfo hbl hb7
        have HPL : Hid (p.length ≤ 1048576) := by unfold Hid; omega
        have HSLa : Hid (Sl wo.drew 0 wo.drew.heap.size a1 k) := HSL.out.below (Below.refl _ _).drew
        have HSLb : Hid (Sl (wo.alloc (.cells #[.int .i64 0, .int .i64 0, .slice none 0 0] 25)).drew 0 (wo.alloc (.cells #[.int .i64 0, .int .i64 0, .slice none 0 0] 25)).drew.heap.size a1 k) := (HSL.out.below ((Below.refl _ _).alloc (Nat.le_refl _) _).drew).mono (Nat.le_refl _) (by simp)
        have HIa : Hid (ISl wo.drew 0 wo.drew.heap.size a6 p) := (HI6.out.below (Below.refl _ _).drew).mono (Nat.le_refl _) hbs
        have HIb : Hid (ISl (wo.alloc (.cells #[.int .i64 0, .int .i64 0, .slice none 0 0] 25)).drew 0 (wo.alloc (.cells #[.int .i64 0, .int .i64 0, .slice none 0 0] 25)).drew.heap.size a6 p) := (HI6.out.below ((Below.refl _ _).alloc (by omega) _).drew).mono (Nat.le_refl _) (by simp; omega)
        go_wp2_with fail
        go_region_held3 (fun w' => w'.cell? ⟨b, o + j, none⟩ = some (.slice a6 p.length c6) ∧ w'.cell? ⟨w1.heap.size, 0, none⟩ = some (.int .i64 s) ∧ w'.cell? ⟨w1.heap.size, 1, none⟩ = some (.int .i64 v) ∧ w'.cell? ⟨w1.heap.size, 2, none⟩ = some (.slice a1 (flen k) c1))
          (first
            | exact keep4 hlow8 hk0 hd0 hd1 hd2 (by omega) (by omega)
            | exact keep4 (hlow8.alloc hlow8.size _) hk0 hd0 hd1 hd2 (by omega) (by omega)
            | exact keep4 (((hlow8.setCell (Nat.le_refl _) _).setCell (Nat.le_refl _) _).setCell (Nat.le_refl _) _) hk0 hd0 hd1 hd2 (by omega) (by omega)
            | go_keep)
          (first
            | (go_at_call 19; refine (iTermAt_any s v a1 c1 k a6 c6 p wo.drew HSLa.out HIa.out HPL.out).mono ?_; rintro e w8 ⟨a8, c8, s8, v8, k8, t8, hr8, rfl, hb8, hl8⟩; rw [HR.out] at hr8; simp only [Prod.mk.injEq] at hr8; obtain ⟨rfl, rfl, rfl, rfl⟩ := hr8; have hlow8 : Below wo.heap.size wo w8 := bl_undrew hb8; have hl8x : Sl w8 wo.heap.size w8.heap.size a8 k' := hl8; have hC8 : Hid True := trivial)
            | (go_at_call 19; refine (iTermAt_any s v a1 c1 k a6 c6 p (wo.alloc (.cells #[.int .i64 0, .int .i64 0, .slice none 0 0] 25)).drew HSLb.out HIb.out HPL.out).mono ?_; rintro e w8 ⟨a8, c8, s8, v8, k8, t8, hr8, rfl, hb8, hl8⟩; rw [HR.out] at hr8; simp only [Prod.mk.injEq] at hr8; obtain ⟨rfl, rfl, rfl, rfl⟩ := hr8; have hlow8 : Below wo.heap.size wo w8 := lp_lowB hb8; obtain ⟨hx0, hx1, hx2, hy0, hy1, hy2⟩ := lp_cellB hb8; have hl8x : Sl w8 (wo.heap.size + 1) w8.heap.size a8 k' := lp_slB hl8))
        · obtain ⟨hv0, hv1, hv2, hs9, hl9⟩ := lp_goA (x := .int .i64 s') (y := .int .i64 v') (c := c8) hlow8 hl8x
          have HB9 : Hid (Below w5.heap.size w5 (w8.alloc (.cells #[.int .i64 s', .int .i64 v', .slice a8 (flen k') c8] 25))) := HBL.out.trans (hs9.mono hbs)
          have HSL9 := Lib.hid hl9
          clear hs9 hl9
          generalize w8.alloc (.cells #[.int .i64 s', .int .i64 v', .slice a8 (flen k') c8] 25) = w9 at hv0 hv1 hv2 HB9 HSL9
          clear hlow8 hl8 hl8x hb8 hk0 hd0 hd1 hd2 HSL HSLa HSLb HIa HIb
          go_wp2_with fail
          with_reducible refine (iTermOk_any s' v' a8 c8 k' _ HSL9.out).mono ?_
          rw [HOK2.out]
          rintro e w10 ⟨rfl, hb10⟩
          have HB10 := Lib.hid (HB9.out.trans (hb10.mono HB9.out.size))
          clear hb10 hv0 hv1 hv2 HB9 HSL9
          go_wp2_with fail
          go_loopw [8] (fun i wr => ∃ q : Nat, q ≤ j ∧ i = .int .i64 q ∧ Below w5.heap.size w5 wr) (fun i _ => j - (intOf i).toNat)
          case atStart => exact ⟨0, by omega, rfl, HB10.out⟩
          case round =>
            clear HB10
            obtain ⟨q, hq, rfl, hbq⟩ := hrel
            have hbqs := hbq.size
            by_cases hltq : q < j
            · obtain ⟨b7, o7, a7, c7, p7, he7, _, _, hp7, hk7, hi7⟩ := rsl_at (HR5.out.below hbq) (show q < (places k).length by omega)
              obtain ⟨b9, o9, a9, c9, p9, he9, _, _, hp9, hk9, hi9⟩ := rsl_at (HR5.out.below hbq) hlt
              cases he7
              cases he9
              have e9 : p9 = p := by rw [HP.out] at hp9; exact (Option.some.inj hp9).symm
              subst e9
              have hne : p7 ≠ p9 := places_unlike hp7 hp9 hltq
              have hpl7 : p7.length ≤ 2000 := HD.out p7 (List.mem_of_getElem? hp7)
              have HI7 := Lib.hid hi7
              have HI9 := Lib.hid hi9
              have HBQ := Lib.hid hbq
              have HNE := Lib.hid hne
              have hu0 : ∀ u : After wr.heap.size wr, u.world.cell? ⟨b, o + q, none⟩ = some (.slice a7 p7.length c7) := fun u => u.cell (by simp; omega) hk7
              have hu1 : ∀ u : After wr.heap.size wr, u.world.cell? ⟨b, o + j, none⟩ = some (.slice a9 p9.length c9) := fun u => u.cell (by simp; omega) hk9
              have g3 : (0 : Int) ≤ (q : Int) := by omega
              have g4 : (q : Int) < ((places k).length : Int) := by omega
              have HCALL : Hid (∀ u : After wr.heap.size wr, Calls Try.prog 21 #[.slice a7 p7.length c7, .slice a9 p9.length c9] u.world fun e w' => e = .returned (.bool false) ∧ Below u.world.heap.size u.world w') := fun u => by
                have hu := u.below
                have hus := hu.size
                refine laInts_diff p7 p9 a7 a9 c7 c9 u.world ?_ ?_ HNE.out hpl7
                · exact (HI7.out.below (hu.mono (by omega))).mono (Nat.le_refl _) (by omega)
                · exact (HI9.out.below (hu.mono (by omega))).mono (Nat.le_refl _) (by omega)
              clear hi7 hi9 hp7 hp9 hbq hne
              go_wp2_with fail
              refine wp_region_after wr.heap.size (by kernel_rfl) (by kernel_rfl) ?_
              repeat (go_big_quiet_step ((go_at_call 21; exact Calls.after (After.below ‹_›).size (HCALL.out _))))
              refine wpQuiet_nil ?_
              rintro u ⟨⟨_, hu⟩, rfl⟩
              clear hu0 hu1 hk7 hk9
              have HB2 := Lib.hid (HBQ.out.trans (hu.mono hbqs))
              clear hu
              go_wp2_with fail
              go_roundw
              case rel => exact ⟨q + 1, by omega, by go_num, HB2.out⟩
              case measure => simp [intOf]; omega
            · have HBQ := Lib.hid hbq
              clear hbq
              go_wp2_with fail
              go_roundw
              case rel => exact ⟨j + 1, by omega, by go_num, HBQ.out⟩
              case measure => simp [intOf]; omega
        · obtain ⟨hv0, hv1, hv2, hs9, hl9⟩ := lp_goB (x := .int .i64 s') (y := .int .i64 v') (c := c8) hlow8 hl8x hx0 hx1 hx2
          have HB9 : Hid (Below w5.heap.size w5 (((w8.setCell ⟨wo.heap.size, 0, none⟩ (.int .i64 s')).setCell ⟨wo.heap.size, 1, none⟩ (.int .i64 v')).setCell ⟨wo.heap.size, 2, none⟩ (.slice a8 (flen k') c8))) := HBL.out.trans (hs9.mono hbs)
          have HSL9 := Lib.hid hl9
          clear hs9 hl9 hx0 hx1 hx2 hy0 hy1 hy2
          generalize ((w8.setCell ⟨wo.heap.size, 0, none⟩ (.int .i64 s')).setCell ⟨wo.heap.size, 1, none⟩ (.int .i64 v')).setCell ⟨wo.heap.size, 2, none⟩ (.slice a8 (flen k') c8) = w9 at hv0 hv1 hv2 HB9 HSL9
          clear hlow8 hl8 hl8x hb8 hk0 hd0 hd1 hd2 HSL HSLa HSLb HIa HIb
          go_wp2_with fail
          with_reducible refine (iTermOk_any s' v' a8 c8 k' _ HSL9.out).mono ?_
          rw [HOK2.out]
          rintro e w10 ⟨rfl, hb10⟩
          have HB10 := Lib.hid (HB9.out.trans (hb10.mono HB9.out.size))
          clear hb10 hv0 hv1 hv2 HB9 HSL9
          go_wp2_with fail
          go_loopw [8] (fun i wr => ∃ q : Nat, q ≤ j ∧ i = .int .i64 q ∧ Below w5.heap.size w5 wr) (fun i _ => j - (intOf i).toNat)
          case atStart => exact ⟨0, by omega, rfl, HB10.out⟩
          case round =>
            clear HB10
            obtain ⟨q, hq, rfl, hbq⟩ := hrel
            have hbqs := hbq.size
            by_cases hltq : q < j
            · obtain ⟨b7, o7, a7, c7, p7, he7, _, _, hp7, hk7, hi7⟩ := rsl_at (HR5.out.below hbq) (show q < (places k).length by omega)
              obtain ⟨b9, o9, a9, c9, p9, he9, _, _, hp9, hk9, hi9⟩ := rsl_at (HR5.out.below hbq) hlt
              cases he7
              cases he9
              have e9 : p9 = p := by rw [HP.out] at hp9; exact (Option.some.inj hp9).symm
              subst e9
              have hne : p7 ≠ p9 := places_unlike hp7 hp9 hltq
              have hpl7 : p7.length ≤ 2000 := HD.out p7 (List.mem_of_getElem? hp7)
              have HI7 := Lib.hid hi7
              have HI9 := Lib.hid hi9
              have HBQ := Lib.hid hbq
              have HNE := Lib.hid hne
              have hu0 : ∀ u : After wr.heap.size wr, u.world.cell? ⟨b, o + q, none⟩ = some (.slice a7 p7.length c7) := fun u => u.cell (by simp; omega) hk7
              have hu1 : ∀ u : After wr.heap.size wr, u.world.cell? ⟨b, o + j, none⟩ = some (.slice a9 p9.length c9) := fun u => u.cell (by simp; omega) hk9
              have g3 : (0 : Int) ≤ (q : Int) := by omega
              have g4 : (q : Int) < ((places k).length : Int) := by omega
              have HCALL : Hid (∀ u : After wr.heap.size wr, Calls Try.prog 21 #[.slice a7 p7.length c7, .slice a9 p9.length c9] u.world fun e w' => e = .returned (.bool false) ∧ Below u.world.heap.size u.world w') := fun u => by
                have hu := u.below
                have hus := hu.size
                refine laInts_diff p7 p9 a7 a9 c7 c9 u.world ?_ ?_ HNE.out hpl7
                · exact (HI7.out.below (hu.mono (by omega))).mono (Nat.le_refl _) (by omega)
                · exact (HI9.out.below (hu.mono (by omega))).mono (Nat.le_refl _) (by omega)
              clear hi7 hi9 hp7 hp9 hbq hne
              go_wp2_with fail
              refine wp_region_after wr.heap.size (by kernel_rfl) (by kernel_rfl) ?_
              repeat (go_big_quiet_step ((go_at_call 21; exact Calls.after (After.below ‹_›).size (HCALL.out _))))
              refine wpQuiet_nil ?_
              rintro u ⟨⟨_, hu⟩, rfl⟩
              clear hu0 hu1 hk7 hk9
              have HB2 := Lib.hid (HBQ.out.trans (hu.mono hbqs))
              clear hu
              go_wp2_with fail
              go_roundw
              case rel => exact ⟨q + 1, by omega, by go_num, HB2.out⟩
              case measure => simp [intOf]; omega
            · have HBQ := Lib.hid hbq
              clear hbq
              go_wp2_with fail
              go_roundw
              case rel => exact ⟨j + 1, by omega, by go_num, HBQ.out⟩
              case measure => simp [intOf]; omega
      · have e1 : (((places k).length : Int) == 1 + (fsz k : Int)) = true := by rw [places_len]; simp
        have HSL := Lib.hid ((HL1.out.below (Below.mono hb7 (by simp))).mono (lo' := 0) (Nat.le_refl _) (show _ ≤ wo.heap.size by simp; omega))
        have HB8 := Lib.hid hb7
        clear hb7 hbl
        go_wp2_with fail
        with_reducible refine (iTermSize_any s v a1 c1 k _ HSL.out).mono ?_
        rw [hok'.out]
        simp only [if_true]
        rintro e w9 ⟨rfl, hb9⟩
        have HB9 := Lib.hid (HB8.out.trans (hb9.mono (by omega)))
        clear hb9 hd0 hd1 hd2
        go_wp2_with fail
        go_ret
        exact ⟨rfl, HB1.out.trans (HB9.out.mono (by omega))⟩
end Go.Proofs.Ytebalmemncldlab
