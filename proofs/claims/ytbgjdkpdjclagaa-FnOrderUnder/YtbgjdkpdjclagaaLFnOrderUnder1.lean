/- Several texts in one: LO1, LawOUnder. -/
import Derived.Test.YtbgjdkpdjclagaaKOrd22
import Derived.Test.YtbgjdkpdjclagaaKOrd19
import Derived.Test.YtbgjdkpdjclagaaKOrd18
import Derived.Test.YtbgjdkpdjclagaaKOrd20

/-! LO1: What is more is more in the midst of a term: plain. -/
namespace Go.Proofs.Ytbgjdkpdjclagaa
open Go.RowKit Go.Deep

theorem gt_set {rk : Int → Nat} {s v : Int} {k : Fo} {n : Nat} {x y : Int × Int × Fo} (h : Shape s v k) (hn : n < flen k) (hg : Gt rk (tmOf x.1 x.2.1 x.2.2) (tmOf y.1 y.2.1 y.2.2)) : Gt rk (tmOf s v (fset k n x)) (tmOf s v (fset k n y)) := by
  cases h with
  | var => simp [flen] at hn
  | leaf => simp [flen] at hn
  | one x0 y0 p k ho hk =>
    have : n = 0 := by simp [flen] at hn; omega
    subst this
    simp only [fset]
    rw [tm_one, tm_one]
    refine .one hg fun u hu => ?_
    simp only [Tm.kids, List.mem_singleton] at hu
    subst hu
    exact .sub (by simp [Tm.kids]) hg
  | two x0 y0 p k x1 y1 p1 k1 ho hk ho1 hk1 =>
    have hc : n = 0 ∨ n = 1 := by simp [flen] at hn; omega
    rcases hc with rfl | rfl
    · simp only [fset]
      rw [tm_two, tm_two]
      refine .fst hg fun u hu => ?_
      simp only [Tm.kids, List.mem_cons, List.not_mem_nil, or_false] at hu
      rcases hu with rfl | rfl
      · exact .sub (by simp [Tm.kids]) hg
      · exact .kid (by simp [Tm.kids])
    · simp only [fset]
      rw [tm_two, tm_two]
      refine .snd hg fun u hu => ?_
      simp only [Tm.kids, List.mem_cons, List.not_mem_nil, or_false] at hu
      rcases hu with rfl | rfl
      · exact .kid (by simp [Tm.kids])
      · exact .sub (by simp [Tm.kids]) hg

theorem gt_put {rk : Int → Nat} : ∀ (p : List Int) (s v : Int) (k : Fo) (x y : Int × Int × Fo) {X Y : Int × Int × Fo}, okN s v (flen k) = true → fok k = true → fput s v k p x = some X → fput s v k p y = some Y → Gt rk (tmOf x.1 x.2.1 x.2.2) (tmOf y.1 y.2.1 y.2.2) → Gt rk (tmOf X.1 X.2.1 X.2.2) (tmOf Y.1 Y.2.1 Y.2.2)
  | [], _, _, _, x, y, X, Y, _, _, h1, h2, hg => by
    simp only [fput, Option.some.injEq] at h1 h2
    subst h1; subst h2; exact hg
  | i :: ps, s, v, k, x, y, X, Y, ho, hf, h1, h2, hg => by
    obtain ⟨n, b, o, s1, v1, kk, y1, hi, hn, hd, hp, rfl⟩ := fput_cons h1
    obtain ⟨n', b', o', s2, v2, kk', y2, hi', hn', hd', hp', rfl⟩ := fput_cons h2
    obtain rfl : n = n' := by omega
    rw [hd] at hd'
    simp only [BT.node.injEq, Prod.mk.injEq] at hd'
    obtain ⟨_, _, ⟨rfl, rfl⟩, rfl, _⟩ := hd'
    have hk := fok_kid hf hd
    exact gt_set (shape_of ho hf) hn (gt_put ps s1 v1 kk x y hk.1 hk.2 hp hp' hg)

theorem moreR_put {xs : List Int} {s v : Int} {k : Fo} {s' v' : Int} {k' : Fo} {su vu : Int} {ku : Fo} {place : List Int} {sx vx : Int} {kx : Fo} {sy vy : Int} {ky : Fo} (h : moreR xs s v k s' v' k' = true) (h1 : putR su vu ku place (s, v, k) = (sx, vx, kx, true)) (h2 : putR su vu ku place (s', v', k') = (sy, vy, ky, true)) : moreR xs sx vx kx sy vy ky = true := by
  obtain ⟨r, _, _, g⟩ := moreR_iff.1 h
  obtain ⟨o1, _, p1, o3⟩ := putR_true h1
  obtain ⟨_, _, p2, o4⟩ := putR_true h2
  obtain ⟨q1, q2, _⟩ := (okW_iff _ _ _ _).1 o1
  exact moreR_iff.2 ⟨r, o3, o4, gt_put place su vu ku _ _ q1 q2 p1 p2 g⟩

/-- The box of a third term, and a place. -/
structure Ub (su vu : Int) (au : Option Addr) (cu : Nat) (ku : Fo) (pA : Option Addr) (pC : Nat) (place : List Int) (b : Nat) (wn : World) : Prop where
  one : Sl wn 0 wn.heap.size au ku
  place : ISc wn 0 wn.heap.size pA pC place
  s0 : wn.cell? ⟨b, 0, none⟩ = some (.int .i64 su)
  s1 : wn.cell? ⟨b, 1, none⟩ = some (.int .i64 vu)
  s2 : wn.cell? ⟨b, 2, none⟩ = some (.slice au (flen ku) cu)
theorem Ub.next {su vu : Int} {au : Option Addr} {cu : Nat} {ku : Fo} {pA : Option Addr} {pC : Nat} {place : List Int} {b : Nat} {wn wm : World} (h : Ub su vu au cu ku pA pC place b wn) (hb : Below wn.heap.size wn wm) : Ub su vu au cu ku pA pC place b wm :=
  ⟨(h.one.below hb).mono (Nat.le_refl _) hb.size, ⟨(h.place.1.below hb).mono (Nat.le_refl _) hb.size, h.place.2⟩, cell_low hb h.s0, cell_low hb h.s1, cell_low hb h.s2⟩
theorem ub_start {w w1 : World} {su vu : Int} {au : Option Addr} {cu : Nat} {ku : Fo} {pA : Option Addr} {pC : Nat} {place : List Int} (hl : Sl w1 w.heap.size w1.heap.size au ku) (hi : ISc w1 w.heap.size w1.heap.size pA pC place) :
    Ub su vu au cu ku pA pC place w1.heap.size (w1.alloc (.cells #[.int .i64 su, .int .i64 vu, .slice au (flen ku) cu] 26)) := by
  have h2 : Below w1.heap.size w1 (w1.alloc (.cells #[.int .i64 su, .int .i64 vu, .slice au (flen ku) cu] 26)) := (Below.refl _ _).alloc (Nat.le_refl _) _
  refine ⟨((hl.mono (Nat.zero_le _) (Nat.le_refl _)).below h2).mono (Nat.le_refl _) h2.size, ⟨((hi.1.mono (Nat.zero_le _) (Nat.le_refl _)).below h2).mono (Nat.le_refl _) h2.size, hi.2⟩, ?_, ?_, ?_⟩
  iterate 3
    rw [World.cell?_alloc_at _ _ _ _ rfl]; rfl
end Go.Proofs.Ytbgjdkpdjclagaa

/-! LawOUnder: laws.FnOrderUnder answers true at any two codes. -/
namespace Go.Proofs.Ytbgjdkpdjclagaa
open Go.RowKit Go.Deep

set_option maxRecDepth 100000 in
set_option maxHeartbeats 4000000 in
theorem orderUnder_walk (a0 : Option Addr) (len cap : Nat) (a1 : Option Addr) (len1 cap1 : Nat) (w : World) (hby : Bytes w a0 len) (hlen : len ≤ cap) (hby1 : Bytes w a1 len1) (hlen1 : len1 ≤ cap1) :
    Calls Try.prog 8 #[.slice a0 len cap, .slice a1 len1 cap1] w fun e w' => e = .returned (.bool true) ∧ Below w.heap.size w w' := by
  have HBY := Lib.hid hby
  have HBY1 := Lib.hid hby1
  clear hby hby1
  by_cases hbig : 1048576 < len
  · go_enter Try.func8, Try.ntmps8
    go_wp2_with fail
    go_ret
    exact ⟨rfl, Below.refl _ _⟩
  by_cases hbig1 : 1048576 < len1
  · go_enter Try.func8, Try.ntmps8
    go_wp2_with fail
    go_ret
    exact ⟨rfl, Below.refl _ _⟩
  go_enter Try.func8, Try.ntmps8
  go_wp2_with fail
  with_reducible refine (DrawOrderMore_any a0 len cap _ HBY.out hlen).mono ?_
  rintro e wa ⟨xs, A, C, s, v, a, c, k, s', v', a', c', k', rfl, hx4, hS, hS', hb1, hi1, hl1, hl1'⟩
  have HO0 := Lib.hid (ob_start (C := C) (s := s) (v := v) (c := c) (s' := s') (v' := v') (c' := c') hb1 hi1 hl1 hl1')
  have HX4 := Lib.hid hx4
  clear hb1 hi1 hl1 hl1' hx4
  go_wp2_with fail
  generalize ((wa.alloc (.cells #[.int .i64 s, .int .i64 v, .slice a (flen k) c] 26)).alloc (.cells #[.int .i64 s', .int .i64 v', .slice a' (flen k') c'] 26)) = wx at *
  with_reducible refine (DrawTermAt_any a1 len1 cap1 _ (HBY1.out.low HO0.out.low) hlen1).mono ?_
  rintro e wb ⟨su, vu, au, cu, ku, pA, pC, place, rfl, hSu, hpl, hb2, hl2, hi2⟩
  have HU1 := Lib.hid (ub_start (su := su) (vu := vu) (cu := cu) hl2 hi2)
  have HO1 := Lib.hid ((HO0.out.next hb2).next ((Below.refl _ _).alloc (Nat.le_refl _) (.cells #[.int .i64 su, .int .i64 vu, .slice au (flen ku) cu] 26)))
  clear hb2 hl2 hi2 HO0 HBY HBY1
  cases hm : moreR xs s v k s' v' k' with
  | false =>
    have HM := Lib.hid hm
    clear hm
    have qs0 := HO1.out.s0
    have qs1 := HO1.out.s1
    have qs2 := HO1.out.s2
    have qt0 := HO1.out.t0
    have qt1 := HO1.out.t1
    have qt2 := HO1.out.t2
    have u0 := HU1.out.s0
    have u1 := HU1.out.s1
    have u2 := HU1.out.s2
    go_wp2_with fail
    with_reducible refine (iOrderMore_any xs A C s v a c k s' v' a' c' k' _ HO1.out.ints HO1.out.one HO1.out.two).mono ?_
    rw [HM.out]
    rintro e w2 ⟨rfl, hb⟩
    have HO2 := Lib.hid (HO1.out.next hb)
    have HU2 := Lib.hid (HU1.out.next hb)
    clear qs0 qs1 qs2 qt0 qt1 qt2
    clear u0 u1 u2
    clear hb HO1 HU1
    have qs0 := HO2.out.s0
    have qs1 := HO2.out.s1
    have qs2 := HO2.out.s2
    have qt0 := HO2.out.t0
    have qt1 := HO2.out.t1
    have qt2 := HO2.out.t2
    have u0 := HU2.out.s0
    have u1 := HU2.out.s1
    have u2 := HU2.out.s2
    go_wp2_with fail
    with_reducible refine (sOrderMore_any xs A C s v a c k s' v' a' c' k' _ HO2.out.ints HO2.out.one HO2.out.two).mono ?_
    rw [HM.out]
    rintro e w3 ⟨rfl, hb⟩
    have HO3 := Lib.hid (HO2.out.next hb)
    have HU3 := Lib.hid (HU2.out.next hb)
    clear qs0 qs1 qs2 qt0 qt1 qt2
    clear u0 u1 u2
    clear hb HO2 HU2
    have qs0 := HO3.out.s0
    have qs1 := HO3.out.s1
    have qs2 := HO3.out.s2
    have qt0 := HO3.out.t0
    have qt1 := HO3.out.t1
    have qt2 := HO3.out.t2
    have u0 := HU3.out.s0
    have u1 := HU3.out.s1
    have u2 := HU3.out.s2
    go_wp2_with fail
    with_reducible refine (sOrderMore_any xs A C s v a c k s' v' a' c' k' _ HO3.out.ints HO3.out.one HO3.out.two).mono ?_
    rw [HM.out]
    rintro e w4 ⟨rfl, hb⟩
    have HO4 := Lib.hid (HO3.out.next hb)
    have HU4 := Lib.hid (HU3.out.next hb)
    clear qs0 qs1 qs2 qt0 qt1 qt2
    clear u0 u1 u2
    clear hb HO3 HU3
    go_wp2_with fail
    go_ret
    exact ⟨rfl, HO4.out.low⟩
  | true =>
    have HM := Lib.hid hm
    clear hm
    have qs0 := HO1.out.s0
    have qs1 := HO1.out.s1
    have qs2 := HO1.out.s2
    have qt0 := HO1.out.t0
    have qt1 := HO1.out.t1
    have qt2 := HO1.out.t2
    have u0 := HU1.out.s0
    have u1 := HU1.out.s1
    have u2 := HU1.out.s2
    go_wp2_with fail
    with_reducible refine (iOrderMore_any xs A C s v a c k s' v' a' c' k' _ HO1.out.ints HO1.out.one HO1.out.two).mono ?_
    rw [HM.out]
    rintro e w2 ⟨rfl, hb⟩
    have HO2 := Lib.hid (HO1.out.next hb)
    have HU2 := Lib.hid (HU1.out.next hb)
    clear qs0 qs1 qs2 qt0 qt1 qt2
    clear u0 u1 u2
    clear hb HO1 HU1
    have qs0 := HO2.out.s0
    have qs1 := HO2.out.s1
    have qs2 := HO2.out.s2
    have qt0 := HO2.out.t0
    have qt1 := HO2.out.t1
    have qt2 := HO2.out.t2
    have u0 := HU2.out.s0
    have u1 := HU2.out.s1
    have u2 := HU2.out.s2
    go_wp2_with fail
    with_reducible refine (sOrderMore_any xs A C s v a c k s' v' a' c' k' _ HO2.out.ints HO2.out.one HO2.out.two).mono ?_
    rw [HM.out]
    rintro e w3 ⟨rfl, hb⟩
    have HO3 := Lib.hid (HO2.out.next hb)
    have HU3 := Lib.hid (HU2.out.next hb)
    clear qs0 qs1 qs2 qt0 qt1 qt2
    clear u0 u1 u2
    clear hb HO2 HU2
    have qs0 := HO3.out.s0
    have qs1 := HO3.out.s1
    have qs2 := HO3.out.s2
    have qt0 := HO3.out.t0
    have qt1 := HO3.out.t1
    have qt2 := HO3.out.t2
    have u0 := HU3.out.s0
    have u1 := HU3.out.s1
    have u2 := HU3.out.s2
    go_wp2_with fail
    with_reducible refine (iTermPut_any su vu au cu ku pA pC place s v a c k _ HU3.out.one HU3.out.place (by omega) HO3.out.one).mono ?_
    rintro e w4p ⟨ax, cx, sx, vx, kx, tx, hRx, rfl, hbp, hlx⟩
    have hb : Below w3.heap.size w3 (w4p.alloc (.cells #[.int .i64 sx, .int .i64 vx, .slice ax (flen kx) cx] 26)) := hbp.alloc hbp.size _
    have hba : Below w4p.heap.size w4p (w4p.alloc (.cells #[.int .i64 sx, .int .i64 vx, .slice ax (flen kx) cx] 26)) := (Below.refl _ _).alloc (Nat.le_refl _) _
    have HLx := Lib.hid (((hlx.mono (lo' := 0) (Nat.zero_le _) (Nat.le_refl _)).below hba).mono (Nat.le_refl _) hba.size)
    have zx0 : (w4p.alloc (.cells #[.int .i64 sx, .int .i64 vx, .slice ax (flen kx) cx] 26)).cell? ⟨w4p.heap.size, 0, none⟩ = some (.int .i64 sx) := by rw [World.cell?_alloc_at _ _ _ _ rfl]; rfl
    have zx1 : (w4p.alloc (.cells #[.int .i64 sx, .int .i64 vx, .slice ax (flen kx) cx] 26)).cell? ⟨w4p.heap.size, 1, none⟩ = some (.int .i64 vx) := by rw [World.cell?_alloc_at _ _ _ _ rfl]; rfl
    have zx2 : (w4p.alloc (.cells #[.int .i64 sx, .int .i64 vx, .slice ax (flen kx) cx] 26)).cell? ⟨w4p.heap.size, 2, none⟩ = some (.slice ax (flen kx) cx) := by rw [World.cell?_alloc_at _ _ _ _ rfl]; rfl
    have HRx := Lib.hid hRx
    have HO4 := Lib.hid (HO3.out.next hb)
    have HU4 := Lib.hid (HU3.out.next hb)
    clear qs0 qs1 qs2 qt0 qt1 qt2
    clear u0 u1 u2
    clear hb HO3 HU3
    clear hbp hlx hba hRx
    have qs0 := HO4.out.s0
    have qs1 := HO4.out.s1
    have qs2 := HO4.out.s2
    have qt0 := HO4.out.t0
    have qt1 := HO4.out.t1
    have qt2 := HO4.out.t2
    have u0 := HU4.out.s0
    have u1 := HU4.out.s1
    have u2 := HU4.out.s2
    go_wp2_with fail
    generalize (w4p.alloc (.cells #[.int .i64 sx, .int .i64 vx, .slice ax (flen kx) cx] 26)) = w4 at *
    with_reducible refine (iTermPut_any su vu au cu ku pA pC place s' v' a' c' k' _ HU4.out.one HU4.out.place (by omega) HO4.out.two).mono ?_
    rintro e w5p ⟨ay, cy, sy, vy, ky, ty, hRy, rfl, hbp, hly⟩
    have hb : Below w4.heap.size w4 (w5p.alloc (.cells #[.int .i64 sy, .int .i64 vy, .slice ay (flen ky) cy] 26)) := hbp.alloc hbp.size _
    have hba : Below w5p.heap.size w5p (w5p.alloc (.cells #[.int .i64 sy, .int .i64 vy, .slice ay (flen ky) cy] 26)) := (Below.refl _ _).alloc (Nat.le_refl _) _
    have HLy := Lib.hid (((hly.mono (lo' := 0) (Nat.zero_le _) (Nat.le_refl _)).below hba).mono (Nat.le_refl _) hba.size)
    have zy0 : (w5p.alloc (.cells #[.int .i64 sy, .int .i64 vy, .slice ay (flen ky) cy] 26)).cell? ⟨w5p.heap.size, 0, none⟩ = some (.int .i64 sy) := by rw [World.cell?_alloc_at _ _ _ _ rfl]; rfl
    have zy1 : (w5p.alloc (.cells #[.int .i64 sy, .int .i64 vy, .slice ay (flen ky) cy] 26)).cell? ⟨w5p.heap.size, 1, none⟩ = some (.int .i64 vy) := by rw [World.cell?_alloc_at _ _ _ _ rfl]; rfl
    have zy2 : (w5p.alloc (.cells #[.int .i64 sy, .int .i64 vy, .slice ay (flen ky) cy] 26)).cell? ⟨w5p.heap.size, 2, none⟩ = some (.slice ay (flen ky) cy) := by rw [World.cell?_alloc_at _ _ _ _ rfl]; rfl
    replace HLx := Lib.hid ((HLx.out.below hb).mono (Nat.le_refl _) hb.size)
    replace zx0 := cell_low hb zx0
    replace zx1 := cell_low hb zx1
    replace zx2 := cell_low hb zx2
    have HRy := Lib.hid hRy
    have HO5 := Lib.hid (HO4.out.next hb)
    have HU5 := Lib.hid (HU4.out.next hb)
    clear qs0 qs1 qs2 qt0 qt1 qt2
    clear u0 u1 u2
    clear hb HO4 HU4
    clear hbp hly hba hRy
    cases htx : tx with
    | false =>
      subst htx
      go_wp2_with fail
      go_ret
      exact ⟨rfl, HO5.out.low⟩
    | true =>
      subst htx
      cases hty : ty with
      | false =>
        subst hty
        go_wp2_with fail
        go_ret
        exact ⟨rfl, HO5.out.low⟩
      | true =>
        subst hty
        have HF := Lib.hid (moreR_put HM.out HRx.out HRy.out)
        go_wp2_with fail
        generalize (w5p.alloc (.cells #[.int .i64 sy, .int .i64 vy, .slice ay (flen ky) cy] 26)) = w5 at *
        with_reducible refine (iOrderMore_any xs A C sx vx ax cx kx sy vy ay cy ky _ HO5.out.ints HLx.out HLy.out).mono ?_
        rw [HF.out]
        rintro e w6 ⟨rfl, hb⟩
        have HO6 := Lib.hid (HO5.out.next hb)
        clear hb zx0 zx1 zx2 zy0 zy1 zy2
        go_wp2_with fail
        go_ret
        exact ⟨rfl, HO6.out.low⟩
end Go.Proofs.Ytbgjdkpdjclagaa
