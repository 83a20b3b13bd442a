/- Several texts in one: G10. -/
import Derived.Test.YtiinmlagcbjloaaGreatKAll9

/-! G10: The specification's find. -/
namespace Go.Proofs.YtiinmlagcbjloaaGreat
open Go.RowKit Go.Deep

theorem reach_gt {rk : Int → Nat} {s v : Int} {k : Fo} (h : Shape s v k) {Y : Tm} (hr : Reach rk (ftm k) Y) : Gt rk (tmOf s v k) Y := by
  obtain ⟨u, hu, h1⟩ := hr
  rw [← tm_kids h] at hu
  rcases h1 with rfl | h1
  · exact .kid hu
  · exact .sub hu h1
theorem all_gt {rk : Int → Nat} {s v : Int} {k : Fo} (h : Shape s v k) {X : Tm} (hg : Gt rk X (tmOf s v k)) : All rk X (ftm k) := fun u hu => hg.tr (.kid (by rw [tm_kids h]; exact hu))
theorem all_drop {rk : Int → Nat} {X : Tm} {l : List Tm} {n : Nat} (h : All rk X l) : All rk X (l.drop n) := fun u hu => h u (List.mem_of_mem_drop hu)
theorem reach_drop {rk : Int → Nat} {Y : Tm} {l : List Tm} {n : Nat} (h : Reach rk (l.drop n) Y) : Reach rk l Y := by
  obtain ⟨u, hu, h1⟩ := h
  exact ⟨u, List.mem_of_mem_drop hu, h1⟩
theorem kid_cells {w : World} {B : Nat} {sa : Option Addr} {k : Fo} {j : Nat} (hl : Sl w 0 B sa k) (hj : j < flen k) :
    ∃ kb ko s v kk a c x y, sa = some ⟨kb, ko, none⟩ ∧ kb < B ∧ fdrop j k = .node x y (s, v) kk (fdrop (j + 1) k) ∧ w.cell? ⟨kb, ko + j * 3, none⟩ = some (.int .i64 s) ∧ w.cell? ⟨kb, ko + j * 3 + 1, none⟩ = some (.int .i64 v) ∧ w.cell? ⟨kb, ko + j * 3 + 2, none⟩ = some (.slice a (flen kk) c) ∧ Sl w 0 B a kk := by
  rcases hl with rfl | ⟨b, o, rfl, hr⟩
  · simp [flen] at hj
  · obtain ⟨s, v, kk, a, c, ⟨x, y, hd⟩, _, hb, h0, h1, h2, h3⟩ := row_at hr hj
    exact ⟨b, o, s, v, kk, a, c, x, y, rfl, hb, hd, h0, h1, h2, h3⟩

set_option maxRecDepth 100000 in
set_option maxHeartbeats 4000000 in
theorem findS_any {L : Look} {M : Nat} (H : MoreS L M) (a b : Nat) (rows : List (List Int)) (w : World) (ha : a < L.n) (hb : b < L.m) (hM : L.sz a b ≤ M) (hlk : LookAt L w) (hkn : Kn L (L.sz a b) rows w) :
    Calls Tryz.prog 59 #[.pointer (some ⟨L.g, 0, none⟩), .int .i64 a, .int .i64 b] w (LkPost L (L.sz a b) rows (L.gt a b) w) := by
  have HH : Hid (MoreS L M) := H
  have hns := hlk.small
  obtain ⟨sb, so, sa, sc, hsA, hsB, hs0, hs1, hs2, hsl⟩ := hlk.s.cells a ha
  obtain ⟨tb, to, ta, tc, htA, htB, ht0, ht1, ht2, htl⟩ := hlk.t.cells b hb
  have hoS := hlk.s.ok a ha
  have hoT := hlk.t.ok b hb
  have HKS := Lib.hid (fun j (hj : j < flen (L.S a).2.2) => hlk.s.kidAt ha hj)
  have HKT := Lib.hid (fun j (hj : j < flen (L.T b).2.2) => hlk.t.kidAt hb hj)
  obtain ⟨ug, uo, ua, uc, ur, huK, hug, hucell, huisl, hukid⟩ := hlk.t.kidsOf hb
  have hszE : L.sz a b = fsz (L.S a).2.2 + fsz (L.T b).2.2 := rfl
  have hgtE : L.gt a b = pB (Gt (rkN L.xs) (tmS (L.S a)) (tmS (L.T b))) := rfl
  have hftT : All (rkN L.xs) (tmS (L.S a)) (ftm (L.T b).2.2) = All (rkN L.xs) (tmS (L.S a)) (ftm (L.T b).2.2) := rfl
  rcases hSa : L.S a with ⟨s, v, k⟩
  rcases hTb : L.T b with ⟨s', v', k'⟩
  rw [hSa] at hs0 hs1 hs2 hsl hoS hszE hgtE HKS
  rw [hTb] at ht0 ht1 ht2 htl hoT hszE hgtE HKT
  dsimp only at hs0 hs1 hs2 hsl hoS hszE hgtE HKS ht0 ht1 ht2 htl hoT HKT
  have HSZa : Hid (fsz (L.S a).2.2 = fsz k) := by rw [hSa]; rfl
  have HTZ : Hid (fsz (L.T b).2.2 = fsz k') := by rw [hTb]; rfl
  have HTT : Hid (tmS (L.T b) = tmOf s' v' k') := by rw [hTb]; rfl
  have hshS := shape_of hoS.1 hoS.2.1
  have hshT := shape_of hoT.1 hoT.2.1
  have HGE : Hid (L.gt a b = pB (Gt (rkN L.xs) (tmOf s v k) (tmOf s' v' k'))) := hgtE
  have HSZ := Lib.hid hszE
  have HSS := Lib.hid hshS
  have HST := Lib.hid hshT
  have hkS := hoS.2.2
  have hkT := hoT.2.2
  have hfl := flen_le_sz k
  have hfl' := flen_le_sz k'
  have hurl : ur.length = flen k' := by rw [hukid.len, hTb]
  rw [hurl] at hucell
  have HURL := Lib.hid hurl
  have HAE : Hid (pB (All (rkN L.xs) (tmS (L.S a)) (ftm (L.T b).2.2)) = pB (All (rkN L.xs) (tmOf s v k) (ftm k'))) := by rw [hSa, hTb]; rfl
  have hc1 := hlk.c1
  have hc3 := hlk.c3
  rw [hsA] at hc1
  rw [htA] at hc3
  have hBw := hlk.big
  have hg1 := hlk.glt
  have hbS : Below w.heap.size w (w.alloc (.cells #[.int .i64 s, .int .i64 v, .slice sa (flen k) sc] 26)) := (Below.refl _ _).alloc (Nat.le_refl _) _
  have hc3' : (w.alloc (.cells #[.int .i64 s, .int .i64 v, .slice sa (flen k) sc] 26)).cell? ⟨L.g, 3, none⟩ = some (.slice (some ⟨tb, to, none⟩) L.m L.tCA) := by rw [hbS.cell (by simp; omega)]; exact hc3
  have ht0' : (w.alloc (.cells #[.int .i64 s, .int .i64 v, .slice sa (flen k) sc] 26)).cell? ⟨tb, to + b * 3, none⟩ = some (.int .i64 s') := by rw [hbS.cell (by simp; omega)]; exact ht0
  have ht1' : (w.alloc (.cells #[.int .i64 s, .int .i64 v, .slice sa (flen k) sc] 26)).cell? ⟨tb, to + b * 3 + 1, none⟩ = some (.int .i64 v') := by rw [hbS.cell (by simp; omega)]; exact ht1
  have ht2' : (w.alloc (.cells #[.int .i64 s, .int .i64 v, .slice sa (flen k) sc] 26)).cell? ⟨tb, to + b * 3 + 2, none⟩ = some (.slice ta (flen k') tc) := by rw [hbS.cell (by simp; omega)]; exact ht2
  have hb2 : Below w.heap.size w ((w.alloc (.cells #[.int .i64 s, .int .i64 v, .slice sa (flen k) sc] 26)).alloc (.cells #[.int .i64 s', .int .i64 v', .slice ta (flen k') tc] 26)) := hbS.alloc (by simp) _
  obtain ⟨u0, hu0⟩ : ∃ u0 : FC L (L.sz a b) rows w w.heap.size s v sa sc k s' v' ta tc k', (w.alloc (.cells #[.int .i64 s, .int .i64 v, .slice sa (flen k) sc] 26)).alloc (.cells #[.int .i64 s', .int .i64 v', .slice ta (flen k') tc] 26) = u0.world :=
    ⟨⟨_, rows, (Still.refl hkn).new hBw hb2, hlk.next (hb2.mono hBw), by simp, hlk.dbig,
      by rw [World.cell?_alloc_lt _ _ _ (by simp), World.cell?_alloc_at _ _ _ _ rfl]; rfl, by rw [World.cell?_alloc_lt _ _ _ (by simp), World.cell?_alloc_at _ _ _ _ rfl]; rfl, by rw [World.cell?_alloc_lt _ _ _ (by simp), World.cell?_alloc_at _ _ _ _ rfl]; rfl,
      by rw [World.cell?_alloc_at _ _ _ _ (by simp)]; rfl, by rw [World.cell?_alloc_at _ _ _ _ (by simp)]; rfl, by rw [World.cell?_alloc_at _ _ _ _ (by simp)]; rfl⟩, rfl⟩
  have hw0 := u0.c0
  have hw1 := u0.c1
  have hw2 := u0.c2
  have hw3 := u0.d0
  have hw4 := u0.d1
  have hw5 := u0.d2
  have HSL := Lib.hid hsl
  have HTL := Lib.hid htl
  have HLK := Lib.hid hlk
  have HUI := Lib.hid huisl
  have HUK := Lib.hid hukid
  have HFS := Lib.hid hoS.2.1
  have HFT := Lib.hid hoT.2.1
  have g1 : (0 : Int) ≤ (a : Int) := by omega
  have g2 : (a : Int) < (L.n : Int) := by omega
  have g3 : (0 : Int) ≤ (b : Int) := by omega
  have g4 : (b : Int) < (L.m : Int) := by omega
  clear hurl hsl htl hlk hkn huisl hukid hgtE hftT hszE hoS hoT hshS hshT hbS hb2 H hSa hTb
  by_cases hs : s = 0
  · have es : (s == 0) = true := by simp [hs]
    have HF : Hid (L.gt a b = false) := by
      rw [Hid, HGE.out]
      refine pB_false fun hg => ?_
      have hsh := HSS.out
      subst hs
      cases hsh with
      | var => exact gt_var hg
      | leaf _ h => omega
    clear hs
    go_enter Tryz.func59, Tryz.ntmps59
    go_wp2_with fail
    go_ret
    rw [HF.out]
    exact u0.post
  have es : (s == 0) = false := by simp [hs]
  have HS := Lib.hid hs
  clear hs
  go_enter Tryz.func59, Tryz.ntmps59
  go_wp2_with fail
  clear hw0 hw1 hw2 hw3 hw4 hw5 hc3' ht0' ht1' ht2' hs0 hs1 hs2 ht0 ht1 ht2 hc1 hc3
  go_loopw [9] (fun i wr => ∃ (j : Nat) (u : FC L (L.sz a b) rows w w.heap.size s v sa sc k s' v' ta tc k'), i = .int .i64 j ∧ j ≤ flen k ∧ Hid (pB (Reach (rkN L.xs) (ftm k) (tmOf s' v' k')) = pB (Reach (rkN L.xs) ((ftm k).drop j) (tmOf s' v' k'))) ∧ wr = u.world) (fun i _ => flen k - (intOf i).toNat)
  case atStart => exact ⟨0, u0, rfl, by omega, by simp [Hid], rfl⟩
  case round =>
    clear hu0
    obtain ⟨j, u, rfl, hj, hre, rfl⟩ := hrel
    have huc2 := u.c2
    by_cases hlt : j < flen k
    · obtain ⟨kb, ko, s1, v1, kk, a1, c1, x1, y1, hsaE, hkb, hd1, hk0, hk1, hk2, hsl1⟩ := kid_cells HSL.out hlt
      have huc2' : u.world.cell? ⟨w.heap.size, 2, none⟩ = some (.slice (some ⟨kb, ko, none⟩) (flen k) sc) := u.c2.trans (by rw [hsaE])
      clear huc2
      obtain ⟨b2, o2, b3, o3, r3, x3, y3, s3, v3, kk3, c3, q, hqK, hb2, hqc, hb3, hqq, hqn, hqS, hd3, hqz, hqf, _⟩ := HKS.out j hlt
      have hdd := hd1.symm.trans hd3
      simp only [BT.node.injEq, Prod.mk.injEq] at hdd
      obtain ⟨_, _, ⟨rfl, rfl⟩, rfl, _⟩ := hdd
      have hqt : tmS (L.S q) = tmOf s1 v1 kk := by rw [hqS]; rfl
      have HAT := Lib.hid (drop_at hqf)
      rw [hqt] at HAT
      have hkid := fok_kid HFS.out hd1
      have HSH1 := Lib.hid (shape_of hkid.1 hkid.2)
      have HTM := Lib.hid (tm_teq HSH1.out HST.out)
      have hszq : L.sz q b < L.sz a b := by
        have h1 := HSZa.out
        unfold Look.sz
        rw [hqS, h1]
        show fsz kk + _ < _
        omega
      have HZ : Hid (L.sz q b + 1 ≤ L.sz a b) := hszq
      have HC1 : Hid (∀ u : FC L (L.sz a b) rows w w.heap.size s v sa sc k s' v' ta tc k', Calls Tryz.prog 71 #[.agg #[.int .i64 s1, .int .i64 v1, .slice a1 (flen kk) c1], .agg #[.int .i64 s', .int .i64 v', .slice ta (flen k') tc]] u.world fun e w' => e = .returned (.bool (teq s1 v1 kk s' v' k')) ∧ Below u.world.heap.size u.world w') := fun u =>
        l1Same_any (fsz kk) s1 v1 a1 c1 kk s' v' ta tc k' u.world ((hsl1.below u.still.low.low).mono (Nat.le_refl _) u.look.big) ((HTL.out.below u.still.low.low).mono (Nat.le_refl _) u.look.big) (Nat.le_refl _) (by omega)
      have HC2 : Hid (∀ u : FC L (L.sz a b) rows w w.heap.size s v sa sc k s' v' ta tc k', Calls Tryz.prog 50 #[.pointer (some ⟨L.g, 0, none⟩), .int .i64 q, .int .i64 b] u.world (LkPost L (L.sz q b + 1) u.rows' (L.gt q b) u.world)) := fun u =>
        HH.out q b u.rows' u.world hqn hb (by omega) u.look (u.still.kn.less HZ.out)
      have hv0 : ∀ u : FC L (L.sz a b) rows w w.heap.size s v sa sc k s' v' ta tc k', u.world.cell? ⟨w.heap.size, 2, none⟩ = some (.slice (some ⟨kb, ko, none⟩) (flen k) sc) := fun u => u.c2.trans (by rw [hsaE])
      have hv1 : ∀ u : FC L (L.sz a b) rows w w.heap.size s v sa sc k s' v' ta tc k', u.world.cell? ⟨kb, ko + j * 3, none⟩ = some (.int .i64 s1) := fun u => by rw [u.still.low.low.cell hkb]; exact hk0
      have hv2 : ∀ u : FC L (L.sz a b) rows w w.heap.size s v sa sc k s' v' ta tc k', u.world.cell? ⟨kb, ko + j * 3 + 1, none⟩ = some (.int .i64 v1) := fun u => by rw [u.still.low.low.cell hkb]; exact hk1
      have hv3 : ∀ u : FC L (L.sz a b) rows w w.heap.size s v sa sc k s' v' ta tc k', u.world.cell? ⟨kb, ko + j * 3 + 2, none⟩ = some (.slice a1 (flen kk) c1) := fun u => by rw [u.still.low.low.cell hkb]; exact hk2
      have hv4 : ∀ u : FC L (L.sz a b) rows w w.heap.size s v sa sc k s' v' ta tc k', u.world.cell? ⟨w.heap.size + 1, 0, none⟩ = some (.int .i64 s') := fun u => u.d0
      have hv5 : ∀ u : FC L (L.sz a b) rows w w.heap.size s v sa sc k s' v' ta tc k', u.world.cell? ⟨w.heap.size + 1, 1, none⟩ = some (.int .i64 v') := fun u => u.d1
      have hv6 : ∀ u : FC L (L.sz a b) rows w w.heap.size s v sa sc k s' v' ta tc k', u.world.cell? ⟨w.heap.size + 1, 2, none⟩ = some (.slice ta (flen k') tc) := fun u => u.d2
      have hv7 : ∀ u : FC L (L.sz a b) rows w w.heap.size s v sa sc k s' v' ta tc k', u.world.cell? ⟨L.g, 2, none⟩ = some (.slice (some ⟨b2, o2, none⟩) L.n L.sCK) := fun u => by rw [← hqK]; exact u.look.c2
      have hv8 : ∀ u : FC L (L.sz a b) rows w w.heap.size s v sa sc k s' v' ta tc k', u.world.cell? ⟨b2, o2 + a, none⟩ = some (.slice (some ⟨b3, o3, none⟩) (flen k) c3) := fun u => by rw [u.still.low.low.cell hb2]; exact hqc
      have hv9 : ∀ u : FC L (L.sz a b) rows w w.heap.size s v sa sc k s' v' ta tc k', u.world.cell? ⟨b3, o3 + j, none⟩ = some (.int .i64 (q : Int)) := fun u => by rw [u.still.low.low.cell hb3]; exact hqq
      have e1 : (0 : Int) ≤ (j : Int) := by omega
      have e2 : (j : Int) < (flen k : Int) := by omega
      clear hd1 hd3 hk0 hk1 hk2 hsl1 hqc hqq hqS hqf hkid hqK hsaE
      cases hte : teq s1 v1 kk s' v' k' with
      | true =>
        have HG : Hid (L.gt a b = true) := by
          rw [Hid, HGE.out]
          refine pB_true (reach_gt HSS.out (pB_t.1 ?_))
          rw [hre.out, HAT.out]
          exact pB_true (reach_cons.2 (.inl (.inl (HTM.out.1 hte))))
        rw [hte] at HC1
        clear hte hre
        go_wp2_with fail
        refine wp_region_fc u (by kernel_rfl) (by kernel_rfl) ?_
        haveI : Nonempty (FC L (L.sz a b) rows w w.heap.size s v sa sc k s' v' ta tc k') := ⟨u⟩
        repeat (go_big_quiet_step ((first | (go_at_call 71; exact Calls.fc (HC1.out _)) | (go_at_call 50; exact Calls.fcm HZ.out (HC2.out _)))))
        refine wpQuiet_nil ?_
        rintro _ ⟨u2, rfl⟩
        clear hv0 hv1 hv2 hv3 hv4 hv5 hv6 hv7 hv8 hv9
        go_wp2_with fail
        go_ret
        rw [HG.out]
        exact u2.post
      | false =>
        have HNE : Hid (tmOf s1 v1 kk ≠ tmOf s' v' k') := fun e => by rw [HTM.out.2 e] at hte; cases hte
        have hgq : L.gt q b = pB (Gt (rkN L.xs) (tmOf s1 v1 kk) (tmOf s' v' k')) := by rw [← hqt]; have := HTT.out; unfold Look.gt; rw [this]
        rw [hte] at HC1
        clear hte
        cases hg : L.gt q b with
        | true =>
          have HG : Hid (L.gt a b = true) := by
            rw [Hid, HGE.out]
            refine pB_true (reach_gt HSS.out (pB_t.1 ?_))
            rw [hre.out, HAT.out]
            rw [hgq] at hg
            exact pB_true (reach_cons.2 (.inl (.inr (pB_t.1 hg))))
          rw [hg] at HC2
          clear hg hre hgq hqt
          go_wp2_with fail
          refine wp_region_fc u (by kernel_rfl) (by kernel_rfl) ?_
          haveI : Nonempty (FC L (L.sz a b) rows w w.heap.size s v sa sc k s' v' ta tc k') := ⟨u⟩
          repeat (go_big_quiet_step ((first | (go_at_call 71; exact Calls.fc (HC1.out _)) | (go_at_call 50; exact Calls.fcm HZ.out (HC2.out _)))))
          refine wpQuiet_nil ?_
          rintro _ ⟨u2, rfl⟩
          clear hv0 hv1 hv2 hv3 hv4 hv5 hv6 hv7 hv8 hv9
          go_wp2_with fail
          go_ret
          rw [HG.out]
          exact u2.post
        | false =>
          have HRE : Hid (pB (Reach (rkN L.xs) (ftm k) (tmOf s' v' k')) = pB (Reach (rkN L.xs) ((ftm k).drop (j + 1)) (tmOf s' v' k'))) := by
            rw [Hid, hre.out, HAT.out]
            rw [hgq] at hg
            exact pB_congr (reach_cons.trans ⟨fun h => h.resolve_left fun h => h.elim HNE.out (pB_f.1 hg), .inr⟩)
          rw [hg] at HC2
          clear hg hre hgq hqt
          go_wp2_with fail
          refine wp_region_fc u (by kernel_rfl) (by kernel_rfl) ?_
          haveI : Nonempty (FC L (L.sz a b) rows w w.heap.size s v sa sc k s' v' ta tc k') := ⟨u⟩
          repeat (go_big_quiet_step ((first | (go_at_call 71; exact Calls.fc (HC1.out _)) | (go_at_call 50; exact Calls.fcm HZ.out (HC2.out _)))))
          refine wpQuiet_nil ?_
          rintro _ ⟨u2, rfl⟩
          clear hv0 hv1 hv2 hv3 hv4 hv5 hv6 hv7 hv8 hv9
          go_wp2_with fail
          go_roundw
          case rel => exact ⟨j + 1, u2, by go_num, by omega, HRE, rfl⟩
          case measure => simp [intOf]; omega
    · have HNR : Hid (¬ Reach (rkN L.xs) (ftm k) (tmOf s' v' k')) := by
        refine pB_f.1 ?_
        rw [hre.out, List.drop_eq_nil_of_le (by rw [ftm_len]; omega)]
        exact pB_false reach_nil
      clear hre
      have hud0 := u.d0
      have huc0 := u.c0
      have HC4 : Hid (∀ u : FC L (L.sz a b) rows w w.heap.size s v sa sc k s' v' ta tc k', Calls Tryz.prog 73 #[.pointer (some ⟨L.g, 0, none⟩), .int .i64 a, .slice ua (flen k') uc] u.world (LkPost L (L.sz a b) u.rows' (pB (All (rkN L.xs) (tmOf s v k) (ftm k'))) u.world)) := fun u => by
        have := allS_any (C := uc) HH.out ha hM u.look HUK.out (HUI.out.below u.still.low.low) (by rw [HURL.out]; omega) u.still.kn
        rw [HURL.out, HAE.out] at this
        exact this
      have hx4 : ∀ u : FC L (L.sz a b) rows w w.heap.size s v sa sc k s' v' ta tc k', u.world.cell? ⟨L.g, 4, none⟩ = some (.slice (some ⟨ug, uo, none⟩) L.m L.tCK) := fun u => u.look.c4.trans (by rw [huK])
      have hx5 : ∀ u : FC L (L.sz a b) rows w w.heap.size s v sa sc k s' v' ta tc k', u.world.cell? ⟨ug, uo + b, none⟩ = some (.slice ua (flen k') uc) := fun u => by rw [u.still.low.low.cell hug]; exact hucell
      by_cases hs0 : s' = 0
      · have es0 : (s' == 0) = true := by simp [hs0]
        have HF : Hid (L.gt a b = false) := by
          rw [Hid, HGE.out]
          refine pB_false fun hg => HNR.out ?_
          have := (gt_behind (by rw [tm_sign HSS.out, tm_sign HST.out, hs0]; exact HS.out) (.inl (by rw [tm_sign HST.out]; exact hs0))).1 hg
          rwa [tm_kids HSS.out] at this
        clear hs0 hx4 hx5
        go_wp2_with fail
        go_ret
        rw [HF.out]
        exact u.post
      have es0 : (s' == 0) = false := by simp [hs0]
      by_cases hss : s = s'
      case neg =>
        have ess : (s != s') = true := by simp [hss]
        have hsr := shape_sign HSS.out HS.out
        have hsr' := shape_sign HST.out hs0
        have hX := rk_mem HLK.out.rok hsr.1 hsr.2
        have hY := rk_mem HLK.out.rok hsr'.1 hsr'.2
        have HC3 : Hid (∀ (u : FC L (L.sz a b) rows w w.heap.size s v sa sc k s' v' ta tc k') (x : Int), x ∈ L.xs → Calls Tryz.prog 72 #[.slice L.rA L.xs.length L.rC, .int .i64 x] u.world fun e w' => e = .returned (.int .i64 (rkN L.xs x)) ∧ Below u.world.heap.size u.world w') := fun u x hx =>
          (l3Rank_any L.xs L.rA L.rC x u.world (u.look.rk.mono (Nat.le_refl _) u.look.big) (rk_len HLK.out.rok) hx).mono fun e w' ⟨he, hw⟩ => ⟨he, hw ▸ Below.refl _ _⟩
        have hx0 : ∀ u : FC L (L.sz a b) rows w w.heap.size s v sa sc k s' v' ta tc k', u.world.cell? ⟨L.g, 0, none⟩ = some (.slice L.rA L.xs.length L.rC) := fun u => u.look.c0
        have hx1 : ∀ u : FC L (L.sz a b) rows w w.heap.size s v sa sc k s' v' ta tc k', u.world.cell? ⟨w.heap.size, 0, none⟩ = some (.int .i64 s) := fun u => u.c0
        have hx2 : ∀ u : FC L (L.sz a b) rows w w.heap.size s v sa sc k s' v' ta tc k', u.world.cell? ⟨w.heap.size + 1, 0, none⟩ = some (.int .i64 s') := fun u => u.d0
        by_cases hbf : rkN L.xs s < rkN L.xs s'
        · have HG : Hid (L.gt a b = pB (All (rkN L.xs) (tmOf s v k) (ftm k'))) := by
            rw [Hid, HGE.out, ← tm_kids HST.out]
            exact pB_congr (gt_before (by rw [tm_sign HSS.out]; exact HS.out) (by rw [tm_sign HST.out]; exact hs0) (by rw [tm_sign HSS.out, tm_sign HST.out]; exact hss) (by rw [tm_sign HSS.out, tm_sign HST.out]; exact hbf))
          have hbi : (rkN L.xs s : Int) < (rkN L.xs s' : Int) := by omega
          clear hs0 hss
          go_wp2_with fail
          refine wp_region_fc u (by kernel_rfl) (by kernel_rfl) ?_
          haveI : Nonempty (FC L (L.sz a b) rows w w.heap.size s v sa sc k s' v' ta tc k') := ⟨u⟩
          repeat (go_big_quiet_step ((first | (go_at_call 72; exact Calls.fc (HC3.out _ _ (by assumption))) | (go_at_call 73; exact Calls.fcm (Nat.le_refl _) (HC4.out _)))))
          refine wpQuiet_nil ?_
          rintro _ ⟨u2, rfl⟩
          clear hx0 hx1 hx2 hx4 hx5
          go_wp2_with fail
          go_ret
          rw [HG.out]
          exact u2.post
        · have HG : Hid (L.gt a b = false) := by
            rw [Hid, HGE.out]
            refine pB_false fun hg => HNR.out ?_
            have := (gt_behind (by rw [tm_sign HSS.out, tm_sign HST.out]; exact hss) (.inr (by rw [tm_sign HSS.out, tm_sign HST.out]; exact hbf))).1 hg
            rwa [tm_kids HSS.out] at this
          have hbi : (rkN L.xs s' : Int) ≤ (rkN L.xs s : Int) := by omega
          clear hs0 hss
          go_wp2_with fail
          refine wp_region_fc u (by kernel_rfl) (by kernel_rfl) ?_
          haveI : Nonempty (FC L (L.sz a b) rows w w.heap.size s v sa sc k s' v' ta tc k') := ⟨u⟩
          repeat (go_big_quiet_step ((first | (go_at_call 72; exact Calls.fc (HC3.out _ _ (by assumption))) | (go_at_call 73; exact Calls.fcm (Nat.le_refl _) (HC4.out _)))))
          refine wpQuiet_nil ?_
          rintro _ ⟨u2, rfl⟩
          clear hx0 hx1 hx2 hx4 hx5
          go_wp2_with fail
          go_ret
          rw [HG.out]
          exact u2.post
      subst hss
      have ess : (s != s) = false := by simp
      obtain ⟨hlen, hmain⟩ := dif_main (rk := rkN L.xs) HS.out HSS.out HST.out
      have HM := Lib.hid hmain
      have hlen1 : flen k ≤ flen k' := by omega
      have hlen2 : flen k' ≤ flen k := by omega
      clear hlen hmain hs0
      go_wp2_with fail
      clear hud0 huc0
      go_loopw [10] (fun i wr => ∃ (j2 : Nat) (u : FC L (L.sz a b) rows w w.heap.size s v sa sc k s v' ta tc k'), i = .int .i64 j2 ∧ j2 ≤ flen k ∧ Hid (fdif k k' = j2 + fdif (fdrop j2 k) (fdrop j2 k')) ∧ wr = u.world) (fun i _ => flen k - (intOf i).toNat)
      case atStart => exact ⟨0, u, rfl, by omega, by simp [Hid, fdrop], rfl⟩
      case round =>
        obtain ⟨j2, u, rfl, hj2, hfd, rfl⟩ := hrel
        have huc2 := u.c2
        by_cases hlt2 : j2 < flen k
        · obtain ⟨kb, ko, s1, v1, k1, a1, c1, x1, y1, hsaE, hkb, hd1, hk0, hk1, hk2, hsl1⟩ := kid_cells HSL.out hlt2
          obtain ⟨kb2, ko2, s2, v2, k2, a2, c2, x2, y2, htaE, hkb2, hd2, hk3, hk4, hk5, hsl2⟩ := kid_cells HTL.out (show j2 < flen k' by omega)
          have huc2' : u.world.cell? ⟨w.heap.size, 2, none⟩ = some (.slice (some ⟨kb, ko, none⟩) (flen k) sc) := u.c2.trans (by rw [hsaE])
          clear huc2
          have HC1 : Hid (∀ u : FC L (L.sz a b) rows w w.heap.size s v sa sc k s v' ta tc k', Calls Tryz.prog 71 #[.agg #[.int .i64 s1, .int .i64 v1, .slice a1 (flen k1) c1], .agg #[.int .i64 s2, .int .i64 v2, .slice a2 (flen k2) c2]] u.world fun e w' => e = .returned (.bool (teq s1 v1 k1 s2 v2 k2)) ∧ Below u.world.heap.size u.world w') := fun u =>
            l1Same_any (fsz k1) s1 v1 a1 c1 k1 s2 v2 a2 c2 k2 u.world ((hsl1.below u.still.low.low).mono (Nat.le_refl _) u.look.big) ((hsl2.below u.still.low.low).mono (Nat.le_refl _) u.look.big) (Nat.le_refl _) (by have := fsz_kid hd1; omega)
          have hv0 : ∀ u : FC L (L.sz a b) rows w w.heap.size s v sa sc k s v' ta tc k', u.world.cell? ⟨w.heap.size, 2, none⟩ = some (.slice (some ⟨kb, ko, none⟩) (flen k) sc) := fun u => u.c2.trans (by rw [hsaE])
          have hv1 : ∀ u : FC L (L.sz a b) rows w w.heap.size s v sa sc k s v' ta tc k', u.world.cell? ⟨kb, ko + j2 * 3, none⟩ = some (.int .i64 s1) := fun u => by rw [u.still.low.low.cell hkb]; exact hk0
          have hv2 : ∀ u : FC L (L.sz a b) rows w w.heap.size s v sa sc k s v' ta tc k', u.world.cell? ⟨kb, ko + j2 * 3 + 1, none⟩ = some (.int .i64 v1) := fun u => by rw [u.still.low.low.cell hkb]; exact hk1
          have hv3 : ∀ u : FC L (L.sz a b) rows w w.heap.size s v sa sc k s v' ta tc k', u.world.cell? ⟨kb, ko + j2 * 3 + 2, none⟩ = some (.slice a1 (flen k1) c1) := fun u => by rw [u.still.low.low.cell hkb]; exact hk2
          have hv4 : ∀ u : FC L (L.sz a b) rows w w.heap.size s v sa sc k s v' ta tc k', u.world.cell? ⟨w.heap.size + 1, 2, none⟩ = some (.slice (some ⟨kb2, ko2, none⟩) (flen k') tc) := fun u => u.d2.trans (by rw [htaE])
          have hv5 : ∀ u : FC L (L.sz a b) rows w w.heap.size s v sa sc k s v' ta tc k', u.world.cell? ⟨kb2, ko2 + j2 * 3, none⟩ = some (.int .i64 s2) := fun u => by rw [u.still.low.low.cell hkb2]; exact hk3
          have hv6 : ∀ u : FC L (L.sz a b) rows w w.heap.size s v sa sc k s v' ta tc k', u.world.cell? ⟨kb2, ko2 + j2 * 3 + 1, none⟩ = some (.int .i64 v2) := fun u => by rw [u.still.low.low.cell hkb2]; exact hk4
          have hv7 : ∀ u : FC L (L.sz a b) rows w w.heap.size s v sa sc k s v' ta tc k', u.world.cell? ⟨kb2, ko2 + j2 * 3 + 2, none⟩ = some (.slice a2 (flen k2) c2) := fun u => by rw [u.still.low.low.cell hkb2]; exact hk5
          have e1 : (0 : Int) ≤ (j2 : Int) := by omega
          have e2 : (j2 : Int) < (flen k : Int) := by omega
          have e3 : (j2 : Int) < (flen k' : Int) := by omega
          clear hk0 hk1 hk2 hk3 hk4 hk5 hsl1 hsl2
          cases hte : teq s1 v1 k1 s2 v2 k2 with
          | true =>
            have HFD : Hid (fdif k k' = (j2 + 1) + fdif (fdrop (j2 + 1) k) (fdrop (j2 + 1) k')) := by have := hfd.out; rw [fdif_same hd1 hd2 hte] at this; unfold Hid; omega
            rw [hte] at HC1
            clear hte hfd hd1 hd2 hsaE htaE hx4 hx5
            go_wp2_with fail
            refine wp_region_fc u (by kernel_rfl) (by kernel_rfl) ?_
            haveI : Nonempty (FC L (L.sz a b) rows w w.heap.size s v sa sc k s v' ta tc k') := ⟨u⟩
            repeat (go_big_quiet_step ((first | (go_at_call 71; exact Calls.fc (HC1.out _)))))
            refine wpQuiet_nil ?_
            rintro _ ⟨u2, rfl⟩
            clear hv0 hv1 hv2 hv3 hv4 hv5 hv6 hv7
            go_wp2_with fail
            go_roundw
            case rel => exact ⟨j2 + 1, u2, by go_num, by omega, HFD, rfl⟩
            case measure => simp [intOf]; omega
          | false =>
            have hfd0 : fdif k k' = j2 := by have := hfd.out; rw [fdif_unlike hd1 hd2 hte] at this; omega
            obtain ⟨b2, o2, b3, o3, r3, x3, y3, s3, v3, kk3, c3, q, hqK, hb2, hqc, hb3, hqq, hqn, hqS, hd3, hqz, hqf, _⟩ := HKS.out j2 hlt2
            obtain ⟨b4, o4, b5, o5, r5, x5, y5, s5, v5, kk5, c5, q2, hqK2, hb4, hqc2, hb5, hqq2, hqn2, hqS2, hd5, hqz2, hqf2, _⟩ := HKT.out j2 (show j2 < flen k' by omega)
            obtain ⟨rfl, rfl⟩ : ug = b4 ∧ uo = o4 := by rw [huK] at hqK2; simpa using hqK2
            have hce := hucell.symm.trans hqc2
            simp only [Option.some.injEq, Value.slice.injEq] at hce
            obtain ⟨rfl, _, rfl⟩ := hce
            rcases HM.out with ⟨hdn, _⟩ | ⟨_, X, Y, hX, hY, hyes, hnot⟩
            · omega
            rw [hfd0] at hX hY hyes hnot
            obtain rfl : tmS (L.S q) = X := by rw [hqf] at hX; exact Option.some.inj hX
            obtain rfl : tmS (L.T q2) = Y := by rw [hqf2] at hY; exact Option.some.inj hY
            have hszq : L.sz q q2 < L.sz a b := by
              have h1 := HSZa.out
              have h2 := HTZ.out
              unfold Look.sz
              rw [hqS, hqS2, h1, h2]
              show fsz kk3 + fsz kk5 < _
              omega
            have HZ : Hid (L.sz q q2 + 1 ≤ L.sz a b) := hszq
            have HC2 : Hid (∀ u : FC L (L.sz a b) rows w w.heap.size s v sa sc k s v' ta tc k', Calls Tryz.prog 50 #[.pointer (some ⟨L.g, 0, none⟩), .int .i64 q, .int .i64 q2] u.world (LkPost L (L.sz q q2 + 1) u.rows' (L.gt q q2) u.world)) := fun u =>
              HH.out q q2 u.rows' u.world hqn hqn2 (by omega) u.look (u.still.kn.less HZ.out)
            have hy1 : ∀ u : FC L (L.sz a b) rows w w.heap.size s v sa sc k s v' ta tc k', u.world.cell? ⟨L.g, 2, none⟩ = some (.slice (some ⟨b2, o2, none⟩) L.n L.sCK) := fun u => u.look.c2.trans (by rw [hqK])
            have hy2 : ∀ u : FC L (L.sz a b) rows w w.heap.size s v sa sc k s v' ta tc k', u.world.cell? ⟨b2, o2 + a, none⟩ = some (.slice (some ⟨b3, o3, none⟩) (flen k) c3) := fun u => by rw [u.still.low.low.cell hb2]; exact hqc
            have hy3 : ∀ u : FC L (L.sz a b) rows w w.heap.size s v sa sc k s v' ta tc k', u.world.cell? ⟨b3, o3 + j2, none⟩ = some (.int .i64 (q : Int)) := fun u => by rw [u.still.low.low.cell hb3]; exact hqq
            have hy4 : ∀ u : FC L (L.sz a b) rows w w.heap.size s v sa sc k s v' ta tc k', u.world.cell? ⟨b5, o5 + j2, none⟩ = some (.int .i64 (q2 : Int)) := fun u => by rw [u.still.low.low.cell hb5]; exact hqq2
            have HGQ : Hid (L.gt q q2 = pB (Gt (rkN L.xs) (tmS (L.S q)) (tmS (L.T q2)))) := rfl
            rw [hte] at HC1
            clear hte hfd hd1 hd2 hd3 hd5 hqS hqS2 hqf hqf2 hX hY hqq hqq2 hqc hqc2 hsaE htaE hqK hqK2
            cases hg : L.gt q q2 with
            | true =>
              have HG : Hid (L.gt a b = pB (All (rkN L.xs) (tmOf s v k) (ftm k'))) := by
                rw [Hid, HGE.out]
                have h1 := hyes (pB_t.1 (HGQ.out.symm.trans hg))
                exact pB_congr ⟨fun h => all_gt HST.out h, fun h => h1.2 (all_drop h)⟩
              rw [hg] at HC2
              clear hg hyes hnot
              go_wp2_with fail
              refine wp_region_fc u (by kernel_rfl) (by kernel_rfl) ?_
              haveI : Nonempty (FC L (L.sz a b) rows w w.heap.size s v sa sc k s v' ta tc k') := ⟨u⟩
              repeat (go_big_quiet_step ((first | (go_at_call 71; exact Calls.fc (HC1.out _)))))
              refine wpQuiet_nil ?_
              rintro _ ⟨u, rfl⟩
              clear hv0 hv1 hv2 hv3 hv4 hv5 hv6 hv7 huc2'
              go_wp2_with fail
              refine wp_region_fc u (by kernel_rfl) (by kernel_rfl) ?_
              haveI : Nonempty (FC L (L.sz a b) rows w w.heap.size s v sa sc k s v' ta tc k') := ⟨u⟩
              repeat (go_big_quiet_step ((first | (go_at_call 50; exact Calls.fcm HZ.out (HC2.out _)) | (go_at_call 73; exact Calls.fcm (Nat.le_refl _) (HC4.out _)))))
              refine wpQuiet_nil ?_
              rintro _ ⟨u2, rfl⟩
              clear hy1 hy2 hy3 hy4 hx4 hx5
              go_wp2_with fail
              go_ret
              rw [HG.out]
              exact u2.post
            | false =>
              have HG : Hid (L.gt a b = false) := by
                rw [Hid, HGE.out]
                exact pB_false fun hgt => HNR.out (reach_drop ((hnot (pB_f.1 (HGQ.out.symm.trans hg))).1 hgt))
              rw [hg] at HC2
              clear hg hyes hnot
              go_wp2_with fail
              refine wp_region_fc u (by kernel_rfl) (by kernel_rfl) ?_
              haveI : Nonempty (FC L (L.sz a b) rows w w.heap.size s v sa sc k s v' ta tc k') := ⟨u⟩
              repeat (go_big_quiet_step ((first | (go_at_call 71; exact Calls.fc (HC1.out _)))))
              refine wpQuiet_nil ?_
              rintro _ ⟨u, rfl⟩
              clear hv0 hv1 hv2 hv3 hv4 hv5 hv6 hv7 huc2'
              go_wp2_with fail
              refine wp_region_fc u (by kernel_rfl) (by kernel_rfl) ?_
              haveI : Nonempty (FC L (L.sz a b) rows w w.heap.size s v sa sc k s v' ta tc k') := ⟨u⟩
              repeat (go_big_quiet_step ((first | (go_at_call 50; exact Calls.fcm HZ.out (HC2.out _)) | (go_at_call 73; exact Calls.fcm (Nat.le_refl _) (HC4.out _)))))
              refine wpQuiet_nil ?_
              rintro _ ⟨u2, rfl⟩
              clear hy1 hy2 hy3 hy4 hx4 hx5
              go_wp2_with fail
              go_ret
              rw [HG.out]
              exact u2.post
        · have HF : Hid (L.gt a b = false) := by
            rw [Hid, HGE.out]
            refine pB_false ?_
            have hfd1 : fdif k k' = flen k := by have := hfd.out; rw [fdrop_all (k := k) (by omega)] at this; simp only [fdif] at this; omega
            rcases HM.out with ⟨_, h⟩ | ⟨h, _⟩
            · exact h
            · omega
          clear hfd
          go_wp2_with fail
          go_ret
          rw [HF.out]
          exact u.post
end Go.Proofs.YtiinmlagcbjloaaGreat
