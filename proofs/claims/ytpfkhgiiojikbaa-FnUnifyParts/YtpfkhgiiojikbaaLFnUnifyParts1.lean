/- Several texts in one: LawUParts. -/
import Derived.Test.YtpfkhgiiojikbaaKUnify6
import Derived.Test.YtpfkhgiiojikbaaKUnify7
import Derived.Test.YtpfkhgiiojikbaaKUnify10
import Derived.Test.YtpfkhgiiojikbaaKUnify12
import Derived.Test.YtpfkhgiiojikbaaKThen16
import Derived.Test.YtpfkhgiiojikbaaKThen14
import Derived.Test.YtpfkhgiiojikbaaKThen3
import Derived.Test.YtpfkhgiiojikbaaKThen2

/-! LawUParts: laws.FnUnifyParts answers true at every code. -/
namespace Go.Proofs.Ytpfkhgiiojikbaa
open Go.RowKit Go.Deep
attribute [local go_sem ↓] Go.wp_at_zero Go.wp_at_succ

set_option maxRecDepth 100000 in
set_option maxHeartbeats 4000000 in
theorem unifyParts_walk (a0 : Option Addr) (len cap : Nat) (w : World) (hby : Bytes w a0 len) (hlen : len ≤ cap) :
    Calls Try.prog 11 #[.slice a0 len cap] w fun e w' => e = .returned (.bool true) ∧ Below w.heap.size w w' := by
  have HBY := Lib.hid hby
  clear hby
  by_cases hbiglen : 1048576 < len
  · go_enter Try.func11, Try.ntmps11
    go_wp2_with fail
    go_ret
    exact ⟨rfl, Below.refl _ _⟩
  go_enter Try.func11, Try.ntmps11
  go_wp2_with fail
  with_reducible refine (DrawUnifyOf_z a0 len cap _ HBY.out hlen).mono ?_
  rintro e wa ⟨s, v, a, c, k, s2, v2, a2, c2, k2, rfl, ⟨hSk, hZ⟩, ⟨hSk2, hZ2⟩, hb, hl, hl2⟩
  have Hlow := Lib.hid hb
  have HZ := Lib.hid hZ
  have HZ2 := Lib.hid hZ2
  have HL := Lib.hid hl
  have Hm : Hid (Sl wa 0 wa.heap.size a2 k2) := hl2.mono (Nat.zero_le _) (Nat.le_refl _)
  clear hb hl hl2 HBY hZ hZ2
  have hbx : Below wa.heap.size wa (wa.alloc (.cells #[.int .i64 s, .int .i64 v, .slice a (flen k) c] 28)) := box_low _ _
  have Hn : Hid (Tb wa.heap.size s v a c k (wa.alloc (.cells #[.int .i64 s, .int .i64 v, .slice a (flen k) c] 28))) := Tb.new HL.out
  have Hlow' : Hid (Below w.heap.size w (wa.alloc (.cells #[.int .i64 s, .int .i64 v, .slice a (flen k) c] 28))) := below_next Hlow.out hbx
  have Hm' : Hid (Sl (wa.alloc (.cells #[.int .i64 s, .int .i64 v, .slice a (flen k) c] 28)) 0 (wa.alloc (.cells #[.int .i64 s, .int .i64 v, .slice a (flen k) c] 28)).heap.size a2 k2) := Hm.out.next hbx
  clear Hlow Hm
  have Hlow := Hlow'
  clear Hlow'
  have Hm := Hm'
  clear Hm'
  have Hp := Hn
  clear Hn hbx
  clear HL
  have hbx : Below (wa.alloc (.cells #[.int .i64 s, .int .i64 v, .slice a (flen k) c] 28)).heap.size (wa.alloc (.cells #[.int .i64 s, .int .i64 v, .slice a (flen k) c] 28)) ((wa.alloc (.cells #[.int .i64 s, .int .i64 v, .slice a (flen k) c] 28)).alloc (.cells #[.int .i64 s2, .int .i64 v2, .slice a2 (flen k2) c2] 28)) := box_low _ _
  have Hn : Hid (Tb (wa.heap.size + 1) s2 v2 a2 c2 k2 ((wa.alloc (.cells #[.int .i64 s, .int .i64 v, .slice a (flen k) c] 28)).alloc (.cells #[.int .i64 s2, .int .i64 v2, .slice a2 (flen k2) c2] 28))) := (show (wa.alloc (.cells #[.int .i64 s, .int .i64 v, .slice a (flen k) c] 28)).heap.size = (wa.heap.size + 1) from by simp) ▸ Tb.new Hm.out
  have Hlow' : Hid (Below w.heap.size w ((wa.alloc (.cells #[.int .i64 s, .int .i64 v, .slice a (flen k) c] 28)).alloc (.cells #[.int .i64 s2, .int .i64 v2, .slice a2 (flen k2) c2] 28))) := below_next Hlow.out hbx
  have Hm' : Hid (Sl ((wa.alloc (.cells #[.int .i64 s, .int .i64 v, .slice a (flen k) c] 28)).alloc (.cells #[.int .i64 s2, .int .i64 v2, .slice a2 (flen k2) c2] 28)) 0 ((wa.alloc (.cells #[.int .i64 s, .int .i64 v, .slice a (flen k) c] 28)).alloc (.cells #[.int .i64 s2, .int .i64 v2, .slice a2 (flen k2) c2] 28)).heap.size a2 k2) := Hm.out.next hbx
  have Hp' : Hid (Tb wa.heap.size s v a c k ((wa.alloc (.cells #[.int .i64 s, .int .i64 v, .slice a (flen k) c] 28)).alloc (.cells #[.int .i64 s2, .int .i64 v2, .slice a2 (flen k2) c2] 28))) := Hp.out.next hbx
  clear Hlow Hm Hp
  have Hlow := Hlow'
  clear Hlow'
  have Hm := Hm'
  clear Hm'
  have Hp := Hp'
  clear Hp'
  have Ht := Hn
  clear Hn hbx
  clear Hm
  have qp0 := Hp.out.c0
  have qp1 := Hp.out.c1
  have qp2 := Hp.out.c2
  have qt0 := Ht.out.c0
  have qt1 := Ht.out.c1
  have qt2 := Ht.out.c2
  go_wp2_with fail
  with_reducible refine (sUnifyOf_any s v a c k s2 v2 a2 c2 k2 _ Hp.out.sl Ht.out.sl).mono ?_
  rintro e wx1 ⟨Aw, Cw, bw, tw, hdw, rfl, hb, hsw⟩
  have HDw := Lib.hid hdw
  clear hdw
  clear qp0 qp1 qp2 qt0 qt1 qt2
  have Hlow' : Hid (Below w.heap.size w wx1) := below_next Hlow.out hb
  have Hp' : Hid (Tb wa.heap.size s v a c k wx1) := Hp.out.next hb
  have Ht' : Hid (Tb (wa.heap.size + 1) s2 v2 a2 c2 k2 wx1) := Ht.out.next hb
  clear Hlow Hp Ht
  have Hlow := Hlow'
  clear Hlow'
  have Hp := Hp'
  clear Hp'
  have Ht := Ht'
  clear Ht'
  clear hb
  have Hw : Hid (BSl wx1 0 wx1.heap.size Aw bw) := hsw
  clear hsw
  have qp0 := Hp.out.c0
  have qp1 := Hp.out.c1
  have qp2 := Hp.out.c2
  have qt0 := Ht.out.c0
  have qt1 := Ht.out.c1
  have qt2 := Ht.out.c2
  go_wp2_with fail
  with_reducible refine (iUnifyOf_any s v a c k s2 v2 a2 c2 k2 _ Hp.out.sl Ht.out.sl).mono ?_
  rintro e wx2 ⟨Ax, Cx, bx, tx, hdx, rfl, hb, hsx⟩
  rw [HDw.out] at hdx
  simp only [Prod.mk.injEq] at hdx
  obtain ⟨rfl, rfl⟩ := hdx
  clear qp0 qp1 qp2 qt0 qt1 qt2
  have Hlow' : Hid (Below w.heap.size w wx2) := below_next Hlow.out hb
  have Hp' : Hid (Tb wa.heap.size s v a c k wx2) := Hp.out.next hb
  have Ht' : Hid (Tb (wa.heap.size + 1) s2 v2 a2 c2 k2 wx2) := Ht.out.next hb
  have Hw' : Hid (BSl wx2 0 wx2.heap.size Aw bw) := Hw.out.next hb
  clear Hlow Hp Ht Hw
  have Hlow := Hlow'
  clear Hlow'
  have Hp := Hp'
  clear Hp'
  have Ht := Ht'
  clear Ht'
  have Hw := Hw'
  clear Hw'
  clear hb
  have Hx : Hid (BSl wx2 0 wx2.heap.size Ax bw) := hsx
  clear hsx
  have HSM := Lib.hid (un_small HDw.out)
  have eb : (tw != tw) = false := by simp
  have eb2 : (tw == tw) = true := by simp
  go_wp2_with fail
  with_reducible refine (laSubst_same bw Ax Aw Cx Cw _ Hx.out Hw.out (by have := HSM.out.1; omega) HSM.out.2).mono ?_
  rintro e wx3 ⟨rfl, hb⟩
  have Hlow' : Hid (Below w.heap.size w wx3) := below_next Hlow.out hb
  have Hp' : Hid (Tb wa.heap.size s v a c k wx3) := Hp.out.next hb
  have Ht' : Hid (Tb (wa.heap.size + 1) s2 v2 a2 c2 k2 wx3) := Ht.out.next hb
  have Hw' : Hid (BSl wx3 0 wx3.heap.size Aw bw) := Hw.out.next hb
  have Hx' : Hid (BSl wx3 0 wx3.heap.size Ax bw) := Hx.out.next hb
  clear Hlow Hp Ht Hw Hx
  have Hlow := Hlow'
  clear Hlow'
  have Hp := Hp'
  clear Hp'
  have Ht := Ht'
  clear Ht'
  have Hw := Hw'
  clear Hw'
  have Hx := Hx'
  clear Hx'
  clear hb
  cases tw with
  | false =>
    go_wp2_with fail
    with_reducible refine (laSubst_same bw Ax Aw Cx Cw _ Hx.out Hw.out (by have := HSM.out.1; omega) HSM.out.2).mono ?_
    rintro e wx4 ⟨rfl, hb⟩
    have Hlow' : Hid (Below w.heap.size w wx4) := below_next Hlow.out hb
    have Hp' : Hid (Tb wa.heap.size s v a c k wx4) := Hp.out.next hb
    have Ht' : Hid (Tb (wa.heap.size + 1) s2 v2 a2 c2 k2 wx4) := Ht.out.next hb
    have Hw' : Hid (BSl wx4 0 wx4.heap.size Aw bw) := Hw.out.next hb
    have Hx' : Hid (BSl wx4 0 wx4.heap.size Ax bw) := Hx.out.next hb
    clear Hlow Hp Ht Hw Hx
    have Hlow := Hlow'
    clear Hlow'
    have Hp := Hp'
    clear Hp'
    have Ht := Ht'
    clear Ht'
    have Hw := Hw'
    clear Hw'
    have Hx := Hx'
    clear Hx'
    clear hb
    go_wp2_with fail
    go_ret
    exact ⟨rfl, Hlow.out⟩
  | true =>
    clear eb
    have hok := un_ok HDw.out
    have HOK := Lib.hid hok.2.1
    have HOK2 := Lib.hid hok.2.2.1
    clear hok
    by_cases h0 : s = 0
    · subst h0
      have qp0 := Hp.out.c0
      have qp1 := Hp.out.c1
      have qp2 := Hp.out.c2
      go_wp2_with fail
      with_reducible refine (laSubst_same bw Ax Aw Cx Cw _ Hx.out Hw.out (by have := HSM.out.1; omega) HSM.out.2).mono ?_
      rintro e wx4 ⟨rfl, hb⟩
      clear qp0 qp1 qp2
      have Hlow' : Hid (Below w.heap.size w wx4) := below_next Hlow.out hb
      have Hp' : Hid (Tb wa.heap.size 0 v a c k wx4) := Hp.out.next hb
      have Ht' : Hid (Tb (wa.heap.size + 1) s2 v2 a2 c2 k2 wx4) := Ht.out.next hb
      have Hw' : Hid (BSl wx4 0 wx4.heap.size Aw bw) := Hw.out.next hb
      have Hx' : Hid (BSl wx4 0 wx4.heap.size Ax bw) := Hx.out.next hb
      clear Hlow Hp Ht Hw Hx
      have Hlow := Hlow'
      clear Hlow'
      have Hp := Hp'
      clear Hp'
      have Ht := Ht'
      clear Ht'
      have Hw := Hw'
      clear Hw'
      have Hx := Hx'
      clear Hx'
      clear hb
      go_wp2_with fail
      go_ret
      exact ⟨rfl, Hlow.out⟩
    · have HS0 := Lib.hid h0
      have es : (s == 0) = false := by simpa using h0
      clear h0
      by_cases h1 : s2 = 0
      · subst h1
        have qp0 := Hp.out.c0
        have qp1 := Hp.out.c1
        have qp2 := Hp.out.c2
        have qt0 := Ht.out.c0
        have qt1 := Ht.out.c1
        have qt2 := Ht.out.c2
        go_wp2_with fail
        with_reducible refine (laSubst_same bw Ax Aw Cx Cw _ Hx.out Hw.out (by have := HSM.out.1; omega) HSM.out.2).mono ?_
        rintro e wx4 ⟨rfl, hb⟩
        clear qp0 qp1 qp2 qt0 qt1 qt2
        have Hlow' : Hid (Below w.heap.size w wx4) := below_next Hlow.out hb
        have Hp' : Hid (Tb wa.heap.size s v a c k wx4) := Hp.out.next hb
        have Ht' : Hid (Tb (wa.heap.size + 1) 0 v2 a2 c2 k2 wx4) := Ht.out.next hb
        have Hw' : Hid (BSl wx4 0 wx4.heap.size Aw bw) := Hw.out.next hb
        have Hx' : Hid (BSl wx4 0 wx4.heap.size Ax bw) := Hx.out.next hb
        clear Hlow Hp Ht Hw Hx
        have Hlow := Hlow'
        clear Hlow'
        have Hp := Hp'
        clear Hp'
        have Ht := Ht'
        clear Ht'
        have Hw := Hw'
        clear Hw'
        have Hx := Hx'
        clear Hx'
        clear hb
        go_wp2_with fail
        go_ret
        exact ⟨rfl, Hlow.out⟩
      · have es2 : (s2 == 0) = false := by simpa using h1
        obtain ⟨hss, hkids⟩ := un_parts HDw.out HZ.out HZ2.out HS0.out h1
        subst hss
        have HKS := Lib.hid hkids
        clear hkids h1
        have hfl : flen k = flen k2 := by have h1 := ((okN_iff _ _ _).1 ((okW_iff _ _ _ _).1 HOK.out).1).1; have h2 := ((okN_iff _ _ _).1 ((okW_iff _ _ _ _).1 HOK2.out).1).1; omega
        have eq3 : (s == s) = true := by simp
        have hfk := flen_le_sz k
        clear Hw Hx
        have qp0 := Hp.out.c0
        have qp1 := Hp.out.c1
        have qp2 := Hp.out.c2
        have qt0 := Ht.out.c0
        have qt1 := Ht.out.c1
        have qt2 := Ht.out.c2
        go_wp2_with fail
        go_loopw [9] (fun i wr => ∃ j : Nat, i = .int .i64 j ∧ j ≤ flen k ∧ Hid (Below w.heap.size w wr) ∧ Hid (Tb wa.heap.size s v a c k wr) ∧ Hid (Tb (wa.heap.size + 1) s v2 a2 c2 k2 wr)) (fun i _ => flen k - (intOf i).toNat)
        case atStart => exact ⟨0, rfl, Nat.zero_le _, Hlow, Hp, Ht⟩
        case round =>
          clear Hlow Hp Ht
          obtain ⟨j, rfl, hj, Hlow, Hp, Ht⟩ := hrel
          by_cases hlt : j < flen k
          · have g1 : (0 : Int) ≤ (j : Int) := by omega
            have g2 : (j : Int) < (flen k : Int) := by omega
            clear qp0 qp1 qp2 qt0 qt1 qt2
            have g3 : (j : Int) < (flen k2 : Int) := by omega
            have hlt3 : j < flen k2 := by omega
            have hp9 := Hp.out.sl
            have ht9 := Ht.out.sl
            rcases hp9 with hnil | ⟨b1, o1, hae, hr1⟩
            · rw [hnil] at hlt; simp [flen] at hlt
            rcases ht9 with hnil | ⟨b3, o3, hae3, hr3⟩
            · rw [hnil] at hlt3; simp [flen] at hlt3
            subst hae
            subst hae3
            obtain ⟨s4, v4, k4, a4, c4, ⟨x4, y4, hd4⟩, _, hB4, hk40, hk41, hk42, hsl4⟩ := row_at hr1 hlt
            obtain ⟨s5, v5, k5, a5, c5, ⟨x5, y5, hd5⟩, _, hB5, hk50, hk51, hk52, hsl5⟩ := row_at hr3 hlt3
            obtain ⟨us, hus⟩ := HKS.out j _ _ _ _ _ _ _ _ _ _ _ _ hd4 hd5
            have HUS := Lib.hid hus
            have HS4 := Lib.hid hsl4
            have HS5 := Lib.hid hsl5
            clear hus hsl4 hsl5 hd4 hd5 hr1 hr3
            have qp0 := Hp.out.c0
            have qp1 := Hp.out.c1
            have qp2 := Hp.out.c2
            have hu0 : ∀ u : After wr.heap.size wr, u.world.cell? ⟨wa.heap.size, 2, none⟩ = some (.slice (some ⟨b1, o1, none⟩) (flen k) c) := fun u => cell_low u.below Hp.out.c2
            have hu1 : ∀ u : After wr.heap.size wr, u.world.cell? ⟨wa.heap.size + 1, 2, none⟩ = some (.slice (some ⟨b3, o3, none⟩) (flen k2) c2) := fun u => cell_low u.below Ht.out.c2
            have hu2 : ∀ u : After wr.heap.size wr, u.world.cell? ⟨b1, o1 + j * 3, none⟩ = some (.int .i64 s4) := fun u => cell_low u.below hk40
            have hu3 : ∀ u : After wr.heap.size wr, u.world.cell? ⟨b1, o1 + j * 3 + 1, none⟩ = some (.int .i64 v4) := fun u => cell_low u.below hk41
            have hu4 : ∀ u : After wr.heap.size wr, u.world.cell? ⟨b1, o1 + j * 3 + 2, none⟩ = some (.slice a4 (flen k4) c4) := fun u => cell_low u.below hk42
            have hu5 : ∀ u : After wr.heap.size wr, u.world.cell? ⟨b3, o3 + j * 3, none⟩ = some (.int .i64 s5) := fun u => cell_low u.below hk50
            have hu6 : ∀ u : After wr.heap.size wr, u.world.cell? ⟨b3, o3 + j * 3 + 1, none⟩ = some (.int .i64 v5) := fun u => cell_low u.below hk51
            have hu7 : ∀ u : After wr.heap.size wr, u.world.cell? ⟨b3, o3 + j * 3 + 2, none⟩ = some (.slice a5 (flen k5) c5) := fun u => cell_low u.below hk52
            clear hk40 hk41 hk42 hk50 hk51 hk52
            go_wp2_with fail
            refine wp_region_mix (fun w' => ∃ u : After wr.heap.size wr, w' = u.world) [] [(0, 0), (1, 0), (2, 0), (3, 0), (4, 0), (5, 0), (6, 0), (7, 0), (8, 0), (9, 0), (10, 1), (11, 0), (12, 0), (13, 0), (14, 1), (15, 1)] (by kernel_rfl) (by kernel_rfl) ⟨⟨_, (Below.refl _ _).drew⟩, rfl⟩ ?_
            have HBD : Hid (Below wr.heap.size wr wr.drew) := (Below.refl _ _).drew
            generalize wr.drew = wd at *
            clear qp0 qp1 qp2
            iterate 10
              refine mix_see rfl (fun K hK => ?_)
              go_simp
              refine hK _ ?_
              clear hK K
            clear hu0 hu1 hu2 hu3 hu4 hu5 hu6 hu7
            refine mix_hold rfl (fun K hK => ?_)
            go_simp
            with_reducible refine (iUnifyOf_any s4 v4 a4 c4 k4 s5 v5 a5 c5 k5 _ (HS4.out.next HBD.out) (HS5.out.next HBD.out)).mono ?_
            rintro e wu ⟨Au, Cu, bu, tu, hdu, rfl, hb, hsu⟩
            rw [HUS.out] at hdu
            simp only [Prod.mk.injEq] at hdu
            obtain ⟨rfl, rfl⟩ := hdu
            have HBE := Lib.hid (below_next HBD.out hb)
            refine hK _ _ ⟨⟨_, HBE.out⟩, rfl⟩ ?_
            clear hK K hb hsu HBD HS4 HS5
            iterate 3
              refine mix_see rfl (fun K hK => ?_)
              go_simp
              refine hK _ ?_
              clear hK K
            iterate 2
              refine mix_hold rfl (fun K hK => ?_)
              go_simp
              refine hK _ _ ⟨⟨_, HBE.out⟩, rfl⟩ ?_
              clear hK K
            refine mix_end ?_
            have Hlow' : Hid (Below w.heap.size w wu) := below_next Hlow.out HBE.out
            have Hp' : Hid (Tb wa.heap.size s v (some ⟨b1, o1, none⟩) c k wu) := Hp.out.next HBE.out
            have Ht' : Hid (Tb (wa.heap.size + 1) s v2 (some ⟨b3, o3, none⟩) c2 k2 wu) := Ht.out.next HBE.out
            clear Hlow Hp Ht
            have Hlow := Hlow'
            clear Hlow'
            have Hp := Hp'
            clear Hp'
            have Ht := Ht'
            clear Ht'
            clear HBE
            go_wp2_with fail
            go_roundw
            case rel => exact ⟨j + 1, by go_num, by omega, Hlow, Hp, Ht⟩
            case measure => simp [intOf]; omega
          · have hje : j = flen k := by omega
            clear qp0 qp1 qp2 qt0 qt1 qt2
            have qp0 := Hp.out.c0
            have qp1 := Hp.out.c1
            have qp2 := Hp.out.c2
            have qt0 := Ht.out.c0
            have qt1 := Ht.out.c1
            have qt2 := Ht.out.c2
            go_wp2_with fail
            go_ret
            exact ⟨rfl, Hlow.out⟩
end Go.Proofs.Ytpfkhgiiojikbaa
