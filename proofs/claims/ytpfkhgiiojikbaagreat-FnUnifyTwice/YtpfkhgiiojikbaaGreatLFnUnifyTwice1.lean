/- Several texts in one: LawUTwice. -/
import Derived.Test.YtpfkhgiiojikbaaGreatKUn19
import Derived.Test.YtpfkhgiiojikbaaGreatKUn22
import Derived.Test.YtpfkhgiiojikbaaGreatKUn27
import Derived.Test.YtpfkhgiiojikbaaGreatKUn29
import Derived.Test.YtpfkhgiiojikbaaGreatKUn20
import Derived.Test.YtpfkhgiiojikbaaGreatKUn11
import Derived.Test.YtpfkhgiiojikbaaGreatKUn28
import Derived.Test.YtpfkhgiiojikbaaGreatKUn3

/-! LawUTwice: laws.FnUnifyTwice answers true at every code. -/
namespace Go.Proofs.YtpfkhgiiojikbaaGreat
open Go.RowKit Go.Deep
attribute [local go_sem ↓] Go.wp_at_zero Go.wp_at_succ

set_option maxRecDepth 100000 in
set_option maxHeartbeats 4000000 in
theorem unifyTwice_walk (a0 : Option Addr) (len cap : Nat) (w : World) (hby : Bytes w a0 len) (hlen : len ≤ cap) :
    Calls Tryz.prog 3 #[.slice a0 len cap] w fun e w' => e = .returned (.bool true) ∧ Below w.heap.size w w' := by
  have HBY := Lib.hid hby
  clear hby
  by_cases hbiglen : 1048576 < len
  · go_enter Tryz.func3, Tryz.ntmps3
    go_wp2_with fail
    go_ret
    exact ⟨rfl, Below.refl _ _⟩
  go_enter Tryz.func3, Tryz.ntmps3
  go_wp2_with fail
  with_reducible refine (DrawUnifyOf_z a0 len cap _ HBY.out hlen).mono ?_
  rintro e wa ⟨s, v, a, c, k, s2, v2, a2, c2, k2, rfl, ⟨hSk, hZ⟩, ⟨hSk2, hZ2⟩, hb, hl, hl2⟩
  have Hlow := Lib.hid hb
  have HZ := Lib.hid hZ
  have HZ2 := Lib.hid hZ2
  have HL := Lib.hid hl
  have Hm : Hid (Sl wa 0 wa.heap.size a2 k2) := hl2.mono (Nat.zero_le _) (Nat.le_refl _)
  clear hb hl hl2 HBY hZ hZ2
  have hbx : Below wa.heap.size wa (wa.alloc (.cells #[.int .i64 s, .int .i64 v, .slice a (flen k) c] 25)) := box_low _ _
  have Hn : Hid (Tb wa.heap.size s v a c k (wa.alloc (.cells #[.int .i64 s, .int .i64 v, .slice a (flen k) c] 25))) := Tb.new HL.out
  have Hlow' : Hid (Below w.heap.size w (wa.alloc (.cells #[.int .i64 s, .int .i64 v, .slice a (flen k) c] 25))) := below_next Hlow.out hbx
  have Hm' : Hid (Sl (wa.alloc (.cells #[.int .i64 s, .int .i64 v, .slice a (flen k) c] 25)) 0 (wa.alloc (.cells #[.int .i64 s, .int .i64 v, .slice a (flen k) c] 25)).heap.size a2 k2) := Hm.out.next hbx
  clear Hlow Hm
  have Hlow := Hlow'
  clear Hlow'
  have Hm := Hm'
  clear Hm'
  have Hp := Hn
  clear Hn hbx
  clear HL
  have hbx : Below (wa.alloc (.cells #[.int .i64 s, .int .i64 v, .slice a (flen k) c] 25)).heap.size (wa.alloc (.cells #[.int .i64 s, .int .i64 v, .slice a (flen k) c] 25)) ((wa.alloc (.cells #[.int .i64 s, .int .i64 v, .slice a (flen k) c] 25)).alloc (.cells #[.int .i64 s2, .int .i64 v2, .slice a2 (flen k2) c2] 25)) := box_low _ _
  have Hn : Hid (Tb (wa.heap.size + 1) s2 v2 a2 c2 k2 ((wa.alloc (.cells #[.int .i64 s, .int .i64 v, .slice a (flen k) c] 25)).alloc (.cells #[.int .i64 s2, .int .i64 v2, .slice a2 (flen k2) c2] 25))) := (show (wa.alloc (.cells #[.int .i64 s, .int .i64 v, .slice a (flen k) c] 25)).heap.size = (wa.heap.size + 1) from by simp) ▸ Tb.new Hm.out
  have Hlow' : Hid (Below w.heap.size w ((wa.alloc (.cells #[.int .i64 s, .int .i64 v, .slice a (flen k) c] 25)).alloc (.cells #[.int .i64 s2, .int .i64 v2, .slice a2 (flen k2) c2] 25))) := below_next Hlow.out hbx
  have Hm' : Hid (Sl ((wa.alloc (.cells #[.int .i64 s, .int .i64 v, .slice a (flen k) c] 25)).alloc (.cells #[.int .i64 s2, .int .i64 v2, .slice a2 (flen k2) c2] 25)) 0 ((wa.alloc (.cells #[.int .i64 s, .int .i64 v, .slice a (flen k) c] 25)).alloc (.cells #[.int .i64 s2, .int .i64 v2, .slice a2 (flen k2) c2] 25)).heap.size a2 k2) := Hm.out.next hbx
  have Hp' : Hid (Tb wa.heap.size s v a c k ((wa.alloc (.cells #[.int .i64 s, .int .i64 v, .slice a (flen k) c] 25)).alloc (.cells #[.int .i64 s2, .int .i64 v2, .slice a2 (flen k2) c2] 25))) := Hp.out.next hbx
  clear Hlow Hm Hp
  have Hlow := Hlow'
  clear Hlow'
  have Hm := Hm'
  clear Hm'
  have Hp := Hp'
  clear Hp'
  have Ht := Hn
  clear Hn hbx
  clear Hm
  have qp0 := Hp.out.c0
  have qp1 := Hp.out.c1
  have qp2 := Hp.out.c2
  have qt0 := Ht.out.c0
  have qt1 := Ht.out.c1
  have qt2 := Ht.out.c2
  go_wp2_with fail
  with_reducible refine (sUnifyOf_any s v a c k s2 v2 a2 c2 k2 _ Hp.out.sl Ht.out.sl).mono ?_
  rintro e wx1 ⟨Aw, Cw, bw, tw, hdw, rfl, hb, hsw⟩
  have HDw := Lib.hid hdw
  clear hdw
  clear qp0 qp1 qp2 qt0 qt1 qt2
  have Hlow' : Hid (Below w.heap.size w wx1) := below_next Hlow.out hb
  have Hp' : Hid (Tb wa.heap.size s v a c k wx1) := Hp.out.next hb
  have Ht' : Hid (Tb (wa.heap.size + 1) s2 v2 a2 c2 k2 wx1) := Ht.out.next hb
  clear Hlow Hp Ht
  have Hlow := Hlow'
  clear Hlow'
  have Hp := Hp'
  clear Hp'
  have Ht := Ht'
  clear Ht'
  clear hb
  have Hw : Hid (BSl wx1 0 wx1.heap.size Aw bw) := hsw
  clear hsw
  have qp0 := Hp.out.c0
  have qp1 := Hp.out.c1
  have qp2 := Hp.out.c2
  have qt0 := Ht.out.c0
  have qt1 := Ht.out.c1
  have qt2 := Ht.out.c2
  go_wp2_with fail
  with_reducible refine (iUnifyOf_any s v a c k s2 v2 a2 c2 k2 _ Hp.out.sl Ht.out.sl).mono ?_
  rintro e wx2 ⟨Ax, Cx, bx, tx, hdx, rfl, hb, hsx⟩
  rw [HDw.out] at hdx
  simp only [Prod.mk.injEq] at hdx
  obtain ⟨rfl, rfl⟩ := hdx
  clear qp0 qp1 qp2 qt0 qt1 qt2
  have Hlow' : Hid (Below w.heap.size w wx2) := below_next Hlow.out hb
  have Hp' : Hid (Tb wa.heap.size s v a c k wx2) := Hp.out.next hb
  have Ht' : Hid (Tb (wa.heap.size + 1) s2 v2 a2 c2 k2 wx2) := Ht.out.next hb
  have Hw' : Hid (BSl wx2 0 wx2.heap.size Aw bw) := Hw.out.next hb
  clear Hlow Hp Ht Hw
  have Hlow := Hlow'
  clear Hlow'
  have Hp := Hp'
  clear Hp'
  have Ht := Ht'
  clear Ht'
  have Hw := Hw'
  clear Hw'
  clear hb
  have Hx : Hid (BSl wx2 0 wx2.heap.size Ax bw) := hsx
  clear hsx
  have HSM := Lib.hid (un_small HDw.out)
  have eb : (tw != tw) = false := by simp
  have eb2 : (tw == tw) = true := by simp
  go_wp2_with fail
  with_reducible refine (laSubst_same bw Ax Aw Cx Cw _ Hx.out Hw.out (by have := HSM.out.1; omega) HSM.out.2).mono ?_
  rintro e wx3 ⟨rfl, hb⟩
  have Hlow' : Hid (Below w.heap.size w wx3) := below_next Hlow.out hb
  have Hp' : Hid (Tb wa.heap.size s v a c k wx3) := Hp.out.next hb
  have Ht' : Hid (Tb (wa.heap.size + 1) s2 v2 a2 c2 k2 wx3) := Ht.out.next hb
  have Hw' : Hid (BSl wx3 0 wx3.heap.size Aw bw) := Hw.out.next hb
  have Hx' : Hid (BSl wx3 0 wx3.heap.size Ax bw) := Hx.out.next hb
  clear Hlow Hp Ht Hw Hx
  have Hlow := Hlow'
  clear Hlow'
  have Hp := Hp'
  clear Hp'
  have Ht := Ht'
  clear Ht'
  have Hw := Hw'
  clear Hw'
  have Hx := Hx'
  clear Hx'
  clear hb
  cases tw with
  | false =>
    go_wp2_with fail
    with_reducible refine (laSubst_same bw Ax Aw Cx Cw _ Hx.out Hw.out (by have := HSM.out.1; omega) HSM.out.2).mono ?_
    rintro e wx4 ⟨rfl, hb⟩
    have Hlow' : Hid (Below w.heap.size w wx4) := below_next Hlow.out hb
    have Hp' : Hid (Tb wa.heap.size s v a c k wx4) := Hp.out.next hb
    have Ht' : Hid (Tb (wa.heap.size + 1) s2 v2 a2 c2 k2 wx4) := Ht.out.next hb
    have Hw' : Hid (BSl wx4 0 wx4.heap.size Aw bw) := Hw.out.next hb
    have Hx' : Hid (BSl wx4 0 wx4.heap.size Ax bw) := Hx.out.next hb
    clear Hlow Hp Ht Hw Hx
    have Hlow := Hlow'
    clear Hlow'
    have Hp := Hp'
    clear Hp'
    have Ht := Ht'
    clear Ht'
    have Hw := Hw'
    clear Hw'
    have Hx := Hx'
    clear Hx'
    clear hb
    go_wp2_with fail
    go_ret
    exact ⟨rfl, Hlow.out⟩
  | true =>
    clear eb eb2
    have hok := un_ok HDw.out
    have HSO := Lib.hid hok.1
    have HOK := Lib.hid hok.2.1
    have HOK2 := Lib.hid hok.2.2.1
    have hk16 := ((okW_iff _ _ _ _).1 HOK.out).2.2
    have hk216 := ((okW_iff _ _ _ _).1 HOK2.out).2.2
    clear hok Hw
    obtain ⟨htw, hnot⟩ := un_twice HDw.out
    obtain ⟨sx, vx, kx, h1, h2⟩ := un_both HDw.out HZ.out HZ2.out
    have HTH := Lib.hid htw
    have HS1 := Lib.hid h1
    rw [(ap_sdR h1).1] at hnot
    have hok5 := (ap_sdR h1).2.2.2
    have HNO : Hid (∀ x ∈ bw, x.1 ∉ tvR sx vx kx) := fun x hx hh => hnot x hx ((tvR_mem hok5 _).1 hh)
    have hsm1 := HSM.out.1
    clear htw hnot h1 h2 hok5
    go_wp2_with fail
    with_reducible refine (iSubstThen_any bw bw Ax Ax Cx Cx _ Hx.out Hx.out (by omega) (by omega)).mono ?_
    rintro e wx4 ⟨Ah, Ch, bh, th, hdh, rfl, hb, hsh⟩
    rw [HTH.out] at hdh
    simp only [Prod.mk.injEq] at hdh
    obtain ⟨rfl, rfl⟩ := hdh
    have Hlow' : Hid (Below w.heap.size w wx4) := below_next Hlow.out hb
    have Hp' : Hid (Tb wa.heap.size s v a c k wx4) := Hp.out.next hb
    have Ht' : Hid (Tb (wa.heap.size + 1) s2 v2 a2 c2 k2 wx4) := Ht.out.next hb
    have Hx' : Hid (BSl wx4 0 wx4.heap.size Ax bw) := Hx.out.next hb
    clear Hlow Hp Ht Hx
    have Hlow := Hlow'
    clear Hlow'
    have Hp := Hp'
    clear Hp'
    have Ht := Ht'
    clear Ht'
    have Hx := Hx'
    clear Hx'
    clear hb
    have Hh : Hid (BSl wx4 0 wx4.heap.size Ah bw) := hsh
    clear hsh
    have qp0 := Hp.out.c0
    have qp1 := Hp.out.c1
    have qp2 := Hp.out.c2
    go_wp2_with fail
    with_reducible refine (iSubstDo_any bw Ax Cx s v a c k _ Hx.out (by have := HSM.out.1; omega) Hp.out.sl).mono ?_
    rintro e wx5 ⟨ay, cy, sy, vy, ky, ty, hdy, rfl, hb, hly⟩
    rw [HS1.out] at hdy
    simp only [Prod.mk.injEq] at hdy
    obtain ⟨rfl, rfl, rfl, rfl⟩ := hdy
    clear qp0 qp1 qp2
    have Hlow' : Hid (Below w.heap.size w wx5) := below_next Hlow.out hb
    have Hp' : Hid (Tb wa.heap.size s v a c k wx5) := Hp.out.next hb
    have Ht' : Hid (Tb (wa.heap.size + 1) s2 v2 a2 c2 k2 wx5) := Ht.out.next hb
    have Hx' : Hid (BSl wx5 0 wx5.heap.size Ax bw) := Hx.out.next hb
    have Hh' : Hid (BSl wx5 0 wx5.heap.size Ah bw) := Hh.out.next hb
    clear Hlow Hp Ht Hx Hh
    have Hlow := Hlow'
    clear Hlow'
    have Hp := Hp'
    clear Hp'
    have Ht := Ht'
    clear Ht'
    have Hx := Hx'
    clear Hx'
    have Hh := Hh'
    clear Hh'
    clear hb
    have Hly := Lib.hid hly
    clear hly
    have hbx : Below wx5.heap.size wx5 (wx5.alloc (.cells #[.int .i64 sx, .int .i64 vx, .slice ay (flen kx) cy] 25)) := box_low _ _
    have Hn : Hid (Tb wx5.heap.size sx vx ay cy kx (wx5.alloc (.cells #[.int .i64 sx, .int .i64 vx, .slice ay (flen kx) cy] 25))) := Tb.new Hly.out
    have Hlow' : Hid (Below w.heap.size w (wx5.alloc (.cells #[.int .i64 sx, .int .i64 vx, .slice ay (flen kx) cy] 25))) := below_next Hlow.out hbx
    have Hp' : Hid (Tb wa.heap.size s v a c k (wx5.alloc (.cells #[.int .i64 sx, .int .i64 vx, .slice ay (flen kx) cy] 25))) := Hp.out.next hbx
    have Ht' : Hid (Tb (wa.heap.size + 1) s2 v2 a2 c2 k2 (wx5.alloc (.cells #[.int .i64 sx, .int .i64 vx, .slice ay (flen kx) cy] 25))) := Ht.out.next hbx
    have Hx' : Hid (BSl (wx5.alloc (.cells #[.int .i64 sx, .int .i64 vx, .slice ay (flen kx) cy] 25)) 0 (wx5.alloc (.cells #[.int .i64 sx, .int .i64 vx, .slice ay (flen kx) cy] 25)).heap.size Ax bw) := Hx.out.next hbx
    have Hh' : Hid (BSl (wx5.alloc (.cells #[.int .i64 sx, .int .i64 vx, .slice ay (flen kx) cy] 25)) 0 (wx5.alloc (.cells #[.int .i64 sx, .int .i64 vx, .slice ay (flen kx) cy] 25)).heap.size Ah bw) := Hh.out.next hbx
    clear Hlow Hp Ht Hx Hh
    have Hlow := Hlow'
    clear Hlow'
    have Hp := Hp'
    clear Hp'
    have Ht := Ht'
    clear Ht'
    have Hx := Hx'
    clear Hx'
    have Hh := Hh'
    clear Hh'
    have Hy := Hn
    clear Hn hbx
    clear Hly
    go_wp2_with fail
    go_loopw [13] (fun i wr => ∃ j : Nat, i = .int .i64 j ∧ j ≤ bw.length ∧ Hid (Below w.heap.size w wr) ∧ Hid (Tb wa.heap.size s v a c k wr) ∧ Hid (Tb (wa.heap.size + 1) s2 v2 a2 c2 k2 wr) ∧ Hid (BSl wr 0 wr.heap.size Ax bw) ∧ Hid (BSl wr 0 wr.heap.size Ah bw) ∧ Hid (Tb wx5.heap.size sx vx ay cy kx wr)) (fun i _ => bw.length - (intOf i).toNat)
    case atStart => exact ⟨0, rfl, Nat.zero_le _, Hlow, Hp, Ht, Hx, Hh, Hy⟩
    case round =>
      clear Hlow Hp Ht Hx Hh Hy
      obtain ⟨j, rfl, hj, Hlow, Hp, Ht, Hx, Hh, Hy⟩ := hrel
      by_cases hlt : j < bw.length
      · have g1 : (0 : Int) ≤ (j : Int) := by omega
        have g2 : (j : Int) < (bw.length : Int) := by omega
        obtain ⟨rb, ro, x, s9, v9, k9, a9, c9, hA, hy, d0, d1, d2, d3, hsl⟩ := bsl_at Hx.out hlt
        subst hA
        have HIN : Hid (x ∉ tvR sx vx kx) := HNO.out _ (List.mem_of_getElem? hy)
        clear hy hsl d1 d2 d3
        have hu0 : ∀ u : After wr.heap.size wr, u.world.cell? ⟨wx5.heap.size, 0, none⟩ = some (.int .i64 sx) := fun u => cell_low u.below Hy.out.c0
        have hu1 : ∀ u : After wr.heap.size wr, u.world.cell? ⟨wx5.heap.size, 1, none⟩ = some (.int .i64 vx) := fun u => cell_low u.below Hy.out.c1
        have hu2 : ∀ u : After wr.heap.size wr, u.world.cell? ⟨wx5.heap.size, 2, none⟩ = some (.slice ay (flen kx) cy) := fun u => cell_low u.below Hy.out.c2
        have hu3 : ∀ u : After wr.heap.size wr, u.world.cell? ⟨rb, ro + j * 4, none⟩ = some (.int .i64 x) := fun u => cell_low u.below d0
        clear d0
        go_wp2_with fail
        refine wp_region_mix (fun w' => ∃ u : After wr.heap.size wr, w' = u.world) [] [(0, 0), (2, 0), (3, 0), (4, 0), (5, 0), (6, 0), (1, 1), (7, 1)] (by kernel_rfl) (by kernel_rfl) ⟨⟨_, (Below.refl _ _).drew⟩, rfl⟩ ?_
        iterate 6
          refine mix_see rfl (fun K hK => ?_)
          go_simp
          refine hK _ ?_
          clear hK K
        clear hu0 hu1 hu2 hu3
        refine mix_hold rfl (fun K hK => ?_)
        go_simp
        with_reducible refine (iTermVars_any sx vx ay cy kx _ (Hy.out.next (Below.refl _ _).drew).sl).mono ?_
        rintro e wp ⟨Az, Cz, zs, hzs, rfl, hbp', hoz⟩
        have hbp : Below wr.heap.size wr wp := bl_undrew hbp'
        have HZS := Lib.hid (hoz.sl.mono (lo' := 0) (Nat.zero_le _) (Nat.le_refl _))
        have hzl : zs.length ≤ 12 := by rw [hzs]; exact tvR_len _ _ _
        have HZV := Lib.hid hzs
        have hsp := hbp.size
        refine hK _ _ ⟨⟨_, hbp⟩, rfl⟩ ?_
        clear hK K hbp' hoz hzs
        have HIN2 : Hid (decide (x ∈ zs) = false) := decide_eq_false (by rw [HZV.out]; exact HIN.out)
        refine mix_hold rfl (fun K hK => ?_)
        go_simp
        with_reducible refine (laIn_any zs Az Cz x _ HZS.out (by omega)).mono ?_
        rw [HIN2.out]
        rintro e wq ⟨rfl, hbq⟩
        have hbr := hbp.trans (hbq.mono hsp)
        refine hK _ _ ⟨⟨_, hbr⟩, rfl⟩ ?_
        clear hK K hbq HZS
        refine mix_end ?_
        have Hlow' : Hid (Below w.heap.size w wq) := below_next Hlow.out hbr
        have Hp' : Hid (Tb wa.heap.size s v a c k wq) := Hp.out.next hbr
        have Ht' : Hid (Tb (wa.heap.size + 1) s2 v2 a2 c2 k2 wq) := Ht.out.next hbr
        have Hx' : Hid (BSl wq 0 wq.heap.size (some ⟨rb, ro, none⟩) bw) := Hx.out.next hbr
        have Hh' : Hid (BSl wq 0 wq.heap.size Ah bw) := Hh.out.next hbr
        have Hy' : Hid (Tb wx5.heap.size sx vx ay cy kx wq) := Hy.out.next hbr
        clear Hlow Hp Ht Hx Hh Hy
        have Hlow := Hlow'
        clear Hlow'
        have Hp := Hp'
        clear Hp'
        have Ht := Ht'
        clear Ht'
        have Hx := Hx'
        clear Hx'
        have Hh := Hh'
        clear Hh'
        have Hy := Hy'
        clear Hy'
        clear hbp hbr hsp
        go_wp2_with fail
        go_roundw
        case rel => exact ⟨j + 1, by go_num, by omega, Hlow, Hp, Ht, Hx, Hh, Hy⟩
        case measure => simp [intOf]; omega
      · have hje : j = bw.length := by omega
        go_wp2_with fail
        with_reducible refine (laSubst_same bw Ah Ax Ch Cx _ Hh.out Hx.out (by have := HSM.out.1; omega) HSM.out.2).mono ?_
        rintro e wx6 ⟨rfl, hb⟩
        have Hlow' : Hid (Below w.heap.size w wx6) := below_next Hlow.out hb
        have Hp' : Hid (Tb wa.heap.size s v a c k wx6) := Hp.out.next hb
        have Ht' : Hid (Tb (wa.heap.size + 1) s2 v2 a2 c2 k2 wx6) := Ht.out.next hb
        have Hx' : Hid (BSl wx6 0 wx6.heap.size Ax bw) := Hx.out.next hb
        have Hh' : Hid (BSl wx6 0 wx6.heap.size Ah bw) := Hh.out.next hb
        have Hy' : Hid (Tb wx5.heap.size sx vx ay cy kx wx6) := Hy.out.next hb
        clear Hlow Hp Ht Hx Hh Hy
        have Hlow := Hlow'
        clear Hlow'
        have Hp := Hp'
        clear Hp'
        have Ht := Ht'
        clear Ht'
        have Hx := Hx'
        clear Hx'
        have Hh := Hh'
        clear Hh'
        have Hy := Hy'
        clear Hy'
        clear hb
        go_wp2_with fail
        go_ret
        exact ⟨rfl, Hlow.out⟩
end Go.Proofs.YtpfkhgiiojikbaaGreat
