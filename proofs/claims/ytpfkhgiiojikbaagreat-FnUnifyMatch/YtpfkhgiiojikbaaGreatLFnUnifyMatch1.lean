/- Several texts in one: LawUMatch. -/
import Derived.Test.YtpfkhgiiojikbaaGreatKUn30
import Derived.Test.YtpfkhgiiojikbaaGreatKUn28
import Derived.Test.YtpfkhgiiojikbaaGreatKUn29
import Derived.Test.YtpfkhgiiojikbaaGreatKUn20
import Derived.Test.YtpfkhgiiojikbaaGreatKUn2
import Derived.Test.YtpfkhgiiojikbaaGreatKUn19
import Derived.Test.YtpfkhgiiojikbaaGreatKUn3

/-! LawUMatch: laws.FnUnifyMatch answers true at every code. -/
namespace Go.Proofs.YtpfkhgiiojikbaaGreat
open Go.RowKit Go.Deep
attribute [local go_sem ↓] Go.wp_at_zero Go.wp_at_succ

set_option maxRecDepth 100000 in
set_option maxHeartbeats 4000000 in
theorem unifyMatch_walk (a0 : Option Addr) (len cap : Nat) (w : World) (hby : Bytes w a0 len) (hlen : len ≤ cap) :
    Calls Tryz.prog 4 #[.slice a0 len cap] w fun e w' => e = .returned (.bool true) ∧ Below w.heap.size w w' := by
  have HBY := Lib.hid hby
  clear hby
  by_cases hbiglen : 1048576 < len
  · go_enter Tryz.func4, Tryz.ntmps4
    go_wp2_with fail
    go_ret
    exact ⟨rfl, Below.refl _ _⟩
  go_enter Tryz.func4, Tryz.ntmps4
  go_wp2_with fail
  with_reducible refine (DrawMatchOf_z a0 len cap _ HBY.out hlen).mono ?_
  rintro e wa ⟨s, v, a, c, k, s2, v2, a2, c2, k2, rfl, ⟨hSk, hZ⟩, ⟨hSk2, hZ2⟩, hb, hl, hl2⟩
  have Hlow := Lib.hid hb
  have HZ := Lib.hid hZ
  have HZ2 := Lib.hid hZ2
  have HL := Lib.hid hl
  have Hm : Hid (Sl wa 0 wa.heap.size a2 k2) := hl2.mono (Nat.zero_le _) (Nat.le_refl _)
  clear hb hl hl2 HBY hZ hZ2
  have hbx : Below wa.heap.size wa (wa.alloc (.cells #[.int .i64 s, .int .i64 v, .slice a (flen k) c] 25)) := box_low _ _
  have Hn : Hid (Tb wa.heap.size s v a c k (wa.alloc (.cells #[.int .i64 s, .int .i64 v, .slice a (flen k) c] 25))) := Tb.new HL.out
  have Hlow' : Hid (Below w.heap.size w (wa.alloc (.cells #[.int .i64 s, .int .i64 v, .slice a (flen k) c] 25))) := below_next Hlow.out hbx
  have Hm' : Hid (Sl (wa.alloc (.cells #[.int .i64 s, .int .i64 v, .slice a (flen k) c] 25)) 0 (wa.alloc (.cells #[.int .i64 s, .int .i64 v, .slice a (flen k) c] 25)).heap.size a2 k2) := Hm.out.next hbx
  clear Hlow Hm
  have Hlow := Hlow'
  clear Hlow'
  have Hm := Hm'
  clear Hm'
  have Hp := Hn
  clear Hn hbx
  clear HL
  have hbx : Below (wa.alloc (.cells #[.int .i64 s, .int .i64 v, .slice a (flen k) c] 25)).heap.size (wa.alloc (.cells #[.int .i64 s, .int .i64 v, .slice a (flen k) c] 25)) ((wa.alloc (.cells #[.int .i64 s, .int .i64 v, .slice a (flen k) c] 25)).alloc (.cells #[.int .i64 s2, .int .i64 v2, .slice a2 (flen k2) c2] 25)) := box_low _ _
  have Hn : Hid (Tb (wa.heap.size + 1) s2 v2 a2 c2 k2 ((wa.alloc (.cells #[.int .i64 s, .int .i64 v, .slice a (flen k) c] 25)).alloc (.cells #[.int .i64 s2, .int .i64 v2, .slice a2 (flen k2) c2] 25))) := (show (wa.alloc (.cells #[.int .i64 s, .int .i64 v, .slice a (flen k) c] 25)).heap.size = (wa.heap.size + 1) from by simp) ▸ Tb.new Hm.out
  have Hlow' : Hid (Below w.heap.size w ((wa.alloc (.cells #[.int .i64 s, .int .i64 v, .slice a (flen k) c] 25)).alloc (.cells #[.int .i64 s2, .int .i64 v2, .slice a2 (flen k2) c2] 25))) := below_next Hlow.out hbx
  have Hm' : Hid (Sl ((wa.alloc (.cells #[.int .i64 s, .int .i64 v, .slice a (flen k) c] 25)).alloc (.cells #[.int .i64 s2, .int .i64 v2, .slice a2 (flen k2) c2] 25)) 0 ((wa.alloc (.cells #[.int .i64 s, .int .i64 v, .slice a (flen k) c] 25)).alloc (.cells #[.int .i64 s2, .int .i64 v2, .slice a2 (flen k2) c2] 25)).heap.size a2 k2) := Hm.out.next hbx
  have Hp' : Hid (Tb wa.heap.size s v a c k ((wa.alloc (.cells #[.int .i64 s, .int .i64 v, .slice a (flen k) c] 25)).alloc (.cells #[.int .i64 s2, .int .i64 v2, .slice a2 (flen k2) c2] 25))) := Hp.out.next hbx
  clear Hlow Hm Hp
  have Hlow := Hlow'
  clear Hlow'
  have Hm := Hm'
  clear Hm'
  have Hp := Hp'
  clear Hp'
  have Ht := Hn
  clear Hn hbx
  clear Hm
  have qp0 := Hp.out.c0
  have qp1 := Hp.out.c1
  have qp2 := Hp.out.c2
  have qt0 := Ht.out.c0
  have qt1 := Ht.out.c1
  have qt2 := Ht.out.c2
  go_wp2_with fail
  with_reducible refine (sMatchOf_any s v a c k s2 v2 a2 c2 k2 _ Hp.out.sl Ht.out.sl).mono ?_
  rintro e wx1 ⟨Aw, Cw, bw, tw, hdw, rfl, hb, hsw⟩
  have HDw := Lib.hid hdw
  clear hdw
  clear qp0 qp1 qp2 qt0 qt1 qt2
  have Hlow' : Hid (Below w.heap.size w wx1) := below_next Hlow.out hb
  have Hp' : Hid (Tb wa.heap.size s v a c k wx1) := Hp.out.next hb
  have Ht' : Hid (Tb (wa.heap.size + 1) s2 v2 a2 c2 k2 wx1) := Ht.out.next hb
  clear Hlow Hp Ht
  have Hlow := Hlow'
  clear Hlow'
  have Hp := Hp'
  clear Hp'
  have Ht := Ht'
  clear Ht'
  clear hb
  have Hw : Hid (BSl wx1 0 wx1.heap.size Aw bw) := hsw
  clear hsw
  have qp0 := Hp.out.c0
  have qp1 := Hp.out.c1
  have qp2 := Hp.out.c2
  have qt0 := Ht.out.c0
  have qt1 := Ht.out.c1
  have qt2 := Ht.out.c2
  go_wp2_with fail
  with_reducible refine (iMatchOf_any s v a c k s2 v2 a2 c2 k2 _ Hp.out.sl Ht.out.sl).mono ?_
  rintro e wx2 ⟨Ax, Cx, bx, tx, hdx, rfl, hb, hsx⟩
  rw [HDw.out] at hdx
  simp only [Prod.mk.injEq] at hdx
  obtain ⟨rfl, rfl⟩ := hdx
  clear qp0 qp1 qp2 qt0 qt1 qt2
  have Hlow' : Hid (Below w.heap.size w wx2) := below_next Hlow.out hb
  have Hp' : Hid (Tb wa.heap.size s v a c k wx2) := Hp.out.next hb
  have Ht' : Hid (Tb (wa.heap.size + 1) s2 v2 a2 c2 k2 wx2) := Ht.out.next hb
  have Hw' : Hid (BSl wx2 0 wx2.heap.size Aw bw) := Hw.out.next hb
  clear Hlow Hp Ht Hw
  have Hlow := Hlow'
  clear Hlow'
  have Hp := Hp'
  clear Hp'
  have Ht := Ht'
  clear Ht'
  have Hw := Hw'
  clear Hw'
  clear hb
  have Hx : Hid (BSl wx2 0 wx2.heap.size Ax bw) := hsx
  clear hsx
  have HSM := Lib.hid (ma_small HDw.out)
  have eb : (tw != tw) = false := by simp
  have eb2 : (tw == tw) = true := by simp
  go_wp2_with fail
  with_reducible refine (laSubst_same bw Ax Aw Cx Cw _ Hx.out Hw.out (by have := HSM.out.1; omega) HSM.out.2).mono ?_
  rintro e wx3 ⟨rfl, hb⟩
  have Hlow' : Hid (Below w.heap.size w wx3) := below_next Hlow.out hb
  have Hp' : Hid (Tb wa.heap.size s v a c k wx3) := Hp.out.next hb
  have Ht' : Hid (Tb (wa.heap.size + 1) s2 v2 a2 c2 k2 wx3) := Ht.out.next hb
  have Hw' : Hid (BSl wx3 0 wx3.heap.size Aw bw) := Hw.out.next hb
  have Hx' : Hid (BSl wx3 0 wx3.heap.size Ax bw) := Hx.out.next hb
  clear Hlow Hp Ht Hw Hx
  have Hlow := Hlow'
  clear Hlow'
  have Hp := Hp'
  clear Hp'
  have Ht := Ht'
  clear Ht'
  have Hw := Hw'
  clear Hw'
  have Hx := Hx'
  clear Hx'
  clear hb
  cases tw with
  | false =>
    go_wp2_with fail
    with_reducible refine (laSubst_same bw Ax Aw Cx Cw _ Hx.out Hw.out (by have := HSM.out.1; omega) HSM.out.2).mono ?_
    rintro e wx4 ⟨rfl, hb⟩
    have Hlow' : Hid (Below w.heap.size w wx4) := below_next Hlow.out hb
    have Hp' : Hid (Tb wa.heap.size s v a c k wx4) := Hp.out.next hb
    have Ht' : Hid (Tb (wa.heap.size + 1) s2 v2 a2 c2 k2 wx4) := Ht.out.next hb
    have Hw' : Hid (BSl wx4 0 wx4.heap.size Aw bw) := Hw.out.next hb
    have Hx' : Hid (BSl wx4 0 wx4.heap.size Ax bw) := Hx.out.next hb
    clear Hlow Hp Ht Hw Hx
    have Hlow := Hlow'
    clear Hlow'
    have Hp := Hp'
    clear Hp'
    have Ht := Ht'
    clear Ht'
    have Hw := Hw'
    clear Hw'
    have Hx := Hx'
    clear Hx'
    clear hb
    go_wp2_with fail
    go_ret
    exact ⟨rfl, Hlow.out⟩
  | true =>
    clear eb eb2
    have HOK : Hid (okW s v k 16 = true) := by rcases maR_cases HDw.out with ⟨h, _⟩ | ⟨_, h, _, _⟩; cases h; exact h
    have HOK2 : Hid (okW s2 v2 k2 16 = true) := by rcases maR_cases HDw.out with ⟨h, _⟩ | ⟨_, _, h, _⟩; cases h; exact h
    have hk16 := ((okW_iff _ _ _ _).1 HOK.out).2.2
    have hk216 := ((okW_iff _ _ _ _).1 HOK2.out).2.2
    clear Hw
    clear Hx
    have qp0 := Hp.out.c0
    have qp1 := Hp.out.c1
    have qp2 := Hp.out.c2
    go_wp2_with fail
    with_reducible refine (iTermVars_any s v a c k _ Hp.out.sl).mono ?_
    rintro e wx4 ⟨AI, CI, xI, hxI, rfl, hb, hio⟩
    clear qp0 qp1 qp2
    have Hlow' : Hid (Below w.heap.size w wx4) := below_next Hlow.out hb
    have Hp' : Hid (Tb wa.heap.size s v a c k wx4) := Hp.out.next hb
    have Ht' : Hid (Tb (wa.heap.size + 1) s2 v2 a2 c2 k2 wx4) := Ht.out.next hb
    clear Hlow Hp Ht
    have Hlow := Hlow'
    clear Hlow'
    have Hp := Hp'
    clear Hp'
    have Ht := Ht'
    clear Ht'
    have HXI := Lib.hid hxI
    have hvlI := tvR_len s v k
    rw [← hxI] at hvlI
    clear hxI
    have HI : Hid (ISl wx4 0 wx4.heap.size AI xI) := hio.sl.mono (Nat.zero_le _) (Nat.le_refl _)
    clear hb hio
    have HN : Hid (∀ i : Nat, i < 0 → ∀ x, xI[i]? = some x → x ∉ tvR s2 v2 k2) := fun i hi => absurd hi (Nat.not_lt_zero i)
    go_wp2_with fail
    go_loopw [10] (fun i wr => ∃ j : Nat, i = .int .i64 j ∧ j ≤ xI.length ∧ Hid (Below w.heap.size w wr) ∧ Hid (Tb wa.heap.size s v a c k wr) ∧ Hid (Tb (wa.heap.size + 1) s2 v2 a2 c2 k2 wr) ∧ Hid (ISl wr 0 wr.heap.size AI xI) ∧ Hid (∀ i : Nat, i < j → ∀ x, xI[i]? = some x → x ∉ tvR s2 v2 k2)) (fun i _ => xI.length - (intOf i).toNat)
    case atStart => exact ⟨0, rfl, Nat.zero_le _, Hlow, Hp, Ht, HI, HN⟩
    case round =>
      clear Hlow Hp Ht HI HN
      obtain ⟨j, rfl, hj, Hlow, Hp, Ht, HI, HN⟩ := hrel
      by_cases hlt : j < xI.length
      · have g1 : (0 : Int) ≤ (j : Int) := by omega
        have g2 : (j : Int) < (xI.length : Int) := by omega
        obtain ⟨b9, o9, hA, _, hbB, hcx⟩ := isl_at HI.out hlt
        subst hA
        have hxj : xI[j]? = some xI[j] := List.getElem?_eq_getElem hlt
        generalize xI[j] = x at hcx hxj
        have HJX := Lib.hid hxj
        clear hxj
        have hu0 : ∀ u : After wr.heap.size wr, u.world.cell? ⟨wa.heap.size + 1, 0, none⟩ = some (.int .i64 s2) := fun u => cell_low u.below Ht.out.c0
        have hu1 : ∀ u : After wr.heap.size wr, u.world.cell? ⟨wa.heap.size + 1, 1, none⟩ = some (.int .i64 v2) := fun u => cell_low u.below Ht.out.c1
        have hu2 : ∀ u : After wr.heap.size wr, u.world.cell? ⟨wa.heap.size + 1, 2, none⟩ = some (.slice a2 (flen k2) c2) := fun u => cell_low u.below Ht.out.c2
        have hu3 : ∀ u : After wr.heap.size wr, u.world.cell? ⟨b9, o9 + j, none⟩ = some (.int .i64 x) := fun u => cell_low u.below hcx
        clear hcx
        go_wp2_with fail
        refine wp_region_mix (fun w' => ∃ u : After wr.heap.size wr, w' = u.world) [] [(0, 0), (2, 0), (3, 0), (4, 0), (5, 0), (1, 1), (6, 1)] (by kernel_rfl) (by kernel_rfl) ⟨⟨_, (Below.refl _ _).drew⟩, rfl⟩ ?_
        iterate 5
          refine mix_see rfl (fun K hK => ?_)
          go_simp
          refine hK _ ?_
          clear hK K
        clear hu0 hu1 hu2 hu3
        refine mix_hold rfl (fun K hK => ?_)
        go_simp
        with_reducible refine (iTermVars_any s2 v2 a2 c2 k2 _ (Ht.out.next (Below.refl _ _).drew).sl).mono ?_
        rintro e wp ⟨Az, Cz, zs, hzs, rfl, hbp', hoz⟩
        have hbp : Below wr.heap.size wr wp := bl_undrew hbp'
        have HZS := Lib.hid (hoz.sl.mono (lo' := 0) (Nat.zero_le _) (Nat.le_refl _))
        have hzl : zs.length ≤ 12 := by rw [hzs]; exact tvR_len _ _ _
        have HZV := Lib.hid hzs
        have hsp := hbp.size
        refine hK _ _ ⟨⟨_, hbp⟩, rfl⟩ ?_
        clear hK K hbp' hoz hzs
        refine mix_hold rfl (fun K hK => ?_)
        go_simp
        with_reducible refine (laIn_any zs Az Cz x _ HZS.out (by omega)).mono ?_
        rintro e wq ⟨rfl, hbq⟩
        have hbr := hbp.trans (hbq.mono hsp)
        refine hK _ _ ⟨⟨_, hbr⟩, rfl⟩ ?_
        clear hK K hbq HZS
        refine mix_end ?_
        have Hlow' : Hid (Below w.heap.size w wq) := below_next Hlow.out hbr
        have Hp' : Hid (Tb wa.heap.size s v a c k wq) := Hp.out.next hbr
        have Ht' : Hid (Tb (wa.heap.size + 1) s2 v2 a2 c2 k2 wq) := Ht.out.next hbr
        have HI' : Hid (ISl wq 0 wq.heap.size (some ⟨b9, o9, none⟩) xI) := HI.out.next hbr
        have HN' : Hid (∀ i : Nat, i < j → ∀ x, xI[i]? = some x → x ∉ tvR s2 v2 k2) := HN.out
        clear Hlow Hp Ht HI HN
        have Hlow := Hlow'
        clear Hlow'
        have Hp := Hp'
        clear Hp'
        have Ht := Ht'
        clear Ht'
        have HI := HI'
        clear HI'
        have HN := HN'
        clear HN'
        clear hbp hbr hsp
        cases hin : decide (x ∈ zs) with
        | false =>
          have HN' : Hid (∀ i : Nat, i < j + 1 → ∀ x, xI[i]? = some x → x ∉ tvR s2 v2 k2) := fun i hi x' hx' => by
            rcases Nat.lt_or_ge i j with h | h
            · exact HN.out i h x' hx'
            · obtain rfl : i = j := by omega
              have hxx := HJX.out
              rw [hx'] at hxx
              obtain rfl := Option.some.inj hxx
              rw [← HZV.out]
              exact of_decide_eq_false hin
          clear HN
          have HN := HN'
          clear HN' hin HJX
          go_wp2_with fail
          go_roundw
          case rel => exact ⟨j + 1, by go_num, by omega, Hlow, Hp, Ht, HI, HN⟩
          case measure => simp [intOf]; omega
        | true =>
          clear hin
          go_wp2_with fail
          go_ret
          exact ⟨rfl, Hlow.out⟩
      · have hje : j = xI.length := by omega
        have hdd : ∀ x ∈ tvR s v k, x ∉ tvR s2 v2 k2 := fun x hx => by
          rw [← HXI.out] at hx
          obtain ⟨i, hi⟩ := List.mem_iff_getElem?.1 hx
          exact HN.out i (by have := (List.getElem?_eq_some_iff.1 hi).1; omega) x hi
        obtain ⟨us, hus⟩ := un_match HDw.out HZ.out HZ2.out hdd
        have HUS := Lib.hid hus
        clear hus hdd HN
        have qp0 := Hp.out.c0
        have qp1 := Hp.out.c1
        have qp2 := Hp.out.c2
        have qt0 := Ht.out.c0
        have qt1 := Ht.out.c1
        have qt2 := Ht.out.c2
        go_wp2_with fail
        with_reducible refine (iUnifyOf_any s v a c k s2 v2 a2 c2 k2 _ Hp.out.sl Ht.out.sl).mono ?_
        rintro e wx5 ⟨Au, Cu, bu, tu, hdu, rfl, hb, hsu⟩
        rw [HUS.out] at hdu
        simp only [Prod.mk.injEq] at hdu
        obtain ⟨rfl, rfl⟩ := hdu
        clear qp0 qp1 qp2 qt0 qt1 qt2
        have Hlow' : Hid (Below w.heap.size w wx5) := below_next Hlow.out hb
        have Hp' : Hid (Tb wa.heap.size s v a c k wx5) := Hp.out.next hb
        have Ht' : Hid (Tb (wa.heap.size + 1) s2 v2 a2 c2 k2 wx5) := Ht.out.next hb
        have HI' : Hid (ISl wx5 0 wx5.heap.size AI xI) := HI.out.next hb
        clear Hlow Hp Ht HI
        have Hlow := Hlow'
        clear Hlow'
        have Hp := Hp'
        clear Hp'
        have Ht := Ht'
        clear Ht'
        have HI := HI'
        clear HI'
        clear hb
        have Hu : Hid (BSl wx5 0 wx5.heap.size Au us) := hsu
        clear hsu
        go_wp2_with fail
        go_ret
        exact ⟨rfl, Hlow.out⟩
end Go.Proofs.YtpfkhgiiojikbaaGreat
