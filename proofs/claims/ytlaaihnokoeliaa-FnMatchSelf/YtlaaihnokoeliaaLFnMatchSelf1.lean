/- Several texts in one: LawMSelf. -/
import Derived.Test.YtlaaihnokoeliaaKMat15
import Derived.Test.YtlaaihnokoeliaaKMat19
import Derived.Test.YtlaaihnokoeliaaKMat20
import Derived.Test.YtlaaihnokoeliaaKMat3

/-! LawMSelf: laws.FnMatchSelf answers true at every code. -/
namespace Go.Proofs.Ytlaaihnokoeliaa
open Go.RowKit Go.Deep
attribute [local go_sem ↓] Go.wp_at_zero Go.wp_at_succ

set_option maxRecDepth 100000 in
set_option maxHeartbeats 4000000 in
theorem matchSelf_walk (a0 : Option Addr) (len cap : Nat) (w : World) (hby : Bytes w a0 len) (hlen : len ≤ cap) :
    Calls Try.prog 7 #[.slice a0 len cap] w fun e w' => e = .returned (.bool true) ∧ Below w.heap.size w w' := by
  have HBY := Lib.hid hby
  clear hby
  by_cases hbiglen : 1048576 < len
  · go_enter Try.func7, Try.ntmps7
    go_wp2_with fail
    go_ret
    exact ⟨rfl, Below.refl _ _⟩
  go_enter Try.func7, Try.ntmps7
  go_wp2_with fail
  with_reducible refine (DrawMatchOf_z a0 len cap _ HBY.out hlen).mono ?_
  rintro e wa ⟨s, v, a, c, k, s2, v2, a2, c2, k2, rfl, ⟨hSk, hZ⟩, ⟨hSk2, hZ2⟩, hb, hl, hl2⟩
  have Hlow := Lib.hid hb
  have HZ := Lib.hid hZ
  have HZ2 := Lib.hid hZ2
  have HL := Lib.hid hl
  have Hm : Hid (Sl wa 0 wa.heap.size a2 k2) := hl2.mono (Nat.zero_le _) (Nat.le_refl _)
  clear hb hl hl2 HBY hZ hZ2
  have hbx : Below wa.heap.size wa (wa.alloc (.cells #[.int .i64 s, .int .i64 v, .slice a (flen k) c] 25)) := box_low _ _
  have Hn : Hid (Tb wa.heap.size s v a c k (wa.alloc (.cells #[.int .i64 s, .int .i64 v, .slice a (flen k) c] 25))) := Tb.new HL.out
  have Hlow' : Hid (Below w.heap.size w (wa.alloc (.cells #[.int .i64 s, .int .i64 v, .slice a (flen k) c] 25))) := below_next Hlow.out hbx
  have Hm' : Hid (Sl (wa.alloc (.cells #[.int .i64 s, .int .i64 v, .slice a (flen k) c] 25)) 0 (wa.alloc (.cells #[.int .i64 s, .int .i64 v, .slice a (flen k) c] 25)).heap.size a2 k2) := Hm.out.next hbx
  clear Hlow Hm
  have Hlow := Hlow'
  clear Hlow'
  have Hm := Hm'
  clear Hm'
  have Hp := Hn
  clear Hn hbx
  clear HL
  have hbx : Below (wa.alloc (.cells #[.int .i64 s, .int .i64 v, .slice a (flen k) c] 25)).heap.size (wa.alloc (.cells #[.int .i64 s, .int .i64 v, .slice a (flen k) c] 25)) ((wa.alloc (.cells #[.int .i64 s, .int .i64 v, .slice a (flen k) c] 25)).alloc (.cells #[.int .i64 s2, .int .i64 v2, .slice a2 (flen k2) c2] 25)) := box_low _ _
  have Hn : Hid (Tb (wa.heap.size + 1) s2 v2 a2 c2 k2 ((wa.alloc (.cells #[.int .i64 s, .int .i64 v, .slice a (flen k) c] 25)).alloc (.cells #[.int .i64 s2, .int .i64 v2, .slice a2 (flen k2) c2] 25))) := (show (wa.alloc (.cells #[.int .i64 s, .int .i64 v, .slice a (flen k) c] 25)).heap.size = (wa.heap.size + 1) from by simp) ▸ Tb.new Hm.out
  have Hlow' : Hid (Below w.heap.size w ((wa.alloc (.cells #[.int .i64 s, .int .i64 v, .slice a (flen k) c] 25)).alloc (.cells #[.int .i64 s2, .int .i64 v2, .slice a2 (flen k2) c2] 25))) := below_next Hlow.out hbx
  have Hm' : Hid (Sl ((wa.alloc (.cells #[.int .i64 s, .int .i64 v, .slice a (flen k) c] 25)).alloc (.cells #[.int .i64 s2, .int .i64 v2, .slice a2 (flen k2) c2] 25)) 0 ((wa.alloc (.cells #[.int .i64 s, .int .i64 v, .slice a (flen k) c] 25)).alloc (.cells #[.int .i64 s2, .int .i64 v2, .slice a2 (flen k2) c2] 25)).heap.size a2 k2) := Hm.out.next hbx
  have Hp' : Hid (Tb wa.heap.size s v a c k ((wa.alloc (.cells #[.int .i64 s, .int .i64 v, .slice a (flen k) c] 25)).alloc (.cells #[.int .i64 s2, .int .i64 v2, .slice a2 (flen k2) c2] 25))) := Hp.out.next hbx
  clear Hlow Hm Hp
  have Hlow := Hlow'
  clear Hlow'
  have Hm := Hm'
  clear Hm'
  have Hp := Hp'
  clear Hp'
  have Ht := Hn
  clear Hn hbx
  clear Hm
  have qp0 := Hp.out.c0
  have qp1 := Hp.out.c1
  have qp2 := Hp.out.c2
  have qt0 := Ht.out.c0
  have qt1 := Ht.out.c1
  have qt2 := Ht.out.c2
  go_wp2_with fail
  with_reducible refine (sMatchOf_any s v a c k s2 v2 a2 c2 k2 _ Hp.out.sl Ht.out.sl).mono ?_
  rintro e wx1 ⟨Aw, Cw, bw, tw, hdw, rfl, hb, hsw⟩
  have HDw := Lib.hid hdw
  clear hdw
  clear qp0 qp1 qp2 qt0 qt1 qt2
  have Hlow' : Hid (Below w.heap.size w wx1) := below_next Hlow.out hb
  have Hp' : Hid (Tb wa.heap.size s v a c k wx1) := Hp.out.next hb
  have Ht' : Hid (Tb (wa.heap.size + 1) s2 v2 a2 c2 k2 wx1) := Ht.out.next hb
  clear Hlow Hp Ht
  have Hlow := Hlow'
  clear Hlow'
  have Hp := Hp'
  clear Hp'
  have Ht := Ht'
  clear Ht'
  clear hb
  have Hw : Hid (BSl wx1 0 wx1.heap.size Aw bw) := hsw
  clear hsw
  have qp0 := Hp.out.c0
  have qp1 := Hp.out.c1
  have qp2 := Hp.out.c2
  have qt0 := Ht.out.c0
  have qt1 := Ht.out.c1
  have qt2 := Ht.out.c2
  go_wp2_with fail
  with_reducible refine (iMatchOf_any s v a c k s2 v2 a2 c2 k2 _ Hp.out.sl Ht.out.sl).mono ?_
  rintro e wx2 ⟨Ax, Cx, bx, tx, hdx, rfl, hb, hsx⟩
  rw [HDw.out] at hdx
  simp only [Prod.mk.injEq] at hdx
  obtain ⟨rfl, rfl⟩ := hdx
  clear qp0 qp1 qp2 qt0 qt1 qt2
  have Hlow' : Hid (Below w.heap.size w wx2) := below_next Hlow.out hb
  have Hp' : Hid (Tb wa.heap.size s v a c k wx2) := Hp.out.next hb
  have Ht' : Hid (Tb (wa.heap.size + 1) s2 v2 a2 c2 k2 wx2) := Ht.out.next hb
  have Hw' : Hid (BSl wx2 0 wx2.heap.size Aw bw) := Hw.out.next hb
  clear Hlow Hp Ht Hw
  have Hlow := Hlow'
  clear Hlow'
  have Hp := Hp'
  clear Hp'
  have Ht := Ht'
  clear Ht'
  have Hw := Hw'
  clear Hw'
  clear hb
  have Hx : Hid (BSl wx2 0 wx2.heap.size Ax bw) := hsx
  clear hsx
  have HSM := Lib.hid (ma_small HDw.out)
  have eb : (tw != tw) = false := by simp
  have eb2 : (tw == tw) = true := by simp
  go_wp2_with fail
  with_reducible refine (laSubst_same bw Ax Aw Cx Cw _ Hx.out Hw.out (by have := HSM.out.1; omega) HSM.out.2).mono ?_
  rintro e wx3 ⟨rfl, hb⟩
  have Hlow' : Hid (Below w.heap.size w wx3) := below_next Hlow.out hb
  have Hp' : Hid (Tb wa.heap.size s v a c k wx3) := Hp.out.next hb
  have Ht' : Hid (Tb (wa.heap.size + 1) s2 v2 a2 c2 k2 wx3) := Ht.out.next hb
  have Hw' : Hid (BSl wx3 0 wx3.heap.size Aw bw) := Hw.out.next hb
  have Hx' : Hid (BSl wx3 0 wx3.heap.size Ax bw) := Hx.out.next hb
  clear Hlow Hp Ht Hw Hx
  have Hlow := Hlow'
  clear Hlow'
  have Hp := Hp'
  clear Hp'
  have Ht := Ht'
  clear Ht'
  have Hw := Hw'
  clear Hw'
  have Hx := Hx'
  clear Hx'
  clear hb
  cases hok : okW s v k 16 with
  | false =>
    have HOK := Lib.hid hok
    clear hok
    have qp0 := Hp.out.c0
    have qp1 := Hp.out.c1
    have qp2 := Hp.out.c2
    go_wp2_with fail
    with_reducible refine (sTermOk_any s v a c k _ Hp.out.sl).mono ?_
    rw [HOK.out]
    rintro e wx4 ⟨rfl, hb⟩
    clear qp0 qp1 qp2
    have Hlow' : Hid (Below w.heap.size w wx4) := below_next Hlow.out hb
    have Hp' : Hid (Tb wa.heap.size s v a c k wx4) := Hp.out.next hb
    have Ht' : Hid (Tb (wa.heap.size + 1) s2 v2 a2 c2 k2 wx4) := Ht.out.next hb
    have Hw' : Hid (BSl wx4 0 wx4.heap.size Aw bw) := Hw.out.next hb
    have Hx' : Hid (BSl wx4 0 wx4.heap.size Ax bw) := Hx.out.next hb
    clear Hlow Hp Ht Hw Hx
    have Hlow := Hlow'
    clear Hlow'
    have Hp := Hp'
    clear Hp'
    have Ht := Ht'
    clear Ht'
    have Hw := Hw'
    clear Hw'
    have Hx := Hx'
    clear Hx'
    clear hb
    go_wp2_with fail
    with_reducible refine (laSubst_same bw Ax Aw Cx Cw _ Hx.out Hw.out (by have := HSM.out.1; omega) HSM.out.2).mono ?_
    rintro e wx5 ⟨rfl, hb⟩
    have Hlow' : Hid (Below w.heap.size w wx5) := below_next Hlow.out hb
    have Hp' : Hid (Tb wa.heap.size s v a c k wx5) := Hp.out.next hb
    have Ht' : Hid (Tb (wa.heap.size + 1) s2 v2 a2 c2 k2 wx5) := Ht.out.next hb
    have Hw' : Hid (BSl wx5 0 wx5.heap.size Aw bw) := Hw.out.next hb
    have Hx' : Hid (BSl wx5 0 wx5.heap.size Ax bw) := Hx.out.next hb
    clear Hlow Hp Ht Hw Hx
    have Hlow := Hlow'
    clear Hlow'
    have Hp := Hp'
    clear Hp'
    have Ht := Ht'
    clear Ht'
    have Hw := Hw'
    clear Hw'
    have Hx := Hx'
    clear Hx'
    clear hb
    go_wp2_with fail
    go_ret
    exact ⟨rfl, Hlow.out⟩
  | true =>
    have HOK := Lib.hid hok
    clear hok
    have qp0 := Hp.out.c0
    have qp1 := Hp.out.c1
    have qp2 := Hp.out.c2
    go_wp2_with fail
    with_reducible refine (sTermOk_any s v a c k _ Hp.out.sl).mono ?_
    rw [HOK.out]
    rintro e wx4 ⟨rfl, hb⟩
    clear qp0 qp1 qp2
    have Hlow' : Hid (Below w.heap.size w wx4) := below_next Hlow.out hb
    have Hp' : Hid (Tb wa.heap.size s v a c k wx4) := Hp.out.next hb
    have Ht' : Hid (Tb (wa.heap.size + 1) s2 v2 a2 c2 k2 wx4) := Ht.out.next hb
    have Hw' : Hid (BSl wx4 0 wx4.heap.size Aw bw) := Hw.out.next hb
    have Hx' : Hid (BSl wx4 0 wx4.heap.size Ax bw) := Hx.out.next hb
    clear Hlow Hp Ht Hw Hx
    have Hlow := Hlow'
    clear Hlow'
    have Hp := Hp'
    clear Hp'
    have Ht := Ht'
    clear Ht'
    have Hw := Hw'
    clear Hw'
    have Hx := Hx'
    clear Hx'
    clear hb
    obtain ⟨bz, hbz, hself⟩ := ma_self HOK.out
    have HBZ := Lib.hid hbz
    have HSELF := Lib.hid hself
    have hlz := (ma_small hbz).1
    clear hbz hself
    have qp0 := Hp.out.c0
    have qp1 := Hp.out.c1
    have qp2 := Hp.out.c2
    go_wp2_with fail
    with_reducible refine (iMatchOf_any s v a c k s v a c k _ Hp.out.sl Hp.out.sl).mono ?_
    rintro e wx5 ⟨Az, Cz, bz, tz, hdz, rfl, hb, hsz⟩
    rw [HBZ.out] at hdz
    simp only [Prod.mk.injEq] at hdz
    obtain ⟨rfl, rfl⟩ := hdz
    clear qp0 qp1 qp2
    have Hlow' : Hid (Below w.heap.size w wx5) := below_next Hlow.out hb
    have Hp' : Hid (Tb wa.heap.size s v a c k wx5) := Hp.out.next hb
    have Ht' : Hid (Tb (wa.heap.size + 1) s2 v2 a2 c2 k2 wx5) := Ht.out.next hb
    have Hw' : Hid (BSl wx5 0 wx5.heap.size Aw bw) := Hw.out.next hb
    have Hx' : Hid (BSl wx5 0 wx5.heap.size Ax bw) := Hx.out.next hb
    clear Hlow Hp Ht Hw Hx
    have Hlow := Hlow'
    clear Hlow'
    have Hp := Hp'
    clear Hp'
    have Ht := Ht'
    clear Ht'
    have Hw := Hw'
    clear Hw'
    have Hx := Hx'
    clear Hx'
    clear hb
    have Hz : Hid (BSl wx5 0 wx5.heap.size Az bz) := hsz
    clear hsz
    go_wp2_with fail
    go_loopw [11] (fun i wr => ∃ j : Nat, i = .int .i64 j ∧ j ≤ bz.length ∧ Hid (Below w.heap.size w wr) ∧ Hid (Tb wa.heap.size s v a c k wr) ∧ Hid (Tb (wa.heap.size + 1) s2 v2 a2 c2 k2 wr) ∧ Hid (BSl wr 0 wr.heap.size Aw bw) ∧ Hid (BSl wr 0 wr.heap.size Ax bw) ∧ Hid (BSl wr 0 wr.heap.size Az bz)) (fun i _ => bz.length - (intOf i).toNat)
    case atStart => exact ⟨0, rfl, Nat.zero_le _, Hlow, Hp, Ht, Hw, Hx, Hz⟩
    case round =>
      clear Hlow Hp Ht Hw Hx Hz
      obtain ⟨j, rfl, hj, Hlow, Hp, Ht, Hw, Hx, Hz⟩ := hrel
      by_cases hlt : j < bz.length
      · have g1 : (0 : Int) ≤ (j : Int) := by omega
        have g2 : (j : Int) < (bz.length : Int) := by omega
        obtain ⟨rb, ro, x, sy, vy, ky, ya, yc, hA, hy, d0, d1, d2, d3, hsl⟩ := bsl_at Hz.out hlt
        subst hA
        have hE := HSELF.out _ (List.mem_of_getElem? hy)
        simp only [Prod.mk.injEq, true_and] at hE
        obtain ⟨rfl, rfl, rfl⟩ := hE
        clear hy
        have hu0 : ∀ u : After wr.heap.size wr, u.world.cell? ⟨rb, ro + j * 4, none⟩ = some (.int .i64 vy) := fun u => cell_low u.below d0
        have hu1 : ∀ u : After wr.heap.size wr, u.world.cell? ⟨rb, ro + j * 4 + 1, none⟩ = some (.int .i64 0) := fun u => cell_low u.below d1
        have hu2 : ∀ u : After wr.heap.size wr, u.world.cell? ⟨rb, ro + j * 4 + 1 + 1, none⟩ = some (.int .i64 vy) := fun u => cell_low u.below d2
        have hu3 : ∀ u : After wr.heap.size wr, u.world.cell? ⟨rb, ro + j * 4 + 1 + 2, none⟩ = some (.slice ya 0 yc) := fun u => cell_low u.below d3
        have HCALL : Hid (∀ u : After wr.heap.size wr, Calls Try.prog 18 #[.agg #[.int .i64 0, .int .i64 vy, .slice ya 0 yc], .agg #[.int .i64 0, .int .i64 vy, .slice none 0 0]] u.world fun e w' => e = .returned (.bool true) ∧ Below u.world.heap.size u.world w') := fun u => laTerm_same (fsz (.nil : Fo)) 0 vy ya none yc 0 .nil u.world (.inl rfl) (.inl rfl) (Nat.le_refl _) (by simp [fsz])
        clear hsl d0 d1 d2 d3
        go_wp2_with fail
        refine wp_region_after wr.heap.size (by kernel_rfl) (by kernel_rfl) ?_
        repeat (go_big_quiet_step ((go_at_call 18; exact Calls.after (After.below ‹_›).size (HCALL.out _))))
        refine wpQuiet_nil ?_
        rintro u ⟨⟨_, hu⟩, rfl⟩
        clear hu0 hu1 hu2 hu3 HCALL
        have Hlow' : Hid (Below w.heap.size w u) := below_next Hlow.out hu
        have Hp' : Hid (Tb wa.heap.size s v a c k u) := Hp.out.next hu
        have Ht' : Hid (Tb (wa.heap.size + 1) s2 v2 a2 c2 k2 u) := Ht.out.next hu
        have Hw' : Hid (BSl u 0 u.heap.size Aw bw) := Hw.out.next hu
        have Hx' : Hid (BSl u 0 u.heap.size Ax bw) := Hx.out.next hu
        have Hz' : Hid (BSl u 0 u.heap.size (some ⟨rb, ro, none⟩) bz) := Hz.out.next hu
        clear Hlow Hp Ht Hw Hx Hz
        have Hlow := Hlow'
        clear Hlow'
        have Hp := Hp'
        clear Hp'
        have Ht := Ht'
        clear Ht'
        have Hw := Hw'
        clear Hw'
        have Hx := Hx'
        clear Hx'
        have Hz := Hz'
        clear Hz'
        clear hu
        go_wp2_with fail
        go_roundw
        case rel => exact ⟨j + 1, by go_num, by omega, Hlow, Hp, Ht, Hw, Hx, Hz⟩
        case measure => simp [intOf]; omega
      · have hje : j = bz.length := by omega
        go_wp2_with fail
        go_ret
        exact ⟨rfl, Hlow.out⟩
end Go.Proofs.Ytlaaihnokoeliaa
