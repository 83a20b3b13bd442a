/- Several texts in one: LawMLess. -/
import Derived.Test.YtlaaihnokoeliaaKMat15
import Derived.Test.YtlaaihnokoeliaaKMat19
import Derived.Test.YtlaaihnokoeliaaKMat20
import Derived.Test.YtlaaihnokoeliaaKMat3

/-! LawMLess: laws.FnMatchLess answers true at every code. -/
namespace Go.Proofs.Ytlaaihnokoeliaa
open Go.RowKit Go.Deep
attribute [local go_sem ↓] Go.wp_at_zero Go.wp_at_succ

set_option maxRecDepth 100000 in
set_option maxHeartbeats 4000000 in
theorem matchLess_walk (a0 : Option Addr) (len cap : Nat) (w : World) (hby : Bytes w a0 len) (hlen : len ≤ cap) :
    Calls Try.prog 3 #[.slice a0 len cap] w fun e w' => e = .returned (.bool true) ∧ Below w.heap.size w w' := by
  have HBY := Lib.hid hby
  clear hby
  by_cases hbiglen : 1048576 < len
  · go_enter Try.func3, Try.ntmps3
    go_wp2_with fail
    go_ret
    exact ⟨rfl, Below.refl _ _⟩
  go_enter Try.func3, Try.ntmps3
  go_wp2_with fail
  with_reducible refine (DrawMatchOf_z a0 len cap _ HBY.out hlen).mono ?_
  rintro e wa ⟨s, v, a, c, k, s2, v2, a2, c2, k2, rfl, ⟨hSk, hZ⟩, ⟨hSk2, hZ2⟩, hb, hl, hl2⟩
  have Hlow := Lib.hid hb
  have HZ := Lib.hid hZ
  have HZ2 := Lib.hid hZ2
  have HL := Lib.hid hl
  have Hm : Hid (Sl wa 0 wa.heap.size a2 k2) := hl2.mono (Nat.zero_le _) (Nat.le_refl _)
  clear hb hl hl2 HBY hZ hZ2
  have hbx : Below wa.heap.size wa (wa.alloc (.cells #[.int .i64 s, .int .i64 v, .slice a (flen k) c] 25)) := box_low _ _
  have Hn : Hid (Tb wa.heap.size s v a c k (wa.alloc (.cells #[.int .i64 s, .int .i64 v, .slice a (flen k) c] 25))) := Tb.new HL.out
  have Hlow' : Hid (Below w.heap.size w (wa.alloc (.cells #[.int .i64 s, .int .i64 v, .slice a (flen k) c] 25))) := below_next Hlow.out hbx
  have Hm' : Hid (Sl (wa.alloc (.cells #[.int .i64 s, .int .i64 v, .slice a (flen k) c] 25)) 0 (wa.alloc (.cells #[.int .i64 s, .int .i64 v, .slice a (flen k) c] 25)).heap.size a2 k2) := Hm.out.next hbx
  clear Hlow Hm
  have Hlow := Hlow'
  clear Hlow'
  have Hm := Hm'
  clear Hm'
  have Hp := Hn
  clear Hn hbx
  clear HL
  have hbx : Below (wa.alloc (.cells #[.int .i64 s, .int .i64 v, .slice a (flen k) c] 25)).heap.size (wa.alloc (.cells #[.int .i64 s, .int .i64 v, .slice a (flen k) c] 25)) ((wa.alloc (.cells #[.int .i64 s, .int .i64 v, .slice a (flen k) c] 25)).alloc (.cells #[.int .i64 s2, .int .i64 v2, .slice a2 (flen k2) c2] 25)) := box_low _ _
  have Hn : Hid (Tb (wa.heap.size + 1) s2 v2 a2 c2 k2 ((wa.alloc (.cells #[.int .i64 s, .int .i64 v, .slice a (flen k) c] 25)).alloc (.cells #[.int .i64 s2, .int .i64 v2, .slice a2 (flen k2) c2] 25))) := (show (wa.alloc (.cells #[.int .i64 s, .int .i64 v, .slice a (flen k) c] 25)).heap.size = (wa.heap.size + 1) from by simp) ▸ Tb.new Hm.out
  have Hlow' : Hid (Below w.heap.size w ((wa.alloc (.cells #[.int .i64 s, .int .i64 v, .slice a (flen k) c] 25)).alloc (.cells #[.int .i64 s2, .int .i64 v2, .slice a2 (flen k2) c2] 25))) := below_next Hlow.out hbx
  have Hm' : Hid (Sl ((wa.alloc (.cells #[.int .i64 s, .int .i64 v, .slice a (flen k) c] 25)).alloc (.cells #[.int .i64 s2, .int .i64 v2, .slice a2 (flen k2) c2] 25)) 0 ((wa.alloc (.cells #[.int .i64 s, .int .i64 v, .slice a (flen k) c] 25)).alloc (.cells #[.int .i64 s2, .int .i64 v2, .slice a2 (flen k2) c2] 25)).heap.size a2 k2) := Hm.out.next hbx
  have Hp' : Hid (Tb wa.heap.size s v a c k ((wa.alloc (.cells #[.int .i64 s, .int .i64 v, .slice a (flen k) c] 25)).alloc (.cells #[.int .i64 s2, .int .i64 v2, .slice a2 (flen k2) c2] 25))) := Hp.out.next hbx
  clear Hlow Hm Hp
  have Hlow := Hlow'
  clear Hlow'
  have Hm := Hm'
  clear Hm'
  have Hp := Hp'
  clear Hp'
  have Ht := Hn
  clear Hn hbx
  clear Hm
  have qp0 := Hp.out.c0
  have qp1 := Hp.out.c1
  have qp2 := Hp.out.c2
  have qt0 := Ht.out.c0
  have qt1 := Ht.out.c1
  have qt2 := Ht.out.c2
  go_wp2_with fail
  with_reducible refine (sMatchOf_any s v a c k s2 v2 a2 c2 k2 _ Hp.out.sl Ht.out.sl).mono ?_
  rintro e wx1 ⟨Aw, Cw, bw, tw, hdw, rfl, hb, hsw⟩
  have HDw := Lib.hid hdw
  clear hdw
  clear qp0 qp1 qp2 qt0 qt1 qt2
  have Hlow' : Hid (Below w.heap.size w wx1) := below_next Hlow.out hb
  have Hp' : Hid (Tb wa.heap.size s v a c k wx1) := Hp.out.next hb
  have Ht' : Hid (Tb (wa.heap.size + 1) s2 v2 a2 c2 k2 wx1) := Ht.out.next hb
  clear Hlow Hp Ht
  have Hlow := Hlow'
  clear Hlow'
  have Hp := Hp'
  clear Hp'
  have Ht := Ht'
  clear Ht'
  clear hb
  have Hw : Hid (BSl wx1 0 wx1.heap.size Aw bw) := hsw
  clear hsw
  have qp0 := Hp.out.c0
  have qp1 := Hp.out.c1
  have qp2 := Hp.out.c2
  have qt0 := Ht.out.c0
  have qt1 := Ht.out.c1
  have qt2 := Ht.out.c2
  go_wp2_with fail
  with_reducible refine (iMatchOf_any s v a c k s2 v2 a2 c2 k2 _ Hp.out.sl Ht.out.sl).mono ?_
  rintro e wx2 ⟨Ax, Cx, bx, tx, hdx, rfl, hb, hsx⟩
  rw [HDw.out] at hdx
  simp only [Prod.mk.injEq] at hdx
  obtain ⟨rfl, rfl⟩ := hdx
  clear qp0 qp1 qp2 qt0 qt1 qt2
  have Hlow' : Hid (Below w.heap.size w wx2) := below_next Hlow.out hb
  have Hp' : Hid (Tb wa.heap.size s v a c k wx2) := Hp.out.next hb
  have Ht' : Hid (Tb (wa.heap.size + 1) s2 v2 a2 c2 k2 wx2) := Ht.out.next hb
  have Hw' : Hid (BSl wx2 0 wx2.heap.size Aw bw) := Hw.out.next hb
  clear Hlow Hp Ht Hw
  have Hlow := Hlow'
  clear Hlow'
  have Hp := Hp'
  clear Hp'
  have Ht := Ht'
  clear Ht'
  have Hw := Hw'
  clear Hw'
  clear hb
  have Hx : Hid (BSl wx2 0 wx2.heap.size Ax bw) := hsx
  clear hsx
  have HSM := Lib.hid (ma_small HDw.out)
  have eb : (tw != tw) = false := by simp
  have eb2 : (tw == tw) = true := by simp
  go_wp2_with fail
  with_reducible refine (laSubst_same bw Ax Aw Cx Cw _ Hx.out Hw.out (by have := HSM.out.1; omega) HSM.out.2).mono ?_
  rintro e wx3 ⟨rfl, hb⟩
  have Hlow' : Hid (Below w.heap.size w wx3) := below_next Hlow.out hb
  have Hp' : Hid (Tb wa.heap.size s v a c k wx3) := Hp.out.next hb
  have Ht' : Hid (Tb (wa.heap.size + 1) s2 v2 a2 c2 k2 wx3) := Ht.out.next hb
  have Hw' : Hid (BSl wx3 0 wx3.heap.size Aw bw) := Hw.out.next hb
  have Hx' : Hid (BSl wx3 0 wx3.heap.size Ax bw) := Hx.out.next hb
  clear Hlow Hp Ht Hw Hx
  have Hlow := Hlow'
  clear Hlow'
  have Hp := Hp'
  clear Hp'
  have Ht := Ht'
  clear Ht'
  have Hw := Hw'
  clear Hw'
  have Hx := Hx'
  clear Hx'
  clear hb
  cases tw with
  | false =>
    go_wp2_with fail
    with_reducible refine (laSubst_same bw Ax Aw Cx Cw _ Hx.out Hw.out (by have := HSM.out.1; omega) HSM.out.2).mono ?_
    rintro e wx4 ⟨rfl, hb⟩
    have Hlow' : Hid (Below w.heap.size w wx4) := below_next Hlow.out hb
    have Hp' : Hid (Tb wa.heap.size s v a c k wx4) := Hp.out.next hb
    have Ht' : Hid (Tb (wa.heap.size + 1) s2 v2 a2 c2 k2 wx4) := Ht.out.next hb
    have Hw' : Hid (BSl wx4 0 wx4.heap.size Aw bw) := Hw.out.next hb
    have Hx' : Hid (BSl wx4 0 wx4.heap.size Ax bw) := Hx.out.next hb
    clear Hlow Hp Ht Hw Hx
    have Hlow := Hlow'
    clear Hlow'
    have Hp := Hp'
    clear Hp'
    have Ht := Ht'
    clear Ht'
    have Hw := Hw'
    clear Hw'
    have Hx := Hx'
    clear Hx'
    clear hb
    go_wp2_with fail
    go_ret
    exact ⟨rfl, Hlow.out⟩
  | true =>
    clear eb eb2
    have HOK : Hid (okW s v k 16 = true) := by rcases maR_cases HDw.out with ⟨h, _⟩ | ⟨_, h, _, _⟩; cases h; exact h
    have HOK2 : Hid (okW s2 v2 k2 16 = true) := by rcases maR_cases HDw.out with ⟨h, _⟩ | ⟨_, _, h, _⟩; cases h; exact h
    have hk16 := ((okW_iff _ _ _ _).1 HOK.out).2.2
    have hk216 := ((okW_iff _ _ _ _).1 HOK2.out).2.2
    clear Hw
    have qt0 := Ht.out.c0
    have qt1 := Ht.out.c1
    have qt2 := Ht.out.c2
    have qp0 := Hp.out.c0
    have qp1 := Hp.out.c1
    have qp2 := Hp.out.c2
    go_wp2_with fail
    with_reducible refine (iMatchOf_any s2 v2 a2 c2 k2 s v a c k _ Ht.out.sl Hp.out.sl).mono ?_
    rintro e wx4 ⟨Aq, Cq, bq, tq, hdq, rfl, hb, hsq⟩
    have HDq := Lib.hid hdq
    clear hdq
    clear qt0 qt1 qt2 qp0 qp1 qp2
    have Hlow' : Hid (Below w.heap.size w wx4) := below_next Hlow.out hb
    have Hp' : Hid (Tb wa.heap.size s v a c k wx4) := Hp.out.next hb
    have Ht' : Hid (Tb (wa.heap.size + 1) s2 v2 a2 c2 k2 wx4) := Ht.out.next hb
    have Hx' : Hid (BSl wx4 0 wx4.heap.size Ax bw) := Hx.out.next hb
    clear Hlow Hp Ht Hx
    have Hlow := Hlow'
    clear Hlow'
    have Hp := Hp'
    clear Hp'
    have Ht := Ht'
    clear Ht'
    have Hx := Hx'
    clear Hx'
    clear hb
    have Hq : Hid (BSl wx4 0 wx4.heap.size Aq bq) := hsq
    clear hsq
    have hle := ma_less HDw.out HZ.out HZ2.out
    have HGE : Hid (tq = true → fsz k2 ≤ fsz k) := fun h => by have h1 := HDq.out; rw [h] at h1; exact ma_less h1 HZ2.out HZ.out
    have HSOK := Lib.hid (maR_in HDw.out).2.2.2.2
    go_wp2_with fail
    have hu0 : ∀ u : After wx4.heap.size wx4, u.world.cell? ⟨wa.heap.size, 0, none⟩ = some (.int .i64 s) := fun u => cell_low u.below Hp.out.c0
    have hu1 : ∀ u : After wx4.heap.size wx4, u.world.cell? ⟨wa.heap.size, 1, none⟩ = some (.int .i64 v) := fun u => cell_low u.below Hp.out.c1
    have hu2 : ∀ u : After wx4.heap.size wx4, u.world.cell? ⟨wa.heap.size, 2, none⟩ = some (.slice a (flen k) c) := fun u => cell_low u.below Hp.out.c2
    have HCp : Hid (∀ u : After wx4.heap.size wx4, Calls Try.prog 13 #[.agg #[.int .i64 s, .int .i64 v, .slice a (flen k) c]] u.world fun e w' => e = .returned (.int .i64 (1 + fsz k)) ∧ Below u.world.heap.size u.world w') := fun u => by
      have h := iTermSize_any s v a c k u.world (Hp.out.sl.next u.below)
      rw [if_pos HOK.out] at h
      exact h
    have hu3 : ∀ u : After wx4.heap.size wx4, u.world.cell? ⟨wa.heap.size + 1, 0, none⟩ = some (.int .i64 s2) := fun u => cell_low u.below Ht.out.c0
    have hu4 : ∀ u : After wx4.heap.size wx4, u.world.cell? ⟨wa.heap.size + 1, 1, none⟩ = some (.int .i64 v2) := fun u => cell_low u.below Ht.out.c1
    have hu5 : ∀ u : After wx4.heap.size wx4, u.world.cell? ⟨wa.heap.size + 1, 2, none⟩ = some (.slice a2 (flen k2) c2) := fun u => cell_low u.below Ht.out.c2
    have HCt : Hid (∀ u : After wx4.heap.size wx4, Calls Try.prog 13 #[.agg #[.int .i64 s2, .int .i64 v2, .slice a2 (flen k2) c2]] u.world fun e w' => e = .returned (.int .i64 (1 + fsz k2)) ∧ Below u.world.heap.size u.world w') := fun u => by
      have h := iTermSize_any s2 v2 a2 c2 k2 u.world (Ht.out.sl.next u.below)
      rw [if_pos HOK2.out] at h
      exact h
    have HCs : Hid (∀ u : After wx4.heap.size wx4, Calls Try.prog 14 #[.slice Ax bw.length Cx] u.world fun e w' => e = .returned (.bool true) ∧ Below u.world.heap.size u.world w') := fun u => by
      have h := iSubstOk_any bw Ax Cx u.world (Hx.out.next u.below) (by have := HSM.out.1; omega)
      rw [HSOK.out] at h
      exact h
    have e1 : decide (1 + (fsz k : Int) ≤ 1 + (fsz k2 : Int)) = true := decide_eq_true (by omega)
    cases tq with
    | false =>
      refine wp_region_after wx4.heap.size (by kernel_rfl) (by kernel_rfl) ?_
      go_big_quiet_step (fail)
      go_big_quiet_step ((go_at_call 13; exact Calls.after (After.below ‹_›).size (HCp.out _)))
      go_big_quiet_step (fail)
      go_big_quiet_step ((go_at_call 13; exact Calls.after (After.below ‹_›).size (HCt.out _)))
      go_big_quiet_step (fail)
      go_big_quiet_step (fail)
      go_big_quiet_step (fail)
      go_big_quiet_step (fail)
      go_big_quiet_step (fail)
      go_big_quiet_step (fail)
      go_big_quiet_step (fail)
      go_big_quiet_step (fail)
      go_big_quiet_step (fail)
      go_big_quiet_step (fail)
      go_big_quiet_step (fail)
      go_big_quiet_step (fail)
      go_big_quiet_step (fail)
      go_big_quiet_step (fail)
      go_big_quiet_step ((go_at_call 14; exact Calls.after (After.below ‹_›).size (HCs.out _)))
      go_big_quiet_step (fail)
      go_big_quiet_step (fail)
      refine wpQuiet_nil ?_
      rintro u ⟨⟨_, hu⟩, rfl⟩
      clear hu0 hu1 hu2 hu3 hu4 hu5 HCp HCt HCs
      have Hlow' : Hid (Below w.heap.size w u) := below_next Hlow.out hu
      have Hp' : Hid (Tb wa.heap.size s v a c k u) := Hp.out.next hu
      have Ht' : Hid (Tb (wa.heap.size + 1) s2 v2 a2 c2 k2 u) := Ht.out.next hu
      have Hx' : Hid (BSl u 0 u.heap.size Ax bw) := Hx.out.next hu
      have Hq' : Hid (BSl u 0 u.heap.size Aq bq) := Hq.out.next hu
      clear Hlow Hp Ht Hx Hq
      have Hlow := Hlow'
      clear Hlow'
      have Hp := Hp'
      clear Hp'
      have Ht := Ht'
      clear Ht'
      have Hx := Hx'
      clear Hx'
      have Hq := Hq'
      clear Hq'
      clear hu
      go_wp2_with fail
      go_ret
      exact ⟨rfl, Hlow.out⟩
    | true =>
      have hge := HGE.out rfl
      have e2 : ((1 + (fsz k : Int)) == (1 + (fsz k2 : Int))) = true := by simp; omega
      refine wp_region_after wx4.heap.size (by kernel_rfl) (by kernel_rfl) ?_
      go_big_quiet_step (fail)
      go_big_quiet_step ((go_at_call 13; exact Calls.after (After.below ‹_›).size (HCp.out _)))
      go_big_quiet_step (fail)
      go_big_quiet_step ((go_at_call 13; exact Calls.after (After.below ‹_›).size (HCt.out _)))
      go_big_quiet_step (fail)
      go_big_quiet_step (fail)
      go_big_quiet_step (fail)
      go_big_quiet_step (fail)
      go_big_quiet_step (fail)
      go_big_quiet_step (fail)
      go_big_quiet_step ((go_at_call 13; exact Calls.after (After.below ‹_›).size (HCp.out _)))
      go_big_quiet_step (fail)
      go_big_quiet_step ((go_at_call 13; exact Calls.after (After.below ‹_›).size (HCt.out _)))
      go_big_quiet_step (fail)
      go_big_quiet_step (fail)
      go_big_quiet_step (fail)
      go_big_quiet_step (fail)
      go_big_quiet_step (fail)
      go_big_quiet_step ((go_at_call 14; exact Calls.after (After.below ‹_›).size (HCs.out _)))
      go_big_quiet_step (fail)
      go_big_quiet_step (fail)
      refine wpQuiet_nil ?_
      rintro u ⟨⟨_, hu⟩, rfl⟩
      clear hu0 hu1 hu2 hu3 hu4 hu5 HCp HCt HCs
      have Hlow' : Hid (Below w.heap.size w u) := below_next Hlow.out hu
      have Hp' : Hid (Tb wa.heap.size s v a c k u) := Hp.out.next hu
      have Ht' : Hid (Tb (wa.heap.size + 1) s2 v2 a2 c2 k2 u) := Ht.out.next hu
      have Hx' : Hid (BSl u 0 u.heap.size Ax bw) := Hx.out.next hu
      have Hq' : Hid (BSl u 0 u.heap.size Aq bq) := Hq.out.next hu
      clear Hlow Hp Ht Hx Hq
      have Hlow := Hlow'
      clear Hlow'
      have Hp := Hp'
      clear Hp'
      have Ht := Ht'
      clear Ht'
      have Hx := Hx'
      clear Hx'
      have Hq := Hq'
      clear Hq'
      clear hu
      go_wp2_with fail
      go_ret
      exact ⟨rfl, Hlow.out⟩
end Go.Proofs.Ytlaaihnokoeliaa
