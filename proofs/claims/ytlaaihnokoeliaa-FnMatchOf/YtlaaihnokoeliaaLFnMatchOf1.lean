/- Several texts in one: V4b, LawMOf. -/
import Derived.Test.YtlaaihnokoeliaaKMat6
import Derived.Test.YtlaaihnokoeliaaKMat1
import Derived.Test.YtlaaihnokoeliaaKMat15
import Derived.Test.YtlaaihnokoeliaaKMat19
import Derived.Test.YtlaaihnokoeliaaKMat20
import Derived.Test.YtlaaihnokoeliaaKMat3
import Derived.Test.YtlaaihnokoeliaaKMat10

/-! V4b: laIn: whether a number is among such. -/
namespace Go.Proofs.Ytlaaihnokoeliaa
open Go.RowKit Go.Deep

set_option maxRecDepth 100000 in
set_option maxHeartbeats 1000000 in
theorem laIn_any (xs : List Int) (A : Option Addr) (ca : Nat) (n : Int) (w : World) (hA : ISl w 0 w.heap.size A xs) (hx : xs.length ≤ 2000) :
    Calls Try.prog 20 #[.slice A xs.length ca, .int .i64 n] w fun e w' => e = .returned (.bool (decide (n ∈ xs))) ∧ Below w.heap.size w w' := by
  have HA := Lib.hid hA
  clear hA
  go_enter Try.func20, Try.ntmps20
  go_wp2_with fail
  go_loopw [5] (fun i wr => ∃ j : Nat, j ≤ xs.length ∧ i = .int .i64 j ∧ Hid (n ∈ xs ↔ n ∈ xs.drop j) ∧ Below w.heap.size w wr) (fun i _ => xs.length - (intOf i).toNat)
  case atStart => exact ⟨0, by omega, rfl, by simp [Hid], Below.refl _ _⟩
  case round =>
    obtain ⟨j, hj, rfl, hq, hbl⟩ := hrel
    have hbs := hbl.size
    by_cases hlt : j < xs.length
    · obtain ⟨b, o, rfl, _, hb1, hc⟩ := isl_at (HA.out.below hbl) hlt
      have hq1 := hq.out
      rw [List.drop_eq_getElem_cons hlt] at hq1
      have HQ := Lib.hid hq1
      clear hq hq1
      generalize xs[j] = x at hc HQ
      have g1 : (0 : Int) ≤ (j : Int) := by omega
      have g2 : (j : Int) < (xs.length : Int) := by omega
      by_cases hxn : x = n
      · subst hxn
        have ex : (x == x) = true := by simp
        have HE : Hid (decide (x ∈ xs) = true) := decide_eq_true (HQ.out.2 (by simp))
        go_wp2_with fail
        go_ret
        exact ⟨by rw [HE.out]; rfl, hbl⟩
      · have ex : (x == n) = false := by simpa using hxn
        have HE : Hid (n ∈ xs ↔ n ∈ xs.drop (j + 1)) := by
          have : n ≠ x := fun e => hxn e.symm
          rw [Hid, HQ.out]
          simp [this]
        go_wp2_with fail
        go_roundw
        case rel => exact ⟨j + 1, by omega, by go_num, HE, hbl⟩
        case measure => simp [intOf]; omega
    · have HE : Hid (decide (n ∈ xs) = false) := by
        refine decide_eq_false fun h => ?_
        have := hq.out.1 h
        rw [List.drop_eq_nil_of_le (by omega)] at this
        simp at this
      clear hq
      go_wp2_with fail
      go_ret
      exact ⟨by rw [HE.out]; rfl, hbl⟩
end Go.Proofs.Ytlaaihnokoeliaa

/-! LawMOf: laws.FnMatchOf answers true at every code. -/
namespace Go.Proofs.Ytlaaihnokoeliaa
open Go.RowKit Go.Deep
attribute [local go_sem ↓] Go.wp_at_zero Go.wp_at_succ

set_option maxRecDepth 100000 in
set_option maxHeartbeats 4000000 in
theorem matchOf_walk (a0 : Option Addr) (len cap : Nat) (w : World) (hby : Bytes w a0 len) (hlen : len ≤ cap) :
    Calls Try.prog 5 #[.slice a0 len cap] w fun e w' => e = .returned (.bool true) ∧ Below w.heap.size w w' := by
  have HBY := Lib.hid hby
  clear hby
  by_cases hbiglen : 1048576 < len
  · go_enter Try.func5, Try.ntmps5
    go_wp2_with fail
    go_ret
    exact ⟨rfl, Below.refl _ _⟩
  go_enter Try.func5, Try.ntmps5
  go_wp2_with fail
  with_reducible refine (DrawMatchOf_z a0 len cap _ HBY.out hlen).mono ?_
  rintro e wa ⟨s, v, a, c, k, s2, v2, a2, c2, k2, rfl, ⟨hSk, hZ⟩, ⟨hSk2, hZ2⟩, hb, hl, hl2⟩
  have Hlow := Lib.hid hb
  have HZ := Lib.hid hZ
  have HZ2 := Lib.hid hZ2
  have HL := Lib.hid hl
  have Hm : Hid (Sl wa 0 wa.heap.size a2 k2) := hl2.mono (Nat.zero_le _) (Nat.le_refl _)
  clear hb hl hl2 HBY hZ hZ2
  have hbx : Below wa.heap.size wa (wa.alloc (.cells #[.int .i64 s, .int .i64 v, .slice a (flen k) c] 25)) := box_low _ _
  have Hn : Hid (Tb wa.heap.size s v a c k (wa.alloc (.cells #[.int .i64 s, .int .i64 v, .slice a (flen k) c] 25))) := Tb.new HL.out
  have Hlow' : Hid (Below w.heap.size w (wa.alloc (.cells #[.int .i64 s, .int .i64 v, .slice a (flen k) c] 25))) := below_next Hlow.out hbx
  have Hm' : Hid (Sl (wa.alloc (.cells #[.int .i64 s, .int .i64 v, .slice a (flen k) c] 25)) 0 (wa.alloc (.cells #[.int .i64 s, .int .i64 v, .slice a (flen k) c] 25)).heap.size a2 k2) := Hm.out.next hbx
  clear Hlow Hm
  have Hlow := Hlow'
  clear Hlow'
  have Hm := Hm'
  clear Hm'
  have Hp := Hn
  clear Hn hbx
  clear HL
  have hbx : Below (wa.alloc (.cells #[.int .i64 s, .int .i64 v, .slice a (flen k) c] 25)).heap.size (wa.alloc (.cells #[.int .i64 s, .int .i64 v, .slice a (flen k) c] 25)) ((wa.alloc (.cells #[.int .i64 s, .int .i64 v, .slice a (flen k) c] 25)).alloc (.cells #[.int .i64 s2, .int .i64 v2, .slice a2 (flen k2) c2] 25)) := box_low _ _
  have Hn : Hid (Tb (wa.heap.size + 1) s2 v2 a2 c2 k2 ((wa.alloc (.cells #[.int .i64 s, .int .i64 v, .slice a (flen k) c] 25)).alloc (.cells #[.int .i64 s2, .int .i64 v2, .slice a2 (flen k2) c2] 25))) := (show (wa.alloc (.cells #[.int .i64 s, .int .i64 v, .slice a (flen k) c] 25)).heap.size = (wa.heap.size + 1) from by simp) ▸ Tb.new Hm.out
  have Hlow' : Hid (Below w.heap.size w ((wa.alloc (.cells #[.int .i64 s, .int .i64 v, .slice a (flen k) c] 25)).alloc (.cells #[.int .i64 s2, .int .i64 v2, .slice a2 (flen k2) c2] 25))) := below_next Hlow.out hbx
  have Hm' : Hid (Sl ((wa.alloc (.cells #[.int .i64 s, .int .i64 v, .slice a (flen k) c] 25)).alloc (.cells #[.int .i64 s2, .int .i64 v2, .slice a2 (flen k2) c2] 25)) 0 ((wa.alloc (.cells #[.int .i64 s, .int .i64 v, .slice a (flen k) c] 25)).alloc (.cells #[.int .i64 s2, .int .i64 v2, .slice a2 (flen k2) c2] 25)).heap.size a2 k2) := Hm.out.next hbx
  have Hp' : Hid (Tb wa.heap.size s v a c k ((wa.alloc (.cells #[.int .i64 s, .int .i64 v, .slice a (flen k) c] 25)).alloc (.cells #[.int .i64 s2, .int .i64 v2, .slice a2 (flen k2) c2] 25))) := Hp.out.next hbx
  clear Hlow Hm Hp
  have Hlow := Hlow'
  clear Hlow'
  have Hm := Hm'
  clear Hm'
  have Hp := Hp'
  clear Hp'
  have Ht := Hn
  clear Hn hbx
  clear Hm
  have qp0 := Hp.out.c0
  have qp1 := Hp.out.c1
  have qp2 := Hp.out.c2
  have qt0 := Ht.out.c0
  have qt1 := Ht.out.c1
  have qt2 := Ht.out.c2
  go_wp2_with fail
  with_reducible refine (sMatchOf_any s v a c k s2 v2 a2 c2 k2 _ Hp.out.sl Ht.out.sl).mono ?_
  rintro e wx1 ⟨Aw, Cw, bw, tw, hdw, rfl, hb, hsw⟩
  have HDw := Lib.hid hdw
  clear hdw
  clear qp0 qp1 qp2 qt0 qt1 qt2
  have Hlow' : Hid (Below w.heap.size w wx1) := below_next Hlow.out hb
  have Hp' : Hid (Tb wa.heap.size s v a c k wx1) := Hp.out.next hb
  have Ht' : Hid (Tb (wa.heap.size + 1) s2 v2 a2 c2 k2 wx1) := Ht.out.next hb
  clear Hlow Hp Ht
  have Hlow := Hlow'
  clear Hlow'
  have Hp := Hp'
  clear Hp'
  have Ht := Ht'
  clear Ht'
  clear hb
  have Hw : Hid (BSl wx1 0 wx1.heap.size Aw bw) := hsw
  clear hsw
  have qp0 := Hp.out.c0
  have qp1 := Hp.out.c1
  have qp2 := Hp.out.c2
  have qt0 := Ht.out.c0
  have qt1 := Ht.out.c1
  have qt2 := Ht.out.c2
  go_wp2_with fail
  with_reducible refine (iMatchOf_any s v a c k s2 v2 a2 c2 k2 _ Hp.out.sl Ht.out.sl).mono ?_
  rintro e wx2 ⟨Ax, Cx, bx, tx, hdx, rfl, hb, hsx⟩
  rw [HDw.out] at hdx
  simp only [Prod.mk.injEq] at hdx
  obtain ⟨rfl, rfl⟩ := hdx
  clear qp0 qp1 qp2 qt0 qt1 qt2
  have Hlow' : Hid (Below w.heap.size w wx2) := below_next Hlow.out hb
  have Hp' : Hid (Tb wa.heap.size s v a c k wx2) := Hp.out.next hb
  have Ht' : Hid (Tb (wa.heap.size + 1) s2 v2 a2 c2 k2 wx2) := Ht.out.next hb
  have Hw' : Hid (BSl wx2 0 wx2.heap.size Aw bw) := Hw.out.next hb
  clear Hlow Hp Ht Hw
  have Hlow := Hlow'
  clear Hlow'
  have Hp := Hp'
  clear Hp'
  have Ht := Ht'
  clear Ht'
  have Hw := Hw'
  clear Hw'
  clear hb
  have Hx : Hid (BSl wx2 0 wx2.heap.size Ax bw) := hsx
  clear hsx
  have HSM := Lib.hid (ma_small HDw.out)
  have eb : (tw != tw) = false := by simp
  have eb2 : (tw == tw) = true := by simp
  go_wp2_with fail
  with_reducible refine (laSubst_same bw Ax Aw Cx Cw _ Hx.out Hw.out (by have := HSM.out.1; omega) HSM.out.2).mono ?_
  rintro e wx3 ⟨rfl, hb⟩
  have Hlow' : Hid (Below w.heap.size w wx3) := below_next Hlow.out hb
  have Hp' : Hid (Tb wa.heap.size s v a c k wx3) := Hp.out.next hb
  have Ht' : Hid (Tb (wa.heap.size + 1) s2 v2 a2 c2 k2 wx3) := Ht.out.next hb
  have Hw' : Hid (BSl wx3 0 wx3.heap.size Aw bw) := Hw.out.next hb
  have Hx' : Hid (BSl wx3 0 wx3.heap.size Ax bw) := Hx.out.next hb
  clear Hlow Hp Ht Hw Hx
  have Hlow := Hlow'
  clear Hlow'
  have Hp := Hp'
  clear Hp'
  have Ht := Ht'
  clear Ht'
  have Hw := Hw'
  clear Hw'
  have Hx := Hx'
  clear Hx'
  clear hb
  cases tw with
  | false =>
    go_wp2_with fail
    with_reducible refine (laSubst_same bw Ax Aw Cx Cw _ Hx.out Hw.out (by have := HSM.out.1; omega) HSM.out.2).mono ?_
    rintro e wx4 ⟨rfl, hb⟩
    have Hlow' : Hid (Below w.heap.size w wx4) := below_next Hlow.out hb
    have Hp' : Hid (Tb wa.heap.size s v a c k wx4) := Hp.out.next hb
    have Ht' : Hid (Tb (wa.heap.size + 1) s2 v2 a2 c2 k2 wx4) := Ht.out.next hb
    have Hw' : Hid (BSl wx4 0 wx4.heap.size Aw bw) := Hw.out.next hb
    have Hx' : Hid (BSl wx4 0 wx4.heap.size Ax bw) := Hx.out.next hb
    clear Hlow Hp Ht Hw Hx
    have Hlow := Hlow'
    clear Hlow'
    have Hp := Hp'
    clear Hp'
    have Ht := Ht'
    clear Ht'
    have Hw := Hw'
    clear Hw'
    have Hx := Hx'
    clear Hx'
    clear hb
    go_wp2_with fail
    go_ret
    exact ⟨rfl, Hlow.out⟩
  | true =>
    clear eb eb2
    have HOK : Hid (okW s v k 16 = true) := by rcases maR_cases HDw.out with ⟨h, _⟩ | ⟨_, h, _, _⟩; cases h; exact h
    have HOK2 : Hid (okW s2 v2 k2 16 = true) := by rcases maR_cases HDw.out with ⟨h, _⟩ | ⟨_, _, h, _⟩; cases h; exact h
    have hk16 := ((okW_iff _ _ _ _).1 HOK.out).2.2
    have hk216 := ((okW_iff _ _ _ _).1 HOK2.out).2.2
    clear Hw
    have HSUB := Lib.hid (ma_sub HDw.out HZ.out HZ2.out).1
    have HVS := Lib.hid (ma_vars HDw.out)
    have qp0 := Hp.out.c0
    have qp1 := Hp.out.c1
    have qp2 := Hp.out.c2
    go_wp2_with fail
    with_reducible refine (iSubstDo_any bw Ax Cx s v a c k _ Hx.out (by have := HSM.out.1; omega) Hp.out.sl).mono ?_
    rintro e wx4 ⟨ay, cy, sy, vy, ky, ty, hdy, rfl, hb, hly⟩
    rw [HSUB.out] at hdy
    simp only [Prod.mk.injEq] at hdy
    obtain ⟨rfl, rfl, rfl, rfl⟩ := hdy
    clear qp0 qp1 qp2
    have Hlow' : Hid (Below w.heap.size w wx4) := below_next Hlow.out hb
    have Hp' : Hid (Tb wa.heap.size s v a c k wx4) := Hp.out.next hb
    have Ht' : Hid (Tb (wa.heap.size + 1) s2 v2 a2 c2 k2 wx4) := Ht.out.next hb
    have Hx' : Hid (BSl wx4 0 wx4.heap.size Ax bw) := Hx.out.next hb
    clear Hlow Hp Ht Hx
    have Hlow := Hlow'
    clear Hlow'
    have Hp := Hp'
    clear Hp'
    have Ht := Ht'
    clear Ht'
    have Hx := Hx'
    clear Hx'
    clear hb
    have Hly := Lib.hid hly
    clear hly
    have hbx : Below wx4.heap.size wx4 (wx4.alloc (.cells #[.int .i64 s2, .int .i64 v2, .slice ay (flen k2) cy] 25)) := box_low _ _
    have Hn : Hid (Tb wx4.heap.size s2 v2 ay cy k2 (wx4.alloc (.cells #[.int .i64 s2, .int .i64 v2, .slice ay (flen k2) cy] 25))) := Tb.new Hly.out
    have Hlow' : Hid (Below w.heap.size w (wx4.alloc (.cells #[.int .i64 s2, .int .i64 v2, .slice ay (flen k2) cy] 25))) := below_next Hlow.out hbx
    have Hp' : Hid (Tb wa.heap.size s v a c k (wx4.alloc (.cells #[.int .i64 s2, .int .i64 v2, .slice ay (flen k2) cy] 25))) := Hp.out.next hbx
    have Ht' : Hid (Tb (wa.heap.size + 1) s2 v2 a2 c2 k2 (wx4.alloc (.cells #[.int .i64 s2, .int .i64 v2, .slice ay (flen k2) cy] 25))) := Ht.out.next hbx
    have Hx' : Hid (BSl (wx4.alloc (.cells #[.int .i64 s2, .int .i64 v2, .slice ay (flen k2) cy] 25)) 0 (wx4.alloc (.cells #[.int .i64 s2, .int .i64 v2, .slice ay (flen k2) cy] 25)).heap.size Ax bw) := Hx.out.next hbx
    clear Hlow Hp Ht Hx
    have Hlow := Hlow'
    clear Hlow'
    have Hp := Hp'
    clear Hp'
    have Ht := Ht'
    clear Ht'
    have Hx := Hx'
    clear Hx'
    have Hy := Hn
    clear Hn hbx
    clear Hly
    have qp0 := Hp.out.c0
    have qp1 := Hp.out.c1
    have qp2 := Hp.out.c2
    go_wp2_with fail
    with_reducible refine (iTermVars_any s v a c k _ Hp.out.sl).mono ?_
    rintro e wx5 ⟨AV, CV, xs, hxs, rfl, hb, hio⟩
    have HI := Lib.hid (hio.sl.mono (lo' := 0) (Nat.zero_le _) (Nat.le_refl _))
    have HXS : Hid (xs = bw.map (·.1)) := hxs.trans HVS.out.symm
    clear hio hxs
    clear qp0 qp1 qp2
    have Hlow' : Hid (Below w.heap.size w wx5) := below_next Hlow.out hb
    have Hp' : Hid (Tb wa.heap.size s v a c k wx5) := Hp.out.next hb
    have Ht' : Hid (Tb (wa.heap.size + 1) s2 v2 a2 c2 k2 wx5) := Ht.out.next hb
    have Hx' : Hid (BSl wx5 0 wx5.heap.size Ax bw) := Hx.out.next hb
    have Hy' : Hid (Tb wx4.heap.size s2 v2 ay cy k2 wx5) := Hy.out.next hb
    clear Hlow Hp Ht Hx Hy
    have Hlow := Hlow'
    clear Hlow'
    have Hp := Hp'
    clear Hp'
    have Ht := Ht'
    clear Ht'
    have Hx := Hx'
    clear Hx'
    have Hy := Hy'
    clear Hy'
    clear hb
    have hxl : xs.length = bw.length := by rw [HXS.out, List.length_map]
    have HXL := Lib.hid hxl
    have hsm1 := HSM.out.1
    clear hxl
    go_wp2_with fail
    go_loopw [12] (fun i wr => ∃ j : Nat, i = .int .i64 j ∧ j ≤ bw.length ∧ Hid (Below w.heap.size w wr) ∧ Hid (Tb wa.heap.size s v a c k wr) ∧ Hid (Tb (wa.heap.size + 1) s2 v2 a2 c2 k2 wr) ∧ Hid (BSl wr 0 wr.heap.size Ax bw) ∧ Hid (Tb wx4.heap.size s2 v2 ay cy k2 wr) ∧ Hid (ISl wr 0 wr.heap.size AV xs)) (fun i _ => bw.length - (intOf i).toNat)
    case atStart => exact ⟨0, rfl, Nat.zero_le _, Hlow, Hp, Ht, Hx, Hy, HI⟩
    case round =>
      clear Hlow Hp Ht Hx Hy HI
      obtain ⟨j, rfl, hj, Hlow, Hp, Ht, Hx, Hy, HI⟩ := hrel
      by_cases hlt : j < bw.length
      · have g1 : (0 : Int) ≤ (j : Int) := by omega
        have g2 : (j : Int) < (bw.length : Int) := by omega
        obtain ⟨rb, ro, x, sy, vy, ky, ya, yc, hA, hy, d0, d1, d2, d3, hsl⟩ := bsl_at Hx.out hlt
        subst hA
        have HIN : Hid (decide (x ∈ xs) = true) := decide_eq_true (by rw [HXS.out]; exact List.mem_map.2 ⟨_, List.mem_of_getElem? hy, rfl⟩)
        clear hy hsl d1 d2 d3
        go_wp2_with fail
        with_reducible refine (laIn_any xs AV CV x _ HI.out (by have := HXL.out; omega)).mono ?_
        rw [HIN.out]
        rintro e wx6 ⟨rfl, hb⟩
        have Hlow' : Hid (Below w.heap.size w wx6) := below_next Hlow.out hb
        have Hp' : Hid (Tb wa.heap.size s v a c k wx6) := Hp.out.next hb
        have Ht' : Hid (Tb (wa.heap.size + 1) s2 v2 a2 c2 k2 wx6) := Ht.out.next hb
        have Hx' : Hid (BSl wx6 0 wx6.heap.size (some ⟨rb, ro, none⟩) bw) := Hx.out.next hb
        have Hy' : Hid (Tb wx4.heap.size s2 v2 ay cy k2 wx6) := Hy.out.next hb
        have HI' : Hid (ISl wx6 0 wx6.heap.size AV xs) := HI.out.next hb
        clear Hlow Hp Ht Hx Hy HI
        have Hlow := Hlow'
        clear Hlow'
        have Hp := Hp'
        clear Hp'
        have Ht := Ht'
        clear Ht'
        have Hx := Hx'
        clear Hx'
        have Hy := Hy'
        clear Hy'
        have HI := HI'
        clear HI'
        clear hb
        clear d0
        go_wp2_with fail
        go_roundw
        case rel => exact ⟨j + 1, by go_num, by omega, Hlow, Hp, Ht, Hx, Hy, HI⟩
        case measure => simp [intOf]; omega
      · have hje : j = bw.length := by omega
        have el : ((bw.length : Int) == (xs.length : Int)) = true := by rw [HXL.out]; simp
        have qy0 := Hy.out.c0
        have qy1 := Hy.out.c1
        have qy2 := Hy.out.c2
        have qt0 := Ht.out.c0
        have qt1 := Ht.out.c1
        have qt2 := Ht.out.c2
        go_wp2_with fail
        with_reducible refine (laTerm_same (fsz k2) s2 v2 ay a2 cy c2 k2 _ Hy.out.sl Ht.out.sl (Nat.le_refl _) (by omega)).mono ?_
        rintro e wx6 ⟨rfl, hb⟩
        clear qy0 qy1 qy2 qt0 qt1 qt2
        have Hlow' : Hid (Below w.heap.size w wx6) := below_next Hlow.out hb
        have Hp' : Hid (Tb wa.heap.size s v a c k wx6) := Hp.out.next hb
        have Ht' : Hid (Tb (wa.heap.size + 1) s2 v2 a2 c2 k2 wx6) := Ht.out.next hb
        have Hx' : Hid (BSl wx6 0 wx6.heap.size Ax bw) := Hx.out.next hb
        have Hy' : Hid (Tb wx4.heap.size s2 v2 ay cy k2 wx6) := Hy.out.next hb
        have HI' : Hid (ISl wx6 0 wx6.heap.size AV xs) := HI.out.next hb
        clear Hlow Hp Ht Hx Hy HI
        have Hlow := Hlow'
        clear Hlow'
        have Hp := Hp'
        clear Hp'
        have Ht := Ht'
        clear Ht'
        have Hx := Hx'
        clear Hx'
        have Hy := Hy'
        clear Hy'
        have HI := HI'
        clear HI'
        clear hb
        go_wp2_with fail
        go_ret
        exact ⟨rfl, Hlow.out⟩
end Go.Proofs.Ytlaaihnokoeliaa
