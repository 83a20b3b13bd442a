/- Several texts in one: LawMMade. -/
import Derived.Test.YtlaaihnokoeliaaKMat15
import Derived.Test.YtlaaihnokoeliaaKMat19
import Derived.Test.YtlaaihnokoeliaaKMat20
import Derived.Test.YtlaaihnokoeliaaKMat14
import Derived.Test.YtlaaihnokoeliaaKMat17
import Derived.Test.YtlaaihnokoeliaaKMat10

/-! LawMMade: laws.FnMatchMade answers true at every code. -/
namespace Go.Proofs.Ytlaaihnokoeliaa
open Go.RowKit Go.Deep
attribute [local go_sem ↓] Go.wp_at_zero Go.wp_at_succ

set_option maxRecDepth 100000 in
set_option maxHeartbeats 4000000 in
theorem matchMade_walk (a0 : Option Addr) (len cap : Nat) (w : World) (hby : Bytes w a0 len) (hlen : len ≤ cap) :
    Calls Try.prog 4 #[.slice a0 len cap] w fun e w' => e = .returned (.bool true) ∧ Below w.heap.size w w' := by
  have HBY := Lib.hid hby
  clear hby
  by_cases hbiglen : 1048576 < len
  · go_enter Try.func4, Try.ntmps4
    go_wp2_with fail
    go_ret
    exact ⟨rfl, Below.refl _ _⟩
  go_enter Try.func4, Try.ntmps4
  go_wp2_with fail
  with_reducible refine (DrawSubstDo_any a0 len cap _ HBY.out hlen).mono ?_
  rintro e wa ⟨us, A, C, s, v, a, c, k, rfl, hbl, hSk, hb, hi, hl⟩
  have Hlow := Lib.hid hb
  have HBS : Hid (BSl wa 0 wa.heap.size A us) := hi.mono (Nat.zero_le _) (Nat.le_refl _)
  have HL := Lib.hid hl
  clear hb hi hl HBY
  have hbx : Below wa.heap.size wa (wa.alloc (.cells #[.int .i64 s, .int .i64 v, .slice a (flen k) c] 25)) := box_low _ _
  have Hn : Hid (Tb wa.heap.size s v a c k (wa.alloc (.cells #[.int .i64 s, .int .i64 v, .slice a (flen k) c] 25))) := Tb.new HL.out
  have Hlow' : Hid (Below w.heap.size w (wa.alloc (.cells #[.int .i64 s, .int .i64 v, .slice a (flen k) c] 25))) := below_next Hlow.out hbx
  have HBS' : Hid (BSl (wa.alloc (.cells #[.int .i64 s, .int .i64 v, .slice a (flen k) c] 25)) 0 (wa.alloc (.cells #[.int .i64 s, .int .i64 v, .slice a (flen k) c] 25)).heap.size A us) := HBS.out.next hbx
  clear Hlow HBS
  have Hlow := Hlow'
  clear Hlow'
  have HBS := HBS'
  clear HBS'
  have Hp := Hn
  clear Hn hbx
  clear HL
  have qp0 := Hp.out.c0
  have qp1 := Hp.out.c1
  have qp2 := Hp.out.c2
  go_wp2_with fail
  with_reducible refine (iSubstDo_any us A C s v a c k _ HBS.out (by omega) Hp.out.sl).mono ?_
  rintro e wx1 ⟨am, cm, sm, vm, km, tm, hdm, rfl, hb, hlm⟩
  have HDm := Lib.hid hdm
  clear hdm
  clear qp0 qp1 qp2
  have Hlow' : Hid (Below w.heap.size w wx1) := below_next Hlow.out hb
  have HBS' : Hid (BSl wx1 0 wx1.heap.size A us) := HBS.out.next hb
  have Hp' : Hid (Tb wa.heap.size s v a c k wx1) := Hp.out.next hb
  clear Hlow HBS Hp
  have Hlow := Hlow'
  clear Hlow'
  have HBS := HBS'
  clear HBS'
  have Hp := Hp'
  clear Hp'
  clear hb
  have Hlm := Lib.hid hlm
  clear hlm
  have hbx : Below wx1.heap.size wx1 (wx1.alloc (.cells #[.int .i64 sm, .int .i64 vm, .slice am (flen km) cm] 25)) := box_low _ _
  have Hn : Hid (Tb wx1.heap.size sm vm am cm km (wx1.alloc (.cells #[.int .i64 sm, .int .i64 vm, .slice am (flen km) cm] 25))) := Tb.new Hlm.out
  have Hlow' : Hid (Below w.heap.size w (wx1.alloc (.cells #[.int .i64 sm, .int .i64 vm, .slice am (flen km) cm] 25))) := below_next Hlow.out hbx
  have HBS' : Hid (BSl (wx1.alloc (.cells #[.int .i64 sm, .int .i64 vm, .slice am (flen km) cm] 25)) 0 (wx1.alloc (.cells #[.int .i64 sm, .int .i64 vm, .slice am (flen km) cm] 25)).heap.size A us) := HBS.out.next hbx
  have Hp' : Hid (Tb wa.heap.size s v a c k (wx1.alloc (.cells #[.int .i64 sm, .int .i64 vm, .slice am (flen km) cm] 25))) := Hp.out.next hbx
  clear Hlow HBS Hp
  have Hlow := Hlow'
  clear Hlow'
  have HBS := HBS'
  clear HBS'
  have Hp := Hp'
  clear Hp'
  have Hm := Hn
  clear Hn hbx
  clear Hlm
  have qp0 := Hp.out.c0
  have qp1 := Hp.out.c1
  have qp2 := Hp.out.c2
  go_wp2_with fail
  with_reducible refine (sSubstDo_any us A C s v a c k _ HBS.out (by omega) Hp.out.sl).mono ?_
  rintro e wx2 ⟨aw, cw, sw, vw, kw, tw, hdw, rfl, hb, hlw⟩
  rw [HDm.out] at hdw
  simp only [Prod.mk.injEq] at hdw
  obtain ⟨rfl, rfl, rfl, rfl⟩ := hdw
  clear qp0 qp1 qp2
  have Hlow' : Hid (Below w.heap.size w wx2) := below_next Hlow.out hb
  have HBS' : Hid (BSl wx2 0 wx2.heap.size A us) := HBS.out.next hb
  have Hp' : Hid (Tb wa.heap.size s v a c k wx2) := Hp.out.next hb
  have Hm' : Hid (Tb wx1.heap.size sm vm am cm km wx2) := Hm.out.next hb
  clear Hlow HBS Hp Hm
  have Hlow := Hlow'
  clear Hlow'
  have HBS := HBS'
  clear HBS'
  have Hp := Hp'
  clear Hp'
  have Hm := Hm'
  clear Hm'
  clear hb
  have Hlw := Lib.hid hlw
  clear hlw
  have hbx : Below wx2.heap.size wx2 (wx2.alloc (.cells #[.int .i64 sm, .int .i64 vm, .slice aw (flen km) cw] 25)) := box_low _ _
  have Hn : Hid (Tb wx2.heap.size sm vm aw cw km (wx2.alloc (.cells #[.int .i64 sm, .int .i64 vm, .slice aw (flen km) cw] 25))) := Tb.new Hlw.out
  have Hlow' : Hid (Below w.heap.size w (wx2.alloc (.cells #[.int .i64 sm, .int .i64 vm, .slice aw (flen km) cw] 25))) := below_next Hlow.out hbx
  have HBS' : Hid (BSl (wx2.alloc (.cells #[.int .i64 sm, .int .i64 vm, .slice aw (flen km) cw] 25)) 0 (wx2.alloc (.cells #[.int .i64 sm, .int .i64 vm, .slice aw (flen km) cw] 25)).heap.size A us) := HBS.out.next hbx
  have Hp' : Hid (Tb wa.heap.size s v a c k (wx2.alloc (.cells #[.int .i64 sm, .int .i64 vm, .slice aw (flen km) cw] 25))) := Hp.out.next hbx
  have Hm' : Hid (Tb wx1.heap.size sm vm am cm km (wx2.alloc (.cells #[.int .i64 sm, .int .i64 vm, .slice aw (flen km) cw] 25))) := Hm.out.next hbx
  clear Hlow HBS Hp Hm
  have Hlow := Hlow'
  clear Hlow'
  have HBS := HBS'
  clear HBS'
  have Hp := Hp'
  clear Hp'
  have Hm := Hm'
  clear Hm'
  have Hw := Hn
  clear Hn hbx
  clear Hlw
  have hkw := sdR_sz HDm.out
  have eb : (tm != tm) = false := by simp
  have eb2 : (tm == tm) = true := by simp
  have qm0 := Hm.out.c0
  have qm1 := Hm.out.c1
  have qm2 := Hm.out.c2
  have qw0 := Hw.out.c0
  have qw1 := Hw.out.c1
  have qw2 := Hw.out.c2
  go_wp2_with fail
  with_reducible refine (laTerm_same (fsz km) sm vm am aw cm cw km _ Hm.out.sl Hw.out.sl (Nat.le_refl _) (by omega)).mono ?_
  rintro e wx3 ⟨rfl, hb⟩
  clear qm0 qm1 qm2 qw0 qw1 qw2
  have Hlow' : Hid (Below w.heap.size w wx3) := below_next Hlow.out hb
  have HBS' : Hid (BSl wx3 0 wx3.heap.size A us) := HBS.out.next hb
  have Hp' : Hid (Tb wa.heap.size s v a c k wx3) := Hp.out.next hb
  have Hm' : Hid (Tb wx1.heap.size sm vm am cm km wx3) := Hm.out.next hb
  have Hw' : Hid (Tb wx2.heap.size sm vm aw cw km wx3) := Hw.out.next hb
  clear Hlow HBS Hp Hm Hw
  have Hlow := Hlow'
  clear Hlow'
  have HBS := HBS'
  clear HBS'
  have Hp := Hp'
  clear Hp'
  have Hm := Hm'
  clear Hm'
  have Hw := Hw'
  clear Hw'
  clear hb
  cases tm with
  | false =>
    have qm0 := Hm.out.c0
    have qm1 := Hm.out.c1
    have qm2 := Hm.out.c2
    have qw0 := Hw.out.c0
    have qw1 := Hw.out.c1
    have qw2 := Hw.out.c2
    go_wp2_with fail
    with_reducible refine (laTerm_same (fsz km) sm vm am aw cm cw km _ Hm.out.sl Hw.out.sl (Nat.le_refl _) (by omega)).mono ?_
    rintro e wx4 ⟨rfl, hb⟩
    clear qm0 qm1 qm2 qw0 qw1 qw2
    have Hlow' : Hid (Below w.heap.size w wx4) := below_next Hlow.out hb
    have HBS' : Hid (BSl wx4 0 wx4.heap.size A us) := HBS.out.next hb
    have Hp' : Hid (Tb wa.heap.size s v a c k wx4) := Hp.out.next hb
    have Hm' : Hid (Tb wx1.heap.size sm vm am cm km wx4) := Hm.out.next hb
    have Hw' : Hid (Tb wx2.heap.size sm vm aw cw km wx4) := Hw.out.next hb
    clear Hlow HBS Hp Hm Hw
    have Hlow := Hlow'
    clear Hlow'
    have HBS := HBS'
    clear HBS'
    have Hp := Hp'
    clear Hp'
    have Hm := Hm'
    clear Hm'
    have Hw := Hw'
    clear Hw'
    clear hb
    go_wp2_with fail
    go_ret
    exact ⟨rfl, Hlow.out⟩
  | true =>
    clear eb eb2 Hw
    obtain ⟨bz, hbz, hmade, hsz, hsd⟩ : ∃ bz, maR s v k sm vm km = (bz, true) ∧ bz.length ≤ 16 ∧ (∀ x ∈ bz, fsz x.2.2.2 ≤ 15) ∧ ∀ x ∈ bz, sdR us 0 x.1 .nil = (x.2.1, x.2.2.1, x.2.2.2, true) := by
      rcases sdR_cases HDm.out with ⟨h, _⟩ | ⟨_, hsok, o1, ht, o2⟩
      · cases h
      obtain ⟨bz, hm, ha⟩ := ma_made o1 o2 ht
      have hi := maR_in hm
      refine ⟨bz, hm, hi.2.2.1, fun x hx => (hi.2.1 x.1 x.2 (sv_mem hi.1 hx)).2.2, fun x hx => ?_⟩
      have hx1 := hi.2.2.2.1 x.1 (by rw [sv_mem hi.1 hx]; rfl)
      have hx2 := (hi.2.1 x.1 x.2 (sv_mem hi.1 hx)).2.2
      exact sdR_of hsok ((okW_iff _ _ _ _).2 ⟨(okN_iff _ _ _).2 ⟨by simp [flen, ar], fun _ => by omega, fun h => absurd rfl h⟩, rfl, by simp [fsz]⟩) (ha x hx) (by omega)
    have HBZ := Lib.hid hbz
    have HSZ := Lib.hid hsz
    have HSD := Lib.hid hsd
    clear hbz hsz hsd
    have qp0 := Hp.out.c0
    have qp1 := Hp.out.c1
    have qp2 := Hp.out.c2
    have qm0 := Hm.out.c0
    have qm1 := Hm.out.c1
    have qm2 := Hm.out.c2
    go_wp2_with fail
    with_reducible refine (iMatchOf_any s v a c k sm vm am cm km _ Hp.out.sl Hm.out.sl).mono ?_
    rintro e wx4 ⟨Az, Cz, bz, tz, hdz, rfl, hb, hsz⟩
    rw [HBZ.out] at hdz
    simp only [Prod.mk.injEq] at hdz
    obtain ⟨rfl, rfl⟩ := hdz
    clear qp0 qp1 qp2 qm0 qm1 qm2
    have Hlow' : Hid (Below w.heap.size w wx4) := below_next Hlow.out hb
    have HBS' : Hid (BSl wx4 0 wx4.heap.size A us) := HBS.out.next hb
    have Hp' : Hid (Tb wa.heap.size s v a c k wx4) := Hp.out.next hb
    have Hm' : Hid (Tb wx1.heap.size sm vm am cm km wx4) := Hm.out.next hb
    clear Hlow HBS Hp Hm
    have Hlow := Hlow'
    clear Hlow'
    have HBS := HBS'
    clear HBS'
    have Hp := Hp'
    clear Hp'
    have Hm := Hm'
    clear Hm'
    clear hb
    have Hz : Hid (BSl wx4 0 wx4.heap.size Az bz) := hsz
    clear hsz
    go_wp2_with fail
    go_loopw [11] (fun i wr => ∃ j : Nat, i = .int .i64 j ∧ j ≤ bz.length ∧ Hid (Below w.heap.size w wr) ∧ Hid (BSl wr 0 wr.heap.size A us) ∧ Hid (Tb wa.heap.size s v a c k wr) ∧ Hid (Tb wx1.heap.size sm vm am cm km wr) ∧ Hid (BSl wr 0 wr.heap.size Az bz)) (fun i _ => bz.length - (intOf i).toNat)
    case atStart => exact ⟨0, rfl, Nat.zero_le _, Hlow, HBS, Hp, Hm, Hz⟩
    case round =>
      clear Hlow HBS Hp Hm Hz
      obtain ⟨j, rfl, hj, Hlow, HBS, Hp, Hm, Hz⟩ := hrel
      by_cases hlt : j < bz.length
      · have g1 : (0 : Int) ≤ (j : Int) := by omega
        have g2 : (j : Int) < (bz.length : Int) := by omega
        obtain ⟨rb, ro, x, sy, vy, ky, ya, yc, hA, hy, d0, d1, d2, d3, hsl⟩ := bsl_at Hz.out hlt
        subst hA
        have HXD := Lib.hid (HSD.out _ (List.mem_of_getElem? hy))
        have hyz := HSZ.out _ (List.mem_of_getElem? hy)
        dsimp only at HXD hyz
        have Hsl := Lib.hid hsl
        have Hd1 := Lib.hid d1
        have Hd2 := Lib.hid d2
        have Hd3 := Lib.hid d3
        clear hy hsl d1 d2 d3
        have HC : Hid (Calls Try.prog 16 #[.slice A us.length C, .agg #[.int .i64 0, .int .i64 x, .slice none 0 0]] wr (SdPost us 0 x .nil wr)) := iSubstDo_any us A C 0 x none 0 .nil _ HBS.out (by omega) (.inl rfl)
        go_wp2_with fail
        with_reducible refine HC.out.mono ?_
        rintro e wx5 ⟨aq, cq, sq, vq, kq, tq, hdq, rfl, hb, hlq⟩
        rw [HXD.out] at hdq
        simp only [Prod.mk.injEq] at hdq
        obtain ⟨rfl, rfl, rfl, rfl⟩ := hdq
        clear HC d0
        have Hlow' : Hid (Below w.heap.size w wx5) := below_next Hlow.out hb
        have HBS' : Hid (BSl wx5 0 wx5.heap.size A us) := HBS.out.next hb
        have Hp' : Hid (Tb wa.heap.size s v a c k wx5) := Hp.out.next hb
        have Hm' : Hid (Tb wx1.heap.size sm vm am cm km wx5) := Hm.out.next hb
        have Hz' : Hid (BSl wx5 0 wx5.heap.size (some ⟨rb, ro, none⟩) bz) := Hz.out.next hb
        have Hsl' : Hid (Sl wx5 0 wx5.heap.size ya ky) := Hsl.out.next hb
        have Hd1' : Hid (wx5.cell? ⟨rb, ro + j * 4 + 1, none⟩ = some (.int .i64 sy)) := cell_low hb Hd1.out
        have Hd2' : Hid (wx5.cell? ⟨rb, ro + j * 4 + 1 + 1, none⟩ = some (.int .i64 vy)) := cell_low hb Hd2.out
        have Hd3' : Hid (wx5.cell? ⟨rb, ro + j * 4 + 1 + 2, none⟩ = some (.slice ya (flen ky) yc)) := cell_low hb Hd3.out
        clear Hlow HBS Hp Hm Hz Hsl Hd1 Hd2 Hd3
        have Hlow := Hlow'
        clear Hlow'
        have HBS := HBS'
        clear HBS'
        have Hp := Hp'
        clear Hp'
        have Hm := Hm'
        clear Hm'
        have Hz := Hz'
        clear Hz'
        have Hsl := Hsl'
        clear Hsl'
        have Hd1 := Hd1'
        clear Hd1'
        have Hd2 := Hd2'
        clear Hd2'
        have Hd3 := Hd3'
        clear Hd3'
        clear hb
        have Hlq := Lib.hid hlq
        clear hlq
        have hbx : Below wx5.heap.size wx5 (wx5.alloc (.cells #[.int .i64 sy, .int .i64 vy, .slice aq (flen ky) cq] 25)) := box_low _ _
        have Hn : Hid (Tb wx5.heap.size sy vy aq cq ky (wx5.alloc (.cells #[.int .i64 sy, .int .i64 vy, .slice aq (flen ky) cq] 25))) := Tb.new Hlq.out
        have Hlow' : Hid (Below w.heap.size w (wx5.alloc (.cells #[.int .i64 sy, .int .i64 vy, .slice aq (flen ky) cq] 25))) := below_next Hlow.out hbx
        have HBS' : Hid (BSl (wx5.alloc (.cells #[.int .i64 sy, .int .i64 vy, .slice aq (flen ky) cq] 25)) 0 (wx5.alloc (.cells #[.int .i64 sy, .int .i64 vy, .slice aq (flen ky) cq] 25)).heap.size A us) := HBS.out.next hbx
        have Hp' : Hid (Tb wa.heap.size s v a c k (wx5.alloc (.cells #[.int .i64 sy, .int .i64 vy, .slice aq (flen ky) cq] 25))) := Hp.out.next hbx
        have Hm' : Hid (Tb wx1.heap.size sm vm am cm km (wx5.alloc (.cells #[.int .i64 sy, .int .i64 vy, .slice aq (flen ky) cq] 25))) := Hm.out.next hbx
        have Hz' : Hid (BSl (wx5.alloc (.cells #[.int .i64 sy, .int .i64 vy, .slice aq (flen ky) cq] 25)) 0 (wx5.alloc (.cells #[.int .i64 sy, .int .i64 vy, .slice aq (flen ky) cq] 25)).heap.size (some ⟨rb, ro, none⟩) bz) := Hz.out.next hbx
        have Hsl' : Hid (Sl (wx5.alloc (.cells #[.int .i64 sy, .int .i64 vy, .slice aq (flen ky) cq] 25)) 0 (wx5.alloc (.cells #[.int .i64 sy, .int .i64 vy, .slice aq (flen ky) cq] 25)).heap.size ya ky) := Hsl.out.next hbx
        have Hd1' : Hid ((wx5.alloc (.cells #[.int .i64 sy, .int .i64 vy, .slice aq (flen ky) cq] 25)).cell? ⟨rb, ro + j * 4 + 1, none⟩ = some (.int .i64 sy)) := cell_low hbx Hd1.out
        have Hd2' : Hid ((wx5.alloc (.cells #[.int .i64 sy, .int .i64 vy, .slice aq (flen ky) cq] 25)).cell? ⟨rb, ro + j * 4 + 1 + 1, none⟩ = some (.int .i64 vy)) := cell_low hbx Hd2.out
        have Hd3' : Hid ((wx5.alloc (.cells #[.int .i64 sy, .int .i64 vy, .slice aq (flen ky) cq] 25)).cell? ⟨rb, ro + j * 4 + 1 + 2, none⟩ = some (.slice ya (flen ky) yc)) := cell_low hbx Hd3.out
        clear Hlow HBS Hp Hm Hz Hsl Hd1 Hd2 Hd3
        have Hlow := Hlow'
        clear Hlow'
        have HBS := HBS'
        clear HBS'
        have Hp := Hp'
        clear Hp'
        have Hm := Hm'
        clear Hm'
        have Hz := Hz'
        clear Hz'
        have Hsl := Hsl'
        clear Hsl'
        have Hd1 := Hd1'
        clear Hd1'
        have Hd2 := Hd2'
        clear Hd2'
        have Hd3 := Hd3'
        clear Hd3'
        have Hq := Hn
        clear Hn hbx
        clear Hlq
        go_wp2_with fail
        generalize (wx5.alloc (.cells #[.int .i64 sy, .int .i64 vy, .slice aq (flen ky) cq] 25)) = wv at *
        have hu0 : ∀ u : After wv.heap.size wv, u.world.cell? ⟨wx5.heap.size, 0, none⟩ = some (.int .i64 sy) := fun u => cell_low u.below Hq.out.c0
        have hu1 : ∀ u : After wv.heap.size wv, u.world.cell? ⟨wx5.heap.size, 1, none⟩ = some (.int .i64 vy) := fun u => cell_low u.below Hq.out.c1
        have hu2 : ∀ u : After wv.heap.size wv, u.world.cell? ⟨wx5.heap.size, 2, none⟩ = some (.slice aq (flen ky) cq) := fun u => cell_low u.below Hq.out.c2
        have hu3 : ∀ u : After wv.heap.size wv, u.world.cell? ⟨rb, ro + j * 4 + 1, none⟩ = some (.int .i64 sy) := fun u => cell_low u.below Hd1.out
        have hu4 : ∀ u : After wv.heap.size wv, u.world.cell? ⟨rb, ro + j * 4 + 1 + 1, none⟩ = some (.int .i64 vy) := fun u => cell_low u.below Hd2.out
        have hu5 : ∀ u : After wv.heap.size wv, u.world.cell? ⟨rb, ro + j * 4 + 1 + 2, none⟩ = some (.slice ya (flen ky) yc) := fun u => cell_low u.below Hd3.out
        have HCALL : Hid (∀ u : After wv.heap.size wv, Calls Try.prog 18 #[.agg #[.int .i64 sy, .int .i64 vy, .slice aq (flen ky) cq], .agg #[.int .i64 sy, .int .i64 vy, .slice ya (flen ky) yc]] u.world fun e w' => e = .returned (.bool true) ∧ Below u.world.heap.size u.world w') := fun u => laTerm_same (fsz ky) sy vy aq ya cq yc ky u.world (Hq.out.sl.next u.below) (Hsl.out.next u.below) (Nat.le_refl _) (by omega)
        refine wp_region_after wv.heap.size (by kernel_rfl) (by kernel_rfl) ?_
        repeat (go_big_quiet_step ((go_at_call 18; exact Calls.after (After.below ‹_›).size (HCALL.out _))))
        refine wpQuiet_nil ?_
        rintro u ⟨⟨_, hu⟩, rfl⟩
        clear hu0 hu1 hu2 hu3 hu4 hu5 HCALL
        have Hlow' : Hid (Below w.heap.size w u) := below_next Hlow.out hu
        have HBS' : Hid (BSl u 0 u.heap.size A us) := HBS.out.next hu
        have Hp' : Hid (Tb wa.heap.size s v a c k u) := Hp.out.next hu
        have Hm' : Hid (Tb wx1.heap.size sm vm am cm km u) := Hm.out.next hu
        have Hz' : Hid (BSl u 0 u.heap.size (some ⟨rb, ro, none⟩) bz) := Hz.out.next hu
        have Hsl' : Hid (Sl u 0 u.heap.size ya ky) := Hsl.out.next hu
        have Hd1' : Hid (u.cell? ⟨rb, ro + j * 4 + 1, none⟩ = some (.int .i64 sy)) := cell_low hu Hd1.out
        have Hd2' : Hid (u.cell? ⟨rb, ro + j * 4 + 1 + 1, none⟩ = some (.int .i64 vy)) := cell_low hu Hd2.out
        have Hd3' : Hid (u.cell? ⟨rb, ro + j * 4 + 1 + 2, none⟩ = some (.slice ya (flen ky) yc)) := cell_low hu Hd3.out
        have Hq' : Hid (Tb wx5.heap.size sy vy aq cq ky u) := Hq.out.next hu
        clear Hlow HBS Hp Hm Hz Hsl Hd1 Hd2 Hd3 Hq
        have Hlow := Hlow'
        clear Hlow'
        have HBS := HBS'
        clear HBS'
        have Hp := Hp'
        clear Hp'
        have Hm := Hm'
        clear Hm'
        have Hz := Hz'
        clear Hz'
        have Hsl := Hsl'
        clear Hsl'
        have Hd1 := Hd1'
        clear Hd1'
        have Hd2 := Hd2'
        clear Hd2'
        have Hd3 := Hd3'
        clear Hd3'
        have Hq := Hq'
        clear Hq'
        clear hu
        go_wp2_with fail
        go_roundw
        case rel => exact ⟨j + 1, by go_num, by omega, Hlow, HBS, Hp, Hm, Hz⟩
        case measure => simp [intOf]; omega
      · have hje : j = bz.length := by omega
        go_wp2_with fail
        go_ret
        exact ⟨rfl, Hlow.out⟩
end Go.Proofs.Ytlaaihnokoeliaa
