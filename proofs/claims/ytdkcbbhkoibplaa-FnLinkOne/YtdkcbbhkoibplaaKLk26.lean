/- Several texts in one: LT, LawLBack, FrameO, Frame. -/
import Derived.Test.YtdkcbbhkoibplaaKLk6
import Derived.Test.YtdkcbbhkoibplaaKLk4
import Derived.Test.YtdkcbbhkoibplaaKLk21
import Derived.Test.YtdkcbbhkoibplaaKLk24
import Derived.Test.YtdkcbbhkoibplaaKLk25
import Derived.Test.YtdkcbbhkoibplaaKLk16
import Derived.Test.YtdkcbbhkoibplaaRows
import Derived.WalkKit
import Derived.ProofKit
import Derived.OpenShut
import Derived.ShutString
import Derived.ChangeOld
import Derived.Below
import Derived.Test.YtdkcbbhkoibplaaKLk2

/-! LT: laTerm on any two terms. -/
namespace Go.Proofs.Ytdkcbbhkoibplaa
open Go.RowKit Go.Deep

theorem boxes_LT {w wr : World} {x y z x' y' z' : Value} (h : Below (w.heap.size + 2) ((w.alloc (.cells #[x, y, z] 35)).alloc (.cells #[x', y', z'] 35)) wr) :
    wr.cell? ⟨w.heap.size, 2, none⟩ = some z ∧ wr.cell? ⟨w.heap.size + 1, 2, none⟩ = some z' := by
  refine ⟨?_, ?_⟩
  · rw [h.cell (by simp), World.cell?_alloc_lt _ _ _ (by simp), World.cell?_alloc_at _ _ _ _ (by simp)]; rfl
  · rw [h.cell (by simp), World.cell?_alloc_at _ _ _ _ (by simp)]; rfl

set_option maxRecDepth 100000 in
set_option maxHeartbeats 2000000 in
theorem laTerm_any (N : Nat) : ∀ (s v : Int) (a : Option Addr) (c : Nat) (k : Fo) (s' v' : Int) (a' : Option Addr) (c' : Nat) (k' : Fo) (w : World), Sl w 0 w.heap.size a k → Sl w 0 w.heap.size a' k' → fsz k ≤ N → N ≤ 1000000 →
    Calls Try.prog 29 #[.agg #[.int .i64 s, .int .i64 v, .slice a (flen k) c], .agg #[.int .i64 s', .int .i64 v', .slice a' (flen k') c']] w fun e w' => e = .returned (.bool (teq s v k s' v' k')) ∧ Below w.heap.size w w' := by
  induction N using Nat.strongRecOn with
  | _ N ih =>
    intro s v a c k s' v' a' c' k' w hl hl' hN hN2
    have hfl := flen_le_sz k
    have IH := Lib.hid ih
    clear ih
    have hb0 : Below w.heap.size w ((w.alloc (.cells #[.int .i64 s, .int .i64 v, .slice a (flen k) c] 35)).alloc (.cells #[.int .i64 s', .int .i64 v', .slice a' (flen k') c'] 35)) := ((Below.refl _ _).alloc (Nat.le_refl _) _).alloc (by simp) _
    have HB0 := Lib.hid hb0
    clear hb0
    by_cases hs : s = s'
    case neg =>
      have e0 : (s != s') = true := by simp [hs]
      have HF := Lib.hid (teq_sign (v := v) (k := k) (v' := v') (k' := k') hs)
      clear hs
      go_enter Try.func29, Try.ntmps29
      go_wp2_with fail
      go_ret
      exact ⟨by rw [HF.out]; rfl, HB0.out⟩
    subst hs
    have e0 : (s != s) = false := by simp
    by_cases hv : v = v'
    case neg =>
      have e1 : (v != v') = true := by simp [hv]
      have HF := Lib.hid (teq_var (s := s) (k := k) (s' := s) (k' := k') hv)
      clear hv
      go_enter Try.func29, Try.ntmps29
      go_wp2_with fail
      go_ret
      exact ⟨by rw [HF.out]; rfl, HB0.out⟩
    subst hv
    have e1 : (v != v) = false := by simp
    by_cases hk : flen k = flen k'
    case neg =>
      have e2 : ((flen k : Int) != (flen k' : Int)) = true := by simp; omega
      have HF := Lib.hid (teq_len (s := s) (v := v) (s' := s) (v' := v) hk)
      clear hk
      go_enter Try.func29, Try.ntmps29
      go_wp2_with fail
      go_ret
      exact ⟨by rw [HF.out]; rfl, HB0.out⟩
    have e2 : ((flen k : Int) != (flen k' : Int)) = false := by simp [hk]
    have hkl : flen k ≤ flen k' := by omega
    have hkg : flen k' ≤ flen k := by omega
    clear hk
    rw [teq_kids]
    go_enter Try.func29, Try.ntmps29
    go_wp2_with fail
    go_loopw [5] (fun i wr => ∃ j : Nat, j ≤ flen k ∧ i = .int .i64 j ∧ Hid (feq k k' = feq (fdrop j k) (fdrop j k')) ∧ Below (w.heap.size + 2) ((w.alloc (.cells #[.int .i64 s, .int .i64 v, .slice a (flen k) c] 35)).alloc (.cells #[.int .i64 s, .int .i64 v, .slice a' (flen k') c'] 35)) wr) (fun i _ => flen k - (intOf i).toNat)
    case atStart => exact ⟨0, by omega, rfl, rfl, Below.refl _ _⟩
    case round =>
      obtain ⟨j, hj, rfl, hfe, hbl⟩ := hrel
      have hsr := hbl.size
      simp at hsr
      obtain ⟨hx2, hy2⟩ := boxes_LT hbl
      have hbw := HB0.out.trans (hbl.mono (show w.heap.size ≤ w.heap.size + 2 by omega))
      by_cases hlt : j < flen k
      · rcases hl with rfl | ⟨b, o, rfl, hrow⟩
        · simp [flen] at hlt
        rcases hl' with rfl | ⟨b', o', rfl, hrow'⟩
        · simp [flen] at hkl; omega
        obtain ⟨s1, v1, kk, a1, c1, ⟨x, y, hd⟩, _, hbB, hk0, hk1, hk2, hsl⟩ := row_at (hrow.below hbw) hlt
        obtain ⟨s2, v2, kk2, a2, c2, ⟨x2, y2, hd2⟩, _, hbB', hk3, hk4, hk5, hsl2⟩ := row_at (hrow'.below hbw) (show j < flen k' by omega)
        have hfd := feq_drop hd hd2
        have hkN := fsz_kid hd
        have HS := Lib.hid hsl
        have HS2 := Lib.hid hsl2
        have HBL := Lib.hid hbl
        clear hd hd2 hsl hsl2 hrow hrow' hbl hbw
        have g1 : (0 : Int) ≤ (j : Int) := by omega
        have g2 : (j : Int) < (flen k : Int) := by omega
        have g3 : (j : Int) < (flen k' : Int) := by omega
        have hu0 : ∀ u : After wr.heap.size wr, u.world.cell? ⟨b, o + j * 3, none⟩ = some (.int .i64 s1) := fun u => u.cell (by simp; omega) hk0
        have hu1 : ∀ u : After wr.heap.size wr, u.world.cell? ⟨b, o + j * 3 + 1, none⟩ = some (.int .i64 v1) := fun u => u.cell (by simp; omega) hk1
        have hu2 : ∀ u : After wr.heap.size wr, u.world.cell? ⟨b, o + j * 3 + 2, none⟩ = some (.slice a1 (flen kk) c1) := fun u => u.cell (by simp; omega) hk2
        have hu3 : ∀ u : After wr.heap.size wr, u.world.cell? ⟨b', o' + j * 3, none⟩ = some (.int .i64 s2) := fun u => u.cell (by simp; omega) hk3
        have hu4 : ∀ u : After wr.heap.size wr, u.world.cell? ⟨b', o' + j * 3 + 1, none⟩ = some (.int .i64 v2) := fun u => u.cell (by simp; omega) hk4
        have hu5 : ∀ u : After wr.heap.size wr, u.world.cell? ⟨b', o' + j * 3 + 2, none⟩ = some (.slice a2 (flen kk2) c2) := fun u => u.cell (by simp; omega) hk5
        have hu6 : ∀ u : After wr.heap.size wr, u.world.cell? ⟨w.heap.size, 2, none⟩ = some (.slice (some ⟨b, o, none⟩) (flen k) c) := fun u => u.cell (by simp; omega) hx2
        have hu7 : ∀ u : After wr.heap.size wr, u.world.cell? ⟨w.heap.size + 1, 2, none⟩ = some (.slice (some ⟨b', o', none⟩) (flen k') c') := fun u => u.cell (by simp; omega) hy2
        have HCALL : Hid (∀ u : After wr.heap.size wr, Calls Try.prog 29 #[.agg #[.int .i64 s1, .int .i64 v1, .slice a1 (flen kk) c1], .agg #[.int .i64 s2, .int .i64 v2, .slice a2 (flen kk2) c2]] u.world fun e w' => e = .returned (.bool (teq s1 v1 kk s2 v2 kk2)) ∧ Below u.world.heap.size u.world w') := fun u => by
          have hu := u.below
          have hus := hu.size
          refine IH.out (fsz kk) (by omega) s1 v1 a1 c1 kk s2 v2 a2 c2 kk2 u.world ?_ ?_ (Nat.le_refl _) (by omega)
          · exact (HS.out.below (hu.mono (by omega))).mono (Nat.le_refl _) (by omega)
          · exact (HS2.out.below (hu.mono (by omega))).mono (Nat.le_refl _) (by omega)
        cases hte : teq s1 v1 kk s2 v2 kk2 with
        | true =>
          have HFE : Hid (feq k k' = feq (fdrop (j + 1) k) (fdrop (j + 1) k')) := by unfold Hid; rw [hfe.out, hfd, hte, Bool.true_and]
          rw [hte] at HCALL
          clear hfe hfd hte
          go_wp2_with fail
          refine wp_region_after wr.heap.size (by kernel_rfl) (by kernel_rfl) ?_
          repeat (go_big_quiet_step ((go_at_call 29; exact Calls.after (After.below ‹_›).size (HCALL.out _))))
          refine wpQuiet_nil ?_
          rintro u ⟨⟨_, hu⟩, rfl⟩
          clear hu0 hu1 hu2 hu3 hu4 hu5 hu6 hu7 hk0 hk1 hk2 hk3 hk4 hk5 hx2 hy2
          have HB2 := Lib.hid (HBL.out.trans (hu.mono hsr))
          clear hu
          go_wp2_with fail
          go_roundw
          case rel => exact ⟨j + 1, by omega, by go_num, HFE, HB2.out⟩
          case measure => simp [intOf]; omega
        | false =>
          have HFE : Hid (feq k k' = false) := by unfold Hid; rw [hfe.out, hfd, hte, Bool.false_and]
          rw [hte] at HCALL
          clear hfe hfd hte
          go_wp2_with fail
          refine wp_region_after wr.heap.size (by kernel_rfl) (by kernel_rfl) ?_
          repeat (go_big_quiet_step ((go_at_call 29; exact Calls.after (After.below ‹_›).size (HCALL.out _))))
          refine wpQuiet_nil ?_
          rintro u ⟨⟨_, hu⟩, rfl⟩
          clear hu0 hu1 hu2 hu3 hu4 hu5 hu6 hu7 hk0 hk1 hk2 hk3 hk4 hk5 hx2 hy2
          have HB2 := Lib.hid (HB0.out.trans ((HBL.out.trans (hu.mono hsr)).mono (by omega)))
          clear hu
          go_wp2_with fail
          go_ret
          exact ⟨by rw [HFE.out]; rfl, HB2.out⟩
      · have HBW := Lib.hid hbw
        have HFE : Hid (feq k k' = true) := by unfold Hid; rw [hfe.out, fdrop_all (by omega), fdrop_all (by omega)]; rfl
        clear hbw hbl hfe
        go_wp2_with fail
        go_ret
        exact ⟨by rw [HFE.out]; rfl, HBW.out⟩
end Go.Proofs.Ytdkcbbhkoibplaa

/-! LawLBack: laws.FnLinkBack answers true at every code. -/
namespace Go.Proofs.Ytdkcbbhkoibplaa
open Go.RowKit Go.Deep
attribute [local go_sem ↓] Go.wp_at_zero Go.wp_at_succ

set_option maxRecDepth 100000 in
set_option maxHeartbeats 4000000 in
theorem linkBack_walk (a0 : Option Addr) (len cap : Nat) (w : World) (hby : Bytes w a0 len) (hlen : len ≤ cap) :
    Calls Try.prog 4 #[.slice a0 len cap] w fun e w' => e = .returned (.bool true) ∧ Below w.heap.size w w' := by
  have HBY := Lib.hid hby
  clear hby
  by_cases hbiglen : 1048576 < len
  · go_enter Try.func4, Try.ntmps4
    go_wp2_with fail
    go_ret
    exact ⟨rfl, Below.refl _ _⟩
  go_enter Try.func4, Try.ntmps4
  go_wp2_with fail
  with_reducible refine (DrawLinkDo_any a0 len cap _ HBY.out hlen).mono ?_
  rintro e wa ⟨es, A, C, s, v, a, c, k, eq, back, pA, pC, place, B, D, bs, rfl, hel, hok, hz, hpl, hbl, hb, he, hl, hpi, hbi⟩
  have Hlow := Lib.hid hb
  have HE := Lib.hid he
  have HP := Lib.hid hpi
  have HBS := Lib.hid hbi
  have HL := Lib.hid hl
  have HOKZ := Lib.hid hok
  clear hb he hl hpi hbi hok HBY
  have hbx : Below wa.heap.size wa (wa.alloc (.cells #[.int .i64 s, .int .i64 v, .slice a (flen k) c] 35)) := box_low _ _
  have Hn : Hid (Tb wa.heap.size s v a c k (wa.alloc (.cells #[.int .i64 s, .int .i64 v, .slice a (flen k) c] 35))) := Tb.new HL.out
  have Hlow' : Hid (Below w.heap.size w (wa.alloc (.cells #[.int .i64 s, .int .i64 v, .slice a (flen k) c] 35))) := below_next Hlow.out hbx
  have HE' : Hid (ESl (wa.alloc (.cells #[.int .i64 s, .int .i64 v, .slice a (flen k) c] 35)) 0 (wa.alloc (.cells #[.int .i64 s, .int .i64 v, .slice a (flen k) c] 35)).heap.size A es) := HE.out.next hbx
  have HP' : Hid (ISc (wa.alloc (.cells #[.int .i64 s, .int .i64 v, .slice a (flen k) c] 35)) 0 (wa.alloc (.cells #[.int .i64 s, .int .i64 v, .slice a (flen k) c] 35)).heap.size pA pC place) := HP.out.next hbx
  have HBS' : Hid (BSl (wa.alloc (.cells #[.int .i64 s, .int .i64 v, .slice a (flen k) c] 35)) 0 (wa.alloc (.cells #[.int .i64 s, .int .i64 v, .slice a (flen k) c] 35)).heap.size B bs) := HBS.out.next hbx
  clear Hlow HE HP HBS
  have Hlow := Hlow'
  clear Hlow'
  have HE := HE'
  clear HE'
  have HP := HP'
  clear HP'
  have HBS := HBS'
  clear HBS'
  have Ht := Hn
  clear Hn hbx
  clear HL
  have hbx : Below (wa.alloc (.cells #[.int .i64 s, .int .i64 v, .slice a (flen k) c] 35)).heap.size (wa.alloc (.cells #[.int .i64 s, .int .i64 v, .slice a (flen k) c] 35)) ((wa.alloc (.cells #[.int .i64 s, .int .i64 v, .slice a (flen k) c] 35)).alloc (.cells #[.int .i64 eq, .bool back, .slice pA place.length pC, .slice B bs.length D] 43)) := box_low _ _
  have Hn : Hid (Lb (wa.heap.size + 1) eq back pA pC place B D bs ((wa.alloc (.cells #[.int .i64 s, .int .i64 v, .slice a (flen k) c] 35)).alloc (.cells #[.int .i64 eq, .bool back, .slice pA place.length pC, .slice B bs.length D] 43))) := (show (wa.alloc (.cells #[.int .i64 s, .int .i64 v, .slice a (flen k) c] 35)).heap.size = (wa.heap.size + 1) from by simp) ▸ Lb.new HP.out HBS.out
  have Hlow' : Hid (Below w.heap.size w ((wa.alloc (.cells #[.int .i64 s, .int .i64 v, .slice a (flen k) c] 35)).alloc (.cells #[.int .i64 eq, .bool back, .slice pA place.length pC, .slice B bs.length D] 43))) := below_next Hlow.out hbx
  have HE' : Hid (ESl ((wa.alloc (.cells #[.int .i64 s, .int .i64 v, .slice a (flen k) c] 35)).alloc (.cells #[.int .i64 eq, .bool back, .slice pA place.length pC, .slice B bs.length D] 43)) 0 ((wa.alloc (.cells #[.int .i64 s, .int .i64 v, .slice a (flen k) c] 35)).alloc (.cells #[.int .i64 eq, .bool back, .slice pA place.length pC, .slice B bs.length D] 43)).heap.size A es) := HE.out.next hbx
  have HP' : Hid (ISc ((wa.alloc (.cells #[.int .i64 s, .int .i64 v, .slice a (flen k) c] 35)).alloc (.cells #[.int .i64 eq, .bool back, .slice pA place.length pC, .slice B bs.length D] 43)) 0 ((wa.alloc (.cells #[.int .i64 s, .int .i64 v, .slice a (flen k) c] 35)).alloc (.cells #[.int .i64 eq, .bool back, .slice pA place.length pC, .slice B bs.length D] 43)).heap.size pA pC place) := HP.out.next hbx
  have HBS' : Hid (BSl ((wa.alloc (.cells #[.int .i64 s, .int .i64 v, .slice a (flen k) c] 35)).alloc (.cells #[.int .i64 eq, .bool back, .slice pA place.length pC, .slice B bs.length D] 43)) 0 ((wa.alloc (.cells #[.int .i64 s, .int .i64 v, .slice a (flen k) c] 35)).alloc (.cells #[.int .i64 eq, .bool back, .slice pA place.length pC, .slice B bs.length D] 43)).heap.size B bs) := HBS.out.next hbx
  have Ht' : Hid (Tb wa.heap.size s v a c k ((wa.alloc (.cells #[.int .i64 s, .int .i64 v, .slice a (flen k) c] 35)).alloc (.cells #[.int .i64 eq, .bool back, .slice pA place.length pC, .slice B bs.length D] 43))) := Ht.out.next hbx
  clear Hlow HE HP HBS Ht
  have Hlow := Hlow'
  clear Hlow'
  have HE := HE'
  clear HE'
  have HP := HP'
  clear HP'
  have HBS := HBS'
  clear HBS'
  have Ht := Ht'
  clear Ht'
  have Hl := Hn
  clear Hn hbx
  have qt0 := Ht.out.c0
  have qt1 := Ht.out.c1
  have qt2 := Ht.out.c2
  have ql0 := Hl.out.c0
  have ql1 := Hl.out.c1
  have ql2 := Hl.out.c2
  have ql3 := Hl.out.c3
  go_wp2_with fail
  with_reducible refine (sLinkDo_any es A C s v a c k eq back pA pC place B D bs _ HE.out (by omega) Ht.out.sl Hl.out.hp (by omega) Hl.out.hb (by omega)).mono ?_
  rintro e wx1 ⟨aw, cw, sw, vw, kw, tw, hdw, rfl, hb, hlw⟩
  have HDw := Lib.hid hdw
  clear hdw
  clear qt0 qt1 qt2 ql0 ql1 ql2 ql3
  have Hlow' : Hid (Below w.heap.size w wx1) := below_next Hlow.out hb
  have HE' : Hid (ESl wx1 0 wx1.heap.size A es) := HE.out.next hb
  have HP' : Hid (ISc wx1 0 wx1.heap.size pA pC place) := HP.out.next hb
  have HBS' : Hid (BSl wx1 0 wx1.heap.size B bs) := HBS.out.next hb
  have Ht' : Hid (Tb wa.heap.size s v a c k wx1) := Ht.out.next hb
  have Hl' : Hid (Lb (wa.heap.size + 1) eq back pA pC place B D bs wx1) := Hl.out.next hb
  clear Hlow HE HP HBS Ht Hl
  have Hlow := Hlow'
  clear Hlow'
  have HE := HE'
  clear HE'
  have HP := HP'
  clear HP'
  have HBS := HBS'
  clear HBS'
  have Ht := Ht'
  clear Ht'
  have Hl := Hl'
  clear Hl'
  clear hb
  have Hlw := Lib.hid hlw
  clear hlw
  have hbx : Below wx1.heap.size wx1 (wx1.alloc (.cells #[.int .i64 sw, .int .i64 vw, .slice aw (flen kw) cw] 35)) := box_low _ _
  have Hn : Hid (Tb wx1.heap.size sw vw aw cw kw (wx1.alloc (.cells #[.int .i64 sw, .int .i64 vw, .slice aw (flen kw) cw] 35))) := Tb.new Hlw.out
  have Hlow' : Hid (Below w.heap.size w (wx1.alloc (.cells #[.int .i64 sw, .int .i64 vw, .slice aw (flen kw) cw] 35))) := below_next Hlow.out hbx
  have HE' : Hid (ESl (wx1.alloc (.cells #[.int .i64 sw, .int .i64 vw, .slice aw (flen kw) cw] 35)) 0 (wx1.alloc (.cells #[.int .i64 sw, .int .i64 vw, .slice aw (flen kw) cw] 35)).heap.size A es) := HE.out.next hbx
  have HP' : Hid (ISc (wx1.alloc (.cells #[.int .i64 sw, .int .i64 vw, .slice aw (flen kw) cw] 35)) 0 (wx1.alloc (.cells #[.int .i64 sw, .int .i64 vw, .slice aw (flen kw) cw] 35)).heap.size pA pC place) := HP.out.next hbx
  have HBS' : Hid (BSl (wx1.alloc (.cells #[.int .i64 sw, .int .i64 vw, .slice aw (flen kw) cw] 35)) 0 (wx1.alloc (.cells #[.int .i64 sw, .int .i64 vw, .slice aw (flen kw) cw] 35)).heap.size B bs) := HBS.out.next hbx
  have Ht' : Hid (Tb wa.heap.size s v a c k (wx1.alloc (.cells #[.int .i64 sw, .int .i64 vw, .slice aw (flen kw) cw] 35))) := Ht.out.next hbx
  have Hl' : Hid (Lb (wa.heap.size + 1) eq back pA pC place B D bs (wx1.alloc (.cells #[.int .i64 sw, .int .i64 vw, .slice aw (flen kw) cw] 35))) := Hl.out.next hbx
  clear Hlow HE HP HBS Ht Hl
  have Hlow := Hlow'
  clear Hlow'
  have HE := HE'
  clear HE'
  have HP := HP'
  clear HP'
  have HBS := HBS'
  clear HBS'
  have Ht := Ht'
  clear Ht'
  have Hl := Hl'
  clear Hl'
  have Hw := Hn
  clear Hn hbx
  clear Hlw
  have qt0 := Ht.out.c0
  have qt1 := Ht.out.c1
  have qt2 := Ht.out.c2
  have ql0 := Hl.out.c0
  have ql1 := Hl.out.c1
  have ql2 := Hl.out.c2
  have ql3 := Hl.out.c3
  go_wp2_with fail
  with_reducible refine (iLinkDo_any es A C s v a c k eq back pA pC place B D bs _ HE.out (by omega) Ht.out.sl Hl.out.hp (by omega) Hl.out.hb (by omega)).mono ?_
  rintro e wx2 ⟨ax, cx, sx, vx, kx, tx, hdx, rfl, hb, hlx⟩
  rw [HDw.out] at hdx
  simp only [Prod.mk.injEq] at hdx
  obtain ⟨⟨rfl, rfl, rfl⟩, rfl⟩ := hdx
  clear qt0 qt1 qt2 ql0 ql1 ql2 ql3
  have Hlow' : Hid (Below w.heap.size w wx2) := below_next Hlow.out hb
  have HE' : Hid (ESl wx2 0 wx2.heap.size A es) := HE.out.next hb
  have HP' : Hid (ISc wx2 0 wx2.heap.size pA pC place) := HP.out.next hb
  have HBS' : Hid (BSl wx2 0 wx2.heap.size B bs) := HBS.out.next hb
  have Ht' : Hid (Tb wa.heap.size s v a c k wx2) := Ht.out.next hb
  have Hl' : Hid (Lb (wa.heap.size + 1) eq back pA pC place B D bs wx2) := Hl.out.next hb
  have Hw' : Hid (Tb wx1.heap.size sw vw aw cw kw wx2) := Hw.out.next hb
  clear Hlow HE HP HBS Ht Hl Hw
  have Hlow := Hlow'
  clear Hlow'
  have HE := HE'
  clear HE'
  have HP := HP'
  clear HP'
  have HBS := HBS'
  clear HBS'
  have Ht := Ht'
  clear Ht'
  have Hl := Hl'
  clear Hl'
  have Hw := Hw'
  clear Hw'
  clear hb
  have Hlx := Lib.hid hlx
  clear hlx
  have hbx : Below wx2.heap.size wx2 (wx2.alloc (.cells #[.int .i64 sw, .int .i64 vw, .slice ax (flen kw) cx] 35)) := box_low _ _
  have Hn : Hid (Tb wx2.heap.size sw vw ax cx kw (wx2.alloc (.cells #[.int .i64 sw, .int .i64 vw, .slice ax (flen kw) cx] 35))) := Tb.new Hlx.out
  have Hlow' : Hid (Below w.heap.size w (wx2.alloc (.cells #[.int .i64 sw, .int .i64 vw, .slice ax (flen kw) cx] 35))) := below_next Hlow.out hbx
  have HE' : Hid (ESl (wx2.alloc (.cells #[.int .i64 sw, .int .i64 vw, .slice ax (flen kw) cx] 35)) 0 (wx2.alloc (.cells #[.int .i64 sw, .int .i64 vw, .slice ax (flen kw) cx] 35)).heap.size A es) := HE.out.next hbx
  have HP' : Hid (ISc (wx2.alloc (.cells #[.int .i64 sw, .int .i64 vw, .slice ax (flen kw) cx] 35)) 0 (wx2.alloc (.cells #[.int .i64 sw, .int .i64 vw, .slice ax (flen kw) cx] 35)).heap.size pA pC place) := HP.out.next hbx
  have HBS' : Hid (BSl (wx2.alloc (.cells #[.int .i64 sw, .int .i64 vw, .slice ax (flen kw) cx] 35)) 0 (wx2.alloc (.cells #[.int .i64 sw, .int .i64 vw, .slice ax (flen kw) cx] 35)).heap.size B bs) := HBS.out.next hbx
  have Ht' : Hid (Tb wa.heap.size s v a c k (wx2.alloc (.cells #[.int .i64 sw, .int .i64 vw, .slice ax (flen kw) cx] 35))) := Ht.out.next hbx
  have Hl' : Hid (Lb (wa.heap.size + 1) eq back pA pC place B D bs (wx2.alloc (.cells #[.int .i64 sw, .int .i64 vw, .slice ax (flen kw) cx] 35))) := Hl.out.next hbx
  have Hw' : Hid (Tb wx1.heap.size sw vw aw cw kw (wx2.alloc (.cells #[.int .i64 sw, .int .i64 vw, .slice ax (flen kw) cx] 35))) := Hw.out.next hbx
  clear Hlow HE HP HBS Ht Hl Hw
  have Hlow := Hlow'
  clear Hlow'
  have HE := HE'
  clear HE'
  have HP := HP'
  clear HP'
  have HBS := HBS'
  clear HBS'
  have Ht := Ht'
  clear Ht'
  have Hl := Hl'
  clear Hl'
  have Hw := Hw'
  clear Hw'
  have Hx := Hn
  clear Hn hbx
  clear Hlx
  have hkw := lk_small HDw.out
  have eb : (tw != tw) = false := by simp
  have eb2 : (tw == tw) = true := by simp
  have qx0 := Hx.out.c0
  have qx1 := Hx.out.c1
  have qx2 := Hx.out.c2
  have qw0 := Hw.out.c0
  have qw1 := Hw.out.c1
  have qw2 := Hw.out.c2
  go_wp2_with fail
  with_reducible refine (laTerm_same (fsz kw) sw vw ax aw cx cw kw _ Hx.out.sl Hw.out.sl (Nat.le_refl _) (by omega)).mono ?_
  rintro e wx3 ⟨rfl, hb⟩
  clear qx0 qx1 qx2 qw0 qw1 qw2
  have Hlow' : Hid (Below w.heap.size w wx3) := below_next Hlow.out hb
  have HE' : Hid (ESl wx3 0 wx3.heap.size A es) := HE.out.next hb
  have HP' : Hid (ISc wx3 0 wx3.heap.size pA pC place) := HP.out.next hb
  have HBS' : Hid (BSl wx3 0 wx3.heap.size B bs) := HBS.out.next hb
  have Ht' : Hid (Tb wa.heap.size s v a c k wx3) := Ht.out.next hb
  have Hl' : Hid (Lb (wa.heap.size + 1) eq back pA pC place B D bs wx3) := Hl.out.next hb
  have Hw' : Hid (Tb wx1.heap.size sw vw aw cw kw wx3) := Hw.out.next hb
  have Hx' : Hid (Tb wx2.heap.size sw vw ax cx kw wx3) := Hx.out.next hb
  clear Hlow HE HP HBS Ht Hl Hw Hx
  have Hlow := Hlow'
  clear Hlow'
  have HE := HE'
  clear HE'
  have HP := HP'
  clear HP'
  have HBS := HBS'
  clear HBS'
  have Ht := Ht'
  clear Ht'
  have Hl := Hl'
  clear Hl'
  have Hw := Hw'
  clear Hw'
  have Hx := Hx'
  clear Hx'
  clear hb
  cases tw with
  | false =>
    have qx0 := Hx.out.c0
    have qx1 := Hx.out.c1
    have qx2 := Hx.out.c2
    have qw0 := Hw.out.c0
    have qw1 := Hw.out.c1
    have qw2 := Hw.out.c2
    go_wp2_with fail
    with_reducible refine (laTerm_same (fsz kw) sw vw ax aw cx cw kw _ Hx.out.sl Hw.out.sl (Nat.le_refl _) (by omega)).mono ?_
    rintro e wx4 ⟨rfl, hb⟩
    clear qx0 qx1 qx2 qw0 qw1 qw2
    have Hlow' : Hid (Below w.heap.size w wx4) := below_next Hlow.out hb
    have HE' : Hid (ESl wx4 0 wx4.heap.size A es) := HE.out.next hb
    have HP' : Hid (ISc wx4 0 wx4.heap.size pA pC place) := HP.out.next hb
    have HBS' : Hid (BSl wx4 0 wx4.heap.size B bs) := HBS.out.next hb
    have Ht' : Hid (Tb wa.heap.size s v a c k wx4) := Ht.out.next hb
    have Hl' : Hid (Lb (wa.heap.size + 1) eq back pA pC place B D bs wx4) := Hl.out.next hb
    have Hw' : Hid (Tb wx1.heap.size sw vw aw cw kw wx4) := Hw.out.next hb
    have Hx' : Hid (Tb wx2.heap.size sw vw ax cx kw wx4) := Hx.out.next hb
    clear Hlow HE HP HBS Ht Hl Hw Hx
    have Hlow := Hlow'
    clear Hlow'
    have HE := HE'
    clear HE'
    have HP := HP'
    clear HP'
    have HBS := HBS'
    clear HBS'
    have Ht := Ht'
    clear Ht'
    have Hl := Hl'
    clear Hl'
    have Hw := Hw'
    clear Hw'
    have Hx := Hx'
    clear Hx'
    clear hb
    go_wp2_with fail
    go_ret
    exact ⟨rfl, Hlow.out⟩
  | true =>
    have HR : Hid (lkR es (s, v, k) (eq, back, place, bs) = some (sw, vw, kw)) := ans_true HDw.out
    obtain ⟨⟨s9, v9, k9⟩, hy9, heq9⟩ := lkR_back HR.out
    have HY9 := Lib.hid hy9
    have HEQ9 := Lib.hid (eq3_iff.2 heq9)
    clear hy9 heq9 eb
    have ql0 := Hl.out.c0
    have ql1 := Hl.out.c1
    have ql2 := Hl.out.c2
    have ql3 := Hl.out.c3
    have y1 := cell_low (box_low wx3 (.cells #[.int .i64 eq, .bool back, .slice pA place.length pC, .slice B bs.length D] 43)) ql1
    have hbx : Below wx3.heap.size wx3 (wx3.alloc (.cells #[.int .i64 eq, .bool (!back), .slice pA place.length pC, .slice B bs.length D] 43)) := box_low _ _
    have Hn : Hid (Lb wx3.heap.size eq (!back) pA pC place B D bs (wx3.alloc (.cells #[.int .i64 eq, .bool (!back), .slice pA place.length pC, .slice B bs.length D] 43))) := Lb.new Hl.out.hp Hl.out.hb
    have Hlow' : Hid (Below w.heap.size w (wx3.alloc (.cells #[.int .i64 eq, .bool (!back), .slice pA place.length pC, .slice B bs.length D] 43))) := below_next Hlow.out hbx
    have HE' : Hid (ESl (wx3.alloc (.cells #[.int .i64 eq, .bool (!back), .slice pA place.length pC, .slice B bs.length D] 43)) 0 (wx3.alloc (.cells #[.int .i64 eq, .bool (!back), .slice pA place.length pC, .slice B bs.length D] 43)).heap.size A es) := HE.out.next hbx
    have HP' : Hid (ISc (wx3.alloc (.cells #[.int .i64 eq, .bool (!back), .slice pA place.length pC, .slice B bs.length D] 43)) 0 (wx3.alloc (.cells #[.int .i64 eq, .bool (!back), .slice pA place.length pC, .slice B bs.length D] 43)).heap.size pA pC place) := HP.out.next hbx
    have HBS' : Hid (BSl (wx3.alloc (.cells #[.int .i64 eq, .bool (!back), .slice pA place.length pC, .slice B bs.length D] 43)) 0 (wx3.alloc (.cells #[.int .i64 eq, .bool (!back), .slice pA place.length pC, .slice B bs.length D] 43)).heap.size B bs) := HBS.out.next hbx
    have Ht' : Hid (Tb wa.heap.size s v a c k (wx3.alloc (.cells #[.int .i64 eq, .bool (!back), .slice pA place.length pC, .slice B bs.length D] 43))) := Ht.out.next hbx
    have Hl' : Hid (Lb (wa.heap.size + 1) eq back pA pC place B D bs (wx3.alloc (.cells #[.int .i64 eq, .bool (!back), .slice pA place.length pC, .slice B bs.length D] 43))) := Hl.out.next hbx
    have Hw' : Hid (Tb wx1.heap.size sw vw aw cw kw (wx3.alloc (.cells #[.int .i64 eq, .bool (!back), .slice pA place.length pC, .slice B bs.length D] 43))) := Hw.out.next hbx
    have Hx' : Hid (Tb wx2.heap.size sw vw ax cx kw (wx3.alloc (.cells #[.int .i64 eq, .bool (!back), .slice pA place.length pC, .slice B bs.length D] 43))) := Hx.out.next hbx
    clear Hlow HE HP HBS Ht Hl Hw Hx
    have Hlow := Hlow'
    clear Hlow'
    have HE := HE'
    clear HE'
    have HP := HP'
    clear HP'
    have HBS := HBS'
    clear HBS'
    have Ht := Ht'
    clear Ht'
    have Hl := Hl'
    clear Hl'
    have Hw := Hw'
    clear Hw'
    have Hx := Hx'
    clear Hx'
    have Hb := Hn
    clear Hn hbx
    have qx0 := Hx.out.c0
    have qx1 := Hx.out.c1
    have qx2 := Hx.out.c2
    have qb0 := Hb.out.c0
    have qb1 := Hb.out.c1
    have qb2 := Hb.out.c2
    have qb3 := Hb.out.c3
    go_wp2_with fail
    with_reducible refine (iLinkDo_any es A C sw vw ax cx kw eq (!back) pA pC place B D bs _ HE.out (by omega) Hx.out.sl Hb.out.hp (by omega) Hb.out.hb (by omega)).mono ?_
    rw [HY9.out]
    rintro e wx4 ⟨ay, cy, sy, vy, ky, ty, hdy, rfl, hb, hly⟩
    simp only [ansR, Prod.mk.injEq] at hdy
    obtain ⟨⟨rfl, rfl, rfl⟩, rfl⟩ := hdy
    clear ql0 ql1 ql2 ql3 y1 qx0 qx1 qx2 qb0 qb1 qb2 qb3
    have Hlow' : Hid (Below w.heap.size w wx4) := below_next Hlow.out hb
    have HE' : Hid (ESl wx4 0 wx4.heap.size A es) := HE.out.next hb
    have HP' : Hid (ISc wx4 0 wx4.heap.size pA pC place) := HP.out.next hb
    have HBS' : Hid (BSl wx4 0 wx4.heap.size B bs) := HBS.out.next hb
    have Ht' : Hid (Tb wa.heap.size s v a c k wx4) := Ht.out.next hb
    have Hl' : Hid (Lb (wa.heap.size + 1) eq back pA pC place B D bs wx4) := Hl.out.next hb
    have Hw' : Hid (Tb wx1.heap.size sw vw aw cw kw wx4) := Hw.out.next hb
    have Hx' : Hid (Tb wx2.heap.size sw vw ax cx kw wx4) := Hx.out.next hb
    have Hb' : Hid (Lb wx3.heap.size eq (!back) pA pC place B D bs wx4) := Hb.out.next hb
    clear Hlow HE HP HBS Ht Hl Hw Hx Hb
    have Hlow := Hlow'
    clear Hlow'
    have HE := HE'
    clear HE'
    have HP := HP'
    clear HP'
    have HBS := HBS'
    clear HBS'
    have Ht := Ht'
    clear Ht'
    have Hl := Hl'
    clear Hl'
    have Hw := Hw'
    clear Hw'
    have Hx := Hx'
    clear Hx'
    have Hb := Hb'
    clear Hb'
    clear hb
    have Hly := Lib.hid hly
    clear hly
    have hbx : Below wx4.heap.size wx4 (wx4.alloc (.cells #[.int .i64 s9, .int .i64 v9, .slice ay (flen k9) cy] 35)) := box_low _ _
    have Hn : Hid (Tb wx4.heap.size s9 v9 ay cy k9 (wx4.alloc (.cells #[.int .i64 s9, .int .i64 v9, .slice ay (flen k9) cy] 35))) := Tb.new Hly.out
    have Hlow' : Hid (Below w.heap.size w (wx4.alloc (.cells #[.int .i64 s9, .int .i64 v9, .slice ay (flen k9) cy] 35))) := below_next Hlow.out hbx
    have HE' : Hid (ESl (wx4.alloc (.cells #[.int .i64 s9, .int .i64 v9, .slice ay (flen k9) cy] 35)) 0 (wx4.alloc (.cells #[.int .i64 s9, .int .i64 v9, .slice ay (flen k9) cy] 35)).heap.size A es) := HE.out.next hbx
    have HP' : Hid (ISc (wx4.alloc (.cells #[.int .i64 s9, .int .i64 v9, .slice ay (flen k9) cy] 35)) 0 (wx4.alloc (.cells #[.int .i64 s9, .int .i64 v9, .slice ay (flen k9) cy] 35)).heap.size pA pC place) := HP.out.next hbx
    have HBS' : Hid (BSl (wx4.alloc (.cells #[.int .i64 s9, .int .i64 v9, .slice ay (flen k9) cy] 35)) 0 (wx4.alloc (.cells #[.int .i64 s9, .int .i64 v9, .slice ay (flen k9) cy] 35)).heap.size B bs) := HBS.out.next hbx
    have Ht' : Hid (Tb wa.heap.size s v a c k (wx4.alloc (.cells #[.int .i64 s9, .int .i64 v9, .slice ay (flen k9) cy] 35))) := Ht.out.next hbx
    have Hl' : Hid (Lb (wa.heap.size + 1) eq back pA pC place B D bs (wx4.alloc (.cells #[.int .i64 s9, .int .i64 v9, .slice ay (flen k9) cy] 35))) := Hl.out.next hbx
    have Hw' : Hid (Tb wx1.heap.size sw vw aw cw kw (wx4.alloc (.cells #[.int .i64 s9, .int .i64 v9, .slice ay (flen k9) cy] 35))) := Hw.out.next hbx
    have Hx' : Hid (Tb wx2.heap.size sw vw ax cx kw (wx4.alloc (.cells #[.int .i64 s9, .int .i64 v9, .slice ay (flen k9) cy] 35))) := Hx.out.next hbx
    have Hb' : Hid (Lb wx3.heap.size eq (!back) pA pC place B D bs (wx4.alloc (.cells #[.int .i64 s9, .int .i64 v9, .slice ay (flen k9) cy] 35))) := Hb.out.next hbx
    clear Hlow HE HP HBS Ht Hl Hw Hx Hb
    have Hlow := Hlow'
    clear Hlow'
    have HE := HE'
    clear HE'
    have HP := HP'
    clear HP'
    have HBS := HBS'
    clear HBS'
    have Ht := Ht'
    clear Ht'
    have Hl := Hl'
    clear Hl'
    have Hw := Hw'
    clear Hw'
    have Hx := Hx'
    clear Hx'
    have Hb := Hb'
    clear Hb'
    have Hy := Hn
    clear Hn hbx
    clear Hly
    have qy0 := Hy.out.c0
    have qy1 := Hy.out.c1
    have qy2 := Hy.out.c2
    have qt0 := Ht.out.c0
    have qt1 := Ht.out.c1
    have qt2 := Ht.out.c2
    have hk9 : fsz k9 ≤ 63 := lk_small (s := s9) (v := v9) (b := true) (by rw [HY9.out]; rfl)
    go_wp2_with fail
    with_reducible refine (laTerm_any (fsz k9) s9 v9 ay cy k9 s v a c k _ Hy.out.sl Ht.out.sl (Nat.le_refl _) (by omega)).mono ?_
    rintro e wx5 ⟨he, hb⟩
    rw [HEQ9.out] at he
    subst he
    clear qy0 qy1 qy2 qt0 qt1 qt2
    have Hlow' : Hid (Below w.heap.size w wx5) := below_next Hlow.out hb
    have HE' : Hid (ESl wx5 0 wx5.heap.size A es) := HE.out.next hb
    have HP' : Hid (ISc wx5 0 wx5.heap.size pA pC place) := HP.out.next hb
    have HBS' : Hid (BSl wx5 0 wx5.heap.size B bs) := HBS.out.next hb
    have Ht' : Hid (Tb wa.heap.size s v a c k wx5) := Ht.out.next hb
    have Hl' : Hid (Lb (wa.heap.size + 1) eq back pA pC place B D bs wx5) := Hl.out.next hb
    have Hw' : Hid (Tb wx1.heap.size sw vw aw cw kw wx5) := Hw.out.next hb
    have Hx' : Hid (Tb wx2.heap.size sw vw ax cx kw wx5) := Hx.out.next hb
    have Hb' : Hid (Lb wx3.heap.size eq (!back) pA pC place B D bs wx5) := Hb.out.next hb
    have Hy' : Hid (Tb wx4.heap.size s9 v9 ay cy k9 wx5) := Hy.out.next hb
    clear Hlow HE HP HBS Ht Hl Hw Hx Hb Hy
    have Hlow := Hlow'
    clear Hlow'
    have HE := HE'
    clear HE'
    have HP := HP'
    clear HP'
    have HBS := HBS'
    clear HBS'
    have Ht := Ht'
    clear Ht'
    have Hl := Hl'
    clear Hl'
    have Hw := Hw'
    clear Hw'
    have Hx := Hx'
    clear Hx'
    have Hb := Hb'
    clear Hb'
    have Hy := Hy'
    clear Hy'
    clear hb
    go_wp2_with fail
    go_ret
    exact ⟨rfl, Hlow.out⟩
end Go.Proofs.Ytdkcbbhkoibplaa

/-! FrameO: What every row's closing text needs. -/
namespace Go.Proofs.Ytdkcbbhkoibplaa
theorem Try.own : ownKnob Try.prog.godebug = none := by kernel_rfl
theorem Try.laidOut : laidOutB Try.prog = true := by kernel_rfl
end Go.Proofs.Ytdkcbbhkoibplaa

/-! Frame: A slice of bytes that came in, as the walks take it. -/
namespace Go.Proofs.Ytdkcbbhkoibplaa
open Go.ChangeShapes Go.WideShapes Go.ChangeAt Go.RowKit

/-- A slice of bytes: it is nil; or it leads to a row of cap cells. -/
def IsRow (w : World) (a : Option Addr) (len cap : Nat) (zs : List Int) : Prop :=
  (a = none ∧ len = 0 ∧ cap = 0 ∧ zs = []) ∨
  ∃ x, a = some x ∧ len ≤ cap ∧ cap ≤ maxLen ∧ zs.length = cap ∧ (∀ i, i < zs.length → w.cell? (x.add i) = some (.int .u8 (zs.getD i 0))) ∧ ∀ n ∈ zs, (Lit.int .u8 n).wf = true

theorem bytes_of_row {w : World} {a : Option Addr} {len cap : Nat} {zs : List Int} (h : IsRow w a len cap zs) : Bytes w a len ∧ len ≤ cap := by
  rcases h with ⟨_, h1, h2, _⟩ | ⟨x, rfl, h1, _, h2, h3, h4⟩
  · exact ⟨.inl h1, by omega⟩
  · refine ⟨?_, h1⟩
    by_cases hl : len = 0
    · exact .inl hl
    · obtain ⟨b, o, spot⟩ := x
      have c0 := h3 0 (by omega)
      have hs : spot = none := by simpa [Addr.add] using World.cell?_spot c0
      subst hs
      have ha : ∀ n, (⟨b, o, none⟩ : Addr).add n = ⟨b, o + n, none⟩ := fun n => by unfold Addr.add; split <;> simp_all
      rw [ha] at c0
      refine .inr ⟨b, o, rfl, World.block_lt_of_cell? _ _ c0, fun i hi => ?_⟩
      have ci := h3 i (by omega)
      rw [ha] at ci
      have hm : zs.getD i 0 ∈ zs := by
        rw [List.getD_eq_getElem?_getD, List.getElem?_eq_getElem (by omega)]
        exact List.getElem_mem _
      have hb := bounds_u8 (h4 _ hm)
      obtain ⟨n, hn⟩ := Int.eq_ofNat_of_zero_le hb.1
      exact ⟨n, by omega, by rw [ci, hn]⟩

/-- Out of the reading of an argument. -/
theorem row_of_trod {H : Type} {enc : TypeId × Value → H} {W : World} {a : Option Addr} {len cap : Nat} {d : DataW H} {p : List MemPlace} (h : DataW.Trod enc Try.prog W 0 (fun _ => true) true 52 (.slice a len cap) d p) : ∃ zs, IsRow W a len cap zs := by
  obtain ⟨fuel, hf⟩ := h
  rcases open_ints Try.underlying52 Try.underlying5 (by kernel_rfl) hf with ⟨hcs, _⟩ | ⟨x, l, c, zs, hcs, _, hl, hm, hz, _, hcell, hwz⟩
  · simp [Value.cells] at hcs
    obtain ⟨rfl, rfl, rfl⟩ := hcs
    exact ⟨[], .inl ⟨rfl, rfl, rfl, rfl⟩⟩
  · simp [Value.cells] at hcs
    obtain ⟨rfl, rfl, rfl⟩ := hcs
    exact ⟨zs, .inr ⟨_, rfl, hl, hm, by simpa using hz, hcell, hwz⟩⟩

end Go.Proofs.Ytdkcbbhkoibplaa
