/- Several texts in one: SHm, TI, UN0, UN1, UB, UN2, UR, V2, SB, BG, SP5, SD0, C2, C3, C4. -/
import Derived.Test.YtdkcbbhkoibplaaProg
import Derived.Shelf.Lay
import Derived.Shelf.LaySoft
import Derived.Shelf.SlGeneric
import Derived.Ground.SlmcProg
import Derived.Shelf.SlMaps.Clone
import Derived.Test.YtdkcbbhkoibplaaKLn13
import Derived.Test.YtdkcbbhkoibplaaKLn6
import Derived.Test.YtdkcbbhkoibplaaKLn5
import Derived.Test.YtdkcbbhkoibplaaKLn2
import Derived.Test.YtdkcbbhkoibplaaKLn12
import Derived.Lib.SliceRun
import Derived.Deep.RegionHeld3

/-! UN0: What makes two terms the same: plain. Definitions and plain lemmas. -/
namespace Go.Proofs.Ytdkcbbhkoibplaa
open Go.RowKit Go.Deep

abbrev T3 := Int × Int × Fo
def sz (t : T3) : Nat := 1 + fsz t.2.2
end Go.Proofs.Ytdkcbbhkoibplaa

/-! V2: l1Has: whether a variable is in a term. -/
namespace Go.Proofs.Ytdkcbbhkoibplaa
open Go.RowKit Go.Deep

theorem one_box {w wr : World} {x y z : Value} (h : Below (w.heap.size + 1) (w.alloc (.cells #[x, y, z] 35)) wr) : wr.cell? ⟨w.heap.size, 2, none⟩ = some z := by
  rw [h.cell (by simp), World.cell?_alloc_at _ _ _ _ (by simp)]; rfl

theorem fvl_drop {x : Int} {j : Nat} {k : Fo} {a b : Nat} {s v : Int} {kk r : Fo} (h : fdrop j k = .node a b (s, v) kk r) : x ∈ fvl (fdrop j k) ↔ x ∈ fvs s v kk ∨ x ∈ fvl r := by
  rw [h]
  simp only [fvl, fvs, List.mem_append]

set_option maxRecDepth 100000 in
set_option maxHeartbeats 1000000 in
theorem l1Has_any (N : Nat) : ∀ (s v : Int) (a : Option Addr) (c : Nat) (k : Fo) (x : Int) (w : World), Sl w 0 w.heap.size a k → fsz k ≤ N → N ≤ 1000000 →
    Calls Try.prog 94 #[.agg #[.int .i64 s, .int .i64 v, .slice a (flen k) c], .int .i64 x] w fun e w' => e = .returned (.bool (decide (x ∈ fvs s v k))) ∧ Below w.heap.size w w' := by
  induction N using Nat.strongRecOn with
  | _ N ih =>
    intro s v a c k x w hl hN hN2
    have hfl := flen_le_sz k
    have IH := Lib.hid ih
    clear ih
    by_cases hs : s = 0
    · subst hs
      have HE : Hid ((v == x) = decide (x ∈ fvs 0 v k)) := by
        unfold Hid
        by_cases h : v = x
        · subst h; simp [fvs]
        · have : x ≠ v := fun e => h e.symm
          simp [fvs, h, this]
      go_enter Try.func94, Try.ntmps94
      go_wp2_with fail
      go_ret
      exact ⟨by rw [← HE.out]; rfl, (Below.refl _ _).alloc (Nat.le_refl _) _⟩
    · have gs : (s == 0) = false := by simpa using hs
      have hb0 : Below w.heap.size w (w.alloc (.cells #[.int .i64 s, .int .i64 v, .slice a (flen k) c] 35)) := (Below.refl _ _).alloc (Nat.le_refl _) _
      have HB0 := Lib.hid hb0
      have HV : Hid (fvs s v k = fvl k) := by unfold Hid fvs; rw [if_neg hs]
      clear hb0
      go_enter Try.func94, Try.ntmps94
      go_wp2_with fail
      go_loopw [5] (fun i wr => ∃ j : Nat, j ≤ flen k ∧ i = .int .i64 j ∧ Hid (x ∈ fvl k ↔ x ∈ fvl (fdrop j k)) ∧ Below (w.heap.size + 1) (w.alloc (.cells #[.int .i64 s, .int .i64 v, .slice a (flen k) c] 35)) wr) (fun i _ => flen k - (intOf i).toNat)
      case atStart => exact ⟨0, by omega, rfl, Iff.rfl, Below.refl _ _⟩
      case round =>
        obtain ⟨j, hj, rfl, hq, hbl⟩ := hrel
        have hsr := hbl.size
        simp at hsr
        have hx2 := one_box hbl
        have hbw := HB0.out.trans (hbl.mono (show w.heap.size ≤ w.heap.size + 1 by omega))
        by_cases hlt : j < flen k
        · rcases hl with rfl | ⟨b, o, rfl, hrow⟩
          · simp [flen] at hlt
          obtain ⟨s1, v1, kk, a1, c1, ⟨x1, y1, hd⟩, _, hbB, hk0, hk1, hk2, hsl⟩ := row_at (hrow.below hbw) hlt
          have hkN := fsz_kid hd
          have HQ : Hid (x ∈ fvl k ↔ x ∈ fvs s1 v1 kk ∨ x ∈ fvl (fdrop (j + 1) k)) := hq.out.trans (fvl_drop hd)
          have HS := Lib.hid hsl
          have HBL := Lib.hid hbl
          clear hd hsl hrow hbl hbw hq
          have g1 : (0 : Int) ≤ (j : Int) := by omega
          have g2 : (j : Int) < (flen k : Int) := by omega
          have HS1 := Lib.hid (HS.out.mono (lo' := 0) (Nat.le_refl _) (show w.heap.size ≤ wr.heap.size by omega))
          cases hin : decide (x ∈ fvs s1 v1 kk) with
          | true =>
            have HE : Hid (decide (x ∈ fvs s v k) = true) := by
              unfold Hid
              rw [HV.out]
              exact decide_eq_true (HQ.out.2 (.inl (of_decide_eq_true hin)))
            have HIN := Lib.hid hin
            clear hin
            go_wp2_with fail
            with_reducible refine (IH.out (fsz kk) (by omega) s1 v1 a1 c1 kk x _ HS1.out (Nat.le_refl _) (by omega)).mono ?_
            rw [HIN.out]
            rintro e u ⟨rfl, hu⟩
            clear hk0 hk1 hk2 hx2
            have HB2 := Lib.hid (HBL.out.trans (hu.mono hsr))
            clear hu
            go_wp2_with fail
            go_ret
            exact ⟨by rw [HE.out]; rfl, HB0.out.trans (HB2.out.mono (by omega))⟩
          | false =>
            have HE : Hid (x ∈ fvl k ↔ x ∈ fvl (fdrop (j + 1) k)) := by
              have := of_decide_eq_false hin
              unfold Hid
              rw [HQ.out]
              simp [this]
            have HIN := Lib.hid hin
            clear hin
            go_wp2_with fail
            with_reducible refine (IH.out (fsz kk) (by omega) s1 v1 a1 c1 kk x _ HS1.out (Nat.le_refl _) (by omega)).mono ?_
            rw [HIN.out]
            rintro e u ⟨rfl, hu⟩
            clear hk0 hk1 hk2 hx2
            have HB2 := Lib.hid (HBL.out.trans (hu.mono hsr))
            clear hu
            go_wp2_with fail
            go_roundw
            case rel => exact ⟨j + 1, by omega, by go_num, HE, HB2.out⟩
            case measure => simp [intOf]; omega
        · have HE : Hid (decide (x ∈ fvs s v k) = false) := by
            unfold Hid
            rw [HV.out]
            refine decide_eq_false fun h => ?_
            have := hq.out.1 h
            rw [fdrop_all (by omega)] at this
            simp [fvl] at this
          have HBW := Lib.hid hbw
          clear hbw hbl hq
          go_wp2_with fail
          go_ret
          exact ⟨by rw [HE.out]; rfl, HBW.out⟩
end Go.Proofs.Ytdkcbbhkoibplaa

/-! BG: l2Big at any term. -/
namespace Go.Proofs.Ytdkcbbhkoibplaa
open Go.RowKit Go.Deep

set_option maxRecDepth 100000 in
set_option maxHeartbeats 400000 in
theorem l2BigG_any (s v : Int) (a : Option Addr) (c : Nat) (k : Fo) (w : World) (hl : Sl w 0 w.heap.size a k) :
    Calls Try.prog 46 #[.agg #[.int .i64 s, .int .i64 v, .slice a (flen k) c]] w fun e w' => e = .returned (.bool (!okW s v k 64)) ∧ Below w.heap.size w w' := by
  have hb : Below w.heap.size w (w.alloc (.cells #[.int .i64 s, .int .i64 v, .slice a (flen k) c] 35)) := box_low _ _
  have HB := Lib.hid hb
  have HC := Lib.hid (l1Count_any 64 s v a c k 64 (w.alloc (.cells #[.int .i64 s, .int .i64 v, .slice a (flen k) c] 35)) (hl.next hb) (by omega) (by omega) (by omega))
  have HE : Hid (decide (cntT s v k 64 > 64) = !okW s v k 64) := by
    have h1 := cntT_okW s v k 64
    rw [Hid, ← h1]
    by_cases h : cntT s v k 64 ≤ 64
    · rw [decide_eq_true h, decide_eq_false (by omega)]; rfl
    · rw [decide_eq_false h, decide_eq_true (by omega)]; rfl
  have hc0 : (w.alloc (.cells #[.int .i64 s, .int .i64 v, .slice a (flen k) c] 35)).cell? ⟨w.heap.size, 0, none⟩ = some (.int .i64 s) := by rw [World.cell?_alloc_at _ _ _ _ (by simp)]; rfl
  have hc1 : (w.alloc (.cells #[.int .i64 s, .int .i64 v, .slice a (flen k) c] 35)).cell? ⟨w.heap.size, 1, none⟩ = some (.int .i64 v) := by rw [World.cell?_alloc_at _ _ _ _ (by simp)]; rfl
  have hc2 : (w.alloc (.cells #[.int .i64 s, .int .i64 v, .slice a (flen k) c] 35)).cell? ⟨w.heap.size, 2, none⟩ = some (.slice a (flen k) c) := by rw [World.cell?_alloc_at _ _ _ _ (by simp)]; rfl
  clear hl hb
  go_enter Try.func46, Try.ntmps46
  go_wp2_with fail
  with_reducible refine HC.out.mono ?_
  rintro e w1 ⟨rfl, hb1⟩
  have HB1 := Lib.hid (below_next HB.out hb1)
  have he := HE.out
  clear hb1 HC hc0 hc1 hc2
  generalize cntT s v k 64 = n at *
  go_wp2_with fail
  go_ret
  exact ⟨rfl, HB1.out⟩
end Go.Proofs.Ytdkcbbhkoibplaa

/-! SP5: l11Subst. -/
namespace Go.Proofs.Ytdkcbbhkoibplaa
open Go.RowKit Go.Deep

set_option maxRecDepth 100000 in
set_option maxHeartbeats 2000000 in
theorem l11Subst_any (bs : List Bd) (A : Option Addr) (C : Nat) (w : World) (hb : BSl w 0 w.heap.size A bs) (hl : bs.length ≤ 9223372036854775807) :
    Calls Try.prog 48 #[.slice A bs.length C] w fun e w' => e = .returned (.bool (sok 64 bs)) ∧ Below w.heap.size w w' := by
  have HB := Lib.hid hb
  clear hb
  by_cases hbig : 12 < bs.length
  · have HF : Hid (sok 64 bs = false) := by
      cases h : sok 64 bs with
      | false => exact rfl
      | true => have := sok_len bs (-1) (by omega) h; omega
    go_enter Try.func48, Try.ntmps48
    go_wp2_with fail
    go_ret
    exact ⟨by rw [HF.out]; rfl, Below.refl _ _⟩
  go_enter Try.func48, Try.ntmps48
  go_wp2_with fail
  go_loopw [3] (fun i wr => ∃ (j : Nat) (last : Int), i = .int .i64 j ∧ j ≤ bs.length ∧ Hid (j = 0 → last = -1) ∧ Hid (∀ n, j = n + 1 → ∃ y, bs[n]? = some y ∧ y.1 = last ∧ 0 ≤ last) ∧ Hid (sok 64 bs = sokFrom 64 last (bs.drop j)) ∧ Hid (Below w.heap.size w wr)) (fun i _ => bs.length - (intOf i).toNat)
  case atStart => exact ⟨0, -1, rfl, Nat.zero_le _, fun _ => rfl, fun n hn => by omega, rfl, Below.refl _ _⟩
  case round =>
    obtain ⟨j, last, rfl, hj, HJ0, HJ1, HS, HLW⟩ := hrel
    have hws := HLW.out.size
    by_cases hlt : j < bs.length
    · obtain ⟨x, hx⟩ : ∃ x, bs[j]? = some x := ⟨bs[j], List.getElem?_eq_getElem hlt⟩
      obtain ⟨xv, s, v, k⟩ := x
      have hbr := HB.out.below HLW.out
      rcases hbr with hbr | ⟨b, o, rfl, _, hbB, hcells⟩
      · subst hbr; simp at hx
      obtain ⟨a', c', c0, c1, c2, c3, hsl⟩ := hcells j _ hx
      dsimp only at c0 c1 c2 c3 hsl
      have HD := Lib.hid (drop_bd2 hx)
      have HX := Lib.hid hx
      have g1 : (0 : Int) ≤ (j : Int) := by omega
      have g2 : (j : Int) < (bs.length : Int) := by omega
      have hu0 : ∀ u : After wr.heap.size wr, u.world.cell? ⟨b, o + j * 4, none⟩ = some (.int .i64 xv) := fun u => u.cell (by simp; omega) c0
      have hu1 : ∀ u : After wr.heap.size wr, u.world.cell? ⟨b, o + j * 4 + 1, none⟩ = some (.int .i64 s) := fun u => u.cell (by simp; omega) c1
      have hu2 : ∀ u : After wr.heap.size wr, u.world.cell? ⟨b, o + j * 4 + 1 + 1, none⟩ = some (.int .i64 v) := fun u => u.cell (by simp; omega) c2
      have hu3 : ∀ u : After wr.heap.size wr, u.world.cell? ⟨b, o + j * 4 + 1 + 2, none⟩ = some (.slice a' (flen k) c') := fun u => u.cell (by simp; omega) c3
      have HCALL : Hid (∀ u : After wr.heap.size wr, Calls Try.prog 46 #[.agg #[.int .i64 s, .int .i64 v, .slice a' (flen k) c']] u.world fun e w' => e = .returned (.bool (!okW s v k 64)) ∧ Below u.world.heap.size u.world w') := fun u => by
        have hu := u.below
        exact l2BigG_any s v a' c' k u.world ((hsl.below (hu.mono hws)).mono (Nat.le_refl _) (Nat.le_trans hws hu.size))
      by_cases hin : 0 ≤ xv ∧ xv ≤ 11
      · have hid : decide (0 ≤ xv ∧ xv ≤ (11 : Int)) = true := by simpa using hin
        cases hok : okW s v k 64 with
        | false =>
          rw [hok, Bool.not_false] at HCALL
          have HF : Hid (sok 64 bs = false) := by rw [Hid, HS.out, HD.out]; simp only [sokFrom, hok, Bool.false_and]
          clear hok hcells hx c0 c1 c2 c3 hsl HJ0 HJ1 HD HX hin
          go_wp2_with fail
          refine wp_region_after wr.heap.size (by kernel_rfl) (by kernel_rfl) ?_
          repeat (go_big_quiet_step ((first | (go_at_call 47; exact Calls.after_same (l6In_is hid)) | (go_at_call 46; exact Calls.after (After.below ‹_›).size (HCALL.out _)))))
          refine wpQuiet_nil ?_
          rintro w3 ⟨⟨_, hu⟩, rfl⟩
          have HL3 := Lib.hid (HLW.out.trans (hu.mono hws))
          clear hu0 hu1 hu2 hu3 hu
          go_wp2_with fail
          go_ret
          exact ⟨by rw [HF.out]; rfl, HL3.out⟩
        | true =>
          rw [hok, Bool.not_true] at HCALL
          by_cases hj0 : j = 0
          · subst hj0
            obtain rfl := HJ0.out rfl
            have k0 : ∀ u : After wr.heap.size wr, u.world.cell? ⟨b, o, none⟩ = some (.int .i64 xv) := fun u => hu0 u
            have k1 : ∀ u : After wr.heap.size wr, u.world.cell? ⟨b, o + 1, none⟩ = some (.int .i64 s) := fun u => hu1 u
            have k2 : ∀ u : After wr.heap.size wr, u.world.cell? ⟨b, o + 2, none⟩ = some (.int .i64 v) := fun u => hu2 u
            have k3 : ∀ u : After wr.heap.size wr, u.world.cell? ⟨b, o + 3, none⟩ = some (.slice a' (flen k) c') := fun u => hu3 u
            have k4 : ∀ u : After wr.heap.size wr, u.world.cell? ⟨b, o + 1 + 1, none⟩ = some (.int .i64 v) := fun u => hu2 u
            have k5 : ∀ u : After wr.heap.size wr, u.world.cell? ⟨b, o + 1 + 2, none⟩ = some (.slice a' (flen k) c') := fun u => hu3 u
            have hl0 : 0 < bs.length := hlt
            have HT : Hid (sok 64 bs = sokFrom 64 xv (bs.drop (0 + 1))) := by
              rw [Hid, HS.out, HD.out]
              simp only [sokFrom, hok]
              rw [decide_eq_true (show (-1 : Int) < xv by omega), decide_eq_true (show xv < 12 by omega)]; simp
            clear hok hcells hx c0 c1 c2 c3 hsl HJ0 HJ1 HD hu0 hu1 hu2 hu3
            go_wp2_with fail
            refine wp_region_after wr.heap.size (by kernel_rfl) (by kernel_rfl) ?_
            repeat (go_big_quiet_step ((first | (go_at_call 47; exact Calls.after_same (l6In_is hid)) | (go_at_call 46; exact Calls.after (After.below ‹_›).size (HCALL.out _)))))
            refine wpQuiet_nil ?_
            rintro w3 ⟨⟨_, hu⟩, rfl⟩
            have HL3 := Lib.hid (HLW.out.trans (hu.mono hws))
            clear k0 k1 k2 k3 k4 k5 hu
            go_wp2_with fail
            go_roundw
            case rel => exact ⟨0 + 1, xv, by go_num, by omega, fun h => by omega, fun n hn => ⟨(xv, s, v, k), (by rw [show n = 0 from by omega]; exact HX.out), rfl, hin.1⟩, HT, HL3⟩
            case measure => simp [intOf]; omega
          · obtain ⟨n, rfl⟩ : ∃ n, j = n + 1 := ⟨j - 1, by omega⟩
            obtain ⟨⟨yv, ys, yt, yk⟩, hy, rfl, hl0⟩ := HJ1.out n rfl
            obtain ⟨_, _, p0, _, _, _, _⟩ := hcells n _ hy
            dsimp only at p0 hl0
            have hu4 : ∀ u : After wr.heap.size wr, u.world.cell? ⟨b, o + n * 4, none⟩ = some (.int .i64 yv) := fun u => u.cell (by simp; omega) p0
            have g3 : (0 : Int) ≤ (n : Int) := by omega
            have g4 : (n : Int) < (bs.length : Int) := by omega
            have gi : ((n + 1 : Nat) : Int) - 1 = (n : Int) := by omega
            by_cases hge : xv ≤ yv
            · have HF : Hid (sok 64 bs = false) := by
                rw [Hid, HS.out, HD.out]; simp only [sokFrom]; rw [decide_eq_false (show ¬ yv < xv by omega)]; simp
              clear hok hcells hx c0 c1 c2 c3 hsl HJ0 HJ1 HD p0 hy
              go_wp2_with fail
              refine wp_region_after wr.heap.size (by kernel_rfl) (by kernel_rfl) ?_
              repeat (go_big_quiet_step ((first | (go_at_call 47; exact Calls.after_same (l6In_is hid)) | (go_at_call 46; exact Calls.after (After.below ‹_›).size (HCALL.out _)))))
              refine wpQuiet_nil ?_
              rintro w3 ⟨⟨_, hu⟩, rfl⟩
              have HL3 := Lib.hid (HLW.out.trans (hu.mono hws))
              clear hu0 hu1 hu2 hu3 hu4 hu
              go_wp2_with fail
              go_ret
              exact ⟨by rw [HF.out]; rfl, HL3.out⟩
            · have HT : Hid (sok 64 bs = sokFrom 64 xv (bs.drop (n + 1 + 1))) := by
                rw [Hid, HS.out, HD.out]
                simp only [sokFrom, hok]
                rw [decide_eq_true (show yv < xv by omega), decide_eq_true (show xv < 12 by omega)]; simp
              clear hok hcells hx c0 c1 c2 c3 hsl HJ0 HJ1 HD p0 hy
              go_wp2_with fail
              refine wp_region_after wr.heap.size (by kernel_rfl) (by kernel_rfl) ?_
              repeat (go_big_quiet_step ((first | (go_at_call 47; exact Calls.after_same (l6In_is hid)) | (go_at_call 46; exact Calls.after (After.below ‹_›).size (HCALL.out _)))))
              refine wpQuiet_nil ?_
              rintro w3 ⟨⟨_, hu⟩, rfl⟩
              have HL3 := Lib.hid (HLW.out.trans (hu.mono hws))
              clear hu0 hu1 hu2 hu3 hu4 hu
              go_wp2_with fail
              go_roundw
              case rel => exact ⟨n + 1 + 1, xv, by go_num, by omega, fun h => by omega, fun m hm => ⟨(xv, s, v, k), (by rw [show m = n + 1 from by omega]; exact HX.out), rfl, hin.1⟩, HT, HL3⟩
              case measure => simp [intOf]; omega
      · have hid : decide (0 ≤ xv ∧ xv ≤ (11 : Int)) = false := by simpa using hin
        have HF : Hid (sok 64 bs = false) := by
          rw [Hid, HS.out, HD.out]
          simp only [sokFrom]
          by_cases hx0 : 0 ≤ xv
          · rw [decide_eq_false (show ¬ xv < 12 by omega)]; simp
          · have : ¬ last < xv := by
              rcases j with _ | n
              · have := HJ0.out rfl; omega
              · obtain ⟨_, _, _, h0⟩ := HJ1.out n rfl; omega
            rw [decide_eq_false this]; simp
        clear hcells hx c0 c1 c2 c3 hsl HJ0 HJ1 HD HX hin
        go_wp2_with fail
        refine wp_region_after wr.heap.size (by kernel_rfl) (by kernel_rfl) ?_
        repeat (go_big_quiet_step ((first | (go_at_call 47; exact Calls.after_same (l6In_is hid)) | (go_at_call 46; exact Calls.after (After.below ‹_›).size (HCALL.out _)))))
        refine wpQuiet_nil ?_
        rintro w3 ⟨⟨_, hu⟩, rfl⟩
        have HL3 := Lib.hid (HLW.out.trans (hu.mono hws))
        clear hu0 hu1 hu2 hu3 hu
        go_wp2_with fail
        go_ret
        exact ⟨by rw [HF.out]; rfl, HL3.out⟩
    · have HE : Hid (sok 64 bs = true) := by rw [Hid, HS.out, List.drop_eq_nil_of_le (by omega)]; rfl
      go_wp2_with fail
      go_ret
      exact ⟨by rw [HE.out]; rfl, HLW.out⟩
end Go.Proofs.Ytdkcbbhkoibplaa

/-! SD0: l11Sides. -/
namespace Go.Proofs.Ytdkcbbhkoibplaa
open Go.RowKit Go.Deep

def v3 (t : Tm3) (a : Option Addr) (c : Nat) : Value := .agg #[.int .i64 t.1, .int .i64 t.2.1, .slice a (flen t.2.2) c]
/-- In the midst of it: the equation's box; the two results' boxes. -/
structure SdS (w : World) (s v : Int) (A : Value) (s' v' : Int) (A' : Value) (u : World) : Prop where
  low : Below w.heap.size w u
  e0 : u.cell? ⟨w.heap.size, 0, none⟩ = some (.int .i64 s)
  e1 : u.cell? ⟨w.heap.size, 1, none⟩ = some (.int .i64 v)
  e2 : u.cell? ⟨w.heap.size, 2, none⟩ = some A
  e3 : u.cell? ⟨w.heap.size, 3, none⟩ = some (.int .i64 s')
  e4 : u.cell? ⟨w.heap.size, 4, none⟩ = some (.int .i64 v')
  e5 : u.cell? ⟨w.heap.size, 5, none⟩ = some A'
  q : ∀ j i, j ≤ 1 → i < 3 → (∃ x, u.cell? ⟨w.heap.size + 1 + j, i, none⟩ = some x) ∧ u.frozen? ⟨w.heap.size + 1 + j, i, none⟩ = false
theorem SdS.start {w : World} {s v : Int} {A : Value} {s' v' : Int} {A' : Value} {T T' : TypeId} : SdS w s v A s' v' A' ((((w.alloc (.cells #[.int .i64 s, .int .i64 v, A, .int .i64 s', .int .i64 v', A'] T)).alloc (.cells #[.int .i64 0, .int .i64 0, .slice none 0 0] T')).alloc (.cells #[.int .i64 0, .int .i64 0, .slice none 0 0] T')).drew) := by
  have c : ∀ i, i < 6 → ((((w.alloc (.cells #[.int .i64 s, .int .i64 v, A, .int .i64 s', .int .i64 v', A'] T)).alloc (.cells #[.int .i64 0, .int .i64 0, .slice none 0 0] T')).alloc (.cells #[.int .i64 0, .int .i64 0, .slice none 0 0] T')).drew).cell? ⟨w.heap.size, i, none⟩ = #[Value.int .i64 s, .int .i64 v, A, .int .i64 s', .int .i64 v', A'][i]? := fun i hi => by
    show ((((w.alloc (.cells #[.int .i64 s, .int .i64 v, A, .int .i64 s', .int .i64 v', A'] T)).alloc (.cells #[.int .i64 0, .int .i64 0, .slice none 0 0] T')).alloc (.cells #[.int .i64 0, .int .i64 0, .slice none 0 0] T'))).cell? ⟨w.heap.size, i, none⟩ = _
    rw [World.cell?_alloc_lt _ _ _ (by simp; omega), World.cell?_alloc_lt _ _ _ (by simp), World.cell?_alloc_at _ _ _ _ (by simp)]
  refine ⟨((((Below.refl _ _).alloc (Nat.le_refl _) _).alloc (by simp) _).alloc (by simp; omega) _).drew, c 0 (by omega), c 1 (by omega), c 2 (by omega), c 3 (by omega), c 4 (by omega), c 5 (by omega), fun j i hj hi => ?_⟩
  have h2 : j = 0 ∨ j = 1 := by omega
  have h3 : i = 0 ∨ i = 1 ∨ i = 2 := by omega
  constructor
  · show ∃ x, ((((w.alloc (.cells #[.int .i64 s, .int .i64 v, A, .int .i64 s', .int .i64 v', A'] T)).alloc (.cells #[.int .i64 0, .int .i64 0, .slice none 0 0] T')).alloc (.cells #[.int .i64 0, .int .i64 0, .slice none 0 0] T'))).cell? ⟨w.heap.size + 1 + j, i, none⟩ = some x
    rcases h2 with rfl | rfl
    · rw [World.cell?_alloc_lt _ _ _ (by simp), World.cell?_alloc_at _ _ _ _ (by simp)]
      rcases h3 with rfl | rfl | rfl <;> exact ⟨_, rfl⟩
    · rw [World.cell?_alloc_at _ _ _ _ (by simp)]
      rcases h3 with rfl | rfl | rfl <;> exact ⟨_, rfl⟩
  · show ((((w.alloc (.cells #[.int .i64 s, .int .i64 v, A, .int .i64 s', .int .i64 v', A'] T)).alloc (.cells #[.int .i64 0, .int .i64 0, .slice none 0 0] T')).alloc (.cells #[.int .i64 0, .int .i64 0, .slice none 0 0] T'))).frozen? ⟨w.heap.size + 1 + j, i, none⟩ = false
    rcases h2 with rfl | rfl
    · rw [World.frozen?_alloc_past _ _ _ (by simp), World.frozen?_alloc_at _ _ _ _ (by simp)]
    · rw [World.frozen?_alloc_at _ _ _ _ (by simp)]
/-- A result's box is filled. -/
theorem SdS.fill {w : World} {s v : Int} {A : Value} {s' v' : Int} {A' : Value} {u : World} (h : SdS w s v A s' v' A' u) {j : Nat} (hj : j ≤ 1) (x y z : Value) : SdS w s v A s' v' A' (s3 u (w.heap.size + 1 + j) x y z) ∧ (s3 u (w.heap.size + 1 + j) x y z).cell? ⟨w.heap.size + 1 + j, 0, none⟩ = some x ∧ (s3 u (w.heap.size + 1 + j) x y z).cell? ⟨w.heap.size + 1 + j, 1, none⟩ = some y ∧ (s3 u (w.heap.size + 1 + j) x y z).cell? ⟨w.heap.size + 1 + j, 2, none⟩ = some z := by
  obtain ⟨⟨p0, h0⟩, _⟩ := h.q j 0 hj (by omega)
  obtain ⟨⟨p1, h1⟩, _⟩ := h.q j 1 hj (by omega)
  obtain ⟨⟨p2, h2⟩, _⟩ := h.q j 2 hj (by omega)
  have hc := s3_in (x := x) (y := y) (z := z) h0 h1 h2
  have hf : ∀ {b i : Nat}, b ≠ w.heap.size + 1 + j → (s3 u (w.heap.size + 1 + j) x y z).cell? ⟨b, i, none⟩ = u.cell? ⟨b, i, none⟩ := fun hb => (s3_far (q := ⟨_, _, none⟩) hb).1
  refine ⟨⟨?_, by rw [hf (by omega)]; exact h.e0, by rw [hf (by omega)]; exact h.e1, by rw [hf (by omega)]; exact h.e2, by rw [hf (by omega)]; exact h.e3, by rw [hf (by omega)]; exact h.e4, by rw [hf (by omega)]; exact h.e5, fun j' i hj' hi => ?_⟩, hc⟩
  · unfold s3
    exact ((h.low.setCell (by simp; omega) _).setCell (by simp; omega) _).setCell (by simp; omega) _
  · refine ⟨?_, by rw [s3_fr]; exact (h.q j' i hj' hi).2⟩
    by_cases e : j' = j
    · subst e
      have h3 : i = 0 ∨ i = 1 ∨ i = 2 := by omega
      rcases h3 with rfl | rfl | rfl
      · exact ⟨_, hc.1⟩
      · exact ⟨_, hc.2.1⟩
      · exact ⟨_, hc.2.2⟩
    · rw [hf (by omega)]
      exact (h.q j' i hj' hi).1
set_option maxRecDepth 100000 in
set_option maxHeartbeats 2000000 in
theorem l11Sides_any (s v s' v' : Int) (a1 a2 : Option Addr) (n1 c1 n2 c2 : Nat) (back : Bool) (w : World) :
    Calls Try.prog 49 #[.agg #[.int .i64 s, .int .i64 v, .slice a1 n1 c1, .int .i64 s', .int .i64 v', .slice a2 n2 c2], .bool back] w fun e w' =>
      e = .returned (.tuple (if back = true then #[.agg #[.int .i64 s', .int .i64 v', .slice a2 n2 c2], .agg #[.int .i64 s, .int .i64 v, .slice a1 n1 c1]] else #[.agg #[.int .i64 s, .int .i64 v, .slice a1 n1 c1], .agg #[.int .i64 s', .int .i64 v', .slice a2 n2 c2]])) ∧ Below w.heap.size w w' := by
  go_enter Try.func49, Try.ntmps49
  cases back with
  | true =>
    go_wp2_with fail
    refine wp_region_typed (fun i x _ => x = ([.pointer (some ⟨w.heap.size, 3, none⟩), .agg #[.int .i64 s', .int .i64 v', .slice a2 n2 c2], .pointer (some ⟨w.heap.size, 0, none⟩), .agg #[.int .i64 s, .int .i64 v, .slice a1 n1 c1], undef, undef] : List Value).getD i undef) (fun listed _ u => SdS w s v (.slice a1 n1 c1) s' v' (.slice a2 n2 c2) u ∧ (listed.getD 4 false = true → u.cell? ⟨w.heap.size + 1, 0, none⟩ = some (.int .i64 s') ∧ u.cell? ⟨w.heap.size + 1, 1, none⟩ = some (.int .i64 v') ∧ u.cell? ⟨w.heap.size + 1, 2, none⟩ = some (.slice a2 n2 c2)) ∧ (listed.getD 5 false = true → u.cell? ⟨w.heap.size + 1 + 1, 0, none⟩ = some (.int .i64 s) ∧ u.cell? ⟨w.heap.size + 1 + 1, 1, none⟩ = some (.int .i64 v) ∧ u.cell? ⟨w.heap.size + 1 + 1, 2, none⟩ = some (.slice a1 n1 c1))) (fun _ _ => True) (by kernel_rfl) (by kernel_rfl) (fun i x u u' h _ => h) ⟨SdS.start, fun h => by simp at h, fun h => by simp at h⟩ ?_ ?_
    · intro i o hi listed a u hst hun hdep
      have hin : i < 6 := (Array.getElem?_eq_some_iff.1 hi).1
      obtain ⟨hS, h4, h5⟩ := hst.s
      obtain ⟨hlow, e0, e1, e2, e3, e4, e5, hq⟩ := hS
      have hS : SdS w s v (.slice a1 n1 c1) s' v' (.slice a2 n2 c2) u := ⟨hlow, e0, e1, e2, e3, e4, e5, hq⟩
      have h16 : i = 0 ∨ i = 1 ∨ i = 2 ∨ i = 3 ∨ i = 4 ∨ i = 5 := by omega
      rcases h16 with rfl | rfl | rfl | rfl | rfl | rfl
      · obtain rfl := Option.some.inj hi
        have ht : (a.tmps[2]?).getD undef = .pointer (some ⟨w.heap.size, 0, none⟩) := hst.old 2 (by kernel_rfl)
        refine wpOp_of rfl rfl (fun K hK => ?_)
        go_simp
        refine hK _ _ ⟨_, rfl, ⟨hS, fun h => h4 (set_was (i := 0) (by decide) h), fun h => h5 (set_was (i := 0) (by decide) h)⟩, trivial, fun d hd => rfl⟩
      · obtain rfl := Option.some.inj hi
        have ht : (a.tmps[7]?).getD undef = .pointer (some ⟨w.heap.size, 3, none⟩) := hst.at hdep 0 7 (by kernel_rfl) (by kernel_rfl)
        refine wpOp_of rfl rfl (fun K hK => ?_)
        go_simp
        refine hK _ _ ⟨_, rfl, ⟨hS, fun h => h4 (set_was (i := 1) (by decide) h), fun h => h5 (set_was (i := 1) (by decide) h)⟩, trivial, fun d hd => rfl⟩
      · obtain rfl := Option.some.inj hi
        have ht : (a.tmps[2]?).getD undef = .pointer (some ⟨w.heap.size, 0, none⟩) := hst.old 2 (by kernel_rfl)
        refine wpOp_of rfl rfl (fun K hK => ?_)
        go_simp
        refine hK _ _ ⟨_, rfl, ⟨hS, fun h => h4 (set_was (i := 2) (by decide) h), fun h => h5 (set_was (i := 2) (by decide) h)⟩, trivial, fun d hd => rfl⟩
      · obtain rfl := Option.some.inj hi
        have ht : (a.tmps[9]?).getD undef = .pointer (some ⟨w.heap.size, 0, none⟩) := hst.at hdep 2 9 (by kernel_rfl) (by kernel_rfl)
        refine wpOp_of rfl rfl (fun K hK => ?_)
        go_simp
        refine hK _ _ ⟨_, rfl, ⟨hS, fun h => h4 (set_was (i := 3) (by decide) h), fun h => h5 (set_was (i := 3) (by decide) h)⟩, trivial, fun d hd => rfl⟩
      · obtain rfl := Option.some.inj hi
        have hv : (a.tmps[8]?).getD undef = .agg #[.int .i64 s', .int .i64 v', .slice a2 n2 c2] := hst.at hdep 1 8 (by kernel_rfl) (by kernel_rfl)
        have ht : (a.tmps[4]?).getD undef = .pointer (some ⟨w.heap.size + 1, 0, none⟩) := hst.old 4 (by kernel_rfl)
        obtain ⟨⟨p0, e0_⟩, f0⟩ := hq 0 0 (by omega) (by omega)
        obtain ⟨⟨p1, e1_⟩, f1⟩ := hq 0 1 (by omega) (by omega)
        obtain ⟨⟨p2, e2_⟩, f2⟩ := hq 0 2 (by omega) (by omega)
        obtain ⟨hF, d0, d1, d2⟩ := hS.fill (j := 0) (by omega) (.int .i64 s') (.int .i64 v') (.slice a2 n2 c2)
        refine wpOp_of rfl rfl (fun K hK => ?_)
        simp only [Nat.add_zero] at e0_ e1_ e2_ f0 f1 f2
        go_simp
        refine hK _ _ ⟨undef, rfl, ⟨hF, fun _ => ⟨d0, d1, d2⟩, fun h => by
        obtain ⟨r0, r1, r2⟩ := h5 (set_was (i := 4) (by decide) h)
        refine ⟨?_, ?_, ?_⟩
        · exact (s3_far (q := ⟨_, _, none⟩) (by simp)).1.trans r0
        · exact (s3_far (q := ⟨_, _, none⟩) (by simp)).1.trans r1
        · exact (s3_far (q := ⟨_, _, none⟩) (by simp)).1.trans r2⟩, trivial, fun d hd => by cases hd⟩
      · obtain rfl := Option.some.inj hi
        have hv : (a.tmps[10]?).getD undef = .agg #[.int .i64 s, .int .i64 v, .slice a1 n1 c1] := hst.at hdep 3 10 (by kernel_rfl) (by kernel_rfl)
        have ht : (a.tmps[5]?).getD undef = .pointer (some ⟨w.heap.size + 1 + 1, 0, none⟩) := hst.old 5 (by kernel_rfl)
        obtain ⟨⟨p0, e0_⟩, f0⟩ := hq 1 0 (by omega) (by omega)
        obtain ⟨⟨p1, e1_⟩, f1⟩ := hq 1 1 (by omega) (by omega)
        obtain ⟨⟨p2, e2_⟩, f2⟩ := hq 1 2 (by omega) (by omega)
        obtain ⟨hF, d0, d1, d2⟩ := hS.fill (j := 1) (by omega) (.int .i64 s) (.int .i64 v) (.slice a1 n1 c1)
        refine wpOp_of rfl rfl (fun K hK => ?_)
        go_simp
        refine hK _ _ ⟨undef, rfl, ⟨hF, fun h => by
        obtain ⟨r0, r1, r2⟩ := h4 (set_was (i := 5) (by decide) h)
        refine ⟨?_, ?_, ?_⟩
        · exact (s3_far (q := ⟨_, _, none⟩) (by simp)).1.trans r0
        · exact (s3_far (q := ⟨_, _, none⟩) (by simp)).1.trans r1
        · exact (s3_far (q := ⟨_, _, none⟩) (by simp)).1.trans r2, fun _ => ⟨d0, d1, d2⟩⟩, trivial, fun d hd => by cases hd⟩
    · intro listed a u hst hall
      obtain ⟨hS, h4, h5⟩ := hst.s
      obtain ⟨k0, k1, k2⟩ := h4 (hall 4 (by decide))
      obtain ⟨d0, d1, d2⟩ := h5 (hall 5 (by decide))
      have ht : (a.tmps[4]?).getD undef = .pointer (some ⟨w.heap.size + 1, 0, none⟩) := hst.old 4 (by kernel_rfl)
      have ht2 : (a.tmps[5]?).getD undef = .pointer (some ⟨w.heap.size + 1 + 1, 0, none⟩) := hst.old 5 (by kernel_rfl)
      have hdf : a.defers = [] := hst.defers
      clear hst
      obtain ⟨tm, df⟩ := a
      dsimp only at hdf ht ht2
      subst hdf
      go_wp2_with fail
      refine bodyPost_ret (v := .tuple #[.agg #[.int .i64 s', .int .i64 v', .slice a2 n2 c2], .agg #[.int .i64 s, .int .i64 v, .slice a1 n1 c1]]) ?_ rfl ⟨rfl, hS.low⟩
      simp [results, Try.results49, go_sem, ht, ht2, k0, k1, k2, d0, d1, d2]
  | false =>
    go_wp2_with fail
    refine wp_region_typed (fun i x _ => x = ([.pointer (some ⟨w.heap.size, 0, none⟩), .agg #[.int .i64 s, .int .i64 v, .slice a1 n1 c1], .pointer (some ⟨w.heap.size, 3, none⟩), .agg #[.int .i64 s', .int .i64 v', .slice a2 n2 c2], undef, undef] : List Value).getD i undef) (fun listed _ u => SdS w s v (.slice a1 n1 c1) s' v' (.slice a2 n2 c2) u ∧ (listed.getD 4 false = true → u.cell? ⟨w.heap.size + 1, 0, none⟩ = some (.int .i64 s) ∧ u.cell? ⟨w.heap.size + 1, 1, none⟩ = some (.int .i64 v) ∧ u.cell? ⟨w.heap.size + 1, 2, none⟩ = some (.slice a1 n1 c1)) ∧ (listed.getD 5 false = true → u.cell? ⟨w.heap.size + 1 + 1, 0, none⟩ = some (.int .i64 s') ∧ u.cell? ⟨w.heap.size + 1 + 1, 1, none⟩ = some (.int .i64 v') ∧ u.cell? ⟨w.heap.size + 1 + 1, 2, none⟩ = some (.slice a2 n2 c2))) (fun _ _ => True) (by kernel_rfl) (by kernel_rfl) (fun i x u u' h _ => h) ⟨SdS.start, fun h => by simp at h, fun h => by simp at h⟩ ?_ ?_
    · intro i o hi listed a u hst hun hdep
      have hin : i < 6 := (Array.getElem?_eq_some_iff.1 hi).1
      obtain ⟨hS, h4, h5⟩ := hst.s
      obtain ⟨hlow, e0, e1, e2, e3, e4, e5, hq⟩ := hS
      have hS : SdS w s v (.slice a1 n1 c1) s' v' (.slice a2 n2 c2) u := ⟨hlow, e0, e1, e2, e3, e4, e5, hq⟩
      have h16 : i = 0 ∨ i = 1 ∨ i = 2 ∨ i = 3 ∨ i = 4 ∨ i = 5 := by omega
      rcases h16 with rfl | rfl | rfl | rfl | rfl | rfl
      · obtain rfl := Option.some.inj hi
        have ht : (a.tmps[2]?).getD undef = .pointer (some ⟨w.heap.size, 0, none⟩) := hst.old 2 (by kernel_rfl)
        refine wpOp_of rfl rfl (fun K hK => ?_)
        go_simp
        refine hK _ _ ⟨_, rfl, ⟨hS, fun h => h4 (set_was (i := 0) (by decide) h), fun h => h5 (set_was (i := 0) (by decide) h)⟩, trivial, fun d hd => rfl⟩
      · obtain rfl := Option.some.inj hi
        have ht : (a.tmps[11]?).getD undef = .pointer (some ⟨w.heap.size, 0, none⟩) := hst.at hdep 0 11 (by kernel_rfl) (by kernel_rfl)
        refine wpOp_of rfl rfl (fun K hK => ?_)
        go_simp
        refine hK _ _ ⟨_, rfl, ⟨hS, fun h => h4 (set_was (i := 1) (by decide) h), fun h => h5 (set_was (i := 1) (by decide) h)⟩, trivial, fun d hd => rfl⟩
      · obtain rfl := Option.some.inj hi
        have ht : (a.tmps[2]?).getD undef = .pointer (some ⟨w.heap.size, 0, none⟩) := hst.old 2 (by kernel_rfl)
        refine wpOp_of rfl rfl (fun K hK => ?_)
        go_simp
        refine hK _ _ ⟨_, rfl, ⟨hS, fun h => h4 (set_was (i := 2) (by decide) h), fun h => h5 (set_was (i := 2) (by decide) h)⟩, trivial, fun d hd => rfl⟩
      · obtain rfl := Option.some.inj hi
        have ht : (a.tmps[13]?).getD undef = .pointer (some ⟨w.heap.size, 3, none⟩) := hst.at hdep 2 13 (by kernel_rfl) (by kernel_rfl)
        refine wpOp_of rfl rfl (fun K hK => ?_)
        go_simp
        refine hK _ _ ⟨_, rfl, ⟨hS, fun h => h4 (set_was (i := 3) (by decide) h), fun h => h5 (set_was (i := 3) (by decide) h)⟩, trivial, fun d hd => rfl⟩
      · obtain rfl := Option.some.inj hi
        have hv : (a.tmps[12]?).getD undef = .agg #[.int .i64 s, .int .i64 v, .slice a1 n1 c1] := hst.at hdep 1 12 (by kernel_rfl) (by kernel_rfl)
        have ht : (a.tmps[4]?).getD undef = .pointer (some ⟨w.heap.size + 1, 0, none⟩) := hst.old 4 (by kernel_rfl)
        obtain ⟨⟨p0, e0_⟩, f0⟩ := hq 0 0 (by omega) (by omega)
        obtain ⟨⟨p1, e1_⟩, f1⟩ := hq 0 1 (by omega) (by omega)
        obtain ⟨⟨p2, e2_⟩, f2⟩ := hq 0 2 (by omega) (by omega)
        obtain ⟨hF, d0, d1, d2⟩ := hS.fill (j := 0) (by omega) (.int .i64 s) (.int .i64 v) (.slice a1 n1 c1)
        refine wpOp_of rfl rfl (fun K hK => ?_)
        simp only [Nat.add_zero] at e0_ e1_ e2_ f0 f1 f2
        go_simp
        refine hK _ _ ⟨undef, rfl, ⟨hF, fun _ => ⟨d0, d1, d2⟩, fun h => by
        obtain ⟨r0, r1, r2⟩ := h5 (set_was (i := 4) (by decide) h)
        refine ⟨?_, ?_, ?_⟩
        · exact (s3_far (q := ⟨_, _, none⟩) (by simp)).1.trans r0
        · exact (s3_far (q := ⟨_, _, none⟩) (by simp)).1.trans r1
        · exact (s3_far (q := ⟨_, _, none⟩) (by simp)).1.trans r2⟩, trivial, fun d hd => by cases hd⟩
      · obtain rfl := Option.some.inj hi
        have hv : (a.tmps[14]?).getD undef = .agg #[.int .i64 s', .int .i64 v', .slice a2 n2 c2] := hst.at hdep 3 14 (by kernel_rfl) (by kernel_rfl)
        have ht : (a.tmps[5]?).getD undef = .pointer (some ⟨w.heap.size + 1 + 1, 0, none⟩) := hst.old 5 (by kernel_rfl)
        obtain ⟨⟨p0, e0_⟩, f0⟩ := hq 1 0 (by omega) (by omega)
        obtain ⟨⟨p1, e1_⟩, f1⟩ := hq 1 1 (by omega) (by omega)
        obtain ⟨⟨p2, e2_⟩, f2⟩ := hq 1 2 (by omega) (by omega)
        obtain ⟨hF, d0, d1, d2⟩ := hS.fill (j := 1) (by omega) (.int .i64 s') (.int .i64 v') (.slice a2 n2 c2)
        refine wpOp_of rfl rfl (fun K hK => ?_)
        go_simp
        refine hK _ _ ⟨undef, rfl, ⟨hF, fun h => by
        obtain ⟨r0, r1, r2⟩ := h4 (set_was (i := 5) (by decide) h)
        refine ⟨?_, ?_, ?_⟩
        · exact (s3_far (q := ⟨_, _, none⟩) (by simp)).1.trans r0
        · exact (s3_far (q := ⟨_, _, none⟩) (by simp)).1.trans r1
        · exact (s3_far (q := ⟨_, _, none⟩) (by simp)).1.trans r2, fun _ => ⟨d0, d1, d2⟩⟩, trivial, fun d hd => by cases hd⟩
    · intro listed a u hst hall
      obtain ⟨hS, h4, h5⟩ := hst.s
      obtain ⟨k0, k1, k2⟩ := h4 (hall 4 (by decide))
      obtain ⟨d0, d1, d2⟩ := h5 (hall 5 (by decide))
      have ht : (a.tmps[4]?).getD undef = .pointer (some ⟨w.heap.size + 1, 0, none⟩) := hst.old 4 (by kernel_rfl)
      have ht2 : (a.tmps[5]?).getD undef = .pointer (some ⟨w.heap.size + 1 + 1, 0, none⟩) := hst.old 5 (by kernel_rfl)
      have hdf : a.defers = [] := hst.defers
      clear hst
      obtain ⟨tm, df⟩ := a
      dsimp only at hdf ht ht2
      subst hdf
      go_wp2_with fail
      refine bodyPost_ret (v := .tuple #[.agg #[.int .i64 s, .int .i64 v, .slice a1 n1 c1], .agg #[.int .i64 s', .int .i64 v', .slice a2 n2 c2]]) ?_ rfl ⟨rfl, hS.low⟩
      simp [results, Try.results49, go_sem, ht, ht2, k0, k1, k2, d0, d1, d2]
end Go.Proofs.Ytdkcbbhkoibplaa

/-! C3: - nodePut: another node put to a place; the nodes on the way are made anew. -/
namespace Go.Proofs.Ytdkcbbhkoibplaa
open Go.RowKit Go.Deep
attribute [local go_sem ↓] Go.wp_at_zero Go.wp_at_succ

/-- A place from its n-th number on. -/
theorem cut_from {pA : Option Addr} {pC n : Nat} {place : List Int} (hn : n ≤ place.length) (hc : place.length ≤ pC) : ∃ A', (∀ w : World, (Instr.slice 26 (.slice pA place.length pC) (some (.int .i64 (n : Int))) none none).run Try.prog w = .ok (.slice A' (place.length - n) (pC - n)) w) ∧
    ∀ {w : World} {lo B : Nat}, ISl w lo B pA place → ISc w lo B A' (pC - n) (place.drop n) := by
  obtain ⟨ti, hti, htz, hts, htb⟩ := Try.infoI
  have hsz : ∀ w : World, (sizeOf (Try.prog.elem 26)).run Try.prog w = .ok 1 w := fun w => by
    have he : Try.prog.elem 26 = 3 := by kernel_rfl
    rw [he]
    simp [sizeOf, typeInfo, hti, hts]
  have hel : Try.prog.underlying 26 = some (.slice (Try.prog.elem 26)) := by kernel_rfl
  have hrun : ∀ w : World, (Instr.slice 26 (.slice pA place.length pC) (some (.int .i64 (n : Int))) none none).run Try.prog w = .ok (sliced pA n place.length pC 1) w := fun w => by
    rw [run_slice_l (P := Try.prog) w 26 pA place.length pC hel .i64 (n : Int) (by omega) (by omega), hsz]
    simp [Result.andThen]
  refine ⟨if pC = n then pA else pA.map (·.add (n * 1)), fun w => by rw [hrun w]; rfl, fun {w lo B} h => ⟨?_, by simp; omega⟩⟩
  split
  · exact .inl (List.drop_eq_nil_of_le (by omega))
  · rcases h with rfl | ⟨b, o, rfl, h1, h2, h3⟩
    · exact .inl (by simp)
    · refine .inr ⟨b, o + n, ?_, h1, h2, fun j x hx => ?_⟩
      · have ha : (⟨b, o, none⟩ : Addr).add n = ⟨b, o + n, none⟩ := by unfold Addr.add; split <;> simp_all
        simp only [Option.map_some, Nat.mul_one, ha]
      · rw [List.getElem?_drop] at hx
        rw [show o + n + j = o + (n + j) from by omega]
        exact h3 (n + j) x hx
end Go.Proofs.Ytdkcbbhkoibplaa

/-! C4: - impl.TermPut: a term with another put to a place, made anew. -/
namespace Go.Proofs.Ytdkcbbhkoibplaa
open Go.RowKit Go.Deep
attribute [local go_sem ↓] Go.wp_at_zero Go.wp_at_succ

/-- The cells that hold the answer, behind two boxes. -/
theorem put_cells {w w1 : World} {o o' : Obj} (hb : Below (w.heap.size + 3) (((w.alloc o).alloc o').alloc (.cells #[.int .i64 0, .int .i64 0, .slice none 0 0] 35)) w1) :
    w1.cell? ⟨w.heap.size + 1 + 1, 0, none⟩ = some (.int .i64 0) ∧ w1.cell? ⟨w.heap.size + 1 + 1, 1, none⟩ = some (.int .i64 0) ∧ w1.cell? ⟨w.heap.size + 1 + 1, 2, none⟩ = some (.slice none 0 0) ∧
      w1.frozen? ⟨w.heap.size + 1 + 1, 0, none⟩ = false ∧ w1.frozen? ⟨w.heap.size + 1 + 1, 1, none⟩ = false ∧ w1.frozen? ⟨w.heap.size + 1 + 1, 2, none⟩ = false := by
  refine ⟨?_, ?_, ?_, ?_, ?_, ?_⟩
  · rw [hb.cell (by simp), World.cell?_alloc_at _ _ _ _ (by simp)]; rfl
  · rw [hb.cell (by simp), World.cell?_alloc_at _ _ _ _ (by simp)]; rfl
  · rw [hb.cell (by simp), World.cell?_alloc_at _ _ _ _ (by simp)]; rfl
  · rw [hb.frozen (by simp), World.frozen?_alloc_at _ _ _ _ (by simp)]
  · rw [hb.frozen (by simp), World.frozen?_alloc_at _ _ _ _ (by simp)]
  · rw [hb.frozen (by simp), World.frozen?_alloc_at _ _ _ _ (by simp)]
/-- The cells of the second box. -/
theorem put_box {w w1 : World} {o Z : Obj} {x y z : Value} (hb : Below (w.heap.size + 3) (((w.alloc o).alloc (.cells #[x, y, z] 35)).alloc Z) w1) :
    w1.cell? ⟨w.heap.size + 1, 0, none⟩ = some x ∧ w1.cell? ⟨w.heap.size + 1, 1, none⟩ = some y ∧ w1.cell? ⟨w.heap.size + 1, 2, none⟩ = some z := by
  refine ⟨?_, ?_, ?_⟩
  · rw [hb.cell (by simp), World.cell?_alloc_lt _ _ _ (by simp), World.cell?_alloc_at _ _ _ _ (by simp)]; rfl
  · rw [hb.cell (by simp), World.cell?_alloc_lt _ _ _ (by simp), World.cell?_alloc_at _ _ _ _ (by simp)]; rfl
  · rw [hb.cell (by simp), World.cell?_alloc_lt _ _ _ (by simp), World.cell?_alloc_at _ _ _ _ (by simp)]; rfl

end Go.Proofs.Ytdkcbbhkoibplaa
