/- heldTermS, heldTerm: a tree that counts up is held; markTerm on a tree. -/
import Derived.Test.YtebalmemncldlabXMt
namespace Go.Proofs.Ytebalmemncldlab
open Go.RowKit Go.Deep

set_option maxRecDepth 100000 in
set_option maxHeartbeats 1000000 in
theorem heldTermS_any (N : Nat) : ∀ (a : Option Addr) (c : Nat) (k : Fo) (lo B : Nat) (m : Int) (w : World), HdS w lo B a k m → fsz k ≤ N → N ≤ 1048576 → 0 ≤ m → m + 2 * (fsz k : Int) ≤ 10000000 → B ≤ w.heap.size →
    Calls Try.prog 66 #[.slice a (flen k) c, .int .i64 m] w fun e w' => e = .returned (.int .i64 (m + 2 * (fsz k : Int))) ∧ Below w.heap.size w w' := by
  induction N using Nat.strongRecOn with
  | _ N ih =>
    intro a c k lo B m w hl hN hN2 hm0 hm1 hB
    have hfl := flen_le (k := k)
    have IH := Lib.hid ih
    have HL := Lib.hid hl
    clear ih hl
    go_enter Try.func66, Try.ntmps66
    go_wp2_with fail
    go_loopw [1, 5] (fun t i wr => ∃ j : Nat, j ≤ flen k ∧ i = .int .i64 j ∧ t = .int .i64 (cnt k m j) ∧ Below w.heap.size w wr) (fun _ i _ => flen k - (intOf i).toNat)
    case atStart => exact ⟨0, by omega, rfl, by simp [cnt, fdrop], Below.refl _ _⟩
    case round =>
      obtain ⟨j, hj, rfl, rfl, hbl⟩ := hrel
      have hbs := hbl.size
      by_cases hlt : j < flen k
      · have hb : ∃ b, a = some ⟨b, 0, none⟩ ∧ HdAt wr lo B k b 0 m j := by
          rcases HL.out.same (Same.of_below (hbl.mono hB)) with h | ⟨b, e, h⟩
          · rw [h] at hlt; simp [flen] at hlt
          · exact ⟨b, e, h.at j hlt⟩
        obtain ⟨b, rfl, x, y, s', v', kk, a', c', hd, hx, hy, hc, hk⟩ := hb
        rw [Nat.zero_add] at hx hy hc
        have hkN := fsz_kid' hd
        have hdr := fsz_drop' j k
        have hcn : cnt k m (j + 1) = cnt k m j + 2 + 2 * (fsz kk : Int) := by
          unfold cnt
          rw [hd]
          simp only [fsz]
          push_cast
          omega
        have hc0 : 0 ≤ cnt k m j := by unfold cnt; omega
        have hc1 : cnt k m j + 2 + 2 * (fsz kk : Int) ≤ 10000000 := by
          rw [← hcn]
          have := fsz_drop' (j + 1) k
          unfold cnt
          omega
        have HCN := Lib.hid hcn
        have HK := Lib.hid hk
        have HBL := Lib.hid hbl
        have g1 : (0 : Int) ≤ (j : Int) := by omega
        have g2 : (j : Int) < (flen k : Int) := by omega
        clear hd hk hcn hbl
        generalize cnt k m j = l at *
        have HK' : Hid (HdS wr lo B a' kk (l + 1 + 1)) := by rw [show l + 1 + 1 = l + 2 from by omega]; exact HK.out
        have x1 : (l != l) = false := by simp
        have x2 : ((l + 1) != (l + 1)) = false := by simp
        have x3 : decide (l + 1 + 1 + 2 * (fsz kk : Int) < 0) = false := decide_eq_false (by omega)
        go_wp2_with fail
        with_reducible refine (IH.out (fsz kk) (by omega) a' c' kk lo B (l + 1 + 1) _ HK'.out (Nat.le_refl _) (by omega) (by omega) (by omega) (by omega)).mono ?_
        rintro e w2 ⟨rfl, hb2⟩
        have HB2 := Lib.hid (HBL.out.trans (hb2.mono hbs))
        clear hb2 hx hy hc
        go_wp2_with fail
        go_roundw
        case rel => exact ⟨j + 1, by omega, by go_num, by rw [HCN.out, show l + 1 + 1 = l + 2 from by omega], HB2.out⟩
        case measure => simp [intOf]; omega
      · have hje : j = flen k := by omega
        subst hje
        have HE : Hid (cnt k m (flen k) = m + 2 * (fsz k : Int)) := by
          unfold Hid cnt
          rw [fdrop_all (Nat.le_refl _)]
          simp [fsz]
        go_wp2_with fail
        go_ret
        exact ⟨by rw [← HE.out]; rfl, hbl⟩

set_option maxRecDepth 100000 in
set_option maxHeartbeats 1000000 in
theorem heldTerm_any (s v : Int) (a : Option Addr) (c : Nat) (k : Fo) (lo B : Nat) (m : Int) (w : World) (hl : HdS w lo B a k m) (hN : fsz k ≤ 1048576) (hm0 : 0 ≤ m) (hm1 : m + 2 * (fsz k : Int) ≤ 10000000) (hB : B ≤ w.heap.size) :
    Calls Try.prog 38 #[.agg #[.int .i64 s, .int .i64 v, .slice a (flen k) c], .int .i64 m] w fun e w' => e = .returned (.int .i64 (m + 2 * (fsz k : Int))) ∧ Below w.heap.size w w' := by
  have HB0 : Hid (Below w.heap.size w (w.alloc (.cells #[.int .i64 s, .int .i64 v, .slice a (flen k) c] 25))) := (Below.refl _ _).alloc (Nat.le_refl _) _
  have HS : Hid (HdS (w.alloc (.cells #[.int .i64 s, .int .i64 v, .slice a (flen k) c] 25)) lo B a k m) := hl.same (Same.of_below (HB0.out.mono hB))
  have x3 : decide (m + 2 * (fsz k : Int) < 0) = false := decide_eq_false (by omega)
  clear hl
  go_enter Try.func38, Try.ntmps38
  go_wp2_with fail
  with_reducible refine (heldTermS_any (fsz k) a c k lo B m _ HS.out (Nat.le_refl _) hN hm0 hm1 (by simp; omega)).mono ?_
  rintro e w2 ⟨rfl, hb2⟩
  have HB2 := Lib.hid (HB0.out.trans (hb2.mono (by simp)))
  clear hb2
  go_wp2_with fail
  go_ret
  exact ⟨rfl, HB2.out⟩

set_option maxRecDepth 100000 in
set_option maxHeartbeats 1000000 in
theorem markTermT_any (s v : Int) (a : Option Addr) (c : Nat) (k : Fo) (lo B : Nat) (m : Int) (w : World) (hl : TrS w lo B a k) (hN : fsz k ≤ 1048576) (hm0 : 0 ≤ m) (hm1 : m + 2 * (fsz k : Int) ≤ 10000000) (hlo : lo ≤ B) (hB : B ≤ w.heap.size) :
    Calls Try.prog 30 #[.agg #[.int .i64 s, .int .i64 v, .slice a (flen k) c], .int .i64 m] w fun e w' => e = .returned (.int .i64 (m + 2 * (fsz k : Int))) ∧ Marked lo B w w' ∧ HdS w' lo B a k m := by
  have HM0 : Hid (Marked lo B w (w.alloc (.cells #[.int .i64 s, .int .i64 v, .slice a (flen k) c] 25))) := (Marked.refl lo B w).more ((Below.refl _ _).alloc (Nat.le_refl _) _) hB (by omega)
  have HS : Hid (TrS (w.alloc (.cells #[.int .i64 s, .int .i64 v, .slice a (flen k) c] 25)) lo B a k) := hl.same (Same.of_below ((Below.refl _ _).alloc (by omega) _))
  clear hl
  go_enter Try.func30, Try.ntmps30
  go_wp2_with fail
  with_reducible refine (markTree_any (fsz k) a c k lo B m _ HS.out (Nat.le_refl _) hN hm0 hm1 hlo (by simp; omega)).mono ?_
  rintro e w2 ⟨rfl, hmk2, hhd2⟩
  have HM2 := Lib.hid (HM0.out.trans hmk2)
  have HH2 := Lib.hid hhd2
  clear hmk2 hhd2
  go_wp2_with fail
  go_ret
  exact ⟨rfl, HM2.out, HH2.out⟩
end Go.Proofs.Ytebalmemncldlab
