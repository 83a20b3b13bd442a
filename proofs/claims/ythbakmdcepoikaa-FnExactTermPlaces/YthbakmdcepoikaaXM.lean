/- markTermS, markTerm: numbers written over a tree of one's own. -/
import Derived.Test.YthbakmdcepoikaaXBt
import Derived.Test.YthbakmdcepoikaaXC
namespace Go.Proofs.Ythbakmdcepoikaa
open Go.RowKit Go.Deep

theorem ShS.marked {w w' : World} {lo B : Nat} {a : Option Addr} {k : Fo} (hm : Marked lo B w w') (h : ShS w lo B a k) : ShS w' lo B a k := by
  rcases h with h | ⟨b, e, h⟩
  · exact .inl h
  · exact .inr ⟨b, e, h.marked hm k b 0 rfl⟩

set_option maxRecDepth 100000 in
set_option maxHeartbeats 1000000 in
theorem markTermS_any (N : Nat) : ∀ (a : Option Addr) (c : Nat) (k : Fo) (lo B : Nat) (m : Int) (w : World), ShS w lo B a k → fsz k ≤ N → N ≤ 1048576 → 0 ≤ m → m + 2 * (fsz k : Int) ≤ 10000000 → lo ≤ w.heap.size → B ≤ w.heap.size →
    Calls Try.prog 29 #[.slice a (flen k) c, .int .i64 m] w fun e w' => e = .returned (.int .i64 (m + 2 * (fsz k : Int))) ∧ Marked lo B w w' := by
  induction N using Nat.strongRecOn with
  | _ N ih =>
    intro a c k lo B m w hl hN hN2 hm0 hm1 hlo hB
    have hfl := flen_le (k := k)
    have IH := Lib.hid ih
    have HL := Lib.hid hl
    clear ih hl
    go_enter Try.func29, Try.ntmps29
    go_wp2_with fail
    go_loopw [1, 5] (fun t i wr => ∃ (j : Nat) (l : Int), j ≤ flen k ∧ i = .int .i64 j ∧ t = .int .i64 l ∧ 0 ≤ l ∧ l + 2 * (fsz (fdrop j k) : Int) = m + 2 * (fsz k : Int) ∧ Marked lo B w wr) (fun _ i _ => flen k - (intOf i).toNat)
    case atStart => exact ⟨0, m, by omega, rfl, rfl, hm0, by simp [fdrop], Marked.refl _ _ _⟩
    case round =>
      obtain ⟨j, l, hj, rfl, rfl, hl0, hl1, hmk⟩ := hrel
      have hbs := hmk.below.size
      by_cases hlt : j < flen k
      · obtain ⟨x, y, s', v', kk, hd⟩ := fdrop_succ j k hlt
        have hsh : ∃ b, a = some ⟨b, 0, none⟩ ∧ Sh wr lo B (fdrop j k) b (0 + j * 3) := by
          rcases HL.out.marked hmk with h | ⟨b, e, h⟩
          · rw [h] at hlt; simp [flen] at hlt
          · exact ⟨b, e, h.drop j k b 0⟩
        obtain ⟨b, rfl, hsh⟩ := hsh
        rw [hd, Nat.zero_add] at hsh
        obtain ⟨h1, h2, ⟨x0, hx⟩, ⟨y0, hy⟩, f0, f1, ⟨a', c', hc, hk⟩, _⟩ := hsh
        have hkN := fsz_kid' hd
        rw [hd] at hl1
        simp only [fsz] at hl1
        have hm2 := Marked.set (lo := lo) (B := B) h1 h2 (by omega) hx l
        have hb1 : (wr.setCell ⟨b, j * 3, none⟩ (.int .i64 l)).cell? ⟨b, j * 3 + 1, none⟩ = some (.int .i64 y0) := by rw [World.cell?_setCell_other _ _ _ _ (by intro e; have := congrArg Addr.off e; simp at this)]; exact hy
        have hb2 : (wr.setCell ⟨b, j * 3, none⟩ (.int .i64 l)).frozen? ⟨b, j * 3 + 1, none⟩ = false := by rw [World.frozen?_setCell]; exact f1
        have hm3 := Marked.set (lo := lo) (B := B) h1 h2 (by omega) hb1 (l + 1)
        have hb3 : ((wr.setCell ⟨b, j * 3, none⟩ (.int .i64 l)).setCell ⟨b, j * 3 + 1, none⟩ (.int .i64 (l + 1))).cell? ⟨b, j * 3 + 2, none⟩ = some (.slice a' (flen kk) c') := by rw [World.cell?_setCell_other _ _ _ _ (by intro e; have := congrArg Addr.off e; simp at this), World.cell?_setCell_other _ _ _ _ (by intro e; have := congrArg Addr.off e; simp at this)]; exact hc
        have HM3 := Lib.hid (hmk.trans (hm2.trans hm3))
        have HS3 : Hid (ShS ((wr.setCell ⟨b, j * 3, none⟩ (.int .i64 l)).setCell ⟨b, j * 3 + 1, none⟩ (.int .i64 (l + 1))) lo B a' kk) := ShS.marked (hm2.trans hm3) hk
        have g1 : (0 : Int) ≤ (j : Int) := by omega
        have g2 : (j : Int) < (flen k : Int) := by omega
        clear hm2 hm3 hk hd hc hy hmk
        go_wp2_with fail
        with_reducible refine (IH.out (fsz kk) (by omega) a' c' kk lo B (l + 1 + 1) _ HS3.out (Nat.le_refl _) (by omega) (by omega) (by omega) (by simp; omega) (by simp; omega)).mono ?_
        rintro e w2 ⟨rfl, hmk2⟩
        have HM4 := Lib.hid (HM3.out.trans hmk2)
        clear hmk2 hx hb1 hb2 hb3 f0 f1
        go_wp2_with fail
        go_roundw
        case rel => exact ⟨j + 1, _, by omega, by go_num, rfl, by omega, by omega, HM4.out⟩
        case measure => simp [intOf]; omega
      · have HE : Hid (l = m + 2 * (fsz k : Int)) := by
          rw [fdrop_all (by omega)] at hl1
          simp [fsz] at hl1
          unfold Hid
          omega
        have HMK := Lib.hid hmk
        clear hmk
        go_wp2_with fail
        go_ret
        exact ⟨by rw [← HE.out]; rfl, HMK.out⟩

set_option maxRecDepth 100000 in
set_option maxHeartbeats 1000000 in
theorem markTerm_any (s v : Int) (a : Option Addr) (c : Nat) (k : Fo) (lo B : Nat) (m : Int) (w : World) (hl : ShS w lo B a k) (hN : fsz k ≤ 1048576) (hm0 : 0 ≤ m) (hm1 : m + 2 * (fsz k : Int) ≤ 10000000) (hlo : lo ≤ w.heap.size) (hB : B ≤ w.heap.size) :
    Calls Try.prog 16 #[.agg #[.int .i64 s, .int .i64 v, .slice a (flen k) c], .int .i64 m] w fun e w' => e = .returned (.int .i64 (m + 2 * (fsz k : Int))) ∧ Marked lo B w w' := by
  have HM0 : Hid (Marked lo B w (w.alloc (.cells #[.int .i64 s, .int .i64 v, .slice a (flen k) c] 25))) := (Marked.refl lo B w).more ((Below.refl _ _).alloc (Nat.le_refl _) _) hB hlo
  have HS : Hid (ShS (w.alloc (.cells #[.int .i64 s, .int .i64 v, .slice a (flen k) c] 25)) lo B a k) := hl.marked HM0.out
  clear hl
  go_enter Try.func16, Try.ntmps16
  go_wp2_with fail
  with_reducible refine (markTermS_any (fsz k) a c k lo B m _ HS.out (Nat.le_refl _) hN hm0 hm1 (by simp; omega) (by simp; omega)).mono ?_
  rintro e w2 ⟨rfl, hmk2⟩
  have HM2 := Lib.hid (HM0.out.trans hmk2)
  clear hmk2
  go_wp2_with fail
  go_ret
  exact ⟨rfl, HM2.out⟩
end Go.Proofs.Ythbakmdcepoikaa
