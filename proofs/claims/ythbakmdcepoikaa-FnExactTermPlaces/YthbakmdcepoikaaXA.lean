/- szTerm, szTermS: how many terms there are below a term, as long as there are not too many. -/
import Derived.Test.YthbakmdcepoikaaRead
import Derived.Test.YthbakmdcepoikaaKit
import Derived.WalkKit
import Derived.WalkSpells
import Derived.WalkLawsBesides
import Derived.Lib.Hide
namespace Go.Proofs.Ythbakmdcepoikaa
open Go.RowKit Go.Deep

def szR (k : Fo) (left : Int) : Int := if (fsz k : Int) ≤ left then left - fsz k else -1
/-- .. with the terms r still to be looked below. -/
def szG (r : Fo) (l : Int) : Int := if (fsz r : Int) - flen r ≤ l then l - ((fsz r : Int) - flen r) else -1

theorem flen_le {k : Fo} : flen k ≤ fsz k := by
  induction k with
  | nil => exact Nat.le_refl _
  | node _ _ _ k r _ ih => simp only [flen, fsz]; omega
theorem szR_start (k : Fo) (left : Int) : szR k left = szG k (left - flen k) := by
  have := flen_le (k := k)
  unfold szR szG
  split <;> split <;> omega
theorem szR_over {k : Fo} {left : Int} (h : left < flen k) : szR k left = -1 := by
  have := flen_le (k := k)
  unfold szR
  rw [if_neg (by omega)]
theorem szG_node (x y : Nat) (p : Int × Int) (kk r : Fo) : (fsz (.node x y p kk r) : Int) - flen (.node x y p kk r) = fsz kk + ((fsz r : Int) - flen r) := by
  have e1 : fsz (.node x y p kk r) = fsz kk + fsz r + 1 := rfl
  have e2 : flen (.node x y p kk r) = flen r + 1 := rfl
  rw [e1, e2]
  omega
theorem szG_step {x y : Nat} {p : Int × Int} {kk r : Fo} {l : Int} (_h : (fsz kk : Int) ≤ l) : szG (.node x y p kk r) l = szG r (l - fsz kk) := by
  unfold szG
  rw [szG_node]
  split <;> split <;> omega
theorem szG_over {x y : Nat} {p : Int × Int} {kk r : Fo} {l : Int} (h : l < (fsz kk : Int)) : szG (.node x y p kk r) l = -1 := by
  have := flen_le (k := r)
  unfold szG
  rw [szG_node, if_neg (by omega)]
theorem szG_nil {l : Int} (h : 0 ≤ l) : szG .nil l = l := by
  unfold szG
  simp [fsz, flen, h]
theorem fsz_drop' : ∀ (i : Nat) (k : Fo), fsz (fdrop i k) ≤ fsz k
  | 0, _ => Nat.le_refl _
  | _ + 1, .nil => Nat.le_refl _
  | n + 1, .node _ _ _ _ r => by have := fsz_drop' n r; simp only [fdrop, fsz]; omega
theorem fsz_kid' {i : Nat} {k : Fo} {x y : Nat} {p : Int × Int} {kk r : Fo} (h : fdrop i k = .node x y p kk r) : fsz kk < fsz k := by
  have := fsz_drop' i k
  rw [h] at this
  simp only [fsz] at this
  omega
theorem sub_neg {left : Int} {n : Nat} (h0 : 0 ≤ left) (h1 : left ≤ 1048576) (h2 : 1048576 < n) (h3 : n ≤ maxLen) : decide (wrap64 (left - (n : Int)) < 0) = true := by
  unfold maxLen at h3
  have : wrap64 (left - (n : Int)) = left - n := by
    unfold wrap64
    omega
  rw [this]
  exact decide_eq_true (by omega)

theorem box_low {w w' : World} {o : Obj} (h : Below (w.heap.size + 1) (w.alloc o) w') : Below w.heap.size w w' :=
  ((Below.refl _ _).alloc (Nat.le_refl _) o).trans (h.mono (Nat.le_succ _))

/-- szTerm out of szTermS. -/
theorem szTerm_of (s v : Int) (a : Option Addr) (n c : Nat) (left z : Int) (w : World) (hz : z = -1 ∨ 0 ≤ z)
    (hS : ∀ w1, Below w.heap.size w w1 → Calls Try.prog 23 #[.slice a n c, .int .i64 left] w1 fun e w' => e = .returned (.int .i64 z) ∧ Below w1.heap.size w1 w') :
    Calls Try.prog 10 #[.agg #[.int .i64 s, .int .i64 v, .slice a n c], .int .i64 left] w fun e w' => e = .returned (.int .i64 z) ∧ Below w.heap.size w w' := by
  have HS := Lib.hid hS
  clear hS
  rcases hz with rfl | hz
  all_goals
    go_enter Try.func10, Try.ntmps10
    go_wp2_with fail
    with_reducible refine (HS.out _ ((Below.refl _ _).alloc (Nat.le_refl _) _)).mono ?_
    rintro e w1 ⟨rfl, hb⟩
    have HB := Lib.hid (((Below.refl w.heap.size w).alloc (Nat.le_refl _) _).trans (hb.mono (by simp)))
    clear hb
    go_wp2_with fail
    go_ret
    exact ⟨rfl, HB.out⟩
theorem szR_case (k : Fo) (left : Int) : szR k left = -1 ∨ 0 ≤ szR k left := by unfold szR; split <;> omega

set_option maxRecDepth 100000 in
set_option maxHeartbeats 1000000 in
theorem szTermS_any (N : Nat) : ∀ (a : Option Addr) (c : Nat) (k : Fo) (left : Int) (w : World), Sl w 0 w.heap.size a k → fcap k → flen k ≤ maxLen → fsz k ≤ N → 0 ≤ left → left ≤ 1048576 →
    Calls Try.prog 23 #[.slice a (flen k) c, .int .i64 left] w fun e w' => e = .returned (.int .i64 (szR k left)) ∧ Below w.heap.size w w' := by
  induction N using Nat.strongRecOn with
  | _ N ih =>
    intro a c k left w hl hfc hml hN h0 h1
    have IH := Lib.hid ih
    clear ih
    by_cases hbig : 1048576 < flen k
    · have hneg := sub_neg h0 h1 hbig hml
      have HE : Hid (szR k left = -1) := szR_over (by omega)
      clear hml
      go_enter Try.func23, Try.ntmps23
      go_wp2_with fail
      go_ret
      exact ⟨by rw [HE.out]; rfl, Below.refl _ _⟩
    clear hml
    by_cases hov : left < flen k
    · have HE : Hid (szR k left = -1) := szR_over hov
      go_enter Try.func23, Try.ntmps23
      go_wp2_with fail
      go_ret
      exact ⟨by rw [HE.out]; rfl, Below.refl _ _⟩
    have HST := Lib.hid (szR_start k left)
    have HFC := Lib.hid hfc
    clear hfc
    go_enter Try.func23, Try.ntmps23
    go_wp2_with fail
    go_loopw [1, 5] (fun t i wr => ∃ (j : Nat) (l : Int), j ≤ flen k ∧ i = .int .i64 j ∧ t = .int .i64 l ∧ 0 ≤ l ∧ l ≤ 1048576 ∧ Hid (szR k left = szG (fdrop j k) l) ∧ Below w.heap.size w wr) (fun _ i _ => flen k - (intOf i).toNat)
    case atStart => exact ⟨0, left - flen k, by omega, rfl, rfl, by omega, by omega, HST, Below.refl _ _⟩
    case round =>
      clear HST
      obtain ⟨j, l, hj, rfl, rfl, hl0, hl1, hsz, hbl⟩ := hrel
      by_cases hlt : j < flen k
      · rcases hl with rfl | ⟨b, o, rfl, hrow⟩
        · simp [flen] at hlt
        obtain ⟨s', v', kk, a', c', ⟨x, y, hd⟩, _, hbB, hk0, hk1, hk2, hsl⟩ := row_at (hrow.below hbl) hlt
        have hkN := fsz_kid' hd
        have hkc := fcap_drop j k HFC.out
        rw [hd] at hkc
        have HSZ : Hid (szR k left = szG (.node x y (s', v') kk (fdrop (j + 1) k)) l) := by rw [← hd]; exact hsz
        have HS := Lib.hid hsl
        have HKC : Hid (flen kk ≤ maxLen ∧ fcap kk) := ⟨hkc.1, hkc.2.1⟩
        have HBL := Lib.hid hbl
        have hbs := hbl.size
        clear hd hsl hrow hbl hsz hkc
        go_wp2_with fail
        with_reducible refine (szTerm_of s' v' a' (flen kk) c' l (szR kk l) _ (szR_case _ _) ?_).mono ?_
        · intro w1 hb1
          refine IH.out (fsz kk) (by omega) a' c' kk l w1 ?_ HKC.out.2 HKC.out.1 (Nat.le_refl _) hl0 hl1
          exact (HS.out.below (hb1.mono hbs)).mono (Nat.le_refl _) (Nat.le_trans hbs hb1.size)
        rintro e w2 ⟨rfl, hb2⟩
        have HB2 := Lib.hid (HBL.out.trans (hb2.mono hbs))
        clear hb2
        by_cases hok : (fsz kk : Int) ≤ l
        · have he : szR kk l = l - fsz kk := by unfold szR; rw [if_pos hok]
          rw [he]
          clear he
          have HSZ2 : Hid (szR k left = szG (fdrop (j + 1) k) (l - fsz kk)) := by rw [Hid, HSZ.out]; exact szG_step hok
          go_wp2_with fail
          go_roundw
          case rel => exact ⟨j + 1, _, by omega, by go_num, rfl, by omega, by omega, HSZ2, HB2.out⟩
          case measure => simp [intOf]; omega
        · have he : szR kk l = -1 := by unfold szR; rw [if_neg hok]
          rw [he]
          clear he
          have HSZ2 : Hid (szR k left = -1) := by rw [Hid, HSZ.out]; exact szG_over (by omega)
          go_wp2_with fail
          go_ret
          exact ⟨by rw [HSZ2.out]; rfl, HB2.out⟩
      · have HE : Hid (szR k left = l) := by
          rw [Hid, hsz.out, fdrop_all (by omega)]
          exact szG_nil hl0
        clear hsz
        go_wp2_with fail
        go_ret
        exact ⟨by rw [HE.out]; rfl, hbl⟩
end Go.Proofs.Ythbakmdcepoikaa
