/- Several texts in one: XM, XMt, XHt, WA, WB, FK. -/
import Derived.Test.YtoafleckcjanaaaKLk2
import Derived.Test.YtoafleckcjanaaaRows
import Derived.Test.YtoafleckcjanaaaKLk1
import Derived.WalkKit
import Derived.WalkSpells
import Derived.WalkLawsBesides
import Derived.Lib.Hide
import Derived.BigQuiet

/-! XM: markTermS, markTerm: numbers written over a tree of one's own. -/
namespace Go.Proofs.Ytoafleckcjanaaa
open Go.RowKit Go.Deep

theorem ShS.marked {w w' : World} {lo B : Nat} {a : Option Addr} {k : Fo} (hm : Marked lo B w w') (h : ShS w lo B a k) : ShS w' lo B a k := by
  rcases h with h | ⟨b, e, h⟩
  · exact .inl h
  · exact .inr ⟨b, e, h.marked hm k b 0 rfl⟩

set_option maxRecDepth 100000 in
set_option maxHeartbeats 1000000 in
theorem markTermS_any (N : Nat) : ∀ (a : Option Addr) (c : Nat) (k : Fo) (lo B : Nat) (m : Int) (w : World), ShS w lo B a k → fsz k ≤ N → N ≤ 1048576 → 0 ≤ m → m + 2 * (fsz k : Int) ≤ 10000000 → lo ≤ w.heap.size → B ≤ w.heap.size →
    Calls Try.prog 62 #[.slice a (flen k) c, .int .i64 m] w fun e w' => e = .returned (.int .i64 (m + 2 * (fsz k : Int))) ∧ Marked lo B w w' := by
  induction N using Nat.strongRecOn with
  | _ N ih =>
    intro a c k lo B m w hl hN hN2 hm0 hm1 hlo hB
    have hfl := flen_le (k := k)
    have IH := Lib.hid ih
    have HL := Lib.hid hl
    clear ih hl
    go_enter Try.func62, Try.ntmps62
    go_wp2_with fail
    go_loopw [1, 5] (fun t i wr => ∃ (j : Nat) (l : Int), j ≤ flen k ∧ i = .int .i64 j ∧ t = .int .i64 l ∧ 0 ≤ l ∧ l + 2 * (fsz (fdrop j k) : Int) = m + 2 * (fsz k : Int) ∧ Marked lo B w wr) (fun _ i _ => flen k - (intOf i).toNat)
    case atStart => exact ⟨0, m, by omega, rfl, rfl, hm0, by simp [fdrop], Marked.refl _ _ _⟩
    case round =>
      obtain ⟨j, l, hj, rfl, rfl, hl0, hl1, hmk⟩ := hrel
      have hbs := hmk.below.size
      by_cases hlt : j < flen k
      · obtain ⟨x, y, s', v', kk, hd⟩ := fdrop_succ j k hlt
        have hsh : ∃ b, a = some ⟨b, 0, none⟩ ∧ Sh wr lo B (fdrop j k) b (0 + j * 3) := by
          rcases HL.out.marked hmk with h | ⟨b, e, h⟩
          · rw [h] at hlt; simp [flen] at hlt
          · exact ⟨b, e, h.drop j k b 0⟩
        obtain ⟨b, rfl, hsh⟩ := hsh
        rw [hd, Nat.zero_add] at hsh
        obtain ⟨h1, h2, ⟨x0, hx⟩, ⟨y0, hy⟩, f0, f1, ⟨a', c', hc, hk⟩, _⟩ := hsh
        have hkN := fsz_kid' hd
        rw [hd] at hl1
        simp only [fsz] at hl1
        have hm2 := Marked.set (lo := lo) (B := B) h1 h2 (by omega) hx l
        have hb1 : (wr.setCell ⟨b, j * 3, none⟩ (.int .i64 l)).cell? ⟨b, j * 3 + 1, none⟩ = some (.int .i64 y0) := by rw [World.cell?_setCell_other _ _ _ _ (by intro e; have := congrArg Addr.off e; simp at this)]; exact hy
        have hb2 : (wr.setCell ⟨b, j * 3, none⟩ (.int .i64 l)).frozen? ⟨b, j * 3 + 1, none⟩ = false := by rw [World.frozen?_setCell]; exact f1
        have hm3 := Marked.set (lo := lo) (B := B) h1 h2 (by omega) hb1 (l + 1)
        have hb3 : ((wr.setCell ⟨b, j * 3, none⟩ (.int .i64 l)).setCell ⟨b, j * 3 + 1, none⟩ (.int .i64 (l + 1))).cell? ⟨b, j * 3 + 2, none⟩ = some (.slice a' (flen kk) c') := by rw [World.cell?_setCell_other _ _ _ _ (by intro e; have := congrArg Addr.off e; simp at this), World.cell?_setCell_other _ _ _ _ (by intro e; have := congrArg Addr.off e; simp at this)]; exact hc
        have HM3 := Lib.hid (hmk.trans (hm2.trans hm3))
        have HS3 : Hid (ShS ((wr.setCell ⟨b, j * 3, none⟩ (.int .i64 l)).setCell ⟨b, j * 3 + 1, none⟩ (.int .i64 (l + 1))) lo B a' kk) := ShS.marked (hm2.trans hm3) hk
        have g1 : (0 : Int) ≤ (j : Int) := by omega
        have g2 : (j : Int) < (flen k : Int) := by omega
        clear hm2 hm3 hk hd hc hy hmk
        go_wp2_with fail
        with_reducible refine (IH.out (fsz kk) (by omega) a' c' kk lo B (l + 1 + 1) _ HS3.out (Nat.le_refl _) (by omega) (by omega) (by omega) (by simp; omega) (by simp; omega)).mono ?_
        rintro e w2 ⟨rfl, hmk2⟩
        have HM4 := Lib.hid (HM3.out.trans hmk2)
        clear hmk2 hx hb1 hb2 hb3 f0 f1
        go_wp2_with fail
        go_roundw
        case rel => exact ⟨j + 1, _, by omega, by go_num, rfl, by omega, by omega, HM4.out⟩
        case measure => simp [intOf]; omega
      · have HE : Hid (l = m + 2 * (fsz k : Int)) := by
          rw [fdrop_all (by omega)] at hl1
          simp [fsz] at hl1
          unfold Hid
          omega
        have HMK := Lib.hid hmk
        clear hmk
        go_wp2_with fail
        go_ret
        exact ⟨by rw [← HE.out]; rfl, HMK.out⟩

set_option maxRecDepth 100000 in
set_option maxHeartbeats 1000000 in
theorem markTerm_any (s v : Int) (a : Option Addr) (c : Nat) (k : Fo) (lo B : Nat) (m : Int) (w : World) (hl : ShS w lo B a k) (hN : fsz k ≤ 1048576) (hm0 : 0 ≤ m) (hm1 : m + 2 * (fsz k : Int) ≤ 10000000) (hlo : lo ≤ w.heap.size) (hB : B ≤ w.heap.size) :
    Calls Try.prog 22 #[.agg #[.int .i64 s, .int .i64 v, .slice a (flen k) c], .int .i64 m] w fun e w' => e = .returned (.int .i64 (m + 2 * (fsz k : Int))) ∧ Marked lo B w w' := by
  have HM0 : Hid (Marked lo B w (w.alloc (.cells #[.int .i64 s, .int .i64 v, .slice a (flen k) c] 35))) := (Marked.refl lo B w).more ((Below.refl _ _).alloc (Nat.le_refl _) _) hB hlo
  have HS : Hid (ShS (w.alloc (.cells #[.int .i64 s, .int .i64 v, .slice a (flen k) c] 35)) lo B a k) := hl.marked HM0.out
  clear hl
  go_enter Try.func22, Try.ntmps22
  go_wp2_with fail
  with_reducible refine (markTermS_any (fsz k) a c k lo B m _ HS.out (Nat.le_refl _) hN hm0 hm1 (by simp; omega) (by simp; omega)).mono ?_
  rintro e w2 ⟨rfl, hmk2⟩
  have HM2 := Lib.hid (HM0.out.trans hmk2)
  clear hmk2
  go_wp2_with fail
  go_ret
  exact ⟨rfl, HM2.out⟩
end Go.Proofs.Ytoafleckcjanaaa

/-! XMt: markTermS and heldTermS on a tree of one's own: what is marked is held. -/
namespace Go.Proofs.Ytoafleckcjanaaa
open Go.RowKit Go.Deep

/-- What holds at the head of markTermS's loop: the first j kids are marked, the others are as they were. -/
structure MkAt (w : World) (lo B b : Nat) (k : Fo) (Ls : Nat → Nat) (m : Int) (j : Nat) (wr : World) : Prop where
  marked : Marked lo B w wr
  done : ∀ i, i < j → HdAt wr (Ls i) (Ls (i + 1)) k b 0 m i
  todo : ∀ i, j ≤ i → i < flen k → TrAt wr k b 0 Ls i

theorem MkAt.step {w wr w2 : World} {lo B b : Nat} {k : Fo} {Ls : Nat → Nat} {m : Int} {j x y : Nat} {s v : Int} {kk : Fo} {a : Option Addr} {c : Nat} (h : MkAt w lo B b k Ls m j wr) (hj : j < flen k) (hLs : ∀ i, i < flen k → Ls i ≤ Ls (i + 1)) (hLB : Ls (flen k) ≤ B) (hB : B ≤ w.heap.size)
    (hlo : lo ≤ b) (hb : b < Ls 0) (hd : fdrop j k = .node x y (s, v) kk (fdrop (j + 1) k)) (hc2 : wr.cell? ⟨b, j * 3 + 2, none⟩ = some (.slice a (flen kk) c)) {u u' : Value} (hu : wr.cell? ⟨b, j * 3, none⟩ = some u) (hu' : wr.cell? ⟨b, j * 3 + 1, none⟩ = some u')
    (hmk : Marked (Ls j) (Ls (j + 1)) ((wr.setCell ⟨b, j * 3, none⟩ (.int .i64 (cnt k m j))).setCell ⟨b, j * 3 + 1, none⟩ (.int .i64 (cnt k m j + 1))) w2) (hhd : HdS w2 (Ls j) (Ls (j + 1)) a kk (cnt k m j + 2)) : MkAt w lo B b k Ls m (j + 1) w2 := by
  have hmono : ∀ i i', i ≤ i' → i' ≤ flen k → Ls i ≤ Ls i' := fun i i' h1 h2 => by
    have := Ls_mono hLs (i' - i) i (by omega)
    rwa [show i + (i' - i) = i' from by omega] at this
  have h0j := hmono 0 j (Nat.zero_le _) (by omega)
  have hjj := hLs j hj
  have hjn := hmono (j + 1) (flen k) (by omega) (Nat.le_refl _)
  have hwr : w.heap.size ≤ wr.heap.size := h.marked.below.size
  have hbB : b < B := by omega
  -- other blocks
  have hsame : ∀ q, q ≠ b → (q < Ls j ∨ Ls (j + 1) ≤ q) → q < wr.heap.size → w2.heap[q]? = wr.heap[q]? := fun q h1 h2 h3 => by
    have e : ((wr.setCell ⟨b, j * 3, none⟩ (.int .i64 (cnt k m j))).setCell ⟨b, j * 3 + 1, none⟩ (.int .i64 (cnt k m j + 1))).heap[q]? = wr.heap[q]? := by
      rw [Below.heap_setCell _ _ _ _ (fun e => h1 (by simpa using e)), Below.heap_setCell _ _ _ _ (fun e => h1 (by simpa using e))]
    rcases h2 with h2 | h2
    · rw [hmk.below.block q h2, e]
    · rw [hmk.far q h2 (by simpa using h3), e]
  -- the row's own cells
  have hcell : ∀ o, o ≠ j * 3 → o ≠ j * 3 + 1 → w2.cell? ⟨b, o, none⟩ = wr.cell? ⟨b, o, none⟩ := fun o h1 h2 => by
    rw [hmk.below.cell (by simp; omega), World.cell?_setCell_other _ _ _ _ (ne_offT (by omega)), World.cell?_setCell_other _ _ _ _ (ne_offT (by omega))]
  have hfro : ∀ o, w2.frozen? ⟨b, o, none⟩ = wr.frozen? ⟨b, o, none⟩ := fun o => by
    rw [hmk.below.frozen (by simp; omega), World.frozen?_setCell, World.frozen?_setCell]
  refine ⟨?_, fun i hi => ?_, fun i h1 h2 => ?_⟩
  · have m1 := Marked.set (lo := lo) (B := B) hlo hbB (by omega) hu (cnt k m j)
    have m2 := Marked.set (lo := lo) (B := B) (w := wr.setCell ⟨b, j * 3, none⟩ (.int .i64 (cnt k m j))) (o := j * 3 + 1) hlo hbB (by omega) (by rw [World.cell?_setCell_other _ _ _ _ (ne_offT (by omega))]; exact hu') (cnt k m j + 1)
    exact h.marked.trans (m1.trans (m2.trans (hmk.mono (by omega) (by omega) (by simp; omega))))
  · by_cases hij : i = j
    · subst hij
      refine ⟨x, y, s, v, kk, a, c, hd, ?_, ?_, ?_, hhd⟩
      · rw [Nat.zero_add, hmk.below.cell (by simp; omega), World.cell?_setCell_other _ _ _ _ (ne_offT (by omega))]
        exact World.cell?_setCell_same _ _ _ hu
      · rw [Nat.zero_add, hmk.below.cell (by simp; omega)]
        exact World.cell?_setCell_same _ _ _ (by rw [World.cell?_setCell_other _ _ _ _ (ne_offT (by omega))]; exact hu')
      · rw [Nat.zero_add, hcell _ (by omega) (by omega)]; exact hc2
    · obtain ⟨x', y', s', v', kk', a', c', e, d1, d2, d3, d4⟩ := h.done i (by omega)
      have g1 := hmono 0 i (Nat.zero_le _) (by omega)
      have g2 := hmono (i + 1) j (by omega) (by omega)
      refine ⟨x', y', s', v', kk', a', c', e, ?_, ?_, ?_, d4.same fun q q1 q2 => hsame q (by omega) (.inl (by omega)) (by omega)⟩
      · rw [Nat.zero_add] at d1 ⊢; rw [hcell _ (by omega) (by omega)]; exact d1
      · rw [Nat.zero_add] at d2 ⊢; rw [hcell _ (by omega) (by omega)]; exact d2
      · rw [Nat.zero_add] at d3 ⊢; rw [hcell _ (by omega) (by omega)]; exact d3
  · obtain ⟨x', y', s', v', kk', a', c', e, d1, d2, d3, d4, d5, d6⟩ := h.todo i (by omega) h2
    have g1 := hmono 0 i (Nat.zero_le _) (by omega)
    have g2 := hmono (j + 1) i (by omega) (by omega)
    have g3 := hmono (i + 1) (flen k) (by omega) (Nat.le_refl _)
    rw [Nat.zero_add] at d1 d2 d3 d4 d5
    refine ⟨x', y', s', v', kk', a', c', e, ?_, ?_, ?_, ?_, ?_, d6.same fun q q1 q2 => hsame q (by omega) (.inr (by omega)) (by omega)⟩
    · rw [Nat.zero_add, hcell _ (by omega) (by omega)]; exact d1
    · rw [Nat.zero_add, hcell _ (by omega) (by omega)]; exact d2
    · rw [Nat.zero_add, hfro]; exact d3
    · rw [Nat.zero_add, hfro]; exact d4
    · rw [Nat.zero_add, hcell _ (by omega) (by omega)]; exact d5

set_option maxRecDepth 100000 in
set_option maxHeartbeats 1000000 in
theorem markTree_any (N : Nat) : ∀ (a : Option Addr) (c : Nat) (k : Fo) (lo B : Nat) (m : Int) (w : World), TrS w lo B a k → fsz k ≤ N → N ≤ 1048576 → 0 ≤ m → m + 2 * (fsz k : Int) ≤ 10000000 → lo ≤ B → B ≤ w.heap.size →
    Calls Try.prog 62 #[.slice a (flen k) c, .int .i64 m] w fun e w' => e = .returned (.int .i64 (m + 2 * (fsz k : Int))) ∧ Marked lo B w w' ∧ HdS w' lo B a k m := by
  induction N using Nat.strongRecOn with
  | _ N ih =>
    intro a c k lo B m w hl hN hN2 hm0 hm1 hlo hB
    have hfl := flen_le (k := k)
    have IH := Lib.hid ih
    clear ih
    rcases hl with rfl | ⟨b, rfl, hb1, hb2, htr⟩
    · simp only [flen, fsz]
      go_enter Try.func62, Try.ntmps62
      go_wp2_with fail
      go_loopw [1, 5] (fun t i wr => i = .int .i64 0 ∧ t = .int .i64 m ∧ wr = w) (fun _ _ _ => 0)
      case atStart => exact ⟨rfl, rfl, rfl⟩
      case round =>
        obtain ⟨rfl, rfl, rfl⟩ := hrel
        go_wp2_with fail
        go_ret
        exact ⟨by simp, Marked.refl _ _ _, .inl rfl⟩
    · obtain ⟨Ls, hL0, hLs, hLB, _, hall⟩ := htr.at
      have HLS := Lib.hid hLs
      have HST : Hid (MkAt w lo B b k Ls m 0 w) := ⟨Marked.refl _ _ _, fun i hi => by omega, fun i _ hi => hall i hi⟩
      have hb0 : b < Ls 0 := by omega
      clear hLs hall htr
      go_enter Try.func62, Try.ntmps62
      go_wp2_with fail
      go_loopw [1, 5] (fun t i wr => ∃ j : Nat, j ≤ flen k ∧ i = .int .i64 j ∧ t = .int .i64 (cnt k m j) ∧ MkAt w lo B b k Ls m j wr) (fun _ i _ => flen k - (intOf i).toNat)
      case atStart => exact ⟨0, by omega, rfl, by simp [cnt, fdrop], HST.out⟩
      case round =>
        clear HST
        obtain ⟨j, hj, rfl, rfl, hat⟩ := hrel
        by_cases hlt : j < flen k
        · obtain ⟨x, y, s', v', kk, a', c', hd, ⟨z, hx⟩, ⟨z', hy⟩, f0, f1, hc, hk⟩ := hat.todo j (Nat.le_refl _) hlt
          rw [Nat.zero_add] at hx hy f0 f1 hc
          have hkN := fsz_kid' hd
          have hdr := fsz_drop' j k
          have hLj := HLS.out j hlt
          have h0j : Ls 0 ≤ Ls j := by have := Ls_mono HLS.out j 0 (by omega); rwa [Nat.zero_add] at this
          have hjn : Ls (j + 1) ≤ Ls (flen k) := by have := Ls_mono HLS.out (flen k - (j + 1)) (j + 1) (by omega); rwa [show j + 1 + (flen k - (j + 1)) = flen k from by omega] at this
          have hwr := hat.marked.below.size
          have hcn : cnt k m (j + 1) = cnt k m j + 2 + 2 * (fsz kk : Int) := by
            unfold cnt
            rw [hd]
            simp only [fsz]
            push_cast
            omega
          have hc0 : 0 ≤ cnt k m j := by unfold cnt; omega
          have hc1 : cnt k m j + 2 + 2 * (fsz kk : Int) ≤ 10000000 := by
            rw [← hcn]
            have := fsz_drop' (j + 1) k
            unfold cnt
            omega
          have HCN := Lib.hid hcn
          have HSTEP : Hid (∀ w2, Marked (Ls j) (Ls (j + 1)) ((wr.setCell ⟨b, j * 3, none⟩ (.int .i64 (cnt k m j))).setCell ⟨b, j * 3 + 1, none⟩ (.int .i64 (cnt k m j + 1))) w2 → HdS w2 (Ls j) (Ls (j + 1)) a' kk (cnt k m j + 2) → MkAt w lo B b k Ls m (j + 1) w2) := fun w2 h1 h2 => hat.step hlt HLS.out hLB hB hb1 hb0 hd hc hx hy h1 h2
          have HK2 : Hid (TrS ((wr.setCell ⟨b, j * 3, none⟩ (.int .i64 (cnt k m j))).setCell ⟨b, j * 3 + 1, none⟩ (.int .i64 (cnt k m j + 1))) (Ls j) (Ls (j + 1)) a' kk) :=
            hk.same ((Same.setCell (fun _ _ _ => rfl) (.inl (by simp; omega)) _).setCell (.inl (by simp; omega)) _)
          have hb1' : (wr.setCell ⟨b, j * 3, none⟩ (.int .i64 (cnt k m j))).cell? ⟨b, j * 3 + 1, none⟩ = some (.int .i64 z') := by rw [World.cell?_setCell_other _ _ _ _ (ne_offT (by omega))]; exact hy
          have hb2' : (wr.setCell ⟨b, j * 3, none⟩ (.int .i64 (cnt k m j))).frozen? ⟨b, j * 3 + 1, none⟩ = false := by rw [World.frozen?_setCell]; exact f1
          have hb3' : ((wr.setCell ⟨b, j * 3, none⟩ (.int .i64 (cnt k m j))).setCell ⟨b, j * 3 + 1, none⟩ (.int .i64 (cnt k m j + 1))).cell? ⟨b, j * 3 + 2, none⟩ = some (.slice a' (flen kk) c') := by rw [World.cell?_setCell_other _ _ _ _ (ne_offT (by omega)), World.cell?_setCell_other _ _ _ _ (ne_offT (by omega))]; exact hc
          have g1 : (0 : Int) ≤ (j : Int) := by omega
          have g2 : (j : Int) < (flen k : Int) := by omega
          have HX : Hid (∃ z, z = cnt k m j) := ⟨_, rfl⟩
          clear hd hk hat hcn hc hy
          generalize cnt k m j = l at *
          go_wp2_with fail
          with_reducible refine (IH.out (fsz kk) (by omega) a' c' kk (Ls j) (Ls (j + 1)) (l + 1 + 1) _ HK2.out (Nat.le_refl _) (by omega) (by omega) (by omega) hLj (by simp; omega)).mono ?_
          rintro e w2 ⟨rfl, hmk2, hhd2⟩
          have e2 : l + 1 + 1 = l + 2 := by omega
          rw [e2] at hhd2
          have HM4 := Lib.hid (HSTEP.out w2 hmk2 hhd2)
          clear hmk2 hhd2 hx hb1' hb2' hb3' f0 f1 HSTEP
          go_wp2_with fail
          go_roundw
          case rel => exact ⟨j + 1, by omega, by go_num, by rw [HCN.out], HM4.out⟩
          case measure => simp [intOf]; omega
        · have hje : j = flen k := by omega
          subst hje
          have HE : Hid (cnt k m (flen k) = m + 2 * (fsz k : Int)) := by
            unfold Hid cnt
            rw [fdrop_all (Nat.le_refl _)]
            simp [fsz]
          have HF : Hid (HdS wr lo B (some ⟨b, 0, none⟩) k m) := .inr ⟨b, rfl, hd_of_all k b 0 m hb1 hb2 fun i hi => by
            obtain ⟨x', y', s', v', kk', a', c', e, d1, d2, d3, d4⟩ := hat.done i hi
            have q1 : Ls 0 ≤ Ls i := by have := Ls_mono HLS.out i 0 (by omega); rwa [Nat.zero_add] at this
            have q2 : Ls (i + 1) ≤ Ls (flen k) := by have := Ls_mono HLS.out (flen k - (i + 1)) (i + 1) (by omega); rwa [show i + 1 + (flen k - (i + 1)) = flen k from by omega] at this
            exact ⟨x', y', s', v', kk', a', c', e, d1, d2, d3, d4.mono (by omega) (by omega)⟩⟩
          have HMK := Lib.hid hat.marked
          clear hat
          go_wp2_with fail
          go_ret
          exact ⟨by rw [← HE.out]; rfl, HMK.out, HF.out⟩
end Go.Proofs.Ytoafleckcjanaaa

/-! XHt: heldTermS, heldTerm: a tree that counts up is held; markTerm on a tree. -/
namespace Go.Proofs.Ytoafleckcjanaaa
open Go.RowKit Go.Deep

set_option maxRecDepth 100000 in
set_option maxHeartbeats 1000000 in
theorem heldTermS_any (N : Nat) : ∀ (a : Option Addr) (c : Nat) (k : Fo) (lo B : Nat) (m : Int) (w : World), HdS w lo B a k m → fsz k ≤ N → N ≤ 1048576 → 0 ≤ m → m + 2 * (fsz k : Int) ≤ 10000000 → B ≤ w.heap.size →
    Calls Try.prog 65 #[.slice a (flen k) c, .int .i64 m] w fun e w' => e = .returned (.int .i64 (m + 2 * (fsz k : Int))) ∧ Below w.heap.size w w' := by
  induction N using Nat.strongRecOn with
  | _ N ih =>
    intro a c k lo B m w hl hN hN2 hm0 hm1 hB
    have hfl := flen_le (k := k)
    have IH := Lib.hid ih
    have HL := Lib.hid hl
    clear ih hl
    go_enter Try.func65, Try.ntmps65
    go_wp2_with fail
    go_loopw [1, 5] (fun t i wr => ∃ j : Nat, j ≤ flen k ∧ i = .int .i64 j ∧ t = .int .i64 (cnt k m j) ∧ Below w.heap.size w wr) (fun _ i _ => flen k - (intOf i).toNat)
    case atStart => exact ⟨0, by omega, rfl, by simp [cnt, fdrop], Below.refl _ _⟩
    case round =>
      obtain ⟨j, hj, rfl, rfl, hbl⟩ := hrel
      have hbs := hbl.size
      by_cases hlt : j < flen k
      · have hb : ∃ b, a = some ⟨b, 0, none⟩ ∧ HdAt wr lo B k b 0 m j := by
          rcases HL.out.same (Same.of_below (hbl.mono hB)) with h | ⟨b, e, h⟩
          · rw [h] at hlt; simp [flen] at hlt
          · exact ⟨b, e, h.at j hlt⟩
        obtain ⟨b, rfl, x, y, s', v', kk, a', c', hd, hx, hy, hc, hk⟩ := hb
        rw [Nat.zero_add] at hx hy hc
        have hkN := fsz_kid' hd
        have hdr := fsz_drop' j k
        have hcn : cnt k m (j + 1) = cnt k m j + 2 + 2 * (fsz kk : Int) := by
          unfold cnt
          rw [hd]
          simp only [fsz]
          push_cast
          omega
        have hc0 : 0 ≤ cnt k m j := by unfold cnt; omega
        have hc1 : cnt k m j + 2 + 2 * (fsz kk : Int) ≤ 10000000 := by
          rw [← hcn]
          have := fsz_drop' (j + 1) k
          unfold cnt
          omega
        have HCN := Lib.hid hcn
        have HK := Lib.hid hk
        have HBL := Lib.hid hbl
        have g1 : (0 : Int) ≤ (j : Int) := by omega
        have g2 : (j : Int) < (flen k : Int) := by omega
        clear hd hk hcn hbl
        generalize cnt k m j = l at *
        have HK' : Hid (HdS wr lo B a' kk (l + 1 + 1)) := by rw [show l + 1 + 1 = l + 2 from by omega]; exact HK.out
        have x1 : (l != l) = false := by simp
        have x2 : ((l + 1) != (l + 1)) = false := by simp
        have x3 : decide (l + 1 + 1 + 2 * (fsz kk : Int) < 0) = false := decide_eq_false (by omega)
        go_wp2_with fail
        with_reducible refine (IH.out (fsz kk) (by omega) a' c' kk lo B (l + 1 + 1) _ HK'.out (Nat.le_refl _) (by omega) (by omega) (by omega) (by omega)).mono ?_
        rintro e w2 ⟨rfl, hb2⟩
        have HB2 := Lib.hid (HBL.out.trans (hb2.mono hbs))
        clear hb2 hx hy hc
        go_wp2_with fail
        go_roundw
        case rel => exact ⟨j + 1, by omega, by go_num, by rw [HCN.out, show l + 1 + 1 = l + 2 from by omega], HB2.out⟩
        case measure => simp [intOf]; omega
      · have hje : j = flen k := by omega
        subst hje
        have HE : Hid (cnt k m (flen k) = m + 2 * (fsz k : Int)) := by
          unfold Hid cnt
          rw [fdrop_all (Nat.le_refl _)]
          simp [fsz]
        go_wp2_with fail
        go_ret
        exact ⟨by rw [← HE.out]; rfl, hbl⟩

set_option maxRecDepth 100000 in
set_option maxHeartbeats 1000000 in
theorem heldTerm_any (s v : Int) (a : Option Addr) (c : Nat) (k : Fo) (lo B : Nat) (m : Int) (w : World) (hl : HdS w lo B a k m) (hN : fsz k ≤ 1048576) (hm0 : 0 ≤ m) (hm1 : m + 2 * (fsz k : Int) ≤ 10000000) (hB : B ≤ w.heap.size) :
    Calls Try.prog 24 #[.agg #[.int .i64 s, .int .i64 v, .slice a (flen k) c], .int .i64 m] w fun e w' => e = .returned (.int .i64 (m + 2 * (fsz k : Int))) ∧ Below w.heap.size w w' := by
  have HB0 : Hid (Below w.heap.size w (w.alloc (.cells #[.int .i64 s, .int .i64 v, .slice a (flen k) c] 35))) := (Below.refl _ _).alloc (Nat.le_refl _) _
  have HS : Hid (HdS (w.alloc (.cells #[.int .i64 s, .int .i64 v, .slice a (flen k) c] 35)) lo B a k m) := hl.same (Same.of_below (HB0.out.mono hB))
  have x3 : decide (m + 2 * (fsz k : Int) < 0) = false := decide_eq_false (by omega)
  clear hl
  go_enter Try.func24, Try.ntmps24
  go_wp2_with fail
  with_reducible refine (heldTermS_any (fsz k) a c k lo B m _ HS.out (Nat.le_refl _) hN hm0 hm1 (by simp; omega)).mono ?_
  rintro e w2 ⟨rfl, hb2⟩
  have HB2 := Lib.hid (HB0.out.trans (hb2.mono (by simp)))
  clear hb2
  go_wp2_with fail
  go_ret
  exact ⟨rfl, HB2.out⟩

set_option maxRecDepth 100000 in
set_option maxHeartbeats 1000000 in
theorem markTermT_any (s v : Int) (a : Option Addr) (c : Nat) (k : Fo) (lo B : Nat) (m : Int) (w : World) (hl : TrS w lo B a k) (hN : fsz k ≤ 1048576) (hm0 : 0 ≤ m) (hm1 : m + 2 * (fsz k : Int) ≤ 10000000) (hlo : lo ≤ B) (hB : B ≤ w.heap.size) :
    Calls Try.prog 22 #[.agg #[.int .i64 s, .int .i64 v, .slice a (flen k) c], .int .i64 m] w fun e w' => e = .returned (.int .i64 (m + 2 * (fsz k : Int))) ∧ Marked lo B w w' ∧ HdS w' lo B a k m := by
  have HM0 : Hid (Marked lo B w (w.alloc (.cells #[.int .i64 s, .int .i64 v, .slice a (flen k) c] 35))) := (Marked.refl lo B w).more ((Below.refl _ _).alloc (Nat.le_refl _) _) hB (by omega)
  have HS : Hid (TrS (w.alloc (.cells #[.int .i64 s, .int .i64 v, .slice a (flen k) c] 35)) lo B a k) := hl.same (Same.of_below ((Below.refl _ _).alloc (by omega) _))
  clear hl
  go_enter Try.func22, Try.ntmps22
  go_wp2_with fail
  with_reducible refine (markTree_any (fsz k) a c k lo B m _ HS.out (Nat.le_refl _) hN hm0 hm1 hlo (by simp; omega)).mono ?_
  rintro e w2 ⟨rfl, hmk2, hhd2⟩
  have HM2 := Lib.hid (HM0.out.trans hmk2)
  have HH2 := Lib.hid hhd2
  clear hmk2 hhd2
  go_wp2_with fail
  go_ret
  exact ⟨rfl, HM2.out, HH2.out⟩
end Go.Proofs.Ytoafleckcjanaaa

/-! WA: The small functions: l6In, l1Kids, arityOf. No condition. -/
namespace Go.Proofs.Ytoafleckcjanaaa
open Go.RowKit Go.Deep

set_option maxHeartbeats 400000 in
theorem l6In_any (n lo hi : Int) (w : World) :
    Calls Try.prog 47 #[.int .i64 n, .int .i64 lo, .int .i64 hi] w fun e w' => e = .returned (.bool (decide (lo ≤ n ∧ n ≤ hi))) ∧ w = w' := by
  by_cases h1 : lo ≤ n
  · by_cases h2 : n ≤ hi
    · go_enter Try.func47, Try.ntmps47
      go_wp2
      go_ret
      exact ⟨by simp [h1, h2], rfl⟩
    · go_enter Try.func47, Try.ntmps47
      go_wp2
      go_ret
      exact ⟨by simp; omega, rfl⟩
  · go_enter Try.func47, Try.ntmps47
    go_wp2
    go_ret
    exact ⟨by simp; omega, rfl⟩

theorem l6In_is {n lo hi : Int} {b : Bool} {w : World} (h : decide (lo ≤ n ∧ n ≤ hi) = b) :
    Calls Try.prog 47 #[.int .i64 n, .int .i64 lo, .int .i64 hi] w fun e w' => e = .returned (.bool b) ∧ w = w' := by
  rw [← h]; exact l6In_any n lo hi w

set_option maxHeartbeats 400000 in
theorem arityOf_any (s : Int) (w : World) (hs : s ≠ 0) :
    Calls Try.prog 111 #[.int .i64 s] w fun e w' => e = .returned (.int .i64 (ar s)) ∧ w = w' := by
  by_cases h1 : s = 1
  · subst h1
    go_enter Try.func111, Try.ntmps111
    go_wp2
    go_ret
    exact ⟨by simp [ar], rfl⟩
  by_cases h2 : s = 2
  · subst h2
    go_enter Try.func111, Try.ntmps111
    go_wp2
    go_ret
    exact ⟨by simp [ar], rfl⟩
  by_cases h3 : s = 3
  · subst h3
    go_enter Try.func111, Try.ntmps111
    go_wp2
    go_ret
    exact ⟨by simp [ar], rfl⟩
  by_cases h4 : s = 4
  · subst h4
    go_enter Try.func111, Try.ntmps111
    go_wp2
    go_ret
    exact ⟨by simp [ar], rfl⟩
  have e1 : (s == 1) = false := by simp [h1]
  have e2 : (s == 2) = false := by simp [h2]
  have e3 : (s == 3) = false := by simp [h3]
  have e4 : (s == 4) = false := by simp [h4]
  have ea : Hid (ar s = -1) := by simp [Hid, ar, h1, h2, h3, h4, hs]
  go_enter Try.func111, Try.ntmps111
  go_wp2
  go_ret
  exact ⟨by rw [ea.out]; rfl, rfl⟩

set_option maxHeartbeats 400000 in
theorem l1Kids_any (s : Int) (w : World) :
    Calls Try.prog 105 #[.int .i64 s] w fun e w' => e = .returned (.int .i64 (ar s)) ∧ Below w.heap.size w w' := by
  by_cases h : 0 ≤ s ∧ s ≤ 4
  · have : s = 0 ∨ s = 1 ∨ s = 2 ∨ s = 3 ∨ s = 4 := by omega
    have ht : decide (0 ≤ s ∧ s ≤ 4) = true := by simpa using h
    clear h
    rcases this with rfl | rfl | rfl | rfl | rfl
    all_goals
      go_enter Try.func105, Try.ntmps105
      go_wp2_with (go_at_call 47; refine (l6In_any _ _ _ _).mono ?_; rintro e w' ⟨rfl, rfl⟩)
      go_ret
      exact ⟨by simp [ar], (Below.refl _ _).alloc (Nat.le_refl _) _⟩
  · have ht : decide (0 ≤ s ∧ s ≤ 4) = false := by simpa using h
    have ea : Hid (ar s = -1) := by
      unfold Hid ar
      rw [if_neg (by omega), if_neg (by omega), if_neg (by omega)]
    clear h
    go_enter Try.func105, Try.ntmps105
    go_wp2_with (go_at_call 47; refine (l6In_any _ _ _ _).mono ?_; rintro e w' ⟨rfl, rfl⟩)
    go_ret
    exact ⟨by rw [ea.out]; rfl, Below.refl _ _⟩

end Go.Proofs.Ytoafleckcjanaaa

/-! WB: l1Count: how many signs and variables there are, of what is in form. -/
namespace Go.Proofs.Ytoafleckcjanaaa
open Go.RowKit Go.Deep

/-- What l1Count answers. -/
def cntT (s v : Int) (k : Fo) (most : Int) : Int := if okN s v (flen k) = true ∧ fok k = true ∧ 1 + (fsz k : Int) ≤ most then 1 + fsz k else most + 1
/-- .. with m counted already and the terms r to come. -/
def cntR (m : Int) (r : Fo) (most : Int) : Int := if fok r = true ∧ m + (fsz r : Int) ≤ most then m + fsz r else most + 1

theorem cntT_small {s v : Int} {k : Fo} {most : Int} (h : most < 1) : cntT s v k most = most + 1 := by
  unfold cntT; rw [if_neg (by omega)]
theorem cntT_bad {s v : Int} {k : Fo} {most : Int} (h : okN s v (flen k) = false) : cntT s v k most = most + 1 := by
  unfold cntT; rw [if_neg (by simp [h])]
theorem cntT_good {s v : Int} {k : Fo} {most : Int} (h : okN s v (flen k) = true) : cntT s v k most = cntR 1 k most := by
  unfold cntT cntR; simp [h]
theorem cntT_bd (s v : Int) (k : Fo) (most : Int) (h : 0 ≤ most) : 1 ≤ cntT s v k most ∧ cntT s v k most ≤ most + 1 := by
  unfold cntT; split <;> omega
theorem cntR_over {m most s v : Int} {x y : Nat} {kk r : Fo} (h : most < m + cntT s v kk (most - m)) : cntR m (.node x y (s, v) kk r) most = most + 1 := by
  unfold cntR
  rw [if_neg]
  rintro ⟨h1, h2⟩
  simp only [fok, Bool.and_eq_true, fsz] at h1 h2
  unfold cntT at h
  rw [if_pos ⟨h1.1.1, h1.1.2, by omega⟩] at h
  omega
theorem cntR_step {m most s v : Int} {x y : Nat} {kk r : Fo} (h : m + cntT s v kk (most - m) ≤ most) : cntR m (.node x y (s, v) kk r) most = cntR (m + cntT s v kk (most - m)) r most := by
  have h' := h
  unfold cntT at h ⊢
  split at h
  · rename_i hc
    rw [if_pos hc]
    unfold cntR
    simp only [fok, fsz, hc.1, hc.2.1, Bool.and_true, Bool.true_and]
    have e : m + ((fsz kk + fsz r + 1 : Nat) : Int) = m + (1 + (fsz kk : Int)) + (fsz r : Int) := by omega
    rw [e]
  · omega
theorem cntR_nil {m most : Int} (h : m ≤ most) : cntR m .nil most = m := by
  unfold cntR; simp [fok, fsz, h]

theorem okN_iff (s v : Int) (n : Nat) : okN s v n = true ↔ (n : Int) = ar s ∧ (s = 0 → 0 ≤ v ∧ v ≤ 11) ∧ (s ≠ 0 → v = 0) := decide_eq_true_iff
theorem okN_f (s v : Int) (n : Nat) : okN s v n = false ↔ ¬ ((n : Int) = ar s ∧ (s = 0 → 0 ≤ v ∧ v ≤ 11) ∧ (s ≠ 0 → v = 0)) := by rw [← okN_iff]; simp
theorem ar_pos {s : Int} {n : Nat} (h : (n : Int) = ar s) (hs : s ≠ 0) : 0 < s := by
  unfold ar at h
  split at h
  · omega
  split at h
  · omega
  split at h
  · omega
  · omega

theorem okN_le {s v : Int} {n : Nat} (h : okN s v n = true) : n ≤ 2 := by
  have := ((okN_iff _ _ _).1 h).1
  unfold ar at this
  split at this
  · omega
  split at this
  · omega
  split at this
  · omega
  · omega

/-- The cells of a boxed term, in every later world. -/
theorem box_cells {w : World} {x y z : Value} {T : TypeId} (u : After (w.heap.size + 1) (w.alloc (.cells #[x, y, z] T))) :
    u.world.cell? ⟨w.heap.size, 0, none⟩ = some x ∧ u.world.cell? ⟨w.heap.size, 1, none⟩ = some y ∧ u.world.cell? ⟨w.heap.size, 2, none⟩ = some z := by
  refine ⟨u.cell (by simp) ?_, u.cell (by simp) ?_, u.cell (by simp) ?_⟩ <;> simp

/-- The four ways of a term's head. -/
theorem heads (s v : Int) (n : Nat) : (((n : Int) != ar s) = true ∧ okN s v n = false) ∨
    (((n : Int) != ar s) = false ∧ (s == 0) = true ∧ decide (0 ≤ v ∧ v ≤ 11) = false ∧ okN s v n = false) ∨
    (((n : Int) != ar s) = false ∧ (s == 0) = false ∧ decide (0 < s) = true ∧ (v != 0) = true ∧ okN s v n = false) ∨
    (((n : Int) != ar s) = false ∧ (s == 0) = true ∧ decide (0 < s) = false ∧ decide (0 ≤ v ∧ v ≤ 11) = true ∧ okN s v n = true) ∨
    (((n : Int) != ar s) = false ∧ (s == 0) = false ∧ decide (0 < s) = true ∧ (v != 0) = false ∧ okN s v n = true) := by
  by_cases h1 : (n : Int) = ar s
  · by_cases h2 : s = 0
    · by_cases h3 : 0 ≤ v ∧ v ≤ 11
      · exact .inr (.inr (.inr (.inl ⟨by simp [h1], by simp [h2], by simp [h2], decide_eq_true h3, (okN_iff _ _ _).2 ⟨h1, fun _ => h3, fun h => absurd h2 h⟩⟩)))
      · exact .inr (.inl ⟨by simp [h1], by simp [h2], decide_eq_false h3, (okN_f _ _ _).2 fun h => h3 (h.2.1 h2)⟩)
    · have h4 := ar_pos h1 h2
      by_cases h3 : v = 0
      · exact .inr (.inr (.inr (.inr ⟨by simp [h1], by simp [h2], decide_eq_true h4, by simp [h3], (okN_iff _ _ _).2 ⟨h1, fun h => absurd h h2, fun _ => h3⟩⟩)))
      · exact .inr (.inr (.inl ⟨by simp [h1], by simp [h2], decide_eq_true h4, by simp [h3], (okN_f _ _ _).2 fun h => h3 (h.2.2 h2)⟩))
  · exact .inl ⟨by simp [h1], (okN_f _ _ _).2 fun h => h1 h.1⟩

theorem after_top {w w' : World} {o : Obj} (h : Below (w.heap.size + 1) (w.alloc o) w') : Below w.heap.size w w' :=
  ((Below.refl _ _).alloc (Nat.le_refl _) o).trans (h.mono (Nat.le_succ _))

set_option maxRecDepth 100000 in
set_option maxHeartbeats 1000000 in
theorem l1Count_any (N : Nat) : ∀ (s v : Int) (a : Option Addr) (c : Nat) (k : Fo) (most : Int) (w : World), Sl w 0 w.heap.size a k → -1000 ≤ most → most ≤ 1000 → most ≤ N →
    Calls Try.prog 86 #[.agg #[.int .i64 s, .int .i64 v, .slice a (flen k) c], .int .i64 most] w fun e w' => e = .returned (.int .i64 (cntT s v k most)) ∧ Below w.heap.size w w' := by
  induction N with
  | zero =>
    intro s v a c k most w hl h1 h2 h3
    have e1 : decide (most < 1) = true := by simp; omega
    have ea : Hid (cntT s v k most = most + 1) := cntT_small (by omega)
    go_enter Try.func86, Try.ntmps86
    go_wp2_with fail
    refine wp_region_after (w.heap.size + 1) (by kernel_rfl) (by kernel_rfl) ?_
    repeat (go_big_quiet_step (fail))
    refine wpQuiet_nil ?_
    rintro _ ⟨u, rfl⟩
    go_wp2_with fail
    go_ret
    exact ⟨by rw [ea.out]; rfl, after_top u.below⟩
  | succ N ih =>
    intro s v a c k most w hl h1 h2 h3
    have IH := Lib.hid ih
    clear ih
    by_cases hm : most < 1
    · have e1 : decide (most < 1) = true := by simp; omega
      have ea : Hid (cntT s v k most = most + 1) := cntT_small (by omega)
      go_enter Try.func86, Try.ntmps86
      go_wp2_with fail
      refine wp_region_after (w.heap.size + 1) (by kernel_rfl) (by kernel_rfl) ?_
      repeat (go_big_quiet_step (fail))
      refine wpQuiet_nil ?_
      rintro _ ⟨u, rfl⟩
      go_wp2_with fail
      go_ret
      exact ⟨by rw [ea.out]; rfl, after_top u.below⟩
    have e1 : decide (most < 1) = false := by simp; omega
    rcases heads s v (flen k) with ⟨e2, hok⟩ | ⟨e2, e3, e4, hok⟩ | ⟨e2, e3, e4, e5, hok⟩ | ⟨e2, e3, e4, e5, hok⟩ | ⟨e2, e3, e4, e5, hok⟩
    iterate 3
      · have ea : Hid (cntT s v k most = most + 1) := cntT_bad hok
        clear hok
        have hc := fun u => @box_cells w (.int .i64 s) (.int .i64 v) (.slice a (flen k) c) 35 u
        have hc0 := fun u => (hc u).1
        have hc1 := fun u => (hc u).2.1
        have hc2 := fun u => (hc u).2.2
        clear hc
        go_enter Try.func86, Try.ntmps86
        go_wp2_with fail
        refine wp_region_after (w.heap.size + 1) (by kernel_rfl) (by kernel_rfl) ?_
        repeat (go_big_quiet_step (first | (go_at_call 47; exact Calls.after_same (l6In_any _ _ _ _)) | (go_at_call 105; exact Calls.after (by have := After.below ‹_›; have := this.size; simp at this; omega) (l1Kids_any _ _))))
        refine wpQuiet_nil ?_
        rintro _ ⟨u, rfl⟩
        clear hc0 hc1 hc2
        go_wp2_with fail
        go_ret
        exact ⟨by rw [ea.out]; rfl, after_top u.below⟩
    all_goals
      have ea : Hid (cntT s v k most = cntR 1 k most) := cntT_good hok
      have hk2 : flen k ≤ 2 := okN_le hok
      clear hok
      have hc := fun u => @box_cells w (.int .i64 s) (.int .i64 v) (.slice a (flen k) c) 35 u
      have hc0 := fun u => (hc u).1
      have hc1 := fun u => (hc u).2.1
      have hc2 := fun u => (hc u).2.2
      have HC := Lib.hid hc
      clear hc
      go_enter Try.func86, Try.ntmps86
      go_wp2_with fail
      refine wp_region_after (w.heap.size + 1) (by kernel_rfl) (by kernel_rfl) ?_
      repeat (go_big_quiet_step (first | (go_at_call 47; exact Calls.after_same (l6In_is e5)) | (go_at_call 105; exact Calls.after (by have := After.below ‹_›; have := this.size; simp at this; omega) (l1Kids_any _ _))))
      refine wpQuiet_nil ?_
      rintro _ ⟨u, rfl⟩
      clear hc0 hc1 hc2
      obtain ⟨u, hu⟩ := u
      dsimp only
      go_wp2_with fail
      go_loopw [5, 6] (fun n i wr => ∃ (j : Nat) (m : Int), j ≤ flen k ∧ i = .int .i64 j ∧ n = .int .i64 m ∧ 1 ≤ m ∧ m ≤ most ∧ Hid (cntT s v k most = cntR m (fdrop j k) most) ∧ Below (w.heap.size + 1) (w.alloc (.cells #[.int .i64 s, .int .i64 v, .slice a (flen k) c] 35)) wr) (fun _ i _ => flen k - (intOf i).toNat)
      case atStart => exact ⟨0, 1, Nat.zero_le _, rfl, rfl, by omega, by omega, ea, hu⟩
      case round =>
        obtain ⟨j, m, hj, rfl, rfl, hm1, hm2, hcnt, hbl⟩ := hrel
        obtain ⟨hc0, hc1, hc2⟩ := HC.out ⟨_, hbl⟩
        dsimp only at hc0 hc1 hc2
        by_cases hlt : j < flen k
        · rcases hl with rfl | ⟨b, o, rfl, hrow⟩
          · simp [flen] at hlt
          obtain ⟨s', v', kk, a', c', ⟨x, y, hd⟩, _, hbB, hk0, hk1, hk2, hsl⟩ := row_at (hrow.below (after_top hbl)) hlt
          have HD := Lib.hid hd
          have HS := Lib.hid hsl
          clear hd hsl hrow
          go_wp2_with fail
          with_reducible refine (IH.out s' v' a' c' kk (most - m) _ ?_ ?_ ?_ ?_).mono ?_
          · exact HS.out.mono (Nat.le_refl _) (by have := hbl.size; simp at this; omega)
          · omega
          · omega
          · omega
          rintro e w' ⟨rfl, hb2⟩
          have hbd := cntT_bd s' v' kk (most - m) (by omega)
          have hb3 : Below (w.heap.size + 1) (w.alloc (.cells #[.int .i64 s, .int .i64 v, .slice (some ⟨b, o, none⟩) (flen k) c] 35)) w' := hbl.trans (hb2.mono (by have := hbl.size; simp at this; omega))
          by_cases hov : most < m + cntT s' v' kk (most - m)
          · have ef : Hid (cntT s v k most = most + 1) := by rw [Hid, hcnt.out, HD.out]; exact cntR_over hov
            go_wp2_with fail
            go_ret
            exact ⟨by rw [ef.out]; rfl, after_top hb3⟩
          · have ef : Hid (cntT s v k most = cntR (m + cntT s' v' kk (most - m)) (fdrop (j + 1) k) most) := by rw [Hid, hcnt.out, HD.out]; exact cntR_step (by omega)
            go_wp2_with fail
            go_roundw
            case rel =>
              have g1 : j + 1 ≤ flen k := by omega
              have g2 : 1 ≤ m + cntT s' v' kk (most - m) := by omega
              have g3 : m + cntT s' v' kk (most - m) ≤ most := by omega
              exact ⟨j + 1, _, g1, by go_num, rfl, g2, g3, ef, hb3⟩
            case measure => simp [intOf]; omega
        · have ef : Hid (cntT s v k most = m) := by
            rw [Hid, hcnt.out, fdrop_all (by omega)]
            exact cntR_nil hm2
          go_wp2_with fail
          go_ret
          exact ⟨by rw [ef.out]; rfl, after_top hbl⟩
end Go.Proofs.Ytoafleckcjanaaa

/-! FK: The kids of a well-formed term are. -/
namespace Go.Proofs.Ytoafleckcjanaaa
open Go.RowKit Go.Deep

theorem fok_kid {i : Nat} {k : Fo} {x y : Nat} {s v : Int} {kk r : Fo} (h : fok k = true) (hd : fdrop i k = .node x y (s, v) kk r) : okN s v (flen kk) = true ∧ fok kk = true := by
  have hf : ∀ (i : Nat) (k : Fo), fok k = true → fok (fdrop i k) = true := by
    intro i
    induction i with
    | zero => intro k h; exact h
    | succ n ih =>
      intro k h
      cases k with
      | nil => rfl
      | node _ _ p kk r => simp only [fok, Bool.and_eq_true] at h; exact ih r h.2
  have h4 := hf i k h
  rw [hd] at h4
  simp only [fok, Bool.and_eq_true] at h4
  exact h4.1
end Go.Proofs.Ytoafleckcjanaaa
