/- Several texts in one: XM, XMt, XHt, PF2, RFp. -/
import Derived.Test.YtbnbogdglffkmaaDoorKRd14
import Derived.Test.YtbnbogdglffkmaaDoorKEr1
import Derived.Test.YtbnbogdglffkmaaDoorKRd6

/-! XM: markTermS, markTerm: numbers written over a tree of one's own. -/
namespace Go.Proofs.YtbnbogdglffkmaaDoor
open Go.RowKit Go.Deep

theorem ShS.marked {w w' : World} {lo B : Nat} {a : Option Addr} {k : Fo} (hm : Marked lo B w w') (h : ShS w lo B a k) : ShS w' lo B a k := by
  rcases h with h | ⟨b, e, h⟩
  · exact .inl h
  · exact .inr ⟨b, e, h.marked hm k b 0 rfl⟩

set_option maxRecDepth 100000 in
set_option maxHeartbeats 1000000 in
theorem markTermS_any (N : Nat) : ∀ (a : Option Addr) (c : Nat) (k : Fo) (lo B : Nat) (m : Int) (w : World), ShS w lo B a k → fsz k ≤ N → N ≤ 1048576 → 0 ≤ m → m + 2 * (fsz k : Int) ≤ 10000000 → lo ≤ w.heap.size → B ≤ w.heap.size →
    Calls Tryd.prog 34 #[.slice a (flen k) c, .int .i64 m] w fun e w' => e = .returned (.int .i64 (m + 2 * (fsz k : Int))) ∧ Marked lo B w w' := by
  induction N using Nat.strongRecOn with
  | _ N ih =>
    intro a c k lo B m w hl hN hN2 hm0 hm1 hlo hB
    have hfl := flen_le (k := k)
    have IH := Lib.hid ih
    have HL := Lib.hid hl
    clear ih hl
    go_enter Tryd.func34, Tryd.ntmps34
    go_wp2_with fail
    go_loopw [1, 5] (fun t i wr => ∃ (j : Nat) (l : Int), j ≤ flen k ∧ i = .int .i64 j ∧ t = .int .i64 l ∧ 0 ≤ l ∧ l + 2 * (fsz (fdrop j k) : Int) = m + 2 * (fsz k : Int) ∧ Marked lo B w wr) (fun _ i _ => flen k - (intOf i).toNat)
    case atStart => exact ⟨0, m, by omega, rfl, rfl, hm0, by simp [fdrop], Marked.refl _ _ _⟩
    case round =>
      obtain ⟨j, l, hj, rfl, rfl, hl0, hl1, hmk⟩ := hrel
      have hbs := hmk.below.size
      by_cases hlt : j < flen k
      · obtain ⟨x, y, s', v', kk, hd⟩ := fdrop_succ j k hlt
        have hsh : ∃ b, a = some ⟨b, 0, none⟩ ∧ Sh wr lo B (fdrop j k) b (0 + j * 3) := by
          rcases HL.out.marked hmk with h | ⟨b, e, h⟩
          · rw [h] at hlt; simp [flen] at hlt
          · exact ⟨b, e, h.drop j k b 0⟩
        obtain ⟨b, rfl, hsh⟩ := hsh
        rw [hd, Nat.zero_add] at hsh
        obtain ⟨h1, h2, ⟨x0, hx⟩, ⟨y0, hy⟩, f0, f1, ⟨a', c', hc, hk⟩, _⟩ := hsh
        have hkN := fsz_kid' hd
        rw [hd] at hl1
        simp only [fsz] at hl1
        have hm2 := Marked.set (lo := lo) (B := B) h1 h2 (by omega) hx l
        have hb1 : (wr.setCell ⟨b, j * 3, none⟩ (.int .i64 l)).cell? ⟨b, j * 3 + 1, none⟩ = some (.int .i64 y0) := by rw [World.cell?_setCell_other _ _ _ _ (by intro e; have := congrArg Addr.off e; simp at this)]; exact hy
        have hb2 : (wr.setCell ⟨b, j * 3, none⟩ (.int .i64 l)).frozen? ⟨b, j * 3 + 1, none⟩ = false := by rw [World.frozen?_setCell]; exact f1
        have hm3 := Marked.set (lo := lo) (B := B) h1 h2 (by omega) hb1 (l + 1)
        have hb3 : ((wr.setCell ⟨b, j * 3, none⟩ (.int .i64 l)).setCell ⟨b, j * 3 + 1, none⟩ (.int .i64 (l + 1))).cell? ⟨b, j * 3 + 2, none⟩ = some (.slice a' (flen kk) c') := by rw [World.cell?_setCell_other _ _ _ _ (by intro e; have := congrArg Addr.off e; simp at this), World.cell?_setCell_other _ _ _ _ (by intro e; have := congrArg Addr.off e; simp at this)]; exact hc
        have HM3 := Lib.hid (hmk.trans (hm2.trans hm3))
        have HS3 : Hid (ShS ((wr.setCell ⟨b, j * 3, none⟩ (.int .i64 l)).setCell ⟨b, j * 3 + 1, none⟩ (.int .i64 (l + 1))) lo B a' kk) := ShS.marked (hm2.trans hm3) hk
        have g1 : (0 : Int) ≤ (j : Int) := by omega
        have g2 : (j : Int) < (flen k : Int) := by omega
        clear hm2 hm3 hk hd hc hy hmk
        go_wp2_with fail
        with_reducible refine (IH.out (fsz kk) (by omega) a' c' kk lo B (l + 1 + 1) _ HS3.out (Nat.le_refl _) (by omega) (by omega) (by omega) (by simp; omega) (by simp; omega)).mono ?_
        rintro e w2 ⟨rfl, hmk2⟩
        have HM4 := Lib.hid (HM3.out.trans hmk2)
        clear hmk2 hx hb1 hb2 hb3 f0 f1
        go_wp2_with fail
        go_roundw
        case rel => exact ⟨j + 1, _, by omega, by go_num, rfl, by omega, by omega, HM4.out⟩
        case measure => simp [intOf]; omega
      · have HE : Hid (l = m + 2 * (fsz k : Int)) := by
          rw [fdrop_all (by omega)] at hl1
          simp [fsz] at hl1
          unfold Hid
          omega
        have HMK := Lib.hid hmk
        clear hmk
        go_wp2_with fail
        go_ret
        exact ⟨by rw [← HE.out]; rfl, HMK.out⟩

set_option maxRecDepth 100000 in
set_option maxHeartbeats 1000000 in
theorem markTerm_any (s v : Int) (a : Option Addr) (c : Nat) (k : Fo) (lo B : Nat) (m : Int) (w : World) (hl : ShS w lo B a k) (hN : fsz k ≤ 1048576) (hm0 : 0 ≤ m) (hm1 : m + 2 * (fsz k : Int) ≤ 10000000) (hlo : lo ≤ w.heap.size) (hB : B ≤ w.heap.size) :
    Calls Tryd.prog 16 #[.agg #[.int .i64 s, .int .i64 v, .slice a (flen k) c], .int .i64 m] w fun e w' => e = .returned (.int .i64 (m + 2 * (fsz k : Int))) ∧ Marked lo B w w' := by
  have HM0 : Hid (Marked lo B w (w.alloc (.cells #[.int .i64 s, .int .i64 v, .slice a (flen k) c] 25))) := (Marked.refl lo B w).more ((Below.refl _ _).alloc (Nat.le_refl _) _) hB hlo
  have HS : Hid (ShS (w.alloc (.cells #[.int .i64 s, .int .i64 v, .slice a (flen k) c] 25)) lo B a k) := hl.marked HM0.out
  clear hl
  go_enter Tryd.func16, Tryd.ntmps16
  go_wp2_with fail
  with_reducible refine (markTermS_any (fsz k) a c k lo B m _ HS.out (Nat.le_refl _) hN hm0 hm1 (by simp; omega) (by simp; omega)).mono ?_
  rintro e w2 ⟨rfl, hmk2⟩
  have HM2 := Lib.hid (HM0.out.trans hmk2)
  clear hmk2
  go_wp2_with fail
  go_ret
  exact ⟨rfl, HM2.out⟩
end Go.Proofs.YtbnbogdglffkmaaDoor

/-! XMt: markTermS and heldTermS on a tree of one's own: what is marked is held. -/
namespace Go.Proofs.YtbnbogdglffkmaaDoor
open Go.RowKit Go.Deep

/-- What holds at the head of markTermS's loop: the first j kids are marked, the others are as they were. -/
structure MkAt (w : World) (lo B b : Nat) (k : Fo) (Ls : Nat → Nat) (m : Int) (j : Nat) (wr : World) : Prop where
  marked : Marked lo B w wr
  done : ∀ i, i < j → HdAt wr (Ls i) (Ls (i + 1)) k b 0 m i
  todo : ∀ i, j ≤ i → i < flen k → TrAt wr k b 0 Ls i

theorem MkAt.step {w wr w2 : World} {lo B b : Nat} {k : Fo} {Ls : Nat → Nat} {m : Int} {j x y : Nat} {s v : Int} {kk : Fo} {a : Option Addr} {c : Nat} (h : MkAt w lo B b k Ls m j wr) (hj : j < flen k) (hLs : ∀ i, i < flen k → Ls i ≤ Ls (i + 1)) (hLB : Ls (flen k) ≤ B) (hB : B ≤ w.heap.size)
    (hlo : lo ≤ b) (hb : b < Ls 0) (hd : fdrop j k = .node x y (s, v) kk (fdrop (j + 1) k)) (hc2 : wr.cell? ⟨b, j * 3 + 2, none⟩ = some (.slice a (flen kk) c)) {u u' : Value} (hu : wr.cell? ⟨b, j * 3, none⟩ = some u) (hu' : wr.cell? ⟨b, j * 3 + 1, none⟩ = some u')
    (hmk : Marked (Ls j) (Ls (j + 1)) ((wr.setCell ⟨b, j * 3, none⟩ (.int .i64 (cnt k m j))).setCell ⟨b, j * 3 + 1, none⟩ (.int .i64 (cnt k m j + 1))) w2) (hhd : HdS w2 (Ls j) (Ls (j + 1)) a kk (cnt k m j + 2)) : MkAt w lo B b k Ls m (j + 1) w2 := by
  have hmono : ∀ i i', i ≤ i' → i' ≤ flen k → Ls i ≤ Ls i' := fun i i' h1 h2 => by
    have := Ls_mono hLs (i' - i) i (by omega)
    rwa [show i + (i' - i) = i' from by omega] at this
  have h0j := hmono 0 j (Nat.zero_le _) (by omega)
  have hjj := hLs j hj
  have hjn := hmono (j + 1) (flen k) (by omega) (Nat.le_refl _)
  have hwr : w.heap.size ≤ wr.heap.size := h.marked.below.size
  have hbB : b < B := by omega
  -- other blocks
  have hsame : ∀ q, q ≠ b → (q < Ls j ∨ Ls (j + 1) ≤ q) → q < wr.heap.size → w2.heap[q]? = wr.heap[q]? := fun q h1 h2 h3 => by
    have e : ((wr.setCell ⟨b, j * 3, none⟩ (.int .i64 (cnt k m j))).setCell ⟨b, j * 3 + 1, none⟩ (.int .i64 (cnt k m j + 1))).heap[q]? = wr.heap[q]? := by
      rw [Below.heap_setCell _ _ _ _ (fun e => h1 (by simpa using e)), Below.heap_setCell _ _ _ _ (fun e => h1 (by simpa using e))]
    rcases h2 with h2 | h2
    · rw [hmk.below.block q h2, e]
    · rw [hmk.far q h2 (by simpa using h3), e]
  -- the row's own cells
  have hcell : ∀ o, o ≠ j * 3 → o ≠ j * 3 + 1 → w2.cell? ⟨b, o, none⟩ = wr.cell? ⟨b, o, none⟩ := fun o h1 h2 => by
    rw [hmk.below.cell (by simp; omega), World.cell?_setCell_other _ _ _ _ (ne_offT (by omega)), World.cell?_setCell_other _ _ _ _ (ne_offT (by omega))]
  have hfro : ∀ o, w2.frozen? ⟨b, o, none⟩ = wr.frozen? ⟨b, o, none⟩ := fun o => by
    rw [hmk.below.frozen (by simp; omega), World.frozen?_setCell, World.frozen?_setCell]
  refine ⟨?_, fun i hi => ?_, fun i h1 h2 => ?_⟩
  · have m1 := Marked.set (lo := lo) (B := B) hlo hbB (by omega) hu (cnt k m j)
    have m2 := Marked.set (lo := lo) (B := B) (w := wr.setCell ⟨b, j * 3, none⟩ (.int .i64 (cnt k m j))) (o := j * 3 + 1) hlo hbB (by omega) (by rw [World.cell?_setCell_other _ _ _ _ (ne_offT (by omega))]; exact hu') (cnt k m j + 1)
    exact h.marked.trans (m1.trans (m2.trans (hmk.mono (by omega) (by omega) (by simp; omega))))
  · by_cases hij : i = j
    · subst hij
      refine ⟨x, y, s, v, kk, a, c, hd, ?_, ?_, ?_, hhd⟩
      · rw [Nat.zero_add, hmk.below.cell (by simp; omega), World.cell?_setCell_other _ _ _ _ (ne_offT (by omega))]
        exact World.cell?_setCell_same _ _ _ hu
      · rw [Nat.zero_add, hmk.below.cell (by simp; omega)]
        exact World.cell?_setCell_same _ _ _ (by rw [World.cell?_setCell_other _ _ _ _ (ne_offT (by omega))]; exact hu')
      · rw [Nat.zero_add, hcell _ (by omega) (by omega)]; exact hc2
    · obtain ⟨x', y', s', v', kk', a', c', e, d1, d2, d3, d4⟩ := h.done i (by omega)
      have g1 := hmono 0 i (Nat.zero_le _) (by omega)
      have g2 := hmono (i + 1) j (by omega) (by omega)
      refine ⟨x', y', s', v', kk', a', c', e, ?_, ?_, ?_, d4.same fun q q1 q2 => hsame q (by omega) (.inl (by omega)) (by omega)⟩
      · rw [Nat.zero_add] at d1 ⊢; rw [hcell _ (by omega) (by omega)]; exact d1
      · rw [Nat.zero_add] at d2 ⊢; rw [hcell _ (by omega) (by omega)]; exact d2
      · rw [Nat.zero_add] at d3 ⊢; rw [hcell _ (by omega) (by omega)]; exact d3
  · obtain ⟨x', y', s', v', kk', a', c', e, d1, d2, d3, d4, d5, d6⟩ := h.todo i (by omega) h2
    have g1 := hmono 0 i (Nat.zero_le _) (by omega)
    have g2 := hmono (j + 1) i (by omega) (by omega)
    have g3 := hmono (i + 1) (flen k) (by omega) (Nat.le_refl _)
    rw [Nat.zero_add] at d1 d2 d3 d4 d5
    refine ⟨x', y', s', v', kk', a', c', e, ?_, ?_, ?_, ?_, ?_, d6.same fun q q1 q2 => hsame q (by omega) (.inr (by omega)) (by omega)⟩
    · rw [Nat.zero_add, hcell _ (by omega) (by omega)]; exact d1
    · rw [Nat.zero_add, hcell _ (by omega) (by omega)]; exact d2
    · rw [Nat.zero_add, hfro]; exact d3
    · rw [Nat.zero_add, hfro]; exact d4
    · rw [Nat.zero_add, hcell _ (by omega) (by omega)]; exact d5

set_option maxRecDepth 100000 in
set_option maxHeartbeats 1000000 in
theorem markTree_any (N : Nat) : ∀ (a : Option Addr) (c : Nat) (k : Fo) (lo B : Nat) (m : Int) (w : World), TrS w lo B a k → fsz k ≤ N → N ≤ 1048576 → 0 ≤ m → m + 2 * (fsz k : Int) ≤ 10000000 → lo ≤ B → B ≤ w.heap.size →
    Calls Tryd.prog 34 #[.slice a (flen k) c, .int .i64 m] w fun e w' => e = .returned (.int .i64 (m + 2 * (fsz k : Int))) ∧ Marked lo B w w' ∧ HdS w' lo B a k m := by
  induction N using Nat.strongRecOn with
  | _ N ih =>
    intro a c k lo B m w hl hN hN2 hm0 hm1 hlo hB
    have hfl := flen_le (k := k)
    have IH := Lib.hid ih
    clear ih
    rcases hl with rfl | ⟨b, rfl, hb1, hb2, htr⟩
    · simp only [flen, fsz]
      go_enter Tryd.func34, Tryd.ntmps34
      go_wp2_with fail
      go_loopw [1, 5] (fun t i wr => i = .int .i64 0 ∧ t = .int .i64 m ∧ wr = w) (fun _ _ _ => 0)
      case atStart => exact ⟨rfl, rfl, rfl⟩
      case round =>
        obtain ⟨rfl, rfl, rfl⟩ := hrel
        go_wp2_with fail
        go_ret
        exact ⟨by simp, Marked.refl _ _ _, .inl rfl⟩
    · obtain ⟨Ls, hL0, hLs, hLB, _, hall⟩ := htr.at
      have HLS := Lib.hid hLs
      have HST : Hid (MkAt w lo B b k Ls m 0 w) := ⟨Marked.refl _ _ _, fun i hi => by omega, fun i _ hi => hall i hi⟩
      have hb0 : b < Ls 0 := by omega
      clear hLs hall htr
      go_enter Tryd.func34, Tryd.ntmps34
      go_wp2_with fail
      go_loopw [1, 5] (fun t i wr => ∃ j : Nat, j ≤ flen k ∧ i = .int .i64 j ∧ t = .int .i64 (cnt k m j) ∧ MkAt w lo B b k Ls m j wr) (fun _ i _ => flen k - (intOf i).toNat)
      case atStart => exact ⟨0, by omega, rfl, by simp [cnt, fdrop], HST.out⟩
      case round =>
        clear HST
        obtain ⟨j, hj, rfl, rfl, hat⟩ := hrel
        by_cases hlt : j < flen k
        · obtain ⟨x, y, s', v', kk, a', c', hd, ⟨z, hx⟩, ⟨z', hy⟩, f0, f1, hc, hk⟩ := hat.todo j (Nat.le_refl _) hlt
          rw [Nat.zero_add] at hx hy f0 f1 hc
          have hkN := fsz_kid' hd
          have hdr := fsz_drop' j k
          have hLj := HLS.out j hlt
          have h0j : Ls 0 ≤ Ls j := by have := Ls_mono HLS.out j 0 (by omega); rwa [Nat.zero_add] at this
          have hjn : Ls (j + 1) ≤ Ls (flen k) := by have := Ls_mono HLS.out (flen k - (j + 1)) (j + 1) (by omega); rwa [show j + 1 + (flen k - (j + 1)) = flen k from by omega] at this
          have hwr := hat.marked.below.size
          have hcn : cnt k m (j + 1) = cnt k m j + 2 + 2 * (fsz kk : Int) := by
            unfold cnt
            rw [hd]
            simp only [fsz]
            push_cast
            omega
          have hc0 : 0 ≤ cnt k m j := by unfold cnt; omega
          have hc1 : cnt k m j + 2 + 2 * (fsz kk : Int) ≤ 10000000 := by
            rw [← hcn]
            have := fsz_drop' (j + 1) k
            unfold cnt
            omega
          have HCN := Lib.hid hcn
          have HSTEP : Hid (∀ w2, Marked (Ls j) (Ls (j + 1)) ((wr.setCell ⟨b, j * 3, none⟩ (.int .i64 (cnt k m j))).setCell ⟨b, j * 3 + 1, none⟩ (.int .i64 (cnt k m j + 1))) w2 → HdS w2 (Ls j) (Ls (j + 1)) a' kk (cnt k m j + 2) → MkAt w lo B b k Ls m (j + 1) w2) := fun w2 h1 h2 => hat.step hlt HLS.out hLB hB hb1 hb0 hd hc hx hy h1 h2
          have HK2 : Hid (TrS ((wr.setCell ⟨b, j * 3, none⟩ (.int .i64 (cnt k m j))).setCell ⟨b, j * 3 + 1, none⟩ (.int .i64 (cnt k m j + 1))) (Ls j) (Ls (j + 1)) a' kk) :=
            hk.same ((Same.setCell (fun _ _ _ => rfl) (.inl (by simp; omega)) _).setCell (.inl (by simp; omega)) _)
          have hb1' : (wr.setCell ⟨b, j * 3, none⟩ (.int .i64 (cnt k m j))).cell? ⟨b, j * 3 + 1, none⟩ = some (.int .i64 z') := by rw [World.cell?_setCell_other _ _ _ _ (ne_offT (by omega))]; exact hy
          have hb2' : (wr.setCell ⟨b, j * 3, none⟩ (.int .i64 (cnt k m j))).frozen? ⟨b, j * 3 + 1, none⟩ = false := by rw [World.frozen?_setCell]; exact f1
          have hb3' : ((wr.setCell ⟨b, j * 3, none⟩ (.int .i64 (cnt k m j))).setCell ⟨b, j * 3 + 1, none⟩ (.int .i64 (cnt k m j + 1))).cell? ⟨b, j * 3 + 2, none⟩ = some (.slice a' (flen kk) c') := by rw [World.cell?_setCell_other _ _ _ _ (ne_offT (by omega)), World.cell?_setCell_other _ _ _ _ (ne_offT (by omega))]; exact hc
          have g1 : (0 : Int) ≤ (j : Int) := by omega
          have g2 : (j : Int) < (flen k : Int) := by omega
          have HX : Hid (∃ z, z = cnt k m j) := ⟨_, rfl⟩
          clear hd hk hat hcn hc hy
          generalize cnt k m j = l at *
          go_wp2_with fail
          with_reducible refine (IH.out (fsz kk) (by omega) a' c' kk (Ls j) (Ls (j + 1)) (l + 1 + 1) _ HK2.out (Nat.le_refl _) (by omega) (by omega) (by omega) hLj (by simp; omega)).mono ?_
          rintro e w2 ⟨rfl, hmk2, hhd2⟩
          have e2 : l + 1 + 1 = l + 2 := by omega
          rw [e2] at hhd2
          have HM4 := Lib.hid (HSTEP.out w2 hmk2 hhd2)
          clear hmk2 hhd2 hx hb1' hb2' hb3' f0 f1 HSTEP
          go_wp2_with fail
          go_roundw
          case rel => exact ⟨j + 1, by omega, by go_num, by rw [HCN.out], HM4.out⟩
          case measure => simp [intOf]; omega
        · have hje : j = flen k := by omega
          subst hje
          have HE : Hid (cnt k m (flen k) = m + 2 * (fsz k : Int)) := by
            unfold Hid cnt
            rw [fdrop_all (Nat.le_refl _)]
            simp [fsz]
          have HF : Hid (HdS wr lo B (some ⟨b, 0, none⟩) k m) := .inr ⟨b, rfl, hd_of_all k b 0 m hb1 hb2 fun i hi => by
            obtain ⟨x', y', s', v', kk', a', c', e, d1, d2, d3, d4⟩ := hat.done i hi
            have q1 : Ls 0 ≤ Ls i := by have := Ls_mono HLS.out i 0 (by omega); rwa [Nat.zero_add] at this
            have q2 : Ls (i + 1) ≤ Ls (flen k) := by have := Ls_mono HLS.out (flen k - (i + 1)) (i + 1) (by omega); rwa [show i + 1 + (flen k - (i + 1)) = flen k from by omega] at this
            exact ⟨x', y', s', v', kk', a', c', e, d1, d2, d3, d4.mono (by omega) (by omega)⟩⟩
          have HMK := Lib.hid hat.marked
          clear hat
          go_wp2_with fail
          go_ret
          exact ⟨by rw [← HE.out]; rfl, HMK.out, HF.out⟩
end Go.Proofs.YtbnbogdglffkmaaDoor

/-! XHt: heldTermS, heldTerm: a tree that counts up is held; markTerm on a tree. -/
namespace Go.Proofs.YtbnbogdglffkmaaDoor
open Go.RowKit Go.Deep

set_option maxRecDepth 100000 in
set_option maxHeartbeats 1000000 in
theorem heldTermS_any (N : Nat) : ∀ (a : Option Addr) (c : Nat) (k : Fo) (lo B : Nat) (m : Int) (w : World), HdS w lo B a k m → fsz k ≤ N → N ≤ 1048576 → 0 ≤ m → m + 2 * (fsz k : Int) ≤ 10000000 → B ≤ w.heap.size →
    Calls Tryd.prog 35 #[.slice a (flen k) c, .int .i64 m] w fun e w' => e = .returned (.int .i64 (m + 2 * (fsz k : Int))) ∧ Below w.heap.size w w' := by
  induction N using Nat.strongRecOn with
  | _ N ih =>
    intro a c k lo B m w hl hN hN2 hm0 hm1 hB
    have hfl := flen_le (k := k)
    have IH := Lib.hid ih
    have HL := Lib.hid hl
    clear ih hl
    go_enter Tryd.func35, Tryd.ntmps35
    go_wp2_with fail
    go_loopw [1, 5] (fun t i wr => ∃ j : Nat, j ≤ flen k ∧ i = .int .i64 j ∧ t = .int .i64 (cnt k m j) ∧ Below w.heap.size w wr) (fun _ i _ => flen k - (intOf i).toNat)
    case atStart => exact ⟨0, by omega, rfl, by simp [cnt, fdrop], Below.refl _ _⟩
    case round =>
      obtain ⟨j, hj, rfl, rfl, hbl⟩ := hrel
      have hbs := hbl.size
      by_cases hlt : j < flen k
      · have hb : ∃ b, a = some ⟨b, 0, none⟩ ∧ HdAt wr lo B k b 0 m j := by
          rcases HL.out.same (Same.of_below (hbl.mono hB)) with h | ⟨b, e, h⟩
          · rw [h] at hlt; simp [flen] at hlt
          · exact ⟨b, e, h.at j hlt⟩
        obtain ⟨b, rfl, x, y, s', v', kk, a', c', hd, hx, hy, hc, hk⟩ := hb
        rw [Nat.zero_add] at hx hy hc
        have hkN := fsz_kid' hd
        have hdr := fsz_drop' j k
        have hcn : cnt k m (j + 1) = cnt k m j + 2 + 2 * (fsz kk : Int) := by
          unfold cnt
          rw [hd]
          simp only [fsz]
          push_cast
          omega
        have hc0 : 0 ≤ cnt k m j := by unfold cnt; omega
        have hc1 : cnt k m j + 2 + 2 * (fsz kk : Int) ≤ 10000000 := by
          rw [← hcn]
          have := fsz_drop' (j + 1) k
          unfold cnt
          omega
        have HCN := Lib.hid hcn
        have HK := Lib.hid hk
        have HBL := Lib.hid hbl
        have g1 : (0 : Int) ≤ (j : Int) := by omega
        have g2 : (j : Int) < (flen k : Int) := by omega
        clear hd hk hcn hbl
        generalize cnt k m j = l at *
        have HK' : Hid (HdS wr lo B a' kk (l + 1 + 1)) := by rw [show l + 1 + 1 = l + 2 from by omega]; exact HK.out
        have x1 : (l != l) = false := by simp
        have x2 : ((l + 1) != (l + 1)) = false := by simp
        have x3 : decide (l + 1 + 1 + 2 * (fsz kk : Int) < 0) = false := decide_eq_false (by omega)
        go_wp2_with fail
        with_reducible refine (IH.out (fsz kk) (by omega) a' c' kk lo B (l + 1 + 1) _ HK'.out (Nat.le_refl _) (by omega) (by omega) (by omega) (by omega)).mono ?_
        rintro e w2 ⟨rfl, hb2⟩
        have HB2 := Lib.hid (HBL.out.trans (hb2.mono hbs))
        clear hb2 hx hy hc
        go_wp2_with fail
        go_roundw
        case rel => exact ⟨j + 1, by omega, by go_num, by rw [HCN.out, show l + 1 + 1 = l + 2 from by omega], HB2.out⟩
        case measure => simp [intOf]; omega
      · have hje : j = flen k := by omega
        subst hje
        have HE : Hid (cnt k m (flen k) = m + 2 * (fsz k : Int)) := by
          unfold Hid cnt
          rw [fdrop_all (Nat.le_refl _)]
          simp [fsz]
        go_wp2_with fail
        go_ret
        exact ⟨by rw [← HE.out]; rfl, hbl⟩

set_option maxRecDepth 100000 in
set_option maxHeartbeats 1000000 in
theorem heldTerm_any (s v : Int) (a : Option Addr) (c : Nat) (k : Fo) (lo B : Nat) (m : Int) (w : World) (hl : HdS w lo B a k m) (hN : fsz k ≤ 1048576) (hm0 : 0 ≤ m) (hm1 : m + 2 * (fsz k : Int) ≤ 10000000) (hB : B ≤ w.heap.size) :
    Calls Tryd.prog 17 #[.agg #[.int .i64 s, .int .i64 v, .slice a (flen k) c], .int .i64 m] w fun e w' => e = .returned (.int .i64 (m + 2 * (fsz k : Int))) ∧ Below w.heap.size w w' := by
  have HB0 : Hid (Below w.heap.size w (w.alloc (.cells #[.int .i64 s, .int .i64 v, .slice a (flen k) c] 25))) := (Below.refl _ _).alloc (Nat.le_refl _) _
  have HS : Hid (HdS (w.alloc (.cells #[.int .i64 s, .int .i64 v, .slice a (flen k) c] 25)) lo B a k m) := hl.same (Same.of_below (HB0.out.mono hB))
  have x3 : decide (m + 2 * (fsz k : Int) < 0) = false := decide_eq_false (by omega)
  clear hl
  go_enter Tryd.func17, Tryd.ntmps17
  go_wp2_with fail
  with_reducible refine (heldTermS_any (fsz k) a c k lo B m _ HS.out (Nat.le_refl _) hN hm0 hm1 (by simp; omega)).mono ?_
  rintro e w2 ⟨rfl, hb2⟩
  have HB2 := Lib.hid (HB0.out.trans (hb2.mono (by simp)))
  clear hb2
  go_wp2_with fail
  go_ret
  exact ⟨rfl, HB2.out⟩

set_option maxRecDepth 100000 in
set_option maxHeartbeats 1000000 in
theorem markTermT_any (s v : Int) (a : Option Addr) (c : Nat) (k : Fo) (lo B : Nat) (m : Int) (w : World) (hl : TrS w lo B a k) (hN : fsz k ≤ 1048576) (hm0 : 0 ≤ m) (hm1 : m + 2 * (fsz k : Int) ≤ 10000000) (hlo : lo ≤ B) (hB : B ≤ w.heap.size) :
    Calls Tryd.prog 16 #[.agg #[.int .i64 s, .int .i64 v, .slice a (flen k) c], .int .i64 m] w fun e w' => e = .returned (.int .i64 (m + 2 * (fsz k : Int))) ∧ Marked lo B w w' ∧ HdS w' lo B a k m := by
  have HM0 : Hid (Marked lo B w (w.alloc (.cells #[.int .i64 s, .int .i64 v, .slice a (flen k) c] 25))) := (Marked.refl lo B w).more ((Below.refl _ _).alloc (Nat.le_refl _) _) hB (by omega)
  have HS : Hid (TrS (w.alloc (.cells #[.int .i64 s, .int .i64 v, .slice a (flen k) c] 25)) lo B a k) := hl.same (Same.of_below ((Below.refl _ _).alloc (by omega) _))
  clear hl
  go_enter Tryd.func16, Tryd.ntmps16
  go_wp2_with fail
  with_reducible refine (markTree_any (fsz k) a c k lo B m _ HS.out (Nat.le_refl _) hN hm0 hm1 hlo (by simp; omega)).mono ?_
  rintro e w2 ⟨rfl, hmk2, hhd2⟩
  have HM2 := Lib.hid (HM0.out.trans hmk2)
  have HH2 := Lib.hid hhd2
  clear hmk2 hhd2
  go_wp2_with fail
  go_ret
  exact ⟨rfl, HM2.out, HH2.out⟩
end Go.Proofs.YtbnbogdglffkmaaDoor

/-! PF2: Rows of rows of the call's own, each row in blocks of its own. Definitions and plain lemmas. -/
namespace Go.Proofs.YtbnbogdglffkmaaDoor
open Go.RowKit Go.Deep

/-- A row of numbers of one's own, in blocks from L on below H. -/
structure RwF (w : World) (L H : Nat) (a : Option Addr) (c : Nat) (r : List Int) : Prop where
  own : IOwn w L r a c
  hi : ∀ g, (Value.slice a r.length c).ownBlock = some g → g < H
theorem RwF.same {w w2 : World} {L H : Nat} {a : Option Addr} {c : Nat} {r : List Int} (h : RwF w L H a c r) (hs : ∀ b, L ≤ b → b < H → w2.heap[b]? = w.heap[b]?) : RwF w2 L H a c r := by
  refine ⟨⟨h.own.1, ?_⟩, h.hi⟩
  rcases h.own.2 with h2 | ⟨g, cap, cur, h3, h4, h5, h6⟩
  · exact .inl h2
  · have hg : g < H := h.hi g (by rw [h3]; rfl)
    exact .inr ⟨g, cap, cur, h3, h4, by rw [hs g h4 hg]; exact h5, h6⟩
theorem RwF.sc {w : World} {L H : Nat} {a : Option Addr} {c : Nat} {r : List Int} (h : RwF w L H a c r) : ISc w L H a c r := by
  refine ⟨?_, (isc_of_own h.own).2⟩
  rcases Nat.eq_zero_or_pos r.length with h0 | h0
  · exact .inl (List.eq_nil_of_length_eq_zero h0)
  · obtain ⟨g, cap, hv, hb, hlt⟩ := h.own.form h0
    have hg : g < H := h.hi g (by rw [hv]; rfl)
    rcases h.own.sl with h1 | ⟨b, o, e, h1, h2, h3⟩
    · exact .inl h1
    · simp only [Value.slice.injEq] at hv
      rw [hv.1] at e
      simp only [Option.some.injEq, Addr.mk.injEq] at e
      refine .inr ⟨b, o, by rw [hv.1]; simp [e.1, e.2.1], h1, by omega, h3⟩

/-- The rows lie in row (A, C), row i from block lo i on below hi i, one behind the other. -/
structure RF (w : World) (base : Nat) (rows : List (List Int)) (A : Option Addr) (C : Nat) (xs : List Value) (lo hi : Nat → Nat) : Prop where
  own : w.ownsRow base 97 1 (.slice A rows.length C) rows.length xs
  up : ∀ i j, i < j → j < rows.length → hi i ≤ lo j
  at_ : ∀ (i : Nat) (r : List Int), rows[i]? = some r → ∃ a' c', xs[i]? = some (Value.slice a' r.length c') ∧ RwF w (lo i) (hi i) a' c' r ∧ base ≤ lo i ∧ hi i ≤ w.heap.size ∧ (∀ g, (Value.slice A rows.length C).ownBlock = some g → g < lo i ∨ hi i ≤ g)
def ROwnF (w : World) (base : Nat) (rows : List (List Int)) (A : Option Addr) (C : Nat) : Prop := ∃ xs lo hi, RF w base rows A C xs lo hi
theorem RF.all {w : World} {base : Nat} {rows : List (List Int)} {A : Option Addr} {C : Nat} {xs : List Value} {lo hi : Nat → Nat} (h : RF w base rows A C xs lo hi) :
    ∀ (i : Nat) (r : List Int), rows[i]? = some r → ∃ a' c' L H, xs[i]? = some (Value.slice a' r.length c') ∧ ISc w L H a' c' r ∧ base ≤ L ∧ H ≤ w.heap.size ∧ (∀ g, (Value.slice A rows.length C).ownBlock = some g → g < L ∨ H ≤ g) := fun i r hr => by
  obtain ⟨a', c', hx, hw, h1, h2, h3⟩ := h.at_ i r hr
  exact ⟨a', c', lo i, hi i, hx, hw.sc, h1, h2, h3⟩
theorem ROwnF.to {w : World} {base : Nat} {rows : List (List Int)} {A : Option Addr} {C : Nat} (h : ROwnF w base rows A C) : ROwn w base rows A C := by
  obtain ⟨xs, lo, hi, h⟩ := h
  exact ⟨xs, h.own, h.all⟩
theorem RF.low {w w2 : World} {base base' : Nat} {rows : List (List Int)} {A : Option Addr} {C : Nat} {xs : List Value} {lo hi : Nat → Nat} (h : RF w base rows A C xs lo hi) (hb : Below w.heap.size w w2) (hbase : base' ≤ base) : RF w2 base' rows A C xs lo hi := by
  refine ⟨own_base hbase (own_low hb h.own), h.up, fun i r hr => ?_⟩
  obtain ⟨a', c', hx, hw, h1, h2, h3⟩ := h.at_ i r hr
  exact ⟨a', c', hx, hw.same (fun b _ hb' => hb.block b (by omega)), by omega, Nat.le_trans h2 hb.size, h3⟩
theorem ROwnF.low {w w2 : World} {base base' : Nat} {rows : List (List Int)} {A : Option Addr} {C : Nat} (h : ROwnF w base rows A C) (hb : Below w.heap.size w w2) (hbase : base' ≤ base) : ROwnF w2 base' rows A C := by
  obtain ⟨xs, lo, hi, h⟩ := h
  exact ⟨xs, lo, hi, h.low hb hbase⟩
/-- One more row is appended. -/
theorem RF.append {w w2 w3 : World} {base : Nat} {rows : List (List Int)} {A A' : Option Addr} {C C' : Nat} {blk : Obj} {r : List Int} {a2 : Option Addr} {c2 : Nat} {xs : List Value} {lo hi : Nat → Nat} (h : RF w base rows A C xs lo hi)
    (hown3 : w3.ownsRow base 97 1 (.slice A' (rows.length + 1) C') (rows.length + 1) (xs ++ [.slice a2 r.length c2])) (hb2 : Below w.heap.size w w2) (hi2 : IOwn w2 w.heap.size r a2 c2) (hbase : base ≤ w.heap.size)
    (hgrow : (w2.alloc blk).grownBy w3 (Value.slice A rows.length C).ownBlock) (hat : (Value.slice A' (rows.length + 1) C').ownBlock = (Value.slice A rows.length C).ownBlock ∨ (Value.slice A' (rows.length + 1) C').ownBlock = some (w2.heap.size + 1)) : ROwnF w3 base (rows ++ [r]) A' C' := by
  have hs2 := hb2.size
  have hs3 := hgrow.size
  simp at hs3
  have hxl : xs.length = rows.length := by have := h.own.1; omega
  have hl : (rows ++ [r]).length = rows.length + 1 := by simp
  refine ⟨xs ++ [.slice a2 r.length c2], fun i => if i < rows.length then lo i else w.heap.size, fun i => if i < rows.length then hi i else w2.heap.size, by rw [hl]; exact hown3, fun i j hij hj => ?_, fun i r' hr => ?_⟩
  · rw [hl] at hj
    rw [if_pos (by omega)]
    split
    · exact h.up i j hij (by omega)
    · obtain ⟨a', c', _, _, _, h2, _⟩ := h.at_ i rows[i] (List.getElem?_eq_getElem (by omega))
      exact h2
  have hcond : ∀ {L H : Nat}, (∀ g, (Value.slice A rows.length C).ownBlock = some g → g < L ∨ H ≤ g) → H ≤ w2.heap.size → ∀ g', (Value.slice A' (rows.length + 1) C').ownBlock = some g' → g' < L ∨ H ≤ g' := fun hg hH g' hg' => by
    rcases hat with h1 | h1
    · exact hg g' (by rw [← h1]; exact hg')
    · rw [h1] at hg'; simp at hg'; omega
  by_cases hi' : i < rows.length
  · rw [List.getElem?_append_left hi'] at hr
    obtain ⟨a', c', hx, hsl, hL, hH, hg⟩ := h.at_ i r' hr
    simp only [if_pos hi']
    refine ⟨a', c', by rw [List.getElem?_append_left (by omega)]; exact hx, hsl.same (fun b h1 h2 => ?_), hL, by omega, by rw [hl]; exact hcond hg (by omega)⟩
    rw [hgrow.block b (by simp; omega) (fun e => by have := hg b e.symm; omega), Below.heap_alloc _ _ _ (by omega), hb2.block b (by omega)]
  · have hir : i = rows.length := by
      have := (List.getElem?_eq_some_iff.1 hr).1
      simp at this
      omega
    subst hir
    simp at hr
    subst hr
    simp only [if_neg hi']
    refine ⟨a2, c2, by rw [← hxl]; simp, RwF.same ⟨hi2, fun g hg => (hi2.lt g hg).2⟩ (fun b h1 h2 => ?_), hbase, by omega, by rw [hl]; exact hcond (fun g hg => .inl (h.own.lt _ hg).2) (Nat.le_refl _)⟩
    rw [hgrow.block b (by simp; omega) (fun e => by have := (h.own.lt b e.symm).2; omega), Below.heap_alloc _ _ _ (by omega)]

/-- The first row: the root's own. -/
theorem rownF_start {w w3 : World} (hb : Below ((w.alloc (.cells #[] 3)).alloc (.cells #[.slice (some ⟨w.heap.size, 0, none⟩) 0 0] 97)).heap.size ((w.alloc (.cells #[] 3)).alloc (.cells #[.slice (some ⟨w.heap.size, 0, none⟩) 0 0] 97)) w3) :
    ROwnF w3 w.heap.size [[]] (some ⟨w.heap.size + 1, 0, none⟩) 1 := by
  refine ROwnF.low (w := (w.alloc (.cells #[] 3)).alloc (.cells #[.slice (some ⟨w.heap.size, 0, none⟩) 0 0] 97)) ⟨[.slice (some ⟨w.heap.size, 0, none⟩) 0 0], fun _ => w.heap.size, fun _ => w.heap.size + 1, ⟨rfl, .inr ⟨w.heap.size + 1, 1, #[.slice (some ⟨w.heap.size, 0, none⟩) 0 0], rfl, by omega, ?_, Nat.le_refl _, by decide, rfl, rfl⟩⟩, fun i j h1 h2 => ?_, fun i r hr => ?_⟩ hb (Nat.le_refl _)
  · have := heap_alloc_new (w.alloc (.cells #[] 3)) (.cells #[.slice (some ⟨w.heap.size, 0, none⟩) 0 0] 97)
    simpa using this
  · simp at h2; omega
  · have hi : i = 0 := by
      have := (List.getElem?_eq_some_iff.1 hr).1
      simp at this
      exact this
    subst hi
    simp at hr
    subst hr
    refine ⟨_, 0, rfl, ⟨⟨rfl, .inr ⟨w.heap.size, 0, #[], rfl, Nat.le_refl _, ?_, Nat.le_refl _, by decide, rfl, rfl⟩⟩, fun g hg => by simp [Value.ownBlock] at hg; omega⟩, Nat.le_refl _, by simp, fun g hg => .inr (by simp [Value.ownBlock] at hg; omega)⟩
    rw [Below.heap_alloc _ _ _ (by simp)]
    exact heap_alloc_new _ _
end Go.Proofs.YtbnbogdglffkmaaDoor

/-! RFp: Rows of rows: one row written over. -/
namespace Go.Proofs.YtbnbogdglffkmaaDoor
open Go.RowKit Go.Deep

theorem own_block {W w2 : World} {base : Nat} {e : TypeId} {size : Nat} {v : Value} {n : Nat} {xs : List Value} (h : W.ownsRow base e size v n xs) (hs : ∀ g, v.ownBlock = some g → w2.heap[g]? = W.heap[g]?) : w2.ownsRow base e size v n xs := by
  refine ⟨h.1, ?_⟩
  rcases h.2 with h2 | ⟨g, cap, cur, h3, h4, h5, h6⟩
  · exact .inl h2
  · exact .inr ⟨g, cap, cur, h3, h4, by rw [hs g (by rw [h3]; rfl)]; exact h5, h6⟩

/-- Row j has been written over. -/
theorem RF.mark {w w2 : World} {base : Nat} {cur : List (List Int)} {A : Option Addr} {C : Nat} {xs : List Value} {lo hi : Nat → Nat} {j : Nat} {r r2 : List Int} {a : Option Addr} {c : Nat} (h : RF w base cur A C xs lo hi) (hr : cur[j]? = some r) (hx : xs[j]? = some (Value.slice a r.length c))
    (hl : r2.length = r.length) (hown : IOwn w2 (lo j) r2 a c) (hg : w.grownBy w2 (Value.slice a r.length c).ownBlock) : RF w2 base (cur.set j r2) A C xs lo hi := by
  have hj := (List.getElem?_eq_some_iff.1 hr).1
  obtain ⟨a', c', hx', hw, h1, h2, h3⟩ := h.at_ j r hr
  rw [hx] at hx'
  simp only [Option.some.injEq, Value.slice.injEq] at hx'
  obtain ⟨rfl, _, rfl⟩ := hx'
  have hs := hg.size
  have hb : ∀ g, (Value.slice a r.length c).ownBlock = some g → lo j ≤ g ∧ g < hi j := fun g hgg => ⟨(hw.own.lt g hgg).1, hw.hi g hgg⟩
  refine ⟨?_, fun i k hik hk => h.up i k hik (by rwa [List.length_set] at hk), fun i r' hr' => ?_⟩
  · rw [List.length_set]
    refine own_block h.own fun g hgg => hg.block g (h.own.lt g hgg).2 fun e => ?_
    have := h3 g hgg
    have := hb g e.symm
    omega
  · rw [List.length_set]
    by_cases e : i = j
    · subst e
      rw [List.getElem?_set_self hj] at hr'
      obtain rfl := Option.some.inj hr'
      exact ⟨a, c, by rw [hl]; exact hx, ⟨hown, by rw [hl]; exact hw.hi⟩, h1, by omega, h3⟩
    · rw [List.getElem?_set_ne (fun h => e h.symm)] at hr'
      obtain ⟨a', c', gx, gw, g1, g2, g3⟩ := h.at_ i r' hr'
      refine ⟨a', c', gx, gw.same (fun b hb1 hb2 => hg.block b (by omega) fun eb => ?_), g1, by omega, g3⟩
      have := hb b eb.symm
      have hi' := (List.getElem?_eq_some_iff.1 hr').1
      rcases Nat.lt_or_gt_of_ne e with hij | hij
      · have := h.up i j hij hj; omega
      · have := h.up j i hij hi'; omega
end Go.Proofs.YtbnbogdglffkmaaDoor
