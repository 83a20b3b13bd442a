/- Several texts in one: XM, XMt, XHt, A2t. -/
import Derived.Test.YtlaaihnokoeliabKPla21
import Derived.Test.YtlaaihnokoeliabKPla7

/-! XM: markTermS, markTerm: numbers written over a tree of one's own. -/
namespace Go.Proofs.Ytlaaihnokoeliab
open Go.RowKit Go.Deep

theorem ShS.marked {w w' : World} {lo B : Nat} {a : Option Addr} {k : Fo} (hm : Marked lo B w w') (h : ShS w lo B a k) : ShS w' lo B a k := by
  rcases h with h | ⟨b, e, h⟩
  · exact .inl h
  · exact .inr ⟨b, e, h.marked hm k b 0 rfl⟩

set_option maxRecDepth 100000 in
set_option maxHeartbeats 1000000 in
theorem markTermS_any (N : Nat) : ∀ (a : Option Addr) (c : Nat) (k : Fo) (lo B : Nat) (m : Int) (w : World), ShS w lo B a k → fsz k ≤ N → N ≤ 1048576 → 0 ≤ m → m + 2 * (fsz k : Int) ≤ 10000000 → lo ≤ w.heap.size → B ≤ w.heap.size →
    Calls Try.prog 53 #[.slice a (flen k) c, .int .i64 m] w fun e w' => e = .returned (.int .i64 (m + 2 * (fsz k : Int))) ∧ Marked lo B w w' := by
  induction N using Nat.strongRecOn with
  | _ N ih =>
    intro a c k lo B m w hl hN hN2 hm0 hm1 hlo hB
    have hfl := flen_le (k := k)
    have IH := Lib.hid ih
    have HL := Lib.hid hl
    clear ih hl
    go_enter Try.func53, Try.ntmps53
    go_wp2_with fail
    go_loopw [1, 5] (fun t i wr => ∃ (j : Nat) (l : Int), j ≤ flen k ∧ i = .int .i64 j ∧ t = .int .i64 l ∧ 0 ≤ l ∧ l + 2 * (fsz (fdrop j k) : Int) = m + 2 * (fsz k : Int) ∧ Marked lo B w wr) (fun _ i _ => flen k - (intOf i).toNat)
    case atStart => exact ⟨0, m, by omega, rfl, rfl, hm0, by simp [fdrop], Marked.refl _ _ _⟩
    case round =>
      obtain ⟨j, l, hj, rfl, rfl, hl0, hl1, hmk⟩ := hrel
      have hbs := hmk.below.size
      by_cases hlt : j < flen k
      · obtain ⟨x, y, s', v', kk, hd⟩ := fdrop_succ j k hlt
        have hsh : ∃ b, a = some ⟨b, 0, none⟩ ∧ Sh wr lo B (fdrop j k) b (0 + j * 3) := by
          rcases HL.out.marked hmk with h | ⟨b, e, h⟩
          · rw [h] at hlt; simp [flen] at hlt
          · exact ⟨b, e, h.drop j k b 0⟩
        obtain ⟨b, rfl, hsh⟩ := hsh
        rw [hd, Nat.zero_add] at hsh
        obtain ⟨h1, h2, ⟨x0, hx⟩, ⟨y0, hy⟩, f0, f1, ⟨a', c', hc, hk⟩, _⟩ := hsh
        have hkN := fsz_kid' hd
        rw [hd] at hl1
        simp only [fsz] at hl1
        have hm2 := Marked.set (lo := lo) (B := B) h1 h2 (by omega) hx l
        have hb1 : (wr.setCell ⟨b, j * 3, none⟩ (.int .i64 l)).cell? ⟨b, j * 3 + 1, none⟩ = some (.int .i64 y0) := by rw [World.cell?_setCell_other _ _ _ _ (by intro e; have := congrArg Addr.off e; simp at this)]; exact hy
        have hb2 : (wr.setCell ⟨b, j * 3, none⟩ (.int .i64 l)).frozen? ⟨b, j * 3 + 1, none⟩ = false := by rw [World.frozen?_setCell]; exact f1
        have hm3 := Marked.set (lo := lo) (B := B) h1 h2 (by omega) hb1 (l + 1)
        have hb3 : ((wr.setCell ⟨b, j * 3, none⟩ (.int .i64 l)).setCell ⟨b, j * 3 + 1, none⟩ (.int .i64 (l + 1))).cell? ⟨b, j * 3 + 2, none⟩ = some (.slice a' (flen kk) c') := by rw [World.cell?_setCell_other _ _ _ _ (by intro e; have := congrArg Addr.off e; simp at this), World.cell?_setCell_other _ _ _ _ (by intro e; have := congrArg Addr.off e; simp at this)]; exact hc
        have HM3 := Lib.hid (hmk.trans (hm2.trans hm3))
        have HS3 : Hid (ShS ((wr.setCell ⟨b, j * 3, none⟩ (.int .i64 l)).setCell ⟨b, j * 3 + 1, none⟩ (.int .i64 (l + 1))) lo B a' kk) := ShS.marked (hm2.trans hm3) hk
        have g1 : (0 : Int) ≤ (j : Int) := by omega
        have g2 : (j : Int) < (flen k : Int) := by omega
        clear hm2 hm3 hk hd hc hy hmk
        go_wp2_with fail
        with_reducible refine (IH.out (fsz kk) (by omega) a' c' kk lo B (l + 1 + 1) _ HS3.out (Nat.le_refl _) (by omega) (by omega) (by omega) (by simp; omega) (by simp; omega)).mono ?_
        rintro e w2 ⟨rfl, hmk2⟩
        have HM4 := Lib.hid (HM3.out.trans hmk2)
        clear hmk2 hx hb1 hb2 hb3 f0 f1
        go_wp2_with fail
        go_roundw
        case rel => exact ⟨j + 1, _, by omega, by go_num, rfl, by omega, by omega, HM4.out⟩
        case measure => simp [intOf]; omega
      · have HE : Hid (l = m + 2 * (fsz k : Int)) := by
          rw [fdrop_all (by omega)] at hl1
          simp [fsz] at hl1
          unfold Hid
          omega
        have HMK := Lib.hid hmk
        clear hmk
        go_wp2_with fail
        go_ret
        exact ⟨by rw [← HE.out]; rfl, HMK.out⟩

set_option maxRecDepth 100000 in
set_option maxHeartbeats 1000000 in
theorem markTerm_any (s v : Int) (a : Option Addr) (c : Nat) (k : Fo) (lo B : Nat) (m : Int) (w : World) (hl : ShS w lo B a k) (hN : fsz k ≤ 1048576) (hm0 : 0 ≤ m) (hm1 : m + 2 * (fsz k : Int) ≤ 10000000) (hlo : lo ≤ w.heap.size) (hB : B ≤ w.heap.size) :
    Calls Try.prog 28 #[.agg #[.int .i64 s, .int .i64 v, .slice a (flen k) c], .int .i64 m] w fun e w' => e = .returned (.int .i64 (m + 2 * (fsz k : Int))) ∧ Marked lo B w w' := by
  have HM0 : Hid (Marked lo B w (w.alloc (.cells #[.int .i64 s, .int .i64 v, .slice a (flen k) c] 25))) := (Marked.refl lo B w).more ((Below.refl _ _).alloc (Nat.le_refl _) _) hB hlo
  have HS : Hid (ShS (w.alloc (.cells #[.int .i64 s, .int .i64 v, .slice a (flen k) c] 25)) lo B a k) := hl.marked HM0.out
  clear hl
  go_enter Try.func28, Try.ntmps28
  go_wp2_with fail
  with_reducible refine (markTermS_any (fsz k) a c k lo B m _ HS.out (Nat.le_refl _) hN hm0 hm1 (by simp; omega) (by simp; omega)).mono ?_
  rintro e w2 ⟨rfl, hmk2⟩
  have HM2 := Lib.hid (HM0.out.trans hmk2)
  clear hmk2
  go_wp2_with fail
  go_ret
  exact ⟨rfl, HM2.out⟩
end Go.Proofs.Ytlaaihnokoeliab

/-! XMt: markTermS and heldTermS on a tree of one's own: what is marked is held. -/
namespace Go.Proofs.Ytlaaihnokoeliab
open Go.RowKit Go.Deep

/-- What holds at the head of markTermS's loop: the first j kids are marked, the others are as they were. -/
structure MkAt (w : World) (lo B b : Nat) (k : Fo) (Ls : Nat → Nat) (m : Int) (j : Nat) (wr : World) : Prop where
  marked : Marked lo B w wr
  done : ∀ i, i < j → HdAt wr (Ls i) (Ls (i + 1)) k b 0 m i
  todo : ∀ i, j ≤ i → i < flen k → TrAt wr k b 0 Ls i

theorem MkAt.step {w wr w2 : World} {lo B b : Nat} {k : Fo} {Ls : Nat → Nat} {m : Int} {j x y : Nat} {s v : Int} {kk : Fo} {a : Option Addr} {c : Nat} (h : MkAt w lo B b k Ls m j wr) (hj : j < flen k) (hLs : ∀ i, i < flen k → Ls i ≤ Ls (i + 1)) (hLB : Ls (flen k) ≤ B) (hB : B ≤ w.heap.size)
    (hlo : lo ≤ b) (hb : b < Ls 0) (hd : fdrop j k = .node x y (s, v) kk (fdrop (j + 1) k)) (hc2 : wr.cell? ⟨b, j * 3 + 2, none⟩ = some (.slice a (flen kk) c)) {u u' : Value} (hu : wr.cell? ⟨b, j * 3, none⟩ = some u) (hu' : wr.cell? ⟨b, j * 3 + 1, none⟩ = some u')
    (hmk : Marked (Ls j) (Ls (j + 1)) ((wr.setCell ⟨b, j * 3, none⟩ (.int .i64 (cnt k m j))).setCell ⟨b, j * 3 + 1, none⟩ (.int .i64 (cnt k m j + 1))) w2) (hhd : HdS w2 (Ls j) (Ls (j + 1)) a kk (cnt k m j + 2)) : MkAt w lo B b k Ls m (j + 1) w2 := by
  have hmono : ∀ i i', i ≤ i' → i' ≤ flen k → Ls i ≤ Ls i' := fun i i' h1 h2 => by
    have := Ls_mono hLs (i' - i) i (by omega)
    rwa [show i + (i' - i) = i' from by omega] at this
  have h0j := hmono 0 j (Nat.zero_le _) (by omega)
  have hjj := hLs j hj
  have hjn := hmono (j + 1) (flen k) (by omega) (Nat.le_refl _)
  have hwr : w.heap.size ≤ wr.heap.size := h.marked.below.size
  have hbB : b < B := by omega
  -- other blocks
  have hsame : ∀ q, q ≠ b → (q < Ls j ∨ Ls (j + 1) ≤ q) → q < wr.heap.size → w2.heap[q]? = wr.heap[q]? := fun q h1 h2 h3 => by
    have e : ((wr.setCell ⟨b, j * 3, none⟩ (.int .i64 (cnt k m j))).setCell ⟨b, j * 3 + 1, none⟩ (.int .i64 (cnt k m j + 1))).heap[q]? = wr.heap[q]? := by
      rw [Below.heap_setCell _ _ _ _ (fun e => h1 (by simpa using e)), Below.heap_setCell _ _ _ _ (fun e => h1 (by simpa using e))]
    rcases h2 with h2 | h2
    · rw [hmk.below.block q h2, e]
    · rw [hmk.far q h2 (by simpa using h3), e]
  -- the row's own cells
  have hcell : ∀ o, o ≠ j * 3 → o ≠ j * 3 + 1 → w2.cell? ⟨b, o, none⟩ = wr.cell? ⟨b, o, none⟩ := fun o h1 h2 => by
    rw [hmk.below.cell (by simp; omega), World.cell?_setCell_other _ _ _ _ (ne_offT (by omega)), World.cell?_setCell_other _ _ _ _ (ne_offT (by omega))]
  have hfro : ∀ o, w2.frozen? ⟨b, o, none⟩ = wr.frozen? ⟨b, o, none⟩ := fun o => by
    rw [hmk.below.frozen (by simp; omega), World.frozen?_setCell, World.frozen?_setCell]
  refine ⟨?_, fun i hi => ?_, fun i h1 h2 => ?_⟩
  · have m1 := Marked.set (lo := lo) (B := B) hlo hbB (by omega) hu (cnt k m j)
    have m2 := Marked.set (lo := lo) (B := B) (w := wr.setCell ⟨b, j * 3, none⟩ (.int .i64 (cnt k m j))) (o := j * 3 + 1) hlo hbB (by omega) (by rw [World.cell?_setCell_other _ _ _ _ (ne_offT (by omega))]; exact hu') (cnt k m j + 1)
    exact h.marked.trans (m1.trans (m2.trans (hmk.mono (by omega) (by omega) (by simp; omega))))
  · by_cases hij : i = j
    · subst hij
      refine ⟨x, y, s, v, kk, a, c, hd, ?_, ?_, ?_, hhd⟩
      · rw [Nat.zero_add, hmk.below.cell (by simp; omega), World.cell?_setCell_other _ _ _ _ (ne_offT (by omega))]
        exact World.cell?_setCell_same _ _ _ hu
      · rw [Nat.zero_add, hmk.below.cell (by simp; omega)]
        exact World.cell?_setCell_same _ _ _ (by rw [World.cell?_setCell_other _ _ _ _ (ne_offT (by omega))]; exact hu')
      · rw [Nat.zero_add, hcell _ (by omega) (by omega)]; exact hc2
    · obtain ⟨x', y', s', v', kk', a', c', e, d1, d2, d3, d4⟩ := h.done i (by omega)
      have g1 := hmono 0 i (Nat.zero_le _) (by omega)
      have g2 := hmono (i + 1) j (by omega) (by omega)
      refine ⟨x', y', s', v', kk', a', c', e, ?_, ?_, ?_, d4.same fun q q1 q2 => hsame q (by omega) (.inl (by omega)) (by omega)⟩
      · rw [Nat.zero_add] at d1 ⊢; rw [hcell _ (by omega) (by omega)]; exact d1
      · rw [Nat.zero_add] at d2 ⊢; rw [hcell _ (by omega) (by omega)]; exact d2
      · rw [Nat.zero_add] at d3 ⊢; rw [hcell _ (by omega) (by omega)]; exact d3
  · obtain ⟨x', y', s', v', kk', a', c', e, d1, d2, d3, d4, d5, d6⟩ := h.todo i (by omega) h2
    have g1 := hmono 0 i (Nat.zero_le _) (by omega)
    have g2 := hmono (j + 1) i (by omega) (by omega)
    have g3 := hmono (i + 1) (flen k) (by omega) (Nat.le_refl _)
    rw [Nat.zero_add] at d1 d2 d3 d4 d5
    refine ⟨x', y', s', v', kk', a', c', e, ?_, ?_, ?_, ?_, ?_, d6.same fun q q1 q2 => hsame q (by omega) (.inr (by omega)) (by omega)⟩
    · rw [Nat.zero_add, hcell _ (by omega) (by omega)]; exact d1
    · rw [Nat.zero_add, hcell _ (by omega) (by omega)]; exact d2
    · rw [Nat.zero_add, hfro]; exact d3
    · rw [Nat.zero_add, hfro]; exact d4
    · rw [Nat.zero_add, hcell _ (by omega) (by omega)]; exact d5

set_option maxRecDepth 100000 in
set_option maxHeartbeats 1000000 in
theorem markTree_any (N : Nat) : ∀ (a : Option Addr) (c : Nat) (k : Fo) (lo B : Nat) (m : Int) (w : World), TrS w lo B a k → fsz k ≤ N → N ≤ 1048576 → 0 ≤ m → m + 2 * (fsz k : Int) ≤ 10000000 → lo ≤ B → B ≤ w.heap.size →
    Calls Try.prog 53 #[.slice a (flen k) c, .int .i64 m] w fun e w' => e = .returned (.int .i64 (m + 2 * (fsz k : Int))) ∧ Marked lo B w w' ∧ HdS w' lo B a k m := by
  induction N using Nat.strongRecOn with
  | _ N ih =>
    intro a c k lo B m w hl hN hN2 hm0 hm1 hlo hB
    have hfl := flen_le (k := k)
    have IH := Lib.hid ih
    clear ih
    rcases hl with rfl | ⟨b, rfl, hb1, hb2, htr⟩
    · simp only [flen, fsz]
      go_enter Try.func53, Try.ntmps53
      go_wp2_with fail
      go_loopw [1, 5] (fun t i wr => i = .int .i64 0 ∧ t = .int .i64 m ∧ wr = w) (fun _ _ _ => 0)
      case atStart => exact ⟨rfl, rfl, rfl⟩
      case round =>
        obtain ⟨rfl, rfl, rfl⟩ := hrel
        go_wp2_with fail
        go_ret
        exact ⟨by simp, Marked.refl _ _ _, .inl rfl⟩
    · obtain ⟨Ls, hL0, hLs, hLB, _, hall⟩ := htr.at
      have HLS := Lib.hid hLs
      have HST : Hid (MkAt w lo B b k Ls m 0 w) := ⟨Marked.refl _ _ _, fun i hi => by omega, fun i _ hi => hall i hi⟩
      have hb0 : b < Ls 0 := by omega
      clear hLs hall htr
      go_enter Try.func53, Try.ntmps53
      go_wp2_with fail
      go_loopw [1, 5] (fun t i wr => ∃ j : Nat, j ≤ flen k ∧ i = .int .i64 j ∧ t = .int .i64 (cnt k m j) ∧ MkAt w lo B b k Ls m j wr) (fun _ i _ => flen k - (intOf i).toNat)
      case atStart => exact ⟨0, by omega, rfl, by simp [cnt, fdrop], HST.out⟩
      case round =>
        clear HST
        obtain ⟨j, hj, rfl, rfl, hat⟩ := hrel
        by_cases hlt : j < flen k
        · obtain ⟨x, y, s', v', kk, a', c', hd, ⟨z, hx⟩, ⟨z', hy⟩, f0, f1, hc, hk⟩ := hat.todo j (Nat.le_refl _) hlt
          rw [Nat.zero_add] at hx hy f0 f1 hc
          have hkN := fsz_kid' hd
          have hdr := fsz_drop' j k
          have hLj := HLS.out j hlt
          have h0j : Ls 0 ≤ Ls j := by have := Ls_mono HLS.out j 0 (by omega); rwa [Nat.zero_add] at this
          have hjn : Ls (j + 1) ≤ Ls (flen k) := by have := Ls_mono HLS.out (flen k - (j + 1)) (j + 1) (by omega); rwa [show j + 1 + (flen k - (j + 1)) = flen k from by omega] at this
          have hwr := hat.marked.below.size
          have hcn : cnt k m (j + 1) = cnt k m j + 2 + 2 * (fsz kk : Int) := by
            unfold cnt
            rw [hd]
            simp only [fsz]
            push_cast
            omega
          have hc0 : 0 ≤ cnt k m j := by unfold cnt; omega
          have hc1 : cnt k m j + 2 + 2 * (fsz kk : Int) ≤ 10000000 := by
            rw [← hcn]
            have := fsz_drop' (j + 1) k
            unfold cnt
            omega
          have HCN := Lib.hid hcn
          have HSTEP : Hid (∀ w2, Marked (Ls j) (Ls (j + 1)) ((wr.setCell ⟨b, j * 3, none⟩ (.int .i64 (cnt k m j))).setCell ⟨b, j * 3 + 1, none⟩ (.int .i64 (cnt k m j + 1))) w2 → HdS w2 (Ls j) (Ls (j + 1)) a' kk (cnt k m j + 2) → MkAt w lo B b k Ls m (j + 1) w2) := fun w2 h1 h2 => hat.step hlt HLS.out hLB hB hb1 hb0 hd hc hx hy h1 h2
          have HK2 : Hid (TrS ((wr.setCell ⟨b, j * 3, none⟩ (.int .i64 (cnt k m j))).setCell ⟨b, j * 3 + 1, none⟩ (.int .i64 (cnt k m j + 1))) (Ls j) (Ls (j + 1)) a' kk) :=
            hk.same ((Same.setCell (fun _ _ _ => rfl) (.inl (by simp; omega)) _).setCell (.inl (by simp; omega)) _)
          have hb1' : (wr.setCell ⟨b, j * 3, none⟩ (.int .i64 (cnt k m j))).cell? ⟨b, j * 3 + 1, none⟩ = some (.int .i64 z') := by rw [World.cell?_setCell_other _ _ _ _ (ne_offT (by omega))]; exact hy
          have hb2' : (wr.setCell ⟨b, j * 3, none⟩ (.int .i64 (cnt k m j))).frozen? ⟨b, j * 3 + 1, none⟩ = false := by rw [World.frozen?_setCell]; exact f1
          have hb3' : ((wr.setCell ⟨b, j * 3, none⟩ (.int .i64 (cnt k m j))).setCell ⟨b, j * 3 + 1, none⟩ (.int .i64 (cnt k m j + 1))).cell? ⟨b, j * 3 + 2, none⟩ = some (.slice a' (flen kk) c') := by rw [World.cell?_setCell_other _ _ _ _ (ne_offT (by omega)), World.cell?_setCell_other _ _ _ _ (ne_offT (by omega))]; exact hc
          have g1 : (0 : Int) ≤ (j : Int) := by omega
          have g2 : (j : Int) < (flen k : Int) := by omega
          have HX : Hid (∃ z, z = cnt k m j) := ⟨_, rfl⟩
          clear hd hk hat hcn hc hy
          generalize cnt k m j = l at *
          go_wp2_with fail
          with_reducible refine (IH.out (fsz kk) (by omega) a' c' kk (Ls j) (Ls (j + 1)) (l + 1 + 1) _ HK2.out (Nat.le_refl _) (by omega) (by omega) (by omega) hLj (by simp; omega)).mono ?_
          rintro e w2 ⟨rfl, hmk2, hhd2⟩
          have e2 : l + 1 + 1 = l + 2 := by omega
          rw [e2] at hhd2
          have HM4 := Lib.hid (HSTEP.out w2 hmk2 hhd2)
          clear hmk2 hhd2 hx hb1' hb2' hb3' f0 f1 HSTEP
          go_wp2_with fail
          go_roundw
          case rel => exact ⟨j + 1, by omega, by go_num, by rw [HCN.out], HM4.out⟩
          case measure => simp [intOf]; omega
        · have hje : j = flen k := by omega
          subst hje
          have HE : Hid (cnt k m (flen k) = m + 2 * (fsz k : Int)) := by
            unfold Hid cnt
            rw [fdrop_all (Nat.le_refl _)]
            simp [fsz]
          have HF : Hid (HdS wr lo B (some ⟨b, 0, none⟩) k m) := .inr ⟨b, rfl, hd_of_all k b 0 m hb1 hb2 fun i hi => by
            obtain ⟨x', y', s', v', kk', a', c', e, d1, d2, d3, d4⟩ := hat.done i hi
            have q1 : Ls 0 ≤ Ls i := by have := Ls_mono HLS.out i 0 (by omega); rwa [Nat.zero_add] at this
            have q2 : Ls (i + 1) ≤ Ls (flen k) := by have := Ls_mono HLS.out (flen k - (i + 1)) (i + 1) (by omega); rwa [show i + 1 + (flen k - (i + 1)) = flen k from by omega] at this
            exact ⟨x', y', s', v', kk', a', c', e, d1, d2, d3, d4.mono (by omega) (by omega)⟩⟩
          have HMK := Lib.hid hat.marked
          clear hat
          go_wp2_with fail
          go_ret
          exact ⟨by rw [← HE.out]; rfl, HMK.out, HF.out⟩
end Go.Proofs.Ytlaaihnokoeliab

/-! XHt: heldTermS, heldTerm: a tree that counts up is held; markTerm on a tree. -/
namespace Go.Proofs.Ytlaaihnokoeliab
open Go.RowKit Go.Deep

set_option maxRecDepth 100000 in
set_option maxHeartbeats 1000000 in
theorem heldTermS_any (N : Nat) : ∀ (a : Option Addr) (c : Nat) (k : Fo) (lo B : Nat) (m : Int) (w : World), HdS w lo B a k m → fsz k ≤ N → N ≤ 1048576 → 0 ≤ m → m + 2 * (fsz k : Int) ≤ 10000000 → B ≤ w.heap.size →
    Calls Try.prog 54 #[.slice a (flen k) c, .int .i64 m] w fun e w' => e = .returned (.int .i64 (m + 2 * (fsz k : Int))) ∧ Below w.heap.size w w' := by
  induction N using Nat.strongRecOn with
  | _ N ih =>
    intro a c k lo B m w hl hN hN2 hm0 hm1 hB
    have hfl := flen_le (k := k)
    have IH := Lib.hid ih
    have HL := Lib.hid hl
    clear ih hl
    go_enter Try.func54, Try.ntmps54
    go_wp2_with fail
    go_loopw [1, 5] (fun t i wr => ∃ j : Nat, j ≤ flen k ∧ i = .int .i64 j ∧ t = .int .i64 (cnt k m j) ∧ Below w.heap.size w wr) (fun _ i _ => flen k - (intOf i).toNat)
    case atStart => exact ⟨0, by omega, rfl, by simp [cnt, fdrop], Below.refl _ _⟩
    case round =>
      obtain ⟨j, hj, rfl, rfl, hbl⟩ := hrel
      have hbs := hbl.size
      by_cases hlt : j < flen k
      · have hb : ∃ b, a = some ⟨b, 0, none⟩ ∧ HdAt wr lo B k b 0 m j := by
          rcases HL.out.same (Same.of_below (hbl.mono hB)) with h | ⟨b, e, h⟩
          · rw [h] at hlt; simp [flen] at hlt
          · exact ⟨b, e, h.at j hlt⟩
        obtain ⟨b, rfl, x, y, s', v', kk, a', c', hd, hx, hy, hc, hk⟩ := hb
        rw [Nat.zero_add] at hx hy hc
        have hkN := fsz_kid' hd
        have hdr := fsz_drop' j k
        have hcn : cnt k m (j + 1) = cnt k m j + 2 + 2 * (fsz kk : Int) := by
          unfold cnt
          rw [hd]
          simp only [fsz]
          push_cast
          omega
        have hc0 : 0 ≤ cnt k m j := by unfold cnt; omega
        have hc1 : cnt k m j + 2 + 2 * (fsz kk : Int) ≤ 10000000 := by
          rw [← hcn]
          have := fsz_drop' (j + 1) k
          unfold cnt
          omega
        have HCN := Lib.hid hcn
        have HK := Lib.hid hk
        have HBL := Lib.hid hbl
        have g1 : (0 : Int) ≤ (j : Int) := by omega
        have g2 : (j : Int) < (flen k : Int) := by omega
        clear hd hk hcn hbl
        generalize cnt k m j = l at *
        have HK' : Hid (HdS wr lo B a' kk (l + 1 + 1)) := by rw [show l + 1 + 1 = l + 2 from by omega]; exact HK.out
        have x1 : (l != l) = false := by simp
        have x2 : ((l + 1) != (l + 1)) = false := by simp
        have x3 : decide (l + 1 + 1 + 2 * (fsz kk : Int) < 0) = false := decide_eq_false (by omega)
        go_wp2_with fail
        with_reducible refine (IH.out (fsz kk) (by omega) a' c' kk lo B (l + 1 + 1) _ HK'.out (Nat.le_refl _) (by omega) (by omega) (by omega) (by omega)).mono ?_
        rintro e w2 ⟨rfl, hb2⟩
        have HB2 := Lib.hid (HBL.out.trans (hb2.mono hbs))
        clear hb2 hx hy hc
        go_wp2_with fail
        go_roundw
        case rel => exact ⟨j + 1, by omega, by go_num, by rw [HCN.out, show l + 1 + 1 = l + 2 from by omega], HB2.out⟩
        case measure => simp [intOf]; omega
      · have hje : j = flen k := by omega
        subst hje
        have HE : Hid (cnt k m (flen k) = m + 2 * (fsz k : Int)) := by
          unfold Hid cnt
          rw [fdrop_all (Nat.le_refl _)]
          simp [fsz]
        go_wp2_with fail
        go_ret
        exact ⟨by rw [← HE.out]; rfl, hbl⟩

set_option maxRecDepth 100000 in
set_option maxHeartbeats 1000000 in
theorem heldTerm_any (s v : Int) (a : Option Addr) (c : Nat) (k : Fo) (lo B : Nat) (m : Int) (w : World) (hl : HdS w lo B a k m) (hN : fsz k ≤ 1048576) (hm0 : 0 ≤ m) (hm1 : m + 2 * (fsz k : Int) ≤ 10000000) (hB : B ≤ w.heap.size) :
    Calls Try.prog 31 #[.agg #[.int .i64 s, .int .i64 v, .slice a (flen k) c], .int .i64 m] w fun e w' => e = .returned (.int .i64 (m + 2 * (fsz k : Int))) ∧ Below w.heap.size w w' := by
  have HB0 : Hid (Below w.heap.size w (w.alloc (.cells #[.int .i64 s, .int .i64 v, .slice a (flen k) c] 25))) := (Below.refl _ _).alloc (Nat.le_refl _) _
  have HS : Hid (HdS (w.alloc (.cells #[.int .i64 s, .int .i64 v, .slice a (flen k) c] 25)) lo B a k m) := hl.same (Same.of_below (HB0.out.mono hB))
  have x3 : decide (m + 2 * (fsz k : Int) < 0) = false := decide_eq_false (by omega)
  clear hl
  go_enter Try.func31, Try.ntmps31
  go_wp2_with fail
  with_reducible refine (heldTermS_any (fsz k) a c k lo B m _ HS.out (Nat.le_refl _) hN hm0 hm1 (by simp; omega)).mono ?_
  rintro e w2 ⟨rfl, hb2⟩
  have HB2 := Lib.hid (HB0.out.trans (hb2.mono (by simp)))
  clear hb2
  go_wp2_with fail
  go_ret
  exact ⟨rfl, HB2.out⟩

set_option maxRecDepth 100000 in
set_option maxHeartbeats 1000000 in
theorem markTermT_any (s v : Int) (a : Option Addr) (c : Nat) (k : Fo) (lo B : Nat) (m : Int) (w : World) (hl : TrS w lo B a k) (hN : fsz k ≤ 1048576) (hm0 : 0 ≤ m) (hm1 : m + 2 * (fsz k : Int) ≤ 10000000) (hlo : lo ≤ B) (hB : B ≤ w.heap.size) :
    Calls Try.prog 28 #[.agg #[.int .i64 s, .int .i64 v, .slice a (flen k) c], .int .i64 m] w fun e w' => e = .returned (.int .i64 (m + 2 * (fsz k : Int))) ∧ Marked lo B w w' ∧ HdS w' lo B a k m := by
  have HM0 : Hid (Marked lo B w (w.alloc (.cells #[.int .i64 s, .int .i64 v, .slice a (flen k) c] 25))) := (Marked.refl lo B w).more ((Below.refl _ _).alloc (Nat.le_refl _) _) hB (by omega)
  have HS : Hid (TrS (w.alloc (.cells #[.int .i64 s, .int .i64 v, .slice a (flen k) c] 25)) lo B a k) := hl.same (Same.of_below ((Below.refl _ _).alloc (by omega) _))
  clear hl
  go_enter Try.func28, Try.ntmps28
  go_wp2_with fail
  with_reducible refine (markTree_any (fsz k) a c k lo B m _ HS.out (Nat.le_refl _) hN hm0 hm1 hlo (by simp; omega)).mono ?_
  rintro e w2 ⟨rfl, hmk2, hhd2⟩
  have HM2 := Lib.hid (HM0.out.trans hmk2)
  have HH2 := Lib.hid hhd2
  clear hmk2 hhd2
  go_wp2_with fail
  go_ret
  exact ⟨rfl, HM2.out, HH2.out⟩
end Go.Proofs.Ytlaaihnokoeliab

/-! A2t: The term that a node stands for, made anew, is a tree of one's own. -/
namespace Go.Proofs.Ytlaaihnokoeliab
open Go.RowKit Go.Deep
attribute [local go_sem ↓] Go.wp_at_zero Go.wp_at_succ

/-- The terms k lie there as a tree of one's own. -/
def TX (w : World) (lo B : Nat) (a : Option Addr) (k : Fo) : Prop := Sl w lo B a k ∧ TrS w lo B a k
theorem TX.same {w w' : World} {lo B : Nat} {a : Option Addr} {k : Fo} (hb : Same lo B w w') (h : TX w lo B a k) : TX w' lo B a k := ⟨h.1.same hb, h.2.same hb⟩
theorem TX.mono {w : World} {lo lo' B B' : Nat} {a : Option Addr} {k : Fo} (hlo : lo' ≤ lo) (hB : B ≤ B') (h : TX w lo B a k) : TX w lo' B' a k := ⟨h.1.mono hlo hB, h.2.mono hlo hB⟩

def TmPostT (s v : Int) (k : Fo) (w : World) (e : Ending) (w' : World) : Prop :=
  ∃ a c, e = .returned (.agg #[.int .i64 s, .int .i64 v, .slice a (flen k) c]) ∧ Below w.heap.size w w' ∧ TX w' w.heap.size w'.heap.size a k

set_option maxRecDepth 100000 in
set_option maxHeartbeats 1000000 in
theorem varTermT_any (v : Int) (w : World) : Calls Try.prog 113 #[.int .i64 v] w (TmPostT 0 v .nil w) := by
  go_enter Try.func113, Try.ntmps113
  go_wp2_with fail
  refine bodyPost_ret (v := .agg #[.int .i64 0, .int .i64 v, .slice none 0 0]) ?_ rfl ⟨none, 0, rfl, (Below.refl _ _).alloc (Nat.le_refl _) _, ⟨.inl rfl, .inl rfl⟩⟩
  simp [results, Try.results113, go_sem]

/-- What holds at the head of term's loop: the first j kids are made. -/
structure TmAtT (w : World) (s : Int) (k : Fo) (j : Nat) (wr : World) : Prop where
  below : Below w.heap.size w wr
  size : w.heap.size + 4 ≤ wr.heap.size
  t0 : wr.cell? ⟨w.heap.size + 1 + 1, 0, none⟩ = some (.int .i64 s)
  t1 : wr.cell? ⟨w.heap.size + 1 + 1, 1, none⟩ = some (.int .i64 0)
  t2 : wr.cell? ⟨w.heap.size + 1 + 1, 2, none⟩ = some (.slice (some ⟨w.heap.size + 1 + 1 + 1, 0, none⟩) (flen k) (flen k))
  r0 : wr.cell? ⟨w.heap.size + 1, 0, none⟩ = some (.int .i64 0)
  r1 : wr.cell? ⟨w.heap.size + 1, 1, none⟩ = some (.int .i64 0)
  r2 : wr.cell? ⟨w.heap.size + 1, 2, none⟩ = some (.slice none 0 0)
  q0 : wr.frozen? ⟨w.heap.size + 1, 0, none⟩ = false
  q1 : wr.frozen? ⟨w.heap.size + 1, 1, none⟩ = false
  q2 : wr.frozen? ⟨w.heap.size + 1, 2, none⟩ = false
  row : ∃ f : Nat → Value, wr.rowIs (w.heap.size + 1 + 1 + 1) 25 (flen k * 3) f ∧ ∃ Ls : Nat → Nat, Ls 0 = w.heap.size + 4 ∧ (∀ i, i < j → Ls i ≤ Ls (i + 1)) ∧ Ls j ≤ wr.heap.size ∧ ∀ i, i < j → ∃ x y s v kk a c, fdrop i k = .node x y (s, v) kk (fdrop (i + 1) k) ∧
    f (i * 3) = .int .i64 s ∧ f (i * 3 + 1) = .int .i64 v ∧ f (i * 3 + 2) = .slice a (flen kk) c ∧ TX wr (Ls i) (Ls (i + 1)) a kk

theorem TmAtT.start (w : World) (s : Int) (k : Fo) (x : Value) (y : Value) : TmAtT w s k 0 ((((w.alloc (.cells #[x, y] 104)).alloc (.cells #[.int .i64 0, .int .i64 0, .slice none 0 0] 25)).alloc (.cells #[.int .i64 s, .int .i64 0, .slice (some ⟨w.heap.size + 1 + 1 + 1, 0, none⟩) (flen k) (flen k)] 25)).alloc (.cells (madeCells #[.int .i64 0, .int .i64 0, .slice none 0 0] (flen k * 3)) 25)) := by
  refine ⟨((((Below.refl _ _).alloc (Nat.le_refl _) _).alloc (by simp) _).alloc (by simp; omega) _).alloc (by simp; omega) _, by simp, ?_, ?_, ?_, ?_, ?_, ?_, ?_, ?_, ?_, ?_⟩
  · rw [World.cell?_alloc_lt _ _ _ (by simp), World.cell?_alloc_at _ _ _ _ (by simp)]; rfl
  · rw [World.cell?_alloc_lt _ _ _ (by simp), World.cell?_alloc_at _ _ _ _ (by simp)]; rfl
  · rw [World.cell?_alloc_lt _ _ _ (by simp), World.cell?_alloc_at _ _ _ _ (by simp)]; rfl
  · rw [World.cell?_alloc_lt _ _ _ (by simp), World.cell?_alloc_lt _ _ _ (by simp), World.cell?_alloc_at _ _ _ _ (by simp)]; rfl
  · rw [World.cell?_alloc_lt _ _ _ (by simp), World.cell?_alloc_lt _ _ _ (by simp), World.cell?_alloc_at _ _ _ _ (by simp)]; rfl
  · rw [World.cell?_alloc_lt _ _ _ (by simp), World.cell?_alloc_lt _ _ _ (by simp), World.cell?_alloc_at _ _ _ _ (by simp)]; rfl
  · rw [World.frozen?_alloc_past _ _ _ (by simp), World.frozen?_alloc_past _ _ _ (by simp), World.frozen?_alloc_at _ _ _ _ (by simp)]
  · rw [World.frozen?_alloc_past _ _ _ (by simp), World.frozen?_alloc_past _ _ _ (by simp), World.frozen?_alloc_at _ _ _ _ (by simp)]
  · rw [World.frozen?_alloc_past _ _ _ (by simp), World.frozen?_alloc_past _ _ _ (by simp), World.frozen?_alloc_at _ _ _ _ (by simp)]
  · refine ⟨fun i => #[Value.int .i64 0, .int .i64 0, .slice none 0 0][i % 3]!, ?_, fun _ => w.heap.size + 4, rfl, fun i hi => by omega, by simp, fun i hi => by omega⟩
    have := World.rowIs_alloc (((w.alloc (.cells #[x, y] 104)).alloc (.cells #[.int .i64 0, .int .i64 0, .slice none 0 0] 25)).alloc (.cells #[.int .i64 s, .int .i64 0, .slice (some ⟨w.heap.size + 1 + 1 + 1, 0, none⟩) (flen k) (flen k)] 25)) (madeCells #[.int .i64 0, .int .i64 0, .slice none 0 0] (flen k * 3)) 25 (fun i => #[Value.int .i64 0, .int .i64 0, .slice none 0 0][i % 3]!) (fun i hi => by
      rw [size_madeCells] at hi
      exact made_atA _ _ _ hi)
    rw [size_madeCells] at this
    simp only [World.size_alloc] at this
    exact this
theorem TmAtT.step {w wr w2 : World} {s0 : Int} {k : Fo} {j x y : Nat} {s v : Int} {kk : Fo} {a : Option Addr} {c : Nat} (h : TmAtT w s0 k j wr) (hd : fdrop j k = .node x y (s, v) kk (fdrop (j + 1) k)) (hb : Below wr.heap.size wr w2) (hl : TX w2 wr.heap.size w2.heap.size a kk) :
    TmAtT w s0 k (j + 1) (((w2.setCell ⟨w.heap.size + 1 + 1 + 1, j * 3, none⟩ (.int .i64 s)).setCell ⟨w.heap.size + 1 + 1 + 1, j * 3 + 1, none⟩ (.int .i64 v)).setCell ⟨w.heap.size + 1 + 1 + 1, j * 3 + 2, none⟩ (.slice a (flen kk) c)) := by
  have hs := h.size
  have hs2 := hb.size
  obtain ⟨f, hf, Ls, hL0, hL1, hL2, hall⟩ := h.row
  have hf2 := hf.of_block (hb.block _ (by omega))
  have hsame : ∀ {L H : Nat}, w.heap.size + 3 < L → Same L H w2 (((w2.setCell ⟨w.heap.size + 1 + 1 + 1, j * 3, none⟩ (.int .i64 s)).setCell ⟨w.heap.size + 1 + 1 + 1, j * 3 + 1, none⟩ (.int .i64 v)).setCell ⟨w.heap.size + 1 + 1 + 1, j * 3 + 2, none⟩ (.slice a (flen kk) c)) := fun hL =>
    ((Same.setCell (fun _ _ _ => rfl) (.inl (by simp; omega)) _).setCell (.inl (by simp; omega)) _).setCell (.inl (by simp; omega)) _
  have hcell : ∀ {q : Addr} {u : Value}, wr.cell? q = some u → q.block < w.heap.size + 3 → (((w2.setCell ⟨w.heap.size + 1 + 1 + 1, j * 3, none⟩ (.int .i64 s)).setCell ⟨w.heap.size + 1 + 1 + 1, j * 3 + 1, none⟩ (.int .i64 v)).setCell ⟨w.heap.size + 1 + 1 + 1, j * 3 + 2, none⟩ (.slice a (flen kk) c)).cell? q = some u := fun {q u} hq hlt => by
    rw [World.cell?_setCell_other _ _ _ _ (by intro h'; have := congrArg Addr.block h'; simp at this; omega), World.cell?_setCell_other _ _ _ _ (by intro h'; have := congrArg Addr.block h'; simp at this; omega), World.cell?_setCell_other _ _ _ _ (by intro h'; have := congrArg Addr.block h'; simp at this; omega), hb.cell (World.block_lt_of_cell? _ _ hq)]
    exact hq
  have hfro : ∀ {q : Addr}, wr.frozen? q = false → q.block < w.heap.size + 3 → (((w2.setCell ⟨w.heap.size + 1 + 1 + 1, j * 3, none⟩ (.int .i64 s)).setCell ⟨w.heap.size + 1 + 1 + 1, j * 3 + 1, none⟩ (.int .i64 v)).setCell ⟨w.heap.size + 1 + 1 + 1, j * 3 + 2, none⟩ (.slice a (flen kk) c)).frozen? q = false := fun {q} hq hlt => by
    rw [World.frozen?_setCell, World.frozen?_setCell, World.frozen?_setCell, hb.frozen (by omega)]
    exact hq
  refine ⟨(((h.below.trans (hb.mono (by omega))).setCell (by simp; omega) _).setCell (by simp; omega) _).setCell (by simp; omega) _, by simp; omega, hcell h.t0 (by simp), hcell h.t1 (by simp), hcell h.t2 (by simp), hcell h.r0 (by simp), hcell h.r1 (by simp), hcell h.r2 (by simp), hfro h.q0 (by simp), hfro h.q1 (by simp), hfro h.q2 (by simp), ⟨_, ((hf2.set _ _).set _ _).set _ _, fun i => if i ≤ j then Ls i else w2.heap.size, by simp [hL0], fun i hi => ?_, by simp [show ¬(j + 1 ≤ j) from by omega], fun i hi => ?_⟩⟩
  · by_cases hij : i = j
    · subst hij
      dsimp only
      rw [if_pos (Nat.le_refl _), if_neg (by omega)]
      omega
    · dsimp only
      rw [if_pos (by omega), if_pos (by omega)]
      exact hL1 i (by omega)
  by_cases hij : i = j
  · subst hij
    refine ⟨x, y, s, v, kk, a, c, hd, by simp, by simp, by simp, ?_⟩
    simp only [Nat.le_refl, if_true, show ¬(i + 1 ≤ i) from by omega, if_false]
    have h0 : Ls 0 ≤ Ls i := by have := Ls_mono hL1 i 0 (by omega); rwa [Nat.zero_add] at this
    exact (hl.same (hsame (by omega))).mono (by omega) (Nat.le_refl _)
  · obtain ⟨x', y', s', v', k', a', c', e, h0, h1, h2, hsl⟩ := hall i (by omega)
    have q0 : Ls 0 ≤ Ls i := by have := Ls_mono hL1 i 0 (by omega); rwa [Nat.zero_add] at this
    have q1 : Ls (i + 1) ≤ Ls j := by have := Ls_mono hL1 (j - (i + 1)) (i + 1) (by omega); rwa [show i + 1 + (j - (i + 1)) = j from by omega] at this
    refine ⟨x', y', s', v', k', a', c', e, ?_, ?_, ?_, ?_⟩
    · rw [if_neg (by omega), if_neg (by omega), if_neg (by omega)]; exact h0
    · rw [if_neg (by omega), if_neg (by omega), if_neg (by omega)]; exact h1
    · rw [if_neg (by omega), if_neg (by omega), if_neg (by omega)]; exact h2
    · dsimp only
      rw [if_pos (show i ≤ j by omega), if_pos (show i + 1 ≤ j by omega)]
      exact (hsl.same (fun b h1 h2 => hb.block b (by omega))).same (hsame (by omega))
theorem TmAtT.sl {w wr : World} {s : Int} {k : Fo} {j : Nat} (h : TmAtT w s k j wr) (hj : flen k = j) : TX wr (w.heap.size + 3) wr.heap.size (some ⟨w.heap.size + 1 + 1 + 1, 0, none⟩) k := by
  subst hj
  have hs := h.size
  obtain ⟨f, hf, Ls, hL0, hL1, hL2, hall⟩ := h.row
  have key : ∀ i, i < flen k → ∃ x y s v kk a c, fdrop i k = .node x y (s, v) kk (fdrop (i + 1) k) ∧ wr.cell? ⟨w.heap.size + 1 + 1 + 1, 0 + i * 3, none⟩ = some (.int .i64 s) ∧ wr.cell? ⟨w.heap.size + 1 + 1 + 1, 0 + i * 3 + 1, none⟩ = some (.int .i64 v) ∧
      wr.cell? ⟨w.heap.size + 1 + 1 + 1, 0 + i * 3 + 2, none⟩ = some (.slice a (flen kk) c) ∧ TX wr (Ls i) (Ls (i + 1)) a kk := fun i hi => by
    obtain ⟨x, y, s, v, kk, a, c, e, h0, h1, h2, hs⟩ := hall i hi
    refine ⟨x, y, s, v, kk, a, c, e, ?_, ?_, ?_, hs⟩
    · rw [Nat.zero_add, ← h0]; exact hf.cell (by omega)
    · rw [Nat.zero_add, ← h1]; exact hf.cell (by omega)
    · rw [Nat.zero_add, ← h2]; exact hf.cell (by omega)
  refine ⟨.inr ⟨_, 0, rfl, row_of_all k _ 0 (by omega) (by omega) fun i hi => ?_⟩, .inr ⟨_, rfl, by omega, by omega, ?_⟩⟩
  · obtain ⟨x, y, s, v, kk, a, c, e, h0, h1, h2, hs⟩ := key i hi
    have q0 : Ls 0 ≤ Ls i := by have := Ls_mono hL1 i 0 (by omega); rwa [Nat.zero_add] at this
    have q1 : Ls (i + 1) ≤ Ls (flen k) := by have := Ls_mono hL1 (flen k - (i + 1)) (i + 1) (by omega); rwa [show i + 1 + (flen k - (i + 1)) = flen k from by omega] at this
    exact ⟨x, y, s, v, kk, a, c, e, h0, h1, h2, hs.1.mono (by omega) (by omega)⟩
  · have := tr_of_all (w := wr) k (w.heap.size + 1 + 1 + 1) 0 wr.heap.size Ls hL1 hL2 (by omega) fun i hi => by
      obtain ⟨x, y, s, v, kk, a, c, e, h0, h1, h2, hs⟩ := key i hi
      exact ⟨x, y, s, v, kk, a, c, e, ⟨_, h0⟩, ⟨_, h1⟩, hf.frozen _, hf.frozen _, h2, hs.2⟩
    rw [hL0] at this
    exact this
theorem tm_endT {w w1 : World} {s v : Int} {k : Fo} {a : Option Addr} {c : Nat} (hb : Below w.heap.size w w1) (hl : TX w1 (w.heap.size + 3) w1.heap.size a k) (x y z : Value) :
    TmPostT s v k w (.returned (.agg #[.int .i64 s, .int .i64 v, .slice a (flen k) c])) (((w1.setCell ⟨w.heap.size + 1, 0, none⟩ x).setCell ⟨w.heap.size + 1, 1, none⟩ y).setCell ⟨w.heap.size + 1, 2, none⟩ z) := by
  refine ⟨a, c, rfl, ((hb.setCell (by simp) _).setCell (by simp) _).setCell (by simp) _, ?_⟩
  have hs : Same (w.heap.size + 3) w1.heap.size w1 (((w1.setCell ⟨w.heap.size + 1, 0, none⟩ x).setCell ⟨w.heap.size + 1, 1, none⟩ y).setCell ⟨w.heap.size + 1, 2, none⟩ z) :=
    (((Same.setCell (fun _ _ _ => rfl) (.inl (by simp)) _).setCell (.inl (by simp)) _).setCell (.inl (by simp)) _)
  exact (hl.same hs).mono (by omega) (by simp)

set_option maxRecDepth 100000 in
set_option maxHeartbeats 1000000 in
theorem symTermT_any (N : Nat) : ∀ (s : Int) (a : Option Addr) (c : Nat) (k : Fo) (w : World), NSl w 0 w.heap.size a k → fok k = true → fsz k ≤ N → N ≤ 1000000 →
    Calls Try.prog 129 #[.agg #[.int .i64 s, .slice a (flen k) c]] w (TmPostT s 0 k w) := by
  induction N using Nat.strongRecOn with
  | _ N ih =>
    intro s a c k w hl hok hN hN2
    have hfl := flen_le_sz k
    have IH := Lib.hid ih
    have HOK := Lib.hid hok
    clear ih hok
    by_cases h0 : flen k = 0
    · have hk : k = .nil := by
        cases k with
        | nil => rfl
        | node _ _ _ _ _ => simp [flen] at h0
      subst hk
      clear hl h0
      simp only [flen]
      go_enter Try.func129, Try.ntmps129
      go_wp2_with fail
      go_loopw [21] (fun i wr => i = .int .i64 0 ∧ wr = (((w.alloc (.cells #[.int .i64 s, .slice a 0 c] 104)).alloc (.cells #[.int .i64 0, .int .i64 0, .slice none 0 0] 25)).alloc (.cells #[.int .i64 s, .int .i64 0, .slice none 0 0] 25))) (fun _ _ => 0)
      case atStart => exact ⟨rfl, rfl⟩
      case round =>
        obtain ⟨rfl, rfl⟩ := hrel
        go_wp2_with fail
        refine bodyPost_ret (v := .agg #[.int .i64 s, .int .i64 0, .slice none 0 0]) ?_ rfl ⟨none, 0, rfl, (((Below.refl _ _).alloc (Nat.le_refl _) _).alloc (by simp) _).alloc (by simp; omega) _, ⟨.inl rfl, .inl rfl⟩⟩
        simp [results, Try.results129, go_sem]
    · have hmk := make_termsA (flen k) (by omega)
      have HST := Lib.hid (TmAtT.start w s k (.int .i64 s) (.slice a (flen k) c))
      have hpos : 0 < flen k := by omega
      go_enter Try.func129, Try.ntmps129
      go_wp2_with fail
      clear hmk
      go_loopw [21] (fun i wr => ∃ j : Nat, j ≤ flen k ∧ i = .int .i64 j ∧ TmAtT w s k j wr) (fun i _ => flen k - (intOf i).toNat)
      case atStart => exact ⟨0, by omega, rfl, HST.out⟩
      case round =>
        clear HST
        obtain ⟨j, hj, rfl, hat⟩ := hrel
        have hsr := hat.size
        by_cases hlt : j < flen k
        · rcases hl with rfl | ⟨b, o, rfl, hrow⟩
          · simp [flen] at hlt
          obtain ⟨s', v', kk, val, ⟨x, y, hd⟩, _, hbB, hk0, hn⟩ := nrow_at (hrow.below hat.below) hlt
          have hkN := fsz_kid hd
          have hkok := fok_kid HOK.out hd
          have ht2 := hat.t2
          have hu0 : ∀ u : After wr.heap.size wr, u.world.cell? ⟨w.heap.size + 1 + 1, 2, none⟩ = some (.slice (some ⟨w.heap.size + 1 + 1 + 1, 0, none⟩) (flen k) (flen k)) := fun u => u.cell (by simp; omega) ht2
          have g1 : (0 : Int) ≤ (j : Int) := by omega
          have g2 : (j : Int) < (flen k : Int) := by omega
          have HAT := Lib.hid hat
          have HD := Lib.hid hd
          clear hd hrow hat
          rcases hn with ⟨rfl, rfl, rfl⟩ | ⟨hs', a2, c2, rfl, hn2⟩
          · clear hkok
            go_wp2_with fail
            refine wp_region_mix (fun w' => ∃ u : After wr.heap.size wr, w' = u.world) [6] [(0, 0), (1, 0), (2, 0), (3, 0), (4, 1), (5, 1), (6, 2)] (by kernel_rfl) (by kernel_rfl) ⟨⟨_, (Below.refl _ _).drew⟩, rfl⟩ ?_
            iterate 4
              refine mix_see rfl (fun K hK => ?_)
              go_simp
              refine hK _ ?_
              clear hK K
            clear hu0
            refine mix_hold rfl (fun K hK => ?_)
            go_simp
            refine upon_method 113 (by kernel_rfl) (by kernel_rfl) ?_
            go_simp
            with_reducible refine (varTermT_any v' _).mono ?_
            rintro e w2 ⟨a2', c2', rfl, hb2', hl2⟩
            have hb2 : Below wr.heap.size wr w2 := bl_undrew hb2'
            obtain ⟨f, hf, _⟩ := HAT.out.row
            have hf2 := hf.of_block (hb2.block _ (by omega))
            have hg0 := hf2.cell (i := j * 3) (by omega)
            have hg1 := hf2.cell (i := j * 3 + 1) (by omega)
            have hg2 := hf2.cell (i := j * 3 + 2) (by omega)
            have hz0 := hf2.frozen (j * 3)
            have hz1 := hf2.frozen (j * 3 + 1)
            have hz2 := hf2.frozen (j * 3 + 2)
            have HSTEP := Lib.hid (HAT.out.step (c := c2') HD.out hb2 hl2)
            refine hK _ _ ⟨⟨_, hb2⟩, rfl⟩ ?_
            clear hK K hf hf2 hb2' hl2
            refine mix_hold rfl (fun K hK => ?_)
            go_simp
            refine hK _ _ ⟨⟨_, hb2⟩, rfl⟩ ?_
            clear hK K hb2
            refine mix_late rfl (fun K hK => ?_)
            go_simp
            refine hK _ _ ?_
            clear hK K
            refine mix_end ?_
            clear hg0 hg1 hg2 hz0 hz1 hz2 ht2 hk0
            go_wp2_with fail
            go_roundw
            case rel => exact ⟨j + 1, by omega, by go_num, HSTEP.out⟩
            case measure => simp [intOf]; omega
          · have hv0 : v' = 0 := ((okN_iff _ _ _).1 hkok.1).2.2 hs'
            subst hv0
            have HKK := Lib.hid hkok.2
            have HN2 := Lib.hid hn2
            clear hn2 hkok
            go_wp2_with fail
            refine wp_region_mix (fun w' => ∃ u : After wr.heap.size wr, w' = u.world) [6] [(0, 0), (1, 0), (2, 0), (3, 0), (4, 1), (5, 1), (6, 2)] (by kernel_rfl) (by kernel_rfl) ⟨⟨_, (Below.refl _ _).drew⟩, rfl⟩ ?_
            iterate 4
              refine mix_see rfl (fun K hK => ?_)
              go_simp
              refine hK _ ?_
              clear hK K
            clear hu0
            refine mix_hold rfl (fun K hK => ?_)
            go_simp
            refine upon_method 129 (by kernel_rfl) (by kernel_rfl) ?_
            go_simp
            with_reducible refine (IH.out (fsz kk) (by omega) s' a2 c2 kk _ ?_ HKK.out (Nat.le_refl _) (by omega)).mono ?_
            · exact (HN2.out.below (Below.refl _ _).drew).mono (Nat.le_refl _) (by simp; omega)
            rintro e w2 ⟨a2', c2', rfl, hb2', hl2⟩
            have hb2 : Below wr.heap.size wr w2 := bl_undrew hb2'
            obtain ⟨f, hf, _⟩ := HAT.out.row
            have hf2 := hf.of_block (hb2.block _ (by omega))
            have hg0 := hf2.cell (i := j * 3) (by omega)
            have hg1 := hf2.cell (i := j * 3 + 1) (by omega)
            have hg2 := hf2.cell (i := j * 3 + 2) (by omega)
            have hz0 := hf2.frozen (j * 3)
            have hz1 := hf2.frozen (j * 3 + 1)
            have hz2 := hf2.frozen (j * 3 + 2)
            have HSTEP := Lib.hid (HAT.out.step (c := c2') HD.out hb2 hl2)
            refine hK _ _ ⟨⟨_, hb2⟩, rfl⟩ ?_
            clear hK K hf hf2 hb2' hl2
            refine mix_hold rfl (fun K hK => ?_)
            go_simp
            refine hK _ _ ⟨⟨_, hb2⟩, rfl⟩ ?_
            clear hK K hb2
            refine mix_late rfl (fun K hK => ?_)
            go_simp
            refine hK _ _ ?_
            clear hK K
            refine mix_end ?_
            clear hg0 hg1 hg2 hz0 hz1 hz2 ht2 hk0
            go_wp2_with fail
            go_roundw
            case rel => exact ⟨j + 1, by omega, by go_num, HSTEP.out⟩
            case measure => simp [intOf]; omega
        · have hjk : j = flen k := by omega
          subst hjk
          have HDN := Lib.hid (fun x y z => tm_endT (s := s) (v := 0) (c := flen k) hat.below (hat.sl rfl) x y z)
          have ht0 := hat.t0
          have ht1 := hat.t1
          have ht2 := hat.t2
          have hr0 := hat.r0
          have hr1 := hat.r1
          have hr2 := hat.r2
          have hq0 := hat.q0
          have hq1 := hat.q1
          have hq2 := hat.q2
          clear hat
          go_wp2_with fail
          refine bodyPost_ret (v := .agg #[.int .i64 s, .int .i64 0, .slice (some ⟨w.heap.size + 1 + 1 + 1, 0, none⟩) (flen k) (flen k)]) ?_ rfl (HDN.out _ _ _)
          simp [results, Try.results129, go_sem, hr0, hr1, hr2]
end Go.Proofs.Ytlaaihnokoeliab
