/- markTermS and heldTermS on a tree of one's own: what is marked is held. -/
import Derived.Test.YtebalmemncldlabXT
import Derived.Test.YtebalmemncldlabXM
namespace Go.Proofs.Ytebalmemncldlab
open Go.RowKit Go.Deep

/-- What holds at the head of markTermS's loop: the first j kids are marked, the others are as they were. -/
structure MkAt (w : World) (lo B b : Nat) (k : Fo) (Ls : Nat → Nat) (m : Int) (j : Nat) (wr : World) : Prop where
  marked : Marked lo B w wr
  done : ∀ i, i < j → HdAt wr (Ls i) (Ls (i + 1)) k b 0 m i
  todo : ∀ i, j ≤ i → i < flen k → TrAt wr k b 0 Ls i

theorem MkAt.step {w wr w2 : World} {lo B b : Nat} {k : Fo} {Ls : Nat → Nat} {m : Int} {j x y : Nat} {s v : Int} {kk : Fo} {a : Option Addr} {c : Nat} (h : MkAt w lo B b k Ls m j wr) (hj : j < flen k) (hLs : ∀ i, i < flen k → Ls i ≤ Ls (i + 1)) (hLB : Ls (flen k) ≤ B) (hB : B ≤ w.heap.size)
    (hlo : lo ≤ b) (hb : b < Ls 0) (hd : fdrop j k = .node x y (s, v) kk (fdrop (j + 1) k)) (hc2 : wr.cell? ⟨b, j * 3 + 2, none⟩ = some (.slice a (flen kk) c)) {u u' : Value} (hu : wr.cell? ⟨b, j * 3, none⟩ = some u) (hu' : wr.cell? ⟨b, j * 3 + 1, none⟩ = some u')
    (hmk : Marked (Ls j) (Ls (j + 1)) ((wr.setCell ⟨b, j * 3, none⟩ (.int .i64 (cnt k m j))).setCell ⟨b, j * 3 + 1, none⟩ (.int .i64 (cnt k m j + 1))) w2) (hhd : HdS w2 (Ls j) (Ls (j + 1)) a kk (cnt k m j + 2)) : MkAt w lo B b k Ls m (j + 1) w2 := by
  have hmono : ∀ i i', i ≤ i' → i' ≤ flen k → Ls i ≤ Ls i' := fun i i' h1 h2 => by
    have := Ls_mono hLs (i' - i) i (by omega)
    rwa [show i + (i' - i) = i' from by omega] at this
  have h0j := hmono 0 j (Nat.zero_le _) (by omega)
  have hjj := hLs j hj
  have hjn := hmono (j + 1) (flen k) (by omega) (Nat.le_refl _)
  have hwr : w.heap.size ≤ wr.heap.size := h.marked.below.size
  have hbB : b < B := by omega
  -- other blocks
  have hsame : ∀ q, q ≠ b → (q < Ls j ∨ Ls (j + 1) ≤ q) → q < wr.heap.size → w2.heap[q]? = wr.heap[q]? := fun q h1 h2 h3 => by
    have e : ((wr.setCell ⟨b, j * 3, none⟩ (.int .i64 (cnt k m j))).setCell ⟨b, j * 3 + 1, none⟩ (.int .i64 (cnt k m j + 1))).heap[q]? = wr.heap[q]? := by
      rw [Below.heap_setCell _ _ _ _ (fun e => h1 (by simpa using e)), Below.heap_setCell _ _ _ _ (fun e => h1 (by simpa using e))]
    rcases h2 with h2 | h2
    · rw [hmk.below.block q h2, e]
    · rw [hmk.far q h2 (by simpa using h3), e]
  -- the row's own cells
  have hcell : ∀ o, o ≠ j * 3 → o ≠ j * 3 + 1 → w2.cell? ⟨b, o, none⟩ = wr.cell? ⟨b, o, none⟩ := fun o h1 h2 => by
    rw [hmk.below.cell (by simp; omega), World.cell?_setCell_other _ _ _ _ (ne_offT (by omega)), World.cell?_setCell_other _ _ _ _ (ne_offT (by omega))]
  have hfro : ∀ o, w2.frozen? ⟨b, o, none⟩ = wr.frozen? ⟨b, o, none⟩ := fun o => by
    rw [hmk.below.frozen (by simp; omega), World.frozen?_setCell, World.frozen?_setCell]
  refine ⟨?_, fun i hi => ?_, fun i h1 h2 => ?_⟩
  · have m1 := Marked.set (lo := lo) (B := B) hlo hbB (by omega) hu (cnt k m j)
    have m2 := Marked.set (lo := lo) (B := B) (w := wr.setCell ⟨b, j * 3, none⟩ (.int .i64 (cnt k m j))) (o := j * 3 + 1) hlo hbB (by omega) (by rw [World.cell?_setCell_other _ _ _ _ (ne_offT (by omega))]; exact hu') (cnt k m j + 1)
    exact h.marked.trans (m1.trans (m2.trans (hmk.mono (by omega) (by omega) (by simp; omega))))
  · by_cases hij : i = j
    · subst hij
      refine ⟨x, y, s, v, kk, a, c, hd, ?_, ?_, ?_, hhd⟩
      · rw [Nat.zero_add, hmk.below.cell (by simp; omega), World.cell?_setCell_other _ _ _ _ (ne_offT (by omega))]
        exact World.cell?_setCell_same _ _ _ hu
      · rw [Nat.zero_add, hmk.below.cell (by simp; omega)]
        exact World.cell?_setCell_same _ _ _ (by rw [World.cell?_setCell_other _ _ _ _ (ne_offT (by omega))]; exact hu')
      · rw [Nat.zero_add, hcell _ (by omega) (by omega)]; exact hc2
    · obtain ⟨x', y', s', v', kk', a', c', e, d1, d2, d3, d4⟩ := h.done i (by omega)
      have g1 := hmono 0 i (Nat.zero_le _) (by omega)
      have g2 := hmono (i + 1) j (by omega) (by omega)
      refine ⟨x', y', s', v', kk', a', c', e, ?_, ?_, ?_, d4.same fun q q1 q2 => hsame q (by omega) (.inl (by omega)) (by omega)⟩
      · rw [Nat.zero_add] at d1 ⊢; rw [hcell _ (by omega) (by omega)]; exact d1
      · rw [Nat.zero_add] at d2 ⊢; rw [hcell _ (by omega) (by omega)]; exact d2
      · rw [Nat.zero_add] at d3 ⊢; rw [hcell _ (by omega) (by omega)]; exact d3
  · obtain ⟨x', y', s', v', kk', a', c', e, d1, d2, d3, d4, d5, d6⟩ := h.todo i (by omega) h2
    have g1 := hmono 0 i (Nat.zero_le _) (by omega)
    have g2 := hmono (j + 1) i (by omega) (by omega)
    have g3 := hmono (i + 1) (flen k) (by omega) (Nat.le_refl _)
    rw [Nat.zero_add] at d1 d2 d3 d4 d5
    refine ⟨x', y', s', v', kk', a', c', e, ?_, ?_, ?_, ?_, ?_, d6.same fun q q1 q2 => hsame q (by omega) (.inr (by omega)) (by omega)⟩
    · rw [Nat.zero_add, hcell _ (by omega) (by omega)]; exact d1
    · rw [Nat.zero_add, hcell _ (by omega) (by omega)]; exact d2
    · rw [Nat.zero_add, hfro]; exact d3
    · rw [Nat.zero_add, hfro]; exact d4
    · rw [Nat.zero_add, hcell _ (by omega) (by omega)]; exact d5

set_option maxRecDepth 100000 in
set_option maxHeartbeats 1000000 in
theorem markTree_any (N : Nat) : ∀ (a : Option Addr) (c : Nat) (k : Fo) (lo B : Nat) (m : Int) (w : World), TrS w lo B a k → fsz k ≤ N → N ≤ 1048576 → 0 ≤ m → m + 2 * (fsz k : Int) ≤ 10000000 → lo ≤ B → B ≤ w.heap.size →
    Calls Try.prog 63 #[.slice a (flen k) c, .int .i64 m] w fun e w' => e = .returned (.int .i64 (m + 2 * (fsz k : Int))) ∧ Marked lo B w w' ∧ HdS w' lo B a k m := by
  induction N using Nat.strongRecOn with
  | _ N ih =>
    intro a c k lo B m w hl hN hN2 hm0 hm1 hlo hB
    have hfl := flen_le (k := k)
    have IH := Lib.hid ih
    clear ih
    rcases hl with rfl | ⟨b, rfl, hb1, hb2, htr⟩
    · simp only [flen, fsz]
      go_enter Try.func63, Try.ntmps63
      go_wp2_with fail
      go_loopw [1, 5] (fun t i wr => i = .int .i64 0 ∧ t = .int .i64 m ∧ wr = w) (fun _ _ _ => 0)
      case atStart => exact ⟨rfl, rfl, rfl⟩
      case round =>
        obtain ⟨rfl, rfl, rfl⟩ := hrel
        go_wp2_with fail
        go_ret
        exact ⟨by simp, Marked.refl _ _ _, .inl rfl⟩
    · obtain ⟨Ls, hL0, hLs, hLB, _, hall⟩ := htr.at
      have HLS := Lib.hid hLs
      have HST : Hid (MkAt w lo B b k Ls m 0 w) := ⟨Marked.refl _ _ _, fun i hi => by omega, fun i _ hi => hall i hi⟩
      have hb0 : b < Ls 0 := by omega
      clear hLs hall htr
      go_enter Try.func63, Try.ntmps63
      go_wp2_with fail
      go_loopw [1, 5] (fun t i wr => ∃ j : Nat, j ≤ flen k ∧ i = .int .i64 j ∧ t = .int .i64 (cnt k m j) ∧ MkAt w lo B b k Ls m j wr) (fun _ i _ => flen k - (intOf i).toNat)
      case atStart => exact ⟨0, by omega, rfl, by simp [cnt, fdrop], HST.out⟩
      case round =>
        clear HST
        obtain ⟨j, hj, rfl, rfl, hat⟩ := hrel
        by_cases hlt : j < flen k
        · obtain ⟨x, y, s', v', kk, a', c', hd, ⟨z, hx⟩, ⟨z', hy⟩, f0, f1, hc, hk⟩ := hat.todo j (Nat.le_refl _) hlt
          rw [Nat.zero_add] at hx hy f0 f1 hc
          have hkN := fsz_kid' hd
          have hdr := fsz_drop' j k
          have hLj := HLS.out j hlt
          have h0j : Ls 0 ≤ Ls j := by have := Ls_mono HLS.out j 0 (by omega); rwa [Nat.zero_add] at this
          have hjn : Ls (j + 1) ≤ Ls (flen k) := by have := Ls_mono HLS.out (flen k - (j + 1)) (j + 1) (by omega); rwa [show j + 1 + (flen k - (j + 1)) = flen k from by omega] at this
          have hwr := hat.marked.below.size
          have hcn : cnt k m (j + 1) = cnt k m j + 2 + 2 * (fsz kk : Int) := by
            unfold cnt
            rw [hd]
            simp only [fsz]
            push_cast
            omega
          have hc0 : 0 ≤ cnt k m j := by unfold cnt; omega
          have hc1 : cnt k m j + 2 + 2 * (fsz kk : Int) ≤ 10000000 := by
            rw [← hcn]
            have := fsz_drop' (j + 1) k
            unfold cnt
            omega
          have HCN := Lib.hid hcn
          have HSTEP : Hid (∀ w2, Marked (Ls j) (Ls (j + 1)) ((wr.setCell ⟨b, j * 3, none⟩ (.int .i64 (cnt k m j))).setCell ⟨b, j * 3 + 1, none⟩ (.int .i64 (cnt k m j + 1))) w2 → HdS w2 (Ls j) (Ls (j + 1)) a' kk (cnt k m j + 2) → MkAt w lo B b k Ls m (j + 1) w2) := fun w2 h1 h2 => hat.step hlt HLS.out hLB hB hb1 hb0 hd hc hx hy h1 h2
          have HK2 : Hid (TrS ((wr.setCell ⟨b, j * 3, none⟩ (.int .i64 (cnt k m j))).setCell ⟨b, j * 3 + 1, none⟩ (.int .i64 (cnt k m j + 1))) (Ls j) (Ls (j + 1)) a' kk) :=
            hk.same ((Same.setCell (fun _ _ _ => rfl) (.inl (by simp; omega)) _).setCell (.inl (by simp; omega)) _)
          have hb1' : (wr.setCell ⟨b, j * 3, none⟩ (.int .i64 (cnt k m j))).cell? ⟨b, j * 3 + 1, none⟩ = some (.int .i64 z') := by rw [World.cell?_setCell_other _ _ _ _ (ne_offT (by omega))]; exact hy
          have hb2' : (wr.setCell ⟨b, j * 3, none⟩ (.int .i64 (cnt k m j))).frozen? ⟨b, j * 3 + 1, none⟩ = false := by rw [World.frozen?_setCell]; exact f1
          have hb3' : ((wr.setCell ⟨b, j * 3, none⟩ (.int .i64 (cnt k m j))).setCell ⟨b, j * 3 + 1, none⟩ (.int .i64 (cnt k m j + 1))).cell? ⟨b, j * 3 + 2, none⟩ = some (.slice a' (flen kk) c') := by rw [World.cell?_setCell_other _ _ _ _ (ne_offT (by omega)), World.cell?_setCell_other _ _ _ _ (ne_offT (by omega))]; exact hc
          have g1 : (0 : Int) ≤ (j : Int) := by omega
          have g2 : (j : Int) < (flen k : Int) := by omega
          have HX : Hid (∃ z, z = cnt k m j) := ⟨_, rfl⟩
          clear hd hk hat hcn hc hy
          generalize cnt k m j = l at *
          go_wp2_with fail
          with_reducible refine (IH.out (fsz kk) (by omega) a' c' kk (Ls j) (Ls (j + 1)) (l + 1 + 1) _ HK2.out (Nat.le_refl _) (by omega) (by omega) (by omega) hLj (by simp; omega)).mono ?_
          rintro e w2 ⟨rfl, hmk2, hhd2⟩
          have e2 : l + 1 + 1 = l + 2 := by omega
          rw [e2] at hhd2
          have HM4 := Lib.hid (HSTEP.out w2 hmk2 hhd2)
          clear hmk2 hhd2 hx hb1' hb2' hb3' f0 f1 HSTEP
          go_wp2_with fail
          go_roundw
          case rel => exact ⟨j + 1, by omega, by go_num, by rw [HCN.out], HM4.out⟩
          case measure => simp [intOf]; omega
        · have hje : j = flen k := by omega
          subst hje
          have HE : Hid (cnt k m (flen k) = m + 2 * (fsz k : Int)) := by
            unfold Hid cnt
            rw [fdrop_all (Nat.le_refl _)]
            simp [fsz]
          have HF : Hid (HdS wr lo B (some ⟨b, 0, none⟩) k m) := .inr ⟨b, rfl, hd_of_all k b 0 m hb1 hb2 fun i hi => by
            obtain ⟨x', y', s', v', kk', a', c', e, d1, d2, d3, d4⟩ := hat.done i hi
            have q1 : Ls 0 ≤ Ls i := by have := Ls_mono HLS.out i 0 (by omega); rwa [Nat.zero_add] at this
            have q2 : Ls (i + 1) ≤ Ls (flen k) := by have := Ls_mono HLS.out (flen k - (i + 1)) (i + 1) (by omega); rwa [show i + 1 + (flen k - (i + 1)) = flen k from by omega] at this
            exact ⟨x', y', s', v', kk', a', c', e, d1, d2, d3, d4.mono (by omega) (by omega)⟩⟩
          have HMK := Lib.hid hat.marked
          clear hat
          go_wp2_with fail
          go_ret
          exact ⟨by rw [← HE.out]; rfl, HMK.out, HF.out⟩
end Go.Proofs.Ytebalmemncldlab
