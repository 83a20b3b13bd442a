/- Several texts in one: XMo, XW, XW2, XLw, SP2. -/
import Derived.Test.YtoafleckcjanaaaKLk3
import Derived.Test.YtoafleckcjanaaaKLk18
import Derived.Test.YtoafleckcjanaaaKLk14
import Derived.Test.YtoafleckcjanaaaKLk16
import Derived.Test.YtoafleckcjanaaaKLk8
import Derived.Test.YtoafleckcjanaaaKLk1

/-! XMo: markTermS on a term of one's own whose rows lie apart as OT has it; what is marked is held. -/
namespace Go.Proofs.Ytoafleckcjanaaa
open Go.RowKit Go.Deep

/-- Written are blocks of Q alone. -/
structure MkS (Q : Nat → Prop) (w w' : World) : Prop where
  os : w'.os = w.os
  tape : w'.tape = w.tape
  output : w'.output = w.output
  size : w.heap.size ≤ w'.heap.size
  far : ∀ q, ¬ Q q → q < w.heap.size → w'.heap[q]? = w.heap[q]?
theorem MkS.refl (Q : Nat → Prop) (w : World) : MkS Q w w := ⟨rfl, rfl, rfl, Nat.le_refl _, fun _ _ _ => rfl⟩
theorem MkS.trans {Q : Nat → Prop} {w w' w2 : World} (h : MkS Q w w') (h' : MkS Q w' w2) : MkS Q w w2 :=
  ⟨h'.os.trans h.os, h'.tape.trans h.tape, h'.output.trans h.output, Nat.le_trans h.size h'.size, fun q h1 h2 => (h'.far q h1 (Nat.lt_of_lt_of_le h2 h.size)).trans (h.far q h1 h2)⟩
theorem MkS.mono {Q Q' : Nat → Prop} {w w' : World} (hq : ∀ q, Q q → Q' q) (h : MkS Q w w') : MkS Q' w w' := ⟨h.os, h.tape, h.output, h.size, fun q h1 h2 => h.far q (fun h3 => h1 (hq q h3)) h2⟩
theorem MkS.of_below {Q : Nat → Prop} {w w' : World} (h : Below w.heap.size w w') : MkS Q w w' := ⟨h.os, h.tape, h.output, h.size, fun q _ h2 => h.block q h2⟩
theorem MkS.set {Q : Nat → Prop} {w : World} {b o : Nat} (hb : Q b) (x : Value) : MkS Q w (w.setCell ⟨b, o, none⟩ x) := by
  have h : Below b w (w.setCell ⟨b, o, none⟩ x) := (Below.refl b w).setCell (by simp) _
  exact ⟨h.os, h.tape, h.output, h.size, fun q h1 _ => Below.heap_setCell _ _ _ _ (fun e => h1 (by have : q = b := by simpa using e
                                                                                                   rw [this]; exact hb))⟩
theorem MkS.below {Q : Nat → Prop} {w w' : World} {lo : Nat} (h : MkS Q w w') (hq : ∀ q, Q q → lo ≤ q) (hlo : lo ≤ w.heap.size) : Below lo w w' :=
  ⟨h.os, h.tape, h.output, h.size, fun q h1 => h.far q (fun h2 => by have := hq q h2; omega) (by omega)⟩

/-- A kid of such a row. -/
def OwAt (w : World) (k : Fo) (b o : Nat) (Q : Nat → Prop) (i : Nat) : Prop :=
  ∃ x y s v kk a c, fdrop i k = .node x y (s, v) kk (fdrop (i + 1) k) ∧ (∃ z, w.cell? ⟨b, o + i * 3, none⟩ = some (.int .i64 z)) ∧ (∃ z, w.cell? ⟨b, o + i * 3 + 1, none⟩ = some (.int .i64 z)) ∧
    w.frozen? ⟨b, o + i * 3, none⟩ = false ∧ w.frozen? ⟨b, o + i * 3 + 1, none⟩ = false ∧ w.cell? ⟨b, o + i * 3 + 2, none⟩ = some (.slice a (flen kk) c) ∧ OwS w a kk Q
theorem OwR.at {w : World} : ∀ {k : Fo} {b o : Nat} {P : Nat → Prop}, OwR w k b o P → ∃ Ps : Nat → Nat → Prop, (∀ i, i < flen k → ∀ x, Ps i x → P x) ∧ (∀ i j, i < j → j < flen k → ∀ x, Ps i x → ¬ Ps j x) ∧ ∀ i, i < flen k → OwAt w k b o (Ps i) i
  | .nil, _, _, _, _ => ⟨fun _ _ => False, fun i hi => by simp [flen] at hi, fun i j _ hj => by simp [flen] at hj, fun i hi => by simp [flen] at hi⟩
  | .node x y (s, v) k r, b, o, P, ⟨⟨c0, c1⟩, ⟨f0, f1, f2⟩, a, c, P1, P2, g1, g2, g3, g4, g5, g6⟩ => by
    obtain ⟨Ps, e1, e2, e3⟩ := g6.at
    refine ⟨fun i => match i with | 0 => P1 | i + 1 => Ps i, fun i hi z hz => ?_, fun i j hij hj z hz hz2 => ?_, fun i hi => ?_⟩
    · cases i with
      | zero => exact g1 z hz
      | succ i => exact g2 z (e1 i (by simp [flen] at hi; omega) z hz)
    · cases j with
      | zero => omega
      | succ j =>
        simp only [flen] at hj
        cases i with
        | zero => exact g3 z hz (e1 j (by omega) z hz2)
        | succ i => exact e2 i j (by omega) (by omega) z hz hz2
    · cases i with
      | zero => exact ⟨x, y, s, v, k, a, c, rfl, ⟨s, by simpa using c0⟩, ⟨v, by simpa using c1⟩, by simpa using f0, by simpa using f1, by simpa using g4, g5⟩
      | succ i =>
        obtain ⟨x', y', s', v', kk, a', c', d0, d1, d2, d3, d4, d5, d6⟩ := e3 i (by simp [flen] at hi; omega)
        have e3' : o + 3 + i * 3 = o + (i + 1) * 3 := by omega
        rw [e3'] at d1 d2 d3 d4 d5
        exact ⟨x', y', s', v', kk, a', c', d0, d1, d2, d3, d4, d5, d6⟩

/-- The numbers of a row and of the rows below it count up from m on; all of them lie in Q. -/
def HdP (w : World) (Q : Nat → Prop) : Fo → Nat → Nat → Int → Prop
  | .nil, _, _, _ => True
  | .node _ _ _ k r, b, o, m => Q b ∧ w.cell? ⟨b, o, none⟩ = some (.int .i64 m) ∧ w.cell? ⟨b, o + 1, none⟩ = some (.int .i64 (m + 1)) ∧
      (∃ a c, w.cell? ⟨b, o + 2, none⟩ = some (.slice a (flen k) c) ∧ (k = .nil ∨ ∃ b', a = some ⟨b', 0, none⟩ ∧ HdP w Q k b' 0 (m + 2))) ∧ HdP w Q r b (o + 3) (m + 2 + 2 * (fsz k : Int))
def HdPS (w : World) (Q : Nat → Prop) (a : Option Addr) (k : Fo) (m : Int) : Prop := k = .nil ∨ ∃ b, a = some ⟨b, 0, none⟩ ∧ HdP w Q k b 0 m
theorem HdP.same {w w' : World} {Q : Nat → Prop} (hb : ∀ q, Q q → w'.heap[q]? = w.heap[q]?) : ∀ {k : Fo} {b o : Nat} {m : Int}, HdP w Q k b o m → HdP w' Q k b o m
  | .nil, _, _, _, _ => trivial
  | .node _ _ _ k r, b, o, m, ⟨h1, h3, h4, ⟨a, c, h5, h6⟩, h7⟩ => by
    have e : ∀ i, w'.cell? ⟨b, i, none⟩ = w.cell? ⟨b, i, none⟩ := fun i => World.cell?_of_block (hb b h1)
    refine ⟨h1, by rw [e]; exact h3, by rw [e]; exact h4, ⟨a, c, by rw [e]; exact h5, ?_⟩, h7.same hb⟩
    rcases h6 with h6 | ⟨b', e, h6⟩
    · exact .inl h6
    · exact .inr ⟨b', e, h6.same hb⟩
theorem HdP.mono {w : World} {Q Q' : Nat → Prop} (hq : ∀ q, Q q → Q' q) : ∀ {k : Fo} {b o : Nat} {m : Int}, HdP w Q k b o m → HdP w Q' k b o m
  | .nil, _, _, _, _ => trivial
  | .node _ _ _ k r, b, o, m, ⟨h1, h3, h4, ⟨a, c, h5, h6⟩, h7⟩ => by
    refine ⟨hq _ h1, h3, h4, ⟨a, c, h5, ?_⟩, h7.mono hq⟩
    rcases h6 with h6 | ⟨b', e, h6⟩
    · exact .inl h6
    · exact .inr ⟨b', e, h6.mono hq⟩
theorem HdP.hd {w : World} {Q : Nat → Prop} {lo B : Nat} (hq : ∀ q, Q q → lo ≤ q ∧ q < B) : ∀ {k : Fo} {b o : Nat} {m : Int}, HdP w Q k b o m → Hd w lo B k b o m
  | .nil, _, _, _, _ => trivial
  | .node _ _ _ k r, b, o, m, ⟨h1, h3, h4, ⟨a, c, h5, h6⟩, h7⟩ => by
    refine ⟨(hq _ h1).1, (hq _ h1).2, h3, h4, ⟨a, c, h5, ?_⟩, h7.hd hq⟩
    rcases h6 with h6 | ⟨b', e, h6⟩
    · exact .inl h6
    · exact .inr ⟨b', e, h6.hd hq⟩
theorem HdPS.same {w w' : World} {Q : Nat → Prop} {a : Option Addr} {k : Fo} {m : Int} (hb : ∀ q, Q q → w'.heap[q]? = w.heap[q]?) (h : HdPS w Q a k m) : HdPS w' Q a k m := by
  rcases h with h | ⟨b, e, h⟩
  · exact .inl h
  · exact .inr ⟨b, e, h.same hb⟩
theorem HdPS.mono {w : World} {Q Q' : Nat → Prop} {a : Option Addr} {k : Fo} {m : Int} (hq : ∀ q, Q q → Q' q) (h : HdPS w Q a k m) : HdPS w Q' a k m := by
  rcases h with h | ⟨b, e, h⟩
  · exact .inl h
  · exact .inr ⟨b, e, h.mono hq⟩
theorem HdPS.hd {w : World} {Q : Nat → Prop} {lo B : Nat} {a : Option Addr} {k : Fo} {m : Int} (hq : ∀ q, Q q → lo ≤ q ∧ q < B) (h : HdPS w Q a k m) : HdS w lo B a k m := by
  rcases h with h | ⟨b, e, h⟩
  · exact .inl h
  · exact .inr ⟨b, e, h.hd hq⟩
def HdPAt (w : World) (Q : Nat → Prop) (k : Fo) (b o : Nat) (m : Int) (i : Nat) : Prop :=
  ∃ x y s v kk a c, fdrop i k = .node x y (s, v) kk (fdrop (i + 1) k) ∧ w.cell? ⟨b, o + i * 3, none⟩ = some (.int .i64 (cnt k m i)) ∧ w.cell? ⟨b, o + i * 3 + 1, none⟩ = some (.int .i64 (cnt k m i + 1)) ∧
    w.cell? ⟨b, o + i * 3 + 2, none⟩ = some (.slice a (flen kk) c) ∧ HdPS w Q a kk (cnt k m i + 2)
theorem hdP_of_all {w : World} {Q : Nat → Prop} : ∀ (k : Fo) (b o : Nat) (m : Int), Q b → (∀ i, i < flen k → HdPAt w Q k b o m i) → HdP w Q k b o m
  | .nil, _, _, _, _, _ => trivial
  | .node x y p kk r, b, o, m, h1, h => by
    obtain ⟨x', y', s, v, kk', a, c, e, d1, d2, d3, d4⟩ := h 0 (by simp [flen])
    simp only [fdrop, BT.node.injEq] at e
    obtain ⟨_, _, rfl, rfl, _⟩ := e
    have e0 : cnt (.node x y (s, v) kk r) m 0 = m := by simp [cnt, fdrop]
    rw [e0] at d1 d2 d4
    refine ⟨h1, by simpa using d1, by simpa using d2, ⟨a, c, by simpa using d3, d4⟩, ?_⟩
    refine hdP_of_all r b (o + 3) (m + 2 + 2 * (fsz kk : Int)) h1 fun i hi => ?_
    obtain ⟨x', y', s', v', kk', a', c', d0, d1, d2, d3, d4⟩ := h (i + 1) (by simp [flen]; omega)
    have e3' : o + (i + 1) * 3 = o + 3 + i * 3 := by omega
    rw [e3'] at d1 d2 d3
    rw [cnt_rest] at d1 d2 d4
    exact ⟨x', y', s', v', kk', a', c', d0, d1, d2, d3, d4⟩

/-- What holds at the head of the loop: the first j kids are marked, the others are as they were. -/
structure MoAt (w : World) (P : Nat → Prop) (b : Nat) (k : Fo) (Ps : Nat → Nat → Prop) (m : Int) (j : Nat) (wr : World) : Prop where
  marked : MkS P w wr
  done : ∀ i, i < j → HdPAt wr (Ps i) k b 0 m i
  todo : ∀ i, j ≤ i → i < flen k → OwAt wr k b 0 (Ps i) i

theorem MoAt.step {w wr w2 : World} {P : Nat → Prop} {b : Nat} {k : Fo} {Ps : Nat → Nat → Prop} {m : Int} {j x y : Nat} {s v : Int} {kk : Fo} {a : Option Addr} {c : Nat} (h : MoAt w P b k Ps m j wr) (hj : j < flen k) (hP : ∀ i, i < flen k → ∀ x, Ps i x → P x ∧ x ≠ b) (hap : ∀ i j, i < j → j < flen k → ∀ x, Ps i x → ¬ Ps j x)
    (hPw : ∀ x, P x → x < w.heap.size) (hb : P b) (hd : fdrop j k = .node x y (s, v) kk (fdrop (j + 1) k)) (hc2 : wr.cell? ⟨b, j * 3 + 2, none⟩ = some (.slice a (flen kk) c)) {u u' : Value} (hu : wr.cell? ⟨b, j * 3, none⟩ = some u) (hu' : wr.cell? ⟨b, j * 3 + 1, none⟩ = some u')
    (hmk : MkS (Ps j) ((wr.setCell ⟨b, j * 3, none⟩ (.int .i64 (cnt k m j))).setCell ⟨b, j * 3 + 1, none⟩ (.int .i64 (cnt k m j + 1))) w2) (hhd : HdPS w2 (Ps j) a kk (cnt k m j + 2)) : MoAt w P b k Ps m (j + 1) w2 := by
  have hwr : w.heap.size ≤ wr.heap.size := h.marked.size
  have hbw := hPw b hb
  have hbj : ¬ Ps j b := fun hx => (hP j hj b hx).2 rfl
  have hsame : ∀ q, q ≠ b → ¬ Ps j q → q < wr.heap.size → w2.heap[q]? = wr.heap[q]? := fun q h1 h2 h3 => by
    rw [hmk.far q h2 (by simpa using h3), Below.heap_setCell _ _ _ _ (fun e => h1 (by simpa using e)), Below.heap_setCell _ _ _ _ (fun e => h1 (by simpa using e))]
  have hrow : w2.heap[b]? = ((wr.setCell ⟨b, j * 3, none⟩ (.int .i64 (cnt k m j))).setCell ⟨b, j * 3 + 1, none⟩ (.int .i64 (cnt k m j + 1))).heap[b]? := hmk.far b hbj (by simp; omega)
  have hrc : ∀ o, w2.cell? ⟨b, o, none⟩ = ((wr.setCell ⟨b, j * 3, none⟩ (.int .i64 (cnt k m j))).setCell ⟨b, j * 3 + 1, none⟩ (.int .i64 (cnt k m j + 1))).cell? ⟨b, o, none⟩ := fun o => World.cell?_of_block hrow
  have hcell : ∀ o, o ≠ j * 3 → o ≠ j * 3 + 1 → w2.cell? ⟨b, o, none⟩ = wr.cell? ⟨b, o, none⟩ := fun o h1 h2 => by
    rw [hrc, World.cell?_setCell_other _ _ _ _ (ne_offT (by omega)), World.cell?_setCell_other _ _ _ _ (ne_offT (by omega))]
  have hfro : ∀ o, w2.frozen? ⟨b, o, none⟩ = wr.frozen? ⟨b, o, none⟩ := fun o => by
    rw [frozen_same hrow, World.frozen?_setCell, World.frozen?_setCell]
  refine ⟨?_, fun i hi => ?_, fun i h1 h2 => ?_⟩
  · exact h.marked.trans ((MkS.set hb _).trans ((MkS.set hb _).trans (hmk.mono fun q hq => (hP j hj q hq).1)))
  · by_cases hij : i = j
    · subst hij
      refine ⟨x, y, s, v, kk, a, c, hd, ?_, ?_, ?_, hhd⟩
      · rw [Nat.zero_add, hrc, World.cell?_setCell_other _ _ _ _ (ne_offT (by omega))]
        exact World.cell?_setCell_same _ _ _ hu
      · rw [Nat.zero_add, hrc]
        exact World.cell?_setCell_same _ _ _ (by rw [World.cell?_setCell_other _ _ _ _ (ne_offT (by omega))]; exact hu')
      · rw [Nat.zero_add, hcell _ (by omega) (by omega)]; exact hc2
    · obtain ⟨x', y', s', v', kk', a', c', e, d1, d2, d3, d4⟩ := h.done i (by omega)
      refine ⟨x', y', s', v', kk', a', c', e, ?_, ?_, ?_, d4.same fun q hq => hsame q (hP i (by omega) q hq).2 (hap i j (by omega) hj q hq) (Nat.lt_of_lt_of_le (hPw q (hP i (by omega) q hq).1) hwr)⟩
      · rw [Nat.zero_add] at d1 ⊢; rw [hcell _ (by omega) (by omega)]; exact d1
      · rw [Nat.zero_add] at d2 ⊢; rw [hcell _ (by omega) (by omega)]; exact d2
      · rw [Nat.zero_add] at d3 ⊢; rw [hcell _ (by omega) (by omega)]; exact d3
  · obtain ⟨x', y', s', v', kk', a', c', e, d1, d2, d3, d4, d5, d6⟩ := h.todo i (by omega) h2
    rw [Nat.zero_add] at d1 d2 d3 d4 d5
    refine ⟨x', y', s', v', kk', a', c', e, ?_, ?_, ?_, ?_, ?_, d6.keep fun q hq => ?_⟩
    · rw [Nat.zero_add, hcell _ (by omega) (by omega)]; exact d1
    · rw [Nat.zero_add, hcell _ (by omega) (by omega)]; exact d2
    · rw [Nat.zero_add, hfro]; exact d3
    · rw [Nat.zero_add, hfro]; exact d4
    · rw [Nat.zero_add, hcell _ (by omega) (by omega)]; exact d5
    · have hs := hsame q.block (hP i h2 _ hq).2 (fun hx => hap j i (by omega) h2 _ hx hq) (Nat.lt_of_lt_of_le (hPw _ (hP i h2 _ hq).1) hwr)
      exact ⟨World.cell?_of_block hs, by simp only [World.frozen?, hs]⟩

set_option maxRecDepth 100000 in
set_option maxHeartbeats 1000000 in
theorem markOwn_any (N : Nat) : ∀ (a : Option Addr) (c : Nat) (k : Fo) (P : Nat → Prop) (m : Int) (w : World), OwS w a k P → (∀ x, P x → x < w.heap.size) → fsz k ≤ N → N ≤ 1048576 → 0 ≤ m → m + 2 * (fsz k : Int) ≤ 10000000 →
    Calls Try.prog 62 #[.slice a (flen k) c, .int .i64 m] w fun e w' => e = .returned (.int .i64 (m + 2 * (fsz k : Int))) ∧ MkS P w w' ∧ HdPS w' P a k m := by
  induction N using Nat.strongRecOn with
  | _ N ih =>
    intro a c k P m w hl hPw hN hN2 hm0 hm1
    have hfl := flen_le (k := k)
    have IH := Lib.hid ih
    clear ih
    rcases hl with rfl | ⟨b, P3, rfl, hb1, hb2, hb3, htr⟩
    · simp only [flen, fsz]
      go_enter Try.func62, Try.ntmps62
      go_wp2_with fail
      go_loopw [1, 5] (fun t i wr => i = .int .i64 0 ∧ t = .int .i64 m ∧ wr = w) (fun _ _ _ => 0)
      case atStart => exact ⟨rfl, rfl, rfl⟩
      case round =>
        obtain ⟨rfl, rfl, rfl⟩ := hrel
        go_wp2_with fail
        go_ret
        exact ⟨by simp, MkS.refl _ _, .inl rfl⟩
    · obtain ⟨Ps, hs1, hap, hall⟩ := htr.at
      have HP : Hid (∀ i, i < flen k → ∀ x, Ps i x → P x ∧ x ≠ b) := fun i hi x hx => ⟨hb3 _ (hs1 i hi x hx), fun e => hb2 (e ▸ hs1 i hi x hx)⟩
      have HAP := Lib.hid hap
      have HPW := Lib.hid hPw
      have HST : Hid (MoAt w P b k Ps m 0 w) := ⟨MkS.refl _ _, fun i hi => by omega, fun i _ hi => hall i hi⟩
      have HB := Lib.hid hb1
      clear hs1 hap hall htr hPw hb1 hb2 hb3
      go_enter Try.func62, Try.ntmps62
      go_wp2_with fail
      go_loopw [1, 5] (fun t i wr => ∃ j : Nat, j ≤ flen k ∧ i = .int .i64 j ∧ t = .int .i64 (cnt k m j) ∧ MoAt w P b k Ps m j wr) (fun _ i _ => flen k - (intOf i).toNat)
      case atStart => exact ⟨0, by omega, rfl, by simp [cnt, fdrop], HST.out⟩
      case round =>
        clear HST
        obtain ⟨j, hj, rfl, rfl, hat⟩ := hrel
        by_cases hlt : j < flen k
        · obtain ⟨x, y, s', v', kk, a', c', hd, ⟨z, hx⟩, ⟨z', hy⟩, f0, f1, hc, hk⟩ := hat.todo j (Nat.le_refl _) hlt
          rw [Nat.zero_add] at hx hy f0 f1 hc
          have hkN := fsz_kid' hd
          have hdr := fsz_drop' j k
          have hwr := hat.marked.size
          have hbw := HPW.out b HB.out
          have hcn : cnt k m (j + 1) = cnt k m j + 2 + 2 * (fsz kk : Int) := by
            unfold cnt
            rw [hd]
            simp only [fsz]
            push_cast
            omega
          have hc0 : 0 ≤ cnt k m j := by unfold cnt; omega
          have hc1 : cnt k m j + 2 + 2 * (fsz kk : Int) ≤ 10000000 := by
            rw [← hcn]
            have := fsz_drop' (j + 1) k
            unfold cnt
            omega
          have HCN := Lib.hid hcn
          have HSTEP : Hid (∀ w2, MkS (Ps j) ((wr.setCell ⟨b, j * 3, none⟩ (.int .i64 (cnt k m j))).setCell ⟨b, j * 3 + 1, none⟩ (.int .i64 (cnt k m j + 1))) w2 → HdPS w2 (Ps j) a' kk (cnt k m j + 2) → MoAt w P b k Ps m (j + 1) w2) := fun w2 h1 h2 => hat.step hlt HP.out HAP.out HPW.out HB.out hd hc hx hy h1 h2
          have HK2 : Hid (OwS ((wr.setCell ⟨b, j * 3, none⟩ (.int .i64 (cnt k m j))).setCell ⟨b, j * 3 + 1, none⟩ (.int .i64 (cnt k m j + 1))) a' kk (Ps j)) :=
            hk.keep fun q hq => by
              have hqb := (HP.out j hlt _ hq).2
              exact ⟨by rw [World.cell?_setCell_other _ _ _ _ (fun e => hqb (by rw [← e])), World.cell?_setCell_other _ _ _ _ (fun e => hqb (by rw [← e]))], by rw [World.frozen?_setCell, World.frozen?_setCell]⟩
          have HPJ : Hid (∀ x, Ps j x → x < ((wr.setCell ⟨b, j * 3, none⟩ (.int .i64 (cnt k m j))).setCell ⟨b, j * 3 + 1, none⟩ (.int .i64 (cnt k m j + 1))).heap.size) := fun x hx => by
            have := HPW.out x (HP.out j hlt x hx).1
            simp
            omega
          have hb1' : (wr.setCell ⟨b, j * 3, none⟩ (.int .i64 (cnt k m j))).cell? ⟨b, j * 3 + 1, none⟩ = some (.int .i64 z') := by rw [World.cell?_setCell_other _ _ _ _ (ne_offT (by omega))]; exact hy
          have hb2' : (wr.setCell ⟨b, j * 3, none⟩ (.int .i64 (cnt k m j))).frozen? ⟨b, j * 3 + 1, none⟩ = false := by rw [World.frozen?_setCell]; exact f1
          have hb3' : ((wr.setCell ⟨b, j * 3, none⟩ (.int .i64 (cnt k m j))).setCell ⟨b, j * 3 + 1, none⟩ (.int .i64 (cnt k m j + 1))).cell? ⟨b, j * 3 + 2, none⟩ = some (.slice a' (flen kk) c') := by rw [World.cell?_setCell_other _ _ _ _ (ne_offT (by omega)), World.cell?_setCell_other _ _ _ _ (ne_offT (by omega))]; exact hc
          have g1 : (0 : Int) ≤ (j : Int) := by omega
          have g2 : (j : Int) < (flen k : Int) := by omega
          clear hd hk hat hcn hc hy
          generalize cnt k m j = l at *
          go_wp2_with fail
          with_reducible refine (IH.out (fsz kk) (by omega) a' c' kk (Ps j) (l + 1 + 1) _ HK2.out HPJ.out (Nat.le_refl _) (by omega) (by omega) (by omega)).mono ?_
          rintro e w2 ⟨rfl, hmk2, hhd2⟩
          have e2 : l + 1 + 1 = l + 2 := by omega
          rw [e2] at hhd2
          have HM4 := Lib.hid (HSTEP.out w2 hmk2 hhd2)
          clear hmk2 hhd2 hx hb1' hb2' hb3' f0 f1 HSTEP
          go_wp2_with fail
          go_roundw
          case rel => exact ⟨j + 1, by omega, by go_num, by rw [HCN.out], HM4.out⟩
          case measure => simp [intOf]; omega
        · have hje : j = flen k := by omega
          subst hje
          have HE : Hid (cnt k m (flen k) = m + 2 * (fsz k : Int)) := by
            unfold Hid cnt
            rw [fdrop_all (Nat.le_refl _)]
            simp [fsz]
          have HF : Hid (HdPS wr P (some ⟨b, 0, none⟩) k m) := .inr ⟨b, rfl, hdP_of_all k b 0 m HB.out fun i hi => by
            obtain ⟨x', y', s', v', kk', a', c', e, d1, d2, d3, d4⟩ := hat.done i hi
            exact ⟨x', y', s', v', kk', a', c', e, d1, d2, d3, d4.mono fun q hq => (HP.out i hi q hq).1⟩⟩
          have HMK := Lib.hid hat.marked
          clear hat
          go_wp2_with fail
          go_ret
          exact ⟨by rw [← HE.out]; rfl, HMK.out, HF.out⟩

set_option maxRecDepth 100000 in
set_option maxHeartbeats 1000000 in
theorem markTermOwn_any (s v : Int) (a : Option Addr) (c : Nat) (k : Fo) (P : Nat → Prop) (lo B : Nat) (m : Int) (w : World) (hl : OwS w a k P) (hP : ∀ x, P x → lo ≤ x ∧ x < B) (hN : fsz k ≤ 1048576) (hm0 : 0 ≤ m) (hm1 : m + 2 * (fsz k : Int) ≤ 10000000) (hlo : lo ≤ B) (hB : B ≤ w.heap.size) :
    Calls Try.prog 22 #[.agg #[.int .i64 s, .int .i64 v, .slice a (flen k) c], .int .i64 m] w fun e w' => e = .returned (.int .i64 (m + 2 * (fsz k : Int))) ∧ Below lo w w' ∧ (∀ q, B ≤ q → q < w.heap.size → w'.heap[q]? = w.heap[q]?) ∧ HdS w' lo B a k m := by
  have HB0 : Hid (Below w.heap.size w (w.alloc (.cells #[.int .i64 s, .int .i64 v, .slice a (flen k) c] 35))) := (Below.refl _ _).alloc (Nat.le_refl _) _
  have HS : Hid (OwS (w.alloc (.cells #[.int .i64 s, .int .i64 v, .slice a (flen k) c] 35)) a k P) := hl.keep fun q hq => ⟨HB0.out.cell (by have := hP _ hq; omega), HB0.out.frozen (by have := hP _ hq; omega)⟩
  have HPL : Hid (∀ x, P x → x < (w.alloc (.cells #[.int .i64 s, .int .i64 v, .slice a (flen k) c] 35)).heap.size) := fun x hx => by have := hP x hx; simp; omega
  have HP := Lib.hid hP
  clear hl hP
  go_enter Try.func22, Try.ntmps22
  go_wp2_with fail
  with_reducible refine (markOwn_any (fsz k) a c k P m _ HS.out HPL.out (Nat.le_refl _) hN hm0 hm1).mono ?_
  rintro e w2 ⟨rfl, hmk2, hhd2⟩
  have HM2 : Hid (MkS P w w2) := (MkS.of_below HB0.out).trans hmk2
  have HH2 : Hid (HdS w2 lo B a k m) := hhd2.hd HP.out
  clear hmk2 hhd2
  go_wp2_with fail
  go_ret
  exact ⟨rfl, HM2.out.below (fun q hq => (HP.out q hq).1) (by omega), fun q h1 h2 => HM2.out.far q (fun hq => by have := HP.out q hq; omega) h2, HH2.out⟩
end Go.Proofs.Ytoafleckcjanaaa

/-! XW: What the walks of exact laws hold on to: parameters, answers of the specification, copies that are marked, answers of the program. Plain lemmas. -/
namespace Go.Proofs.Ytoafleckcjanaaa
open Go.RowKit Go.Deep

/-- A box of a term; all in blocks below n. -/
structure Tq (n b : Nat) (s v : Int) (a : Option Addr) (c : Nat) (k : Fo) (w : World) : Prop where
  c0 : w.cell? ⟨b, 0, none⟩ = some (.int .i64 s)
  c1 : w.cell? ⟨b, 1, none⟩ = some (.int .i64 v)
  c2 : w.cell? ⟨b, 2, none⟩ = some (.slice a (flen k) c)
  lt : b < n
  sl : Sl w 0 n a k
  le : n ≤ w.heap.size
theorem Tq.go {n b : Nat} {s v : Int} {a : Option Addr} {c : Nat} {k : Fo} {w w2 : World} {B : Nat} (h : Tq n b s v a c k w) (hb : Below B w w2) (hB : n ≤ B) : Tq n b s v a c k w2 := by
  have hlt := h.lt
  exact ⟨by rw [hb.cell (show b < B by omega)]; exact h.c0, by rw [hb.cell (show b < B by omega)]; exact h.c1, by rw [hb.cell (show b < B by omega)]; exact h.c2, h.lt, h.sl.below (hb.mono hB), Nat.le_trans h.le hb.size⟩
theorem Tq.next {n b : Nat} {s v : Int} {a : Option Addr} {c : Nat} {k : Fo} {w w2 : World} (h : Tq n b s v a c k w) (hb : Below w.heap.size w w2) : Tq n b s v a c k w2 := h.go hb h.le
theorem Tq.top {n b : Nat} {s v : Int} {a : Option Addr} {c : Nat} {k : Fo} {w : World} (h : Tq n b s v a c k w) : Sl w 0 w.heap.size a k := h.sl.mono (Nat.le_refl _) h.le
/-- A row of binds; all in blocks below n. -/
structure Rw (n : Nat) (bs : List Bd) (A : Option Addr) (w : World) : Prop where
  sl : BSl w 0 n A bs
  le : n ≤ w.heap.size
theorem Rw.go {n : Nat} {bs : List Bd} {A : Option Addr} {w w2 : World} {B : Nat} (h : Rw n bs A w) (hb : Below B w w2) (hB : n ≤ B) : Rw n bs A w2 := ⟨h.sl.below (hb.mono hB), Nat.le_trans h.le hb.size⟩
theorem Rw.next {n : Nat} {bs : List Bd} {A : Option Addr} {w w2 : World} (h : Rw n bs A w) (hb : Below w.heap.size w w2) : Rw n bs A w2 := h.go hb h.le
theorem Rw.top {n : Nat} {bs : List Bd} {A : Option Addr} {w : World} (h : Rw n bs A w) : BSl w 0 w.heap.size A bs := h.sl.mono (Nat.le_refl _) h.le
/-- A box of a term that lies in blocks of its own. -/
structure Xb (lo hi b : Nat) (s v : Int) (a : Option Addr) (c : Nat) (k : Fo) (w : World) : Prop where
  c0 : w.cell? ⟨b, 0, none⟩ = some (.int .i64 s)
  c1 : w.cell? ⟨b, 1, none⟩ = some (.int .i64 v)
  c2 : w.cell? ⟨b, 2, none⟩ = some (.slice a (flen k) c)
  sx : SX w lo hi a k
  lh : lo ≤ hi
  hb : hi ≤ b
  lt : b < w.heap.size
theorem Xb.next {lo hi b : Nat} {s v : Int} {a : Option Addr} {c : Nat} {k : Fo} {w w2 : World} (h : Xb lo hi b s v a c k w) (hb : Below w.heap.size w w2) : Xb lo hi b s v a c k w2 := by
  have h1 := h.hb
  have h2 := h.lt
  exact ⟨cell_low hb h.c0, cell_low hb h.c1, cell_low hb h.c2, h.sx.same (Same.of_below (hb.mono (by omega))), h.lh, h.hb, Nat.lt_of_lt_of_le h.lt hb.size⟩
theorem Xb.far {lo hi b : Nat} {s v : Int} {a : Option Addr} {c : Nat} {k : Fo} {w w2 : World} {lo' hi' : Nat} (h : Xb lo hi b s v a c k w) (hm : Marked lo' hi' w w2) (hd : hi' ≤ lo) : Xb lo hi b s v a c k w2 := by
  have h0 := h.lh
  have h1 := h.hb
  have h2 := h.lt
  have e := hm.far b (by omega) h2
  exact ⟨by rw [World.cell?_of_block (a := ⟨b, 0, none⟩) e]; exact h.c0, by rw [World.cell?_of_block (a := ⟨b, 1, none⟩) e]; exact h.c1, by rw [World.cell?_of_block (a := ⟨b, 2, none⟩) e]; exact h.c2, h.sx.same (fun q q1 q2 => hm.far q (by omega) (by omega)), h.lh, h.hb, Nat.lt_of_lt_of_le h.lt hm.below.size⟩
theorem Xb.top {lo hi b : Nat} {s v : Int} {a : Option Addr} {c : Nat} {k : Fo} {w : World} (h : Xb lo hi b s v a c k w) : Sl w 0 w.heap.size a k := h.sx.1.mono (Nat.zero_le _) (by have := h.hb; have := h.lt; omega)
/-- A box of a copy, made behind it. -/
theorem Xb.new {s v : Int} {a : Option Addr} {c : Nat} {k : Fo} {w : World} {lo : Nat} (h : SX w lo w.heap.size a k) (hl : lo ≤ w.heap.size) (T : TypeId) : Xb lo w.heap.size w.heap.size s v a c k (w.alloc (.cells #[.int .i64 s, .int .i64 v, .slice a (flen k) c] T)) := by
  have hb : Below w.heap.size w (w.alloc (.cells #[.int .i64 s, .int .i64 v, .slice a (flen k) c] T)) := (Below.refl _ _).alloc (Nat.le_refl _) _
  refine ⟨?_, ?_, ?_, h.same (Same.of_below hb), hl, Nat.le_refl _, by simp⟩
  · rw [World.cell?_alloc_at _ _ _ _ (by simp)]; rfl
  · rw [World.cell?_alloc_at _ _ _ _ (by simp)]; rfl
  · rw [World.cell?_alloc_at _ _ _ _ (by simp)]; rfl
/-- A row of binds of the answer's own. -/
structure Gx (lo hi : Nat) (bs : List Bd) (A : Option Addr) (w : World) : Prop where
  bx : BX w lo hi bs A
  le : hi ≤ w.heap.size
theorem Gx.next {lo hi : Nat} {bs : List Bd} {A : Option Addr} {w w2 : World} (h : Gx lo hi bs A w) (hb : Below w.heap.size w w2) : Gx lo hi bs A w2 := ⟨h.bx.same (Same.of_below (hb.mono h.le)), Nat.le_trans h.le hb.size⟩
theorem Gx.far {lo hi : Nat} {bs : List Bd} {A : Option Addr} {w w2 : World} {lo' hi' : Nat} (h : Gx lo hi bs A w) (hm : Marked lo' hi' w w2) (hd : hi' ≤ lo) : Gx lo hi bs A w2 :=
  ⟨h.bx.same (fun q q1 q2 => hm.far q (by omega) (by have := h.le; omega)), Nat.le_trans h.le hm.below.size⟩
theorem Gx.top {lo hi : Nat} {bs : List Bd} {A : Option Addr} {w : World} (h : Gx lo hi bs A w) : BSl w 0 w.heap.size A bs := h.bx.bsl.mono (Nat.zero_le _) h.le
/-- A row of the answer's own that holds numbers from m on. -/
structure Gh (lo hi : Nat) (bs : List Bd) (A : Option Addr) (m : Int) (w : World) : Prop where
  bh : BH w lo hi bs A m
  le : hi ≤ w.heap.size
theorem Gh.next {lo hi : Nat} {bs : List Bd} {A : Option Addr} {m : Int} {w w2 : World} (h : Gh lo hi bs A m w) (hb : Below w.heap.size w w2) : Gh lo hi bs A m w2 := ⟨h.bh.same (Same.of_below (hb.mono h.le)), Nat.le_trans h.le hb.size⟩
theorem low_next {w0 w w2 : World} (h : Below w0.heap.size w0 w) (hb : Below w.heap.size w w2) : Below w0.heap.size w0 w2 := h.trans (hb.mono h.size)
theorem mcn_small : ∀ {bs : List Bd}, bs.length ≤ 100 → (∀ x ∈ bs, fsz x.2.2.2 ≤ 15) → mcn bs ≤ 33 * (bs.length : Int)
  | [], _, _ => by simp [mcn]
  | x :: r, hl, hz => by
    have h1 := mcn_small (bs := r) (by simp at hl; omega) fun y hy => hz y (List.mem_cons_of_mem _ hy)
    have h2 := hz x List.mem_cons_self
    simp only [mcn, List.length_cons]
    omega
end Go.Proofs.Ytoafleckcjanaaa

/-! XW2: What the walks of exact laws hold on to: boxes of answers. Plain lemmas. -/
namespace Go.Proofs.Ytoafleckcjanaaa
open Go.RowKit Go.Deep

/-- A box of a term of the answer's own. -/
structure Yb (lo hi b : Nat) (s v : Int) (a : Option Addr) (c : Nat) (k : Fo) (w : World) : Prop where
  c0 : w.cell? ⟨b, 0, none⟩ = some (.int .i64 s)
  c1 : w.cell? ⟨b, 1, none⟩ = some (.int .i64 v)
  c2 : w.cell? ⟨b, 2, none⟩ = some (.slice a (flen k) c)
  tx : TX w lo hi a k
  lh : lo ≤ hi
  hb : hi ≤ b
  lt : b < w.heap.size
theorem Yb.next {lo hi b : Nat} {s v : Int} {a : Option Addr} {c : Nat} {k : Fo} {w w2 : World} (h : Yb lo hi b s v a c k w) (hb : Below w.heap.size w w2) : Yb lo hi b s v a c k w2 := by
  have h1 := h.hb
  have h2 := h.lt
  exact ⟨cell_low hb h.c0, cell_low hb h.c1, cell_low hb h.c2, h.tx.same (Same.of_below (hb.mono (by omega))), h.lh, h.hb, Nat.lt_of_lt_of_le h.lt hb.size⟩
theorem Yb.far {lo hi b : Nat} {s v : Int} {a : Option Addr} {c : Nat} {k : Fo} {w w2 : World} {lo' hi' : Nat} (h : Yb lo hi b s v a c k w) (hm : Marked lo' hi' w w2) (hd : hi' ≤ lo) : Yb lo hi b s v a c k w2 := by
  have h0 := h.lh
  have h1 := h.hb
  have h2 := h.lt
  have e := hm.far b (by omega) h2
  exact ⟨by rw [World.cell?_of_block (a := ⟨b, 0, none⟩) e]; exact h.c0, by rw [World.cell?_of_block (a := ⟨b, 1, none⟩) e]; exact h.c1, by rw [World.cell?_of_block (a := ⟨b, 2, none⟩) e]; exact h.c2, h.tx.same (fun q q1 q2 => hm.far q (by omega) (by omega)), h.lh, h.hb, Nat.lt_of_lt_of_le h.lt hm.below.size⟩
theorem Yb.top {lo hi b : Nat} {s v : Int} {a : Option Addr} {c : Nat} {k : Fo} {w : World} (h : Yb lo hi b s v a c k w) : Sl w 0 w.heap.size a k := h.tx.1.mono (Nat.zero_le _) (by have := h.hb; have := h.lt; omega)
theorem Yb.new {s v : Int} {a : Option Addr} {c : Nat} {k : Fo} {w : World} {lo : Nat} (h : TX w lo w.heap.size a k) (hl : lo ≤ w.heap.size) (T : TypeId) : Yb lo w.heap.size w.heap.size s v a c k (w.alloc (.cells #[.int .i64 s, .int .i64 v, .slice a (flen k) c] T)) := by
  have hb : Below w.heap.size w (w.alloc (.cells #[.int .i64 s, .int .i64 v, .slice a (flen k) c] T)) := (Below.refl _ _).alloc (Nat.le_refl _) _
  refine ⟨?_, ?_, ?_, h.same (Same.of_below hb), hl, Nat.le_refl _, by simp⟩
  · rw [World.cell?_alloc_at _ _ _ _ (by simp)]; rfl
  · rw [World.cell?_alloc_at _ _ _ _ (by simp)]; rfl
  · rw [World.cell?_alloc_at _ _ _ _ (by simp)]; rfl
/-- The same, its tree holding numbers from m on. -/
structure Yh (lo hi b : Nat) (s v : Int) (a : Option Addr) (c : Nat) (k : Fo) (m : Int) (w : World) : Prop where
  c0 : w.cell? ⟨b, 0, none⟩ = some (.int .i64 s)
  c1 : w.cell? ⟨b, 1, none⟩ = some (.int .i64 v)
  c2 : w.cell? ⟨b, 2, none⟩ = some (.slice a (flen k) c)
  hd : HdS w lo hi a k m
  lh : lo ≤ hi
  hb : hi ≤ b
  lt : b < w.heap.size
theorem Yh.next {lo hi b : Nat} {s v : Int} {a : Option Addr} {c : Nat} {k : Fo} {m : Int} {w w2 : World} (h : Yh lo hi b s v a c k m w) (hb : Below w.heap.size w w2) : Yh lo hi b s v a c k m w2 := by
  have h1 := h.hb
  have h2 := h.lt
  exact ⟨cell_low hb h.c0, cell_low hb h.c1, cell_low hb h.c2, h.hd.same (Same.of_below (hb.mono (by omega))), h.lh, h.hb, Nat.lt_of_lt_of_le h.lt hb.size⟩
theorem Yh.far {lo hi b : Nat} {s v : Int} {a : Option Addr} {c : Nat} {k : Fo} {m : Int} {w w2 : World} {top : Nat} (h : Yh lo hi b s v a c k m w) (hs : w.heap.size ≤ w2.heap.size) (hm : ∀ q, top ≤ q → q < w.heap.size → w2.heap[q]? = w.heap[q]?) (hd : top ≤ lo) : Yh lo hi b s v a c k m w2 := by
  have h0 := h.lh
  have h1 := h.hb
  have h2 := h.lt
  have e := hm b (by omega) h2
  exact ⟨by rw [World.cell?_of_block (a := ⟨b, 0, none⟩) e]; exact h.c0, by rw [World.cell?_of_block (a := ⟨b, 1, none⟩) e]; exact h.c1, by rw [World.cell?_of_block (a := ⟨b, 2, none⟩) e]; exact h.c2, h.hd.same (fun q q1 q2 => hm q (by omega) (by omega)), h.lh, h.hb, Nat.lt_of_lt_of_le h.lt hs⟩
theorem Yb.held {lo hi b : Nat} {s v : Int} {a : Option Addr} {c : Nat} {k : Fo} {m : Int} {w w2 : World} (h : Yb lo hi b s v a c k w) (hm : Marked lo hi w w2) (hd : HdS w2 lo hi a k m) : Yh lo hi b s v a c k m w2 := by
  have h1 := h.hb
  have h2 := h.lt
  have e := hm.far b h1 h2
  exact ⟨by rw [World.cell?_of_block (a := ⟨b, 0, none⟩) e]; exact h.c0, by rw [World.cell?_of_block (a := ⟨b, 1, none⟩) e]; exact h.c1, by rw [World.cell?_of_block (a := ⟨b, 2, none⟩) e]; exact h.c2, hd, h.lh, h.hb, Nat.lt_of_lt_of_le h.lt hm.below.size⟩
theorem Gx.low {lo hi : Nat} {bs : List Bd} {A : Option Addr} {w w2 : World} {B : Nat} (h : Gx lo hi bs A w) (hb : Below B w w2) (hB : hi ≤ B) : Gx lo hi bs A w2 := ⟨h.bx.same (Same.of_below (hb.mono hB)), Nat.le_trans h.le hb.size⟩
end Go.Proofs.Ytoafleckcjanaaa

/-! XLw: What the walks of the exact laws of links hold on to: rows of equations, boxes of links, copies of both, an answer of one's own. Plain lemmas. -/
namespace Go.Proofs.Ytoafleckcjanaaa
open Go.RowKit Go.Deep

/-- A row of equations; all in blocks below n. -/
structure Eqr (n : Nat) (es : List Eqd) (A : Option Addr) (w : World) : Prop where
  sl : ESl w 0 n A es
  le : n ≤ w.heap.size
theorem Eqr.go {n : Nat} {es : List Eqd} {A : Option Addr} {w w2 : World} {B : Nat} (h : Eqr n es A w) (hb : Below B w w2) (hB : n ≤ B) : Eqr n es A w2 :=
  ⟨h.sl.same (Same.of_below (hb.mono hB)), Nat.le_trans h.le hb.size⟩
theorem Eqr.next {n : Nat} {es : List Eqd} {A : Option Addr} {w w2 : World} (h : Eqr n es A w) (hb : Below w.heap.size w w2) : Eqr n es A w2 := h.go hb h.le
theorem Eqr.top {n : Nat} {es : List Eqd} {A : Option Addr} {w : World} (h : Eqr n es A w) : ESl w 0 w.heap.size A es := h.sl.mono (Nat.le_refl _) h.le
/-- A box of a link; all in blocks below n. -/
structure Lq (n b : Nat) (eq : Int) (back : Bool) (pA : Option Addr) (pC : Nat) (place : List Int) (B : Option Addr) (D : Nat) (bs : List Bd) (w : World) : Prop where
  c0 : w.cell? ⟨b, 0, none⟩ = some (.int .i64 eq)
  c1 : w.cell? ⟨b, 1, none⟩ = some (.bool back)
  c2 : w.cell? ⟨b, 2, none⟩ = some (.slice pA place.length pC)
  c3 : w.cell? ⟨b, 3, none⟩ = some (.slice B bs.length D)
  lt : b < n
  ps : ISl w 0 n pA place
  sl : BSl w 0 n B bs
  le : n ≤ w.heap.size
theorem Lq.go {n b : Nat} {eq : Int} {back : Bool} {pA : Option Addr} {pC : Nat} {place : List Int} {B : Option Addr} {D : Nat} {bs : List Bd} {w w2 : World} {N : Nat} (h : Lq n b eq back pA pC place B D bs w) (hb : Below N w w2) (hN : n ≤ N) : Lq n b eq back pA pC place B D bs w2 := by
  have hlt := h.lt
  exact ⟨by rw [hb.cell (show b < N by omega)]; exact h.c0, by rw [hb.cell (show b < N by omega)]; exact h.c1, by rw [hb.cell (show b < N by omega)]; exact h.c2, by rw [hb.cell (show b < N by omega)]; exact h.c3, h.lt, h.ps.same (Same.of_below (hb.mono hN)), h.sl.below (hb.mono hN), Nat.le_trans h.le hb.size⟩
theorem Lq.next {n b : Nat} {eq : Int} {back : Bool} {pA : Option Addr} {pC : Nat} {place : List Int} {B : Option Addr} {D : Nat} {bs : List Bd} {w w2 : World} (h : Lq n b eq back pA pC place B D bs w) (hb : Below w.heap.size w w2) : Lq n b eq back pA pC place B D bs w2 := h.go hb h.le
theorem Lq.topI {n b : Nat} {eq : Int} {back : Bool} {pA : Option Addr} {pC : Nat} {place : List Int} {B : Option Addr} {D : Nat} {bs : List Bd} {w : World} (h : Lq n b eq back pA pC place B D bs w) : ISl w 0 w.heap.size pA place := h.ps.mono (Nat.le_refl _) h.le
theorem Lq.topB {n b : Nat} {eq : Int} {back : Bool} {pA : Option Addr} {pC : Nat} {place : List Int} {B : Option Addr} {D : Nat} {bs : List Bd} {w : World} (h : Lq n b eq back pA pC place B D bs w) : BSl w 0 w.heap.size B bs := h.sl.mono (Nat.le_refl _) h.le
/-- A copy of a row of equations. -/
structure Ec (lo hi : Nat) (es : List Eqd) (A : Option Addr) (w : World) : Prop where
  ex : EX w lo hi es A
  le : hi ≤ w.heap.size
theorem Ec.next {lo hi : Nat} {es : List Eqd} {A : Option Addr} {w w2 : World} (h : Ec lo hi es A w) (hb : Below w.heap.size w w2) : Ec lo hi es A w2 := ⟨h.ex.same (Same.of_below (hb.mono h.le)), Nat.le_trans h.le hb.size⟩
theorem Ec.top {lo hi : Nat} {es : List Eqd} {A : Option Addr} {w : World} (h : Ec lo hi es A w) : ESl w 0 w.heap.size A es := h.ex.esl.mono (Nat.zero_le _) h.le
/-- A box of a copied term survives what is written below. -/
theorem Xb.farL {lo hi b : Nat} {s v : Int} {a : Option Addr} {c : Nat} {k : Fo} {w w2 : World} {top : Nat} (h : Xb lo hi b s v a c k w) (hs : w.heap.size ≤ w2.heap.size) (hm : ∀ q, top ≤ q → q < w.heap.size → w2.heap[q]? = w.heap[q]?) (hd : top ≤ lo) : Xb lo hi b s v a c k w2 := by
  have h0 := h.lh
  have h1 := h.hb
  have h2 := h.lt
  have e := hm b (by omega) h2
  exact ⟨by rw [World.cell?_of_block (a := ⟨b, 0, none⟩) e]; exact h.c0, by rw [World.cell?_of_block (a := ⟨b, 1, none⟩) e]; exact h.c1, by rw [World.cell?_of_block (a := ⟨b, 2, none⟩) e]; exact h.c2, h.sx.same (fun q q1 q2 => hm q (by omega) (by omega)), h.lh, h.hb, Nat.lt_of_lt_of_le h.lt hs⟩
/-- A row of numbers of one's own stays when its block does. -/
theorem IOwn.at' {w w2 : World} {base : Nat} {xs : List Int} {A : Option Addr} {C : Nat} (h : IOwn w base xs A C) (hg : ∀ g, (Value.slice A xs.length C).ownBlock = some g → w2.heap[g]? = w.heap[g]?) : IOwn w2 base xs A C := by
  obtain ⟨h1, h2⟩ := h
  refine ⟨h1, ?_⟩
  rcases h2 with h2 | ⟨g, cap, cur, hv, e, h4, h5, h6⟩
  · exact .inl h2
  · exact .inr ⟨g, cap, cur, hv, e, (hg g (by rw [hv]; rfl)).trans h4, h5, h6⟩
/-- A box of a copied link: the place in blocks from lo, the binds from M on, the box behind them. -/
structure Lx (lo M hi b : Nat) (eq : Int) (back : Bool) (pA : Option Addr) (pC : Nat) (place : List Int) (B : Option Addr) (D : Nat) (bs : List Bd) (w : World) : Prop where
  c0 : w.cell? ⟨b, 0, none⟩ = some (.int .i64 eq)
  c1 : w.cell? ⟨b, 1, none⟩ = some (.bool back)
  c2 : w.cell? ⟨b, 2, none⟩ = some (.slice pA place.length pC)
  c3 : w.cell? ⟨b, 3, none⟩ = some (.slice B bs.length D)
  io : IOwn w lo place pA pC
  ig : ∀ g, (Value.slice pA place.length pC).ownBlock = some g → lo ≤ g ∧ g < M
  bs : BS w M hi bs B
  lM : lo ≤ M
  Mh : M ≤ hi
  hb : hi ≤ b
  lt : b < w.heap.size
theorem Lx.new {lo M : Nat} {eq : Int} {back : Bool} {pA : Option Addr} {pC : Nat} {place : List Int} {B : Option Addr} {D : Nat} {bs : List Bd} {w : World} (h1 : lo ≤ M) (h2 : M ≤ w.heap.size) (hi : IOwn w lo place pA pC) (hg : ∀ g, (Value.slice pA place.length pC).ownBlock = some g → lo ≤ g ∧ g < M) (hb : BS w M w.heap.size bs B) (T : TypeId) : Lx lo M w.heap.size w.heap.size eq back pA pC place B D bs (w.alloc (.cells #[.int .i64 eq, .bool back, .slice pA place.length pC, .slice B bs.length D] T)) := by
  have hl := box_low w (.cells #[.int .i64 eq, .bool back, .slice pA place.length pC, .slice B bs.length D] T)
  refine ⟨?_, ?_, ?_, ?_, hi.low hl, hg, hb.same (Same.of_below hl), h1, h2, Nat.le_refl _, by simp⟩
  all_goals rw [World.cell?_alloc_at _ _ _ _ (by simp)]; rfl
theorem Lx.next {lo M hi b : Nat} {eq : Int} {back : Bool} {pA : Option Addr} {pC : Nat} {place : List Int} {B : Option Addr} {D : Nat} {bs : List Bd} {w w2 : World} (h : Lx lo M hi b eq back pA pC place B D bs w) (hb : Below w.heap.size w w2) : Lx lo M hi b eq back pA pC place B D bs w2 := by
  have h1 := h.hb
  have h2 := h.lt
  exact ⟨cell_low hb h.c0, cell_low hb h.c1, cell_low hb h.c2, cell_low hb h.c3, h.io.low hb, h.ig, h.bs.same (Same.of_below (hb.mono (by omega))), h.lM, h.Mh, h.hb, Nat.lt_of_lt_of_le h.lt hb.size⟩
theorem Lx.farL {lo M hi b : Nat} {eq : Int} {back : Bool} {pA : Option Addr} {pC : Nat} {place : List Int} {B : Option Addr} {D : Nat} {bs : List Bd} {w w2 : World} {top : Nat} (h : Lx lo M hi b eq back pA pC place B D bs w) (hs : w.heap.size ≤ w2.heap.size) (hm : ∀ q, top ≤ q → q < w.heap.size → w2.heap[q]? = w.heap[q]?) (hd : top ≤ lo) : Lx lo M hi b eq back pA pC place B D bs w2 := by
  have h0 := h.lM
  have h1 := h.hb
  have h2 := h.lt
  have h3 := h.Mh
  have e := hm b (by omega) h2
  exact ⟨by rw [World.cell?_of_block (a := ⟨b, 0, none⟩) e]; exact h.c0, by rw [World.cell?_of_block (a := ⟨b, 1, none⟩) e]; exact h.c1, by rw [World.cell?_of_block (a := ⟨b, 2, none⟩) e]; exact h.c2, by rw [World.cell?_of_block (a := ⟨b, 3, none⟩) e]; exact h.c3, h.io.at' (fun g hg => by have := h.ig g hg; exact hm g (by omega) (by omega)), h.ig, h.bs.same (fun q q1 q2 => hm q (by omega) (by omega)), h.lM, h.Mh, h.hb, Nat.lt_of_lt_of_le h.lt hs⟩
theorem Lx.topI {lo M hi b : Nat} {eq : Int} {back : Bool} {pA : Option Addr} {pC : Nat} {place : List Int} {B : Option Addr} {D : Nat} {bs : List Bd} {w : World} (h : Lx lo M hi b eq back pA pC place B D bs w) : ISl w 0 w.heap.size pA place := h.io.sl.mono (Nat.zero_le _) (Nat.le_refl _)
theorem Lx.topB {lo M hi b : Nat} {eq : Int} {back : Bool} {pA : Option Addr} {pC : Nat} {place : List Int} {B : Option Addr} {D : Nat} {bs : List Bd} {w : World} (h : Lx lo M hi b eq back pA pC place B D bs w) : BSl w 0 w.heap.size B bs := h.bs.bsl.mono (Nat.zero_le _) (by have := h.hb; have := h.lt; omega)
/-- A box of a term whose memory is its own. -/
structure Yo (lo hi b : Nat) (s v : Int) (a : Option Addr) (c : Nat) (k : Fo) (P : Nat → Prop) (w : World) : Prop where
  c0 : w.cell? ⟨b, 0, none⟩ = some (.int .i64 s)
  c1 : w.cell? ⟨b, 1, none⟩ = some (.int .i64 v)
  c2 : w.cell? ⟨b, 2, none⟩ = some (.slice a (flen k) c)
  ow : OwS w a k P
  pp : ∀ x, P x → lo ≤ x ∧ x < hi
  lh : lo ≤ hi
  hb : hi ≤ b
  lt : b < w.heap.size
theorem Yo.keep {lo hi b : Nat} {s v : Int} {a : Option Addr} {c : Nat} {k : Fo} {P : Nat → Prop} {w w2 : World} (h : Yo lo hi b s v a c k P w) (hs : w.heap.size ≤ w2.heap.size) (hm : ∀ q, lo ≤ q → q < w.heap.size → w2.heap[q]? = w.heap[q]?) : Yo lo hi b s v a c k P w2 := by
  have h0 := h.lh
  have h1 := h.hb
  have h2 := h.lt
  have e := hm b (by omega) h2
  refine ⟨by rw [World.cell?_of_block (a := ⟨b, 0, none⟩) e]; exact h.c0, by rw [World.cell?_of_block (a := ⟨b, 1, none⟩) e]; exact h.c1, by rw [World.cell?_of_block (a := ⟨b, 2, none⟩) e]; exact h.c2, h.ow.keep fun q hq => ?_, h.pp, h.lh, h.hb, Nat.lt_of_lt_of_le h.lt hs⟩
  have hp := h.pp _ hq
  have e2 := hm q.block hp.1 (by omega)
  exact ⟨World.cell?_of_block e2, by simp only [World.frozen?, e2]⟩
theorem Yo.next {lo hi b : Nat} {s v : Int} {a : Option Addr} {c : Nat} {k : Fo} {P : Nat → Prop} {w w2 : World} (h : Yo lo hi b s v a c k P w) (hb : Below w.heap.size w w2) : Yo lo hi b s v a c k P w2 := h.keep hb.size fun q _ h2 => hb.block q h2
theorem Yo.farL {lo hi b : Nat} {s v : Int} {a : Option Addr} {c : Nat} {k : Fo} {P : Nat → Prop} {w w2 : World} {top : Nat} (h : Yo lo hi b s v a c k P w) (hs : w.heap.size ≤ w2.heap.size) (hm : ∀ q, top ≤ q → q < w.heap.size → w2.heap[q]? = w.heap[q]?) (hd : top ≤ lo) : Yo lo hi b s v a c k P w2 := h.keep hs fun q h1 h2 => hm q (by omega) h2
theorem Yo.top {lo hi b : Nat} {s v : Int} {a : Option Addr} {c : Nat} {k : Fo} {P : Nat → Prop} {w : World} (h : Yo lo hi b s v a c k P w) : Sl w 0 w.heap.size a k := (h.ow.sl h.pp).mono (Nat.zero_le _) (by have := h.hb; have := h.lt; omega)
theorem Yo.new {lo : Nat} {s v : Int} {a : Option Addr} {c : Nat} {k : Fo} {P : Nat → Prop} {w : World} (h : OwS w a k P) (hP : ∀ x, P x → lo ≤ x ∧ x < w.heap.size) (hl : lo ≤ w.heap.size) (T : TypeId) : Yo lo w.heap.size w.heap.size s v a c k P (w.alloc (.cells #[.int .i64 s, .int .i64 v, .slice a (flen k) c] T)) := by
  have hb := box_low w (.cells #[.int .i64 s, .int .i64 v, .slice a (flen k) c] T)
  refine ⟨?_, ?_, ?_, h.keep fun q hq => ⟨hb.cell (hP _ hq).2, hb.frozen (hP _ hq).2⟩, hP, hl, Nat.le_refl _, by simp⟩
  all_goals rw [World.cell?_alloc_at _ _ _ _ (by simp)]; rfl
theorem Yo.held {lo hi b : Nat} {s v : Int} {a : Option Addr} {c : Nat} {k : Fo} {P : Nat → Prop} {m : Int} {w w2 : World} (h : Yo lo hi b s v a c k P w) (hs : w.heap.size ≤ w2.heap.size) (hm : ∀ q, hi ≤ q → q < w.heap.size → w2.heap[q]? = w.heap[q]?) (hd : HdS w2 lo hi a k m) : Yh lo hi b s v a c k m w2 := by
  have h1 := h.hb
  have h2 := h.lt
  have e := hm b h1 h2
  exact ⟨by rw [World.cell?_of_block (a := ⟨b, 0, none⟩) e]; exact h.c0, by rw [World.cell?_of_block (a := ⟨b, 1, none⟩) e]; exact h.c1, by rw [World.cell?_of_block (a := ⟨b, 2, none⟩) e]; exact h.c2, hd, h.lh, h.hb, Nat.lt_of_lt_of_le h.lt hs⟩
theorem mch_hlf : ∀ es : List Eqd, mch (hlf es) = 4 * (es.length : Int) + 2 * (szQ es : Int)
  | [] => by simp [mch, hlf, szQ]
  | x :: r => by
    have := mch_hlf r
    simp only [hlf, mch, szQ, fszE, List.length_cons] at this ⊢
    push_cast at this ⊢
    omega
end Go.Proofs.Ytoafleckcjanaaa

/-! SP2: - The specification's SubstOk. -/
namespace Go.Proofs.Ytoafleckcjanaaa
open Go.RowKit Go.Deep

theorem sok_len {room : Int} : ∀ (bs : List Bd) (last : Int), last < 12 → sokFrom room last bs = true → last + bs.length < 12
  | [], _, h, _ => by simpa using h
  | x :: r, last, _, hs => by
    simp only [sokFrom, Bool.and_eq_true, decide_eq_true_eq] at hs
    have := sok_len r x.1 hs.2.2.1 hs.2.2.2
    simp only [List.length_cons]
    omega
theorem drop_bd2 {bs : List Bd} {j : Nat} {x : Bd} (h : bs[j]? = some x) : bs.drop j = x :: bs.drop (j + 1) := by
  obtain ⟨hj, rfl⟩ := List.getElem?_eq_some_iff.1 h
  exact List.drop_eq_getElem_cons hj

end Go.Proofs.Ytoafleckcjanaaa
