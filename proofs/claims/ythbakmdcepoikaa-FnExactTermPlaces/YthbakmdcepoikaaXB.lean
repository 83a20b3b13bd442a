/- toTerm, toTermS: a term copied into the program's own type. -/
import Derived.Test.YthbakmdcepoikaaXA
import Derived.Deep.OwnRows
namespace Go.Proofs.Ythbakmdcepoikaa
open Go.RowKit Go.Deep

def ToPost (s v : Int) (k : Fo) (w : World) (e : Ending) (w' : World) : Prop :=
  ∃ a c, e = .returned (.agg #[.int .i64 s, .int .i64 v, .slice a (flen k) c]) ∧ Below w.heap.size w w' ∧ Sl w' w.heap.size w'.heap.size a k
def TosPost (k : Fo) (w : World) (e : Ending) (w' : World) : Prop :=
  ∃ a c, e = .returned (.slice a (flen k) c) ∧ Below w.heap.size w w' ∧ Sl w' w.heap.size w'.heap.size a k

theorem to_end {w w1 : World} {s v : Int} {k : Fo} {a : Option Addr} {c : Nat} {n : Nat} (hn : n = w.heap.size) (hb : Below n w w1) (hl : Sl w1 (n + 3) w1.heap.size a k) (u x y z : Value) :
    ToPost s v k w (.returned (.agg #[.int .i64 s, .int .i64 v, .slice a (flen k) c])) ((((w1.setCell ⟨n + 1 + 1, 2, none⟩ u).setCell ⟨n + 1, 0, none⟩ x).setCell ⟨n + 1, 1, none⟩ y).setCell ⟨n + 1, 2, none⟩ z) := by
  subst hn
  refine ⟨a, c, rfl, (((hb.setCell (by simp; omega) _).setCell (by simp) _).setCell (by simp) _).setCell (by simp) _, ?_⟩
  have hs : Same (w.heap.size + 3) w1.heap.size w1 ((((w1.setCell ⟨w.heap.size + 1 + 1, 2, none⟩ u).setCell ⟨w.heap.size + 1, 0, none⟩ x).setCell ⟨w.heap.size + 1, 1, none⟩ y).setCell ⟨w.heap.size + 1, 2, none⟩ z) :=
    ((((Same.setCell (fun _ _ _ => rfl) (.inl (by simp)) _).setCell (.inl (by simp)) _).setCell (.inl (by simp)) _).setCell (.inl (by simp)) _)
  exact (hl.same hs).mono (by omega) (by simp)

set_option maxRecDepth 100000 in
set_option maxHeartbeats 1000000 in
/-- toTerm out of toTermS. -/
theorem toTerm_of (s v : Int) (a : Option Addr) (c : Nat) (k : Fo) (w : World)
    (hS : ∀ w1, Below w.heap.size w w1 → Calls Try.prog 24 #[.slice a (flen k) c] w1 (TosPost k w1)) :
    Calls Try.prog 11 #[.agg #[.int .i64 s, .int .i64 v, .slice a (flen k) c]] w (ToPost s v k w) := by
  have HS := Lib.hid hS
  clear hS
  go_enter Try.func11, Try.ntmps11
  go_wp2_with fail
  with_reducible refine (HS.out _ ?_).mono ?_
  · exact ((((Below.refl _ _).alloc (Nat.le_refl _) _).alloc (by simp) _).alloc (by simp; omega) _)
  rintro e w1 ⟨a1, c1, rfl, hb, hl⟩
  have hs1 := hb.size
  simp at hs1
  have hlow : ∀ {q : Addr} {u : Value}, (((w.alloc (.cells #[.int .i64 s, .int .i64 v, .slice a (flen k) c] 32)).alloc (.cells #[.int .i64 0, .int .i64 0, .slice none 0 0] 25)).alloc (.cells #[.int .i64 s, .int .i64 v, .slice none 0 0] 25)).cell? q = some u → w1.cell? q = some u := fun h => by
    rw [hb.cell (World.block_lt_of_cell? _ _ h)]; exact h
  have hc0 := hlow (q := ⟨w.heap.size + 1 + 1, 0, none⟩) (u := .int .i64 s) (by rw [World.cell?_alloc_at _ _ _ _ (by simp)]; rfl)
  have hc1 := hlow (q := ⟨w.heap.size + 1 + 1, 1, none⟩) (u := .int .i64 v) (by rw [World.cell?_alloc_at _ _ _ _ (by simp)]; rfl)
  have hc2 := hlow (q := ⟨w.heap.size + 1 + 1, 2, none⟩) (u := .slice none 0 0) (by rw [World.cell?_alloc_at _ _ _ _ (by simp)]; rfl)
  have hr0 := hlow (q := ⟨w.heap.size + 1, 0, none⟩) (u := .int .i64 0) (by rw [World.cell?_alloc_lt _ _ _ (by simp), World.cell?_alloc_at _ _ _ _ (by simp)]; rfl)
  have hr1 := hlow (q := ⟨w.heap.size + 1, 1, none⟩) (u := .int .i64 0) (by rw [World.cell?_alloc_lt _ _ _ (by simp), World.cell?_alloc_at _ _ _ _ (by simp)]; rfl)
  have hr2 := hlow (q := ⟨w.heap.size + 1, 2, none⟩) (u := .slice none 0 0) (by rw [World.cell?_alloc_lt _ _ _ (by simp), World.cell?_alloc_at _ _ _ _ (by simp)]; rfl)
  have hf2 : w1.frozen? ⟨w.heap.size + 1 + 1, 2, none⟩ = false := by rw [hb.frozen (by simp), World.frozen?_alloc_at _ _ _ _ (by simp)]
  have hg0 : w1.frozen? ⟨w.heap.size + 1, 0, none⟩ = false := by rw [hb.frozen (by simp), World.frozen?_alloc_past _ _ _ (by simp), World.frozen?_alloc_at _ _ _ _ (by simp)]
  have hg1 : w1.frozen? ⟨w.heap.size + 1, 1, none⟩ = false := by rw [hb.frozen (by simp), World.frozen?_alloc_past _ _ _ (by simp), World.frozen?_alloc_at _ _ _ _ (by simp)]
  have hg2 : w1.frozen? ⟨w.heap.size + 1, 2, none⟩ = false := by rw [hb.frozen (by simp), World.frozen?_alloc_past _ _ _ (by simp), World.frozen?_alloc_at _ _ _ _ (by simp)]
  have HB : Hid (Below w.heap.size w w1) := ((((Below.refl w.heap.size w).alloc (Nat.le_refl _) _).alloc (by simp) _).alloc (by simp; omega) _).trans (hb.mono (by simp; omega))
  have HL : Hid (Sl w1 (w.heap.size + 3) w1.heap.size a1 k) := hl.mono (by simp) (Nat.le_refl _)
  clear hb hl hlow
  go_wp2_with fail
  refine bodyPost_ret (v := .agg #[.int .i64 s, .int .i64 v, .slice a1 (flen k) c1]) ?_ rfl (to_end rfl HB.out HL.out _ _ _ _)
  simp [results, Try.results11, go_sem, hr0, hr1, hr2]

theorem Try.infoTermX : ∃ i, Try.prog.info? 25 = some i ∧ i.zero = some (.agg #[.int .i64 0, .int .i64 0, .slice none 0 0]) ∧ i.size = 3 ∧ i.bytes = 40 := by
  have h : (Try.prog.info? 25).map (fun i => (i.zero, i.size, i.bytes)) = some (some (.agg #[.int .i64 0, .int .i64 0, .slice none 0 0]), 3, 40) := by kernel_rfl
  obtain ⟨i, hi, hz⟩ := Option.map_eq_some_iff.1 h
  simp only [Prod.mk.injEq] at hz
  exact ⟨i, hi, hz.1, hz.2.1, hz.2.2⟩
theorem make_terms (n : Nat) (hn : n ≤ 1048576) (w : World) :
    (Instr.makeSlice 23 (.int .i64 (n : Int)) (.int .i64 (n : Int))).run Try.prog w = .ok (.slice (some ⟨w.heap.size, 0, none⟩) n n) (w.alloc (.cells (madeCells #[.int .i64 0, .int .i64 0, .slice none 0 0] (n * 3)) 25)) := by
  obtain ⟨i, hi, hz, hs, hb⟩ := Try.infoTermX
  have := run_make (P := Try.prog) w 23 25 i _ Try.underlying23 hi hz .i64 .i64 (n : Int) (n : Int) (by omega) (by omega) (by rw [hb]; omega) (by omega)
  rw [hs] at this
  simpa [Value.cells] using this
theorem made_at (n i : Nat) (z : Array Value) (h : i < n) : (madeCells z n)[i]? = some (z[i % z.size]!) := by simp [madeCells, h]

/-- What holds at the head of toTermS's loop. -/
structure ToAt (w : World) (k : Fo) (j : Nat) (wr : World) : Prop where
  below : Below w.heap.size w wr
  size : w.heap.size < wr.heap.size
  row : ∃ f : Nat → Value, wr.rowIs w.heap.size 25 (flen k * 3) f ∧ ∀ i, i < j → ∃ x y s v kk a c, fdrop i k = .node x y (s, v) kk (fdrop (i + 1) k) ∧
    f (i * 3) = .int .i64 s ∧ f (i * 3 + 1) = .int .i64 v ∧ f (i * 3 + 2) = .slice a (flen kk) c ∧ Sl wr (w.heap.size + 1) wr.heap.size a kk

theorem ToAt.start (w : World) (k : Fo) : ToAt w k 0 (w.alloc (.cells (madeCells #[.int .i64 0, .int .i64 0, .slice none 0 0] (flen k * 3)) 25)) := by
  refine ⟨(Below.refl _ _).alloc (Nat.le_refl _) _, by simp, ⟨fun i => #[Value.int .i64 0, .int .i64 0, .slice none 0 0][i % 3]!, ?_, fun i hi => by omega⟩⟩
  have := World.rowIs_alloc w (madeCells #[.int .i64 0, .int .i64 0, .slice none 0 0] (flen k * 3)) 25 (fun i => #[Value.int .i64 0, .int .i64 0, .slice none 0 0][i % 3]!) (fun i hi => by
    rw [size_madeCells] at hi
    exact made_at _ _ _ hi)
  rw [size_madeCells] at this
  exact this
theorem ToAt.step {w wr w2 : World} {k : Fo} {j x y : Nat} {s v : Int} {kk : Fo} {a : Option Addr} {c : Nat} (h : ToAt w k j wr) (hd : fdrop j k = .node x y (s, v) kk (fdrop (j + 1) k)) (hb : Below wr.heap.size wr w2) (hl : Sl w2 wr.heap.size w2.heap.size a kk) :
    ToAt w k (j + 1) (((w2.setCell ⟨w.heap.size, j * 3, none⟩ (.int .i64 s)).setCell ⟨w.heap.size, j * 3 + 1, none⟩ (.int .i64 v)).setCell ⟨w.heap.size, j * 3 + 2, none⟩ (.slice a (flen kk) c)) := by
  have hs := h.size
  have hs2 := hb.size
  obtain ⟨f, hf, hall⟩ := h.row
  have hf2 := hf.of_block (hb.block _ hs)
  have hsame : ∀ {L H : Nat}, w.heap.size < L → Same L H w2 (((w2.setCell ⟨w.heap.size, j * 3, none⟩ (.int .i64 s)).setCell ⟨w.heap.size, j * 3 + 1, none⟩ (.int .i64 v)).setCell ⟨w.heap.size, j * 3 + 2, none⟩ (.slice a (flen kk) c)) := fun hL =>
    ((Same.setCell (fun _ _ _ => rfl) (.inl hL) _).setCell (.inl hL) _).setCell (.inl hL) _
  refine ⟨(((h.below.trans (hb.mono (by omega))).setCell (by simp) _).setCell (by simp) _).setCell (by simp) _, by simp; omega, ⟨_, ((hf2.set _ _).set _ _).set _ _, fun i hi => ?_⟩⟩
  by_cases hij : i = j
  · subst hij
    exact ⟨x, y, s, v, kk, a, c, hd, by simp, by simp, by simp, (hl.same (hsame (by omega))).mono (by omega) (by simp)⟩
  · obtain ⟨x', y', s', v', k', a', c', e, h0, h1, h2, hsl⟩ := hall i (by omega)
    refine ⟨x', y', s', v', k', a', c', e, ?_, ?_, ?_, ((hsl.same (fun b h1 h2 => hb.block b h2)).same (hsame (by omega))).mono (Nat.le_refl _) (by simp; omega)⟩
    · rw [if_neg (by omega), if_neg (by omega), if_neg (by omega)]; exact h0
    · rw [if_neg (by omega), if_neg (by omega), if_neg (by omega)]; exact h1
    · rw [if_neg (by omega), if_neg (by omega), if_neg (by omega)]; exact h2
theorem ToAt.sl {w wr : World} {k : Fo} {j : Nat} (h : ToAt w k j wr) (hj : flen k ≤ j) : Sl wr w.heap.size wr.heap.size (some ⟨w.heap.size, 0, none⟩) k := by
  obtain ⟨f, hf, hall⟩ := h.row
  have hrow : ∀ (k' : Fo) (o : Nat), (∀ i, i < flen k' → ∃ x y s v kk a c, fdrop i k' = .node x y (s, v) kk (fdrop (i + 1) k') ∧ wr.cell? ⟨w.heap.size, o + i * 3, none⟩ = some (.int .i64 s) ∧ wr.cell? ⟨w.heap.size, o + i * 3 + 1, none⟩ = some (.int .i64 v) ∧
      wr.cell? ⟨w.heap.size, o + i * 3 + 2, none⟩ = some (.slice a (flen kk) c) ∧ Sl wr w.heap.size wr.heap.size a kk) → Row wr w.heap.size wr.heap.size k' w.heap.size o := by
    intro k'
    induction k' with
    | nil => intro o _; trivial
    | node x y p kk r _ ih =>
      intro o h'
      obtain ⟨x', y', s, v, kk', a, c, e, c0, c1, c2, hs⟩ := h' 0 (by simp [flen])
      simp only [fdrop, BT.node.injEq] at e
      obtain ⟨_, _, rfl, rfl, _⟩ := e
      refine ⟨Nat.le_refl _, h.size, by simpa using c0, by simpa using c1, ⟨a, c, by simpa using c2, hs⟩, ih (o + 3) fun i hi => ?_⟩
      obtain ⟨x', y', s, v, kk', a, c, e, c0, c1, c2, hs⟩ := h' (i + 1) (by simp [flen]; omega)
      have e3 : o + 3 + i * 3 = o + (i + 1) * 3 := by omega
      exact ⟨x', y', s, v, kk', a, c, e, by rw [e3]; exact c0, by rw [e3]; exact c1, by rw [e3]; exact c2, hs⟩
  refine .inr ⟨_, 0, rfl, hrow k 0 fun i hi => ?_⟩
  obtain ⟨x, y, s, v, kk, a, c, e, h0, h1, h2, hs⟩ := hall i (by omega)
  refine ⟨x, y, s, v, kk, a, c, e, ?_, ?_, ?_, hs.mono (by omega) (Nat.le_refl _)⟩
  · rw [Nat.zero_add, ← h0]; exact hf.cell (by omega)
  · rw [Nat.zero_add, ← h1]; exact hf.cell (by omega)
  · rw [Nat.zero_add, ← h2]; exact hf.cell (by omega)

set_option maxRecDepth 100000 in
set_option maxHeartbeats 1000000 in
theorem toTermS_any (N : Nat) : ∀ (a : Option Addr) (c : Nat) (k : Fo) (w : World), Sl w 0 w.heap.size a k → fsz k ≤ N → N ≤ 1048576 →
    Calls Try.prog 24 #[.slice a (flen k) c] w (TosPost k w) := by
  induction N using Nat.strongRecOn with
  | _ N ih =>
    intro a c k w hl hN hN2
    have hfl := flen_le (k := k)
    have IH := Lib.hid ih
    clear ih
    have hmk := make_terms (flen k) (by omega)
    have HST := Lib.hid (ToAt.start w k)
    go_enter Try.func24, Try.ntmps24
    go_wp2_with fail
    clear hmk
    go_loopw [4] (fun i wr => ∃ j : Nat, j ≤ flen k ∧ i = .int .i64 j ∧ ToAt w k j wr) (fun i _ => flen k - (intOf i).toNat)
    case atStart => exact ⟨0, by omega, rfl, HST.out⟩
    case round =>
      clear HST
      obtain ⟨j, hj, rfl, hat⟩ := hrel
      have hsr := hat.size
      by_cases hlt : j < flen k
      · rcases hl with rfl | ⟨b, o, rfl, hrow⟩
        · simp [flen] at hlt
        obtain ⟨s', v', kk, a', c', ⟨x, y, hd⟩, _, hbB, hk0, hk1, hk2, hsl⟩ := row_at (hrow.below hat.below) hlt
        have hkN := fsz_kid' hd
        have HD := Lib.hid hd
        have HS := Lib.hid hsl
        have HAT := Lib.hid hat
        clear hd hsl hrow hat
        go_wp2_with fail
        with_reducible refine (toTerm_of s' v' a' c' kk _ ?_).mono ?_
        · intro w1 hb1
          refine IH.out (fsz kk) (by omega) a' c' kk w1 ?_ (Nat.le_refl _) (by omega)
          exact (HS.out.below (hb1.mono (by omega))).mono (Nat.le_refl _) (by have := hb1.size; omega)
        rintro e w2 ⟨a2, c2, rfl, hb2, hl2⟩
        obtain ⟨f, hf, _⟩ := HAT.out.row
        have hf2 := hf.of_block (hb2.block _ hsr)
        have hg0 := hf2.cell (i := j * 3) (by omega)
        have hg1 := hf2.cell (i := j * 3 + 1) (by omega)
        have hg2 := hf2.cell (i := j * 3 + 2) (by omega)
        have hz0 := hf2.frozen (j * 3)
        have hz1 := hf2.frozen (j * 3 + 1)
        have hz2 := hf2.frozen (j * 3 + 2)
        have HSTEP := Lib.hid (HAT.out.step (c := c2) HD.out hb2 hl2)
        clear hf hf2 hb2 hl2 hk0 hk1 hk2
        go_wp2_with fail
        go_roundw
        case rel => exact ⟨j + 1, by omega, by go_num, HSTEP.out⟩
        case measure => simp [intOf]; omega
      · have HE : Hid (TosPost k w (.returned (.slice (some ⟨w.heap.size, 0, none⟩) (flen k) (flen k))) wr) := ⟨_, _, rfl, hat.below, hat.sl (by omega)⟩
        clear hat
        go_wp2_with fail
        go_ret
        exact HE.out
end Go.Proofs.Ythbakmdcepoikaa
