/- Several texts in one: XT, A2t, RD8, TXL. -/
import Derived.Test.YtbnbogdglffkmaaGreatDoorKEb11
import Derived.Test.YtbnbogdglffkmaaGreatDoorKEb7
import Derived.Test.YtbnbogdglffkmaaGreatDoorKEb6
import Derived.Test.YtbnbogdglffkmaaGreatDoorKEb2

/-! XT: Trees of one's own: each row at the head of a block, the rows below it behind it, those of one kid ahead of those of the next. Plain lemmas. -/
namespace Go.Proofs.YtbnbogdglffkmaaGreatDoor
open Go.RowKit Go.Deep

/-- The row of the terms k in block b from offset o on, not frozen; the rows below them from block lo on below B. -/
def Tr (w : World) : Fo → Nat → Nat → Nat → Nat → Prop
  | .nil, _, _, lo, B => lo ≤ B
  | .node _ _ _ k r, b, o, lo, B => b < lo ∧ (∃ x, w.cell? ⟨b, o, none⟩ = some (.int .i64 x)) ∧ (∃ x, w.cell? ⟨b, o + 1, none⟩ = some (.int .i64 x)) ∧ w.frozen? ⟨b, o, none⟩ = false ∧ w.frozen? ⟨b, o + 1, none⟩ = false ∧
      ∃ M a c, lo ≤ M ∧ w.cell? ⟨b, o + 2, none⟩ = some (.slice a (flen k) c) ∧ (k = .nil ∨ ∃ b', a = some ⟨b', 0, none⟩ ∧ lo ≤ b' ∧ b' < M ∧ Tr w k b' 0 (b' + 1) M) ∧ Tr w r b (o + 3) M B
def TrS (w : World) (lo B : Nat) (a : Option Addr) (k : Fo) : Prop := k = .nil ∨ ∃ b, a = some ⟨b, 0, none⟩ ∧ lo ≤ b ∧ b < B ∧ Tr w k b 0 (b + 1) B

theorem Tr.le {w : World} : ∀ {k : Fo} {b o lo B : Nat}, Tr w k b o lo B → lo ≤ B
  | .nil, _, _, _, _, h => h
  | .node _ _ _ _ _, _, _, _, _, ⟨_, _, _, _, _, _, _, _, h1, _, _, h2⟩ => Nat.le_trans h1 h2.le
theorem Tr.mono {w : World} {B' : Nat} : ∀ {k : Fo} {b o lo B : Nat}, B ≤ B' → Tr w k b o lo B → Tr w k b o lo B'
  | .nil, _, _, _, _, hB, h => Nat.le_trans h hB
  | .node _ _ _ _ _, _, _, _, _, hB, ⟨h0, h1, h2, h3, h4, M, a, c, h5, h6, h7, h8⟩ => ⟨h0, h1, h2, h3, h4, M, a, c, h5, h6, h7, h8.mono hB⟩
theorem Tr.same {w w' : World} {L H : Nat} (hb : Same L H w w') : ∀ {k : Fo} {b o lo B : Nat}, L ≤ b → b < H → L ≤ lo → B ≤ H → Tr w k b o lo B → Tr w' k b o lo B
  | .nil, _, _, _, _, _, _, _, _, h => h
  | .node _ _ _ k r, b, o, lo, B, h1, h2, h3, h4, ⟨g0, ⟨x, hx⟩, ⟨y, hy⟩, f0, f1, M, a, c, g5, g6, g7, g8⟩ => by
    have hM := g8.le
    refine ⟨g0, ⟨x, by rw [hb.cell h1 h2]; exact hx⟩, ⟨y, by rw [hb.cell h1 h2]; exact hy⟩, by rw [frozen_same (hb b h1 h2)]; exact f0, by rw [frozen_same (hb b h1 h2)]; exact f1, M, a, c, g5, by rw [hb.cell h1 h2]; exact g6, ?_, g8.same hb h1 h2 (by omega) h4⟩
    rcases g7 with g7 | ⟨b', e, e1, e2, g7⟩
    · exact .inl g7
    · exact .inr ⟨b', e, e1, e2, g7.same hb (by omega) (by omega) (by omega) (by omega)⟩
theorem TrS.same {w w' : World} {lo B : Nat} {a : Option Addr} {k : Fo} (hb : Same lo B w w') (h : TrS w lo B a k) : TrS w' lo B a k := by
  rcases h with h | ⟨b, e, h1, h2, h⟩
  · exact .inl h
  · exact .inr ⟨b, e, h1, h2, h.same hb h1 h2 (by omega) (Nat.le_refl _)⟩
theorem TrS.mono {w : World} {lo lo' B B' : Nat} {a : Option Addr} {k : Fo} (hlo : lo' ≤ lo) (hB : B ≤ B') (h : TrS w lo B a k) : TrS w lo' B' a k := by
  rcases h with h | ⟨b, e, h1, h2, h⟩
  · exact .inl h
  · exact .inr ⟨b, e, by omega, by omega, h.mono hB⟩

/-- What a kid of a tree's row is. -/
def TrAt (w : World) (k : Fo) (b o : Nat) (Ls : Nat → Nat) (i : Nat) : Prop :=
  ∃ x y s v kk a c, fdrop i k = .node x y (s, v) kk (fdrop (i + 1) k) ∧ (∃ z, w.cell? ⟨b, o + i * 3, none⟩ = some (.int .i64 z)) ∧ (∃ z, w.cell? ⟨b, o + i * 3 + 1, none⟩ = some (.int .i64 z)) ∧
    w.frozen? ⟨b, o + i * 3, none⟩ = false ∧ w.frozen? ⟨b, o + i * 3 + 1, none⟩ = false ∧ w.cell? ⟨b, o + i * 3 + 2, none⟩ = some (.slice a (flen kk) c) ∧ TrS w (Ls i) (Ls (i + 1)) a kk
theorem Tr.at {w : World} : ∀ {k : Fo} {b o lo B : Nat}, Tr w k b o lo B → ∃ Ls : Nat → Nat, Ls 0 = lo ∧ (∀ i, i < flen k → Ls i ≤ Ls (i + 1)) ∧ Ls (flen k) ≤ B ∧ (0 < flen k → b < lo) ∧ ∀ i, i < flen k → TrAt w k b o Ls i
  | .nil, _, _, lo, _, h => ⟨fun _ => lo, rfl, fun i hi => by simp [flen] at hi, h, fun hi => by simp [flen] at hi, fun i hi => by simp [flen] at hi⟩
  | .node x y (s, v) k r, b, o, lo, B, ⟨g0, hx, hy, f0, f1, M, a, c, g5, g6, g7, g8⟩ => by
    obtain ⟨Ls, e0, e1, e2, _, e3⟩ := g8.at
    refine ⟨fun i => match i with | 0 => lo | i + 1 => Ls i, rfl, fun i hi => ?_, by simpa [flen] using e2, fun _ => g0, fun i hi => ?_⟩
    · cases i with
      | zero => show lo ≤ Ls 0; omega
      | succ i => exact e1 i (by simp [flen] at hi; omega)
    · cases i with
      | zero =>
        refine ⟨x, y, s, v, k, a, c, rfl, by simpa using hx, by simpa using hy, by simpa using f0, by simpa using f1, by simpa using g6, ?_⟩
        show TrS w lo (Ls 0) a k
        rw [e0]
        exact g7
      | succ i =>
        obtain ⟨x', y', s', v', kk, a', c', d0, d1, d2, d3, d4, d5, d6⟩ := e3 i (by simp [flen] at hi; omega)
        have e3' : o + 3 + i * 3 = o + (i + 1) * 3 := by omega
        rw [e3'] at d1 d2 d3 d4 d5
        exact ⟨x', y', s', v', kk, a', c', d0, d1, d2, d3, d4, d5, d6⟩
theorem tr_of_all {w : World} : ∀ (k : Fo) (b o : Nat) (B : Nat) (Ls : Nat → Nat), (∀ i, i < flen k → Ls i ≤ Ls (i + 1)) → Ls (flen k) ≤ B → b < Ls 0 → (∀ i, i < flen k → TrAt w k b o Ls i) → Tr w k b o (Ls 0) B
  | .nil, _, _, _, _, _, h, _, _ => h
  | .node x y p kk r, b, o, B, Ls, h1, h2, h3, h => by
    obtain ⟨x', y', s, v, kk', a, c, e, d1, d2, d3, d4, d5, d6⟩ := h 0 (by simp [flen])
    simp only [fdrop, BT.node.injEq] at e
    obtain ⟨_, _, rfl, rfl, _⟩ := e
    have h01 : Ls 0 ≤ Ls 1 := h1 0 (by simp [flen])
    refine ⟨h3, by simpa using d1, by simpa using d2, by simpa using d3, by simpa using d4, Ls 1, a, c, h01, by simpa using d5, d6, ?_⟩
    have := tr_of_all r b (o + 3) B (fun i => Ls (i + 1)) (fun i hi => h1 (i + 1) (by simp [flen]; omega)) (by simpa [flen] using h2) (show b < Ls 1 by omega) fun i hi => by
      obtain ⟨x', y', s', v', kk', a', c', d0, d1, d2, d3, d4, d5, d6⟩ := h (i + 1) (by simp [flen]; omega)
      have e3' : o + (i + 1) * 3 = o + 3 + i * 3 := by omega
      rw [e3'] at d1 d2 d3 d4 d5
      exact ⟨x', y', s', v', kk', a', c', d0, d1, d2, d3, d4, d5, d6⟩
    exact this
theorem Ls_mono {Ls : Nat → Nat} {n : Nat} (h : ∀ i, i < n → Ls i ≤ Ls (i + 1)) : ∀ (d i : Nat), i + d ≤ n → Ls i ≤ Ls (i + d)
  | 0, _, _ => Nat.le_refl _
  | d + 1, i, hi => Nat.le_trans (Ls_mono h d i (by omega)) (by rw [show i + (d + 1) = i + d + 1 from by omega]; exact h (i + d) (by omega))

/-- The numbers of the row, and of the rows below it, count up from m on. -/
def Hd (w : World) (lo B : Nat) : Fo → Nat → Nat → Int → Prop
  | .nil, _, _, _ => True
  | .node _ _ _ k r, b, o, m => lo ≤ b ∧ b < B ∧ w.cell? ⟨b, o, none⟩ = some (.int .i64 m) ∧ w.cell? ⟨b, o + 1, none⟩ = some (.int .i64 (m + 1)) ∧
      (∃ a c, w.cell? ⟨b, o + 2, none⟩ = some (.slice a (flen k) c) ∧ (k = .nil ∨ ∃ b', a = some ⟨b', 0, none⟩ ∧ Hd w lo B k b' 0 (m + 2))) ∧ Hd w lo B r b (o + 3) (m + 2 + 2 * (fsz k : Int))
def HdS (w : World) (lo B : Nat) (a : Option Addr) (k : Fo) (m : Int) : Prop := k = .nil ∨ ∃ b, a = some ⟨b, 0, none⟩ ∧ Hd w lo B k b 0 m
theorem Hd.same {w w' : World} {lo B : Nat} (hb : Same lo B w w') : ∀ {k : Fo} {b o : Nat} {m : Int}, Hd w lo B k b o m → Hd w' lo B k b o m
  | .nil, _, _, _, _ => trivial
  | .node _ _ _ k r, b, o, m, ⟨h1, h2, h3, h4, ⟨a, c, h5, h6⟩, h7⟩ => by
    refine ⟨h1, h2, by rw [hb.cell h1 h2]; exact h3, by rw [hb.cell h1 h2]; exact h4, ⟨a, c, by rw [hb.cell h1 h2]; exact h5, ?_⟩, h7.same hb⟩
    rcases h6 with h6 | ⟨b', e, h6⟩
    · exact .inl h6
    · exact .inr ⟨b', e, h6.same hb⟩
theorem Hd.mono {w : World} {lo lo' B B' : Nat} (hlo : lo' ≤ lo) (hB : B ≤ B') : ∀ {k : Fo} {b o : Nat} {m : Int}, Hd w lo B k b o m → Hd w lo' B' k b o m
  | .nil, _, _, _, _ => trivial
  | .node _ _ _ k r, b, o, m, ⟨h1, h2, h3, h4, ⟨a, c, h5, h6⟩, h7⟩ => by
    refine ⟨by omega, by omega, h3, h4, ⟨a, c, h5, ?_⟩, h7.mono hlo hB⟩
    rcases h6 with h6 | ⟨b', e, h6⟩
    · exact .inl h6
    · exact .inr ⟨b', e, h6.mono hlo hB⟩
theorem HdS.same {w w' : World} {lo B : Nat} {a : Option Addr} {k : Fo} {m : Int} (hb : Same lo B w w') (h : HdS w lo B a k m) : HdS w' lo B a k m := by
  rcases h with h | ⟨b, e, h⟩
  · exact .inl h
  · exact .inr ⟨b, e, h.same hb⟩
theorem HdS.mono {w : World} {lo lo' B B' : Nat} {a : Option Addr} {k : Fo} {m : Int} (hlo : lo' ≤ lo) (hB : B ≤ B') (h : HdS w lo B a k m) : HdS w lo' B' a k m := by
  rcases h with h | ⟨b, e, h⟩
  · exact .inl h
  · exact .inr ⟨b, e, h.mono hlo hB⟩
theorem ne_offT {b i j : Nat} (h : i ≠ j) : (⟨b, i, none⟩ : Addr) ≠ ⟨b, j, none⟩ := fun e => h (congrArg Addr.off e)
/-- The number from which the i-th kid counts. -/
def cnt (k : Fo) (m : Int) (i : Nat) : Int := m + 2 * ((fsz k : Int) - (fsz (fdrop i k) : Int))
def HdAt (w : World) (lo B : Nat) (k : Fo) (b o : Nat) (m : Int) (i : Nat) : Prop :=
  ∃ x y s v kk a c, fdrop i k = .node x y (s, v) kk (fdrop (i + 1) k) ∧ w.cell? ⟨b, o + i * 3, none⟩ = some (.int .i64 (cnt k m i)) ∧ w.cell? ⟨b, o + i * 3 + 1, none⟩ = some (.int .i64 (cnt k m i + 1)) ∧
    w.cell? ⟨b, o + i * 3 + 2, none⟩ = some (.slice a (flen kk) c) ∧ HdS w lo B a kk (cnt k m i + 2)
theorem cnt_rest (x y : Nat) (p : Int × Int) (kk r : Fo) (m : Int) (i : Nat) : cnt (.node x y p kk r) m (i + 1) = cnt r (m + 2 + 2 * (fsz kk : Int)) i := by
  simp only [cnt, fdrop, fsz]
  push_cast
  omega
theorem hd_of_all {w : World} {lo B : Nat} : ∀ (k : Fo) (b o : Nat) (m : Int), lo ≤ b → b < B → (∀ i, i < flen k → HdAt w lo B k b o m i) → Hd w lo B k b o m
  | .nil, _, _, _, _, _, _ => trivial
  | .node x y p kk r, b, o, m, h1, h2, h => by
    obtain ⟨x', y', s, v, kk', a, c, e, d1, d2, d3, d4⟩ := h 0 (by simp [flen])
    simp only [fdrop, BT.node.injEq] at e
    obtain ⟨_, _, rfl, rfl, _⟩ := e
    have c0 : cnt (.node x y (s, v) kk r) m 0 = m := by simp [cnt, fdrop]
    rw [c0] at d1 d2 d4
    refine ⟨h1, h2, by simpa using d1, by simpa using d2, ⟨a, c, by simpa using d3, d4⟩, hd_of_all r b (o + 3) _ h1 h2 fun i hi => ?_⟩
    obtain ⟨x', y', s', v', kk', a', c', e, d1, d2, d3, d4⟩ := h (i + 1) (by simp [flen]; omega)
    have e3' : o + (i + 1) * 3 = o + 3 + i * 3 := by omega
    rw [e3', cnt_rest] at d1 d2
    rw [e3'] at d3
    rw [cnt_rest] at d4
    exact ⟨x', y', s', v', kk', a', c', e, d1, d2, d3, d4⟩
theorem Hd.at {w : World} {lo B : Nat} : ∀ {k : Fo} {b o : Nat} {m : Int}, Hd w lo B k b o m → ∀ i, i < flen k → HdAt w lo B k b o m i
  | .nil, _, _, _, _, i, hi => by simp [flen] at hi
  | .node x y (s, v) k r, b, o, m, ⟨h1, h2, h3, h4, ⟨a, c, h5, h6⟩, h7⟩, i, hi => by
    cases i with
    | zero =>
      have c0 : cnt (.node x y (s, v) k r) m 0 = m := by simp [cnt, fdrop]
      exact ⟨x, y, s, v, k, a, c, rfl, by rw [c0]; simpa using h3, by rw [c0]; simpa using h4, by simpa using h5, by rw [c0]; exact h6⟩
    | succ i =>
      obtain ⟨x', y', s', v', kk', a', c', e, d1, d2, d3, d4⟩ := h7.at i (by simp [flen] at hi; omega)
      have e3' : o + 3 + i * 3 = o + (i + 1) * 3 := by omega
      rw [e3', ← cnt_rest x y (s, v) k r m i] at d1 d2
      rw [e3'] at d3
      rw [← cnt_rest x y (s, v) k r m i] at d4
      exact ⟨x', y', s', v', kk', a', c', e, d1, d2, d3, d4⟩

theorem Marked.mono {lo lo' B B' : Nat} {w w' : World} (h : Marked lo B w w') (h1 : lo' ≤ lo) (h2 : B ≤ B') (h3 : B' ≤ w.heap.size) : Marked lo' B' w w' := by
  have hin : ∀ b, (b < lo ∨ B ≤ b) → b < w.heap.size → w'.heap[b]? = w.heap[b]? := fun b hb hlt => by
    rcases hb with hb | hb
    · exact h.below.block b hb
    · exact h.far b hb hlt
  refine ⟨h.below.mono h1, fun b g1 g2 => h.far b (by omega) g2, fun b o g1 g2 g3 => ?_, fun b o x g1 g2 g3 g4 => ?_, fun b o g1 g2 g3 => ?_⟩
  · by_cases hb : lo ≤ b ∧ b < B
    · exact h.kids b o hb.1 hb.2 g3
    · exact World.cell?_of_block (hin b (by omega) (by omega))
  · by_cases hb : lo ≤ b ∧ b < B
    · exact h.ints b o x hb.1 hb.2 g3 g4
    · exact ⟨x, by rw [World.cell?_of_block (a := ⟨b, o, none⟩) (hin b (by omega) (by omega))]; exact g4⟩
  · by_cases hb : lo ≤ b ∧ b < B
    · exact h.free b o hb.1 hb.2 g3
    · rw [World.frozen?_of_block (a := ⟨b, o, none⟩) (hin b (by omega) (by omega))]; exact g3
end Go.Proofs.YtbnbogdglffkmaaGreatDoor

/-! A2t: The term that a node stands for, made anew, is a tree of one's own. -/
namespace Go.Proofs.YtbnbogdglffkmaaGreatDoor
open Go.RowKit Go.Deep
attribute [local go_sem ↓] Go.wp_at_zero Go.wp_at_succ

/-- The terms k lie there as a tree of one's own. -/
def TX (w : World) (lo B : Nat) (a : Option Addr) (k : Fo) : Prop := Sl w lo B a k ∧ TrS w lo B a k
theorem TX.same {w w' : World} {lo B : Nat} {a : Option Addr} {k : Fo} (hb : Same lo B w w') (h : TX w lo B a k) : TX w' lo B a k := ⟨h.1.same hb, h.2.same hb⟩
theorem TX.mono {w : World} {lo lo' B B' : Nat} {a : Option Addr} {k : Fo} (hlo : lo' ≤ lo) (hB : B ≤ B') (h : TX w lo B a k) : TX w lo' B' a k := ⟨h.1.mono hlo hB, h.2.mono hlo hB⟩

def TmPostT (s v : Int) (k : Fo) (w : World) (e : Ending) (w' : World) : Prop :=
  ∃ a c, e = .returned (.agg #[.int .i64 s, .int .i64 v, .slice a (flen k) c]) ∧ Below w.heap.size w w' ∧ TX w' w.heap.size w'.heap.size a k

set_option maxRecDepth 100000 in
set_option maxHeartbeats 1000000 in
theorem varTermT_any (v : Int) (w : World) : Calls Tryz.prog 115 #[.int .i64 v] w (TmPostT 0 v .nil w) := by
  go_enter Tryz.func115, Tryz.ntmps115
  go_wp2_with fail
  refine bodyPost_ret (v := .agg #[.int .i64 0, .int .i64 v, .slice none 0 0]) ?_ rfl ⟨none, 0, rfl, (Below.refl _ _).alloc (Nat.le_refl _) _, ⟨.inl rfl, .inl rfl⟩⟩
  simp [results, Tryz.results115, go_sem]

/-- What holds at the head of term's loop: the first j kids are made. -/
structure TmAtT (w : World) (s : Int) (k : Fo) (j : Nat) (wr : World) : Prop where
  below : Below w.heap.size w wr
  size : w.heap.size + 4 ≤ wr.heap.size
  t0 : wr.cell? ⟨w.heap.size + 1 + 1, 0, none⟩ = some (.int .i64 s)
  t1 : wr.cell? ⟨w.heap.size + 1 + 1, 1, none⟩ = some (.int .i64 0)
  t2 : wr.cell? ⟨w.heap.size + 1 + 1, 2, none⟩ = some (.slice (some ⟨w.heap.size + 1 + 1 + 1, 0, none⟩) (flen k) (flen k))
  r0 : wr.cell? ⟨w.heap.size + 1, 0, none⟩ = some (.int .i64 0)
  r1 : wr.cell? ⟨w.heap.size + 1, 1, none⟩ = some (.int .i64 0)
  r2 : wr.cell? ⟨w.heap.size + 1, 2, none⟩ = some (.slice none 0 0)
  q0 : wr.frozen? ⟨w.heap.size + 1, 0, none⟩ = false
  q1 : wr.frozen? ⟨w.heap.size + 1, 1, none⟩ = false
  q2 : wr.frozen? ⟨w.heap.size + 1, 2, none⟩ = false
  row : ∃ f : Nat → Value, wr.rowIs (w.heap.size + 1 + 1 + 1) 25 (flen k * 3) f ∧ ∃ Ls : Nat → Nat, Ls 0 = w.heap.size + 4 ∧ (∀ i, i < j → Ls i ≤ Ls (i + 1)) ∧ Ls j ≤ wr.heap.size ∧ ∀ i, i < j → ∃ x y s v kk a c, fdrop i k = .node x y (s, v) kk (fdrop (i + 1) k) ∧
    f (i * 3) = .int .i64 s ∧ f (i * 3 + 1) = .int .i64 v ∧ f (i * 3 + 2) = .slice a (flen kk) c ∧ TX wr (Ls i) (Ls (i + 1)) a kk

theorem TmAtT.start (w : World) (s : Int) (k : Fo) (x : Value) (y : Value) : TmAtT w s k 0 ((((w.alloc (.cells #[x, y] 83)).alloc (.cells #[.int .i64 0, .int .i64 0, .slice none 0 0] 25)).alloc (.cells #[.int .i64 s, .int .i64 0, .slice (some ⟨w.heap.size + 1 + 1 + 1, 0, none⟩) (flen k) (flen k)] 25)).alloc (.cells (madeCells #[.int .i64 0, .int .i64 0, .slice none 0 0] (flen k * 3)) 25)) := by
  refine ⟨((((Below.refl _ _).alloc (Nat.le_refl _) _).alloc (by simp) _).alloc (by simp; omega) _).alloc (by simp; omega) _, by simp, ?_, ?_, ?_, ?_, ?_, ?_, ?_, ?_, ?_, ?_⟩
  · rw [World.cell?_alloc_lt _ _ _ (by simp), World.cell?_alloc_at _ _ _ _ (by simp)]; rfl
  · rw [World.cell?_alloc_lt _ _ _ (by simp), World.cell?_alloc_at _ _ _ _ (by simp)]; rfl
  · rw [World.cell?_alloc_lt _ _ _ (by simp), World.cell?_alloc_at _ _ _ _ (by simp)]; rfl
  · rw [World.cell?_alloc_lt _ _ _ (by simp), World.cell?_alloc_lt _ _ _ (by simp), World.cell?_alloc_at _ _ _ _ (by simp)]; rfl
  · rw [World.cell?_alloc_lt _ _ _ (by simp), World.cell?_alloc_lt _ _ _ (by simp), World.cell?_alloc_at _ _ _ _ (by simp)]; rfl
  · rw [World.cell?_alloc_lt _ _ _ (by simp), World.cell?_alloc_lt _ _ _ (by simp), World.cell?_alloc_at _ _ _ _ (by simp)]; rfl
  · rw [World.frozen?_alloc_past _ _ _ (by simp), World.frozen?_alloc_past _ _ _ (by simp), World.frozen?_alloc_at _ _ _ _ (by simp)]
  · rw [World.frozen?_alloc_past _ _ _ (by simp), World.frozen?_alloc_past _ _ _ (by simp), World.frozen?_alloc_at _ _ _ _ (by simp)]
  · rw [World.frozen?_alloc_past _ _ _ (by simp), World.frozen?_alloc_past _ _ _ (by simp), World.frozen?_alloc_at _ _ _ _ (by simp)]
  · refine ⟨fun i => #[Value.int .i64 0, .int .i64 0, .slice none 0 0][i % 3]!, ?_, fun _ => w.heap.size + 4, rfl, fun i hi => by omega, by simp, fun i hi => by omega⟩
    have := World.rowIs_alloc (((w.alloc (.cells #[x, y] 83)).alloc (.cells #[.int .i64 0, .int .i64 0, .slice none 0 0] 25)).alloc (.cells #[.int .i64 s, .int .i64 0, .slice (some ⟨w.heap.size + 1 + 1 + 1, 0, none⟩) (flen k) (flen k)] 25)) (madeCells #[.int .i64 0, .int .i64 0, .slice none 0 0] (flen k * 3)) 25 (fun i => #[Value.int .i64 0, .int .i64 0, .slice none 0 0][i % 3]!) (fun i hi => by
      rw [size_madeCells] at hi
      exact made_atA _ _ _ hi)
    rw [size_madeCells] at this
    simp only [World.size_alloc] at this
    exact this
theorem TmAtT.step {w wr w2 : World} {s0 : Int} {k : Fo} {j x y : Nat} {s v : Int} {kk : Fo} {a : Option Addr} {c : Nat} (h : TmAtT w s0 k j wr) (hd : fdrop j k = .node x y (s, v) kk (fdrop (j + 1) k)) (hb : Below wr.heap.size wr w2) (hl : TX w2 wr.heap.size w2.heap.size a kk) :
    TmAtT w s0 k (j + 1) (((w2.setCell ⟨w.heap.size + 1 + 1 + 1, j * 3, none⟩ (.int .i64 s)).setCell ⟨w.heap.size + 1 + 1 + 1, j * 3 + 1, none⟩ (.int .i64 v)).setCell ⟨w.heap.size + 1 + 1 + 1, j * 3 + 2, none⟩ (.slice a (flen kk) c)) := by
  have hs := h.size
  have hs2 := hb.size
  obtain ⟨f, hf, Ls, hL0, hL1, hL2, hall⟩ := h.row
  have hf2 := hf.of_block (hb.block _ (by omega))
  have hsame : ∀ {L H : Nat}, w.heap.size + 3 < L → Same L H w2 (((w2.setCell ⟨w.heap.size + 1 + 1 + 1, j * 3, none⟩ (.int .i64 s)).setCell ⟨w.heap.size + 1 + 1 + 1, j * 3 + 1, none⟩ (.int .i64 v)).setCell ⟨w.heap.size + 1 + 1 + 1, j * 3 + 2, none⟩ (.slice a (flen kk) c)) := fun hL =>
    ((Same.setCell (fun _ _ _ => rfl) (.inl (by simp; omega)) _).setCell (.inl (by simp; omega)) _).setCell (.inl (by simp; omega)) _
  have hcell : ∀ {q : Addr} {u : Value}, wr.cell? q = some u → q.block < w.heap.size + 3 → (((w2.setCell ⟨w.heap.size + 1 + 1 + 1, j * 3, none⟩ (.int .i64 s)).setCell ⟨w.heap.size + 1 + 1 + 1, j * 3 + 1, none⟩ (.int .i64 v)).setCell ⟨w.heap.size + 1 + 1 + 1, j * 3 + 2, none⟩ (.slice a (flen kk) c)).cell? q = some u := fun {q u} hq hlt => by
    rw [World.cell?_setCell_other _ _ _ _ (by intro h'; have := congrArg Addr.block h'; simp at this; omega), World.cell?_setCell_other _ _ _ _ (by intro h'; have := congrArg Addr.block h'; simp at this; omega), World.cell?_setCell_other _ _ _ _ (by intro h'; have := congrArg Addr.block h'; simp at this; omega), hb.cell (World.block_lt_of_cell? _ _ hq)]
    exact hq
  have hfro : ∀ {q : Addr}, wr.frozen? q = false → q.block < w.heap.size + 3 → (((w2.setCell ⟨w.heap.size + 1 + 1 + 1, j * 3, none⟩ (.int .i64 s)).setCell ⟨w.heap.size + 1 + 1 + 1, j * 3 + 1, none⟩ (.int .i64 v)).setCell ⟨w.heap.size + 1 + 1 + 1, j * 3 + 2, none⟩ (.slice a (flen kk) c)).frozen? q = false := fun {q} hq hlt => by
    rw [World.frozen?_setCell, World.frozen?_setCell, World.frozen?_setCell, hb.frozen (by omega)]
    exact hq
  refine ⟨(((h.below.trans (hb.mono (by omega))).setCell (by simp; omega) _).setCell (by simp; omega) _).setCell (by simp; omega) _, by simp; omega, hcell h.t0 (by simp), hcell h.t1 (by simp), hcell h.t2 (by simp), hcell h.r0 (by simp), hcell h.r1 (by simp), hcell h.r2 (by simp), hfro h.q0 (by simp), hfro h.q1 (by simp), hfro h.q2 (by simp), ⟨_, ((hf2.set _ _).set _ _).set _ _, fun i => if i ≤ j then Ls i else w2.heap.size, by simp [hL0], fun i hi => ?_, by simp [show ¬(j + 1 ≤ j) from by omega], fun i hi => ?_⟩⟩
  · by_cases hij : i = j
    · subst hij
      dsimp only
      rw [if_pos (Nat.le_refl _), if_neg (by omega)]
      omega
    · dsimp only
      rw [if_pos (by omega), if_pos (by omega)]
      exact hL1 i (by omega)
  by_cases hij : i = j
  · subst hij
    refine ⟨x, y, s, v, kk, a, c, hd, by simp, by simp, by simp, ?_⟩
    simp only [Nat.le_refl, if_true, show ¬(i + 1 ≤ i) from by omega, if_false]
    have h0 : Ls 0 ≤ Ls i := by have := Ls_mono hL1 i 0 (by omega); rwa [Nat.zero_add] at this
    exact (hl.same (hsame (by omega))).mono (by omega) (Nat.le_refl _)
  · obtain ⟨x', y', s', v', k', a', c', e, h0, h1, h2, hsl⟩ := hall i (by omega)
    have q0 : Ls 0 ≤ Ls i := by have := Ls_mono hL1 i 0 (by omega); rwa [Nat.zero_add] at this
    have q1 : Ls (i + 1) ≤ Ls j := by have := Ls_mono hL1 (j - (i + 1)) (i + 1) (by omega); rwa [show i + 1 + (j - (i + 1)) = j from by omega] at this
    refine ⟨x', y', s', v', k', a', c', e, ?_, ?_, ?_, ?_⟩
    · rw [if_neg (by omega), if_neg (by omega), if_neg (by omega)]; exact h0
    · rw [if_neg (by omega), if_neg (by omega), if_neg (by omega)]; exact h1
    · rw [if_neg (by omega), if_neg (by omega), if_neg (by omega)]; exact h2
    · dsimp only
      rw [if_pos (show i ≤ j by omega), if_pos (show i + 1 ≤ j by omega)]
      exact (hsl.same (fun b h1 h2 => hb.block b (by omega))).same (hsame (by omega))
theorem TmAtT.sl {w wr : World} {s : Int} {k : Fo} {j : Nat} (h : TmAtT w s k j wr) (hj : flen k = j) : TX wr (w.heap.size + 3) wr.heap.size (some ⟨w.heap.size + 1 + 1 + 1, 0, none⟩) k := by
  subst hj
  have hs := h.size
  obtain ⟨f, hf, Ls, hL0, hL1, hL2, hall⟩ := h.row
  have key : ∀ i, i < flen k → ∃ x y s v kk a c, fdrop i k = .node x y (s, v) kk (fdrop (i + 1) k) ∧ wr.cell? ⟨w.heap.size + 1 + 1 + 1, 0 + i * 3, none⟩ = some (.int .i64 s) ∧ wr.cell? ⟨w.heap.size + 1 + 1 + 1, 0 + i * 3 + 1, none⟩ = some (.int .i64 v) ∧
      wr.cell? ⟨w.heap.size + 1 + 1 + 1, 0 + i * 3 + 2, none⟩ = some (.slice a (flen kk) c) ∧ TX wr (Ls i) (Ls (i + 1)) a kk := fun i hi => by
    obtain ⟨x, y, s, v, kk, a, c, e, h0, h1, h2, hs⟩ := hall i hi
    refine ⟨x, y, s, v, kk, a, c, e, ?_, ?_, ?_, hs⟩
    · rw [Nat.zero_add, ← h0]; exact hf.cell (by omega)
    · rw [Nat.zero_add, ← h1]; exact hf.cell (by omega)
    · rw [Nat.zero_add, ← h2]; exact hf.cell (by omega)
  refine ⟨.inr ⟨_, 0, rfl, row_of_all k _ 0 (by omega) (by omega) fun i hi => ?_⟩, .inr ⟨_, rfl, by omega, by omega, ?_⟩⟩
  · obtain ⟨x, y, s, v, kk, a, c, e, h0, h1, h2, hs⟩ := key i hi
    have q0 : Ls 0 ≤ Ls i := by have := Ls_mono hL1 i 0 (by omega); rwa [Nat.zero_add] at this
    have q1 : Ls (i + 1) ≤ Ls (flen k) := by have := Ls_mono hL1 (flen k - (i + 1)) (i + 1) (by omega); rwa [show i + 1 + (flen k - (i + 1)) = flen k from by omega] at this
    exact ⟨x, y, s, v, kk, a, c, e, h0, h1, h2, hs.1.mono (by omega) (by omega)⟩
  · have := tr_of_all (w := wr) k (w.heap.size + 1 + 1 + 1) 0 wr.heap.size Ls hL1 hL2 (by omega) fun i hi => by
      obtain ⟨x, y, s, v, kk, a, c, e, h0, h1, h2, hs⟩ := key i hi
      exact ⟨x, y, s, v, kk, a, c, e, ⟨_, h0⟩, ⟨_, h1⟩, hf.frozen _, hf.frozen _, h2, hs.2⟩
    rw [hL0] at this
    exact this
theorem tm_endT {w w1 : World} {s v : Int} {k : Fo} {a : Option Addr} {c : Nat} (hb : Below w.heap.size w w1) (hl : TX w1 (w.heap.size + 3) w1.heap.size a k) (x y z : Value) :
    TmPostT s v k w (.returned (.agg #[.int .i64 s, .int .i64 v, .slice a (flen k) c])) (((w1.setCell ⟨w.heap.size + 1, 0, none⟩ x).setCell ⟨w.heap.size + 1, 1, none⟩ y).setCell ⟨w.heap.size + 1, 2, none⟩ z) := by
  refine ⟨a, c, rfl, ((hb.setCell (by simp) _).setCell (by simp) _).setCell (by simp) _, ?_⟩
  have hs : Same (w.heap.size + 3) w1.heap.size w1 (((w1.setCell ⟨w.heap.size + 1, 0, none⟩ x).setCell ⟨w.heap.size + 1, 1, none⟩ y).setCell ⟨w.heap.size + 1, 2, none⟩ z) :=
    (((Same.setCell (fun _ _ _ => rfl) (.inl (by simp)) _).setCell (.inl (by simp)) _).setCell (.inl (by simp)) _)
  exact (hl.same hs).mono (by omega) (by simp)

set_option maxRecDepth 100000 in
set_option maxHeartbeats 1000000 in
theorem symTermT_any (N : Nat) : ∀ (s : Int) (a : Option Addr) (c : Nat) (k : Fo) (w : World), NSl w 0 w.heap.size a k → fok k = true → fsz k ≤ N → N ≤ 1000000 →
    Calls Tryz.prog 118 #[.agg #[.int .i64 s, .slice a (flen k) c]] w (TmPostT s 0 k w) := by
  induction N using Nat.strongRecOn with
  | _ N ih =>
    intro s a c k w hl hok hN hN2
    have hfl := flen_le_sz k
    have IH := Lib.hid ih
    have HOK := Lib.hid hok
    clear ih hok
    by_cases h0 : flen k = 0
    · have hk : k = .nil := by
        cases k with
        | nil => rfl
        | node _ _ _ _ _ => simp [flen] at h0
      subst hk
      clear hl h0
      simp only [flen]
      go_enter Tryz.func118, Tryz.ntmps118
      go_wp2_with fail
      go_loopw [21] (fun i wr => i = .int .i64 0 ∧ wr = (((w.alloc (.cells #[.int .i64 s, .slice a 0 c] 83)).alloc (.cells #[.int .i64 0, .int .i64 0, .slice none 0 0] 25)).alloc (.cells #[.int .i64 s, .int .i64 0, .slice none 0 0] 25))) (fun _ _ => 0)
      case atStart => exact ⟨rfl, rfl⟩
      case round =>
        obtain ⟨rfl, rfl⟩ := hrel
        go_wp2_with fail
        refine bodyPost_ret (v := .agg #[.int .i64 s, .int .i64 0, .slice none 0 0]) ?_ rfl ⟨none, 0, rfl, (((Below.refl _ _).alloc (Nat.le_refl _) _).alloc (by simp) _).alloc (by simp; omega) _, ⟨.inl rfl, .inl rfl⟩⟩
        simp [results, Tryz.results118, go_sem]
    · have hmk := make_termsA (flen k) (by omega)
      have HST := Lib.hid (TmAtT.start w s k (.int .i64 s) (.slice a (flen k) c))
      have hpos : 0 < flen k := by omega
      go_enter Tryz.func118, Tryz.ntmps118
      go_wp2_with fail
      clear hmk
      go_loopw [21] (fun i wr => ∃ j : Nat, j ≤ flen k ∧ i = .int .i64 j ∧ TmAtT w s k j wr) (fun i _ => flen k - (intOf i).toNat)
      case atStart => exact ⟨0, by omega, rfl, HST.out⟩
      case round =>
        clear HST
        obtain ⟨j, hj, rfl, hat⟩ := hrel
        have hsr := hat.size
        by_cases hlt : j < flen k
        · rcases hl with rfl | ⟨b, o, rfl, hrow⟩
          · simp [flen] at hlt
          obtain ⟨s', v', kk, val, ⟨x, y, hd⟩, _, hbB, hk0, hn⟩ := nrow_at (hrow.below hat.below) hlt
          have hkN := fsz_kid hd
          have hkok := fok_kid HOK.out hd
          have ht2 := hat.t2
          have hu0 : ∀ u : After wr.heap.size wr, u.world.cell? ⟨w.heap.size + 1 + 1, 2, none⟩ = some (.slice (some ⟨w.heap.size + 1 + 1 + 1, 0, none⟩) (flen k) (flen k)) := fun u => u.cell (by simp; omega) ht2
          have g1 : (0 : Int) ≤ (j : Int) := by omega
          have g2 : (j : Int) < (flen k : Int) := by omega
          have HAT := Lib.hid hat
          have HD := Lib.hid hd
          clear hd hrow hat
          rcases hn with ⟨rfl, rfl, rfl⟩ | ⟨hs', a2, c2, rfl, hn2⟩
          · clear hkok
            go_wp2_with fail
            refine wp_region_mix (fun w' => ∃ u : After wr.heap.size wr, w' = u.world) [6] [(0, 0), (1, 0), (2, 0), (3, 0), (4, 1), (5, 1), (6, 2)] (by kernel_rfl) (by kernel_rfl) ⟨⟨_, (Below.refl _ _).drew⟩, rfl⟩ ?_
            iterate 4
              refine mix_see rfl (fun K hK => ?_)
              go_simp
              refine hK _ ?_
              clear hK K
            clear hu0
            refine mix_hold rfl (fun K hK => ?_)
            go_simp
            refine upon_method 115 (by kernel_rfl) (by kernel_rfl) ?_
            go_simp
            with_reducible refine (varTermT_any v' _).mono ?_
            rintro e w2 ⟨a2', c2', rfl, hb2', hl2⟩
            have hb2 : Below wr.heap.size wr w2 := bl_undrew hb2'
            obtain ⟨f, hf, _⟩ := HAT.out.row
            have hf2 := hf.of_block (hb2.block _ (by omega))
            have hg0 := hf2.cell (i := j * 3) (by omega)
            have hg1 := hf2.cell (i := j * 3 + 1) (by omega)
            have hg2 := hf2.cell (i := j * 3 + 2) (by omega)
            have hz0 := hf2.frozen (j * 3)
            have hz1 := hf2.frozen (j * 3 + 1)
            have hz2 := hf2.frozen (j * 3 + 2)
            have HSTEP := Lib.hid (HAT.out.step (c := c2') HD.out hb2 hl2)
            refine hK _ _ ⟨⟨_, hb2⟩, rfl⟩ ?_
            clear hK K hf hf2 hb2' hl2
            refine mix_hold rfl (fun K hK => ?_)
            go_simp
            refine hK _ _ ⟨⟨_, hb2⟩, rfl⟩ ?_
            clear hK K hb2
            refine mix_late rfl (fun K hK => ?_)
            go_simp
            refine hK _ _ ?_
            clear hK K
            refine mix_end ?_
            clear hg0 hg1 hg2 hz0 hz1 hz2 ht2 hk0
            go_wp2_with fail
            go_roundw
            case rel => exact ⟨j + 1, by omega, by go_num, HSTEP.out⟩
            case measure => simp [intOf]; omega
          · have hv0 : v' = 0 := ((okN_iff _ _ _).1 hkok.1).2.2 hs'
            subst hv0
            have HKK := Lib.hid hkok.2
            have HN2 := Lib.hid hn2
            clear hn2 hkok
            go_wp2_with fail
            refine wp_region_mix (fun w' => ∃ u : After wr.heap.size wr, w' = u.world) [6] [(0, 0), (1, 0), (2, 0), (3, 0), (4, 1), (5, 1), (6, 2)] (by kernel_rfl) (by kernel_rfl) ⟨⟨_, (Below.refl _ _).drew⟩, rfl⟩ ?_
            iterate 4
              refine mix_see rfl (fun K hK => ?_)
              go_simp
              refine hK _ ?_
              clear hK K
            clear hu0
            refine mix_hold rfl (fun K hK => ?_)
            go_simp
            refine upon_method 118 (by kernel_rfl) (by kernel_rfl) ?_
            go_simp
            with_reducible refine (IH.out (fsz kk) (by omega) s' a2 c2 kk _ ?_ HKK.out (Nat.le_refl _) (by omega)).mono ?_
            · exact (HN2.out.below (Below.refl _ _).drew).mono (Nat.le_refl _) (by simp; omega)
            rintro e w2 ⟨a2', c2', rfl, hb2', hl2⟩
            have hb2 : Below wr.heap.size wr w2 := bl_undrew hb2'
            obtain ⟨f, hf, _⟩ := HAT.out.row
            have hf2 := hf.of_block (hb2.block _ (by omega))
            have hg0 := hf2.cell (i := j * 3) (by omega)
            have hg1 := hf2.cell (i := j * 3 + 1) (by omega)
            have hg2 := hf2.cell (i := j * 3 + 2) (by omega)
            have hz0 := hf2.frozen (j * 3)
            have hz1 := hf2.frozen (j * 3 + 1)
            have hz2 := hf2.frozen (j * 3 + 2)
            have HSTEP := Lib.hid (HAT.out.step (c := c2') HD.out hb2 hl2)
            refine hK _ _ ⟨⟨_, hb2⟩, rfl⟩ ?_
            clear hK K hf hf2 hb2' hl2
            refine mix_hold rfl (fun K hK => ?_)
            go_simp
            refine hK _ _ ⟨⟨_, hb2⟩, rfl⟩ ?_
            clear hK K hb2
            refine mix_late rfl (fun K hK => ?_)
            go_simp
            refine hK _ _ ?_
            clear hK K
            refine mix_end ?_
            clear hg0 hg1 hg2 hz0 hz1 hz2 ht2 hk0
            go_wp2_with fail
            go_roundw
            case rel => exact ⟨j + 1, by omega, by go_num, HSTEP.out⟩
            case measure => simp [intOf]; omega
        · have hjk : j = flen k := by omega
          subst hjk
          have HDN := Lib.hid (fun x y z => tm_endT (s := s) (v := 0) (c := flen k) hat.below (hat.sl rfl) x y z)
          have ht0 := hat.t0
          have ht1 := hat.t1
          have ht2 := hat.t2
          have hr0 := hat.r0
          have hr1 := hat.r1
          have hr2 := hat.r2
          have hq0 := hat.q0
          have hq1 := hat.q1
          have hq2 := hat.q2
          clear hat
          go_wp2_with fail
          refine bodyPost_ret (v := .agg #[.int .i64 s, .int .i64 0, .slice (some ⟨w.heap.size + 1 + 1 + 1, 0, none⟩) (flen k) (flen k)]) ?_ rfl (HDN.out _ _ _)
          simp [results, Tryz.results118, go_sem, hr0, hr1, hr2]
end Go.Proofs.YtbnbogdglffkmaaGreatDoor

/-! RD8: TermRead of the program: its answer is a tree of one's own. -/
namespace Go.Proofs.YtbnbogdglffkmaaGreatDoor
open Go.RowKit Go.Deep

/-- What a reading answers: the term, or none. -/
def rdA (l : List UInt8) : Int × Int × Fo × Bool := match rdR l with
  | some (s, v, k) => (s, v, k, true)
  | none => (0, 0, .nil, false)
def RtPost (l : List UInt8) (w : World) (e : Ending) (w' : World) : Prop :=
  ∃ a c s v k t, rdA l = (s, v, k, t) ∧ e = .returned (.tuple #[.agg #[.int .i64 s, .int .i64 v, .slice a (flen k) c], .bool t]) ∧ Below w.heap.size w w' ∧ TX w' w.heap.size w'.heap.size a k

theorem rt_end {w w1 : World} {l : List UInt8} {s v : Int} {k : Fo} {t : Bool} {a : Option Addr} {c : Nat} (hr : rdA l = (s, v, k, t)) (hb : Below w.heap.size w w1) (hl : TX w1 (w.heap.size + 1) w1.heap.size a k) (x y z : Value) :
    RtPost l w (.returned (.tuple #[.agg #[.int .i64 s, .int .i64 v, .slice a (flen k) c], .bool t])) (((w1.setCell ⟨w.heap.size, 0, none⟩ x).setCell ⟨w.heap.size, 1, none⟩ y).setCell ⟨w.heap.size, 2, none⟩ z) := by
  refine ⟨a, c, s, v, k, t, hr, rfl, ((hb.setCell (by simp) _).setCell (by simp) _).setCell (by simp) _, ?_⟩
  have hs : Same (w.heap.size + 1) w1.heap.size w1 (((w1.setCell ⟨w.heap.size, 0, none⟩ x).setCell ⟨w.heap.size, 1, none⟩ y).setCell ⟨w.heap.size, 2, none⟩ z) :=
    (((Same.setCell (fun _ _ _ => rfl) (.inl (by simp)) _).setCell (.inl (by simp)) _).setCell (.inl (by simp)) _)
  exact (hl.same hs).mono (by omega) (by simp)
theorem rt_cells {w w1 : World} (hb : Below (w.heap.size + 1) (w.alloc (.cells #[.int .i64 0, .int .i64 0, .slice none 0 0] 25)) w1) :
    w1.cell? ⟨w.heap.size, 0, none⟩ = some (.int .i64 0) ∧ w1.cell? ⟨w.heap.size, 1, none⟩ = some (.int .i64 0) ∧ w1.cell? ⟨w.heap.size, 2, none⟩ = some (.slice none 0 0) ∧
      w1.frozen? ⟨w.heap.size, 0, none⟩ = false ∧ w1.frozen? ⟨w.heap.size, 1, none⟩ = false ∧ w1.frozen? ⟨w.heap.size, 2, none⟩ = false := by
  refine ⟨?_, ?_, ?_, ?_, ?_, ?_⟩
  · rw [hb.cell (by simp)]; simp
  · rw [hb.cell (by simp)]; simp
  · rw [hb.cell (by simp)]; simp
  · rw [hb.frozen (by simp)]; simp
  · rw [hb.frozen (by simp)]; simp
  · rw [hb.frozen (by simp)]; simp

theorem rdA_none {l : List UInt8} (h : rdN 16 16 l = none) : rdA l = (0, 0, .nil, false) := by unfold rdA rdR; rw [h]
theorem rdA_more {l : List UInt8} {t : Int × Int × Fo} {m : Nat} {b : UInt8} {r : List UInt8} (h : rdN 16 16 l = some (t, m, b :: r)) : rdA l = (0, 0, .nil, false) := by unfold rdA rdR; rw [h]
theorem rdA_all {l : List UInt8} {s v : Int} {k : Fo} {m : Nat} (h : rdN 16 16 l = some ((s, v, k), m, [])) : rdA l = (s, v, k, true) := by unfold rdA rdR; rw [h]

set_option maxRecDepth 100000 in
set_option maxHeartbeats 1000000 in
theorem iTermReadT_any (l : List UInt8) (w : World) (hl : l.length ≤ 1048576) (hE : ErrAt w w.heap.size) :
    Calls Tryz.prog 31 #[.string (str l)] w (RtPost l w) := by
  have hb0 : Below w.heap.size w ((w.alloc (.cells #[.int .i64 0, .int .i64 0, .slice none 0 0] 25)).alloc (.cells #[.string (str l), .int .i64 16] 76)) := ((Below.refl _ _).alloc (Nat.le_refl _) _).alloc (by simp) _
  have hb1 : Below (w.heap.size + 1) (w.alloc (.cells #[.int .i64 0, .int .i64 0, .slice none 0 0] 25)) ((w.alloc (.cells #[.int .i64 0, .int .i64 0, .slice none 0 0] 25)).alloc (.cells #[.string (str l), .int .i64 16] 76)) := (Below.refl _ _).alloc (by simp) _
  have hR : RdAt ((w.alloc (.cells #[.int .i64 0, .int .i64 0, .slice none 0 0] 25)).alloc (.cells #[.string (str l), .int .i64 16] 76)) (w.heap.size + 1) l (16 : Nat) := by
    refine ⟨by simp, ?_, ?_, ?_, ?_⟩
    · rw [World.cell?_alloc_at _ _ _ _ (by simp)]; rfl
    · rw [World.cell?_alloc_at _ _ _ _ (by simp)]; rfl
    · rw [World.frozen?_alloc_at _ _ _ _ (by simp)]
    · rw [World.frozen?_alloc_at _ _ _ _ (by simp)]
  have hE0 := (hE.same (Same.of_below hb0)).mono (Nat.le_succ _)
  have hnode := node_any 16 (by omega) (w.heap.size + 1) l 16 _ (Nat.le_refl _) hR hl hE0
  have HB0 := Lib.hid hb0
  have HB1 := Lib.hid hb1
  have HND := Lib.hid hnode
  clear hb0 hb1 hR hE0 hnode hE
  go_enter Tryz.func31, Tryz.ntmps31
  go_wp2_with fail
  with_reducible refine HND.out.mono ?_
  rintro e w2 ⟨nv, l', room', he, hk, hR2, hyes⟩
  have hB2 := HB0.out.trans (hk.to (B := w.heap.size) (by omega) (by simp; omega))
  have hB2' := HB1.out.trans (hk.to (B := w.heap.size + 1) (by omega) (by simp))
  have hgs := hk.size
  simp at hgs
  obtain ⟨hr0, hr1, hr2, hq0, hq1, hq2⟩ := rt_cells hB2'
  have hl0 := hR2.c0
  have HB2 := Lib.hid hB2
  have HB2' := Lib.hid hB2'
  clear hB2 hB2' hk hR2
  cases hrd : rdN 16 16 l with
  | none =>
    have HA := Lib.hid (rdA_none hrd)
    rw [hrd] at he
    subst he
    clear hyes
    go_wp2_with fail
    refine bodyPost_ret (v := .tuple #[.agg #[.int .i64 0, .int .i64 0, .slice none 0 0], .bool false]) ?_ rfl (rt_end (k := .nil) HA.out HB2.out ⟨.inl rfl, .inl rfl⟩ _ _ _)
    simp [results, Tryz.results31, go_sem, hr0, hr1, hr2]
  | some t =>
    obtain ⟨⟨s, v, k⟩, m, r⟩ := t
    rw [hrd] at he
    obtain ⟨rfl, rfl, hn⟩ := hyes _ _ _ _ _ hrd
    replace he : e = .returned (.tuple #[nv, .bool true]) := he
    subst he
    have HN := Lib.hid hn.to
    obtain ⟨hsh, hfer, hsz, _⟩ := rdN_sound _ _ _ hrd
    have hoN := shape_ok hsh
    clear hyes hn
    cases l' with
    | cons b r' =>
      have HA := Lib.hid (rdA_more hrd)
      have e2 : (str (b :: r')).toList.isEmpty = false := by rw [Lib.toList_data, str_toList]; rfl
      clear hrd
      go_wp2_with fail
      refine bodyPost_ret (v := .tuple #[.agg #[.int .i64 0, .int .i64 0, .slice none 0 0], .bool false]) ?_ rfl (rt_end (k := .nil) HA.out HB2.out ⟨.inl rfl, .inl rfl⟩ _ _ _)
      simp [results, Tryz.results31, go_sem, hr0, hr1, hr2]
    | nil =>
      have HA := Lib.hid (rdA_all hrd)
      have e2 : (str []).toList.isEmpty = true := by rw [Lib.toList_data, str_toList]; rfl
      have HOK := Lib.hid hoN
      clear hrd hoN
      rcases HN.out with ⟨rfl, rfl, rfl⟩ | ⟨hs', a2, c2, rfl, hn2⟩
      · clear HN HOK hsh hfer
        go_wp2_with fail
        refine upon_method 115 (by kernel_rfl) (by kernel_rfl) ?_
        go_simp
        with_reducible refine (varTermT_any v _).mono ?_
        rintro e w4 ⟨a4, c4, rfl, hb4, hl4⟩
        have hs4 := hb4.size
        obtain ⟨hr0, hr1, hr2, hq0, hq1, hq2⟩ := rt_cells (HB2'.out.trans (hb4.mono (by omega)))
        have HB4 := Lib.hid (HB2.out.trans (hb4.mono (by omega)))
        have HL4 := Lib.hid (hl4.mono (lo' := w.heap.size + 1) (by omega) (Nat.le_refl _))
        clear hb4 hl4
        go_wp2_with fail
        refine bodyPost_ret (v := .tuple #[.agg #[.int .i64 0, .int .i64 v, .slice a4 (flen .nil) c4], .bool true]) ?_ rfl (rt_end HA.out HB4.out HL4.out _ _ _)
        simp [results, Tryz.results31, go_sem, hr0, hr1, hr2]
      · have hv0 : v = 0 := ((okN_iff _ _ _).1 HOK.out.1).2.2 hs'
        subst hv0
        have HN2 := Lib.hid hn2
        clear HN hn2 hsh hfer
        go_wp2_with fail
        refine upon_method 118 (by kernel_rfl) (by kernel_rfl) ?_
        go_simp
        with_reducible refine (symTermT_any (fsz k) s a2 c2 k _ ?_ HOK.out.2 (Nat.le_refl _) (by omega)).mono ?_
        · exact HN2.out.mono (Nat.zero_le _) (Nat.le_refl _)
        rintro e w4 ⟨a4, c4, rfl, hb4, hl4⟩
        have hs4 := hb4.size
        obtain ⟨hr0, hr1, hr2, hq0, hq1, hq2⟩ := rt_cells (HB2'.out.trans (hb4.mono (by omega)))
        have HB4 := Lib.hid (HB2.out.trans (hb4.mono (by omega)))
        have HL4 := Lib.hid (hl4.mono (lo' := w.heap.size + 1) (by omega) (Nat.le_refl _))
        clear hb4 hl4
        go_wp2_with fail
        refine bodyPost_ret (v := .tuple #[.agg #[.int .i64 s, .int .i64 0, .slice a4 (flen k) c4], .bool true]) ?_ rfl (rt_end HA.out HB4.out HL4.out _ _ _)
        simp [results, Tryz.results31, go_sem, hr0, hr1, hr2]
end Go.Proofs.YtbnbogdglffkmaaGreatDoor

/-! TXL: A term's text is short, and there is one. -/
namespace Go.Proofs.YtbnbogdglffkmaaGreatDoor
open Go.RowKit Go.Deep
theorem tx_len {s v : Int} {k : Fo} (h : okW s v k 16 = true) : (tx s v k).length ≤ 200 := by
  obtain ⟨h1, h2, h3⟩ := (okW_iff _ _ _ _).1 h
  have h4 := fts_short k h2
  have h5 := join_len (fts k)
  have h6 := ltr_len s
  unfold tx tx1
  split
  · rename_i hs
    have hv := ((okN_iff _ _ _).1 h1).2.1 hs
    have := dec_len (n := v.toNat) (by omega)
    simp only [List.length_cons]
    omega
  · split
    · omega
    · simp only [List.length_append, List.length_cons, List.length_nil]
      omega
theorem tx_ne {s v : Int} {k : Fo} : tx s v k ≠ [] := by
  unfold tx tx1
  have := ltr_len s
  split
  · simp
  · split
    · intro h; rw [h] at this; simp at this
    · simp
theorem str_toList' (l : List UInt8) : (str l).data.toList = l := rfl
end Go.Proofs.YtbnbogdglffkmaaGreatDoor
