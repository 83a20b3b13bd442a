/- toTerm, toTermS once more: the copy is a tree whose rows lie each at the head of a block of its own, not frozen; and what stays of it if its numbers are written over. -/
import Derived.Test.YthbakmdcepoikaaXB
namespace Go.Proofs.Ythbakmdcepoikaa
open Go.RowKit Go.Deep

theorem row_of_allX {w : World} {lo B : Nat} : ∀ (k : Fo) (b o : Nat), lo ≤ b → b < B →
    (∀ i, i < flen k → ∃ x y s v kk a c, fdrop i k = .node x y (s, v) kk (fdrop (i + 1) k) ∧ w.cell? ⟨b, o + i * 3, none⟩ = some (.int .i64 s) ∧ w.cell? ⟨b, o + i * 3 + 1, none⟩ = some (.int .i64 v) ∧
      w.cell? ⟨b, o + i * 3 + 2, none⟩ = some (.slice a (flen kk) c) ∧ Sl w lo B a kk) → Row w lo B k b o
  | .nil, _, _, _, _, _ => trivial
  | .node x y p kk r, b, o, h1, h2, h => by
    obtain ⟨x', y', s, v, kk', a, c, e, c0, c1, c2, hs⟩ := h 0 (by simp [flen])
    simp only [fdrop, BT.node.injEq] at e
    obtain ⟨_, _, rfl, rfl, _⟩ := e
    refine ⟨h1, h2, by simpa using c0, by simpa using c1, ⟨a, c, by simpa using c2, hs⟩, row_of_allX r b (o + 3) h1 h2 fun i hi => ?_⟩
    obtain ⟨x', y', s, v, kk', a, c, e, c0, c1, c2, hs⟩ := h (i + 1) (by simp [flen]; omega)
    have e3 : o + 3 + i * 3 = o + (i + 1) * 3 := by omega
    exact ⟨x', y', s, v, kk', a, c, e, by rw [e3]; exact c0, by rw [e3]; exact c1, by rw [e3]; exact c2, hs⟩

/-- The shape of terms: each row in block b from offset o on, its numbers whatever they are, not frozen; the rows below it each at the head of a block. -/
def Sh (w : World) (lo B : Nat) : Fo → Nat → Nat → Prop
  | .nil, _, _ => True
  | .node _ _ _ k r, b, o => lo ≤ b ∧ b < B ∧ (∃ x, w.cell? ⟨b, o, none⟩ = some (.int .i64 x)) ∧ (∃ x, w.cell? ⟨b, o + 1, none⟩ = some (.int .i64 x)) ∧ w.frozen? ⟨b, o, none⟩ = false ∧ w.frozen? ⟨b, o + 1, none⟩ = false ∧
      (∃ a c, w.cell? ⟨b, o + 2, none⟩ = some (.slice a (flen k) c) ∧ (k = .nil ∨ ∃ b', a = some ⟨b', 0, none⟩ ∧ Sh w lo B k b' 0)) ∧ Sh w lo B r b (o + 3)
/-- What a mark leaves: in the blocks from lo on below B numbers may be others. -/
structure Marked (lo B : Nat) (w w' : World) : Prop where
  below : Below lo w w'
  far : ∀ b, B ≤ b → b < w.heap.size → w'.heap[b]? = w.heap[b]?
  kids : ∀ b o, lo ≤ b → b < B → o % 3 = 2 → w'.cell? ⟨b, o, none⟩ = w.cell? ⟨b, o, none⟩
  ints : ∀ b o x, lo ≤ b → b < B → o % 3 ≠ 2 → w.cell? ⟨b, o, none⟩ = some (.int .i64 x) → ∃ y, w'.cell? ⟨b, o, none⟩ = some (.int .i64 y)
  free : ∀ b o, lo ≤ b → b < B → w.frozen? ⟨b, o, none⟩ = false → w'.frozen? ⟨b, o, none⟩ = false
theorem Marked.refl (lo B : Nat) (w : World) : Marked lo B w w := ⟨Below.refl _ _, fun _ _ _ => rfl, fun _ _ _ _ _ => rfl, fun _ _ x _ _ _ h => ⟨x, h⟩, fun _ _ _ _ h => h⟩
theorem Marked.trans {lo B : Nat} {w w' w2 : World} (h : Marked lo B w w') (h' : Marked lo B w' w2) : Marked lo B w w2 :=
  ⟨h.below.trans h'.below, fun b h1 h2 => (h'.far b h1 (Nat.lt_of_lt_of_le h2 h.below.size)).trans (h.far b h1 h2), fun b o h1 h2 h3 => (h'.kids b o h1 h2 h3).trans (h.kids b o h1 h2 h3),
    fun b o x h1 h2 h3 h4 => by obtain ⟨y, hy⟩ := h.ints b o x h1 h2 h3 h4; exact h'.ints b o y h1 h2 h3 hy, fun b o h1 h2 h3 => h'.free b o h1 h2 (h.free b o h1 h2 h3)⟩
theorem Marked.set {lo B : Nat} {w : World} {b o : Nat} {u : Value} (h1 : lo ≤ b) (h2 : b < B) (h3 : o % 3 ≠ 2) (hc : w.cell? ⟨b, o, none⟩ = some u) (x : Int) : Marked lo B w (w.setCell ⟨b, o, none⟩ (.int .i64 x)) := by
  refine ⟨(Below.refl _ _).setCell h1 _, fun b' h4 h5 => Below.heap_setCell _ _ _ _ (by simp; omega), fun b' o' h4 h5 h6 => ?_, fun b' o' x' h4 h5 h6 h7 => ?_, fun b' o' h4 h5 h6 => by rw [World.frozen?_setCell]; exact h6⟩
  · exact World.cell?_setCell_other _ _ _ _ (by intro e; have := congrArg Addr.off e; simp at this; omega)
  · by_cases e : (⟨b, o, none⟩ : Addr) = ⟨b', o', none⟩
    · rw [← e]
      exact ⟨x, World.cell?_setCell_same _ _ _ hc⟩
    · exact ⟨x', by rw [World.cell?_setCell_other _ _ _ _ e]; exact h7⟩
theorem Marked.more {lo B : Nat} {w w' w2 : World} (h : Marked lo B w w') (hb : Below w'.heap.size w' w2) (hB : B ≤ w.heap.size) (hlo : lo ≤ w.heap.size) : Marked lo B w w2 := by
  have hs := h.below.size
  refine ⟨h.below.trans (hb.mono (by omega)), fun b h1 h2 => (hb.block b (by omega)).trans (h.far b h1 h2), fun b o h1 h2 h3 => by rw [hb.cell (by simp; omega)]; exact h.kids b o h1 h2 h3,
    fun b o x h1 h2 h3 h4 => by obtain ⟨y, hy⟩ := h.ints b o x h1 h2 h3 h4; exact ⟨y, by rw [hb.cell (by simp; omega)]; exact hy⟩, fun b o h1 h2 h3 => by rw [hb.frozen (by simp; omega)]; exact h.free b o h1 h2 h3⟩
theorem Sh.marked {w w' : World} {lo B : Nat} (hm : Marked lo B w w') : ∀ (k : Fo) (b o : Nat), o % 3 = 0 → Sh w lo B k b o → Sh w' lo B k b o
  | .nil, _, _, _, _ => trivial
  | .node _ _ _ k r, b, o, ho, ⟨h1, h2, ⟨x, hx⟩, ⟨y, hy⟩, f0, f1, ⟨a, c, hc, hk⟩, hr⟩ => by
    refine ⟨h1, h2, hm.ints b o x h1 h2 (by omega) hx, hm.ints b (o + 1) y h1 h2 (by omega) hy, hm.free b o h1 h2 f0, hm.free b (o + 1) h1 h2 f1, ⟨a, c, by rw [hm.kids b (o + 2) h1 h2 (by omega)]; exact hc, ?_⟩, Sh.marked hm r b (o + 3) (by omega) hr⟩
    rcases hk with hk | ⟨b', e, hk⟩
    · exact .inl hk
    · exact .inr ⟨b', e, Sh.marked hm k b' 0 rfl hk⟩
theorem frozen_same {w w' : World} {b o : Nat} (h : w'.heap[b]? = w.heap[b]?) : w'.frozen? ⟨b, o, none⟩ = w.frozen? ⟨b, o, none⟩ := by simp only [World.frozen?, h]
theorem Sh.same {w w' : World} {lo B : Nat} (hb : Same lo B w w') : ∀ (k : Fo) (b o : Nat), Sh w lo B k b o → Sh w' lo B k b o
  | .nil, _, _, _ => trivial
  | .node _ _ _ k r, b, o, ⟨h1, h2, ⟨x, hx⟩, ⟨y, hy⟩, f0, f1, ⟨a, c, hc, hk⟩, hr⟩ => by
    refine ⟨h1, h2, ⟨x, by rw [hb.cell h1 h2]; exact hx⟩, ⟨y, by rw [hb.cell h1 h2]; exact hy⟩, by rw [frozen_same (hb b h1 h2)]; exact f0, by rw [frozen_same (hb b h1 h2)]; exact f1, ⟨a, c, by rw [hb.cell h1 h2]; exact hc, ?_⟩, Sh.same hb r b (o + 3) hr⟩
    rcases hk with hk | ⟨b', e, hk⟩
    · exact .inl hk
    · exact .inr ⟨b', e, Sh.same hb k b' 0 hk⟩
theorem Sh.mono {w : World} {lo lo' B B' : Nat} (hlo : lo' ≤ lo) (hB : B ≤ B') : ∀ (k : Fo) (b o : Nat), Sh w lo B k b o → Sh w lo' B' k b o
  | .nil, _, _, _ => trivial
  | .node _ _ _ k r, b, o, ⟨h1, h2, hx, hy, f0, f1, ⟨a, c, hc, hk⟩, hr⟩ => by
    refine ⟨by omega, by omega, hx, hy, f0, f1, ⟨a, c, hc, ?_⟩, Sh.mono hlo hB r b (o + 3) hr⟩
    rcases hk with hk | ⟨b', e, hk⟩
    · exact .inl hk
    · exact .inr ⟨b', e, Sh.mono hlo hB k b' 0 hk⟩
theorem Sh.drop {w : World} {lo B : Nat} : ∀ (i : Nat) (k : Fo) (b o : Nat), Sh w lo B k b o → Sh w lo B (fdrop i k) b (o + i * 3)
  | 0, _, _, _, h => by simpa [fdrop] using h
  | _ + 1, .nil, _, _, _ => trivial
  | n + 1, .node _ _ _ _ r, b, o, h => by
    have := Sh.drop n r b (o + 3) h.2.2.2.2.2.2.2
    rw [fdrop, show o + (n + 1) * 3 = o + 3 + n * 3 from by omega]
    exact this
def ShS (w : World) (lo B : Nat) (a : Option Addr) (k : Fo) : Prop := k = .nil ∨ ∃ b, a = some ⟨b, 0, none⟩ ∧ Sh w lo B k b 0
theorem sh_of_all {w : World} {lo B : Nat} : ∀ (k : Fo) (b o : Nat), lo ≤ b → b < B → (∀ j, w.frozen? ⟨b, j, none⟩ = false) →
    (∀ i, i < flen k → ∃ x y s v kk a c, fdrop i k = .node x y (s, v) kk (fdrop (i + 1) k) ∧ w.cell? ⟨b, o + i * 3, none⟩ = some (.int .i64 s) ∧ w.cell? ⟨b, o + i * 3 + 1, none⟩ = some (.int .i64 v) ∧
      w.cell? ⟨b, o + i * 3 + 2, none⟩ = some (.slice a (flen kk) c) ∧ ShS w lo B a kk) → Sh w lo B k b o
  | .nil, _, _, _, _, _, _ => trivial
  | .node x y p kk r, b, o, h1, h2, hf, h => by
    obtain ⟨x', y', s, v, kk', a, c, e, c0, c1, c2, hs⟩ := h 0 (by simp [flen])
    simp only [fdrop, BT.node.injEq] at e
    obtain ⟨_, _, rfl, rfl, _⟩ := e
    refine ⟨h1, h2, ⟨_, by simpa using c0⟩, ⟨_, by simpa using c1⟩, hf _, hf _, ⟨a, c, by simpa using c2, hs⟩, sh_of_all r b (o + 3) h1 h2 hf fun i hi => ?_⟩
    obtain ⟨x', y', s, v, kk', a, c, e, c0, c1, c2, hs⟩ := h (i + 1) (by simp [flen]; omega)
    have e3 : o + 3 + i * 3 = o + (i + 1) * 3 := by omega
    exact ⟨x', y', s, v, kk', a, c, e, by rw [e3]; exact c0, by rw [e3]; exact c1, by rw [e3]; exact c2, hs⟩
/-- The terms k lie there, each row at the head of a block of its own. -/
def SX (w : World) (lo B : Nat) (a : Option Addr) (k : Fo) : Prop := Sl w lo B a k ∧ ShS w lo B a k
theorem SX.same {w w' : World} {lo B : Nat} {a : Option Addr} {k : Fo} (hb : Same lo B w w') (h : SX w lo B a k) : SX w' lo B a k := by
  refine ⟨h.1.same hb, ?_⟩
  rcases h.2 with h | ⟨b, e, h⟩
  · exact .inl h
  · exact .inr ⟨b, e, h.same hb⟩
theorem SX.mono {w : World} {lo lo' B B' : Nat} {a : Option Addr} {k : Fo} (hlo : lo' ≤ lo) (hB : B ≤ B') (h : SX w lo B a k) : SX w lo' B' a k := by
  refine ⟨h.1.mono hlo hB, ?_⟩
  rcases h.2 with h | ⟨b, e, h⟩
  · exact .inl h
  · exact .inr ⟨b, e, h.mono hlo hB⟩

def ToPostT (s v : Int) (k : Fo) (w : World) (e : Ending) (w' : World) : Prop :=
  ∃ a c, e = .returned (.agg #[.int .i64 s, .int .i64 v, .slice a (flen k) c]) ∧ Below w.heap.size w w' ∧ SX w' w.heap.size w'.heap.size a k
def TosPostT (k : Fo) (w : World) (e : Ending) (w' : World) : Prop :=
  ∃ a c, e = .returned (.slice a (flen k) c) ∧ Below w.heap.size w w' ∧ SX w' w.heap.size w'.heap.size a k

theorem to_endT {w w1 : World} {s v : Int} {k : Fo} {a : Option Addr} {c : Nat} {n : Nat} (hn : n = w.heap.size) (hb : Below n w w1) (hl : SX w1 (n + 3) w1.heap.size a k) (u x y z : Value) :
    ToPostT s v k w (.returned (.agg #[.int .i64 s, .int .i64 v, .slice a (flen k) c])) ((((w1.setCell ⟨n + 1 + 1, 2, none⟩ u).setCell ⟨n + 1, 0, none⟩ x).setCell ⟨n + 1, 1, none⟩ y).setCell ⟨n + 1, 2, none⟩ z) := by
  subst hn
  refine ⟨a, c, rfl, (((hb.setCell (by simp; omega) _).setCell (by simp) _).setCell (by simp) _).setCell (by simp) _, ?_⟩
  have hs : Same (w.heap.size + 3) w1.heap.size w1 ((((w1.setCell ⟨w.heap.size + 1 + 1, 2, none⟩ u).setCell ⟨w.heap.size + 1, 0, none⟩ x).setCell ⟨w.heap.size + 1, 1, none⟩ y).setCell ⟨w.heap.size + 1, 2, none⟩ z) :=
    ((((Same.setCell (fun _ _ _ => rfl) (.inl (by simp)) _).setCell (.inl (by simp)) _).setCell (.inl (by simp)) _).setCell (.inl (by simp)) _)
  exact (hl.same hs).mono (by omega) (by simp)

set_option maxRecDepth 100000 in
set_option maxHeartbeats 1000000 in
/-- toTerm out of toTermS. -/
theorem toTerm_ofT (s v : Int) (a : Option Addr) (c : Nat) (k : Fo) (w : World)
    (hS : ∀ w1, Below w.heap.size w w1 → Calls Try.prog 24 #[.slice a (flen k) c] w1 (TosPostT k w1)) :
    Calls Try.prog 11 #[.agg #[.int .i64 s, .int .i64 v, .slice a (flen k) c]] w (ToPostT s v k w) := by
  have HS := Lib.hid hS
  clear hS
  go_enter Try.func11, Try.ntmps11
  go_wp2_with fail
  with_reducible refine (HS.out _ ?_).mono ?_
  · exact ((((Below.refl _ _).alloc (Nat.le_refl _) _).alloc (by simp) _).alloc (by simp; omega) _)
  rintro e w1 ⟨a1, c1, rfl, hb, hl⟩
  have hs1 := hb.size
  simp at hs1
  have hlow : ∀ {q : Addr} {u : Value}, (((w.alloc (.cells #[.int .i64 s, .int .i64 v, .slice a (flen k) c] 32)).alloc (.cells #[.int .i64 0, .int .i64 0, .slice none 0 0] 25)).alloc (.cells #[.int .i64 s, .int .i64 v, .slice none 0 0] 25)).cell? q = some u → w1.cell? q = some u := fun h => by
    rw [hb.cell (World.block_lt_of_cell? _ _ h)]; exact h
  have hc0 := hlow (q := ⟨w.heap.size + 1 + 1, 0, none⟩) (u := .int .i64 s) (by rw [World.cell?_alloc_at _ _ _ _ (by simp)]; rfl)
  have hc1 := hlow (q := ⟨w.heap.size + 1 + 1, 1, none⟩) (u := .int .i64 v) (by rw [World.cell?_alloc_at _ _ _ _ (by simp)]; rfl)
  have hc2 := hlow (q := ⟨w.heap.size + 1 + 1, 2, none⟩) (u := .slice none 0 0) (by rw [World.cell?_alloc_at _ _ _ _ (by simp)]; rfl)
  have hr0 := hlow (q := ⟨w.heap.size + 1, 0, none⟩) (u := .int .i64 0) (by rw [World.cell?_alloc_lt _ _ _ (by simp), World.cell?_alloc_at _ _ _ _ (by simp)]; rfl)
  have hr1 := hlow (q := ⟨w.heap.size + 1, 1, none⟩) (u := .int .i64 0) (by rw [World.cell?_alloc_lt _ _ _ (by simp), World.cell?_alloc_at _ _ _ _ (by simp)]; rfl)
  have hr2 := hlow (q := ⟨w.heap.size + 1, 2, none⟩) (u := .slice none 0 0) (by rw [World.cell?_alloc_lt _ _ _ (by simp), World.cell?_alloc_at _ _ _ _ (by simp)]; rfl)
  have hf2 : w1.frozen? ⟨w.heap.size + 1 + 1, 2, none⟩ = false := by rw [hb.frozen (by simp), World.frozen?_alloc_at _ _ _ _ (by simp)]
  have hg0 : w1.frozen? ⟨w.heap.size + 1, 0, none⟩ = false := by rw [hb.frozen (by simp), World.frozen?_alloc_past _ _ _ (by simp), World.frozen?_alloc_at _ _ _ _ (by simp)]
  have hg1 : w1.frozen? ⟨w.heap.size + 1, 1, none⟩ = false := by rw [hb.frozen (by simp), World.frozen?_alloc_past _ _ _ (by simp), World.frozen?_alloc_at _ _ _ _ (by simp)]
  have hg2 : w1.frozen? ⟨w.heap.size + 1, 2, none⟩ = false := by rw [hb.frozen (by simp), World.frozen?_alloc_past _ _ _ (by simp), World.frozen?_alloc_at _ _ _ _ (by simp)]
  have HB : Hid (Below w.heap.size w w1) := ((((Below.refl w.heap.size w).alloc (Nat.le_refl _) _).alloc (by simp) _).alloc (by simp; omega) _).trans (hb.mono (by simp; omega))
  have HL : Hid (SX w1 (w.heap.size + 3) w1.heap.size a1 k) := hl.mono (by simp) (Nat.le_refl _)
  clear hb hl hlow
  go_wp2_with fail
  refine bodyPost_ret (v := .agg #[.int .i64 s, .int .i64 v, .slice a1 (flen k) c1]) ?_ rfl (to_endT rfl HB.out HL.out _ _ _ _)
  simp [results, Try.results11, go_sem, hr0, hr1, hr2]

/-- What holds at the head of toTermS's loop. -/
structure ToAtT (w : World) (k : Fo) (j : Nat) (wr : World) : Prop where
  below : Below w.heap.size w wr
  size : w.heap.size < wr.heap.size
  row : ∃ f : Nat → Value, wr.rowIs w.heap.size 25 (flen k * 3) f ∧ ∀ i, i < j → ∃ x y s v kk a c, fdrop i k = .node x y (s, v) kk (fdrop (i + 1) k) ∧
    f (i * 3) = .int .i64 s ∧ f (i * 3 + 1) = .int .i64 v ∧ f (i * 3 + 2) = .slice a (flen kk) c ∧ SX wr (w.heap.size + 1) wr.heap.size a kk

theorem ToAtT.start (w : World) (k : Fo) : ToAtT w k 0 (w.alloc (.cells (madeCells #[.int .i64 0, .int .i64 0, .slice none 0 0] (flen k * 3)) 25)) := by
  refine ⟨(Below.refl _ _).alloc (Nat.le_refl _) _, by simp, ⟨fun i => #[Value.int .i64 0, .int .i64 0, .slice none 0 0][i % 3]!, ?_, fun i hi => by omega⟩⟩
  have := World.rowIs_alloc w (madeCells #[.int .i64 0, .int .i64 0, .slice none 0 0] (flen k * 3)) 25 (fun i => #[Value.int .i64 0, .int .i64 0, .slice none 0 0][i % 3]!) (fun i hi => by
    rw [size_madeCells] at hi
    exact made_at _ _ _ hi)
  rw [size_madeCells] at this
  exact this
theorem ToAtT.step {w wr w2 : World} {k : Fo} {j x y : Nat} {s v : Int} {kk : Fo} {a : Option Addr} {c : Nat} (h : ToAtT w k j wr) (hd : fdrop j k = .node x y (s, v) kk (fdrop (j + 1) k)) (hb : Below wr.heap.size wr w2) (hl : SX w2 wr.heap.size w2.heap.size a kk) :
    ToAtT w k (j + 1) (((w2.setCell ⟨w.heap.size, j * 3, none⟩ (.int .i64 s)).setCell ⟨w.heap.size, j * 3 + 1, none⟩ (.int .i64 v)).setCell ⟨w.heap.size, j * 3 + 2, none⟩ (.slice a (flen kk) c)) := by
  have hs := h.size
  have hs2 := hb.size
  obtain ⟨f, hf, hall⟩ := h.row
  have hf2 := hf.of_block (hb.block _ hs)
  have hsame : ∀ {L H : Nat}, w.heap.size < L → Same L H w2 (((w2.setCell ⟨w.heap.size, j * 3, none⟩ (.int .i64 s)).setCell ⟨w.heap.size, j * 3 + 1, none⟩ (.int .i64 v)).setCell ⟨w.heap.size, j * 3 + 2, none⟩ (.slice a (flen kk) c)) := fun hL =>
    ((Same.setCell (fun _ _ _ => rfl) (.inl hL) _).setCell (.inl hL) _).setCell (.inl hL) _
  refine ⟨(((h.below.trans (hb.mono (by omega))).setCell (by simp) _).setCell (by simp) _).setCell (by simp) _, by simp; omega, ⟨_, ((hf2.set _ _).set _ _).set _ _, fun i hi => ?_⟩⟩
  by_cases hij : i = j
  · subst hij
    exact ⟨x, y, s, v, kk, a, c, hd, by simp, by simp, by simp, (hl.same (hsame (by omega))).mono (by omega) (by simp)⟩
  · obtain ⟨x', y', s', v', k', a', c', e, h0, h1, h2, hsl⟩ := hall i (by omega)
    refine ⟨x', y', s', v', k', a', c', e, ?_, ?_, ?_, ((hsl.same (fun b h1 h2 => hb.block b h2)).same (hsame (by omega))).mono (Nat.le_refl _) (by simp; omega)⟩
    · rw [if_neg (by omega), if_neg (by omega), if_neg (by omega)]; exact h0
    · rw [if_neg (by omega), if_neg (by omega), if_neg (by omega)]; exact h1
    · rw [if_neg (by omega), if_neg (by omega), if_neg (by omega)]; exact h2
theorem ToAtT.sl {w wr : World} {k : Fo} {j : Nat} (h : ToAtT w k j wr) (hj : flen k ≤ j) : SX wr w.heap.size wr.heap.size (some ⟨w.heap.size, 0, none⟩) k := by
  obtain ⟨f, hf, hall⟩ := h.row
  have key : ∀ i, i < flen k → ∃ x y s v kk a c, fdrop i k = .node x y (s, v) kk (fdrop (i + 1) k) ∧ wr.cell? ⟨w.heap.size, 0 + i * 3, none⟩ = some (.int .i64 s) ∧ wr.cell? ⟨w.heap.size, 0 + i * 3 + 1, none⟩ = some (.int .i64 v) ∧
      wr.cell? ⟨w.heap.size, 0 + i * 3 + 2, none⟩ = some (.slice a (flen kk) c) ∧ SX wr w.heap.size wr.heap.size a kk := fun i hi => by
    obtain ⟨x, y, s, v, kk, a, c, e, h0, h1, h2, hs⟩ := hall i (by omega)
    refine ⟨x, y, s, v, kk, a, c, e, ?_, ?_, ?_, hs.mono (by omega) (Nat.le_refl _)⟩
    · rw [Nat.zero_add, ← h0]; exact hf.cell (by omega)
    · rw [Nat.zero_add, ← h1]; exact hf.cell (by omega)
    · rw [Nat.zero_add, ← h2]; exact hf.cell (by omega)
  refine ⟨.inr ⟨_, 0, rfl, row_of_allX k _ 0 (Nat.le_refl _) h.size fun i hi => ?_⟩, .inr ⟨_, rfl, sh_of_all k _ 0 (Nat.le_refl _) h.size (fun j => hf.frozen j) fun i hi => ?_⟩⟩
  · obtain ⟨x, y, s, v, kk, a, c, e, h0, h1, h2, hs⟩ := key i hi
    exact ⟨x, y, s, v, kk, a, c, e, h0, h1, h2, hs.1⟩
  · obtain ⟨x, y, s, v, kk, a, c, e, h0, h1, h2, hs⟩ := key i hi
    exact ⟨x, y, s, v, kk, a, c, e, h0, h1, h2, hs.2⟩

set_option maxRecDepth 100000 in
set_option maxHeartbeats 1000000 in
theorem toTermS_anyT (N : Nat) : ∀ (a : Option Addr) (c : Nat) (k : Fo) (w : World), Sl w 0 w.heap.size a k → fsz k ≤ N → N ≤ 1048576 →
    Calls Try.prog 24 #[.slice a (flen k) c] w (TosPostT k w) := by
  induction N using Nat.strongRecOn with
  | _ N ih =>
    intro a c k w hl hN hN2
    have hfl := flen_le (k := k)
    have IH := Lib.hid ih
    clear ih
    have hmk := make_terms (flen k) (by omega)
    have HST := Lib.hid (ToAtT.start w k)
    go_enter Try.func24, Try.ntmps24
    go_wp2_with fail
    clear hmk
    go_loopw [4] (fun i wr => ∃ j : Nat, j ≤ flen k ∧ i = .int .i64 j ∧ ToAtT w k j wr) (fun i _ => flen k - (intOf i).toNat)
    case atStart => exact ⟨0, by omega, rfl, HST.out⟩
    case round =>
      clear HST
      obtain ⟨j, hj, rfl, hat⟩ := hrel
      have hsr := hat.size
      by_cases hlt : j < flen k
      · rcases hl with rfl | ⟨b, o, rfl, hrow⟩
        · simp [flen] at hlt
        obtain ⟨s', v', kk, a', c', ⟨x, y, hd⟩, _, hbB, hk0, hk1, hk2, hsl⟩ := row_at (hrow.below hat.below) hlt
        have hkN := fsz_kid' hd
        have HD := Lib.hid hd
        have HS := Lib.hid hsl
        have HAT := Lib.hid hat
        clear hd hsl hrow hat
        go_wp2_with fail
        with_reducible refine (toTerm_ofT s' v' a' c' kk _ ?_).mono ?_
        · intro w1 hb1
          refine IH.out (fsz kk) (by omega) a' c' kk w1 ?_ (Nat.le_refl _) (by omega)
          exact (HS.out.below (hb1.mono (by omega))).mono (Nat.le_refl _) (by have := hb1.size; omega)
        rintro e w2 ⟨a2, c2, rfl, hb2, hl2⟩
        obtain ⟨f, hf, _⟩ := HAT.out.row
        have hf2 := hf.of_block (hb2.block _ hsr)
        have hg0 := hf2.cell (i := j * 3) (by omega)
        have hg1 := hf2.cell (i := j * 3 + 1) (by omega)
        have hg2 := hf2.cell (i := j * 3 + 2) (by omega)
        have hz0 := hf2.frozen (j * 3)
        have hz1 := hf2.frozen (j * 3 + 1)
        have hz2 := hf2.frozen (j * 3 + 2)
        have HSTEP := Lib.hid (HAT.out.step (c := c2) HD.out hb2 hl2)
        clear hf hf2 hb2 hl2 hk0 hk1 hk2
        go_wp2_with fail
        go_roundw
        case rel => exact ⟨j + 1, by omega, by go_num, HSTEP.out⟩
        case measure => simp [intOf]; omega
      · have HE : Hid (TosPostT k w (.returned (.slice (some ⟨w.heap.size, 0, none⟩) (flen k) (flen k))) wr) := ⟨_, _, rfl, hat.below, hat.sl (by omega)⟩
        clear hat
        go_wp2_with fail
        go_ret
        exact HE.out
end Go.Proofs.Ythbakmdcepoikaa
