/- Several texts in one: XBt, XT, XC. -/
import Derived.Test.YtoafleckcjanaaaKLk1
import Derived.BigQuiet

/-! XBt: toTerm, toTermS once more: the copy is a tree whose rows lie each at the head of a block of its own, not frozen; and what stays of it if its numbers are written over. -/
namespace Go.Proofs.Ytoafleckcjanaaa
open Go.RowKit Go.Deep

theorem row_of_allX {w : World} {lo B : Nat} : ∀ (k : Fo) (b o : Nat), lo ≤ b → b < B →
    (∀ i, i < flen k → ∃ x y s v kk a c, fdrop i k = .node x y (s, v) kk (fdrop (i + 1) k) ∧ w.cell? ⟨b, o + i * 3, none⟩ = some (.int .i64 s) ∧ w.cell? ⟨b, o + i * 3 + 1, none⟩ = some (.int .i64 v) ∧
      w.cell? ⟨b, o + i * 3 + 2, none⟩ = some (.slice a (flen kk) c) ∧ Sl w lo B a kk) → Row w lo B k b o
  | .nil, _, _, _, _, _ => trivial
  | .node x y p kk r, b, o, h1, h2, h => by
    obtain ⟨x', y', s, v, kk', a, c, e, c0, c1, c2, hs⟩ := h 0 (by simp [flen])
    simp only [fdrop, BT.node.injEq] at e
    obtain ⟨_, _, rfl, rfl, _⟩ := e
    refine ⟨h1, h2, by simpa using c0, by simpa using c1, ⟨a, c, by simpa using c2, hs⟩, row_of_allX r b (o + 3) h1 h2 fun i hi => ?_⟩
    obtain ⟨x', y', s, v, kk', a, c, e, c0, c1, c2, hs⟩ := h (i + 1) (by simp [flen]; omega)
    have e3 : o + 3 + i * 3 = o + (i + 1) * 3 := by omega
    exact ⟨x', y', s, v, kk', a, c, e, by rw [e3]; exact c0, by rw [e3]; exact c1, by rw [e3]; exact c2, hs⟩

/-- The shape of terms: each row in block b from offset o on, its numbers whatever they are, not frozen; the rows below it each at the head of a block. -/
def Sh (w : World) (lo B : Nat) : Fo → Nat → Nat → Prop
  | .nil, _, _ => True
  | .node _ _ _ k r, b, o => lo ≤ b ∧ b < B ∧ (∃ x, w.cell? ⟨b, o, none⟩ = some (.int .i64 x)) ∧ (∃ x, w.cell? ⟨b, o + 1, none⟩ = some (.int .i64 x)) ∧ w.frozen? ⟨b, o, none⟩ = false ∧ w.frozen? ⟨b, o + 1, none⟩ = false ∧
      (∃ a c, w.cell? ⟨b, o + 2, none⟩ = some (.slice a (flen k) c) ∧ (k = .nil ∨ ∃ b', a = some ⟨b', 0, none⟩ ∧ Sh w lo B k b' 0)) ∧ Sh w lo B r b (o + 3)
/-- What a mark leaves: in the blocks from lo on below B numbers may be others. -/
structure Marked (lo B : Nat) (w w' : World) : Prop where
  below : Below lo w w'
  far : ∀ b, B ≤ b → b < w.heap.size → w'.heap[b]? = w.heap[b]?
  kids : ∀ b o, lo ≤ b → b < B → o % 3 = 2 → w'.cell? ⟨b, o, none⟩ = w.cell? ⟨b, o, none⟩
  ints : ∀ b o x, lo ≤ b → b < B → o % 3 ≠ 2 → w.cell? ⟨b, o, none⟩ = some (.int .i64 x) → ∃ y, w'.cell? ⟨b, o, none⟩ = some (.int .i64 y)
  free : ∀ b o, lo ≤ b → b < B → w.frozen? ⟨b, o, none⟩ = false → w'.frozen? ⟨b, o, none⟩ = false
theorem Marked.refl (lo B : Nat) (w : World) : Marked lo B w w := ⟨Below.refl _ _, fun _ _ _ => rfl, fun _ _ _ _ _ => rfl, fun _ _ x _ _ _ h => ⟨x, h⟩, fun _ _ _ _ h => h⟩
theorem Marked.trans {lo B : Nat} {w w' w2 : World} (h : Marked lo B w w') (h' : Marked lo B w' w2) : Marked lo B w w2 :=
  ⟨h.below.trans h'.below, fun b h1 h2 => (h'.far b h1 (Nat.lt_of_lt_of_le h2 h.below.size)).trans (h.far b h1 h2), fun b o h1 h2 h3 => (h'.kids b o h1 h2 h3).trans (h.kids b o h1 h2 h3),
    fun b o x h1 h2 h3 h4 => by obtain ⟨y, hy⟩ := h.ints b o x h1 h2 h3 h4; exact h'.ints b o y h1 h2 h3 hy, fun b o h1 h2 h3 => h'.free b o h1 h2 (h.free b o h1 h2 h3)⟩
theorem Marked.set {lo B : Nat} {w : World} {b o : Nat} {u : Value} (h1 : lo ≤ b) (h2 : b < B) (h3 : o % 3 ≠ 2) (hc : w.cell? ⟨b, o, none⟩ = some u) (x : Int) : Marked lo B w (w.setCell ⟨b, o, none⟩ (.int .i64 x)) := by
  refine ⟨(Below.refl _ _).setCell h1 _, fun b' h4 h5 => Below.heap_setCell _ _ _ _ (by simp; omega), fun b' o' h4 h5 h6 => ?_, fun b' o' x' h4 h5 h6 h7 => ?_, fun b' o' h4 h5 h6 => by rw [World.frozen?_setCell]; exact h6⟩
  · exact World.cell?_setCell_other _ _ _ _ (by intro e; have := congrArg Addr.off e; simp at this; omega)
  · by_cases e : (⟨b, o, none⟩ : Addr) = ⟨b', o', none⟩
    · rw [← e]
      exact ⟨x, World.cell?_setCell_same _ _ _ hc⟩
    · exact ⟨x', by rw [World.cell?_setCell_other _ _ _ _ e]; exact h7⟩
theorem Marked.more {lo B : Nat} {w w' w2 : World} (h : Marked lo B w w') (hb : Below w'.heap.size w' w2) (hB : B ≤ w.heap.size) (hlo : lo ≤ w.heap.size) : Marked lo B w w2 := by
  have hs := h.below.size
  refine ⟨h.below.trans (hb.mono (by omega)), fun b h1 h2 => (hb.block b (by omega)).trans (h.far b h1 h2), fun b o h1 h2 h3 => by rw [hb.cell (by simp; omega)]; exact h.kids b o h1 h2 h3,
    fun b o x h1 h2 h3 h4 => by obtain ⟨y, hy⟩ := h.ints b o x h1 h2 h3 h4; exact ⟨y, by rw [hb.cell (by simp; omega)]; exact hy⟩, fun b o h1 h2 h3 => by rw [hb.frozen (by simp; omega)]; exact h.free b o h1 h2 h3⟩
theorem Sh.marked {w w' : World} {lo B : Nat} (hm : Marked lo B w w') : ∀ (k : Fo) (b o : Nat), o % 3 = 0 → Sh w lo B k b o → Sh w' lo B k b o
  | .nil, _, _, _, _ => trivial
  | .node _ _ _ k r, b, o, ho, ⟨h1, h2, ⟨x, hx⟩, ⟨y, hy⟩, f0, f1, ⟨a, c, hc, hk⟩, hr⟩ => by
    refine ⟨h1, h2, hm.ints b o x h1 h2 (by omega) hx, hm.ints b (o + 1) y h1 h2 (by omega) hy, hm.free b o h1 h2 f0, hm.free b (o + 1) h1 h2 f1, ⟨a, c, by rw [hm.kids b (o + 2) h1 h2 (by omega)]; exact hc, ?_⟩, Sh.marked hm r b (o + 3) (by omega) hr⟩
    rcases hk with hk | ⟨b', e, hk⟩
    · exact .inl hk
    · exact .inr ⟨b', e, Sh.marked hm k b' 0 rfl hk⟩
theorem frozen_same {w w' : World} {b o : Nat} (h : w'.heap[b]? = w.heap[b]?) : w'.frozen? ⟨b, o, none⟩ = w.frozen? ⟨b, o, none⟩ := by simp only [World.frozen?, h]
theorem Sh.same {w w' : World} {lo B : Nat} (hb : Same lo B w w') : ∀ (k : Fo) (b o : Nat), Sh w lo B k b o → Sh w' lo B k b o
  | .nil, _, _, _ => trivial
  | .node _ _ _ k r, b, o, ⟨h1, h2, ⟨x, hx⟩, ⟨y, hy⟩, f0, f1, ⟨a, c, hc, hk⟩, hr⟩ => by
    refine ⟨h1, h2, ⟨x, by rw [hb.cell h1 h2]; exact hx⟩, ⟨y, by rw [hb.cell h1 h2]; exact hy⟩, by rw [frozen_same (hb b h1 h2)]; exact f0, by rw [frozen_same (hb b h1 h2)]; exact f1, ⟨a, c, by rw [hb.cell h1 h2]; exact hc, ?_⟩, Sh.same hb r b (o + 3) hr⟩
    rcases hk with hk | ⟨b', e, hk⟩
    · exact .inl hk
    · exact .inr ⟨b', e, Sh.same hb k b' 0 hk⟩
theorem Sh.mono {w : World} {lo lo' B B' : Nat} (hlo : lo' ≤ lo) (hB : B ≤ B') : ∀ (k : Fo) (b o : Nat), Sh w lo B k b o → Sh w lo' B' k b o
  | .nil, _, _, _ => trivial
  | .node _ _ _ k r, b, o, ⟨h1, h2, hx, hy, f0, f1, ⟨a, c, hc, hk⟩, hr⟩ => by
    refine ⟨by omega, by omega, hx, hy, f0, f1, ⟨a, c, hc, ?_⟩, Sh.mono hlo hB r b (o + 3) hr⟩
    rcases hk with hk | ⟨b', e, hk⟩
    · exact .inl hk
    · exact .inr ⟨b', e, Sh.mono hlo hB k b' 0 hk⟩
theorem Sh.drop {w : World} {lo B : Nat} : ∀ (i : Nat) (k : Fo) (b o : Nat), Sh w lo B k b o → Sh w lo B (fdrop i k) b (o + i * 3)
  | 0, _, _, _, h => by simpa [fdrop] using h
  | _ + 1, .nil, _, _, _ => trivial
  | n + 1, .node _ _ _ _ r, b, o, h => by
    have := Sh.drop n r b (o + 3) h.2.2.2.2.2.2.2
    rw [fdrop, show o + (n + 1) * 3 = o + 3 + n * 3 from by omega]
    exact this
def ShS (w : World) (lo B : Nat) (a : Option Addr) (k : Fo) : Prop := k = .nil ∨ ∃ b, a = some ⟨b, 0, none⟩ ∧ Sh w lo B k b 0
theorem sh_of_all {w : World} {lo B : Nat} : ∀ (k : Fo) (b o : Nat), lo ≤ b → b < B → (∀ j, w.frozen? ⟨b, j, none⟩ = false) →
    (∀ i, i < flen k → ∃ x y s v kk a c, fdrop i k = .node x y (s, v) kk (fdrop (i + 1) k) ∧ w.cell? ⟨b, o + i * 3, none⟩ = some (.int .i64 s) ∧ w.cell? ⟨b, o + i * 3 + 1, none⟩ = some (.int .i64 v) ∧
      w.cell? ⟨b, o + i * 3 + 2, none⟩ = some (.slice a (flen kk) c) ∧ ShS w lo B a kk) → Sh w lo B k b o
  | .nil, _, _, _, _, _, _ => trivial
  | .node x y p kk r, b, o, h1, h2, hf, h => by
    obtain ⟨x', y', s, v, kk', a, c, e, c0, c1, c2, hs⟩ := h 0 (by simp [flen])
    simp only [fdrop, BT.node.injEq] at e
    obtain ⟨_, _, rfl, rfl, _⟩ := e
    refine ⟨h1, h2, ⟨_, by simpa using c0⟩, ⟨_, by simpa using c1⟩, hf _, hf _, ⟨a, c, by simpa using c2, hs⟩, sh_of_all r b (o + 3) h1 h2 hf fun i hi => ?_⟩
    obtain ⟨x', y', s, v, kk', a, c, e, c0, c1, c2, hs⟩ := h (i + 1) (by simp [flen]; omega)
    have e3 : o + 3 + i * 3 = o + (i + 1) * 3 := by omega
    exact ⟨x', y', s, v, kk', a, c, e, by rw [e3]; exact c0, by rw [e3]; exact c1, by rw [e3]; exact c2, hs⟩
/-- The terms k lie there, each row at the head of a block of its own. -/
def SX (w : World) (lo B : Nat) (a : Option Addr) (k : Fo) : Prop := Sl w lo B a k ∧ ShS w lo B a k
theorem SX.same {w w' : World} {lo B : Nat} {a : Option Addr} {k : Fo} (hb : Same lo B w w') (h : SX w lo B a k) : SX w' lo B a k := by
  refine ⟨h.1.same hb, ?_⟩
  rcases h.2 with h | ⟨b, e, h⟩
  · exact .inl h
  · exact .inr ⟨b, e, h.same hb⟩
theorem SX.mono {w : World} {lo lo' B B' : Nat} {a : Option Addr} {k : Fo} (hlo : lo' ≤ lo) (hB : B ≤ B') (h : SX w lo B a k) : SX w lo' B' a k := by
  refine ⟨h.1.mono hlo hB, ?_⟩
  rcases h.2 with h | ⟨b, e, h⟩
  · exact .inl h
  · exact .inr ⟨b, e, h.mono hlo hB⟩

def ToPostT (s v : Int) (k : Fo) (w : World) (e : Ending) (w' : World) : Prop :=
  ∃ a c, e = .returned (.agg #[.int .i64 s, .int .i64 v, .slice a (flen k) c]) ∧ Below w.heap.size w w' ∧ SX w' w.heap.size w'.heap.size a k
def TosPostT (k : Fo) (w : World) (e : Ending) (w' : World) : Prop :=
  ∃ a c, e = .returned (.slice a (flen k) c) ∧ Below w.heap.size w w' ∧ SX w' w.heap.size w'.heap.size a k

theorem to_endT {w w1 : World} {s v : Int} {k : Fo} {a : Option Addr} {c : Nat} {n : Nat} (hn : n = w.heap.size) (hb : Below n w w1) (hl : SX w1 (n + 3) w1.heap.size a k) (u x y z : Value) :
    ToPostT s v k w (.returned (.agg #[.int .i64 s, .int .i64 v, .slice a (flen k) c])) ((((w1.setCell ⟨n + 1 + 1, 2, none⟩ u).setCell ⟨n + 1, 0, none⟩ x).setCell ⟨n + 1, 1, none⟩ y).setCell ⟨n + 1, 2, none⟩ z) := by
  subst hn
  refine ⟨a, c, rfl, (((hb.setCell (by simp; omega) _).setCell (by simp) _).setCell (by simp) _).setCell (by simp) _, ?_⟩
  have hs : Same (w.heap.size + 3) w1.heap.size w1 ((((w1.setCell ⟨w.heap.size + 1 + 1, 2, none⟩ u).setCell ⟨w.heap.size + 1, 0, none⟩ x).setCell ⟨w.heap.size + 1, 1, none⟩ y).setCell ⟨w.heap.size + 1, 2, none⟩ z) :=
    ((((Same.setCell (fun _ _ _ => rfl) (.inl (by simp)) _).setCell (.inl (by simp)) _).setCell (.inl (by simp)) _).setCell (.inl (by simp)) _)
  exact (hl.same hs).mono (by omega) (by simp)

set_option maxRecDepth 100000 in
set_option maxHeartbeats 1000000 in
/-- toTerm out of toTermS. -/
theorem toTerm_ofT (s v : Int) (a : Option Addr) (c : Nat) (k : Fo) (w : World)
    (hS : ∀ w1, Below w.heap.size w w1 → Calls Try.prog 55 #[.slice a (flen k) c] w1 (TosPostT k w1)) :
    Calls Try.prog 15 #[.agg #[.int .i64 s, .int .i64 v, .slice a (flen k) c]] w (ToPostT s v k w) := by
  have HS := Lib.hid hS
  clear hS
  go_enter Try.func15, Try.ntmps15
  go_wp2_with fail
  with_reducible refine (HS.out _ ?_).mono ?_
  · exact ((((Below.refl _ _).alloc (Nat.le_refl _) _).alloc (by simp) _).alloc (by simp; omega) _)
  rintro e w1 ⟨a1, c1, rfl, hb, hl⟩
  have hs1 := hb.size
  simp at hs1
  have hlow : ∀ {q : Addr} {u : Value}, (((w.alloc (.cells #[.int .i64 s, .int .i64 v, .slice a (flen k) c] 25)).alloc (.cells #[.int .i64 0, .int .i64 0, .slice none 0 0] 35)).alloc (.cells #[.int .i64 s, .int .i64 v, .slice none 0 0] 35)).cell? q = some u → w1.cell? q = some u := fun h => by
    rw [hb.cell (World.block_lt_of_cell? _ _ h)]; exact h
  have hc0 := hlow (q := ⟨w.heap.size + 1 + 1, 0, none⟩) (u := .int .i64 s) (by rw [World.cell?_alloc_at _ _ _ _ (by simp)]; rfl)
  have hc1 := hlow (q := ⟨w.heap.size + 1 + 1, 1, none⟩) (u := .int .i64 v) (by rw [World.cell?_alloc_at _ _ _ _ (by simp)]; rfl)
  have hc2 := hlow (q := ⟨w.heap.size + 1 + 1, 2, none⟩) (u := .slice none 0 0) (by rw [World.cell?_alloc_at _ _ _ _ (by simp)]; rfl)
  have hr0 := hlow (q := ⟨w.heap.size + 1, 0, none⟩) (u := .int .i64 0) (by rw [World.cell?_alloc_lt _ _ _ (by simp), World.cell?_alloc_at _ _ _ _ (by simp)]; rfl)
  have hr1 := hlow (q := ⟨w.heap.size + 1, 1, none⟩) (u := .int .i64 0) (by rw [World.cell?_alloc_lt _ _ _ (by simp), World.cell?_alloc_at _ _ _ _ (by simp)]; rfl)
  have hr2 := hlow (q := ⟨w.heap.size + 1, 2, none⟩) (u := .slice none 0 0) (by rw [World.cell?_alloc_lt _ _ _ (by simp), World.cell?_alloc_at _ _ _ _ (by simp)]; rfl)
  have hf2 : w1.frozen? ⟨w.heap.size + 1 + 1, 2, none⟩ = false := by rw [hb.frozen (by simp), World.frozen?_alloc_at _ _ _ _ (by simp)]
  have hg0 : w1.frozen? ⟨w.heap.size + 1, 0, none⟩ = false := by rw [hb.frozen (by simp), World.frozen?_alloc_past _ _ _ (by simp), World.frozen?_alloc_at _ _ _ _ (by simp)]
  have hg1 : w1.frozen? ⟨w.heap.size + 1, 1, none⟩ = false := by rw [hb.frozen (by simp), World.frozen?_alloc_past _ _ _ (by simp), World.frozen?_alloc_at _ _ _ _ (by simp)]
  have hg2 : w1.frozen? ⟨w.heap.size + 1, 2, none⟩ = false := by rw [hb.frozen (by simp), World.frozen?_alloc_past _ _ _ (by simp), World.frozen?_alloc_at _ _ _ _ (by simp)]
  have HB : Hid (Below w.heap.size w w1) := ((((Below.refl w.heap.size w).alloc (Nat.le_refl _) _).alloc (by simp) _).alloc (by simp; omega) _).trans (hb.mono (by simp; omega))
  have HL : Hid (SX w1 (w.heap.size + 3) w1.heap.size a1 k) := hl.mono (by simp) (Nat.le_refl _)
  clear hb hl hlow
  go_wp2_with fail
  refine bodyPost_ret (v := .agg #[.int .i64 s, .int .i64 v, .slice a1 (flen k) c1]) ?_ rfl (to_endT rfl HB.out HL.out _ _ _ _)
  simp [results, Try.results15, go_sem, hr0, hr1, hr2]

/-- What holds at the head of toTermS's loop. -/
structure ToAtT (w : World) (k : Fo) (j : Nat) (wr : World) : Prop where
  below : Below w.heap.size w wr
  size : w.heap.size < wr.heap.size
  row : ∃ f : Nat → Value, wr.rowIs w.heap.size 35 (flen k * 3) f ∧ ∀ i, i < j → ∃ x y s v kk a c, fdrop i k = .node x y (s, v) kk (fdrop (i + 1) k) ∧
    f (i * 3) = .int .i64 s ∧ f (i * 3 + 1) = .int .i64 v ∧ f (i * 3 + 2) = .slice a (flen kk) c ∧ SX wr (w.heap.size + 1) wr.heap.size a kk

theorem ToAtT.start (w : World) (k : Fo) : ToAtT w k 0 (w.alloc (.cells (madeCells #[.int .i64 0, .int .i64 0, .slice none 0 0] (flen k * 3)) 35)) := by
  refine ⟨(Below.refl _ _).alloc (Nat.le_refl _) _, by simp, ⟨fun i => #[Value.int .i64 0, .int .i64 0, .slice none 0 0][i % 3]!, ?_, fun i hi => by omega⟩⟩
  have := World.rowIs_alloc w (madeCells #[.int .i64 0, .int .i64 0, .slice none 0 0] (flen k * 3)) 35 (fun i => #[Value.int .i64 0, .int .i64 0, .slice none 0 0][i % 3]!) (fun i hi => by
    rw [size_madeCells] at hi
    exact made_at _ _ _ hi)
  rw [size_madeCells] at this
  exact this
theorem ToAtT.step {w wr w2 : World} {k : Fo} {j x y : Nat} {s v : Int} {kk : Fo} {a : Option Addr} {c : Nat} (h : ToAtT w k j wr) (hd : fdrop j k = .node x y (s, v) kk (fdrop (j + 1) k)) (hb : Below wr.heap.size wr w2) (hl : SX w2 wr.heap.size w2.heap.size a kk) :
    ToAtT w k (j + 1) (((w2.setCell ⟨w.heap.size, j * 3, none⟩ (.int .i64 s)).setCell ⟨w.heap.size, j * 3 + 1, none⟩ (.int .i64 v)).setCell ⟨w.heap.size, j * 3 + 2, none⟩ (.slice a (flen kk) c)) := by
  have hs := h.size
  have hs2 := hb.size
  obtain ⟨f, hf, hall⟩ := h.row
  have hf2 := hf.of_block (hb.block _ hs)
  have hsame : ∀ {L H : Nat}, w.heap.size < L → Same L H w2 (((w2.setCell ⟨w.heap.size, j * 3, none⟩ (.int .i64 s)).setCell ⟨w.heap.size, j * 3 + 1, none⟩ (.int .i64 v)).setCell ⟨w.heap.size, j * 3 + 2, none⟩ (.slice a (flen kk) c)) := fun hL =>
    ((Same.setCell (fun _ _ _ => rfl) (.inl hL) _).setCell (.inl hL) _).setCell (.inl hL) _
  refine ⟨(((h.below.trans (hb.mono (by omega))).setCell (by simp) _).setCell (by simp) _).setCell (by simp) _, by simp; omega, ⟨_, ((hf2.set _ _).set _ _).set _ _, fun i hi => ?_⟩⟩
  by_cases hij : i = j
  · subst hij
    exact ⟨x, y, s, v, kk, a, c, hd, by simp, by simp, by simp, (hl.same (hsame (by omega))).mono (by omega) (by simp)⟩
  · obtain ⟨x', y', s', v', k', a', c', e, h0, h1, h2, hsl⟩ := hall i (by omega)
    refine ⟨x', y', s', v', k', a', c', e, ?_, ?_, ?_, ((hsl.same (fun b h1 h2 => hb.block b h2)).same (hsame (by omega))).mono (Nat.le_refl _) (by simp; omega)⟩
    · rw [if_neg (by omega), if_neg (by omega), if_neg (by omega)]; exact h0
    · rw [if_neg (by omega), if_neg (by omega), if_neg (by omega)]; exact h1
    · rw [if_neg (by omega), if_neg (by omega), if_neg (by omega)]; exact h2
theorem ToAtT.sl {w wr : World} {k : Fo} {j : Nat} (h : ToAtT w k j wr) (hj : flen k ≤ j) : SX wr w.heap.size wr.heap.size (some ⟨w.heap.size, 0, none⟩) k := by
  obtain ⟨f, hf, hall⟩ := h.row
  have key : ∀ i, i < flen k → ∃ x y s v kk a c, fdrop i k = .node x y (s, v) kk (fdrop (i + 1) k) ∧ wr.cell? ⟨w.heap.size, 0 + i * 3, none⟩ = some (.int .i64 s) ∧ wr.cell? ⟨w.heap.size, 0 + i * 3 + 1, none⟩ = some (.int .i64 v) ∧
      wr.cell? ⟨w.heap.size, 0 + i * 3 + 2, none⟩ = some (.slice a (flen kk) c) ∧ SX wr w.heap.size wr.heap.size a kk := fun i hi => by
    obtain ⟨x, y, s, v, kk, a, c, e, h0, h1, h2, hs⟩ := hall i (by omega)
    refine ⟨x, y, s, v, kk, a, c, e, ?_, ?_, ?_, hs.mono (by omega) (Nat.le_refl _)⟩
    · rw [Nat.zero_add, ← h0]; exact hf.cell (by omega)
    · rw [Nat.zero_add, ← h1]; exact hf.cell (by omega)
    · rw [Nat.zero_add, ← h2]; exact hf.cell (by omega)
  refine ⟨.inr ⟨_, 0, rfl, row_of_allX k _ 0 (Nat.le_refl _) h.size fun i hi => ?_⟩, .inr ⟨_, rfl, sh_of_all k _ 0 (Nat.le_refl _) h.size (fun j => hf.frozen j) fun i hi => ?_⟩⟩
  · obtain ⟨x, y, s, v, kk, a, c, e, h0, h1, h2, hs⟩ := key i hi
    exact ⟨x, y, s, v, kk, a, c, e, h0, h1, h2, hs.1⟩
  · obtain ⟨x, y, s, v, kk, a, c, e, h0, h1, h2, hs⟩ := key i hi
    exact ⟨x, y, s, v, kk, a, c, e, h0, h1, h2, hs.2⟩

set_option maxRecDepth 100000 in
set_option maxHeartbeats 1000000 in
theorem toTermS_anyT (N : Nat) : ∀ (a : Option Addr) (c : Nat) (k : Fo) (w : World), Sl w 0 w.heap.size a k → fsz k ≤ N → N ≤ 1048576 →
    Calls Try.prog 55 #[.slice a (flen k) c] w (TosPostT k w) := by
  induction N using Nat.strongRecOn with
  | _ N ih =>
    intro a c k w hl hN hN2
    have hfl := flen_le (k := k)
    have IH := Lib.hid ih
    clear ih
    have hmk := make_terms (flen k) (by omega)
    have HST := Lib.hid (ToAtT.start w k)
    go_enter Try.func55, Try.ntmps55
    go_wp2_with fail
    clear hmk
    go_loopw [4] (fun i wr => ∃ j : Nat, j ≤ flen k ∧ i = .int .i64 j ∧ ToAtT w k j wr) (fun i _ => flen k - (intOf i).toNat)
    case atStart => exact ⟨0, by omega, rfl, HST.out⟩
    case round =>
      clear HST
      obtain ⟨j, hj, rfl, hat⟩ := hrel
      have hsr := hat.size
      by_cases hlt : j < flen k
      · rcases hl with rfl | ⟨b, o, rfl, hrow⟩
        · simp [flen] at hlt
        obtain ⟨s', v', kk, a', c', ⟨x, y, hd⟩, _, hbB, hk0, hk1, hk2, hsl⟩ := row_at (hrow.below hat.below) hlt
        have hkN := fsz_kid' hd
        have HD := Lib.hid hd
        have HS := Lib.hid hsl
        have HAT := Lib.hid hat
        clear hd hsl hrow hat
        go_wp2_with fail
        with_reducible refine (toTerm_ofT s' v' a' c' kk _ ?_).mono ?_
        · intro w1 hb1
          refine IH.out (fsz kk) (by omega) a' c' kk w1 ?_ (Nat.le_refl _) (by omega)
          exact (HS.out.below (hb1.mono (by omega))).mono (Nat.le_refl _) (by have := hb1.size; omega)
        rintro e w2 ⟨a2, c2, rfl, hb2, hl2⟩
        obtain ⟨f, hf, _⟩ := HAT.out.row
        have hf2 := hf.of_block (hb2.block _ hsr)
        have hg0 := hf2.cell (i := j * 3) (by omega)
        have hg1 := hf2.cell (i := j * 3 + 1) (by omega)
        have hg2 := hf2.cell (i := j * 3 + 2) (by omega)
        have hz0 := hf2.frozen (j * 3)
        have hz1 := hf2.frozen (j * 3 + 1)
        have hz2 := hf2.frozen (j * 3 + 2)
        have HSTEP := Lib.hid (HAT.out.step (c := c2) HD.out hb2 hl2)
        clear hf hf2 hb2 hl2 hk0 hk1 hk2
        go_wp2_with fail
        go_roundw
        case rel => exact ⟨j + 1, by omega, by go_num, HSTEP.out⟩
        case measure => simp [intOf]; omega
      · have HE : Hid (TosPostT k w (.returned (.slice (some ⟨w.heap.size, 0, none⟩) (flen k) (flen k))) wr) := ⟨_, _, rfl, hat.below, hat.sl (by omega)⟩
        clear hat
        go_wp2_with fail
        go_ret
        exact HE.out
end Go.Proofs.Ytoafleckcjanaaa

/-! XT: Trees of one's own: each row at the head of a block, the rows below it behind it, those of one kid ahead of those of the next. Plain lemmas. -/
namespace Go.Proofs.Ytoafleckcjanaaa
open Go.RowKit Go.Deep

/-- The row of the terms k in block b from offset o on, not frozen; the rows below them from block lo on below B. -/
def Tr (w : World) : Fo → Nat → Nat → Nat → Nat → Prop
  | .nil, _, _, lo, B => lo ≤ B
  | .node _ _ _ k r, b, o, lo, B => b < lo ∧ (∃ x, w.cell? ⟨b, o, none⟩ = some (.int .i64 x)) ∧ (∃ x, w.cell? ⟨b, o + 1, none⟩ = some (.int .i64 x)) ∧ w.frozen? ⟨b, o, none⟩ = false ∧ w.frozen? ⟨b, o + 1, none⟩ = false ∧
      ∃ M a c, lo ≤ M ∧ w.cell? ⟨b, o + 2, none⟩ = some (.slice a (flen k) c) ∧ (k = .nil ∨ ∃ b', a = some ⟨b', 0, none⟩ ∧ lo ≤ b' ∧ b' < M ∧ Tr w k b' 0 (b' + 1) M) ∧ Tr w r b (o + 3) M B
def TrS (w : World) (lo B : Nat) (a : Option Addr) (k : Fo) : Prop := k = .nil ∨ ∃ b, a = some ⟨b, 0, none⟩ ∧ lo ≤ b ∧ b < B ∧ Tr w k b 0 (b + 1) B

theorem Tr.le {w : World} : ∀ {k : Fo} {b o lo B : Nat}, Tr w k b o lo B → lo ≤ B
  | .nil, _, _, _, _, h => h
  | .node _ _ _ _ _, _, _, _, _, ⟨_, _, _, _, _, _, _, _, h1, _, _, h2⟩ => Nat.le_trans h1 h2.le
theorem Tr.mono {w : World} {B' : Nat} : ∀ {k : Fo} {b o lo B : Nat}, B ≤ B' → Tr w k b o lo B → Tr w k b o lo B'
  | .nil, _, _, _, _, hB, h => Nat.le_trans h hB
  | .node _ _ _ _ _, _, _, _, _, hB, ⟨h0, h1, h2, h3, h4, M, a, c, h5, h6, h7, h8⟩ => ⟨h0, h1, h2, h3, h4, M, a, c, h5, h6, h7, h8.mono hB⟩
theorem Tr.same {w w' : World} {L H : Nat} (hb : Same L H w w') : ∀ {k : Fo} {b o lo B : Nat}, L ≤ b → b < H → L ≤ lo → B ≤ H → Tr w k b o lo B → Tr w' k b o lo B
  | .nil, _, _, _, _, _, _, _, _, h => h
  | .node _ _ _ k r, b, o, lo, B, h1, h2, h3, h4, ⟨g0, ⟨x, hx⟩, ⟨y, hy⟩, f0, f1, M, a, c, g5, g6, g7, g8⟩ => by
    have hM := g8.le
    refine ⟨g0, ⟨x, by rw [hb.cell h1 h2]; exact hx⟩, ⟨y, by rw [hb.cell h1 h2]; exact hy⟩, by rw [frozen_same (hb b h1 h2)]; exact f0, by rw [frozen_same (hb b h1 h2)]; exact f1, M, a, c, g5, by rw [hb.cell h1 h2]; exact g6, ?_, g8.same hb h1 h2 (by omega) h4⟩
    rcases g7 with g7 | ⟨b', e, e1, e2, g7⟩
    · exact .inl g7
    · exact .inr ⟨b', e, e1, e2, g7.same hb (by omega) (by omega) (by omega) (by omega)⟩
theorem TrS.same {w w' : World} {lo B : Nat} {a : Option Addr} {k : Fo} (hb : Same lo B w w') (h : TrS w lo B a k) : TrS w' lo B a k := by
  rcases h with h | ⟨b, e, h1, h2, h⟩
  · exact .inl h
  · exact .inr ⟨b, e, h1, h2, h.same hb h1 h2 (by omega) (Nat.le_refl _)⟩
theorem TrS.mono {w : World} {lo lo' B B' : Nat} {a : Option Addr} {k : Fo} (hlo : lo' ≤ lo) (hB : B ≤ B') (h : TrS w lo B a k) : TrS w lo' B' a k := by
  rcases h with h | ⟨b, e, h1, h2, h⟩
  · exact .inl h
  · exact .inr ⟨b, e, by omega, by omega, h.mono hB⟩

/-- What a kid of a tree's row is. -/
def TrAt (w : World) (k : Fo) (b o : Nat) (Ls : Nat → Nat) (i : Nat) : Prop :=
  ∃ x y s v kk a c, fdrop i k = .node x y (s, v) kk (fdrop (i + 1) k) ∧ (∃ z, w.cell? ⟨b, o + i * 3, none⟩ = some (.int .i64 z)) ∧ (∃ z, w.cell? ⟨b, o + i * 3 + 1, none⟩ = some (.int .i64 z)) ∧
    w.frozen? ⟨b, o + i * 3, none⟩ = false ∧ w.frozen? ⟨b, o + i * 3 + 1, none⟩ = false ∧ w.cell? ⟨b, o + i * 3 + 2, none⟩ = some (.slice a (flen kk) c) ∧ TrS w (Ls i) (Ls (i + 1)) a kk
theorem Tr.at {w : World} : ∀ {k : Fo} {b o lo B : Nat}, Tr w k b o lo B → ∃ Ls : Nat → Nat, Ls 0 = lo ∧ (∀ i, i < flen k → Ls i ≤ Ls (i + 1)) ∧ Ls (flen k) ≤ B ∧ (0 < flen k → b < lo) ∧ ∀ i, i < flen k → TrAt w k b o Ls i
  | .nil, _, _, lo, _, h => ⟨fun _ => lo, rfl, fun i hi => by simp [flen] at hi, h, fun hi => by simp [flen] at hi, fun i hi => by simp [flen] at hi⟩
  | .node x y (s, v) k r, b, o, lo, B, ⟨g0, hx, hy, f0, f1, M, a, c, g5, g6, g7, g8⟩ => by
    obtain ⟨Ls, e0, e1, e2, _, e3⟩ := g8.at
    refine ⟨fun i => match i with | 0 => lo | i + 1 => Ls i, rfl, fun i hi => ?_, by simpa [flen] using e2, fun _ => g0, fun i hi => ?_⟩
    · cases i with
      | zero => show lo ≤ Ls 0; omega
      | succ i => exact e1 i (by simp [flen] at hi; omega)
    · cases i with
      | zero =>
        refine ⟨x, y, s, v, k, a, c, rfl, by simpa using hx, by simpa using hy, by simpa using f0, by simpa using f1, by simpa using g6, ?_⟩
        show TrS w lo (Ls 0) a k
        rw [e0]
        exact g7
      | succ i =>
        obtain ⟨x', y', s', v', kk, a', c', d0, d1, d2, d3, d4, d5, d6⟩ := e3 i (by simp [flen] at hi; omega)
        have e3' : o + 3 + i * 3 = o + (i + 1) * 3 := by omega
        rw [e3'] at d1 d2 d3 d4 d5
        exact ⟨x', y', s', v', kk, a', c', d0, d1, d2, d3, d4, d5, d6⟩
theorem tr_of_all {w : World} : ∀ (k : Fo) (b o : Nat) (B : Nat) (Ls : Nat → Nat), (∀ i, i < flen k → Ls i ≤ Ls (i + 1)) → Ls (flen k) ≤ B → b < Ls 0 → (∀ i, i < flen k → TrAt w k b o Ls i) → Tr w k b o (Ls 0) B
  | .nil, _, _, _, _, _, h, _, _ => h
  | .node x y p kk r, b, o, B, Ls, h1, h2, h3, h => by
    obtain ⟨x', y', s, v, kk', a, c, e, d1, d2, d3, d4, d5, d6⟩ := h 0 (by simp [flen])
    simp only [fdrop, BT.node.injEq] at e
    obtain ⟨_, _, rfl, rfl, _⟩ := e
    have h01 : Ls 0 ≤ Ls 1 := h1 0 (by simp [flen])
    refine ⟨h3, by simpa using d1, by simpa using d2, by simpa using d3, by simpa using d4, Ls 1, a, c, h01, by simpa using d5, d6, ?_⟩
    have := tr_of_all r b (o + 3) B (fun i => Ls (i + 1)) (fun i hi => h1 (i + 1) (by simp [flen]; omega)) (by simpa [flen] using h2) (show b < Ls 1 by omega) fun i hi => by
      obtain ⟨x', y', s', v', kk', a', c', d0, d1, d2, d3, d4, d5, d6⟩ := h (i + 1) (by simp [flen]; omega)
      have e3' : o + (i + 1) * 3 = o + 3 + i * 3 := by omega
      rw [e3'] at d1 d2 d3 d4 d5
      exact ⟨x', y', s', v', kk', a', c', d0, d1, d2, d3, d4, d5, d6⟩
    exact this
theorem Ls_mono {Ls : Nat → Nat} {n : Nat} (h : ∀ i, i < n → Ls i ≤ Ls (i + 1)) : ∀ (d i : Nat), i + d ≤ n → Ls i ≤ Ls (i + d)
  | 0, _, _ => Nat.le_refl _
  | d + 1, i, hi => Nat.le_trans (Ls_mono h d i (by omega)) (by rw [show i + (d + 1) = i + d + 1 from by omega]; exact h (i + d) (by omega))

/-- The numbers of the row, and of the rows below it, count up from m on. -/
def Hd (w : World) (lo B : Nat) : Fo → Nat → Nat → Int → Prop
  | .nil, _, _, _ => True
  | .node _ _ _ k r, b, o, m => lo ≤ b ∧ b < B ∧ w.cell? ⟨b, o, none⟩ = some (.int .i64 m) ∧ w.cell? ⟨b, o + 1, none⟩ = some (.int .i64 (m + 1)) ∧
      (∃ a c, w.cell? ⟨b, o + 2, none⟩ = some (.slice a (flen k) c) ∧ (k = .nil ∨ ∃ b', a = some ⟨b', 0, none⟩ ∧ Hd w lo B k b' 0 (m + 2))) ∧ Hd w lo B r b (o + 3) (m + 2 + 2 * (fsz k : Int))
def HdS (w : World) (lo B : Nat) (a : Option Addr) (k : Fo) (m : Int) : Prop := k = .nil ∨ ∃ b, a = some ⟨b, 0, none⟩ ∧ Hd w lo B k b 0 m
theorem Hd.same {w w' : World} {lo B : Nat} (hb : Same lo B w w') : ∀ {k : Fo} {b o : Nat} {m : Int}, Hd w lo B k b o m → Hd w' lo B k b o m
  | .nil, _, _, _, _ => trivial
  | .node _ _ _ k r, b, o, m, ⟨h1, h2, h3, h4, ⟨a, c, h5, h6⟩, h7⟩ => by
    refine ⟨h1, h2, by rw [hb.cell h1 h2]; exact h3, by rw [hb.cell h1 h2]; exact h4, ⟨a, c, by rw [hb.cell h1 h2]; exact h5, ?_⟩, h7.same hb⟩
    rcases h6 with h6 | ⟨b', e, h6⟩
    · exact .inl h6
    · exact .inr ⟨b', e, h6.same hb⟩
theorem Hd.mono {w : World} {lo lo' B B' : Nat} (hlo : lo' ≤ lo) (hB : B ≤ B') : ∀ {k : Fo} {b o : Nat} {m : Int}, Hd w lo B k b o m → Hd w lo' B' k b o m
  | .nil, _, _, _, _ => trivial
  | .node _ _ _ k r, b, o, m, ⟨h1, h2, h3, h4, ⟨a, c, h5, h6⟩, h7⟩ => by
    refine ⟨by omega, by omega, h3, h4, ⟨a, c, h5, ?_⟩, h7.mono hlo hB⟩
    rcases h6 with h6 | ⟨b', e, h6⟩
    · exact .inl h6
    · exact .inr ⟨b', e, h6.mono hlo hB⟩
theorem HdS.same {w w' : World} {lo B : Nat} {a : Option Addr} {k : Fo} {m : Int} (hb : Same lo B w w') (h : HdS w lo B a k m) : HdS w' lo B a k m := by
  rcases h with h | ⟨b, e, h⟩
  · exact .inl h
  · exact .inr ⟨b, e, h.same hb⟩
theorem HdS.mono {w : World} {lo lo' B B' : Nat} {a : Option Addr} {k : Fo} {m : Int} (hlo : lo' ≤ lo) (hB : B ≤ B') (h : HdS w lo B a k m) : HdS w lo' B' a k m := by
  rcases h with h | ⟨b, e, h⟩
  · exact .inl h
  · exact .inr ⟨b, e, h.mono hlo hB⟩
theorem ne_offT {b i j : Nat} (h : i ≠ j) : (⟨b, i, none⟩ : Addr) ≠ ⟨b, j, none⟩ := fun e => h (congrArg Addr.off e)
/-- The number from which the i-th kid counts. -/
def cnt (k : Fo) (m : Int) (i : Nat) : Int := m + 2 * ((fsz k : Int) - (fsz (fdrop i k) : Int))
def HdAt (w : World) (lo B : Nat) (k : Fo) (b o : Nat) (m : Int) (i : Nat) : Prop :=
  ∃ x y s v kk a c, fdrop i k = .node x y (s, v) kk (fdrop (i + 1) k) ∧ w.cell? ⟨b, o + i * 3, none⟩ = some (.int .i64 (cnt k m i)) ∧ w.cell? ⟨b, o + i * 3 + 1, none⟩ = some (.int .i64 (cnt k m i + 1)) ∧
    w.cell? ⟨b, o + i * 3 + 2, none⟩ = some (.slice a (flen kk) c) ∧ HdS w lo B a kk (cnt k m i + 2)
theorem cnt_rest (x y : Nat) (p : Int × Int) (kk r : Fo) (m : Int) (i : Nat) : cnt (.node x y p kk r) m (i + 1) = cnt r (m + 2 + 2 * (fsz kk : Int)) i := by
  simp only [cnt, fdrop, fsz]
  push_cast
  omega
theorem hd_of_all {w : World} {lo B : Nat} : ∀ (k : Fo) (b o : Nat) (m : Int), lo ≤ b → b < B → (∀ i, i < flen k → HdAt w lo B k b o m i) → Hd w lo B k b o m
  | .nil, _, _, _, _, _, _ => trivial
  | .node x y p kk r, b, o, m, h1, h2, h => by
    obtain ⟨x', y', s, v, kk', a, c, e, d1, d2, d3, d4⟩ := h 0 (by simp [flen])
    simp only [fdrop, BT.node.injEq] at e
    obtain ⟨_, _, rfl, rfl, _⟩ := e
    have c0 : cnt (.node x y (s, v) kk r) m 0 = m := by simp [cnt, fdrop]
    rw [c0] at d1 d2 d4
    refine ⟨h1, h2, by simpa using d1, by simpa using d2, ⟨a, c, by simpa using d3, d4⟩, hd_of_all r b (o + 3) _ h1 h2 fun i hi => ?_⟩
    obtain ⟨x', y', s', v', kk', a', c', e, d1, d2, d3, d4⟩ := h (i + 1) (by simp [flen]; omega)
    have e3' : o + (i + 1) * 3 = o + 3 + i * 3 := by omega
    rw [e3', cnt_rest] at d1 d2
    rw [e3'] at d3
    rw [cnt_rest] at d4
    exact ⟨x', y', s', v', kk', a', c', e, d1, d2, d3, d4⟩
theorem Hd.at {w : World} {lo B : Nat} : ∀ {k : Fo} {b o : Nat} {m : Int}, Hd w lo B k b o m → ∀ i, i < flen k → HdAt w lo B k b o m i
  | .nil, _, _, _, _, i, hi => by simp [flen] at hi
  | .node x y (s, v) k r, b, o, m, ⟨h1, h2, h3, h4, ⟨a, c, h5, h6⟩, h7⟩, i, hi => by
    cases i with
    | zero =>
      have c0 : cnt (.node x y (s, v) k r) m 0 = m := by simp [cnt, fdrop]
      exact ⟨x, y, s, v, k, a, c, rfl, by rw [c0]; simpa using h3, by rw [c0]; simpa using h4, by simpa using h5, by rw [c0]; exact h6⟩
    | succ i =>
      obtain ⟨x', y', s', v', kk', a', c', e, d1, d2, d3, d4⟩ := h7.at i (by simp [flen] at hi; omega)
      have e3' : o + 3 + i * 3 = o + (i + 1) * 3 := by omega
      rw [e3', ← cnt_rest x y (s, v) k r m i] at d1 d2
      rw [e3'] at d3
      rw [← cnt_rest x y (s, v) k r m i] at d4
      exact ⟨x', y', s', v', kk', a', c', e, d1, d2, d3, d4⟩

theorem Marked.mono {lo lo' B B' : Nat} {w w' : World} (h : Marked lo B w w') (h1 : lo' ≤ lo) (h2 : B ≤ B') (h3 : B' ≤ w.heap.size) : Marked lo' B' w w' := by
  have hin : ∀ b, (b < lo ∨ B ≤ b) → b < w.heap.size → w'.heap[b]? = w.heap[b]? := fun b hb hlt => by
    rcases hb with hb | hb
    · exact h.below.block b hb
    · exact h.far b hb hlt
  refine ⟨h.below.mono h1, fun b g1 g2 => h.far b (by omega) g2, fun b o g1 g2 g3 => ?_, fun b o x g1 g2 g3 g4 => ?_, fun b o g1 g2 g3 => ?_⟩
  · by_cases hb : lo ≤ b ∧ b < B
    · exact h.kids b o hb.1 hb.2 g3
    · exact World.cell?_of_block (hin b (by omega) (by omega))
  · by_cases hb : lo ≤ b ∧ b < B
    · exact h.ints b o x hb.1 hb.2 g3 g4
    · exact ⟨x, by rw [World.cell?_of_block (a := ⟨b, o, none⟩) (hin b (by omega) (by omega))]; exact g4⟩
  · by_cases hb : lo ≤ b ∧ b < B
    · exact h.free b o hb.1 hb.2 g3
    · rw [World.frozen?_of_block (a := ⟨b, o, none⟩) (hin b (by omega) (by omega))]; exact g3
end Go.Proofs.Ytoafleckcjanaaa

/-! XC: eqTerm, eqTermS: two copies of one term are found the same. -/
namespace Go.Proofs.Ytoafleckcjanaaa
open Go.RowKit Go.Deep

set_option maxRecDepth 100000 in
set_option maxHeartbeats 1000000 in
/-- eqTerm out of eqTermS. -/
theorem eqTerm_of (s v : Int) (a a' : Option Addr) (n c c' : Nat) (w : World)
    (hS : ∀ w1, Below w.heap.size w w1 → Calls Try.prog 58 #[.slice a n c, .slice a' n c'] w1 fun e w' => e = .returned (.bool true) ∧ Below w1.heap.size w1 w') :
    Calls Try.prog 18 #[.agg #[.int .i64 s, .int .i64 v, .slice a n c], .agg #[.int .i64 s, .int .i64 v, .slice a' n c']] w fun e w' => e = .returned (.bool true) ∧ Below w.heap.size w w' := by
  have HS := Lib.hid hS
  clear hS
  have e1 : (s != s) = false := by simp
  have e2 : (v != v) = false := by simp
  go_enter Try.func18, Try.ntmps18
  go_wp2_with fail
  with_reducible refine (HS.out _ ?_).mono ?_
  · exact (((Below.refl _ _).alloc (Nat.le_refl _) _).alloc (by simp) _)
  rintro e w1 ⟨rfl, hb⟩
  have HB : Hid (Below w.heap.size w w1) := (((Below.refl w.heap.size w).alloc (Nat.le_refl _) _).alloc (by simp) _).trans (hb.mono (by simp; omega))
  clear hb
  go_wp2_with fail
  go_ret
  exact ⟨rfl, HB.out⟩

set_option maxRecDepth 100000 in
set_option maxHeartbeats 1000000 in
theorem eqTermS_any (N : Nat) : ∀ (a a' : Option Addr) (c c' : Nat) (k : Fo) (w : World), Sl w 0 w.heap.size a k → Sl w 0 w.heap.size a' k → fsz k ≤ N → N ≤ 1048576 →
    Calls Try.prog 58 #[.slice a (flen k) c, .slice a' (flen k) c'] w fun e w' => e = .returned (.bool true) ∧ Below w.heap.size w w' := by
  induction N using Nat.strongRecOn with
  | _ N ih =>
    intro a a' c c' k w hl hl' hN hN2
    have hfl := flen_le (k := k)
    have IH := Lib.hid ih
    clear ih
    have e0 : ((flen k : Int) != (flen k : Int)) = false := by simp
    go_enter Try.func58, Try.ntmps58
    go_wp2_with fail
    go_loopw [5] (fun i wr => ∃ j : Nat, j ≤ flen k ∧ i = .int .i64 j ∧ Below w.heap.size w wr) (fun i _ => flen k - (intOf i).toNat)
    case atStart => exact ⟨0, by omega, rfl, Below.refl _ _⟩
    case round =>
      obtain ⟨j, hj, rfl, hbl⟩ := hrel
      have hbs := hbl.size
      by_cases hlt : j < flen k
      · rcases hl with rfl | ⟨b, o, rfl, hrow⟩
        · simp [flen] at hlt
        rcases hl' with rfl | ⟨b', o', rfl, hrow'⟩
        · simp [flen] at hlt
        obtain ⟨s1, v1, kk, a1, c1, ⟨x, y, hd⟩, _, hbB, hk0, hk1, hk2, hsl⟩ := row_at (hrow.below hbl) hlt
        obtain ⟨s2, v2, kk2, a2, c2, ⟨x2, y2, hd2⟩, _, hbB', hk3, hk4, hk5, hsl2⟩ := row_at (hrow'.below hbl) hlt
        have hdd := hd.symm.trans hd2
        simp only [BT.node.injEq, Prod.mk.injEq] at hdd
        obtain ⟨_, _, ⟨rfl, rfl⟩, rfl, _⟩ := hdd
        have hkN := fsz_kid' hd
        have HS := Lib.hid hsl
        have HS2 := Lib.hid hsl2
        have HBL := Lib.hid hbl
        clear hd hd2 hsl hsl2 hrow hrow' hbl
        have g1 : (0 : Int) ≤ (j : Int) := by omega
        have g2 : (j : Int) < (flen k : Int) := by omega
        have hu0 : ∀ u : After wr.heap.size wr, u.world.cell? ⟨b, o + j * 3, none⟩ = some (.int .i64 s1) := fun u => u.cell (by simp; omega) hk0
        have hu1 : ∀ u : After wr.heap.size wr, u.world.cell? ⟨b, o + j * 3 + 1, none⟩ = some (.int .i64 v1) := fun u => u.cell (by simp; omega) hk1
        have hu2 : ∀ u : After wr.heap.size wr, u.world.cell? ⟨b, o + j * 3 + 2, none⟩ = some (.slice a1 (flen kk) c1) := fun u => u.cell (by simp; omega) hk2
        have hu3 : ∀ u : After wr.heap.size wr, u.world.cell? ⟨b', o' + j * 3, none⟩ = some (.int .i64 s1) := fun u => u.cell (by simp; omega) hk3
        have hu4 : ∀ u : After wr.heap.size wr, u.world.cell? ⟨b', o' + j * 3 + 1, none⟩ = some (.int .i64 v1) := fun u => u.cell (by simp; omega) hk4
        have hu5 : ∀ u : After wr.heap.size wr, u.world.cell? ⟨b', o' + j * 3 + 2, none⟩ = some (.slice a2 (flen kk) c2) := fun u => u.cell (by simp; omega) hk5
        have HCALL : Hid (∀ u : After wr.heap.size wr, Calls Try.prog 18 #[.agg #[.int .i64 s1, .int .i64 v1, .slice a1 (flen kk) c1], .agg #[.int .i64 s1, .int .i64 v1, .slice a2 (flen kk) c2]] u.world fun e w' => e = .returned (.bool true) ∧ Below u.world.heap.size u.world w') := fun u => by
          refine eqTerm_of s1 v1 a1 a2 (flen kk) c1 c2 u.world fun w1 hb1 => ?_
          have hu := u.below
          have hus := hu.size
          have h1s := hb1.size
          refine IH.out (fsz kk) (by omega) a1 a2 c1 c2 kk w1 ?_ ?_ (Nat.le_refl _) (by omega)
          · exact ((HS.out.below (hu.mono (by omega))).below (hb1.mono (by omega))).mono (Nat.le_refl _) (by omega)
          · exact ((HS2.out.below (hu.mono (by omega))).below (hb1.mono (by omega))).mono (Nat.le_refl _) (by omega)
        go_wp2_with fail
        refine wp_region_after wr.heap.size (by kernel_rfl) (by kernel_rfl) ?_
        repeat (go_big_quiet_step ((go_at_call 18; exact Calls.after (After.below ‹_›).size (HCALL.out _))))
        refine wpQuiet_nil ?_
        rintro u ⟨⟨_, hu⟩, rfl⟩
        clear hu0 hu1 hu2 hu3 hu4 hu5 hk0 hk1 hk2 hk3 hk4 hk5
        have HB2 := Lib.hid (HBL.out.trans (hu.mono hbs))
        clear hu
        go_wp2_with fail
        go_roundw
        case rel => exact ⟨j + 1, by omega, by go_num, HB2.out⟩
        case measure => simp [intOf]; omega
      · go_wp2_with fail
        go_ret
        exact ⟨rfl, hbl⟩

theorem toTerm_any {s v : Int} {a : Option Addr} {c : Nat} {k : Fo} {w : World} (hl : Sl w 0 w.heap.size a k) (hN : fsz k ≤ 1048576) :
    Calls Try.prog 15 #[.agg #[.int .i64 s, .int .i64 v, .slice a (flen k) c]] w (ToPost s v k w) :=
  toTerm_of s v a c k w fun _ hb => toTermS_any (fsz k) a c k _ ((hl.below hb).mono (Nat.le_refl _) hb.size) (Nat.le_refl _) hN
theorem eqTerm_any {s v : Int} {a a' : Option Addr} {c c' : Nat} {k : Fo} {w : World} (hl : Sl w 0 w.heap.size a k) (hl' : Sl w 0 w.heap.size a' k) (hN : fsz k ≤ 1048576) :
    Calls Try.prog 18 #[.agg #[.int .i64 s, .int .i64 v, .slice a (flen k) c], .agg #[.int .i64 s, .int .i64 v, .slice a' (flen k) c']] w fun e w' => e = .returned (.bool true) ∧ Below w.heap.size w w' :=
  eqTerm_of s v a a' (flen k) c c' w fun _ hb => eqTermS_any (fsz k) a a' c c' k _ ((hl.below hb).mono (Nat.le_refl _) hb.size) ((hl'.below hb).mono (Nat.le_refl _) hb.size) (Nat.le_refl _) hN
theorem szTerm_any {s v : Int} {a : Option Addr} {c : Nat} {k : Fo} {left : Int} {w : World} (hl : Sl w 0 w.heap.size a k) (hc : fcap k) (hm : flen k ≤ maxLen) (h0 : 0 ≤ left) (h1 : left ≤ 1048576) :
    Calls Try.prog 11 #[.agg #[.int .i64 s, .int .i64 v, .slice a (flen k) c], .int .i64 left] w fun e w' => e = .returned (.int .i64 (szR k left)) ∧ Below w.heap.size w w' :=
  szTerm_of s v a (flen k) c left (szR k left) w (szR_case _ _) fun _ hb => szTermS_any (fsz k) a c k left _ ((hl.below hb).mono (Nat.le_refl _) hb.size) hc hm (Nat.le_refl _) h0 h1

end Go.Proofs.Ytoafleckcjanaaa
