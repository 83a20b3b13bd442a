/- What it means that a node (a value behind the interface) stands for a term. Definitions and plain lemmas. -/
import Derived.Test.YthbakmdcepoikaaBase
namespace Go.Proofs.Ythbakmdcepoikaa
open Go.RowKit Go.Deep

/-- The nodes of the terms k lie in block b from offset o on; all that they lead to lies in blocks from lo on below B. -/
def NRow (w : World) (lo B : Nat) : Fo → Nat → Nat → Prop
  | .nil, _, _ => True
  | .node _ _ p k r, b, o => lo ≤ b ∧ b < B ∧ (∃ val, w.cell? ⟨b, o, none⟩ = some val ∧
      ((p.1 = 0 ∧ k = .nil ∧ val = .iface 72 (.int .i64 p.2)) ∨
       (p.1 ≠ 0 ∧ ∃ a c, val = .iface 74 (.agg #[.int .i64 p.1, .slice a (flen k) c]) ∧ (k = .nil ∨ ∃ b' o', a = some ⟨b', o', none⟩ ∧ NRow w lo B k b' o')))) ∧ NRow w lo B r b (o + 1)
def NSl (w : World) (lo B : Nat) (a : Option Addr) (k : Fo) : Prop := k = .nil ∨ ∃ b o, a = some ⟨b, o, none⟩ ∧ NRow w lo B k b o
/-- The node val stands for the term of sign s, variable v, kids k. -/
def NodeIs (w : World) (lo B : Nat) (val : Value) (s v : Int) (k : Fo) : Prop :=
  (s = 0 ∧ k = .nil ∧ val = .iface 72 (.int .i64 v)) ∨ (s ≠ 0 ∧ ∃ a c, val = .iface 74 (.agg #[.int .i64 s, .slice a (flen k) c]) ∧ NSl w lo B a k)

theorem NRow.same {w w' : World} {lo B : Nat} (hb : Same lo B w w') : ∀ (k : Fo) (b o : Nat), NRow w lo B k b o → NRow w' lo B k b o
  | .nil, _, _, _ => trivial
  | .node _ _ p k r, b, o, ⟨hl, h0, ⟨val, h1, h2⟩, h5⟩ => by
    refine ⟨hl, h0, ⟨val, by rw [hb.cell hl h0]; exact h1, ?_⟩, NRow.same hb r b (o + 1) h5⟩
    rcases h2 with h2 | ⟨hp, a, c, e, h4⟩
    · exact .inl h2
    · refine .inr ⟨hp, a, c, e, ?_⟩
      rcases h4 with h4 | ⟨b', o', e, h4⟩
      · exact .inl h4
      · exact .inr ⟨b', o', e, NRow.same hb k b' o' h4⟩
theorem NRow.mono {w : World} {lo lo' B B' : Nat} (hlo : lo' ≤ lo) (hB : B ≤ B') : ∀ (k : Fo) (b o : Nat), NRow w lo B k b o → NRow w lo' B' k b o
  | .nil, _, _, _ => trivial
  | .node _ _ p k r, b, o, ⟨hl, h0, ⟨val, h1, h2⟩, h5⟩ => by
    refine ⟨by omega, by omega, ⟨val, h1, ?_⟩, NRow.mono hlo hB r b (o + 1) h5⟩
    rcases h2 with h2 | ⟨hp, a, c, e, h4⟩
    · exact .inl h2
    · refine .inr ⟨hp, a, c, e, ?_⟩
      rcases h4 with h4 | ⟨b', o', e, h4⟩
      · exact .inl h4
      · exact .inr ⟨b', o', e, NRow.mono hlo hB k b' o' h4⟩
theorem NSl.same {w w' : World} {lo B : Nat} {a : Option Addr} {k : Fo} (hb : Same lo B w w') (h : NSl w lo B a k) : NSl w' lo B a k := by
  rcases h with h | ⟨b, o, e, h⟩
  · exact .inl h
  · exact .inr ⟨b, o, e, h.same hb⟩
theorem NSl.mono {w : World} {lo lo' B B' : Nat} {a : Option Addr} {k : Fo} (hlo : lo' ≤ lo) (hB : B ≤ B') (h : NSl w lo B a k) : NSl w lo' B' a k := by
  rcases h with h | ⟨b, o, e, h⟩
  · exact .inl h
  · exact .inr ⟨b, o, e, h.mono hlo hB⟩
theorem NodeIs.same {w w' : World} {lo B : Nat} {val : Value} {s v : Int} {k : Fo} (hb : Same lo B w w') (h : NodeIs w lo B val s v k) : NodeIs w' lo B val s v k := by
  rcases h with h | ⟨hs, a, c, e, h⟩
  · exact .inl h
  · exact .inr ⟨hs, a, c, e, h.same hb⟩
theorem NodeIs.below {w w' : World} {lo B : Nat} {val : Value} {s v : Int} {k : Fo} (hb : Below B w w') (h : NodeIs w lo B val s v k) : NodeIs w' lo B val s v k := h.same (Same.of_below hb)
theorem NodeIs.mono {w : World} {lo lo' B B' : Nat} {val : Value} {s v : Int} {k : Fo} (hlo : lo' ≤ lo) (hB : B ≤ B') (h : NodeIs w lo B val s v k) : NodeIs w lo' B' val s v k := by
  rcases h with h | ⟨hs, a, c, e, h⟩
  · exact .inl h
  · exact .inr ⟨hs, a, c, e, h.mono hlo hB⟩

theorem nrow_cons {w : World} {lo B x y b o : Nat} {s v : Int} {k r : Fo} {val : Value} (h1 : lo ≤ b) (h2 : b < B) (hc : w.cell? ⟨b, o, none⟩ = some val) (hn : NodeIs w lo B val s v k) (hr : NRow w lo B r b (o + 1)) :
    NRow w lo B (.node x y (s, v) k r) b o := ⟨h1, h2, ⟨val, hc, hn⟩, hr⟩

/-- The nodes of the first j terms lie there, and that of the next one: so do those of the first j + 1. -/
theorem nrow_snoc {w : World} {lo B : Nat} : ∀ (j : Nat) (k : Fo) (b o : Nat) {x y : Nat} {s v : Int} {kk r : Fo} {val : Value}, NRow w lo B (ftake j k) b o → fdrop j k = .node x y (s, v) kk r → lo ≤ b → b < B →
    w.cell? ⟨b, o + j, none⟩ = some val → NodeIs w lo B val s v kk → NRow w lo B (ftake (j + 1) k) b o
  | 0, .nil, _, _, _, _, _, _, _, _, _, _, hd, _, _, _, _ => by simp [fdrop] at hd
  | 0, .node _ _ p k' r', b, o, x, y, s, v, kk, r, val, _, hd, h1, h2, hc, hn => by
    simp only [fdrop, BT.node.injEq] at hd
    obtain ⟨_, _, rfl, rfl, _⟩ := hd
    exact nrow_cons h1 h2 (by simpa using hc) hn trivial
  | j + 1, .nil, _, _, _, _, _, _, _, _, _, _, hd, _, _, _, _ => by simp [fdrop] at hd
  | j + 1, .node _ _ p k' r', b, o, x, y, s, v, kk, r, val, ⟨g1, g2, g3, g4⟩, hd, h1, h2, hc, hn => by
    refine ⟨g1, g2, g3, ?_⟩
    exact nrow_snoc j r' b (o + 1) g4 (by simpa [fdrop] using hd) h1 h2 (by rw [show o + 1 + j = o + (j + 1) from by omega]; exact hc) hn

theorem nrow_of_all {w : World} {lo B : Nat} : ∀ (k : Fo) (b o : Nat), lo ≤ b → b < B →
    (∀ i, i < flen k → ∃ x y s v kk, fdrop i k = .node x y (s, v) kk (fdrop (i + 1) k) ∧ ∃ val, w.cell? ⟨b, o + i, none⟩ = some val ∧ NodeIs w lo B val s v kk) → NRow w lo B k b o
  | .nil, _, _, _, _, _ => trivial
  | .node x y p kk r, b, o, h1, h2, h => by
    obtain ⟨x', y', s, v, kk', e, val, hc, hn⟩ := h 0 (by simp [flen])
    simp only [fdrop, BT.node.injEq] at e
    obtain ⟨_, _, rfl, rfl, _⟩ := e
    refine nrow_cons h1 h2 hc hn (nrow_of_all r b (o + 1) h1 h2 fun i hi => ?_)
    obtain ⟨x', y', s, v, kk', e, val, hc, hn⟩ := h (i + 1) (by simp [flen]; omega)
    exact ⟨x', y', s, v, kk', e, val, by rw [show o + 1 + i = o + (i + 1) from by omega]; exact hc, hn⟩

theorem nrow_drop {w : World} {lo B : Nat} : ∀ (i : Nat) (k : Fo) (b o : Nat), NRow w lo B k b o → NRow w lo B (fdrop i k) b (o + i)
  | 0, _, _, _, h => by simpa [fdrop] using h
  | _ + 1, .nil, _, _, _ => trivial
  | n + 1, .node _ _ _ _ r, b, o, h => by
    have := nrow_drop n r b (o + 1) h.2.2.2
    rw [fdrop, show o + (n + 1) = o + 1 + n from by omega]
    exact this
/-- What the cell of kid i holds. -/
theorem nrow_at {w : World} {lo B : Nat} {k : Fo} {b o i : Nat} (h : NRow w lo B k b o) (hi : i < flen k) :
    ∃ s v kk val, (∃ x y, fdrop i k = .node x y (s, v) kk (fdrop (i + 1) k)) ∧ lo ≤ b ∧ b < B ∧ w.cell? ⟨b, o + i, none⟩ = some val ∧ NodeIs w lo B val s v kk := by
  obtain ⟨x, y, s, v, kk, e⟩ := fdrop_succ i k hi
  have h' := nrow_drop i k b o h
  rw [e] at h'
  obtain ⟨hl, h0, ⟨val, h1, h2⟩, h5⟩ := h'
  exact ⟨s, v, kk, val, ⟨x, y, e⟩, hl, h0, h1, h2⟩
theorem NSl.below {w w' : World} {lo B : Nat} {a : Option Addr} {k : Fo} (hb : Below B w w') (h : NSl w lo B a k) : NSl w' lo B a k := h.same (Same.of_below hb)
theorem NRow.below {w w' : World} {lo B : Nat} (hb : Below B w w') {k : Fo} {b o : Nat} (h : NRow w lo B k b o) : NRow w' lo B k b o := h.same (Same.of_below hb)

end Go.Proofs.Ythbakmdcepoikaa
