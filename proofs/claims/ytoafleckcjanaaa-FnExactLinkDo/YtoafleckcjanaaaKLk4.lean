/- Several texts in one: Node, NodeC, WC, WD. -/
import Derived.Test.YtoafleckcjanaaaKLk1
import Derived.Test.YtoafleckcjanaaaKLk3
import Derived.Deep.OwnRows

/-! Node: What it means that a node (a value behind the interface) stands for a term. Definitions and plain lemmas. -/
namespace Go.Proofs.Ytoafleckcjanaaa
open Go.RowKit Go.Deep

/-- The nodes of the terms k lie in block b from offset o on; all that they lead to lies in blocks from lo on below B. -/
def NRow (w : World) (lo B : Nat) : Fo → Nat → Nat → Prop
  | .nil, _, _ => True
  | .node _ _ p k r, b, o => lo ≤ b ∧ b < B ∧ (∃ val, w.cell? ⟨b, o, none⟩ = some val ∧
      ((p.1 = 0 ∧ k = .nil ∧ val = .iface 163 (.int .i64 p.2)) ∨
       (p.1 ≠ 0 ∧ ∃ a c, val = .iface 166 (.agg #[.int .i64 p.1, .slice a (flen k) c]) ∧ (k = .nil ∨ ∃ b' o', a = some ⟨b', o', none⟩ ∧ NRow w lo B k b' o')))) ∧ NRow w lo B r b (o + 1)
def NSl (w : World) (lo B : Nat) (a : Option Addr) (k : Fo) : Prop := k = .nil ∨ ∃ b o, a = some ⟨b, o, none⟩ ∧ NRow w lo B k b o
/-- The node val stands for the term of sign s, variable v, kids k. -/
def NodeIs (w : World) (lo B : Nat) (val : Value) (s v : Int) (k : Fo) : Prop :=
  (s = 0 ∧ k = .nil ∧ val = .iface 163 (.int .i64 v)) ∨ (s ≠ 0 ∧ ∃ a c, val = .iface 166 (.agg #[.int .i64 s, .slice a (flen k) c]) ∧ NSl w lo B a k)

theorem NRow.same {w w' : World} {lo B : Nat} (hb : Same lo B w w') : ∀ (k : Fo) (b o : Nat), NRow w lo B k b o → NRow w' lo B k b o
  | .nil, _, _, _ => trivial
  | .node _ _ p k r, b, o, ⟨hl, h0, ⟨val, h1, h2⟩, h5⟩ => by
    refine ⟨hl, h0, ⟨val, by rw [hb.cell hl h0]; exact h1, ?_⟩, NRow.same hb r b (o + 1) h5⟩
    rcases h2 with h2 | ⟨hp, a, c, e, h4⟩
    · exact .inl h2
    · refine .inr ⟨hp, a, c, e, ?_⟩
      rcases h4 with h4 | ⟨b', o', e, h4⟩
      · exact .inl h4
      · exact .inr ⟨b', o', e, NRow.same hb k b' o' h4⟩
theorem NRow.mono {w : World} {lo lo' B B' : Nat} (hlo : lo' ≤ lo) (hB : B ≤ B') : ∀ (k : Fo) (b o : Nat), NRow w lo B k b o → NRow w lo' B' k b o
  | .nil, _, _, _ => trivial
  | .node _ _ p k r, b, o, ⟨hl, h0, ⟨val, h1, h2⟩, h5⟩ => by
    refine ⟨by omega, by omega, ⟨val, h1, ?_⟩, NRow.mono hlo hB r b (o + 1) h5⟩
    rcases h2 with h2 | ⟨hp, a, c, e, h4⟩
    · exact .inl h2
    · refine .inr ⟨hp, a, c, e, ?_⟩
      rcases h4 with h4 | ⟨b', o', e, h4⟩
      · exact .inl h4
      · exact .inr ⟨b', o', e, NRow.mono hlo hB k b' o' h4⟩
theorem NSl.same {w w' : World} {lo B : Nat} {a : Option Addr} {k : Fo} (hb : Same lo B w w') (h : NSl w lo B a k) : NSl w' lo B a k := by
  rcases h with h | ⟨b, o, e, h⟩
  · exact .inl h
  · exact .inr ⟨b, o, e, h.same hb⟩
theorem NSl.mono {w : World} {lo lo' B B' : Nat} {a : Option Addr} {k : Fo} (hlo : lo' ≤ lo) (hB : B ≤ B') (h : NSl w lo B a k) : NSl w lo' B' a k := by
  rcases h with h | ⟨b, o, e, h⟩
  · exact .inl h
  · exact .inr ⟨b, o, e, h.mono hlo hB⟩
theorem NodeIs.same {w w' : World} {lo B : Nat} {val : Value} {s v : Int} {k : Fo} (hb : Same lo B w w') (h : NodeIs w lo B val s v k) : NodeIs w' lo B val s v k := by
  rcases h with h | ⟨hs, a, c, e, h⟩
  · exact .inl h
  · exact .inr ⟨hs, a, c, e, h.same hb⟩
theorem NodeIs.below {w w' : World} {lo B : Nat} {val : Value} {s v : Int} {k : Fo} (hb : Below B w w') (h : NodeIs w lo B val s v k) : NodeIs w' lo B val s v k := h.same (Same.of_below hb)
theorem NodeIs.mono {w : World} {lo lo' B B' : Nat} {val : Value} {s v : Int} {k : Fo} (hlo : lo' ≤ lo) (hB : B ≤ B') (h : NodeIs w lo B val s v k) : NodeIs w lo' B' val s v k := by
  rcases h with h | ⟨hs, a, c, e, h⟩
  · exact .inl h
  · exact .inr ⟨hs, a, c, e, h.mono hlo hB⟩

theorem nrow_cons {w : World} {lo B x y b o : Nat} {s v : Int} {k r : Fo} {val : Value} (h1 : lo ≤ b) (h2 : b < B) (hc : w.cell? ⟨b, o, none⟩ = some val) (hn : NodeIs w lo B val s v k) (hr : NRow w lo B r b (o + 1)) :
    NRow w lo B (.node x y (s, v) k r) b o := ⟨h1, h2, ⟨val, hc, hn⟩, hr⟩

/-- The nodes of the first j terms lie there, and that of the next one: so do those of the first j + 1. -/
theorem nrow_snoc {w : World} {lo B : Nat} : ∀ (j : Nat) (k : Fo) (b o : Nat) {x y : Nat} {s v : Int} {kk r : Fo} {val : Value}, NRow w lo B (ftake j k) b o → fdrop j k = .node x y (s, v) kk r → lo ≤ b → b < B →
    w.cell? ⟨b, o + j, none⟩ = some val → NodeIs w lo B val s v kk → NRow w lo B (ftake (j + 1) k) b o
  | 0, .nil, _, _, _, _, _, _, _, _, _, _, hd, _, _, _, _ => by simp [fdrop] at hd
  | 0, .node _ _ p k' r', b, o, x, y, s, v, kk, r, val, _, hd, h1, h2, hc, hn => by
    simp only [fdrop, BT.node.injEq] at hd
    obtain ⟨_, _, rfl, rfl, _⟩ := hd
    exact nrow_cons h1 h2 (by simpa using hc) hn trivial
  | j + 1, .nil, _, _, _, _, _, _, _, _, _, _, hd, _, _, _, _ => by simp [fdrop] at hd
  | j + 1, .node _ _ p k' r', b, o, x, y, s, v, kk, r, val, ⟨g1, g2, g3, g4⟩, hd, h1, h2, hc, hn => by
    refine ⟨g1, g2, g3, ?_⟩
    exact nrow_snoc j r' b (o + 1) g4 (by simpa [fdrop] using hd) h1 h2 (by rw [show o + 1 + j = o + (j + 1) from by omega]; exact hc) hn

theorem nrow_of_all {w : World} {lo B : Nat} : ∀ (k : Fo) (b o : Nat), lo ≤ b → b < B →
    (∀ i, i < flen k → ∃ x y s v kk, fdrop i k = .node x y (s, v) kk (fdrop (i + 1) k) ∧ ∃ val, w.cell? ⟨b, o + i, none⟩ = some val ∧ NodeIs w lo B val s v kk) → NRow w lo B k b o
  | .nil, _, _, _, _, _ => trivial
  | .node x y p kk r, b, o, h1, h2, h => by
    obtain ⟨x', y', s, v, kk', e, val, hc, hn⟩ := h 0 (by simp [flen])
    simp only [fdrop, BT.node.injEq] at e
    obtain ⟨_, _, rfl, rfl, _⟩ := e
    refine nrow_cons h1 h2 hc hn (nrow_of_all r b (o + 1) h1 h2 fun i hi => ?_)
    obtain ⟨x', y', s, v, kk', e, val, hc, hn⟩ := h (i + 1) (by simp [flen]; omega)
    exact ⟨x', y', s, v, kk', e, val, by rw [show o + 1 + i = o + (i + 1) from by omega]; exact hc, hn⟩

theorem nrow_drop {w : World} {lo B : Nat} : ∀ (i : Nat) (k : Fo) (b o : Nat), NRow w lo B k b o → NRow w lo B (fdrop i k) b (o + i)
  | 0, _, _, _, h => by simpa [fdrop] using h
  | _ + 1, .nil, _, _, _ => trivial
  | n + 1, .node _ _ _ _ r, b, o, h => by
    have := nrow_drop n r b (o + 1) h.2.2.2
    rw [fdrop, show o + (n + 1) = o + 1 + n from by omega]
    exact this
/-- What the cell of kid i holds. -/
theorem nrow_at {w : World} {lo B : Nat} {k : Fo} {b o i : Nat} (h : NRow w lo B k b o) (hi : i < flen k) :
    ∃ s v kk val, (∃ x y, fdrop i k = .node x y (s, v) kk (fdrop (i + 1) k)) ∧ lo ≤ b ∧ b < B ∧ w.cell? ⟨b, o + i, none⟩ = some val ∧ NodeIs w lo B val s v kk := by
  obtain ⟨x, y, s, v, kk, e⟩ := fdrop_succ i k hi
  have h' := nrow_drop i k b o h
  rw [e] at h'
  obtain ⟨hl, h0, ⟨val, h1, h2⟩, h5⟩ := h'
  exact ⟨s, v, kk, val, ⟨x, y, e⟩, hl, h0, h1, h2⟩
theorem NSl.below {w w' : World} {lo B : Nat} {a : Option Addr} {k : Fo} (hb : Below B w w') (h : NSl w lo B a k) : NSl w' lo B a k := h.same (Same.of_below hb)
theorem NRow.below {w w' : World} {lo B : Nat} (hb : Below B w w') {k : Fo} {b o : Nat} (h : NRow w lo B k b o) : NRow w' lo B k b o := h.same (Same.of_below hb)

end Go.Proofs.Ytoafleckcjanaaa

/-! NodeC: Nodes whose slices have room for what they hold. Definitions and plain lemmas. -/
namespace Go.Proofs.Ytoafleckcjanaaa
open Go.RowKit Go.Deep

/-- The nodes of the terms k lie in block b from offset o on; all that they lead to lies in blocks from lo on below B. -/
def CRow (w : World) (lo B : Nat) : Fo → Nat → Nat → Prop
  | .nil, _, _ => True
  | .node _ _ p k r, b, o => lo ≤ b ∧ b < B ∧ (∃ val, w.cell? ⟨b, o, none⟩ = some val ∧
      ((p.1 = 0 ∧ k = .nil ∧ val = .iface 163 (.int .i64 p.2)) ∨
       (p.1 ≠ 0 ∧ ∃ a c, val = .iface 166 (.agg #[.int .i64 p.1, .slice a (flen k) c]) ∧ flen k ≤ c ∧ (k = .nil ∨ ∃ b' o', a = some ⟨b', o', none⟩ ∧ CRow w lo B k b' o')))) ∧ CRow w lo B r b (o + 1)
def CSl (w : World) (lo B : Nat) (a : Option Addr) (k : Fo) : Prop := k = .nil ∨ ∃ b o, a = some ⟨b, o, none⟩ ∧ CRow w lo B k b o
/-- The node val stands for the term of sign s, variable v, kids k. -/
def NodeC (w : World) (lo B : Nat) (val : Value) (s v : Int) (k : Fo) : Prop :=
  (s = 0 ∧ k = .nil ∧ val = .iface 163 (.int .i64 v)) ∨ (s ≠ 0 ∧ ∃ a c, val = .iface 166 (.agg #[.int .i64 s, .slice a (flen k) c]) ∧ flen k ≤ c ∧ CSl w lo B a k)

theorem CRow.same {w w' : World} {lo B : Nat} (hb : Same lo B w w') : ∀ (k : Fo) (b o : Nat), CRow w lo B k b o → CRow w' lo B k b o
  | .nil, _, _, _ => trivial
  | .node _ _ p k r, b, o, ⟨hl, h0, ⟨val, h1, h2⟩, h5⟩ => by
    refine ⟨hl, h0, ⟨val, by rw [hb.cell hl h0]; exact h1, ?_⟩, CRow.same hb r b (o + 1) h5⟩
    rcases h2 with h2 | ⟨hp, a, c, e, hcp, h4⟩
    · exact .inl h2
    · refine .inr ⟨hp, a, c, e, hcp, ?_⟩
      rcases h4 with h4 | ⟨b', o', e, h4⟩
      · exact .inl h4
      · exact .inr ⟨b', o', e, CRow.same hb k b' o' h4⟩
theorem CRow.mono {w : World} {lo lo' B B' : Nat} (hlo : lo' ≤ lo) (hB : B ≤ B') : ∀ (k : Fo) (b o : Nat), CRow w lo B k b o → CRow w lo' B' k b o
  | .nil, _, _, _ => trivial
  | .node _ _ p k r, b, o, ⟨hl, h0, ⟨val, h1, h2⟩, h5⟩ => by
    refine ⟨by omega, by omega, ⟨val, h1, ?_⟩, CRow.mono hlo hB r b (o + 1) h5⟩
    rcases h2 with h2 | ⟨hp, a, c, e, hcp, h4⟩
    · exact .inl h2
    · refine .inr ⟨hp, a, c, e, hcp, ?_⟩
      rcases h4 with h4 | ⟨b', o', e, h4⟩
      · exact .inl h4
      · exact .inr ⟨b', o', e, CRow.mono hlo hB k b' o' h4⟩
theorem CSl.same {w w' : World} {lo B : Nat} {a : Option Addr} {k : Fo} (hb : Same lo B w w') (h : CSl w lo B a k) : CSl w' lo B a k := by
  rcases h with h | ⟨b, o, e, h⟩
  · exact .inl h
  · exact .inr ⟨b, o, e, h.same hb⟩
theorem CSl.mono {w : World} {lo lo' B B' : Nat} {a : Option Addr} {k : Fo} (hlo : lo' ≤ lo) (hB : B ≤ B') (h : CSl w lo B a k) : CSl w lo' B' a k := by
  rcases h with h | ⟨b, o, e, h⟩
  · exact .inl h
  · exact .inr ⟨b, o, e, h.mono hlo hB⟩
theorem NodeC.same {w w' : World} {lo B : Nat} {val : Value} {s v : Int} {k : Fo} (hb : Same lo B w w') (h : NodeC w lo B val s v k) : NodeC w' lo B val s v k := by
  rcases h with h | ⟨hs, a, c, e, hcp, h⟩
  · exact .inl h
  · exact .inr ⟨hs, a, c, e, hcp, h.same hb⟩
theorem NodeC.below {w w' : World} {lo B : Nat} {val : Value} {s v : Int} {k : Fo} (hb : Below B w w') (h : NodeC w lo B val s v k) : NodeC w' lo B val s v k := h.same (Same.of_below hb)
theorem NodeC.mono {w : World} {lo lo' B B' : Nat} {val : Value} {s v : Int} {k : Fo} (hlo : lo' ≤ lo) (hB : B ≤ B') (h : NodeC w lo B val s v k) : NodeC w lo' B' val s v k := by
  rcases h with h | ⟨hs, a, c, e, hcp, h⟩
  · exact .inl h
  · exact .inr ⟨hs, a, c, e, hcp, h.mono hlo hB⟩

theorem crow_cons {w : World} {lo B x y b o : Nat} {s v : Int} {k r : Fo} {val : Value} (h1 : lo ≤ b) (h2 : b < B) (hc : w.cell? ⟨b, o, none⟩ = some val) (hn : NodeC w lo B val s v k) (hr : CRow w lo B r b (o + 1)) :
    CRow w lo B (.node x y (s, v) k r) b o := ⟨h1, h2, ⟨val, hc, hn⟩, hr⟩

/-- The nodes of the first j terms lie there, and that of the next one: so do those of the first j + 1. -/
theorem crow_snoc {w : World} {lo B : Nat} : ∀ (j : Nat) (k : Fo) (b o : Nat) {x y : Nat} {s v : Int} {kk r : Fo} {val : Value}, CRow w lo B (ftake j k) b o → fdrop j k = .node x y (s, v) kk r → lo ≤ b → b < B →
    w.cell? ⟨b, o + j, none⟩ = some val → NodeC w lo B val s v kk → CRow w lo B (ftake (j + 1) k) b o
  | 0, .nil, _, _, _, _, _, _, _, _, _, _, hd, _, _, _, _ => by simp [fdrop] at hd
  | 0, .node _ _ p k' r', b, o, x, y, s, v, kk, r, val, _, hd, h1, h2, hc, hn => by
    simp only [fdrop, BT.node.injEq] at hd
    obtain ⟨_, _, rfl, rfl, _⟩ := hd
    exact crow_cons h1 h2 (by simpa using hc) hn trivial
  | j + 1, .nil, _, _, _, _, _, _, _, _, _, _, hd, _, _, _, _ => by simp [fdrop] at hd
  | j + 1, .node _ _ p k' r', b, o, x, y, s, v, kk, r, val, ⟨g1, g2, g3, g4⟩, hd, h1, h2, hc, hn => by
    refine ⟨g1, g2, g3, ?_⟩
    exact crow_snoc j r' b (o + 1) g4 (by simpa [fdrop] using hd) h1 h2 (by rw [show o + 1 + j = o + (j + 1) from by omega]; exact hc) hn

theorem crow_of_all {w : World} {lo B : Nat} : ∀ (k : Fo) (b o : Nat), lo ≤ b → b < B →
    (∀ i, i < flen k → ∃ x y s v kk, fdrop i k = .node x y (s, v) kk (fdrop (i + 1) k) ∧ ∃ val, w.cell? ⟨b, o + i, none⟩ = some val ∧ NodeC w lo B val s v kk) → CRow w lo B k b o
  | .nil, _, _, _, _, _ => trivial
  | .node x y p kk r, b, o, h1, h2, h => by
    obtain ⟨x', y', s, v, kk', e, val, hc, hn⟩ := h 0 (by simp [flen])
    simp only [fdrop, BT.node.injEq] at e
    obtain ⟨_, _, rfl, rfl, _⟩ := e
    refine crow_cons h1 h2 hc hn (crow_of_all r b (o + 1) h1 h2 fun i hi => ?_)
    obtain ⟨x', y', s, v, kk', e, val, hc, hn⟩ := h (i + 1) (by simp [flen]; omega)
    exact ⟨x', y', s, v, kk', e, val, by rw [show o + 1 + i = o + (i + 1) from by omega]; exact hc, hn⟩

theorem crow_drop {w : World} {lo B : Nat} : ∀ (i : Nat) (k : Fo) (b o : Nat), CRow w lo B k b o → CRow w lo B (fdrop i k) b (o + i)
  | 0, _, _, _, h => by simpa [fdrop] using h
  | _ + 1, .nil, _, _, _ => trivial
  | n + 1, .node _ _ _ _ r, b, o, h => by
    have := crow_drop n r b (o + 1) h.2.2.2
    rw [fdrop, show o + (n + 1) = o + 1 + n from by omega]
    exact this
/-- What the cell of kid i holds. -/
theorem crow_at {w : World} {lo B : Nat} {k : Fo} {b o i : Nat} (h : CRow w lo B k b o) (hi : i < flen k) :
    ∃ s v kk val, (∃ x y, fdrop i k = .node x y (s, v) kk (fdrop (i + 1) k)) ∧ lo ≤ b ∧ b < B ∧ w.cell? ⟨b, o + i, none⟩ = some val ∧ NodeC w lo B val s v kk := by
  obtain ⟨x, y, s, v, kk, e⟩ := fdrop_succ i k hi
  have h' := crow_drop i k b o h
  rw [e] at h'
  obtain ⟨hl, h0, ⟨val, h1, h2⟩, h5⟩ := h'
  exact ⟨s, v, kk, val, ⟨x, y, e⟩, hl, h0, h1, h2⟩
theorem CSl.below {w w' : World} {lo B : Nat} {a : Option Addr} {k : Fo} (hb : Below B w w') (h : CSl w lo B a k) : CSl w' lo B a k := h.same (Same.of_below hb)
theorem CRow.below {w w' : World} {lo B : Nat} (hb : Below B w w') {k : Fo} {b o : Nat} (h : CRow w lo B k b o) : CRow w' lo B k b o := h.same (Same.of_below hb)


theorem CRow.to {w : World} {lo B : Nat} : ∀ (k : Fo) (b o : Nat), CRow w lo B k b o → NRow w lo B k b o
  | .nil, _, _, _ => trivial
  | .node _ _ p k r, b, o, ⟨hl, h0, ⟨val, h1, h2⟩, h5⟩ => by
    refine ⟨hl, h0, ⟨val, h1, ?_⟩, CRow.to r b (o + 1) h5⟩
    rcases h2 with h2 | ⟨hp, a, c, e, _, h4⟩
    · exact .inl h2
    · refine .inr ⟨hp, a, c, e, ?_⟩
      rcases h4 with h4 | ⟨b', o', e, h4⟩
      · exact .inl h4
      · exact .inr ⟨b', o', e, CRow.to k b' o' h4⟩
theorem CSl.to {w : World} {lo B : Nat} {a : Option Addr} {k : Fo} (h : CSl w lo B a k) : NSl w lo B a k := by
  rcases h with h | ⟨b, o, e, h⟩
  · exact .inl h
  · exact .inr ⟨b, o, e, h.to⟩
theorem NodeC.to {w : World} {lo B : Nat} {val : Value} {s v : Int} {k : Fo} (h : NodeC w lo B val s v k) : NodeIs w lo B val s v k := by
  rcases h with h | ⟨hs, a, c, e, _, h⟩
  · exact .inl h
  · exact .inr ⟨hs, a, c, e, h.to⟩
end Go.Proofs.Ytoafleckcjanaaa

/-! WC: nodeWithin, nodeOf, TermOk. -/
namespace Go.Proofs.Ytoafleckcjanaaa
open Go.RowKit Go.Deep

theorem bl_setBoth {B : Nat} {u v : World} (h : Below B u v) (a : Addr) (y : Value) : Below B (u.setCell a y) (v.setCell a y) := by
  refine ⟨h.os, h.tape, h.output, by simpa [World.setCell] using h.size, fun k hk => ?_⟩
  simp only [World.setCell, Array.getElem?_modify]
  rw [h.block k hk]
theorem setCell_twice (w : World) (a : Addr) (x y : Value) (k : Nat) : ((w.setCell a x).setCell a y).heap[k]? = (w.setCell a y).heap[k]? := by
  simp only [World.setCell, Array.getElem?_modify]
  split
  · cases w.heap[k]? with
    | none => rfl
    | some o => cases o <;> simp <;> split <;> simp
  · rfl
theorem setCell_self (w : World) (a : Addr) (x : Value) (h : w.cell? a = some x) (k : Nat) : (w.setCell a x).heap[k]? = w.heap[k]? := by
  simp only [World.setCell, Array.getElem?_modify]
  split
  · rename_i hk
    subst hk
    unfold World.cell? at h
    cases ho : w.heap[a.block]? with
    | none => rfl
    | some o =>
      rw [ho] at h
      cases o <;> simp at h ⊢
      obtain ⟨h1, h2⟩ := h
      intro _
      obtain ⟨hlt, hv⟩ := Array.getElem?_eq_some_iff.1 h2
      apply Array.ext
      · simp
      · intro i h1' h2'
        rw [Array.getElem_setIfInBounds]
        split
        · rename_i hi; subst hi; exact hv.symm
        · rfl
  · rfl
theorem bl_self {B : Nat} {w w' : World} {a : Addr} {x : Value} (h : Below B w w') (hc : w.cell? a = some x) : Below B (w.setCell a x) w' :=
  ⟨h.os, h.tape, h.output, by simpa [World.setCell] using h.size, fun k hk => by rw [setCell_self w a x hc]; exact h.block k hk⟩
/-- A call that writes the one cell, behind another such call. -/
theorem bl_room {B B' : Nat} {w w1 w2 : World} {a : Addr} {x y : Value} (h : Below B (w.setCell a x) w1) (h' : Below B' (w1.setCell a y) w2) (hB : B ≤ B') : Below B (w.setCell a y) w2 := by
  have g := (bl_setBoth h a y).trans (h'.mono hB)
  exact ⟨g.os, g.tape, g.output, by simpa [World.setCell] using g.size, fun k hk => by rw [g.block k hk, setCell_twice]⟩

theorem box_cells2 {W : World} {n : Nat} (hn : W.heap.size = n) {x y z : Value} {T : TypeId} (u : After (n + 1) (W.alloc (.cells #[x, y, z] T))) :
    u.world.cell? ⟨n, 0, none⟩ = some x ∧ u.world.cell? ⟨n, 1, none⟩ = some y ∧ u.world.cell? ⟨n, 2, none⟩ = some z := by
  subst hn
  exact box_cells u
theorem after_top2 {W w' : World} {n : Nat} (hn : W.heap.size = n) {o : Obj} (h : Below (n + 1) (W.alloc o) w') : Below n W w' := by
  subst hn
  exact after_top h

/-- In form, and of at most that size. -/
def okW (s v : Int) (k : Fo) (room : Int) : Bool := okN s v (flen k) && fok k && decide (1 + (fsz k : Int) ≤ room)
def NwPost (s v : Int) (k : Fo) (room : Int) (br : Nat) (w : World) (e : Ending) (w' : World) : Prop :=
  ∃ nv r', e = .returned (.tuple #[nv, .bool (okW s v k room)]) ∧ Below w.heap.size (w.setCell ⟨br, 0, none⟩ (.int .i64 r')) w' ∧
    (okW s v k room = true → r' = room - (1 + fsz k) ∧ NodeC w' w.heap.size w'.heap.size nv s v k)

theorem okW_bad {s v : Int} {k : Fo} {room : Int} (h : okN s v (flen k) = false) : okW s v k room = false := by simp [okW, h]
theorem okW_small {s v : Int} {k : Fo} {room : Int} (h : room < 1) : okW s v k room = false := by
  unfold okW
  rw [decide_eq_false (by omega)]
  simp
theorem nwPost_no {s v : Int} {k : Fo} {room r' : Int} {br : Nat} {w w' : World} {nv : Value} (h : okW s v k room = false) (hb : Below w.heap.size (w.setCell ⟨br, 0, none⟩ (.int .i64 r')) w') :
    NwPost s v k room br w (.returned (.tuple #[nv, .bool false])) w' := ⟨nv, r', by rw [h], hb, fun h' => by rw [h] at h'; cases h'⟩

theorem vheads (v : Int) (n : Nat) : (decide (0 ≤ v) = false ∧ okN 0 v n = false) ∨ (decide (0 ≤ v) = true ∧ decide (v < 12) = false ∧ okN 0 v n = false) ∨
    (decide (0 ≤ v) = true ∧ decide (v < 12) = true ∧ ((n : Int) == 0) = false ∧ okN 0 v n = false) ∨ (decide (0 ≤ v) = true ∧ decide (v < 12) = true ∧ ((n : Int) == 0) = true ∧ okN 0 v n = true) := by
  by_cases h1 : 0 ≤ v
  · by_cases h2 : v < 12
    · by_cases h3 : (n : Int) = 0
      · exact .inr (.inr (.inr ⟨decide_eq_true h1, decide_eq_true h2, by simpa using h3, (okN_iff _ _ _).2 ⟨by simpa [ar] using h3, fun _ => ⟨h1, by omega⟩, fun h => absurd rfl h⟩⟩))
      · exact .inr (.inr (.inl ⟨decide_eq_true h1, decide_eq_true h2, by simpa using h3, (okN_f _ _ _).2 fun h => h3 (by simpa [ar] using h.1)⟩))
    · exact .inr (.inl ⟨decide_eq_true h1, decide_eq_false h2, (okN_f _ _ _).2 fun h => h2 (by have := (h.2.1 rfl).2; omega)⟩)
  · exact .inl ⟨decide_eq_false h1, (okN_f _ _ _).2 fun h => h1 (h.2.1 rfl).1⟩
theorem sheads {s : Int} (hs : s ≠ 0) (v : Int) (n : Nat) : ((v != 0) = true ∧ okN s v n = false) ∨ ((v != 0) = false ∧ ((n : Int) != ar s) = true ∧ okN s v n = false) ∨ ((v != 0) = false ∧ ((n : Int) != ar s) = false ∧ okN s v n = true) := by
  by_cases h1 : v = 0
  · by_cases h2 : (n : Int) = ar s
    · exact .inr (.inr ⟨by simp [h1], by simp [h2], (okN_iff _ _ _).2 ⟨h2, fun h => absurd h hs, fun _ => h1⟩⟩)
    · exact .inr (.inl ⟨by simp [h1], by simp [h2], (okN_f _ _ _).2 fun h => h2 h.1⟩)
  · exact .inl ⟨by simp [h1], (okN_f _ _ _).2 fun h => h1 (h.2.2 hs)⟩

theorem Try.infoNode : (Try.prog.info? 107).map (fun i => (i.zero, i.size, i.bytes)) = some (some .nilIface, 1, 16) := by kernel_rfl

/-- What holds at the head of nodeWithin's loop. -/
structure NwAt (w u : World) (k : Fo) (room : Int) (br : Nat) (box : Obj) (j : Nat) (r : Int) (wr : World) : Prop where
  r0 : 0 ≤ r
  r1 : r < room
  ok : fok k = fok (fdrop j k)
  sz : (fsz k : Int) + r = room - 1 + fsz (fdrop j k)
  below : Below (w.heap.size + 1) ((w.alloc box).setCell ⟨br, 0, none⟩ (.int .i64 r)) wr
  gsz : u.heap.size < wr.heap.size
  row : ∃ f, wr.rowIs u.heap.size 107 (flen k) f ∧ ∀ i, i < j → ∃ x y s v kk, fdrop i k = .node x y (s, v) kk (fdrop (i + 1) k) ∧ NodeC wr (u.heap.size + 1) wr.heap.size (f i) s v kk

theorem NwAt.start {w u : World} {k : Fo} {room : Int} {br : Nat} {box : Obj} (hr : 1 ≤ room) (hbr : br < w.heap.size) (hu : Below (w.heap.size + 1) ((w.setCell ⟨br, 0, none⟩ (.int .i64 (room - 1))).alloc box) u) :
    NwAt w u k room br box 0 (room - 1) (u.alloc (.cells (madeCells #[.nilIface] (flen k)) 107)) := by
  refine ⟨by omega, by omega, rfl, by simp only [fdrop]; omega, ?_, by simp, ⟨_, World.rowIs_made u .nilIface (flen k) _, fun i hi => by omega⟩⟩
  rw [World.setCell_alloc_past _ _ _ _ hbr]
  exact hu.alloc (by have := hu.size; simp at this; omega) _
theorem NwAt.room {w u wr : World} {k : Fo} {room r : Int} {br j : Nat} {box : Obj} (h : NwAt w u k room br box j r wr) (hbr : br < w.heap.size) (hrc : w.cell? ⟨br, 0, none⟩ = some (.int .i64 room)) (hrf : w.frozen? ⟨br, 0, none⟩ = false) :
    wr.cell? ⟨br, 0, none⟩ = some (.int .i64 r) ∧ wr.frozen? ⟨br, 0, none⟩ = false := by
  constructor
  · rw [h.below.cell (by simp; omega)]
    exact World.cell?_setCell_same _ _ _ (u := .int .i64 room) (by rw [World.cell?_alloc_lt _ _ _ hbr]; exact hrc)
  · rw [h.below.frozen (by simp; omega), World.frozen?_setCell, World.frozen?_alloc_old _ _ _ (by simp; omega)]
    exact hrf
theorem NwAt.same {w u wr : World} {k : Fo} {room r : Int} {br j B : Nat} {box : Obj} (h : NwAt w u k room br box j r wr) (hbr : br < w.heap.size) (hB : B ≤ br) : Same 0 B w wr := fun b _ hb => by
  rw [h.below.block b (by omega), Below.heap_setCell _ _ _ _ (by simp; omega), Below.heap_alloc _ _ _ (by omega)]
theorem NwAt.box {w u wr : World} {k : Fo} {room r : Int} {br j : Nat} {x y z : Value} {T : TypeId} (h : NwAt w u k room br (.cells #[x, y, z] T) j r wr) (hbr : br < w.heap.size) :
    wr.cell? ⟨w.heap.size, 0, none⟩ = some x ∧ wr.cell? ⟨w.heap.size, 1, none⟩ = some y ∧ wr.cell? ⟨w.heap.size, 2, none⟩ = some z := by
  refine ⟨?_, ?_, ?_⟩
  all_goals
    rw [h.below.cell (by simp), World.cell?_setCell_other _ _ _ _ (by intro h'; have := congrArg Addr.block h'; simp at this; omega)]
    simp
/-- What the call for kid j leaves, not yet stored. -/
theorem NwAt.called {w u wr w2 : World} {k : Fo} {room r r' : Int} {br j : Nat} {box o : Obj} (h : NwAt w u k room br box j r wr) (hbr : br < w.heap.size) (hsz : w.heap.size < u.heap.size)
    (hb : Below (wr.alloc o).heap.size ((wr.alloc o).setCell ⟨br, 0, none⟩ (.int .i64 r')) w2) :
    Below (w.heap.size + 1) ((w.alloc box).setCell ⟨br, 0, none⟩ (.int .i64 r')) w2 ∧ wr.heap.size < w2.heap.size ∧ Same (u.heap.size + 1) wr.heap.size wr w2 ∧
      ∃ f, w2.rowIs u.heap.size 107 (flen k) f ∧ ∀ i, i < j → ∃ x y s v kk, fdrop i k = .node x y (s, v) kk (fdrop (i + 1) k) ∧ NodeC w2 (u.heap.size + 1) w2.heap.size (f i) s v kk := by
  have hs1 := h.below.size
  have hs2 := hb.size
  simp at hs1 hs2
  have hg := h.gsz
  have hsame : Same (u.heap.size + 1) wr.heap.size wr w2 := fun b h1 h2 => by
    rw [hb.block b (by simp; omega), Below.heap_setCell _ _ _ _ (by simp; omega), Below.heap_alloc _ _ _ h2]
  refine ⟨bl_room (h.below.alloc (by omega) o) hb (by simp; omega), by omega, hsame, ?_⟩
  obtain ⟨f, hf, hall⟩ := h.row
  refine ⟨f, ((hf.alloc o).setOther (by simp; omega) _).of_block (hb.block _ (by simp; omega)), fun i hi => ?_⟩
  obtain ⟨x, y, s, v, kk, e, hn⟩ := hall i hi
  exact ⟨x, y, s, v, kk, e, (hn.same hsame).mono (Nat.le_refl _) (by omega)⟩

theorem okW_iff (s v : Int) (k : Fo) (room : Int) : okW s v k room = true ↔ okN s v (flen k) = true ∧ fok k = true ∧ 1 + (fsz k : Int) ≤ room := by
  simp only [okW, Bool.and_eq_true, decide_eq_true_eq]
  exact and_assoc
theorem NwAt.fail {w u wr : World} {s v : Int} {k : Fo} {room r : Int} {br j x y : Nat} {box : Obj} {s' v' : Int} {kk rest : Fo} (h : NwAt w u k room br box j r wr) (hd : fdrop j k = .node x y (s', v') kk rest) (hf : okW s' v' kk r = false) :
    okW s v k room = false := by
  cases ht : okW s v k room with
  | false => rfl
  | true =>
    obtain ⟨_, h2, h3⟩ := (okW_iff _ _ _ _).1 ht
    have h4 := h.ok
    have h5 := h.sz
    rw [hd] at h4 h5
    rw [h2] at h4
    simp only [fok, fsz] at h4 h5
    have h6 := h4.symm
    simp only [Bool.and_eq_true] at h6
    rw [(okW_iff s' v' kk r).2 ⟨h6.1.1, h6.1.2, by omega⟩] at hf
    cases hf
theorem NwAt.step {w u wr w2 : World} {k : Fo} {room r r' : Int} {br j x y : Nat} {box : Obj} {s' v' : Int} {kk : Fo} {nv : Value} {f : Nat → Value} (h : NwAt w u k room br box j r wr) (hsz : w.heap.size < u.heap.size)
    (hd : fdrop j k = .node x y (s', v') kk (fdrop (j + 1) k)) (hok : okW s' v' kk r = true) (hr : r' = r - (1 + fsz kk)) (hbl : Below (w.heap.size + 1) ((w.alloc box).setCell ⟨br, 0, none⟩ (.int .i64 r')) w2) (hw : wr.heap.size < w2.heap.size)
    (hf : w2.rowIs u.heap.size 107 (flen k) f) (hall : ∀ i, i < j → ∃ x y s v kk, fdrop i k = .node x y (s, v) kk (fdrop (i + 1) k) ∧ NodeC w2 (u.heap.size + 1) w2.heap.size (f i) s v kk)
    (hn : NodeC w2 (u.heap.size + 1) w2.heap.size nv s' v' kk) : NwAt w u k room br box (j + 1) r' (w2.setCell ⟨u.heap.size, j, none⟩ nv) := by
  obtain ⟨h1, h2, h3⟩ := (okW_iff _ _ _ _).1 hok
  have h4 := h.ok
  have h5 := h.sz
  have h6 := h.gsz
  have h7 := h.r1
  rw [hd] at h4 h5
  simp only [fok, fsz, h1, h2, Bool.true_and] at h4 h5
  have hs : Same (u.heap.size + 1) w2.heap.size w2 (w2.setCell ⟨u.heap.size, j, none⟩ nv) := Same.setCell (fun _ _ _ => rfl) (.inl (by simp)) _
  refine ⟨by omega, by omega, h4, by omega, hbl.setCell (by simp; omega) _, by simp; omega, ⟨_, hf.set j nv, fun i hi => ?_⟩⟩
  rw [World.size_setCell]
  by_cases hij : i = j
  · subst hij
    exact ⟨x, y, s', v', kk, hd, by simp only [if_true]; exact hn.same hs⟩
  · obtain ⟨x', y', s2, v2, k2, e, hn2⟩ := hall i (by omega)
    exact ⟨x', y', s2, v2, k2, e, by simp only [if_neg hij]; exact hn2.same hs⟩
theorem NwAt.done {w u wr : World} {s v : Int} {k : Fo} {room r : Int} {br j : Nat} {box : Obj} (h : NwAt w u k room br box j r wr) (hs : s ≠ 0) (hbr : br < w.heap.size) (hsz : w.heap.size < u.heap.size) (hj : flen k ≤ j) (hok : okN s v (flen k) = true) :
    NwPost s v k room br w (.returned (.tuple #[.iface 166 (.agg #[.int .i64 s, .slice (some ⟨u.heap.size, 0, none⟩) (flen k) (flen k)]), .bool true])) wr := by
  have h4 := h.ok
  have h5 := h.sz
  have h6 := h.r0
  rw [fdrop_all hj] at h4 h5
  simp only [fok, fsz] at h4 h5
  have hw : okW s v k room = true := (okW_iff _ _ _ _).2 ⟨hok, h4, by omega⟩
  refine ⟨_, r, by rw [hw], ?_, fun _ => ⟨by omega, .inr ⟨hs, _, _, rfl, Nat.le_refl _, .inr ⟨_, _, rfl, ?_⟩⟩⟩⟩
  · have := h.below
    rw [World.setCell_alloc_past _ _ _ _ hbr] at this
    exact after_top2 (by simp) this
  · obtain ⟨f, hf, hall⟩ := h.row
    refine crow_of_all k _ _ (by omega) h.gsz fun i hi => ?_
    obtain ⟨x, y, s', v', kk, e, hn⟩ := hall i (by omega)
    exact ⟨x, y, s', v', kk, e, f i, by rw [Nat.zero_add]; exact hf.cell hi, hn.mono (by omega) (Nat.le_refl _)⟩

set_option maxRecDepth 100000 in
set_option maxHeartbeats 1000000 in
theorem nodeWithin_any (N : Nat) : ∀ (s v : Int) (a : Option Addr) (c : Nat) (k : Fo) (room : Int) (br B : Nat) (w : World), Sl w 0 B a k → B ≤ br → br < w.heap.size → 0 ≤ room → room ≤ 1000 → room ≤ N →
    w.cell? ⟨br, 0, none⟩ = some (.int .i64 room) → w.frozen? ⟨br, 0, none⟩ = false →
    Calls Try.prog 93 #[.agg #[.int .i64 s, .int .i64 v, .slice a (flen k) c], .pointer (some ⟨br, 0, none⟩)] w (NwPost s v k room br w) := by
  induction N with
  | zero =>
    intro s v a c k room br B w hl hB hbr h1 h2 h3 hrc hrf
    have e1 : decide (room < 1) = true := by simp; omega
    go_enter Try.func93, Try.ntmps93
    go_wp2_with fail
    go_ret2
    exact nwPost_no (okW_small (by omega)) (bl_self ((Below.refl _ _).alloc (Nat.le_refl _) _) hrc)
  | succ N ih =>
    intro s v a c k room br B w hl hB hbr h1 h2 h3 hrc hrf
    have IH := Lib.hid ih
    clear ih
    by_cases hz : room < 1
    · have e1 : decide (room < 1) = true := by simp; omega
      go_enter Try.func93, Try.ntmps93
      go_wp2_with fail
      go_ret2
      exact nwPost_no (okW_small (by omega)) (bl_self ((Below.refl _ _).alloc (Nat.le_refl _) _) hrc)
    have e1 : decide (room < 1) = false := by simp; omega
    have hn : (w.setCell ⟨br, 0, none⟩ (.int .i64 (room - 1))).heap.size = w.heap.size := by simp [World.setCell]
    have HN := Lib.hid hn
    have hc := fun u => @box_cells2 _ _ hn (.int .i64 s) (.int .i64 v) (.slice a (flen k) c) 35 u
    have hc0 := fun u => (hc u).1
    have hc1 := fun u => (hc u).2.1
    have hc2 := fun u => (hc u).2.2
    have HC := Lib.hid hc
    clear hc hn
    by_cases hs : s = 0
    · subst hs
      rcases vheads v (flen k) with ⟨g1, hok⟩ | ⟨g1, g2, hok⟩ | ⟨g1, g2, g3, hok⟩ | ⟨g1, g2, g3, hok⟩
      iterate 3
        · have HO := Lib.hid hok
          clear hok
          go_enter Try.func93, Try.ntmps93
          go_wp2_with fail
          refine wp_region_after (w.heap.size + 1) (by kernel_rfl) (by kernel_rfl) ?_
          repeat (go_big_quiet_step (fail))
          refine wpQuiet_nil ?_
          rintro _ ⟨u, rfl⟩
          go_wp2_with fail
          go_ret2
          exact nwPost_no (okW_bad HO.out) (after_top2 HN.out u.below)
      · have HO := Lib.hid hok
        clear hok
        go_enter Try.func93, Try.ntmps93
        go_wp2_with fail
        refine wp_region_after (w.heap.size + 1) (by kernel_rfl) (by kernel_rfl) ?_
        repeat (go_big_quiet_step (fail))
        refine wpQuiet_nil ?_
        rintro _ ⟨u, rfl⟩
        go_wp2_with fail
        go_ret2
        have hk : k = .nil := by
          cases k with
          | nil => rfl
          | node => simp [flen] at g3; omega
        subst hk
        have ew : okW 0 v .nil room = true := by
          have := HO.out
          simp only [okW, this, fok, fsz, Bool.and_true, Bool.true_and]
          exact decide_eq_true (by omega)
        exact ⟨_, _, by rw [ew]; rfl, after_top2 HN.out u.below, fun _ => ⟨by simp [fsz], .inl ⟨rfl, rfl, rfl⟩⟩⟩
    · have gs : (s == 0) = false := by simpa using hs
      rcases sheads hs v (flen k) with ⟨g1, hok⟩ | ⟨g1, g2, hok⟩ | ⟨g1, g2, hok⟩
      iterate 2
        · have HO := Lib.hid hok
          clear hok
          go_enter Try.func93, Try.ntmps93
          go_wp2_with fail
          refine wp_region_after (w.heap.size + 1) (by kernel_rfl) (by kernel_rfl) ?_
          repeat (go_big_quiet_step ((go_at_call 111; exact Calls.after_same (arityOf_any _ _ hs))))
          refine wpQuiet_nil ?_
          rintro _ ⟨u, rfl⟩
          go_wp2_with fail
          go_ret2
          exact nwPost_no (okW_bad HO.out) (after_top2 HN.out u.below)
      · have hk2 : flen k ≤ 2 := okN_le hok
        have HO := Lib.hid hok
        clear hok
        have hmk := run_make_row' (P := Try.prog) 164 107 .nilIface 16 Try.underlying164 Try.infoNode rfl .i64 .i64 (flen k) (by omega) (by omega)
        go_enter Try.func93, Try.ntmps93
        go_wp2_with fail
        refine wp_region_after (w.heap.size + 1) (by kernel_rfl) (by kernel_rfl) ?_
        repeat (go_big_quiet_step ((go_at_call 111; exact Calls.after_same (arityOf_any _ _ hs))))
        refine wpQuiet_nil ?_
        rintro u ⟨⟨_, hu⟩, rfl⟩
        have hu0 := hc0 ⟨u, hu⟩
        have hu1 := hc1 ⟨u, hu⟩
        have hu2 := hc2 ⟨u, hu⟩
        dsimp only at hu0 hu1 hu2
        clear hc0 hc1 hc2
        have hsz : w.heap.size < u.heap.size := by have := hu.size; simp at this; omega
        have hsb : br < u.heap.size := by omega
        have hst := NwAt.start (k := k) (by omega) hbr hu
        have HST := Lib.hid hst
        clear hst
        go_wp2_with fail
        go_loopw [59] (fun i wr => ∃ (j : Nat) (r : Int), j ≤ flen k ∧ i = .int .i64 j ∧ NwAt w u k room br (.cells #[.int .i64 s, .int .i64 v, .slice a (flen k) c] 35) j r wr) (fun i _ => flen k - (intOf i).toNat)
        case atStart => exact ⟨0, _, Nat.zero_le _, rfl, HST.out⟩
        case round =>
          clear hu0 hu1 hu2 hu HST
          obtain ⟨j, r, hj, rfl, hat⟩ := hrel
          obtain ⟨hr1, hr2⟩ := hat.room hbr hrc hrf
          obtain ⟨hu0, hu1, hu2⟩ := hat.box hbr
          have hr0 := hat.r0
          have hr3 := hat.r1
          have hgs := hat.gsz
          by_cases hlt : j < flen k
          · rcases hl with rfl | ⟨b, o, rfl, hrow⟩
            · simp [flen] at hlt
            obtain ⟨s', v', kk, a', c', ⟨x, y, hd⟩, _, hbB, hk0, hk1, hk2', hsl⟩ := row_at (hrow.same (hat.same hbr hB)) hlt
            have HD := Lib.hid hd
            have HS := Lib.hid hsl
            clear hd hsl
            go_wp2_with fail
            with_reducible refine (IH.out s' v' a' c' kk r br B _ ?_ ?_ ?_ ?_ ?_ ?_ ?_ ?_).mono ?_
            · exact HS.out.below ((Below.refl _ _).alloc (by omega) _)
            · omega
            · simp; omega
            · omega
            · omega
            · omega
            · rw [World.cell?_alloc_lt _ _ _ (by simp; omega)]; exact hr1
            · rw [World.frozen?_alloc_old _ _ _ (by simp; omega)]; exact hr2
            rintro e w2 ⟨nv, r', rfl, hb2, hyes⟩
            obtain ⟨hbl, hwsz, hsame, f, hf, hall⟩ := hat.called hbr hsz hb2
            cases hok2 : okW s' v' kk r with
            | false =>
              have hno : Hid (okW s v k room = false) := hat.fail HD.out hok2
              clear hyes hall
              go_wp2_with fail
              go_ret2
              refine nwPost_no (r' := r') hno.out ?_
              rw [World.setCell_alloc_past _ _ _ _ hbr] at hbl
              exact after_top2 (by simp) hbl
            | true =>
              obtain ⟨hr', hn⟩ := hyes hok2
              have hstep := hat.step hsz HD.out hok2 hr' hbl hwsz hf hall (hn.mono (by simp; omega) (Nat.le_refl _))
              have HST := Lib.hid hstep
              have hgc := hf.cell hlt
              have hgf := hf.frozen j
              clear hr' hyes hall hstep
              rcases hn with ⟨hs', _, rfl⟩ | ⟨hs', a2, c2, rfl, hn2⟩
              all_goals
                go_wp2_with fail
                go_roundw
                case rel => exact ⟨j + 1, _, by omega, by go_num, HST.out⟩
                case measure => simp [intOf]; omega
          · have hdn := hat.done hs hbr hsz (by omega) HO.out
            have HDN := Lib.hid hdn
            clear hdn
            go_wp2_with fail
            go_ret2
            exact HDN.out
end Go.Proofs.Ytoafleckcjanaaa

/-! WD: nodeOf, TermOk of the program and of the specification. -/
namespace Go.Proofs.Ytoafleckcjanaaa
open Go.RowKit Go.Deep

def NoPostC (s v : Int) (k : Fo) (room : Int) (w : World) (e : Ending) (w' : World) : Prop :=
  ∃ nv, e = .returned (.tuple #[nv, .bool (okW s v k room)]) ∧ Below w.heap.size w w' ∧ (okW s v k room = true → NodeC w' w.heap.size w'.heap.size nv s v k)
def NoPost (s v : Int) (k : Fo) (room : Int) (w : World) (e : Ending) (w' : World) : Prop :=
  ∃ nv, e = .returned (.tuple #[nv, .bool (okW s v k room)]) ∧ Below w.heap.size w w' ∧ (okW s v k room = true → NodeIs w' w.heap.size w'.heap.size nv s v k)

set_option maxRecDepth 100000 in
set_option maxHeartbeats 400000 in
theorem nodeOf_anyC (s v : Int) (a : Option Addr) (c : Nat) (k : Fo) (room : Int) (w : World) (hl : Sl w 0 w.heap.size a k) (h1 : 0 ≤ room) (h2 : room ≤ 1000) :
    Calls Try.prog 72 #[.agg #[.int .i64 s, .int .i64 v, .slice a (flen k) c], .int .i64 room] w (NoPostC s v k room w) := by
  go_enter Try.func72, Try.ntmps72
  go_wp2_with fail
  with_reducible refine (nodeWithin_any room.toNat s v a c k room (w.heap.size + 1) w.heap.size _ ?_ ?_ ?_ ?_ ?_ ?_ ?_ ?_).mono ?_
  · exact hl.below (((Below.refl _ _).alloc (Nat.le_refl _) _).alloc (by simp) _)
  · omega
  · simp
  · omega
  · omega
  · omega
  · simp [World.cell?_alloc_at]
  · simp [World.frozen?_alloc_at]
  rintro e w2 ⟨nv, r', rfl, hb, hyes⟩
  have hfin : NoPostC s v k room w (.returned (.tuple #[nv, .bool (okW s v k room)])) w2 := by
    refine ⟨nv, rfl, ?_, fun h => (hyes h).2.mono (by simp; omega) (Nat.le_refl _)⟩
    exact ((((Below.refl _ _).alloc (Nat.le_refl _) _).alloc (by simp) _).setCell (by simp) _).trans (hb.mono (by simp; omega))
  have HF := Lib.hid hfin
  clear hfin hyes
  go_wp2_with fail
  go_ret2
  exact HF.out
theorem nodeOf_any (s v : Int) (a : Option Addr) (c : Nat) (k : Fo) (room : Int) (w : World) (hl : Sl w 0 w.heap.size a k) (h1 : 0 ≤ room) (h2 : room ≤ 1000) :
    Calls Try.prog 72 #[.agg #[.int .i64 s, .int .i64 v, .slice a (flen k) c], .int .i64 room] w (NoPost s v k room w) :=
  (nodeOf_anyC s v a c k room w hl h1 h2).mono fun _ _ ⟨nv, h1, h2, h3⟩ => ⟨nv, h1, h2, fun h => (h3 h).to⟩

theorem cntT_okW (s v : Int) (k : Fo) (m : Int) : decide (cntT s v k m ≤ m) = okW s v k m := by
  cases h : okW s v k m with
  | true =>
    have h' := (okW_iff _ _ _ _).1 h
    unfold cntT
    rw [if_pos h']
    exact decide_eq_true h'.2.2
  | false =>
    unfold cntT
    rw [if_neg fun h' => by rw [(okW_iff _ _ _ _).2 h'] at h; cases h]
    exact decide_eq_false (by omega)

set_option maxHeartbeats 400000 in
theorem sTermOk_any (s v : Int) (a : Option Addr) (c : Nat) (k : Fo) (w : World) (hl : Sl w 0 w.heap.size a k) :
    Calls Try.prog 85 #[.agg #[.int .i64 s, .int .i64 v, .slice a (flen k) c]] w fun e w' => e = .returned (.bool (okW s v k 16)) ∧ Below w.heap.size w w' := by
  have hc := cntT_okW s v k 16
  have HC := Lib.hid hc
  clear hc
  go_enter Try.func85, Try.ntmps85
  go_wp2_with fail
  with_reducible refine (l1Count_any 16 s v a c k 16 _ ?_ ?_ ?_ ?_).mono ?_
  · exact (hl.below ((Below.refl _ _).alloc (Nat.le_refl _) _)).mono (Nat.le_refl _) (by simp)
  · omega
  · omega
  · omega
  rintro e w2 ⟨rfl, hb⟩
  go_wp2_with fail
  go_ret
  exact ⟨by rw [← HC.out]; rfl, ((Below.refl _ _).alloc (Nat.le_refl _) _).trans (hb.mono (by simp))⟩
end Go.Proofs.Ytoafleckcjanaaa
