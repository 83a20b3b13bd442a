/- Terms as plain data, and what it means that one lies in memory. No condition: definitions and plain lemmas. -/
import Derived.Deep.Trees
import Derived.WalkKit
namespace Go.Proofs.Ythbakmdcepoikaa
open Go.RowKit Go.Deep

/-- A list of terms: a term's sign and variable, its kids, the terms behind it. -/
abbrev Fo := BT (Int × Int)

def flen : Fo → Nat
  | .nil => 0
  | .node _ _ _ _ r => flen r + 1
def fsz : Fo → Nat
  | .nil => 0
  | .node _ _ _ k r => fsz k + fsz r + 1
/-- How many kids a sign asks for. -/
def ar (s : Int) : Int := if s = 0 ∨ s = 1 ∨ s = 2 then 0 else if s = 3 then 1 else if s = 4 then 2 else -1
def okN (s v : Int) (n : Nat) : Bool := decide ((n : Int) = ar s ∧ (s = 0 → 0 ≤ v ∧ v ≤ 11) ∧ (s ≠ 0 → v = 0))
def fok : Fo → Bool
  | .nil => true
  | .node _ _ p k r => okN p.1 p.2 (flen k) && fok k && fok r

/-- The blocks from lo on below B are as they were. -/
def Same (lo B : Nat) (w w' : World) : Prop := ∀ b, lo ≤ b → b < B → w'.heap[b]? = w.heap[b]?

theorem Same.of_below {lo B : Nat} {w w' : World} (h : Below B w w') : Same lo B w w' := fun b _ hb => h.block b hb
theorem Same.cell {lo B : Nat} {w w' : World} (h : Same lo B w w') {p : Addr} (h1 : lo ≤ p.block) (h2 : p.block < B) : w'.cell? p = w.cell? p := World.cell?_of_block (w := w) (h p.block h1 h2)
theorem Same.mono {lo B lo' B' : Nat} {w w' : World} (h : Same lo B w w') (h1 : lo ≤ lo') (h2 : B' ≤ B) : Same lo' B' w w' := fun b x y => h b (by omega) (by omega)
theorem Same.trans {lo B : Nat} {w w' w2 : World} (h : Same lo B w w') (h' : Same lo B w' w2) : Same lo B w w2 := fun b x y => (h' b x y).trans (h b x y)
theorem Same.setCell {lo B : Nat} {w w' : World} (h : Same lo B w w') {p : Addr} (hp : p.block < lo ∨ B ≤ p.block) (u : Value) : Same lo B w (w'.setCell p u) := fun b x y => by
  rw [Below.heap_setCell _ _ _ _ (by omega)]; exact h b x y

/-- The terms k lie in block b from offset o on, all that they lead to in blocks from lo on below B. -/
def Row (w : World) (lo B : Nat) : Fo → Nat → Nat → Prop
  | .nil, _, _ => True
  | .node _ _ p k r, b, o => lo ≤ b ∧ b < B ∧ w.cell? ⟨b, o, none⟩ = some (.int .i64 p.1) ∧ w.cell? ⟨b, o + 1, none⟩ = some (.int .i64 p.2) ∧
      (∃ a c, w.cell? ⟨b, o + 2, none⟩ = some (.slice a (flen k) c) ∧ (k = .nil ∨ ∃ b' o', a = some ⟨b', o', none⟩ ∧ Row w lo B k b' o')) ∧ Row w lo B r b (o + 3)

/-- A slice's address at which the terms k lie. -/
def Sl (w : World) (lo B : Nat) (a : Option Addr) (k : Fo) : Prop := k = .nil ∨ ∃ b o, a = some ⟨b, o, none⟩ ∧ Row w lo B k b o

theorem Row.same {w w' : World} {lo B : Nat} (hb : Same lo B w w') : ∀ (k : Fo) (b o : Nat), Row w lo B k b o → Row w' lo B k b o
  | .nil, _, _, _ => trivial
  | .node _ _ p k r, b, o, ⟨hl, h0, h1, h2, ⟨a, c, h3, h4⟩, h5⟩ => by
    refine ⟨hl, h0, ?_, ?_, ⟨a, c, ?_, ?_⟩, Row.same hb r b (o + 3) h5⟩
    · rw [hb.cell hl h0]; exact h1
    · rw [hb.cell hl h0]; exact h2
    · rw [hb.cell hl h0]; exact h3
    · rcases h4 with h4 | ⟨b', o', e, h4⟩
      · exact .inl h4
      · exact .inr ⟨b', o', e, Row.same hb k b' o' h4⟩
theorem Row.below {w w' : World} {lo B : Nat} (hb : Below B w w') {k : Fo} {b o : Nat} (h : Row w lo B k b o) : Row w' lo B k b o := h.same (Same.of_below hb)

theorem Row.mono {w : World} {lo lo' B B' : Nat} (hlo : lo' ≤ lo) (hB : B ≤ B') : ∀ (k : Fo) (b o : Nat), Row w lo B k b o → Row w lo' B' k b o
  | .nil, _, _, _ => trivial
  | .node _ _ p k r, b, o, ⟨hl, h0, h1, h2, ⟨a, c, h3, h4⟩, h5⟩ => by
    refine ⟨by omega, by omega, h1, h2, ⟨a, c, h3, ?_⟩, Row.mono hlo hB r b (o + 3) h5⟩
    rcases h4 with h4 | ⟨b', o', e, h4⟩
    · exact .inl h4
    · exact .inr ⟨b', o', e, Row.mono hlo hB k b' o' h4⟩

theorem Sl.same {w w' : World} {lo B : Nat} {a : Option Addr} {k : Fo} (hb : Same lo B w w') (h : Sl w lo B a k) : Sl w' lo B a k := by
  rcases h with h | ⟨b, o, e, h⟩
  · exact .inl h
  · exact .inr ⟨b, o, e, h.same hb⟩
theorem Sl.below {w w' : World} {lo B : Nat} {a : Option Addr} {k : Fo} (hb : Below B w w') (h : Sl w lo B a k) : Sl w' lo B a k := h.same (Same.of_below hb)
theorem Sl.mono {w : World} {lo lo' B B' : Nat} {a : Option Addr} {k : Fo} (hlo : lo' ≤ lo) (hB : B ≤ B') (h : Sl w lo B a k) : Sl w lo' B' a k := by
  rcases h with h | ⟨b, o, e, h⟩
  · exact .inl h
  · exact .inr ⟨b, o, e, h.mono hlo hB⟩

def fdrop : Nat → Fo → Fo
  | 0, k => k
  | _ + 1, .nil => .nil
  | n + 1, .node _ _ _ _ r => fdrop n r

theorem row_drop {w : World} {lo B : Nat} : ∀ (i : Nat) (k : Fo) (b o : Nat), Row w lo B k b o → Row w lo B (fdrop i k) b (o + i * 3)
  | 0, _, _, _, h => by simpa [fdrop] using h
  | _ + 1, .nil, _, _, _ => trivial
  | n + 1, .node _ _ _ _ r, b, o, h => by
    have := row_drop n r b (o + 3) h.2.2.2.2.2
    rw [fdrop, show o + (n + 1) * 3 = o + 3 + n * 3 from by omega]
    exact this

theorem flen_drop : ∀ (i : Nat) (k : Fo), flen (fdrop i k) = flen k - i
  | 0, _ => by simp [fdrop]
  | _ + 1, .nil => by simp [fdrop, flen]
  | n + 1, .node _ _ _ _ r => by simp [fdrop, flen, flen_drop n r]

theorem fdrop_succ : ∀ (i : Nat) (k : Fo), i < flen k → ∃ b o s v kk, fdrop i k = .node b o (s, v) kk (fdrop (i + 1) k)
  | _, .nil, h => by simp [flen] at h
  | 0, .node b o (s, v) kk r, _ => ⟨b, o, s, v, kk, by simp [fdrop]⟩
  | n + 1, .node _ _ _ _ r, h => by
    obtain ⟨b, o, s, v, kk, e⟩ := fdrop_succ n r (by simp [flen] at h; omega)
    exact ⟨b, o, s, v, kk, by rw [fdrop, e]; rfl⟩

theorem flen_le_sz : ∀ k : Fo, flen k ≤ fsz k
  | .nil => Nat.le_refl _
  | .node _ _ _ _ r => by have := flen_le_sz r; simp [flen, fsz]; omega

/-- What the cells of kid i hold. -/
theorem row_at {w : World} {lo B : Nat} {k : Fo} {b o i : Nat} (h : Row w lo B k b o) (hi : i < flen k) :
    ∃ s v kk a c, (∃ x y, fdrop i k = .node x y (s, v) kk (fdrop (i + 1) k)) ∧ lo ≤ b ∧ b < B ∧ w.cell? ⟨b, o + i * 3, none⟩ = some (.int .i64 s) ∧ w.cell? ⟨b, o + i * 3 + 1, none⟩ = some (.int .i64 v) ∧
      w.cell? ⟨b, o + i * 3 + 2, none⟩ = some (.slice a (flen kk) c) ∧ Sl w lo B a kk := by
  obtain ⟨x, y, s, v, kk, e⟩ := fdrop_succ i k hi
  have h' := row_drop i k b o h
  rw [e] at h'
  obtain ⟨hl, h0, h1, h2, ⟨a, c, h3, h4⟩, h5⟩ := h'
  exact ⟨s, v, kk, a, c, ⟨x, y, e⟩, hl, h0, h1, h2, h3, h4⟩

theorem fdrop_all {i : Nat} {k : Fo} (h : flen k ≤ i) : fdrop i k = .nil := by
  cases hf : fdrop i k with
  | nil => rfl
  | node x y p kk r => have := flen_drop i k; rw [hf] at this; simp [flen] at this; omega

def ftake : Nat → Fo → Fo
  | 0, _ => .nil
  | _ + 1, .nil => .nil
  | n + 1, .node b o p k r => .node b o p k (ftake n r)
theorem ftake_all : ∀ (i : Nat) (k : Fo), flen k ≤ i → ftake i k = k
  | 0, .nil, _ => rfl
  | 0, .node _ _ _ _ _, h => by simp [flen] at h
  | _ + 1, .nil, _ => rfl
  | n + 1, .node _ _ _ _ r, h => by simp only [ftake]; rw [ftake_all n r (by simp [flen] at h; omega)]
theorem flen_take : ∀ (i : Nat) (k : Fo), i ≤ flen k → flen (ftake i k) = i
  | 0, _, _ => rfl
  | _ + 1, .nil, h => by simp [flen] at h
  | n + 1, .node _ _ _ _ r, h => by simp only [ftake, flen]; rw [flen_take n r (by simp [flen] at h; omega)]

end Go.Proofs.Ythbakmdcepoikaa
