/- Several texts in one: Base, Read, Kit, XA, XB. -/
import Derived.Deep.Trees
import Derived.WalkKit
import Derived.Test.YtoafleckcjanaaaRows
import Derived.ProofKit
import Derived.Lib.SmallJoins
import Derived.BigQuiet
import Derived.WalkSpells
import Derived.WalkLawsBesides
import Derived.Lib.Hide
import Derived.Deep.OwnRows

/-! Base: Terms as plain data, and what it means that one lies in memory. No condition: definitions and plain lemmas. -/
namespace Go.Proofs.Ytoafleckcjanaaa
open Go.RowKit Go.Deep

/-- A list of terms: a term's sign and variable, its kids, the terms behind it. -/
abbrev Fo := BT (Int × Int)

def flen : Fo → Nat
  | .nil => 0
  | .node _ _ _ _ r => flen r + 1
def fsz : Fo → Nat
  | .nil => 0
  | .node _ _ _ k r => fsz k + fsz r + 1
/-- How many kids a sign asks for. -/
def ar (s : Int) : Int := if s = 0 ∨ s = 1 ∨ s = 2 then 0 else if s = 3 then 1 else if s = 4 then 2 else -1
def okN (s v : Int) (n : Nat) : Bool := decide ((n : Int) = ar s ∧ (s = 0 → 0 ≤ v ∧ v ≤ 11) ∧ (s ≠ 0 → v = 0))
def fok : Fo → Bool
  | .nil => true
  | .node _ _ p k r => okN p.1 p.2 (flen k) && fok k && fok r

/-- The blocks from lo on below B are as they were. -/
def Same (lo B : Nat) (w w' : World) : Prop := ∀ b, lo ≤ b → b < B → w'.heap[b]? = w.heap[b]?

theorem Same.of_below {lo B : Nat} {w w' : World} (h : Below B w w') : Same lo B w w' := fun b _ hb => h.block b hb
theorem Same.cell {lo B : Nat} {w w' : World} (h : Same lo B w w') {p : Addr} (h1 : lo ≤ p.block) (h2 : p.block < B) : w'.cell? p = w.cell? p := World.cell?_of_block (w := w) (h p.block h1 h2)
theorem Same.mono {lo B lo' B' : Nat} {w w' : World} (h : Same lo B w w') (h1 : lo ≤ lo') (h2 : B' ≤ B) : Same lo' B' w w' := fun b x y => h b (by omega) (by omega)
theorem Same.trans {lo B : Nat} {w w' w2 : World} (h : Same lo B w w') (h' : Same lo B w' w2) : Same lo B w w2 := fun b x y => (h' b x y).trans (h b x y)
theorem Same.setCell {lo B : Nat} {w w' : World} (h : Same lo B w w') {p : Addr} (hp : p.block < lo ∨ B ≤ p.block) (u : Value) : Same lo B w (w'.setCell p u) := fun b x y => by
  rw [Below.heap_setCell _ _ _ _ (by omega)]; exact h b x y

/-- The terms k lie in block b from offset o on, all that they lead to in blocks from lo on below B. -/
def Row (w : World) (lo B : Nat) : Fo → Nat → Nat → Prop
  | .nil, _, _ => True
  | .node _ _ p k r, b, o => lo ≤ b ∧ b < B ∧ w.cell? ⟨b, o, none⟩ = some (.int .i64 p.1) ∧ w.cell? ⟨b, o + 1, none⟩ = some (.int .i64 p.2) ∧
      (∃ a c, w.cell? ⟨b, o + 2, none⟩ = some (.slice a (flen k) c) ∧ (k = .nil ∨ ∃ b' o', a = some ⟨b', o', none⟩ ∧ Row w lo B k b' o')) ∧ Row w lo B r b (o + 3)

/-- A slice's address at which the terms k lie. -/
def Sl (w : World) (lo B : Nat) (a : Option Addr) (k : Fo) : Prop := k = .nil ∨ ∃ b o, a = some ⟨b, o, none⟩ ∧ Row w lo B k b o

theorem Row.same {w w' : World} {lo B : Nat} (hb : Same lo B w w') : ∀ (k : Fo) (b o : Nat), Row w lo B k b o → Row w' lo B k b o
  | .nil, _, _, _ => trivial
  | .node _ _ p k r, b, o, ⟨hl, h0, h1, h2, ⟨a, c, h3, h4⟩, h5⟩ => by
    refine ⟨hl, h0, ?_, ?_, ⟨a, c, ?_, ?_⟩, Row.same hb r b (o + 3) h5⟩
    · rw [hb.cell hl h0]; exact h1
    · rw [hb.cell hl h0]; exact h2
    · rw [hb.cell hl h0]; exact h3
    · rcases h4 with h4 | ⟨b', o', e, h4⟩
      · exact .inl h4
      · exact .inr ⟨b', o', e, Row.same hb k b' o' h4⟩
theorem Row.below {w w' : World} {lo B : Nat} (hb : Below B w w') {k : Fo} {b o : Nat} (h : Row w lo B k b o) : Row w' lo B k b o := h.same (Same.of_below hb)

theorem Row.mono {w : World} {lo lo' B B' : Nat} (hlo : lo' ≤ lo) (hB : B ≤ B') : ∀ (k : Fo) (b o : Nat), Row w lo B k b o → Row w lo' B' k b o
  | .nil, _, _, _ => trivial
  | .node _ _ p k r, b, o, ⟨hl, h0, h1, h2, ⟨a, c, h3, h4⟩, h5⟩ => by
    refine ⟨by omega, by omega, h1, h2, ⟨a, c, h3, ?_⟩, Row.mono hlo hB r b (o + 3) h5⟩
    rcases h4 with h4 | ⟨b', o', e, h4⟩
    · exact .inl h4
    · exact .inr ⟨b', o', e, Row.mono hlo hB k b' o' h4⟩

theorem Sl.same {w w' : World} {lo B : Nat} {a : Option Addr} {k : Fo} (hb : Same lo B w w') (h : Sl w lo B a k) : Sl w' lo B a k := by
  rcases h with h | ⟨b, o, e, h⟩
  · exact .inl h
  · exact .inr ⟨b, o, e, h.same hb⟩
theorem Sl.below {w w' : World} {lo B : Nat} {a : Option Addr} {k : Fo} (hb : Below B w w') (h : Sl w lo B a k) : Sl w' lo B a k := h.same (Same.of_below hb)
theorem Sl.mono {w : World} {lo lo' B B' : Nat} {a : Option Addr} {k : Fo} (hlo : lo' ≤ lo) (hB : B ≤ B') (h : Sl w lo B a k) : Sl w lo' B' a k := by
  rcases h with h | ⟨b, o, e, h⟩
  · exact .inl h
  · exact .inr ⟨b, o, e, h.mono hlo hB⟩

def fdrop : Nat → Fo → Fo
  | 0, k => k
  | _ + 1, .nil => .nil
  | n + 1, .node _ _ _ _ r => fdrop n r

theorem row_drop {w : World} {lo B : Nat} : ∀ (i : Nat) (k : Fo) (b o : Nat), Row w lo B k b o → Row w lo B (fdrop i k) b (o + i * 3)
  | 0, _, _, _, h => by simpa [fdrop] using h
  | _ + 1, .nil, _, _, _ => trivial
  | n + 1, .node _ _ _ _ r, b, o, h => by
    have := row_drop n r b (o + 3) h.2.2.2.2.2
    rw [fdrop, show o + (n + 1) * 3 = o + 3 + n * 3 from by omega]
    exact this

theorem flen_drop : ∀ (i : Nat) (k : Fo), flen (fdrop i k) = flen k - i
  | 0, _ => by simp [fdrop]
  | _ + 1, .nil => by simp [fdrop, flen]
  | n + 1, .node _ _ _ _ r => by simp [fdrop, flen, flen_drop n r]

theorem fdrop_succ : ∀ (i : Nat) (k : Fo), i < flen k → ∃ b o s v kk, fdrop i k = .node b o (s, v) kk (fdrop (i + 1) k)
  | _, .nil, h => by simp [flen] at h
  | 0, .node b o (s, v) kk r, _ => ⟨b, o, s, v, kk, by simp [fdrop]⟩
  | n + 1, .node _ _ _ _ r, h => by
    obtain ⟨b, o, s, v, kk, e⟩ := fdrop_succ n r (by simp [flen] at h; omega)
    exact ⟨b, o, s, v, kk, by rw [fdrop, e]; rfl⟩

theorem flen_le_sz : ∀ k : Fo, flen k ≤ fsz k
  | .nil => Nat.le_refl _
  | .node _ _ _ _ r => by have := flen_le_sz r; simp [flen, fsz]; omega

/-- What the cells of kid i hold. -/
theorem row_at {w : World} {lo B : Nat} {k : Fo} {b o i : Nat} (h : Row w lo B k b o) (hi : i < flen k) :
    ∃ s v kk a c, (∃ x y, fdrop i k = .node x y (s, v) kk (fdrop (i + 1) k)) ∧ lo ≤ b ∧ b < B ∧ w.cell? ⟨b, o + i * 3, none⟩ = some (.int .i64 s) ∧ w.cell? ⟨b, o + i * 3 + 1, none⟩ = some (.int .i64 v) ∧
      w.cell? ⟨b, o + i * 3 + 2, none⟩ = some (.slice a (flen kk) c) ∧ Sl w lo B a kk := by
  obtain ⟨x, y, s, v, kk, e⟩ := fdrop_succ i k hi
  have h' := row_drop i k b o h
  rw [e] at h'
  obtain ⟨hl, h0, h1, h2, ⟨a, c, h3, h4⟩, h5⟩ := h'
  exact ⟨s, v, kk, a, c, ⟨x, y, e⟩, hl, h0, h1, h2, h3, h4⟩

theorem fdrop_all {i : Nat} {k : Fo} (h : flen k ≤ i) : fdrop i k = .nil := by
  cases hf : fdrop i k with
  | nil => rfl
  | node x y p kk r => have := flen_drop i k; rw [hf] at this; simp [flen] at this; omega

def ftake : Nat → Fo → Fo
  | 0, _ => .nil
  | _ + 1, .nil => .nil
  | n + 1, .node b o p k r => .node b o p k (ftake n r)
theorem ftake_all : ∀ (i : Nat) (k : Fo), flen k ≤ i → ftake i k = k
  | 0, .nil, _ => rfl
  | 0, .node _ _ _ _ _, h => by simp [flen] at h
  | _ + 1, .nil, _ => rfl
  | n + 1, .node _ _ _ _ r, h => by simp only [ftake]; rw [ftake_all n r (by simp [flen] at h; omega)]
theorem flen_take : ∀ (i : Nat) (k : Fo), i ≤ flen k → flen (ftake i k) = i
  | 0, _, _ => rfl
  | _ + 1, .nil, h => by simp [flen] at h
  | n + 1, .node _ _ _ _ r, h => by simp only [ftake, flen]; rw [flen_take n r (by simp [flen] at h; omega)]

end Go.Proofs.Ytoafleckcjanaaa

/-! Read: A term that came in as an argument, as the walks take it. -/
namespace Go.Proofs.Ytoafleckcjanaaa
open Go.ChangeShapes Go.WideShapes Go.RowKit Go.Deep Go.Joins

theorem add_none (b o n : Nat) : (⟨b, o, none⟩ : Addr).add n = ⟨b, o + n, none⟩ := by unfold Addr.add; split <;> simp_all

theorem Try.cellsTerm : Try.prog.cellsOf 25 = 3 := by kernel_rfl
theorem Try.cellsInt : Try.prog.cellsOf 3 = 1 := by kernel_rfl
theorem Try.cellsTerms : Try.prog.cellsOf 23 = 1 := by kernel_rfl

/-- No slice in it is longer than a slice can be. -/
def fcap : Fo → Prop
  | .nil => True
  | .node _ _ _ k r => flen k ≤ maxLen ∧ fcap k ∧ fcap r
theorem fcap_drop : ∀ (i : Nat) (k : Fo), fcap k → fcap (fdrop i k)
  | 0, _, h => h
  | _ + 1, .nil, h => h
  | n + 1, .node _ _ _ _ r, h => fcap_drop n r h.2.2

/-- Elements one by one: a row of terms. -/
theorem row_of_elems {w : World} {b o len : Nat} (h : ∀ i, i < len → ∃ s v a c k, w.cell? ⟨b, o + i * 3, none⟩ = some (.int .i64 s) ∧ w.cell? ⟨b, o + i * 3 + 1, none⟩ = some (.int .i64 v) ∧
      w.cell? ⟨b, o + i * 3 + 2, none⟩ = some (.slice a (flen k) c) ∧ Sl w 0 w.heap.size a k ∧ flen k ≤ maxLen ∧ fcap k) :
    ∀ m, m ≤ len → ∃ k, flen k = m ∧ fcap k ∧ Row w 0 w.heap.size k b (o + (len - m) * 3)
  | 0, _ => ⟨.nil, rfl, trivial, trivial⟩
  | m + 1, hm => by
    obtain ⟨r, hr, hrc, hrow⟩ := row_of_elems h m (by omega)
    obtain ⟨s, v, a, c, k, h0, h1, h2, hs, hk1, hk2⟩ := h (len - (m + 1)) (by omega)
    refine ⟨.node 0 0 (s, v) k r, by simp [flen, hr], ⟨hk1, hk2, hrc⟩, Nat.zero_le _, World.block_lt_of_cell? _ _ h0, h0, h1, ⟨a, c, h2, hs⟩, ?_⟩
    rw [show o + (len - (m + 1)) * 3 + 3 = o + (len - m) * 3 from by omega]
    exact hrow

set_option maxRecDepth 100000 in
theorem read_term {H : Type} {enc : TypeId × Value → H} {w : World} {sp : Nat → Bool} {hd : Bool} (fuel : Nat) : ∀ (cs : List Value) (x : DataW H × List MemPlace), DataW.trod enc Try.prog w 0 sp hd fuel 25 cs = some x →
    ∃ s v a c k, cs = [.int .i64 s, .int .i64 v, .slice a (flen k) c] ∧ Sl w 0 w.heap.size a k ∧ flen k ≤ maxLen ∧ fcap k := by
  induction fuel using Nat.strongRecOn with
  | _ fuel ih =>
    intro cs x h
    obtain ⟨xs, n, rfl, _, hlen, hxl, hf⟩ := DataW.trod_struct Try.underlying25 h
    rw [Try.cellsTerm] at hlen
    match cs, hlen with
    | [c0, c1, c2], _ =>
      have f0 : DataW.trod enc Try.prog w 0 sp hd n 3 (([c0, c1, c2].drop 0).take (Try.prog.cellsOf 3)) = xs[0]? := hf 0 _ rfl
      have f1 : DataW.trod enc Try.prog w 0 sp hd n 3 (([c0, c1, c2].drop 1).take (Try.prog.cellsOf 3)) = xs[1]? := hf 1 _ rfl
      have f2 : DataW.trod enc Try.prog w 0 sp hd n 23 (([c0, c1, c2].drop 2).take (Try.prog.cellsOf 23)) = xs[2]? := hf 2 _ rfl
      simp only [Try.cellsInt, Try.cellsTerms, List.drop_zero, List.take_succ_cons, List.take_zero, List.drop_succ_cons] at f0 f1 f2
      have hx0 : xs[0]? = some (xs[0]'(by rw [hxl]; decide)) := List.getElem?_eq_getElem _
      have hx1 : xs[1]? = some (xs[1]'(by rw [hxl]; decide)) := List.getElem?_eq_getElem _
      have hx2 : xs[2]? = some (xs[2]'(by rw [hxl]; decide)) := List.getElem?_eq_getElem _
      rw [hx0] at f0
      rw [hx1] at f1
      rw [hx2] at f2
      obtain ⟨s, e0, _, _⟩ := DataW.trod_int Try.underlying3 f0
      obtain ⟨v, e1, _, _⟩ := DataW.trod_int Try.underlying3 f1
      simp only [List.cons.injEq, and_true] at e0 e1
      subst e0 e1
      rcases DataW.trod_slice Try.underlying23 f2 with ⟨e2, _⟩ | ⟨a, len, cap, elems, rest, n', rfl, e2, _, _, hl, hcm, hel, hall, _⟩
      · simp only [List.cons.injEq, and_true] at e2
        subst e2
        exact ⟨s, v, none, 0, .nil, rfl, .inl rfl, Nat.zero_le _, trivial⟩
      · simp only [List.cons.injEq, and_true] at e2
        subst e2
        obtain ⟨b, o, spot⟩ := a
        rw [Try.cellsTerm] at hall
        by_cases hz : len = 0
        · subst hz
          exact ⟨s, v, _, cap, .nil, rfl, .inl rfl, Nat.zero_le _, trivial⟩
        have hsp : spot = none := by
          have h1 := hall 0 (by omega)
          have h2 : elems[0]? = some (elems[0]'(by omega)) := List.getElem?_eq_getElem _
          rw [h2] at h1
          obtain ⟨cs', hc, ht⟩ := Option.bind_eq_some_iff.1 h1
          obtain ⟨s', v', a', c', k', rfl, _⟩ := ih n' (by omega) cs' _ ht
          obtain ⟨_, _, hat⟩ := World.cells?_some hc
          have g0 := hat 0 (by omega)
          simpa [Addr.add] using World.cell?_spot g0
        subst hsp
        have key : ∀ i, i < len → ∃ s v a c k, w.cell? ⟨b, o + i * 3, none⟩ = some (.int .i64 s) ∧ w.cell? ⟨b, o + i * 3 + 1, none⟩ = some (.int .i64 v) ∧
            w.cell? ⟨b, o + i * 3 + 2, none⟩ = some (.slice a (flen k) c) ∧ Sl w 0 w.heap.size a k ∧ flen k ≤ maxLen ∧ fcap k := by
          intro i hi
          have h1 := hall i hi
          have h2 : elems[i]? = some (elems[i]'(by omega)) := List.getElem?_eq_getElem _
          rw [h2] at h1
          obtain ⟨cs', hc, ht⟩ := Option.bind_eq_some_iff.1 h1
          obtain ⟨s', v', a', c', k', rfl, hs, hk1, hk2⟩ := ih n' (by omega) cs' _ ht
          obtain ⟨_, _, hat⟩ := World.cells?_some hc
          have g0 := hat 0 (by omega)
          have g1 := hat 1 (by omega)
          have g2 := hat 2 (by omega)
          rw [add_none, add_none] at g0 g1 g2
          exact ⟨s', v', a', c', k', by simpa using g0, by simpa using g1, by simpa using g2, hs, hk1, hk2⟩
        obtain ⟨k, hk, hkc, hrow⟩ := row_of_elems key len (Nat.le_refl _)
        rw [Nat.sub_self, Nat.zero_mul, Nat.add_zero] at hrow
        exact ⟨s, v, _, cap, k, by rw [hk], .inr ⟨b, o, rfl, hrow⟩, by rw [hk]; omega, hkc⟩

end Go.Proofs.Ytoafleckcjanaaa

/-! Kit: Regions that draw their order, walked once where all that they do leaves old memory alone. No condition. -/
namespace Go.Proofs.Ytoafleckcjanaaa
open Go.RowKit

/-- A world in which all blocks below B are as in w. -/
structure After (B : Nat) (w : World) where
  world : World
  below : Below B w world

theorem After.some_world (B : Nat) (w : World) : Nonempty (After B w) := ⟨⟨w, Below.refl B w⟩⟩
attribute [instance] After.some_world

theorem After.cell {B : Nat} {w : World} (u : After B w) {a : Addr} {v : Value} (hb : a.block < B) (h : w.cell? a = some v) : u.world.cell? a = some v := by
  rw [u.below.cell hb]; exact h

theorem wp_region_after {P : Program} {id : Nat} {Q : Exit → Act → World → Prop} {a : Act} {w : World} {l : List Oper} (B : Nat) (hm : P.follows .mixedOrders = true) (hB : Region.lexB .any l.toArray = true)
    (h : wpQuiet P l.toArray (fun w' => ∃ u : After B w, w' = u.world) (fun a' => ∀ w', (∃ u : After B w, w' = u.world) → Q .normal a' w') l a) : (Code.region id l.toArray true).wp P Q a w :=
  wp_region_quiet (C := fun w' => ∃ u : After B w, w' = u.world) hm hB ⟨⟨{ w with drawn := w.drawn + 1 }, (Below.refl B w).drew⟩, rfl⟩ (by simpa using h)

theorem Calls.after {P : Program} {f : FuncId} {args : Array Value} {B : Nat} {w : World} {u : After B w} {v : Value} (hB : B ≤ u.world.heap.size)
    (h : Calls P f args u.world fun e w' => e = .returned v ∧ Below u.world.heap.size u.world w') : Calls P f args u.world fun e w' => e = .returned v ∧ ∃ u' : After B w, w' = u'.world :=
  h.mono fun _ w' ⟨he, hb⟩ => ⟨he, ⟨w', u.below.trans (hb.mono hB)⟩, rfl⟩

theorem Calls.after_same {P : Program} {f : FuncId} {args : Array Value} {B : Nat} {w : World} {u : After B w} {v : Value}
    (h : Calls P f args u.world fun e w' => e = .returned v ∧ u.world = w') : Calls P f args u.world fun e w' => e = .returned v ∧ ∃ u' : After B w, w' = u'.world :=
  h.mono fun _ _ ⟨he, hb⟩ => ⟨he, u, hb.symm⟩

end Go.Proofs.Ytoafleckcjanaaa

/-! XA: szTerm, szTermS: how many terms there are below a term, as long as there are not too many. -/
namespace Go.Proofs.Ytoafleckcjanaaa
open Go.RowKit Go.Deep

def szR (k : Fo) (left : Int) : Int := if (fsz k : Int) ≤ left then left - fsz k else -1
/-- .. with the terms r still to be looked below. -/
def szG (r : Fo) (l : Int) : Int := if (fsz r : Int) - flen r ≤ l then l - ((fsz r : Int) - flen r) else -1

theorem flen_le {k : Fo} : flen k ≤ fsz k := by
  induction k with
  | nil => exact Nat.le_refl _
  | node _ _ _ k r _ ih => simp only [flen, fsz]; omega
theorem szR_start (k : Fo) (left : Int) : szR k left = szG k (left - flen k) := by
  have := flen_le (k := k)
  unfold szR szG
  split <;> split <;> omega
theorem szR_over {k : Fo} {left : Int} (h : left < flen k) : szR k left = -1 := by
  have := flen_le (k := k)
  unfold szR
  rw [if_neg (by omega)]
theorem szG_node (x y : Nat) (p : Int × Int) (kk r : Fo) : (fsz (.node x y p kk r) : Int) - flen (.node x y p kk r) = fsz kk + ((fsz r : Int) - flen r) := by
  have e1 : fsz (.node x y p kk r) = fsz kk + fsz r + 1 := rfl
  have e2 : flen (.node x y p kk r) = flen r + 1 := rfl
  rw [e1, e2]
  omega
theorem szG_step {x y : Nat} {p : Int × Int} {kk r : Fo} {l : Int} (_h : (fsz kk : Int) ≤ l) : szG (.node x y p kk r) l = szG r (l - fsz kk) := by
  unfold szG
  rw [szG_node]
  split <;> split <;> omega
theorem szG_over {x y : Nat} {p : Int × Int} {kk r : Fo} {l : Int} (h : l < (fsz kk : Int)) : szG (.node x y p kk r) l = -1 := by
  have := flen_le (k := r)
  unfold szG
  rw [szG_node, if_neg (by omega)]
theorem szG_nil {l : Int} (h : 0 ≤ l) : szG .nil l = l := by
  unfold szG
  simp [fsz, flen, h]
theorem fsz_drop' : ∀ (i : Nat) (k : Fo), fsz (fdrop i k) ≤ fsz k
  | 0, _ => Nat.le_refl _
  | _ + 1, .nil => Nat.le_refl _
  | n + 1, .node _ _ _ _ r => by have := fsz_drop' n r; simp only [fdrop, fsz]; omega
theorem fsz_kid' {i : Nat} {k : Fo} {x y : Nat} {p : Int × Int} {kk r : Fo} (h : fdrop i k = .node x y p kk r) : fsz kk < fsz k := by
  have := fsz_drop' i k
  rw [h] at this
  simp only [fsz] at this
  omega
theorem sub_neg {left : Int} {n : Nat} (h0 : 0 ≤ left) (h1 : left ≤ 1048576) (h2 : 1048576 < n) (h3 : n ≤ maxLen) : decide (wrap64 (left - (n : Int)) < 0) = true := by
  unfold maxLen at h3
  have : wrap64 (left - (n : Int)) = left - n := by
    unfold wrap64
    omega
  rw [this]
  exact decide_eq_true (by omega)

theorem box_lowX {w w' : World} {o : Obj} (h : Below (w.heap.size + 1) (w.alloc o) w') : Below w.heap.size w w' :=
  ((Below.refl _ _).alloc (Nat.le_refl _) o).trans (h.mono (Nat.le_succ _))

/-- szTerm out of szTermS. -/
theorem szTerm_of (s v : Int) (a : Option Addr) (n c : Nat) (left z : Int) (w : World) (hz : z = -1 ∨ 0 ≤ z)
    (hS : ∀ w1, Below w.heap.size w w1 → Calls Try.prog 42 #[.slice a n c, .int .i64 left] w1 fun e w' => e = .returned (.int .i64 z) ∧ Below w1.heap.size w1 w') :
    Calls Try.prog 11 #[.agg #[.int .i64 s, .int .i64 v, .slice a n c], .int .i64 left] w fun e w' => e = .returned (.int .i64 z) ∧ Below w.heap.size w w' := by
  have HS := Lib.hid hS
  clear hS
  rcases hz with rfl | hz
  all_goals
    go_enter Try.func11, Try.ntmps11
    go_wp2_with fail
    with_reducible refine (HS.out _ ((Below.refl _ _).alloc (Nat.le_refl _) _)).mono ?_
    rintro e w1 ⟨rfl, hb⟩
    have HB := Lib.hid (((Below.refl w.heap.size w).alloc (Nat.le_refl _) _).trans (hb.mono (by simp)))
    clear hb
    go_wp2_with fail
    go_ret
    exact ⟨rfl, HB.out⟩
theorem szR_case (k : Fo) (left : Int) : szR k left = -1 ∨ 0 ≤ szR k left := by unfold szR; split <;> omega

set_option maxRecDepth 100000 in
set_option maxHeartbeats 1000000 in
theorem szTermS_any (N : Nat) : ∀ (a : Option Addr) (c : Nat) (k : Fo) (left : Int) (w : World), Sl w 0 w.heap.size a k → fcap k → flen k ≤ maxLen → fsz k ≤ N → 0 ≤ left → left ≤ 1048576 →
    Calls Try.prog 42 #[.slice a (flen k) c, .int .i64 left] w fun e w' => e = .returned (.int .i64 (szR k left)) ∧ Below w.heap.size w w' := by
  induction N using Nat.strongRecOn with
  | _ N ih =>
    intro a c k left w hl hfc hml hN h0 h1
    have IH := Lib.hid ih
    clear ih
    by_cases hbig : 1048576 < flen k
    · have hneg := sub_neg h0 h1 hbig hml
      have HE : Hid (szR k left = -1) := szR_over (by omega)
      clear hml
      go_enter Try.func42, Try.ntmps42
      go_wp2_with fail
      go_ret
      exact ⟨by rw [HE.out]; rfl, Below.refl _ _⟩
    clear hml
    by_cases hov : left < flen k
    · have HE : Hid (szR k left = -1) := szR_over hov
      go_enter Try.func42, Try.ntmps42
      go_wp2_with fail
      go_ret
      exact ⟨by rw [HE.out]; rfl, Below.refl _ _⟩
    have HST := Lib.hid (szR_start k left)
    have HFC := Lib.hid hfc
    clear hfc
    go_enter Try.func42, Try.ntmps42
    go_wp2_with fail
    go_loopw [1, 5] (fun t i wr => ∃ (j : Nat) (l : Int), j ≤ flen k ∧ i = .int .i64 j ∧ t = .int .i64 l ∧ 0 ≤ l ∧ l ≤ 1048576 ∧ Hid (szR k left = szG (fdrop j k) l) ∧ Below w.heap.size w wr) (fun _ i _ => flen k - (intOf i).toNat)
    case atStart => exact ⟨0, left - flen k, by omega, rfl, rfl, by omega, by omega, HST, Below.refl _ _⟩
    case round =>
      clear HST
      obtain ⟨j, l, hj, rfl, rfl, hl0, hl1, hsz, hbl⟩ := hrel
      by_cases hlt : j < flen k
      · rcases hl with rfl | ⟨b, o, rfl, hrow⟩
        · simp [flen] at hlt
        obtain ⟨s', v', kk, a', c', ⟨x, y, hd⟩, _, hbB, hk0, hk1, hk2, hsl⟩ := row_at (hrow.below hbl) hlt
        have hkN := fsz_kid' hd
        have hkc := fcap_drop j k HFC.out
        rw [hd] at hkc
        have HSZ : Hid (szR k left = szG (.node x y (s', v') kk (fdrop (j + 1) k)) l) := by rw [← hd]; exact hsz
        have HS := Lib.hid hsl
        have HKC : Hid (flen kk ≤ maxLen ∧ fcap kk) := ⟨hkc.1, hkc.2.1⟩
        have HBL := Lib.hid hbl
        have hbs := hbl.size
        clear hd hsl hrow hbl hsz hkc
        go_wp2_with fail
        with_reducible refine (szTerm_of s' v' a' (flen kk) c' l (szR kk l) _ (szR_case _ _) ?_).mono ?_
        · intro w1 hb1
          refine IH.out (fsz kk) (by omega) a' c' kk l w1 ?_ HKC.out.2 HKC.out.1 (Nat.le_refl _) hl0 hl1
          exact (HS.out.below (hb1.mono hbs)).mono (Nat.le_refl _) (Nat.le_trans hbs hb1.size)
        rintro e w2 ⟨rfl, hb2⟩
        have HB2 := Lib.hid (HBL.out.trans (hb2.mono hbs))
        clear hb2
        by_cases hok : (fsz kk : Int) ≤ l
        · have he : szR kk l = l - fsz kk := by unfold szR; rw [if_pos hok]
          rw [he]
          clear he
          have HSZ2 : Hid (szR k left = szG (fdrop (j + 1) k) (l - fsz kk)) := by rw [Hid, HSZ.out]; exact szG_step hok
          go_wp2_with fail
          go_roundw
          case rel => exact ⟨j + 1, _, by omega, by go_num, rfl, by omega, by omega, HSZ2, HB2.out⟩
          case measure => simp [intOf]; omega
        · have he : szR kk l = -1 := by unfold szR; rw [if_neg hok]
          rw [he]
          clear he
          have HSZ2 : Hid (szR k left = -1) := by rw [Hid, HSZ.out]; exact szG_over (by omega)
          go_wp2_with fail
          go_ret
          exact ⟨by rw [HSZ2.out]; rfl, HB2.out⟩
      · have HE : Hid (szR k left = l) := by
          rw [Hid, hsz.out, fdrop_all (by omega)]
          exact szG_nil hl0
        clear hsz
        go_wp2_with fail
        go_ret
        exact ⟨by rw [HE.out]; rfl, hbl⟩
end Go.Proofs.Ytoafleckcjanaaa

/-! XB: toTerm, toTermS: a term copied into the program's own type. -/
namespace Go.Proofs.Ytoafleckcjanaaa
open Go.RowKit Go.Deep

def ToPost (s v : Int) (k : Fo) (w : World) (e : Ending) (w' : World) : Prop :=
  ∃ a c, e = .returned (.agg #[.int .i64 s, .int .i64 v, .slice a (flen k) c]) ∧ Below w.heap.size w w' ∧ Sl w' w.heap.size w'.heap.size a k
def TosPost (k : Fo) (w : World) (e : Ending) (w' : World) : Prop :=
  ∃ a c, e = .returned (.slice a (flen k) c) ∧ Below w.heap.size w w' ∧ Sl w' w.heap.size w'.heap.size a k

theorem to_end {w w1 : World} {s v : Int} {k : Fo} {a : Option Addr} {c : Nat} {n : Nat} (hn : n = w.heap.size) (hb : Below n w w1) (hl : Sl w1 (n + 3) w1.heap.size a k) (u x y z : Value) :
    ToPost s v k w (.returned (.agg #[.int .i64 s, .int .i64 v, .slice a (flen k) c])) ((((w1.setCell ⟨n + 1 + 1, 2, none⟩ u).setCell ⟨n + 1, 0, none⟩ x).setCell ⟨n + 1, 1, none⟩ y).setCell ⟨n + 1, 2, none⟩ z) := by
  subst hn
  refine ⟨a, c, rfl, (((hb.setCell (by simp; omega) _).setCell (by simp) _).setCell (by simp) _).setCell (by simp) _, ?_⟩
  have hs : Same (w.heap.size + 3) w1.heap.size w1 ((((w1.setCell ⟨w.heap.size + 1 + 1, 2, none⟩ u).setCell ⟨w.heap.size + 1, 0, none⟩ x).setCell ⟨w.heap.size + 1, 1, none⟩ y).setCell ⟨w.heap.size + 1, 2, none⟩ z) :=
    ((((Same.setCell (fun _ _ _ => rfl) (.inl (by simp)) _).setCell (.inl (by simp)) _).setCell (.inl (by simp)) _).setCell (.inl (by simp)) _)
  exact (hl.same hs).mono (by omega) (by simp)

set_option maxRecDepth 100000 in
set_option maxHeartbeats 1000000 in
/-- toTerm out of toTermS. -/
theorem toTerm_of (s v : Int) (a : Option Addr) (c : Nat) (k : Fo) (w : World)
    (hS : ∀ w1, Below w.heap.size w w1 → Calls Try.prog 55 #[.slice a (flen k) c] w1 (TosPost k w1)) :
    Calls Try.prog 15 #[.agg #[.int .i64 s, .int .i64 v, .slice a (flen k) c]] w (ToPost s v k w) := by
  have HS := Lib.hid hS
  clear hS
  go_enter Try.func15, Try.ntmps15
  go_wp2_with fail
  with_reducible refine (HS.out _ ?_).mono ?_
  · exact ((((Below.refl _ _).alloc (Nat.le_refl _) _).alloc (by simp) _).alloc (by simp; omega) _)
  rintro e w1 ⟨a1, c1, rfl, hb, hl⟩
  have hs1 := hb.size
  simp at hs1
  have hlow : ∀ {q : Addr} {u : Value}, (((w.alloc (.cells #[.int .i64 s, .int .i64 v, .slice a (flen k) c] 25)).alloc (.cells #[.int .i64 0, .int .i64 0, .slice none 0 0] 35)).alloc (.cells #[.int .i64 s, .int .i64 v, .slice none 0 0] 35)).cell? q = some u → w1.cell? q = some u := fun h => by
    rw [hb.cell (World.block_lt_of_cell? _ _ h)]; exact h
  have hc0 := hlow (q := ⟨w.heap.size + 1 + 1, 0, none⟩) (u := .int .i64 s) (by rw [World.cell?_alloc_at _ _ _ _ (by simp)]; rfl)
  have hc1 := hlow (q := ⟨w.heap.size + 1 + 1, 1, none⟩) (u := .int .i64 v) (by rw [World.cell?_alloc_at _ _ _ _ (by simp)]; rfl)
  have hc2 := hlow (q := ⟨w.heap.size + 1 + 1, 2, none⟩) (u := .slice none 0 0) (by rw [World.cell?_alloc_at _ _ _ _ (by simp)]; rfl)
  have hr0 := hlow (q := ⟨w.heap.size + 1, 0, none⟩) (u := .int .i64 0) (by rw [World.cell?_alloc_lt _ _ _ (by simp), World.cell?_alloc_at _ _ _ _ (by simp)]; rfl)
  have hr1 := hlow (q := ⟨w.heap.size + 1, 1, none⟩) (u := .int .i64 0) (by rw [World.cell?_alloc_lt _ _ _ (by simp), World.cell?_alloc_at _ _ _ _ (by simp)]; rfl)
  have hr2 := hlow (q := ⟨w.heap.size + 1, 2, none⟩) (u := .slice none 0 0) (by rw [World.cell?_alloc_lt _ _ _ (by simp), World.cell?_alloc_at _ _ _ _ (by simp)]; rfl)
  have hf2 : w1.frozen? ⟨w.heap.size + 1 + 1, 2, none⟩ = false := by rw [hb.frozen (by simp), World.frozen?_alloc_at _ _ _ _ (by simp)]
  have hg0 : w1.frozen? ⟨w.heap.size + 1, 0, none⟩ = false := by rw [hb.frozen (by simp), World.frozen?_alloc_past _ _ _ (by simp), World.frozen?_alloc_at _ _ _ _ (by simp)]
  have hg1 : w1.frozen? ⟨w.heap.size + 1, 1, none⟩ = false := by rw [hb.frozen (by simp), World.frozen?_alloc_past _ _ _ (by simp), World.frozen?_alloc_at _ _ _ _ (by simp)]
  have hg2 : w1.frozen? ⟨w.heap.size + 1, 2, none⟩ = false := by rw [hb.frozen (by simp), World.frozen?_alloc_past _ _ _ (by simp), World.frozen?_alloc_at _ _ _ _ (by simp)]
  have HB : Hid (Below w.heap.size w w1) := ((((Below.refl w.heap.size w).alloc (Nat.le_refl _) _).alloc (by simp) _).alloc (by simp; omega) _).trans (hb.mono (by simp; omega))
  have HL : Hid (Sl w1 (w.heap.size + 3) w1.heap.size a1 k) := hl.mono (by simp) (Nat.le_refl _)
  clear hb hl hlow
  go_wp2_with fail
  refine bodyPost_ret (v := .agg #[.int .i64 s, .int .i64 v, .slice a1 (flen k) c1]) ?_ rfl (to_end rfl HB.out HL.out _ _ _ _)
  simp [results, Try.results15, go_sem, hr0, hr1, hr2]

theorem Try.infoTermX : ∃ i, Try.prog.info? 35 = some i ∧ i.zero = some (.agg #[.int .i64 0, .int .i64 0, .slice none 0 0]) ∧ i.size = 3 ∧ i.bytes = 40 := by
  have h : (Try.prog.info? 35).map (fun i => (i.zero, i.size, i.bytes)) = some (some (.agg #[.int .i64 0, .int .i64 0, .slice none 0 0]), 3, 40) := by kernel_rfl
  obtain ⟨i, hi, hz⟩ := Option.map_eq_some_iff.1 h
  simp only [Prod.mk.injEq] at hz
  exact ⟨i, hi, hz.1, hz.2.1, hz.2.2⟩
theorem make_terms (n : Nat) (hn : n ≤ 1048576) (w : World) :
    (Instr.makeSlice 33 (.int .i64 (n : Int)) (.int .i64 (n : Int))).run Try.prog w = .ok (.slice (some ⟨w.heap.size, 0, none⟩) n n) (w.alloc (.cells (madeCells #[.int .i64 0, .int .i64 0, .slice none 0 0] (n * 3)) 35)) := by
  obtain ⟨i, hi, hz, hs, hb⟩ := Try.infoTermX
  have := run_make (P := Try.prog) w 33 35 i _ Try.underlying33 hi hz .i64 .i64 (n : Int) (n : Int) (by omega) (by omega) (by rw [hb]; omega) (by omega)
  rw [hs] at this
  simpa [Value.cells] using this
theorem made_at (n i : Nat) (z : Array Value) (h : i < n) : (madeCells z n)[i]? = some (z[i % z.size]!) := by simp [madeCells, h]

/-- What holds at the head of toTermS's loop. -/
structure ToAt (w : World) (k : Fo) (j : Nat) (wr : World) : Prop where
  below : Below w.heap.size w wr
  size : w.heap.size < wr.heap.size
  row : ∃ f : Nat → Value, wr.rowIs w.heap.size 35 (flen k * 3) f ∧ ∀ i, i < j → ∃ x y s v kk a c, fdrop i k = .node x y (s, v) kk (fdrop (i + 1) k) ∧
    f (i * 3) = .int .i64 s ∧ f (i * 3 + 1) = .int .i64 v ∧ f (i * 3 + 2) = .slice a (flen kk) c ∧ Sl wr (w.heap.size + 1) wr.heap.size a kk

theorem ToAt.start (w : World) (k : Fo) : ToAt w k 0 (w.alloc (.cells (madeCells #[.int .i64 0, .int .i64 0, .slice none 0 0] (flen k * 3)) 35)) := by
  refine ⟨(Below.refl _ _).alloc (Nat.le_refl _) _, by simp, ⟨fun i => #[Value.int .i64 0, .int .i64 0, .slice none 0 0][i % 3]!, ?_, fun i hi => by omega⟩⟩
  have := World.rowIs_alloc w (madeCells #[.int .i64 0, .int .i64 0, .slice none 0 0] (flen k * 3)) 35 (fun i => #[Value.int .i64 0, .int .i64 0, .slice none 0 0][i % 3]!) (fun i hi => by
    rw [size_madeCells] at hi
    exact made_at _ _ _ hi)
  rw [size_madeCells] at this
  exact this
theorem ToAt.step {w wr w2 : World} {k : Fo} {j x y : Nat} {s v : Int} {kk : Fo} {a : Option Addr} {c : Nat} (h : ToAt w k j wr) (hd : fdrop j k = .node x y (s, v) kk (fdrop (j + 1) k)) (hb : Below wr.heap.size wr w2) (hl : Sl w2 wr.heap.size w2.heap.size a kk) :
    ToAt w k (j + 1) (((w2.setCell ⟨w.heap.size, j * 3, none⟩ (.int .i64 s)).setCell ⟨w.heap.size, j * 3 + 1, none⟩ (.int .i64 v)).setCell ⟨w.heap.size, j * 3 + 2, none⟩ (.slice a (flen kk) c)) := by
  have hs := h.size
  have hs2 := hb.size
  obtain ⟨f, hf, hall⟩ := h.row
  have hf2 := hf.of_block (hb.block _ hs)
  have hsame : ∀ {L H : Nat}, w.heap.size < L → Same L H w2 (((w2.setCell ⟨w.heap.size, j * 3, none⟩ (.int .i64 s)).setCell ⟨w.heap.size, j * 3 + 1, none⟩ (.int .i64 v)).setCell ⟨w.heap.size, j * 3 + 2, none⟩ (.slice a (flen kk) c)) := fun hL =>
    ((Same.setCell (fun _ _ _ => rfl) (.inl hL) _).setCell (.inl hL) _).setCell (.inl hL) _
  refine ⟨(((h.below.trans (hb.mono (by omega))).setCell (by simp) _).setCell (by simp) _).setCell (by simp) _, by simp; omega, ⟨_, ((hf2.set _ _).set _ _).set _ _, fun i hi => ?_⟩⟩
  by_cases hij : i = j
  · subst hij
    exact ⟨x, y, s, v, kk, a, c, hd, by simp, by simp, by simp, (hl.same (hsame (by omega))).mono (by omega) (by simp)⟩
  · obtain ⟨x', y', s', v', k', a', c', e, h0, h1, h2, hsl⟩ := hall i (by omega)
    refine ⟨x', y', s', v', k', a', c', e, ?_, ?_, ?_, ((hsl.same (fun b h1 h2 => hb.block b h2)).same (hsame (by omega))).mono (Nat.le_refl _) (by simp; omega)⟩
    · rw [if_neg (by omega), if_neg (by omega), if_neg (by omega)]; exact h0
    · rw [if_neg (by omega), if_neg (by omega), if_neg (by omega)]; exact h1
    · rw [if_neg (by omega), if_neg (by omega), if_neg (by omega)]; exact h2
theorem ToAt.sl {w wr : World} {k : Fo} {j : Nat} (h : ToAt w k j wr) (hj : flen k ≤ j) : Sl wr w.heap.size wr.heap.size (some ⟨w.heap.size, 0, none⟩) k := by
  obtain ⟨f, hf, hall⟩ := h.row
  have hrow : ∀ (k' : Fo) (o : Nat), (∀ i, i < flen k' → ∃ x y s v kk a c, fdrop i k' = .node x y (s, v) kk (fdrop (i + 1) k') ∧ wr.cell? ⟨w.heap.size, o + i * 3, none⟩ = some (.int .i64 s) ∧ wr.cell? ⟨w.heap.size, o + i * 3 + 1, none⟩ = some (.int .i64 v) ∧
      wr.cell? ⟨w.heap.size, o + i * 3 + 2, none⟩ = some (.slice a (flen kk) c) ∧ Sl wr w.heap.size wr.heap.size a kk) → Row wr w.heap.size wr.heap.size k' w.heap.size o := by
    intro k'
    induction k' with
    | nil => intro o _; trivial
    | node x y p kk r _ ih =>
      intro o h'
      obtain ⟨x', y', s, v, kk', a, c, e, c0, c1, c2, hs⟩ := h' 0 (by simp [flen])
      simp only [fdrop, BT.node.injEq] at e
      obtain ⟨_, _, rfl, rfl, _⟩ := e
      refine ⟨Nat.le_refl _, h.size, by simpa using c0, by simpa using c1, ⟨a, c, by simpa using c2, hs⟩, ih (o + 3) fun i hi => ?_⟩
      obtain ⟨x', y', s, v, kk', a, c, e, c0, c1, c2, hs⟩ := h' (i + 1) (by simp [flen]; omega)
      have e3 : o + 3 + i * 3 = o + (i + 1) * 3 := by omega
      exact ⟨x', y', s, v, kk', a, c, e, by rw [e3]; exact c0, by rw [e3]; exact c1, by rw [e3]; exact c2, hs⟩
  refine .inr ⟨_, 0, rfl, hrow k 0 fun i hi => ?_⟩
  obtain ⟨x, y, s, v, kk, a, c, e, h0, h1, h2, hs⟩ := hall i (by omega)
  refine ⟨x, y, s, v, kk, a, c, e, ?_, ?_, ?_, hs.mono (by omega) (Nat.le_refl _)⟩
  · rw [Nat.zero_add, ← h0]; exact hf.cell (by omega)
  · rw [Nat.zero_add, ← h1]; exact hf.cell (by omega)
  · rw [Nat.zero_add, ← h2]; exact hf.cell (by omega)

set_option maxRecDepth 100000 in
set_option maxHeartbeats 1000000 in
theorem toTermS_any (N : Nat) : ∀ (a : Option Addr) (c : Nat) (k : Fo) (w : World), Sl w 0 w.heap.size a k → fsz k ≤ N → N ≤ 1048576 →
    Calls Try.prog 55 #[.slice a (flen k) c] w (TosPost k w) := by
  induction N using Nat.strongRecOn with
  | _ N ih =>
    intro a c k w hl hN hN2
    have hfl := flen_le (k := k)
    have IH := Lib.hid ih
    clear ih
    have hmk := make_terms (flen k) (by omega)
    have HST := Lib.hid (ToAt.start w k)
    go_enter Try.func55, Try.ntmps55
    go_wp2_with fail
    clear hmk
    go_loopw [4] (fun i wr => ∃ j : Nat, j ≤ flen k ∧ i = .int .i64 j ∧ ToAt w k j wr) (fun i _ => flen k - (intOf i).toNat)
    case atStart => exact ⟨0, by omega, rfl, HST.out⟩
    case round =>
      clear HST
      obtain ⟨j, hj, rfl, hat⟩ := hrel
      have hsr := hat.size
      by_cases hlt : j < flen k
      · rcases hl with rfl | ⟨b, o, rfl, hrow⟩
        · simp [flen] at hlt
        obtain ⟨s', v', kk, a', c', ⟨x, y, hd⟩, _, hbB, hk0, hk1, hk2, hsl⟩ := row_at (hrow.below hat.below) hlt
        have hkN := fsz_kid' hd
        have HD := Lib.hid hd
        have HS := Lib.hid hsl
        have HAT := Lib.hid hat
        clear hd hsl hrow hat
        go_wp2_with fail
        with_reducible refine (toTerm_of s' v' a' c' kk _ ?_).mono ?_
        · intro w1 hb1
          refine IH.out (fsz kk) (by omega) a' c' kk w1 ?_ (Nat.le_refl _) (by omega)
          exact (HS.out.below (hb1.mono (by omega))).mono (Nat.le_refl _) (by have := hb1.size; omega)
        rintro e w2 ⟨a2, c2, rfl, hb2, hl2⟩
        obtain ⟨f, hf, _⟩ := HAT.out.row
        have hf2 := hf.of_block (hb2.block _ hsr)
        have hg0 := hf2.cell (i := j * 3) (by omega)
        have hg1 := hf2.cell (i := j * 3 + 1) (by omega)
        have hg2 := hf2.cell (i := j * 3 + 2) (by omega)
        have hz0 := hf2.frozen (j * 3)
        have hz1 := hf2.frozen (j * 3 + 1)
        have hz2 := hf2.frozen (j * 3 + 2)
        have HSTEP := Lib.hid (HAT.out.step (c := c2) HD.out hb2 hl2)
        clear hf hf2 hb2 hl2 hk0 hk1 hk2
        go_wp2_with fail
        go_roundw
        case rel => exact ⟨j + 1, by omega, by go_num, HSTEP.out⟩
        case measure => simp [intOf]; omega
      · have HE : Hid (TosPost k w (.returned (.slice (some ⟨w.heap.size, 0, none⟩) (flen k) (flen k))) wr) := ⟨_, _, rfl, hat.below, hat.sl (by omega)⟩
        clear hat
        go_wp2_with fail
        go_ret
        exact HE.out
end Go.Proofs.Ytoafleckcjanaaa
