/- Several texts in one: Base, WA, Kit, WB, Node, NodeC. -/
import Derived.Deep.Trees
import Derived.WalkKit
import Derived.Test.YtbnbogdglffkmaaGreatDoorRows
import Derived.WalkSpells
import Derived.WalkLawsBesides
import Derived.Lib.Hide
import Derived.BigQuiet

/-! Base: Terms as plain data, and what it means that one lies in memory. No condition: definitions and plain lemmas. -/
namespace Go.Proofs.YtbnbogdglffkmaaGreatDoor
open Go.RowKit Go.Deep

/-- A list of terms: a term's sign and variable, its kids, the terms behind it. -/
abbrev Fo := BT (Int × Int)

def flen : Fo → Nat
  | .nil => 0
  | .node _ _ _ _ r => flen r + 1
def fsz : Fo → Nat
  | .nil => 0
  | .node _ _ _ k r => fsz k + fsz r + 1
/-- How many kids a sign asks for. -/
def ar (s : Int) : Int := if s = 0 ∨ s = 1 ∨ s = 2 then 0 else if s = 3 then 1 else if s = 4 then 2 else -1
def okN (s v : Int) (n : Nat) : Bool := decide ((n : Int) = ar s ∧ (s = 0 → 0 ≤ v ∧ v ≤ 11) ∧ (s ≠ 0 → v = 0))
def fok : Fo → Bool
  | .nil => true
  | .node _ _ p k r => okN p.1 p.2 (flen k) && fok k && fok r

/-- The blocks from lo on below B are as they were. -/
def Same (lo B : Nat) (w w' : World) : Prop := ∀ b, lo ≤ b → b < B → w'.heap[b]? = w.heap[b]?

theorem Same.of_below {lo B : Nat} {w w' : World} (h : Below B w w') : Same lo B w w' := fun b _ hb => h.block b hb
theorem Same.cell {lo B : Nat} {w w' : World} (h : Same lo B w w') {p : Addr} (h1 : lo ≤ p.block) (h2 : p.block < B) : w'.cell? p = w.cell? p := World.cell?_of_block (w := w) (h p.block h1 h2)
theorem Same.mono {lo B lo' B' : Nat} {w w' : World} (h : Same lo B w w') (h1 : lo ≤ lo') (h2 : B' ≤ B) : Same lo' B' w w' := fun b x y => h b (by omega) (by omega)
theorem Same.trans {lo B : Nat} {w w' w2 : World} (h : Same lo B w w') (h' : Same lo B w' w2) : Same lo B w w2 := fun b x y => (h' b x y).trans (h b x y)
theorem Same.setCell {lo B : Nat} {w w' : World} (h : Same lo B w w') {p : Addr} (hp : p.block < lo ∨ B ≤ p.block) (u : Value) : Same lo B w (w'.setCell p u) := fun b x y => by
  rw [Below.heap_setCell _ _ _ _ (by omega)]; exact h b x y

/-- The terms k lie in block b from offset o on, all that they lead to in blocks from lo on below B. -/
def Row (w : World) (lo B : Nat) : Fo → Nat → Nat → Prop
  | .nil, _, _ => True
  | .node _ _ p k r, b, o => lo ≤ b ∧ b < B ∧ w.cell? ⟨b, o, none⟩ = some (.int .i64 p.1) ∧ w.cell? ⟨b, o + 1, none⟩ = some (.int .i64 p.2) ∧
      (∃ a c, w.cell? ⟨b, o + 2, none⟩ = some (.slice a (flen k) c) ∧ (k = .nil ∨ ∃ b' o', a = some ⟨b', o', none⟩ ∧ Row w lo B k b' o')) ∧ Row w lo B r b (o + 3)

/-- A slice's address at which the terms k lie. -/
def Sl (w : World) (lo B : Nat) (a : Option Addr) (k : Fo) : Prop := k = .nil ∨ ∃ b o, a = some ⟨b, o, none⟩ ∧ Row w lo B k b o

theorem Row.same {w w' : World} {lo B : Nat} (hb : Same lo B w w') : ∀ (k : Fo) (b o : Nat), Row w lo B k b o → Row w' lo B k b o
  | .nil, _, _, _ => trivial
  | .node _ _ p k r, b, o, ⟨hl, h0, h1, h2, ⟨a, c, h3, h4⟩, h5⟩ => by
    refine ⟨hl, h0, ?_, ?_, ⟨a, c, ?_, ?_⟩, Row.same hb r b (o + 3) h5⟩
    · rw [hb.cell hl h0]; exact h1
    · rw [hb.cell hl h0]; exact h2
    · rw [hb.cell hl h0]; exact h3
    · rcases h4 with h4 | ⟨b', o', e, h4⟩
      · exact .inl h4
      · exact .inr ⟨b', o', e, Row.same hb k b' o' h4⟩
theorem Row.below {w w' : World} {lo B : Nat} (hb : Below B w w') {k : Fo} {b o : Nat} (h : Row w lo B k b o) : Row w' lo B k b o := h.same (Same.of_below hb)

theorem Row.mono {w : World} {lo lo' B B' : Nat} (hlo : lo' ≤ lo) (hB : B ≤ B') : ∀ (k : Fo) (b o : Nat), Row w lo B k b o → Row w lo' B' k b o
  | .nil, _, _, _ => trivial
  | .node _ _ p k r, b, o, ⟨hl, h0, h1, h2, ⟨a, c, h3, h4⟩, h5⟩ => by
    refine ⟨by omega, by omega, h1, h2, ⟨a, c, h3, ?_⟩, Row.mono hlo hB r b (o + 3) h5⟩
    rcases h4 with h4 | ⟨b', o', e, h4⟩
    · exact .inl h4
    · exact .inr ⟨b', o', e, Row.mono hlo hB k b' o' h4⟩

theorem Sl.same {w w' : World} {lo B : Nat} {a : Option Addr} {k : Fo} (hb : Same lo B w w') (h : Sl w lo B a k) : Sl w' lo B a k := by
  rcases h with h | ⟨b, o, e, h⟩
  · exact .inl h
  · exact .inr ⟨b, o, e, h.same hb⟩
theorem Sl.below {w w' : World} {lo B : Nat} {a : Option Addr} {k : Fo} (hb : Below B w w') (h : Sl w lo B a k) : Sl w' lo B a k := h.same (Same.of_below hb)
theorem Sl.mono {w : World} {lo lo' B B' : Nat} {a : Option Addr} {k : Fo} (hlo : lo' ≤ lo) (hB : B ≤ B') (h : Sl w lo B a k) : Sl w lo' B' a k := by
  rcases h with h | ⟨b, o, e, h⟩
  · exact .inl h
  · exact .inr ⟨b, o, e, h.mono hlo hB⟩

def fdrop : Nat → Fo → Fo
  | 0, k => k
  | _ + 1, .nil => .nil
  | n + 1, .node _ _ _ _ r => fdrop n r

theorem row_drop {w : World} {lo B : Nat} : ∀ (i : Nat) (k : Fo) (b o : Nat), Row w lo B k b o → Row w lo B (fdrop i k) b (o + i * 3)
  | 0, _, _, _, h => by simpa [fdrop] using h
  | _ + 1, .nil, _, _, _ => trivial
  | n + 1, .node _ _ _ _ r, b, o, h => by
    have := row_drop n r b (o + 3) h.2.2.2.2.2
    rw [fdrop, show o + (n + 1) * 3 = o + 3 + n * 3 from by omega]
    exact this

theorem flen_drop : ∀ (i : Nat) (k : Fo), flen (fdrop i k) = flen k - i
  | 0, _ => by simp [fdrop]
  | _ + 1, .nil => by simp [fdrop, flen]
  | n + 1, .node _ _ _ _ r => by simp [fdrop, flen, flen_drop n r]

theorem fdrop_succ : ∀ (i : Nat) (k : Fo), i < flen k → ∃ b o s v kk, fdrop i k = .node b o (s, v) kk (fdrop (i + 1) k)
  | _, .nil, h => by simp [flen] at h
  | 0, .node b o (s, v) kk r, _ => ⟨b, o, s, v, kk, by simp [fdrop]⟩
  | n + 1, .node _ _ _ _ r, h => by
    obtain ⟨b, o, s, v, kk, e⟩ := fdrop_succ n r (by simp [flen] at h; omega)
    exact ⟨b, o, s, v, kk, by rw [fdrop, e]; rfl⟩

theorem flen_le_sz : ∀ k : Fo, flen k ≤ fsz k
  | .nil => Nat.le_refl _
  | .node _ _ _ _ r => by have := flen_le_sz r; simp [flen, fsz]; omega

/-- What the cells of kid i hold. -/
theorem row_at {w : World} {lo B : Nat} {k : Fo} {b o i : Nat} (h : Row w lo B k b o) (hi : i < flen k) :
    ∃ s v kk a c, (∃ x y, fdrop i k = .node x y (s, v) kk (fdrop (i + 1) k)) ∧ lo ≤ b ∧ b < B ∧ w.cell? ⟨b, o + i * 3, none⟩ = some (.int .i64 s) ∧ w.cell? ⟨b, o + i * 3 + 1, none⟩ = some (.int .i64 v) ∧
      w.cell? ⟨b, o + i * 3 + 2, none⟩ = some (.slice a (flen kk) c) ∧ Sl w lo B a kk := by
  obtain ⟨x, y, s, v, kk, e⟩ := fdrop_succ i k hi
  have h' := row_drop i k b o h
  rw [e] at h'
  obtain ⟨hl, h0, h1, h2, ⟨a, c, h3, h4⟩, h5⟩ := h'
  exact ⟨s, v, kk, a, c, ⟨x, y, e⟩, hl, h0, h1, h2, h3, h4⟩

theorem fdrop_all {i : Nat} {k : Fo} (h : flen k ≤ i) : fdrop i k = .nil := by
  cases hf : fdrop i k with
  | nil => rfl
  | node x y p kk r => have := flen_drop i k; rw [hf] at this; simp [flen] at this; omega

def ftake : Nat → Fo → Fo
  | 0, _ => .nil
  | _ + 1, .nil => .nil
  | n + 1, .node b o p k r => .node b o p k (ftake n r)
theorem ftake_all : ∀ (i : Nat) (k : Fo), flen k ≤ i → ftake i k = k
  | 0, .nil, _ => rfl
  | 0, .node _ _ _ _ _, h => by simp [flen] at h
  | _ + 1, .nil, _ => rfl
  | n + 1, .node _ _ _ _ r, h => by simp only [ftake]; rw [ftake_all n r (by simp [flen] at h; omega)]
theorem flen_take : ∀ (i : Nat) (k : Fo), i ≤ flen k → flen (ftake i k) = i
  | 0, _, _ => rfl
  | _ + 1, .nil, h => by simp [flen] at h
  | n + 1, .node _ _ _ _ r, h => by simp only [ftake, flen]; rw [flen_take n r (by simp [flen] at h; omega)]

end Go.Proofs.YtbnbogdglffkmaaGreatDoor

/-! WA: The small functions: l6In, l1Kids, arityOf. No condition. -/
namespace Go.Proofs.YtbnbogdglffkmaaGreatDoor
open Go.RowKit Go.Deep

set_option maxHeartbeats 400000 in
theorem l6In_any (n lo hi : Int) (w : World) :
    Calls Tryz.prog 43 #[.int .i64 n, .int .i64 lo, .int .i64 hi] w fun e w' => e = .returned (.bool (decide (lo ≤ n ∧ n ≤ hi))) ∧ w = w' := by
  by_cases h1 : lo ≤ n
  · by_cases h2 : n ≤ hi
    · go_enter Tryz.func43, Tryz.ntmps43
      go_wp2
      go_ret
      exact ⟨by simp [h1, h2], rfl⟩
    · go_enter Tryz.func43, Tryz.ntmps43
      go_wp2
      go_ret
      exact ⟨by simp; omega, rfl⟩
  · go_enter Tryz.func43, Tryz.ntmps43
    go_wp2
    go_ret
    exact ⟨by simp; omega, rfl⟩

theorem l6In_is {n lo hi : Int} {b : Bool} {w : World} (h : decide (lo ≤ n ∧ n ≤ hi) = b) :
    Calls Tryz.prog 43 #[.int .i64 n, .int .i64 lo, .int .i64 hi] w fun e w' => e = .returned (.bool b) ∧ w = w' := by
  rw [← h]; exact l6In_any n lo hi w

set_option maxHeartbeats 400000 in
theorem arityOf_any (s : Int) (w : World) (hs : s ≠ 0) :
    Calls Tryz.prog 44 #[.int .i64 s] w fun e w' => e = .returned (.int .i64 (ar s)) ∧ w = w' := by
  by_cases h1 : s = 1
  · subst h1
    go_enter Tryz.func44, Tryz.ntmps44
    go_wp2
    go_ret
    exact ⟨by simp [ar], rfl⟩
  by_cases h2 : s = 2
  · subst h2
    go_enter Tryz.func44, Tryz.ntmps44
    go_wp2
    go_ret
    exact ⟨by simp [ar], rfl⟩
  by_cases h3 : s = 3
  · subst h3
    go_enter Tryz.func44, Tryz.ntmps44
    go_wp2
    go_ret
    exact ⟨by simp [ar], rfl⟩
  by_cases h4 : s = 4
  · subst h4
    go_enter Tryz.func44, Tryz.ntmps44
    go_wp2
    go_ret
    exact ⟨by simp [ar], rfl⟩
  have e1 : (s == 1) = false := by simp [h1]
  have e2 : (s == 2) = false := by simp [h2]
  have e3 : (s == 3) = false := by simp [h3]
  have e4 : (s == 4) = false := by simp [h4]
  have ea : Hid (ar s = -1) := by simp [Hid, ar, h1, h2, h3, h4, hs]
  go_enter Tryz.func44, Tryz.ntmps44
  go_wp2
  go_ret
  exact ⟨by rw [ea.out]; rfl, rfl⟩

set_option maxHeartbeats 400000 in
theorem l1Kids_any (s : Int) (w : World) :
    Calls Tryz.prog 42 #[.int .i64 s] w fun e w' => e = .returned (.int .i64 (ar s)) ∧ Below w.heap.size w w' := by
  by_cases h : 0 ≤ s ∧ s ≤ 4
  · have : s = 0 ∨ s = 1 ∨ s = 2 ∨ s = 3 ∨ s = 4 := by omega
    have ht : decide (0 ≤ s ∧ s ≤ 4) = true := by simpa using h
    clear h
    rcases this with rfl | rfl | rfl | rfl | rfl
    all_goals
      go_enter Tryz.func42, Tryz.ntmps42
      go_wp2_with (go_at_call 43; refine (l6In_any _ _ _ _).mono ?_; rintro e w' ⟨rfl, rfl⟩)
      go_ret
      exact ⟨by simp [ar], (Below.refl _ _).alloc (Nat.le_refl _) _⟩
  · have ht : decide (0 ≤ s ∧ s ≤ 4) = false := by simpa using h
    have ea : Hid (ar s = -1) := by
      unfold Hid ar
      rw [if_neg (by omega), if_neg (by omega), if_neg (by omega)]
    clear h
    go_enter Tryz.func42, Tryz.ntmps42
    go_wp2_with (go_at_call 43; refine (l6In_any _ _ _ _).mono ?_; rintro e w' ⟨rfl, rfl⟩)
    go_ret
    exact ⟨by rw [ea.out]; rfl, Below.refl _ _⟩

end Go.Proofs.YtbnbogdglffkmaaGreatDoor

/-! Kit: Regions that draw their order, walked once where all that they do leaves old memory alone. No condition. -/
namespace Go.Proofs.YtbnbogdglffkmaaGreatDoor
open Go.RowKit

/-- A world in which all blocks below B are as in w. -/
structure After (B : Nat) (w : World) where
  world : World
  below : Below B w world

theorem After.some_world (B : Nat) (w : World) : Nonempty (After B w) := ⟨⟨w, Below.refl B w⟩⟩
attribute [instance] After.some_world

theorem After.cell {B : Nat} {w : World} (u : After B w) {a : Addr} {v : Value} (hb : a.block < B) (h : w.cell? a = some v) : u.world.cell? a = some v := by
  rw [u.below.cell hb]; exact h

theorem wp_region_after {P : Program} {id : Nat} {Q : Exit → Act → World → Prop} {a : Act} {w : World} {l : List Oper} (B : Nat) (hm : P.follows .mixedOrders = true) (hB : Region.lexB .any l.toArray = true)
    (h : wpQuiet P l.toArray (fun w' => ∃ u : After B w, w' = u.world) (fun a' => ∀ w', (∃ u : After B w, w' = u.world) → Q .normal a' w') l a) : (Code.region id l.toArray true).wp P Q a w :=
  wp_region_quiet (C := fun w' => ∃ u : After B w, w' = u.world) hm hB ⟨⟨{ w with drawn := w.drawn + 1 }, (Below.refl B w).drew⟩, rfl⟩ (by simpa using h)

theorem Calls.after {P : Program} {f : FuncId} {args : Array Value} {B : Nat} {w : World} {u : After B w} {v : Value} (hB : B ≤ u.world.heap.size)
    (h : Calls P f args u.world fun e w' => e = .returned v ∧ Below u.world.heap.size u.world w') : Calls P f args u.world fun e w' => e = .returned v ∧ ∃ u' : After B w, w' = u'.world :=
  h.mono fun _ w' ⟨he, hb⟩ => ⟨he, ⟨w', u.below.trans (hb.mono hB)⟩, rfl⟩

theorem Calls.after_same {P : Program} {f : FuncId} {args : Array Value} {B : Nat} {w : World} {u : After B w} {v : Value}
    (h : Calls P f args u.world fun e w' => e = .returned v ∧ u.world = w') : Calls P f args u.world fun e w' => e = .returned v ∧ ∃ u' : After B w, w' = u'.world :=
  h.mono fun _ _ ⟨he, hb⟩ => ⟨he, u, hb.symm⟩

end Go.Proofs.YtbnbogdglffkmaaGreatDoor

/-! WB: l1Count: how many signs and variables there are, of what is in form. -/
namespace Go.Proofs.YtbnbogdglffkmaaGreatDoor
open Go.RowKit Go.Deep

/-- What l1Count answers. -/
def cntT (s v : Int) (k : Fo) (most : Int) : Int := if okN s v (flen k) = true ∧ fok k = true ∧ 1 + (fsz k : Int) ≤ most then 1 + fsz k else most + 1
/-- .. with m counted already and the terms r to come. -/
def cntR (m : Int) (r : Fo) (most : Int) : Int := if fok r = true ∧ m + (fsz r : Int) ≤ most then m + fsz r else most + 1

theorem cntT_small {s v : Int} {k : Fo} {most : Int} (h : most < 1) : cntT s v k most = most + 1 := by
  unfold cntT; rw [if_neg (by omega)]
theorem cntT_bad {s v : Int} {k : Fo} {most : Int} (h : okN s v (flen k) = false) : cntT s v k most = most + 1 := by
  unfold cntT; rw [if_neg (by simp [h])]
theorem cntT_good {s v : Int} {k : Fo} {most : Int} (h : okN s v (flen k) = true) : cntT s v k most = cntR 1 k most := by
  unfold cntT cntR; simp [h]
theorem cntT_bd (s v : Int) (k : Fo) (most : Int) (h : 0 ≤ most) : 1 ≤ cntT s v k most ∧ cntT s v k most ≤ most + 1 := by
  unfold cntT; split <;> omega
theorem cntR_over {m most s v : Int} {x y : Nat} {kk r : Fo} (h : most < m + cntT s v kk (most - m)) : cntR m (.node x y (s, v) kk r) most = most + 1 := by
  unfold cntR
  rw [if_neg]
  rintro ⟨h1, h2⟩
  simp only [fok, Bool.and_eq_true, fsz] at h1 h2
  unfold cntT at h
  rw [if_pos ⟨h1.1.1, h1.1.2, by omega⟩] at h
  omega
theorem cntR_step {m most s v : Int} {x y : Nat} {kk r : Fo} (h : m + cntT s v kk (most - m) ≤ most) : cntR m (.node x y (s, v) kk r) most = cntR (m + cntT s v kk (most - m)) r most := by
  have h' := h
  unfold cntT at h ⊢
  split at h
  · rename_i hc
    rw [if_pos hc]
    unfold cntR
    simp only [fok, fsz, hc.1, hc.2.1, Bool.and_true, Bool.true_and]
    have e : m + ((fsz kk + fsz r + 1 : Nat) : Int) = m + (1 + (fsz kk : Int)) + (fsz r : Int) := by omega
    rw [e]
  · omega
theorem cntR_nil {m most : Int} (h : m ≤ most) : cntR m .nil most = m := by
  unfold cntR; simp [fok, fsz, h]

theorem okN_iff (s v : Int) (n : Nat) : okN s v n = true ↔ (n : Int) = ar s ∧ (s = 0 → 0 ≤ v ∧ v ≤ 11) ∧ (s ≠ 0 → v = 0) := decide_eq_true_iff
theorem okN_f (s v : Int) (n : Nat) : okN s v n = false ↔ ¬ ((n : Int) = ar s ∧ (s = 0 → 0 ≤ v ∧ v ≤ 11) ∧ (s ≠ 0 → v = 0)) := by rw [← okN_iff]; simp
theorem ar_pos {s : Int} {n : Nat} (h : (n : Int) = ar s) (hs : s ≠ 0) : 0 < s := by
  unfold ar at h
  split at h
  · omega
  split at h
  · omega
  split at h
  · omega
  · omega

theorem okN_le {s v : Int} {n : Nat} (h : okN s v n = true) : n ≤ 2 := by
  have := ((okN_iff _ _ _).1 h).1
  unfold ar at this
  split at this
  · omega
  split at this
  · omega
  split at this
  · omega
  · omega

/-- The cells of a boxed term, in every later world. -/
theorem box_cells {w : World} {x y z : Value} {T : TypeId} (u : After (w.heap.size + 1) (w.alloc (.cells #[x, y, z] T))) :
    u.world.cell? ⟨w.heap.size, 0, none⟩ = some x ∧ u.world.cell? ⟨w.heap.size, 1, none⟩ = some y ∧ u.world.cell? ⟨w.heap.size, 2, none⟩ = some z := by
  refine ⟨u.cell (by simp) ?_, u.cell (by simp) ?_, u.cell (by simp) ?_⟩ <;> simp

/-- The four ways of a term's head. -/
theorem heads (s v : Int) (n : Nat) : (((n : Int) != ar s) = true ∧ okN s v n = false) ∨
    (((n : Int) != ar s) = false ∧ (s == 0) = true ∧ decide (0 ≤ v ∧ v ≤ 11) = false ∧ okN s v n = false) ∨
    (((n : Int) != ar s) = false ∧ (s == 0) = false ∧ decide (0 < s) = true ∧ (v != 0) = true ∧ okN s v n = false) ∨
    (((n : Int) != ar s) = false ∧ (s == 0) = true ∧ decide (0 < s) = false ∧ decide (0 ≤ v ∧ v ≤ 11) = true ∧ okN s v n = true) ∨
    (((n : Int) != ar s) = false ∧ (s == 0) = false ∧ decide (0 < s) = true ∧ (v != 0) = false ∧ okN s v n = true) := by
  by_cases h1 : (n : Int) = ar s
  · by_cases h2 : s = 0
    · by_cases h3 : 0 ≤ v ∧ v ≤ 11
      · exact .inr (.inr (.inr (.inl ⟨by simp [h1], by simp [h2], by simp [h2], decide_eq_true h3, (okN_iff _ _ _).2 ⟨h1, fun _ => h3, fun h => absurd h2 h⟩⟩)))
      · exact .inr (.inl ⟨by simp [h1], by simp [h2], decide_eq_false h3, (okN_f _ _ _).2 fun h => h3 (h.2.1 h2)⟩)
    · have h4 := ar_pos h1 h2
      by_cases h3 : v = 0
      · exact .inr (.inr (.inr (.inr ⟨by simp [h1], by simp [h2], decide_eq_true h4, by simp [h3], (okN_iff _ _ _).2 ⟨h1, fun h => absurd h h2, fun _ => h3⟩⟩)))
      · exact .inr (.inr (.inl ⟨by simp [h1], by simp [h2], decide_eq_true h4, by simp [h3], (okN_f _ _ _).2 fun h => h3 (h.2.2 h2)⟩))
  · exact .inl ⟨by simp [h1], (okN_f _ _ _).2 fun h => h1 h.1⟩

theorem after_top {w w' : World} {o : Obj} (h : Below (w.heap.size + 1) (w.alloc o) w') : Below w.heap.size w w' :=
  ((Below.refl _ _).alloc (Nat.le_refl _) o).trans (h.mono (Nat.le_succ _))

set_option maxRecDepth 100000 in
set_option maxHeartbeats 1000000 in
theorem l1Count_any (N : Nat) : ∀ (s v : Int) (a : Option Addr) (c : Nat) (k : Fo) (most : Int) (w : World), Sl w 0 w.heap.size a k → -1000 ≤ most → most ≤ 1000 → most ≤ N →
    Calls Tryz.prog 38 #[.agg #[.int .i64 s, .int .i64 v, .slice a (flen k) c], .int .i64 most] w fun e w' => e = .returned (.int .i64 (cntT s v k most)) ∧ Below w.heap.size w w' := by
  induction N with
  | zero =>
    intro s v a c k most w hl h1 h2 h3
    have e1 : decide (most < 1) = true := by simp; omega
    have ea : Hid (cntT s v k most = most + 1) := cntT_small (by omega)
    go_enter Tryz.func38, Tryz.ntmps38
    go_wp2_with fail
    refine wp_region_after (w.heap.size + 1) (by kernel_rfl) (by kernel_rfl) ?_
    repeat (go_big_quiet_step (fail))
    refine wpQuiet_nil ?_
    rintro _ ⟨u, rfl⟩
    go_wp2_with fail
    go_ret
    exact ⟨by rw [ea.out]; rfl, after_top u.below⟩
  | succ N ih =>
    intro s v a c k most w hl h1 h2 h3
    have IH := Lib.hid ih
    clear ih
    by_cases hm : most < 1
    · have e1 : decide (most < 1) = true := by simp; omega
      have ea : Hid (cntT s v k most = most + 1) := cntT_small (by omega)
      go_enter Tryz.func38, Tryz.ntmps38
      go_wp2_with fail
      refine wp_region_after (w.heap.size + 1) (by kernel_rfl) (by kernel_rfl) ?_
      repeat (go_big_quiet_step (fail))
      refine wpQuiet_nil ?_
      rintro _ ⟨u, rfl⟩
      go_wp2_with fail
      go_ret
      exact ⟨by rw [ea.out]; rfl, after_top u.below⟩
    have e1 : decide (most < 1) = false := by simp; omega
    rcases heads s v (flen k) with ⟨e2, hok⟩ | ⟨e2, e3, e4, hok⟩ | ⟨e2, e3, e4, e5, hok⟩ | ⟨e2, e3, e4, e5, hok⟩ | ⟨e2, e3, e4, e5, hok⟩
    iterate 3
      · have ea : Hid (cntT s v k most = most + 1) := cntT_bad hok
        clear hok
        have hc := fun u => @box_cells w (.int .i64 s) (.int .i64 v) (.slice a (flen k) c) 25 u
        have hc0 := fun u => (hc u).1
        have hc1 := fun u => (hc u).2.1
        have hc2 := fun u => (hc u).2.2
        clear hc
        go_enter Tryz.func38, Tryz.ntmps38
        go_wp2_with fail
        refine wp_region_after (w.heap.size + 1) (by kernel_rfl) (by kernel_rfl) ?_
        repeat (go_big_quiet_step (first | (go_at_call 43; exact Calls.after_same (l6In_any _ _ _ _)) | (go_at_call 42; exact Calls.after (by have := After.below ‹_›; have := this.size; simp at this; omega) (l1Kids_any _ _))))
        refine wpQuiet_nil ?_
        rintro _ ⟨u, rfl⟩
        clear hc0 hc1 hc2
        go_wp2_with fail
        go_ret
        exact ⟨by rw [ea.out]; rfl, after_top u.below⟩
    all_goals
      have ea : Hid (cntT s v k most = cntR 1 k most) := cntT_good hok
      have hk2 : flen k ≤ 2 := okN_le hok
      clear hok
      have hc := fun u => @box_cells w (.int .i64 s) (.int .i64 v) (.slice a (flen k) c) 25 u
      have hc0 := fun u => (hc u).1
      have hc1 := fun u => (hc u).2.1
      have hc2 := fun u => (hc u).2.2
      have HC := Lib.hid hc
      clear hc
      go_enter Tryz.func38, Tryz.ntmps38
      go_wp2_with fail
      refine wp_region_after (w.heap.size + 1) (by kernel_rfl) (by kernel_rfl) ?_
      repeat (go_big_quiet_step (first | (go_at_call 43; exact Calls.after_same (l6In_is e5)) | (go_at_call 42; exact Calls.after (by have := After.below ‹_›; have := this.size; simp at this; omega) (l1Kids_any _ _))))
      refine wpQuiet_nil ?_
      rintro _ ⟨u, rfl⟩
      clear hc0 hc1 hc2
      obtain ⟨u, hu⟩ := u
      dsimp only
      go_wp2_with fail
      go_loopw [5, 6] (fun n i wr => ∃ (j : Nat) (m : Int), j ≤ flen k ∧ i = .int .i64 j ∧ n = .int .i64 m ∧ 1 ≤ m ∧ m ≤ most ∧ Hid (cntT s v k most = cntR m (fdrop j k) most) ∧ Below (w.heap.size + 1) (w.alloc (.cells #[.int .i64 s, .int .i64 v, .slice a (flen k) c] 25)) wr) (fun _ i _ => flen k - (intOf i).toNat)
      case atStart => exact ⟨0, 1, Nat.zero_le _, rfl, rfl, by omega, by omega, ea, hu⟩
      case round =>
        obtain ⟨j, m, hj, rfl, rfl, hm1, hm2, hcnt, hbl⟩ := hrel
        obtain ⟨hc0, hc1, hc2⟩ := HC.out ⟨_, hbl⟩
        dsimp only at hc0 hc1 hc2
        by_cases hlt : j < flen k
        · rcases hl with rfl | ⟨b, o, rfl, hrow⟩
          · simp [flen] at hlt
          obtain ⟨s', v', kk, a', c', ⟨x, y, hd⟩, _, hbB, hk0, hk1, hk2, hsl⟩ := row_at (hrow.below (after_top hbl)) hlt
          have HD := Lib.hid hd
          have HS := Lib.hid hsl
          clear hd hsl hrow
          go_wp2_with fail
          with_reducible refine (IH.out s' v' a' c' kk (most - m) _ ?_ ?_ ?_ ?_).mono ?_
          · exact HS.out.mono (Nat.le_refl _) (by have := hbl.size; simp at this; omega)
          · omega
          · omega
          · omega
          rintro e w' ⟨rfl, hb2⟩
          have hbd := cntT_bd s' v' kk (most - m) (by omega)
          have hb3 : Below (w.heap.size + 1) (w.alloc (.cells #[.int .i64 s, .int .i64 v, .slice (some ⟨b, o, none⟩) (flen k) c] 25)) w' := hbl.trans (hb2.mono (by have := hbl.size; simp at this; omega))
          by_cases hov : most < m + cntT s' v' kk (most - m)
          · have ef : Hid (cntT s v k most = most + 1) := by rw [Hid, hcnt.out, HD.out]; exact cntR_over hov
            go_wp2_with fail
            go_ret
            exact ⟨by rw [ef.out]; rfl, after_top hb3⟩
          · have ef : Hid (cntT s v k most = cntR (m + cntT s' v' kk (most - m)) (fdrop (j + 1) k) most) := by rw [Hid, hcnt.out, HD.out]; exact cntR_step (by omega)
            go_wp2_with fail
            go_roundw
            case rel =>
              have g1 : j + 1 ≤ flen k := by omega
              have g2 : 1 ≤ m + cntT s' v' kk (most - m) := by omega
              have g3 : m + cntT s' v' kk (most - m) ≤ most := by omega
              exact ⟨j + 1, _, g1, by go_num, rfl, g2, g3, ef, hb3⟩
            case measure => simp [intOf]; omega
        · have ef : Hid (cntT s v k most = m) := by
            rw [Hid, hcnt.out, fdrop_all (by omega)]
            exact cntR_nil hm2
          go_wp2_with fail
          go_ret
          exact ⟨by rw [ef.out]; rfl, after_top hbl⟩
end Go.Proofs.YtbnbogdglffkmaaGreatDoor

/-! Node: What it means that a node (a value behind the interface) stands for a term. Definitions and plain lemmas. -/
namespace Go.Proofs.YtbnbogdglffkmaaGreatDoor
open Go.RowKit Go.Deep

/-- The nodes of the terms k lie in block b from offset o on; all that they lead to lies in blocks from lo on below B. -/
def NRow (w : World) (lo B : Nat) : Fo → Nat → Nat → Prop
  | .nil, _, _ => True
  | .node _ _ p k r, b, o => lo ≤ b ∧ b < B ∧ (∃ val, w.cell? ⟨b, o, none⟩ = some val ∧
      ((p.1 = 0 ∧ k = .nil ∧ val = .iface 80 (.int .i64 p.2)) ∨
       (p.1 ≠ 0 ∧ ∃ a c, val = .iface 83 (.agg #[.int .i64 p.1, .slice a (flen k) c]) ∧ (k = .nil ∨ ∃ b' o', a = some ⟨b', o', none⟩ ∧ NRow w lo B k b' o')))) ∧ NRow w lo B r b (o + 1)
def NSl (w : World) (lo B : Nat) (a : Option Addr) (k : Fo) : Prop := k = .nil ∨ ∃ b o, a = some ⟨b, o, none⟩ ∧ NRow w lo B k b o
/-- The node val stands for the term of sign s, variable v, kids k. -/
def NodeIs (w : World) (lo B : Nat) (val : Value) (s v : Int) (k : Fo) : Prop :=
  (s = 0 ∧ k = .nil ∧ val = .iface 80 (.int .i64 v)) ∨ (s ≠ 0 ∧ ∃ a c, val = .iface 83 (.agg #[.int .i64 s, .slice a (flen k) c]) ∧ NSl w lo B a k)

theorem NRow.same {w w' : World} {lo B : Nat} (hb : Same lo B w w') : ∀ (k : Fo) (b o : Nat), NRow w lo B k b o → NRow w' lo B k b o
  | .nil, _, _, _ => trivial
  | .node _ _ p k r, b, o, ⟨hl, h0, ⟨val, h1, h2⟩, h5⟩ => by
    refine ⟨hl, h0, ⟨val, by rw [hb.cell hl h0]; exact h1, ?_⟩, NRow.same hb r b (o + 1) h5⟩
    rcases h2 with h2 | ⟨hp, a, c, e, h4⟩
    · exact .inl h2
    · refine .inr ⟨hp, a, c, e, ?_⟩
      rcases h4 with h4 | ⟨b', o', e, h4⟩
      · exact .inl h4
      · exact .inr ⟨b', o', e, NRow.same hb k b' o' h4⟩
theorem NRow.mono {w : World} {lo lo' B B' : Nat} (hlo : lo' ≤ lo) (hB : B ≤ B') : ∀ (k : Fo) (b o : Nat), NRow w lo B k b o → NRow w lo' B' k b o
  | .nil, _, _, _ => trivial
  | .node _ _ p k r, b, o, ⟨hl, h0, ⟨val, h1, h2⟩, h5⟩ => by
    refine ⟨by omega, by omega, ⟨val, h1, ?_⟩, NRow.mono hlo hB r b (o + 1) h5⟩
    rcases h2 with h2 | ⟨hp, a, c, e, h4⟩
    · exact .inl h2
    · refine .inr ⟨hp, a, c, e, ?_⟩
      rcases h4 with h4 | ⟨b', o', e, h4⟩
      · exact .inl h4
      · exact .inr ⟨b', o', e, NRow.mono hlo hB k b' o' h4⟩
theorem NSl.same {w w' : World} {lo B : Nat} {a : Option Addr} {k : Fo} (hb : Same lo B w w') (h : NSl w lo B a k) : NSl w' lo B a k := by
  rcases h with h | ⟨b, o, e, h⟩
  · exact .inl h
  · exact .inr ⟨b, o, e, h.same hb⟩
theorem NSl.mono {w : World} {lo lo' B B' : Nat} {a : Option Addr} {k : Fo} (hlo : lo' ≤ lo) (hB : B ≤ B') (h : NSl w lo B a k) : NSl w lo' B' a k := by
  rcases h with h | ⟨b, o, e, h⟩
  · exact .inl h
  · exact .inr ⟨b, o, e, h.mono hlo hB⟩
theorem NodeIs.same {w w' : World} {lo B : Nat} {val : Value} {s v : Int} {k : Fo} (hb : Same lo B w w') (h : NodeIs w lo B val s v k) : NodeIs w' lo B val s v k := by
  rcases h with h | ⟨hs, a, c, e, h⟩
  · exact .inl h
  · exact .inr ⟨hs, a, c, e, h.same hb⟩
theorem NodeIs.below {w w' : World} {lo B : Nat} {val : Value} {s v : Int} {k : Fo} (hb : Below B w w') (h : NodeIs w lo B val s v k) : NodeIs w' lo B val s v k := h.same (Same.of_below hb)
theorem NodeIs.mono {w : World} {lo lo' B B' : Nat} {val : Value} {s v : Int} {k : Fo} (hlo : lo' ≤ lo) (hB : B ≤ B') (h : NodeIs w lo B val s v k) : NodeIs w lo' B' val s v k := by
  rcases h with h | ⟨hs, a, c, e, h⟩
  · exact .inl h
  · exact .inr ⟨hs, a, c, e, h.mono hlo hB⟩

theorem nrow_cons {w : World} {lo B x y b o : Nat} {s v : Int} {k r : Fo} {val : Value} (h1 : lo ≤ b) (h2 : b < B) (hc : w.cell? ⟨b, o, none⟩ = some val) (hn : NodeIs w lo B val s v k) (hr : NRow w lo B r b (o + 1)) :
    NRow w lo B (.node x y (s, v) k r) b o := ⟨h1, h2, ⟨val, hc, hn⟩, hr⟩

/-- The nodes of the first j terms lie there, and that of the next one: so do those of the first j + 1. -/
theorem nrow_snoc {w : World} {lo B : Nat} : ∀ (j : Nat) (k : Fo) (b o : Nat) {x y : Nat} {s v : Int} {kk r : Fo} {val : Value}, NRow w lo B (ftake j k) b o → fdrop j k = .node x y (s, v) kk r → lo ≤ b → b < B →
    w.cell? ⟨b, o + j, none⟩ = some val → NodeIs w lo B val s v kk → NRow w lo B (ftake (j + 1) k) b o
  | 0, .nil, _, _, _, _, _, _, _, _, _, _, hd, _, _, _, _ => by simp [fdrop] at hd
  | 0, .node _ _ p k' r', b, o, x, y, s, v, kk, r, val, _, hd, h1, h2, hc, hn => by
    simp only [fdrop, BT.node.injEq] at hd
    obtain ⟨_, _, rfl, rfl, _⟩ := hd
    exact nrow_cons h1 h2 (by simpa using hc) hn trivial
  | j + 1, .nil, _, _, _, _, _, _, _, _, _, _, hd, _, _, _, _ => by simp [fdrop] at hd
  | j + 1, .node _ _ p k' r', b, o, x, y, s, v, kk, r, val, ⟨g1, g2, g3, g4⟩, hd, h1, h2, hc, hn => by
    refine ⟨g1, g2, g3, ?_⟩
    exact nrow_snoc j r' b (o + 1) g4 (by simpa [fdrop] using hd) h1 h2 (by rw [show o + 1 + j = o + (j + 1) from by omega]; exact hc) hn

theorem nrow_of_all {w : World} {lo B : Nat} : ∀ (k : Fo) (b o : Nat), lo ≤ b → b < B →
    (∀ i, i < flen k → ∃ x y s v kk, fdrop i k = .node x y (s, v) kk (fdrop (i + 1) k) ∧ ∃ val, w.cell? ⟨b, o + i, none⟩ = some val ∧ NodeIs w lo B val s v kk) → NRow w lo B k b o
  | .nil, _, _, _, _, _ => trivial
  | .node x y p kk r, b, o, h1, h2, h => by
    obtain ⟨x', y', s, v, kk', e, val, hc, hn⟩ := h 0 (by simp [flen])
    simp only [fdrop, BT.node.injEq] at e
    obtain ⟨_, _, rfl, rfl, _⟩ := e
    refine nrow_cons h1 h2 hc hn (nrow_of_all r b (o + 1) h1 h2 fun i hi => ?_)
    obtain ⟨x', y', s, v, kk', e, val, hc, hn⟩ := h (i + 1) (by simp [flen]; omega)
    exact ⟨x', y', s, v, kk', e, val, by rw [show o + 1 + i = o + (i + 1) from by omega]; exact hc, hn⟩

theorem nrow_drop {w : World} {lo B : Nat} : ∀ (i : Nat) (k : Fo) (b o : Nat), NRow w lo B k b o → NRow w lo B (fdrop i k) b (o + i)
  | 0, _, _, _, h => by simpa [fdrop] using h
  | _ + 1, .nil, _, _, _ => trivial
  | n + 1, .node _ _ _ _ r, b, o, h => by
    have := nrow_drop n r b (o + 1) h.2.2.2
    rw [fdrop, show o + (n + 1) = o + 1 + n from by omega]
    exact this
/-- What the cell of kid i holds. -/
theorem nrow_at {w : World} {lo B : Nat} {k : Fo} {b o i : Nat} (h : NRow w lo B k b o) (hi : i < flen k) :
    ∃ s v kk val, (∃ x y, fdrop i k = .node x y (s, v) kk (fdrop (i + 1) k)) ∧ lo ≤ b ∧ b < B ∧ w.cell? ⟨b, o + i, none⟩ = some val ∧ NodeIs w lo B val s v kk := by
  obtain ⟨x, y, s, v, kk, e⟩ := fdrop_succ i k hi
  have h' := nrow_drop i k b o h
  rw [e] at h'
  obtain ⟨hl, h0, ⟨val, h1, h2⟩, h5⟩ := h'
  exact ⟨s, v, kk, val, ⟨x, y, e⟩, hl, h0, h1, h2⟩
theorem NSl.below {w w' : World} {lo B : Nat} {a : Option Addr} {k : Fo} (hb : Below B w w') (h : NSl w lo B a k) : NSl w' lo B a k := h.same (Same.of_below hb)
theorem NRow.below {w w' : World} {lo B : Nat} (hb : Below B w w') {k : Fo} {b o : Nat} (h : NRow w lo B k b o) : NRow w' lo B k b o := h.same (Same.of_below hb)

end Go.Proofs.YtbnbogdglffkmaaGreatDoor

/-! NodeC: Nodes whose slices have room for what they hold. Definitions and plain lemmas. -/
namespace Go.Proofs.YtbnbogdglffkmaaGreatDoor
open Go.RowKit Go.Deep

/-- The nodes of the terms k lie in block b from offset o on; all that they lead to lies in blocks from lo on below B. -/
def CRow (w : World) (lo B : Nat) : Fo → Nat → Nat → Prop
  | .nil, _, _ => True
  | .node _ _ p k r, b, o => lo ≤ b ∧ b < B ∧ (∃ val, w.cell? ⟨b, o, none⟩ = some val ∧
      ((p.1 = 0 ∧ k = .nil ∧ val = .iface 80 (.int .i64 p.2)) ∨
       (p.1 ≠ 0 ∧ ∃ a c, val = .iface 83 (.agg #[.int .i64 p.1, .slice a (flen k) c]) ∧ flen k ≤ c ∧ (k = .nil ∨ ∃ b' o', a = some ⟨b', o', none⟩ ∧ CRow w lo B k b' o')))) ∧ CRow w lo B r b (o + 1)
def CSl (w : World) (lo B : Nat) (a : Option Addr) (k : Fo) : Prop := k = .nil ∨ ∃ b o, a = some ⟨b, o, none⟩ ∧ CRow w lo B k b o
/-- The node val stands for the term of sign s, variable v, kids k. -/
def NodeC (w : World) (lo B : Nat) (val : Value) (s v : Int) (k : Fo) : Prop :=
  (s = 0 ∧ k = .nil ∧ val = .iface 80 (.int .i64 v)) ∨ (s ≠ 0 ∧ ∃ a c, val = .iface 83 (.agg #[.int .i64 s, .slice a (flen k) c]) ∧ flen k ≤ c ∧ CSl w lo B a k)

theorem CRow.same {w w' : World} {lo B : Nat} (hb : Same lo B w w') : ∀ (k : Fo) (b o : Nat), CRow w lo B k b o → CRow w' lo B k b o
  | .nil, _, _, _ => trivial
  | .node _ _ p k r, b, o, ⟨hl, h0, ⟨val, h1, h2⟩, h5⟩ => by
    refine ⟨hl, h0, ⟨val, by rw [hb.cell hl h0]; exact h1, ?_⟩, CRow.same hb r b (o + 1) h5⟩
    rcases h2 with h2 | ⟨hp, a, c, e, hcp, h4⟩
    · exact .inl h2
    · refine .inr ⟨hp, a, c, e, hcp, ?_⟩
      rcases h4 with h4 | ⟨b', o', e, h4⟩
      · exact .inl h4
      · exact .inr ⟨b', o', e, CRow.same hb k b' o' h4⟩
theorem CRow.mono {w : World} {lo lo' B B' : Nat} (hlo : lo' ≤ lo) (hB : B ≤ B') : ∀ (k : Fo) (b o : Nat), CRow w lo B k b o → CRow w lo' B' k b o
  | .nil, _, _, _ => trivial
  | .node _ _ p k r, b, o, ⟨hl, h0, ⟨val, h1, h2⟩, h5⟩ => by
    refine ⟨by omega, by omega, ⟨val, h1, ?_⟩, CRow.mono hlo hB r b (o + 1) h5⟩
    rcases h2 with h2 | ⟨hp, a, c, e, hcp, h4⟩
    · exact .inl h2
    · refine .inr ⟨hp, a, c, e, hcp, ?_⟩
      rcases h4 with h4 | ⟨b', o', e, h4⟩
      · exact .inl h4
      · exact .inr ⟨b', o', e, CRow.mono hlo hB k b' o' h4⟩
theorem CSl.same {w w' : World} {lo B : Nat} {a : Option Addr} {k : Fo} (hb : Same lo B w w') (h : CSl w lo B a k) : CSl w' lo B a k := by
  rcases h with h | ⟨b, o, e, h⟩
  · exact .inl h
  · exact .inr ⟨b, o, e, h.same hb⟩
theorem CSl.mono {w : World} {lo lo' B B' : Nat} {a : Option Addr} {k : Fo} (hlo : lo' ≤ lo) (hB : B ≤ B') (h : CSl w lo B a k) : CSl w lo' B' a k := by
  rcases h with h | ⟨b, o, e, h⟩
  · exact .inl h
  · exact .inr ⟨b, o, e, h.mono hlo hB⟩
theorem NodeC.same {w w' : World} {lo B : Nat} {val : Value} {s v : Int} {k : Fo} (hb : Same lo B w w') (h : NodeC w lo B val s v k) : NodeC w' lo B val s v k := by
  rcases h with h | ⟨hs, a, c, e, hcp, h⟩
  · exact .inl h
  · exact .inr ⟨hs, a, c, e, hcp, h.same hb⟩
theorem NodeC.below {w w' : World} {lo B : Nat} {val : Value} {s v : Int} {k : Fo} (hb : Below B w w') (h : NodeC w lo B val s v k) : NodeC w' lo B val s v k := h.same (Same.of_below hb)
theorem NodeC.mono {w : World} {lo lo' B B' : Nat} {val : Value} {s v : Int} {k : Fo} (hlo : lo' ≤ lo) (hB : B ≤ B') (h : NodeC w lo B val s v k) : NodeC w lo' B' val s v k := by
  rcases h with h | ⟨hs, a, c, e, hcp, h⟩
  · exact .inl h
  · exact .inr ⟨hs, a, c, e, hcp, h.mono hlo hB⟩

theorem crow_cons {w : World} {lo B x y b o : Nat} {s v : Int} {k r : Fo} {val : Value} (h1 : lo ≤ b) (h2 : b < B) (hc : w.cell? ⟨b, o, none⟩ = some val) (hn : NodeC w lo B val s v k) (hr : CRow w lo B r b (o + 1)) :
    CRow w lo B (.node x y (s, v) k r) b o := ⟨h1, h2, ⟨val, hc, hn⟩, hr⟩

/-- The nodes of the first j terms lie there, and that of the next one: so do those of the first j + 1. -/
theorem crow_snoc {w : World} {lo B : Nat} : ∀ (j : Nat) (k : Fo) (b o : Nat) {x y : Nat} {s v : Int} {kk r : Fo} {val : Value}, CRow w lo B (ftake j k) b o → fdrop j k = .node x y (s, v) kk r → lo ≤ b → b < B →
    w.cell? ⟨b, o + j, none⟩ = some val → NodeC w lo B val s v kk → CRow w lo B (ftake (j + 1) k) b o
  | 0, .nil, _, _, _, _, _, _, _, _, _, _, hd, _, _, _, _ => by simp [fdrop] at hd
  | 0, .node _ _ p k' r', b, o, x, y, s, v, kk, r, val, _, hd, h1, h2, hc, hn => by
    simp only [fdrop, BT.node.injEq] at hd
    obtain ⟨_, _, rfl, rfl, _⟩ := hd
    exact crow_cons h1 h2 (by simpa using hc) hn trivial
  | j + 1, .nil, _, _, _, _, _, _, _, _, _, _, hd, _, _, _, _ => by simp [fdrop] at hd
  | j + 1, .node _ _ p k' r', b, o, x, y, s, v, kk, r, val, ⟨g1, g2, g3, g4⟩, hd, h1, h2, hc, hn => by
    refine ⟨g1, g2, g3, ?_⟩
    exact crow_snoc j r' b (o + 1) g4 (by simpa [fdrop] using hd) h1 h2 (by rw [show o + 1 + j = o + (j + 1) from by omega]; exact hc) hn

theorem crow_of_all {w : World} {lo B : Nat} : ∀ (k : Fo) (b o : Nat), lo ≤ b → b < B →
    (∀ i, i < flen k → ∃ x y s v kk, fdrop i k = .node x y (s, v) kk (fdrop (i + 1) k) ∧ ∃ val, w.cell? ⟨b, o + i, none⟩ = some val ∧ NodeC w lo B val s v kk) → CRow w lo B k b o
  | .nil, _, _, _, _, _ => trivial
  | .node x y p kk r, b, o, h1, h2, h => by
    obtain ⟨x', y', s, v, kk', e, val, hc, hn⟩ := h 0 (by simp [flen])
    simp only [fdrop, BT.node.injEq] at e
    obtain ⟨_, _, rfl, rfl, _⟩ := e
    refine crow_cons h1 h2 hc hn (crow_of_all r b (o + 1) h1 h2 fun i hi => ?_)
    obtain ⟨x', y', s, v, kk', e, val, hc, hn⟩ := h (i + 1) (by simp [flen]; omega)
    exact ⟨x', y', s, v, kk', e, val, by rw [show o + 1 + i = o + (i + 1) from by omega]; exact hc, hn⟩

theorem crow_drop {w : World} {lo B : Nat} : ∀ (i : Nat) (k : Fo) (b o : Nat), CRow w lo B k b o → CRow w lo B (fdrop i k) b (o + i)
  | 0, _, _, _, h => by simpa [fdrop] using h
  | _ + 1, .nil, _, _, _ => trivial
  | n + 1, .node _ _ _ _ r, b, o, h => by
    have := crow_drop n r b (o + 1) h.2.2.2
    rw [fdrop, show o + (n + 1) = o + 1 + n from by omega]
    exact this
/-- What the cell of kid i holds. -/
theorem crow_at {w : World} {lo B : Nat} {k : Fo} {b o i : Nat} (h : CRow w lo B k b o) (hi : i < flen k) :
    ∃ s v kk val, (∃ x y, fdrop i k = .node x y (s, v) kk (fdrop (i + 1) k)) ∧ lo ≤ b ∧ b < B ∧ w.cell? ⟨b, o + i, none⟩ = some val ∧ NodeC w lo B val s v kk := by
  obtain ⟨x, y, s, v, kk, e⟩ := fdrop_succ i k hi
  have h' := crow_drop i k b o h
  rw [e] at h'
  obtain ⟨hl, h0, ⟨val, h1, h2⟩, h5⟩ := h'
  exact ⟨s, v, kk, val, ⟨x, y, e⟩, hl, h0, h1, h2⟩
theorem CSl.below {w w' : World} {lo B : Nat} {a : Option Addr} {k : Fo} (hb : Below B w w') (h : CSl w lo B a k) : CSl w' lo B a k := h.same (Same.of_below hb)
theorem CRow.below {w w' : World} {lo B : Nat} (hb : Below B w w') {k : Fo} {b o : Nat} (h : CRow w lo B k b o) : CRow w' lo B k b o := h.same (Same.of_below hb)


theorem CRow.to {w : World} {lo B : Nat} : ∀ (k : Fo) (b o : Nat), CRow w lo B k b o → NRow w lo B k b o
  | .nil, _, _, _ => trivial
  | .node _ _ p k r, b, o, ⟨hl, h0, ⟨val, h1, h2⟩, h5⟩ => by
    refine ⟨hl, h0, ⟨val, h1, ?_⟩, CRow.to r b (o + 1) h5⟩
    rcases h2 with h2 | ⟨hp, a, c, e, _, h4⟩
    · exact .inl h2
    · refine .inr ⟨hp, a, c, e, ?_⟩
      rcases h4 with h4 | ⟨b', o', e, h4⟩
      · exact .inl h4
      · exact .inr ⟨b', o', e, CRow.to k b' o' h4⟩
theorem CSl.to {w : World} {lo B : Nat} {a : Option Addr} {k : Fo} (h : CSl w lo B a k) : NSl w lo B a k := by
  rcases h with h | ⟨b, o, e, h⟩
  · exact .inl h
  · exact .inr ⟨b, o, e, h.to⟩
theorem NodeC.to {w : World} {lo B : Nat} {val : Value} {s v : Int} {k : Fo} (h : NodeC w lo B val s v k) : NodeIs w lo B val s v k := by
  rcases h with h | ⟨hs, a, c, e, _, h⟩
  · exact .inl h
  · exact .inr ⟨hs, a, c, e, h.to⟩
end Go.Proofs.YtbnbogdglffkmaaGreatDoor
