/- Several texts in one: BX, LD0, LI. -/
import Derived.Test.YtdkcbbhkoibplaaKLm9
import Derived.Test.YtdkcbbhkoibplaaKLm4
import Derived.RangeFuncNested
import Derived.RangeFuncBound
import Derived.RangeFuncCalls
import Derived.RangeFuncLeaves
import Derived.Shelf.Abstract
import Derived.Shelf.RegionOpen
import Derived.WalkKit
import Derived.OwnWalkIn
import Derived.TacticsInMore
import Derived.LoopNIn
import Derived.LoopIn

/-! BX: Boxes that are made and filled in a region that draws its order. Plain lemmas. -/
namespace Go.Proofs.Ytdkcbbhkoibplaa
open Go.RowKit Go.Deep

/-- A box of three cells: made by operation al into temporary tmp, filled by operation st from temporary src. -/
def Bx (al st tmp src lo : Nat) (listed : Array Bool) (a : Act) (u : World) : Prop :=
  listed.getD al false = true → ∃ b, (a.tmps[tmp]?).getD undef = .pointer (some ⟨b, 0, none⟩) ∧ lo ≤ b ∧ b < u.heap.size ∧ (∀ i, i < 3 → ∃ x, u.cell? ⟨b, i, none⟩ = some x) ∧ (∀ i, u.frozen? ⟨b, i, none⟩ = false) ∧
    (listed.getD st false = true → ∃ x0 x1 x2, (a.tmps[src]?).getD undef = .agg #[x0, x1, x2] ∧ u.cell? ⟨b, 0, none⟩ = some x0 ∧ u.cell? ⟨b, 1, none⟩ = some x1 ∧ u.cell? ⟨b, 2, none⟩ = some x2)
theorem Bx.start {al st tmp src lo n : Nat} {a : Act} {u : World} : Bx al st tmp src lo (Array.replicate n false) a u := fun h => by
  simp [Array.getD_eq_getD_getElem?, Array.getElem?_replicate] at h
  split at h <;> simp at h
/-- Another operation, that adds memory at most. -/
theorem Bx.keep {al st tmp src lo i : Nat} {listed : Array Bool} {a : Act} {u u' : World} (h : Bx al st tmp src lo listed a u) (h1 : i ≠ al) (h2 : i ≠ st) {dst : Option Nat} {v : Value} (ht : dst ≠ some tmp) (hs : dst ≠ some src ∨ listed.getD st false = false) (hb : Below u.heap.size u u') :
    Bx al st tmp src lo (listed.setIfInBounds i true) (a.put dst v) u' := fun hl => by
  obtain ⟨b, e, q1, q2, q3, q4, q5⟩ := h (set_was h1 hl)
  have hget : ∀ t, dst ≠ some t → ((a.put dst v).tmps[t]?).getD undef = (a.tmps[t]?).getD undef := fun t hd => by
    cases dst with
    | none => rfl
    | some d => exact put_at v (fun e => hd (by rw [e]))
  refine ⟨b, (hget tmp ht).trans e, q1, Nat.lt_of_lt_of_le q2 hb.size, fun j hj => ?_, fun j => (hb.frozen q2).trans (q4 j), fun hf => ?_⟩
  · obtain ⟨x, hx⟩ := q3 j hj
    exact ⟨x, cell_low hb hx⟩
  · have hf' := set_was h2 hf
    obtain ⟨x0, x1, x2, e1, c0, c1, c2⟩ := q5 hf'
    have hs' : dst ≠ some src := by
      rcases hs with hs | hs
      · exact hs
      · rw [hs] at hf'; cases hf'
    exact ⟨x0, x1, x2, (hget src hs').trans e1, cell_low hb c0, cell_low hb c1, cell_low hb c2⟩
/-- The box is made. -/
theorem Bx.make {al st tmp src lo : Nat} {listed : Array Bool} {a : Act} {u : World} {x y z : Value} {T : TypeId} (hlt : tmp < a.tmps.size) (hst : listed.getD st false = false) (hne : al ≠ st) (hlo : lo ≤ u.heap.size) :
    Bx al st tmp src lo (listed.setIfInBounds al true) (a.put (some tmp) (.pointer (some ⟨u.heap.size, 0, none⟩))) (u.alloc (.cells #[x, y, z] T)) := fun _ => by
  refine ⟨u.heap.size, put_self _ hlt, hlo, by simp, fun i hi => ?_, fun i => ?_, fun hf => ?_⟩
  · have h3 : i = 0 ∨ i = 1 ∨ i = 2 := by omega
    rcases h3 with rfl | rfl | rfl
    all_goals exact ⟨_, by rw [World.cell?_alloc_at _ _ _ _ (by simp)]; rfl⟩
  · rw [World.frozen?_alloc_at _ _ _ _ (by simp)]
  · rw [set_was hne hf] at hst; cases hst
/-- The three cells of a box. -/
def s3 (u : World) (b : Nat) (x y z : Value) : World := ((u.setCell ⟨b, 0, none⟩ x).setCell ⟨b, 1, none⟩ y).setCell ⟨b, 2, none⟩ z
theorem s3_far {u : World} {b : Nat} {x y z : Value} {q : Addr} (h : q.block ≠ b) : (s3 u b x y z).cell? q = u.cell? q ∧ (s3 u b x y z).frozen? q = u.frozen? q := by
  unfold s3
  refine ⟨?_, by rw [World.frozen?_setCell, World.frozen?_setCell, World.frozen?_setCell]⟩
  rw [World.cell?_setCell_other _ _ _ _ (by intro e; exact h (by rw [← e])), World.cell?_setCell_other _ _ _ _ (by intro e; exact h (by rw [← e])), World.cell?_setCell_other _ _ _ _ (by intro e; exact h (by rw [← e]))]
theorem s3_fr {u : World} {b : Nat} {x y z : Value} {q : Addr} : (s3 u b x y z).frozen? q = u.frozen? q := by unfold s3; rw [World.frozen?_setCell, World.frozen?_setCell, World.frozen?_setCell]
theorem s3_size {u : World} {b : Nat} {x y z : Value} : (s3 u b x y z).heap.size = u.heap.size := by simp [s3]
theorem s3_in {u : World} {b : Nat} {x y z p q r : Value} (h0 : u.cell? ⟨b, 0, none⟩ = some p) (h1 : u.cell? ⟨b, 1, none⟩ = some q) (h2 : u.cell? ⟨b, 2, none⟩ = some r) : (s3 u b x y z).cell? ⟨b, 0, none⟩ = some x ∧ (s3 u b x y z).cell? ⟨b, 1, none⟩ = some y ∧ (s3 u b x y z).cell? ⟨b, 2, none⟩ = some z := by
  have ne : ∀ {i j : Nat}, i ≠ j → (⟨b, i, none⟩ : Addr) ≠ ⟨b, j, none⟩ := fun hij e => hij (congrArg Addr.off e)
  unfold s3
  refine ⟨?_, ?_, ?_⟩
  · rw [World.cell?_setCell_other _ _ _ _ (ne (by decide)), World.cell?_setCell_other _ _ _ _ (ne (by decide))]; exact World.cell?_setCell_same _ _ _ h0
  · rw [World.cell?_setCell_other _ _ _ _ (ne (by decide))]
    refine World.cell?_setCell_same _ _ _ (?_ : _ = some q)
    rw [World.cell?_setCell_other _ _ _ _ (ne (by decide))]; exact h1
  · refine World.cell?_setCell_same _ _ _ (?_ : _ = some r)
    rw [World.cell?_setCell_other _ _ _ _ (ne (by decide)), World.cell?_setCell_other _ _ _ _ (ne (by decide))]; exact h2
theorem s3_low {N : Nat} {w u : World} {b : Nat} (h : Below N w u) (hb : N ≤ b) (x y z : Value) : Below N w (s3 u b x y z) := by
  unfold s3
  exact ((h.setCell hb _).setCell hb _).setCell hb _
/-- The box is filled. -/
theorem Bx.fill {al st tmp src lo b : Nat} {listed : Array Bool} {a : Act} {u : World} {x y z : Value} (h : Bx al st tmp src lo listed a u) (hal : listed.getD al false = true) (he : (a.tmps[tmp]?).getD undef = .pointer (some ⟨b, 0, none⟩)) (hv : (a.tmps[src]?).getD undef = .agg #[x, y, z]) :
    Bx al st tmp src lo (listed.setIfInBounds st true) (a.put none undef) (s3 u b x y z) := fun _ => by
  obtain ⟨b', e, q1, q2, q3, q4, q5⟩ := h hal
  rw [he] at e
  simp only [Value.pointer.injEq, Option.some.injEq, Addr.mk.injEq, and_true] at e
  subst e
  obtain ⟨p, hp⟩ := q3 0 (by omega)
  obtain ⟨q, hq⟩ := q3 1 (by omega)
  obtain ⟨r, hr⟩ := q3 2 (by omega)
  obtain ⟨c0, c1, c2⟩ := s3_in (x := x) (y := y) (z := z) hp hq hr
  refine ⟨b, he, q1, by rw [s3_size]; exact q2, fun i hi => ?_, fun i => by rw [s3_fr]; exact q4 i, fun _ => ⟨x, y, z, hv, c0, c1, c2⟩⟩
  have h3 : i = 0 ∨ i = 1 ∨ i = 2 := by omega
  rcases h3 with rfl | rfl | rfl
  · exact ⟨_, c0⟩
  · exact ⟨_, c1⟩
  · exact ⟨_, c2⟩
/-- Another box is filled. -/
theorem Bx.other {al st tmp src lo b i : Nat} {listed : Array Bool} {a : Act} {u : World} {x y z : Value} (h : Bx al st tmp src lo listed a u) (h1 : i ≠ al) (h2 : i ≠ st) (hne : listed.getD al false = true → (a.tmps[tmp]?).getD undef ≠ .pointer (some ⟨b, 0, none⟩)) :
    Bx al st tmp src lo (listed.setIfInBounds i true) (a.put none undef) (s3 u b x y z) := fun hl => by
  have hl' := set_was h1 hl
  obtain ⟨b', e, q1, q2, q3, q4, q5⟩ := h hl'
  have hbb : b' ≠ b := fun e2 => hne hl' (by rw [e, e2])
  refine ⟨b', e, q1, by rw [s3_size]; exact q2, fun i hi => ?_, fun i => by rw [s3_fr]; exact q4 i, fun hf => ?_⟩
  · obtain ⟨x', hx⟩ := q3 i hi
    exact ⟨x', by rw [(s3_far (q := ⟨b', i, none⟩) hbb).1]; exact hx⟩
  · obtain ⟨x0, x1, x2, e1, c0, c1, c2⟩ := q5 (set_was h2 hf)
    exact ⟨x0, x1, x2, e1, by rw [(s3_far (q := ⟨b', 0, none⟩) hbb).1]; exact c0, by rw [(s3_far (q := ⟨b', 1, none⟩) hbb).1]; exact c1, by rw [(s3_far (q := ⟨b', 2, none⟩) hbb).1]; exact c2⟩
/-- Two boxes are two. -/
def Bx2 (al1 al2 t1 t2 : Nat) (listed : Array Bool) (a : Act) : Prop := listed.getD al1 false = true → listed.getD al2 false = true → (a.tmps[t1]?).getD undef ≠ (a.tmps[t2]?).getD undef
theorem Bx2.start {al1 al2 t1 t2 n : Nat} {a : Act} : Bx2 al1 al2 t1 t2 (Array.replicate n false) a := fun h => by
  simp [Array.getD_eq_getD_getElem?, Array.getElem?_replicate] at h
  split at h <;> simp at h
theorem Bx2.keep {al1 al2 t1 t2 i : Nat} {listed : Array Bool} {a : Act} (h : Bx2 al1 al2 t1 t2 listed a) (h1 : i ≠ al1) (h2 : i ≠ al2) {dst : Option Nat} {v : Value} (ht1 : dst ≠ some t1) (ht2 : dst ≠ some t2) : Bx2 al1 al2 t1 t2 (listed.setIfInBounds i true) (a.put dst v) := fun g1 g2 => by
  have hget : ∀ t, dst ≠ some t → ((a.put dst v).tmps[t]?).getD undef = (a.tmps[t]?).getD undef := fun t hd => by
    cases dst with
    | none => rfl
    | some d => exact put_at v (fun e => hd (by rw [e]))
  rw [hget _ ht1, hget _ ht2]
  exact h (set_was h1 g1) (set_was h2 g2)
theorem Bx2.make1 {al1 al2 t1 t2 st2 src2 lo : Nat} {listed : Array Bool} {a : Act} {u : World} (hx : Bx al2 st2 t2 src2 lo listed a u) (hne : al1 ≠ al2) (ht : t1 ≠ t2) (hlt : t1 < a.tmps.size) : Bx2 al1 al2 t1 t2 (listed.setIfInBounds al1 true) (a.put (some t1) (.pointer (some ⟨u.heap.size, 0, none⟩))) := fun _ g2 => by
  obtain ⟨b, e, _, q, _⟩ := hx (set_was hne g2)
  rw [put_self _ hlt, put_at _ ht, e]
  intro h
  simp only [Value.pointer.injEq, Option.some.injEq, Addr.mk.injEq, and_true] at h
  omega
theorem Bx2.make2 {al1 al2 t1 t2 st1 src1 lo : Nat} {listed : Array Bool} {a : Act} {u : World} (hx : Bx al1 st1 t1 src1 lo listed a u) (hne : al2 ≠ al1) (ht : t2 ≠ t1) (hlt : t2 < a.tmps.size) : Bx2 al1 al2 t1 t2 (listed.setIfInBounds al2 true) (a.put (some t2) (.pointer (some ⟨u.heap.size, 0, none⟩))) := fun g1 _ => by
  obtain ⟨b, e, _, q, _⟩ := hx (set_was hne g1)
  rw [put_self _ hlt, put_at _ ht, e]
  intro h
  simp only [Value.pointer.injEq, Option.some.injEq, Addr.mk.injEq, and_true] at h
  omega
/-- A term that operation ot answers into temporary src; a box that operation al makes into temporary tmp is no block of it. -/
def Tr1 (al tmp ot src lo : Nat) (t : Int × Int × Fo) (listed : Array Bool) (a : Act) (u : World) : Prop :=
  listed.getD ot false = true → ∃ x c L H, (a.tmps[src]?).getD undef = .agg #[.int .i64 t.1, .int .i64 t.2.1, .slice x (flen t.2.2) c] ∧ Sl u L H x t.2.2 ∧ lo ≤ L ∧ H ≤ u.heap.size ∧ (listed.getD al false = true → ∃ b, (a.tmps[tmp]?).getD undef = .pointer (some ⟨b, 0, none⟩) ∧ (b < L ∨ H ≤ b))
theorem Tr1.start {al tmp ot src lo n : Nat} {t : Int × Int × Fo} {a : Act} {u : World} : Tr1 al tmp ot src lo t (Array.replicate n false) a u := fun h => by
  simp [Array.getD_eq_getD_getElem?, Array.getElem?_replicate] at h
  split at h <;> simp at h
theorem Tr1.keep {al tmp ot src lo i : Nat} {t : Int × Int × Fo} {listed : Array Bool} {a : Act} {u u' : World} (h : Tr1 al tmp ot src lo t listed a u) (h1 : i ≠ al) (h2 : i ≠ ot) {dst : Option Nat} {v : Value} (ht : dst ≠ some tmp) (hs : dst ≠ some src) (hb : Below u.heap.size u u') :
    Tr1 al tmp ot src lo t (listed.setIfInBounds i true) (a.put dst v) u' := fun hl => by
  obtain ⟨x, c, L, H, e, q1, q2, q3, q4⟩ := h (set_was h2 hl)
  have hget : ∀ t, dst ≠ some t → ((a.put dst v).tmps[t]?).getD undef = (a.tmps[t]?).getD undef := fun t hd => by
    cases dst with
    | none => rfl
    | some d => exact put_at v (fun e => hd (by rw [e]))
  refine ⟨x, c, L, H, (hget _ hs).trans e, q1.same (fun b _ hb2 => hb.block b (by omega)), q2, Nat.le_trans q3 hb.size, fun hal => ?_⟩
  obtain ⟨b, e2, q5⟩ := q4 (set_was h1 hal)
  exact ⟨b, (hget _ ht).trans e2, q5⟩
theorem Tr1.make {al st tmp bsrc ot src lo : Nat} {t : Int × Int × Fo} {listed : Array Bool} {a : Act} {u u' : World} {x : Option Addr} {c : Nat} (hx : Bx al st tmp bsrc lo listed a u) (h1 : ot ≠ al) (hts : src ≠ tmp) (hlt : src < a.tmps.size) (hlo : lo ≤ u.heap.size) (hsl : Sl u' u.heap.size u'.heap.size x t.2.2) :
    Tr1 al tmp ot src lo t (listed.setIfInBounds ot true) (a.put (some src) (.agg #[.int .i64 t.1, .int .i64 t.2.1, .slice x (flen t.2.2) c])) u' := fun _ => by
  refine ⟨x, c, u.heap.size, u'.heap.size, put_self _ hlt, hsl, hlo, Nat.le_refl _, fun hal => ?_⟩
  obtain ⟨b, e, _, q2, _⟩ := hx (set_was h1 hal)
  exact ⟨b, (put_at _ hts).trans e, .inl q2⟩
theorem Tr1.box {al tmp ot src lo : Nat} {t : Int × Int × Fo} {listed : Array Bool} {a : Act} {u : World} {o : Obj} (h : Tr1 al tmp ot src lo t listed a u) (h1 : al ≠ ot) (hts : tmp ≠ src) (hlt : tmp < a.tmps.size) :
    Tr1 al tmp ot src lo t (listed.setIfInBounds al true) (a.put (some tmp) (.pointer (some ⟨u.heap.size, 0, none⟩))) (u.alloc o) := fun hl => by
  obtain ⟨x, c, L, H, e, q1, q2, q3, q4⟩ := h (set_was h1 hl)
  exact ⟨x, c, L, H, (put_at _ hts).trans e, q1.same (fun b _ hb2 => Below.heap_alloc _ _ _ (by omega)), q2, by simp; omega, fun _ => ⟨_, put_self _ hlt, .inr q3⟩⟩
theorem Tr1.fill {al tmp ot src lo i b : Nat} {t : Int × Int × Fo} {listed : Array Bool} {a : Act} {u : World} {x y z : Value} (h : Tr1 al tmp ot src lo t listed a u) (_h1 : i ≠ al) (h2 : i ≠ ot) (hal : listed.getD al false = true) (he : (a.tmps[tmp]?).getD undef = .pointer (some ⟨b, 0, none⟩)) :
    Tr1 al tmp ot src lo t (listed.setIfInBounds i true) (a.put none undef) (s3 u b x y z) := fun hl => by
  obtain ⟨x', c, L, H, e, q1, q2, q3, q4⟩ := h (set_was h2 hl)
  obtain ⟨b', e2, q5⟩ := q4 hal
  rw [he] at e2
  simp only [Value.pointer.injEq, Option.some.injEq, Addr.mk.injEq, and_true] at e2
  subst e2
  refine ⟨x', c, L, H, e, ?_, q2, by rw [s3_size]; exact q3, fun _ => ⟨b, he, q5⟩⟩
  have h0 : Same L H u u := fun _ _ _ => rfl
  unfold s3
  exact q1.same (((h0.setCell q5 _).setCell q5 _).setCell q5 _)
end Go.Proofs.Ytdkcbbhkoibplaa

/-! LD0: LinkDo's walk: what holds in its midst. Definitions and plain lemmas. -/
namespace Go.Proofs.Ytdkcbbhkoibplaa
open Go.RowKit Go.Deep

/-- What LinkDo and ProofEnd answer. -/
def LkPost (r : Option Tm3) (w : World) (e : Ending) (w' : World) : Prop :=
  ∃ a c s v k t, ansR r = ((s, v, k), t) ∧ e = .returned (.tuple #[.agg #[.int .i64 s, .int .i64 v, .slice a (flen k) c], .bool t]) ∧ Below w.heap.size w w' ∧ Sl w' w.heap.size w'.heap.size a k
/-- The boxes of the term, the link and the result. -/
structure LdS (w : World) (s v : Int) (T : Value) (eq : Int) (back : Bool) (P B : Value) (u : World) : Prop where
  low : Below w.heap.size w u
  size : w.heap.size + 3 ≤ u.heap.size
  t0 : u.cell? ⟨w.heap.size, 0, none⟩ = some (.int .i64 s)
  t1 : u.cell? ⟨w.heap.size, 1, none⟩ = some (.int .i64 v)
  t2 : u.cell? ⟨w.heap.size, 2, none⟩ = some T
  l0 : u.cell? ⟨w.heap.size + 1, 0, none⟩ = some (.int .i64 eq)
  l1 : u.cell? ⟨w.heap.size + 1, 1, none⟩ = some (.bool back)
  l2 : u.cell? ⟨w.heap.size + 1, 2, none⟩ = some P
  l3 : u.cell? ⟨w.heap.size + 1, 3, none⟩ = some B
  r0 : u.cell? ⟨w.heap.size + 1 + 1, 0, none⟩ = some (.int .i64 0)
  r1 : u.cell? ⟨w.heap.size + 1 + 1, 1, none⟩ = some (.int .i64 0)
  r2 : u.cell? ⟨w.heap.size + 1 + 1, 2, none⟩ = some (.slice none 0 0)
  f : ∀ i, u.frozen? ⟨w.heap.size + 1 + 1, i, none⟩ = false
theorem LdS.start {w : World} {s v : Int} {T : Value} {eq : Int} {back : Bool} {P B : Value} {T1 T2 T3 : TypeId} : LdS w s v T eq back P B (((w.alloc (.cells #[.int .i64 s, .int .i64 v, T] T1)).alloc (.cells #[.int .i64 eq, .bool back, P, B] T2)).alloc (.cells #[.int .i64 0, .int .i64 0, .slice none 0 0] T3)) := by
  have a0 : ∀ i, (((w.alloc (.cells #[.int .i64 s, .int .i64 v, T] T1)).alloc (.cells #[.int .i64 eq, .bool back, P, B] T2)).alloc (.cells #[.int .i64 0, .int .i64 0, .slice none 0 0] T3)).cell? ⟨w.heap.size, i, none⟩ = #[Value.int .i64 s, .int .i64 v, T][i]? := fun i => by
    rw [World.cell?_alloc_lt _ _ _ (by simp; omega), World.cell?_alloc_lt _ _ _ (by simp), World.cell?_alloc_at _ _ _ _ (by simp)]
  have a1 : ∀ i, (((w.alloc (.cells #[.int .i64 s, .int .i64 v, T] T1)).alloc (.cells #[.int .i64 eq, .bool back, P, B] T2)).alloc (.cells #[.int .i64 0, .int .i64 0, .slice none 0 0] T3)).cell? ⟨w.heap.size + 1, i, none⟩ = #[Value.int .i64 eq, .bool back, P, B][i]? := fun i => by
    rw [World.cell?_alloc_lt _ _ _ (by simp), World.cell?_alloc_at _ _ _ _ (by simp)]
  have a2 : ∀ i, (((w.alloc (.cells #[.int .i64 s, .int .i64 v, T] T1)).alloc (.cells #[.int .i64 eq, .bool back, P, B] T2)).alloc (.cells #[.int .i64 0, .int .i64 0, .slice none 0 0] T3)).cell? ⟨w.heap.size + 1 + 1, i, none⟩ = #[Value.int .i64 0, .int .i64 0, .slice none 0 0][i]? := fun i => by
    rw [World.cell?_alloc_at _ _ _ _ (by simp)]
  exact ⟨(((Below.refl _ _).alloc (Nat.le_refl _) _).alloc (by simp) _).alloc (by simp; omega) _, by simp, a0 0, a0 1, a0 2, a1 0, a1 1, a1 2, a1 3, a2 0, a2 1, a2 2, fun i => by rw [World.frozen?_alloc_at _ _ _ _ (by simp)]⟩
theorem LdS.next {w : World} {s v : Int} {T : Value} {eq : Int} {back : Bool} {P B : Value} {u u' : World} (h : LdS w s v T eq back P B u) (hb : Below u.heap.size u u') : LdS w s v T eq back P B u' :=
  ⟨h.low.trans (hb.mono (by have := h.size; omega)), Nat.le_trans h.size hb.size, cell_low hb h.t0, cell_low hb h.t1, cell_low hb h.t2, cell_low hb h.l0, cell_low hb h.l1, cell_low hb h.l2, cell_low hb h.l3, cell_low hb h.r0, cell_low hb h.r1, cell_low hb h.r2, fun i => (hb.frozen (by have := h.size; simp; omega)).trans (h.f i)⟩
theorem LdS.s3 {w : World} {s v : Int} {T : Value} {eq : Int} {back : Bool} {P B : Value} {u : World} (h : LdS w s v T eq back P B u) {b : Nat} (hb : w.heap.size + 3 ≤ b) (x y z : Value) : LdS w s v T eq back P B (s3 u b x y z) := by
  have hf : ∀ {q i : Nat}, q < w.heap.size + 3 → (Go.Proofs.Ytdkcbbhkoibplaa.s3 u b x y z).cell? ⟨q, i, none⟩ = u.cell? ⟨q, i, none⟩ := fun hq => (s3_far (q := ⟨_, _, none⟩) (by dsimp only; omega)).1
  refine ⟨?_, by rw [s3_size]; exact h.size, by rw [hf (by omega)]; exact h.t0, by rw [hf (by omega)]; exact h.t1, by rw [hf (by omega)]; exact h.t2, by rw [hf (by omega)]; exact h.l0, by rw [hf (by omega)]; exact h.l1, by rw [hf (by omega)]; exact h.l2, by rw [hf (by omega)]; exact h.l3, by rw [hf (by omega)]; exact h.r0, by rw [hf (by omega)]; exact h.r1, by rw [hf (by omega)]; exact h.r2, fun i => by rw [s3_fr]; exact h.f i⟩
  unfold Go.Proofs.Ytdkcbbhkoibplaa.s3
  exact ((h.low.setCell (by simp; omega) _).setCell (by simp; omega) _).setCell (by simp; omega) _
theorem lk_end {w w1 : World} {r : Option Tm3} {s v : Int} {k : Fo} {t : Bool} {a : Option Addr} {c : Nat} (hr : ansR r = ((s, v, k), t)) (hb : Below w.heap.size w w1) (hl : Sl w1 (w.heap.size + 3) w1.heap.size a k) (p q o : Value) :
    LkPost r w (.returned (.tuple #[.agg #[.int .i64 s, .int .i64 v, .slice a (flen k) c], .bool t])) (((w1.setCell ⟨w.heap.size + 1 + 1, 0, none⟩ p).setCell ⟨w.heap.size + 1 + 1, 1, none⟩ q).setCell ⟨w.heap.size + 1 + 1, 2, none⟩ o) := by
  refine ⟨a, c, s, v, k, t, hr, rfl, ((hb.setCell (by simp; omega) _).setCell (by simp; omega) _).setCell (by simp; omega) _, ?_⟩
  have hs : Same (w.heap.size + 3) w1.heap.size w1 (((w1.setCell ⟨w.heap.size + 1 + 1, 0, none⟩ p).setCell ⟨w.heap.size + 1 + 1, 1, none⟩ q).setCell ⟨w.heap.size + 1 + 1, 2, none⟩ o) :=
    (((Same.setCell (fun _ _ _ => rfl) (.inl (by simp)) _).setCell (.inl (by simp)) _).setCell (.inl (by simp)) _)
  exact (hl.same hs).mono (by omega) (by simp)
theorem lkR_bad {es : List Eqd} {t : Tm3} {l : Lk} (h : okEs es = false) : lkR es t l = none := by unfold lkR; rw [if_neg (fun h' => by rw [h] at h'; cases h'.1)]
theorem lkR_big {es : List Eqd} {t : Tm3} {l : Lk} (h : okT3 64 t = false) : lkR es t l = none := by unfold lkR; rw [if_neg (fun h' => by rw [h] at h'; cases h'.2)]
theorem lkR_eq {es : List Eqd} {t : Tm3} {l : Lk} (h : okEs es = true) (h2 : okT3 64 t = true) : lkR es t l = lk1 es t l := by unfold lkR; rw [if_pos ⟨h, h2⟩]
theorem lk1_in {es : List Eqd} {t : Tm3} {l : Lk} (h : ¬ (0 ≤ l.1 ∧ l.1 < (es.length : Int))) : lk1 es t l = none := by unfold lk1; rw [if_neg (fun h' => h h'.2)]
theorem lk1_sok {es : List Eqd} {t : Tm3} {l : Lk} (h : sok 64 l.2.2.2 = false) : lk1 es t l = none := by unfold lk1; rw [if_neg (fun h' => by rw [h] at h'; cases h'.1)]
theorem lk1_at {es : List Eqd} {t : Tm3} {i : Nat} {b : Bool} {pl : List Int} {bs : List Bd} {e : Eqd} (hi : es[i]? = some e) (hs : sok 64 bs = true) : lk1 es t ((i : Int), b, pl, bs) = lkAt t pl (put3 (sv bs) (sidesR e b).1) (put3 (sv bs) (sidesR e b).2) := by
  have hlt := (List.getElem?_eq_some_iff.1 hi).1
  unfold lk1
  simp only [Int.toNat_natCast]
  rw [if_pos ⟨hs, by omega, by omega⟩, hi]
  rfl
theorem lkAt_none {t : Tm3} {pl : List Int} {f g : Tm3} (h : fat t.1 t.2.1 t.2.2 pl = none) : lkAt t pl f g = none := by unfold lkAt; rw [h]
theorem lkAt_other {t : Tm3} {pl : List Int} {f g h : Tm3} (h1 : fat t.1 t.2.1 t.2.2 pl = some h) (h2 : teq h.1 h.2.1 h.2.2 f.1 f.2.1 f.2.2 = false) : lkAt t pl f g = none := by unfold lkAt; rw [h1]; dsimp only; rw [h2]; rfl
theorem lkAt_out {t : Tm3} {pl : List Int} {f g h out : Tm3} (h1 : fat t.1 t.2.1 t.2.2 pl = some h) (h2 : teq h.1 h.2.1 h.2.2 f.1 f.2.1 f.2.2 = true) (h3 : fput t.1 t.2.1 t.2.2 pl g = some out) : lkAt t pl f g = if okT3 64 out = true then some out else none := by
  unfold lkAt; rw [h1]; dsimp only; rw [if_pos h2, h3]
theorem ans_none {r : Option Tm3} (h : r = none) : ansR r = ((0, 0, .nil), false) := by rw [h]; rfl
theorem ans_some {r : Option Tm3} {t : Tm3} (h : r = some t) : ansR r = (t, true) := by rw [h]; rfl
end Go.Proofs.Ytdkcbbhkoibplaa

/-! LI: Rows of links in memory; what goes through them, for a loop over a function. -/
namespace Go.Proofs.Ytdkcbbhkoibplaa
open Go.RowKit Go.Deep Go.Shelf

/-- A slice's address at which the links ls lie. -/
def LSl (w : World) (lo B : Nat) (a : Option Addr) (ls : List Lk) : Prop :=
  ls = [] ∨ ∃ b o, a = some ⟨b, o, none⟩ ∧ lo ≤ b ∧ b < B ∧ ∀ (i : Nat) (x : Lk), ls[i]? = some x → ∃ pA pC sA sC, w.cell? ⟨b, o + i * 4, none⟩ = some (.int .i64 x.1) ∧ w.cell? ⟨b, o + i * 4 + 1, none⟩ = some (.bool x.2.1) ∧ w.cell? ⟨b, o + i * 4 + 2, none⟩ = some (.slice pA x.2.2.1.length pC) ∧ w.cell? ⟨b, o + i * 4 + 3, none⟩ = some (.slice sA x.2.2.2.length sC) ∧ ISc w lo B pA pC x.2.2.1 ∧ BSl w lo B sA x.2.2.2
theorem LSl.same {w w' : World} {lo B : Nat} {a : Option Addr} {ls : List Lk} (hb : Same lo B w w') (h : LSl w lo B a ls) : LSl w' lo B a ls := by
  rcases h with h | ⟨b, o, e, h1, h2, h3⟩
  · exact .inl h
  · refine .inr ⟨b, o, e, h1, h2, fun i x hx => ?_⟩
    obtain ⟨pA, pC, sA, sC, c0, c1, c2, c3, hl, hl2⟩ := h3 i x hx
    exact ⟨pA, pC, sA, sC, by rw [hb.cell h1 h2]; exact c0, by rw [hb.cell h1 h2]; exact c1, by rw [hb.cell h1 h2]; exact c2, by rw [hb.cell h1 h2]; exact c3, hl.same hb, hl2.same hb⟩
theorem LSl.mono {w : World} {lo lo' B B' : Nat} {a : Option Addr} {ls : List Lk} (hlo : lo' ≤ lo) (hB : B ≤ B') (h : LSl w lo B a ls) : LSl w lo' B' a ls := by
  rcases h with h | ⟨b, o, e, h1, h2, h3⟩
  · exact .inl h
  · refine .inr ⟨b, o, e, by omega, by omega, fun i x hx => ?_⟩
    obtain ⟨pA, pC, sA, sC, c0, c1, c2, c3, hl, hl2⟩ := h3 i x hx
    exact ⟨pA, pC, sA, sC, c0, c1, c2, c3, hl.mono hlo hB, hl2.mono hlo hB⟩
theorem LSl.below {w w' : World} {lo B : Nat} {a : Option Addr} {ls : List Lk} (hb : Below B w w') (h : LSl w lo B a ls) : LSl w' lo B a ls := h.same (Same.of_below hb)
theorem LSl.next {w w' : World} {a : Option Addr} {ls : List Lk} (h : LSl w 0 w.heap.size a ls) (hb : Below w.heap.size w w') : LSl w' 0 w'.heap.size a ls := (h.below hb).mono (Nat.le_refl _) hb.size

/-- Where a link's place and binds lie. -/
abbrev Ld := Option Addr × Nat × Option Addr × Nat
def lval (x : Lk) (d : Ld) : Value := .agg #[.int .i64 x.1, .bool x.2.1, .slice d.1 x.2.2.1.length d.2.1, .slice d.2.2.1 x.2.2.2.length d.2.2.2]
/-- The cells of a row of links, the addresses given. -/
def LRow (w : World) (b o : Nat) (ls : List Lk) (f : Nat → Ld) : Prop :=
  ∀ (i : Nat) (x : Lk), ls[i]? = some x → w.cell? ⟨b, o + i * 4, none⟩ = some (.int .i64 x.1) ∧ w.cell? ⟨b, o + i * 4 + 1, none⟩ = some (.bool x.2.1) ∧ w.cell? ⟨b, o + i * 4 + 2, none⟩ = some (.slice (f i).1 x.2.2.1.length (f i).2.1) ∧ w.cell? ⟨b, o + i * 4 + 3, none⟩ = some (.slice (f i).2.2.1 x.2.2.2.length (f i).2.2.2)
theorem LSl.row {w : World} {lo B : Nat} {a : Option Addr} {ls : List Lk} (h : LSl w lo B a ls) (hne : 0 < ls.length) : ∃ b o f, a = some ⟨b, o, none⟩ ∧ b < B ∧ LRow w b o ls f ∧ ∀ (i : Nat) (x : Lk), ls[i]? = some x → ISc w lo B (f i).1 (f i).2.1 x.2.2.1 ∧ BSl w lo B (f i).2.2.1 x.2.2.2 := by
  rcases h with rfl | ⟨b, o, e, h1, h2, h3⟩
  · simp at hne
  · have h4 : ∀ i : Nat, ∃ d : Ld, ∀ x, ls[i]? = some x → (w.cell? ⟨b, o + i * 4, none⟩ = some (.int .i64 x.1) ∧ w.cell? ⟨b, o + i * 4 + 1, none⟩ = some (.bool x.2.1) ∧ w.cell? ⟨b, o + i * 4 + 2, none⟩ = some (.slice d.1 x.2.2.1.length d.2.1) ∧ w.cell? ⟨b, o + i * 4 + 3, none⟩ = some (.slice d.2.2.1 x.2.2.2.length d.2.2.2)) ∧ ISc w lo B d.1 d.2.1 x.2.2.1 ∧ BSl w lo B d.2.2.1 x.2.2.2 := fun i => by
      cases hx : ls[i]? with
      | none => exact ⟨(none, 0, none, 0), fun x h => by cases h⟩
      | some y =>
        obtain ⟨pA, pC, sA, sC, c0, c1, c2, c3, hl, hl2⟩ := h3 i y hx
        exact ⟨(pA, pC, sA, sC), fun x h => by cases h; exact ⟨⟨c0, c1, c2, c3⟩, hl, hl2⟩⟩
    obtain ⟨f, hf⟩ := Classical.axiomOfChoice h4
    exact ⟨b, o, f, e, h2, fun i x hx => (hf i x hx).1, fun i x hx => (hf i x hx).2⟩
/-- The i-th link's value. -/
def lenc (ls : List Lk) (f : Nat → Ld) (i : Fin ls.length) : Array Value := #[lval ls[i] (f i)]
/-- What a round keeps. -/
def LKp (n₀ B1 B2 : Nat) (W W' : World) : Prop := Below n₀ W W' ∧ W'.heap[B1]? = W.heap[B1]? ∧ W'.heap[B2]? = W.heap[B2]?
theorem LKp.trans {n₀ B1 B2 : Nat} {A B C : World} (h : LKp n₀ B1 B2 A B) (k : LKp n₀ B1 B2 B C) : LKp n₀ B1 B2 A C := ⟨h.1.trans k.1, k.2.1.trans h.2.1, k.2.2.trans h.2.2⟩
theorem LKp.book {n₀ B1 B2 : Nat} {w : World} (hn : n₀ ≤ w.heap.size) (h1 : B1 < w.heap.size) (h2 : B2 < w.heap.size) (W : World) (l : Nat) (o o' : Obj) (hl : w.heap.size ≤ l) (h : W.heap[l]? = some o) (hc : o.isCells = false) (hw : o.isWalk = false) : LKp n₀ B1 B2 W (W.putObj l o') :=
  ⟨belowK_b hn W l o o' hl h hc hw, World.putObj_heap_other (by omega), World.putObj_heap_other (by omega)⟩

attribute [local go_sem] Oper.semAt_some
/-- How many come first: those from the head, or those from the end. -/
def lsq (back : Bool) (ls : List Lk) : List Lk := if back = true then ls.reverse else ls
theorem lsq_false (ls : List Lk) : lsq false ls = ls := rfl
theorem lsq_true (ls : List Lk) : lsq true ls = ls.reverse := rfl

set_option maxRecDepth 100000 in
set_option maxHeartbeats 2000000 in
theorem links1_in (F : Fence) (n : Nat) (hf : F.fn 101) (hro : F.round = none) (hn : 1 ≤ n) (l B1 B2 n₀ b o C : Nat) (back : Bool) (ls : List Lk) (f : Nat → Ld) (hll : ls.length ≤ 1000000) (hb : b < n₀) (J Jx : List (Fin ls.length) → World → Prop)
    (hY : ∀ pre x W, J pre W → pre.length < ls.length → YieldAt F (n - 1) Try.prog l (lenc ls f x) W fun e W' =>
      (e = .returned (.bool true) ∧ J (pre ++ [x]) W' ∧ LKp n₀ B1 B2 W W') ∨ (e = .returned (.bool false) ∧ Jx (pre ++ [x]) W'))
    (W : World) (hB1 : W.cell? ⟨B1, 0, none⟩ = some (.slice (some ⟨b, o, none⟩) ls.length C)) (hB2 : W.cell? ⟨B2, 0, none⟩ = some (.bool back)) (hc : LRow W b o ls f) (h0 : J [] W) :
    CallsIn F n Try.prog 101 #[.func (.yield l) #[] #[], .pointer (some ⟨B1, 0, none⟩), .pointer (some ⟨B2, 0, none⟩)] W fun e W' => (∃ v, e = .returned v) ∧
      ((∃ ys : List (Fin ls.length), ys.map (fun i => ls[i]) = lsq back ls ∧ J ys W') ∨ (∃ pre : List (Fin ls.length), pre.map (fun i => ls[i]) <+: lsq back ls ∧ Jx pre W')) := by
  refine callsIn_of_wp Try.func101 rfl hf ?_ hro
  simp only [Try.ntmps101, List.size_toArray, List.length_cons, List.length_nil, Nat.reduceAdd, Nat.reduceSub, Array.replicate_succ, Array.replicate_zero, List.push_toArray, List.append_toArray, List.nil_append, List.cons_append]
  gi_wp2
  gi_loopw [7] (fun i wr => ∃ (k : Nat) (pre : List (Fin ls.length)), k ≤ ls.length ∧ i = .int .i64 k ∧ pre.length = k ∧ pre.map (fun i => ls[i]) = (lsq back ls).take k ∧ J pre wr ∧ LKp n₀ B1 B2 W wr) (fun i _ => ls.length - (intOf i).toNat)
  case atStart => exact ⟨0, [], Nat.zero_le _, rfl, rfl, by simp, h0, Below.refl _ _, rfl, rfl⟩
  case round =>
    obtain ⟨k, pre, hk, rfl, hpl, hpm, hJs, hnx⟩ := hrel
    have q1 : wr.cell? ⟨B1, 0, none⟩ = some (.slice (some ⟨b, o, none⟩) ls.length C) := (World.cell?_of_block (a := ⟨B1, 0, none⟩) hnx.2.1).trans hB1
    have q2 : wr.cell? ⟨B2, 0, none⟩ = some (.bool back) := (World.cell?_of_block (a := ⟨B2, 0, none⟩) hnx.2.2).trans hB2
    by_cases hlt : k < ls.length
    · have hrow : ∀ (i : Nat) (hi : i < ls.length), wr.cell? ⟨b, o + i * 4, none⟩ = some (.int .i64 ls[i].1) ∧ wr.cell? ⟨b, o + i * 4 + 1, none⟩ = some (.bool ls[i].2.1) ∧ wr.cell? ⟨b, o + i * 4 + 2, none⟩ = some (.slice (f i).1 ls[i].2.2.1.length (f i).2.1) ∧ wr.cell? ⟨b, o + i * 4 + 3, none⟩ = some (.slice (f i).2.2.1 ls[i].2.2.2.length (f i).2.2.2) := fun i hi => by
        obtain ⟨c0, c1, c2, c3⟩ := hc i ls[i] (List.getElem?_eq_getElem hi)
        exact ⟨(hnx.1.cell (p := ⟨b, _, none⟩) hb).trans c0, (hnx.1.cell (p := ⟨b, _, none⟩) hb).trans c1, (hnx.1.cell (p := ⟨b, _, none⟩) hb).trans c2, (hnx.1.cell (p := ⟨b, _, none⟩) hb).trans c3⟩
      cases back with
      | false =>
        obtain ⟨fn, tmps, assign, body, hy, hR⟩ := hY pre ⟨k, hlt⟩ wr hJs (by rw [hpl]; exact hlt)
        obtain ⟨c0, c1, c2, c3⟩ := hrow k hlt
        simp only [lenc, lval, Fin.getElem_fin] at hy
        gi_wp2
        refine hR.mono ?_
        rintro e W3 (⟨rfl, hJ3, hk3⟩ | ⟨rfl, hJx3⟩)
        · gi_wp2
          go_roundw
          case rel => exact ⟨k + 1, pre ++ [⟨k, hlt⟩], by omega, by simp, by simp [hpl], (by rw [List.map_append, hpm, lsq_false, List.take_succ_eq_append_getElem hlt]; rfl), hJ3, hnx.trans hk3⟩
          case measure => simp [intOf]; omega
        · gi_wp2
          refine bodyPost_ret (results_none rfl _ _ _) rfl ?_
          exact ⟨⟨_, rfl⟩, .inr ⟨_, (by rw [List.map_append, hpm, lsq_false]; exact (show _ = ls.take (k + 1) by rw [List.take_succ_eq_append_getElem hlt]) ▸ List.take_prefix _ _), hJx3⟩⟩
      | true =>
        have hlt2 : ls.length - 1 - k < ls.length := by omega
        obtain ⟨fn, tmps, assign, body, hy, hR⟩ := hY pre ⟨ls.length - 1 - k, hlt2⟩ wr hJs (by rw [hpl]; exact hlt)
        obtain ⟨c0, c1, c2, c3⟩ := hrow (ls.length - 1 - k) hlt2
        simp only [lenc, lval, Fin.getElem_fin] at hy
        have hi1 : ((ls.length : Int) - 1 - k) = ((ls.length - 1 - k : Nat) : Int) := by omega
        gi_wp2
        refine hR.mono ?_
        rintro e W3 (⟨rfl, hJ3, hk3⟩ | ⟨rfl, hJx3⟩)
        · gi_wp2
          go_roundw
          case rel => exact ⟨k + 1, pre ++ [⟨ls.length - 1 - k, hlt2⟩], by omega, by simp, by simp [hpl], (by rw [List.map_append, hpm, lsq_true, List.take_succ_eq_append_getElem (l := ls.reverse) (by simpa using hlt), List.getElem_reverse]; rfl), hJ3, hnx.trans hk3⟩
          case measure => simp [intOf]; omega
        · gi_wp2
          refine bodyPost_ret (results_none rfl _ _ _) rfl ?_
          exact ⟨⟨_, rfl⟩, .inr ⟨_, (by rw [List.map_append, hpm, lsq_true]; exact (show _ = ls.reverse.take (k + 1) by rw [List.take_succ_eq_append_getElem (l := ls.reverse) (by simpa using hlt), List.getElem_reverse]) ▸ List.take_prefix _ _), hJx3⟩⟩
    · obtain rfl : k = ls.length := by omega
      gi_wp2
      go_end0
      refine ⟨⟨_, rfl⟩, .inl ⟨pre, ?_, hJs⟩⟩
      rw [hpm, List.take_of_length_le (by simp [lsq]; split <;> simp)]

set_option maxRecDepth 100000 in
set_option maxHeartbeats 1000000 in
theorem links1_none (F : Fence) (n : Nat) (hf : F.fn 101) (hro : F.round = none) (l B1 B2 : Nat) (A : Option Addr) (C : Nat) (ls : List Lk) (J : List (Fin ls.length) → World → Prop) (hls : ls.length = 0)
    (W : World) (hB1 : W.cell? ⟨B1, 0, none⟩ = some (.slice A ls.length C)) (h0 : J [] W) :
    CallsIn F n Try.prog 101 #[.func (.yield l) #[] #[], .pointer (some ⟨B1, 0, none⟩), .pointer (some ⟨B2, 0, none⟩)] W fun e W' => (∃ v, e = .returned v) ∧ J [] W' := by
  rw [hls] at hB1
  refine callsIn_of_wp Try.func101 rfl hf ?_ hro
  simp only [Try.ntmps101, List.size_toArray, List.length_cons, List.length_nil, Nat.reduceAdd, Nat.reduceSub, Array.replicate_succ, Array.replicate_zero, List.push_toArray, List.append_toArray, List.nil_append, List.cons_append]
  gi_wp2
  gi_loopw [7] (fun i wr => i = .int .i64 0 ∧ J [] wr) (fun _ _ => 0)
  case atStart => exact ⟨rfl, h0⟩
  case round =>
    obtain ⟨rfl, hJs⟩ := hrel
    gi_wp2
    go_end0
    exact ⟨⟨_, rfl⟩, hJs⟩

set_option maxHeartbeats 1000000 in
/-- What linksOf hands back: both of its arguments in boxes. -/
theorem linksOf_in (F : Fence) (n : Nat) (h5 : F.fn 77) (hro : F.round = none) (A : Option Addr) (len C : Nat) (back : Bool) (w : World) :
    CallsIn F n Try.prog 77 #[.slice A len C, .bool back] w fun e w' => e = .returned (.func (.func 101) #[] #[.pointer (some ⟨w.heap.size, 0, none⟩), .pointer (some ⟨w.heap.size + 1, 0, none⟩)]) ∧ w' = (w.alloc (.cells #[.slice A len C] 66)).alloc (.cells #[.bool back] 4) := by
  refine callsIn_of_wp Try.func77 rfl h5 ?_ hro
  simp only [Try.ntmps77, List.size_toArray, List.length_cons, List.length_nil, Nat.reduceAdd, Nat.reduceSub, Array.replicate_succ, Array.replicate_zero, List.push_toArray, List.append_toArray, List.nil_append, List.cons_append]
  gi_wp2
  go_ret
  exact ⟨by simp, rfl⟩

/-- A row of links comes out whole, in order, or in part. -/
theorem links_stops (F : Fence) (n : Nat) (hf : F.fn 101) (hro : F.round = none) (hn : 1 ≤ n) (B1 B2 n₀ : Nat) (A : Option Addr) (C : Nat) (back : Bool) (ls : List Lk) (f : Nat → Ld) (hll : ls.length ≤ 1000000) (w : World)
    (hB1 : w.cell? ⟨B1, 0, none⟩ = some (.slice A ls.length C)) (hB2 : w.cell? ⟨B2, 0, none⟩ = some (.bool back)) (hn₀ : n₀ ≤ w.heap.size)
    (hc : ls = [] ∨ ∃ b o, A = some ⟨b, o, none⟩ ∧ b < n₀ ∧ LRow w b o ls f) :
    SeqStopsK F n Try.prog 101 #[.pointer (some ⟨B1, 0, none⟩), .pointer (some ⟨B2, 0, none⟩)] (lenc ls f) (LKp n₀ B1 B2) (fun ys => ys.map (fun i => ls[i]) = lsq back ls) (fun pre => pre.map (fun i => ls[i]) <+: lsq back ls) ls.length w := fun l J Jx W hW _ _ hY h0 => by
  have hb1 : B1 < w.heap.size := World.block_lt_of_cell? _ _ hB1
  have hb2 : B2 < w.heap.size := World.block_lt_of_cell? _ _ hB2
  have q1 := (hW.cell (p := ⟨B1, 0, none⟩) hb1).trans hB1
  have q2 := (hW.cell (p := ⟨B2, 0, none⟩) hb2).trans hB2
  rcases hc with rfl | ⟨b, o, rfl, hb, hc⟩
  · refine (links1_none F n hf hro l B1 B2 A C [] J rfl W q1 h0).mono ?_
    rintro e W' ⟨he, hj⟩
    exact ⟨he, .inl ⟨[], by simp [lsq], hj⟩⟩
  · refine links1_in F n hf hro hn l B1 B2 n₀ b o C back ls f hll hb J Jx hY W q1 q2 (fun i x hx => ?_) h0
    obtain ⟨c0, c1, c2, c3⟩ := hc i x hx
    have hbb : b < w.heap.size := by omega
    exact ⟨(hW.cell (p := ⟨b, _, none⟩) hbb).trans c0, (hW.cell (p := ⟨b, _, none⟩) hbb).trans c1, (hW.cell (p := ⟨b, _, none⟩) hbb).trans c2, (hW.cell (p := ⟨b, _, none⟩) hbb).trans c3⟩
end Go.Proofs.Ytdkcbbhkoibplaa
