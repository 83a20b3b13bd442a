/- Several texts in one: BX, LD0, A2o. -/
import Derived.Test.YtoafleckcjanaaaKLk21
import Derived.Test.YtoafleckcjanaaaKLk15
import Derived.Test.YtoafleckcjanaaaKLk20
import Derived.Test.YtoafleckcjanaaaKLk8
import Derived.Test.YtoafleckcjanaaaKLk18

/-! BX: Boxes that are made and filled in a region that draws its order. Plain lemmas. -/
namespace Go.Proofs.Ytoafleckcjanaaa
open Go.RowKit Go.Deep

/-- A box of three cells: made by operation al into temporary tmp, filled by operation st from temporary src. -/
def Bx (al st tmp src lo : Nat) (listed : Array Bool) (a : Act) (u : World) : Prop :=
  listed.getD al false = true → ∃ b, (a.tmps[tmp]?).getD undef = .pointer (some ⟨b, 0, none⟩) ∧ lo ≤ b ∧ b < u.heap.size ∧ (∀ i, i < 3 → ∃ x, u.cell? ⟨b, i, none⟩ = some x) ∧ (∀ i, u.frozen? ⟨b, i, none⟩ = false) ∧
    (listed.getD st false = true → ∃ x0 x1 x2, (a.tmps[src]?).getD undef = .agg #[x0, x1, x2] ∧ u.cell? ⟨b, 0, none⟩ = some x0 ∧ u.cell? ⟨b, 1, none⟩ = some x1 ∧ u.cell? ⟨b, 2, none⟩ = some x2)
theorem Bx.start {al st tmp src lo n : Nat} {a : Act} {u : World} : Bx al st tmp src lo (Array.replicate n false) a u := fun h => by
  simp [Array.getD_eq_getD_getElem?, Array.getElem?_replicate] at h
  split at h <;> simp at h
/-- Another operation, that adds memory at most. -/
theorem Bx.keep {al st tmp src lo i : Nat} {listed : Array Bool} {a : Act} {u u' : World} (h : Bx al st tmp src lo listed a u) (h1 : i ≠ al) (h2 : i ≠ st) {dst : Option Nat} {v : Value} (ht : dst ≠ some tmp) (hs : dst ≠ some src ∨ listed.getD st false = false) (hb : Below u.heap.size u u') :
    Bx al st tmp src lo (listed.setIfInBounds i true) (a.put dst v) u' := fun hl => by
  obtain ⟨b, e, q1, q2, q3, q4, q5⟩ := h (set_was h1 hl)
  have hget : ∀ t, dst ≠ some t → ((a.put dst v).tmps[t]?).getD undef = (a.tmps[t]?).getD undef := fun t hd => by
    cases dst with
    | none => rfl
    | some d => exact put_at v (fun e => hd (by rw [e]))
  refine ⟨b, (hget tmp ht).trans e, q1, Nat.lt_of_lt_of_le q2 hb.size, fun j hj => ?_, fun j => (hb.frozen q2).trans (q4 j), fun hf => ?_⟩
  · obtain ⟨x, hx⟩ := q3 j hj
    exact ⟨x, cell_low hb hx⟩
  · have hf' := set_was h2 hf
    obtain ⟨x0, x1, x2, e1, c0, c1, c2⟩ := q5 hf'
    have hs' : dst ≠ some src := by
      rcases hs with hs | hs
      · exact hs
      · rw [hs] at hf'; cases hf'
    exact ⟨x0, x1, x2, (hget src hs').trans e1, cell_low hb c0, cell_low hb c1, cell_low hb c2⟩
/-- The box is made. -/
theorem Bx.make {al st tmp src lo : Nat} {listed : Array Bool} {a : Act} {u : World} {x y z : Value} {T : TypeId} (hlt : tmp < a.tmps.size) (hst : listed.getD st false = false) (hne : al ≠ st) (hlo : lo ≤ u.heap.size) :
    Bx al st tmp src lo (listed.setIfInBounds al true) (a.put (some tmp) (.pointer (some ⟨u.heap.size, 0, none⟩))) (u.alloc (.cells #[x, y, z] T)) := fun _ => by
  refine ⟨u.heap.size, put_self _ hlt, hlo, by simp, fun i hi => ?_, fun i => ?_, fun hf => ?_⟩
  · have h3 : i = 0 ∨ i = 1 ∨ i = 2 := by omega
    rcases h3 with rfl | rfl | rfl
    all_goals exact ⟨_, by rw [World.cell?_alloc_at _ _ _ _ (by simp)]; rfl⟩
  · rw [World.frozen?_alloc_at _ _ _ _ (by simp)]
  · rw [set_was hne hf] at hst; cases hst
/-- The three cells of a box. -/
def s3 (u : World) (b : Nat) (x y z : Value) : World := ((u.setCell ⟨b, 0, none⟩ x).setCell ⟨b, 1, none⟩ y).setCell ⟨b, 2, none⟩ z
theorem s3_far {u : World} {b : Nat} {x y z : Value} {q : Addr} (h : q.block ≠ b) : (s3 u b x y z).cell? q = u.cell? q ∧ (s3 u b x y z).frozen? q = u.frozen? q := by
  unfold s3
  refine ⟨?_, by rw [World.frozen?_setCell, World.frozen?_setCell, World.frozen?_setCell]⟩
  rw [World.cell?_setCell_other _ _ _ _ (by intro e; exact h (by rw [← e])), World.cell?_setCell_other _ _ _ _ (by intro e; exact h (by rw [← e])), World.cell?_setCell_other _ _ _ _ (by intro e; exact h (by rw [← e]))]
theorem s3_fr {u : World} {b : Nat} {x y z : Value} {q : Addr} : (s3 u b x y z).frozen? q = u.frozen? q := by unfold s3; rw [World.frozen?_setCell, World.frozen?_setCell, World.frozen?_setCell]
theorem s3_size {u : World} {b : Nat} {x y z : Value} : (s3 u b x y z).heap.size = u.heap.size := by simp [s3]
theorem s3_in {u : World} {b : Nat} {x y z p q r : Value} (h0 : u.cell? ⟨b, 0, none⟩ = some p) (h1 : u.cell? ⟨b, 1, none⟩ = some q) (h2 : u.cell? ⟨b, 2, none⟩ = some r) : (s3 u b x y z).cell? ⟨b, 0, none⟩ = some x ∧ (s3 u b x y z).cell? ⟨b, 1, none⟩ = some y ∧ (s3 u b x y z).cell? ⟨b, 2, none⟩ = some z := by
  have ne : ∀ {i j : Nat}, i ≠ j → (⟨b, i, none⟩ : Addr) ≠ ⟨b, j, none⟩ := fun hij e => hij (congrArg Addr.off e)
  unfold s3
  refine ⟨?_, ?_, ?_⟩
  · rw [World.cell?_setCell_other _ _ _ _ (ne (by decide)), World.cell?_setCell_other _ _ _ _ (ne (by decide))]; exact World.cell?_setCell_same _ _ _ h0
  · rw [World.cell?_setCell_other _ _ _ _ (ne (by decide))]
    refine World.cell?_setCell_same _ _ _ (?_ : _ = some q)
    rw [World.cell?_setCell_other _ _ _ _ (ne (by decide))]; exact h1
  · refine World.cell?_setCell_same _ _ _ (?_ : _ = some r)
    rw [World.cell?_setCell_other _ _ _ _ (ne (by decide)), World.cell?_setCell_other _ _ _ _ (ne (by decide))]; exact h2
theorem s3_low {N : Nat} {w u : World} {b : Nat} (h : Below N w u) (hb : N ≤ b) (x y z : Value) : Below N w (s3 u b x y z) := by
  unfold s3
  exact ((h.setCell hb _).setCell hb _).setCell hb _
/-- The box is filled. -/
theorem Bx.fill {al st tmp src lo b : Nat} {listed : Array Bool} {a : Act} {u : World} {x y z : Value} (h : Bx al st tmp src lo listed a u) (hal : listed.getD al false = true) (he : (a.tmps[tmp]?).getD undef = .pointer (some ⟨b, 0, none⟩)) (hv : (a.tmps[src]?).getD undef = .agg #[x, y, z]) :
    Bx al st tmp src lo (listed.setIfInBounds st true) (a.put none undef) (s3 u b x y z) := fun _ => by
  obtain ⟨b', e, q1, q2, q3, q4, q5⟩ := h hal
  rw [he] at e
  simp only [Value.pointer.injEq, Option.some.injEq, Addr.mk.injEq, and_true] at e
  subst e
  obtain ⟨p, hp⟩ := q3 0 (by omega)
  obtain ⟨q, hq⟩ := q3 1 (by omega)
  obtain ⟨r, hr⟩ := q3 2 (by omega)
  obtain ⟨c0, c1, c2⟩ := s3_in (x := x) (y := y) (z := z) hp hq hr
  refine ⟨b, he, q1, by rw [s3_size]; exact q2, fun i hi => ?_, fun i => by rw [s3_fr]; exact q4 i, fun _ => ⟨x, y, z, hv, c0, c1, c2⟩⟩
  have h3 : i = 0 ∨ i = 1 ∨ i = 2 := by omega
  rcases h3 with rfl | rfl | rfl
  · exact ⟨_, c0⟩
  · exact ⟨_, c1⟩
  · exact ⟨_, c2⟩
/-- Another box is filled. -/
theorem Bx.other {al st tmp src lo b i : Nat} {listed : Array Bool} {a : Act} {u : World} {x y z : Value} (h : Bx al st tmp src lo listed a u) (h1 : i ≠ al) (h2 : i ≠ st) (hne : listed.getD al false = true → (a.tmps[tmp]?).getD undef ≠ .pointer (some ⟨b, 0, none⟩)) :
    Bx al st tmp src lo (listed.setIfInBounds i true) (a.put none undef) (s3 u b x y z) := fun hl => by
  have hl' := set_was h1 hl
  obtain ⟨b', e, q1, q2, q3, q4, q5⟩ := h hl'
  have hbb : b' ≠ b := fun e2 => hne hl' (by rw [e, e2])
  refine ⟨b', e, q1, by rw [s3_size]; exact q2, fun i hi => ?_, fun i => by rw [s3_fr]; exact q4 i, fun hf => ?_⟩
  · obtain ⟨x', hx⟩ := q3 i hi
    exact ⟨x', by rw [(s3_far (q := ⟨b', i, none⟩) hbb).1]; exact hx⟩
  · obtain ⟨x0, x1, x2, e1, c0, c1, c2⟩ := q5 (set_was h2 hf)
    exact ⟨x0, x1, x2, e1, by rw [(s3_far (q := ⟨b', 0, none⟩) hbb).1]; exact c0, by rw [(s3_far (q := ⟨b', 1, none⟩) hbb).1]; exact c1, by rw [(s3_far (q := ⟨b', 2, none⟩) hbb).1]; exact c2⟩
/-- Two boxes are two. -/
def Bx2 (al1 al2 t1 t2 : Nat) (listed : Array Bool) (a : Act) : Prop := listed.getD al1 false = true → listed.getD al2 false = true → (a.tmps[t1]?).getD undef ≠ (a.tmps[t2]?).getD undef
theorem Bx2.start {al1 al2 t1 t2 n : Nat} {a : Act} : Bx2 al1 al2 t1 t2 (Array.replicate n false) a := fun h => by
  simp [Array.getD_eq_getD_getElem?, Array.getElem?_replicate] at h
  split at h <;> simp at h
theorem Bx2.keep {al1 al2 t1 t2 i : Nat} {listed : Array Bool} {a : Act} (h : Bx2 al1 al2 t1 t2 listed a) (h1 : i ≠ al1) (h2 : i ≠ al2) {dst : Option Nat} {v : Value} (ht1 : dst ≠ some t1) (ht2 : dst ≠ some t2) : Bx2 al1 al2 t1 t2 (listed.setIfInBounds i true) (a.put dst v) := fun g1 g2 => by
  have hget : ∀ t, dst ≠ some t → ((a.put dst v).tmps[t]?).getD undef = (a.tmps[t]?).getD undef := fun t hd => by
    cases dst with
    | none => rfl
    | some d => exact put_at v (fun e => hd (by rw [e]))
  rw [hget _ ht1, hget _ ht2]
  exact h (set_was h1 g1) (set_was h2 g2)
theorem Bx2.make1 {al1 al2 t1 t2 st2 src2 lo : Nat} {listed : Array Bool} {a : Act} {u : World} (hx : Bx al2 st2 t2 src2 lo listed a u) (hne : al1 ≠ al2) (ht : t1 ≠ t2) (hlt : t1 < a.tmps.size) : Bx2 al1 al2 t1 t2 (listed.setIfInBounds al1 true) (a.put (some t1) (.pointer (some ⟨u.heap.size, 0, none⟩))) := fun _ g2 => by
  obtain ⟨b, e, _, q, _⟩ := hx (set_was hne g2)
  rw [put_self _ hlt, put_at _ ht, e]
  intro h
  simp only [Value.pointer.injEq, Option.some.injEq, Addr.mk.injEq, and_true] at h
  omega
theorem Bx2.make2 {al1 al2 t1 t2 st1 src1 lo : Nat} {listed : Array Bool} {a : Act} {u : World} (hx : Bx al1 st1 t1 src1 lo listed a u) (hne : al2 ≠ al1) (ht : t2 ≠ t1) (hlt : t2 < a.tmps.size) : Bx2 al1 al2 t1 t2 (listed.setIfInBounds al2 true) (a.put (some t2) (.pointer (some ⟨u.heap.size, 0, none⟩))) := fun g1 _ => by
  obtain ⟨b, e, _, q, _⟩ := hx (set_was hne g1)
  rw [put_self _ hlt, put_at _ ht, e]
  intro h
  simp only [Value.pointer.injEq, Option.some.injEq, Addr.mk.injEq, and_true] at h
  omega
/-- A term that operation ot answers into temporary src; a box that operation al makes into temporary tmp is no block of it. -/
def Tr1 (al tmp ot src lo : Nat) (t : Int × Int × Fo) (listed : Array Bool) (a : Act) (u : World) : Prop :=
  listed.getD ot false = true → ∃ x c L H, (a.tmps[src]?).getD undef = .agg #[.int .i64 t.1, .int .i64 t.2.1, .slice x (flen t.2.2) c] ∧ Sl u L H x t.2.2 ∧ lo ≤ L ∧ H ≤ u.heap.size ∧ (listed.getD al false = true → ∃ b, (a.tmps[tmp]?).getD undef = .pointer (some ⟨b, 0, none⟩) ∧ (b < L ∨ H ≤ b))
theorem Tr1.start {al tmp ot src lo n : Nat} {t : Int × Int × Fo} {a : Act} {u : World} : Tr1 al tmp ot src lo t (Array.replicate n false) a u := fun h => by
  simp [Array.getD_eq_getD_getElem?, Array.getElem?_replicate] at h
  split at h <;> simp at h
theorem Tr1.keep {al tmp ot src lo i : Nat} {t : Int × Int × Fo} {listed : Array Bool} {a : Act} {u u' : World} (h : Tr1 al tmp ot src lo t listed a u) (h1 : i ≠ al) (h2 : i ≠ ot) {dst : Option Nat} {v : Value} (ht : dst ≠ some tmp) (hs : dst ≠ some src) (hb : Below u.heap.size u u') :
    Tr1 al tmp ot src lo t (listed.setIfInBounds i true) (a.put dst v) u' := fun hl => by
  obtain ⟨x, c, L, H, e, q1, q2, q3, q4⟩ := h (set_was h2 hl)
  have hget : ∀ t, dst ≠ some t → ((a.put dst v).tmps[t]?).getD undef = (a.tmps[t]?).getD undef := fun t hd => by
    cases dst with
    | none => rfl
    | some d => exact put_at v (fun e => hd (by rw [e]))
  refine ⟨x, c, L, H, (hget _ hs).trans e, q1.same (fun b _ hb2 => hb.block b (by omega)), q2, Nat.le_trans q3 hb.size, fun hal => ?_⟩
  obtain ⟨b, e2, q5⟩ := q4 (set_was h1 hal)
  exact ⟨b, (hget _ ht).trans e2, q5⟩
theorem Tr1.make {al st tmp bsrc ot src lo : Nat} {t : Int × Int × Fo} {listed : Array Bool} {a : Act} {u u' : World} {x : Option Addr} {c : Nat} (hx : Bx al st tmp bsrc lo listed a u) (h1 : ot ≠ al) (hts : src ≠ tmp) (hlt : src < a.tmps.size) (hlo : lo ≤ u.heap.size) (hsl : Sl u' u.heap.size u'.heap.size x t.2.2) :
    Tr1 al tmp ot src lo t (listed.setIfInBounds ot true) (a.put (some src) (.agg #[.int .i64 t.1, .int .i64 t.2.1, .slice x (flen t.2.2) c])) u' := fun _ => by
  refine ⟨x, c, u.heap.size, u'.heap.size, put_self _ hlt, hsl, hlo, Nat.le_refl _, fun hal => ?_⟩
  obtain ⟨b, e, _, q2, _⟩ := hx (set_was h1 hal)
  exact ⟨b, (put_at _ hts).trans e, .inl q2⟩
theorem Tr1.box {al tmp ot src lo : Nat} {t : Int × Int × Fo} {listed : Array Bool} {a : Act} {u : World} {o : Obj} (h : Tr1 al tmp ot src lo t listed a u) (h1 : al ≠ ot) (hts : tmp ≠ src) (hlt : tmp < a.tmps.size) :
    Tr1 al tmp ot src lo t (listed.setIfInBounds al true) (a.put (some tmp) (.pointer (some ⟨u.heap.size, 0, none⟩))) (u.alloc o) := fun hl => by
  obtain ⟨x, c, L, H, e, q1, q2, q3, q4⟩ := h (set_was h1 hl)
  exact ⟨x, c, L, H, (put_at _ hts).trans e, q1.same (fun b _ hb2 => Below.heap_alloc _ _ _ (by omega)), q2, by simp; omega, fun _ => ⟨_, put_self _ hlt, .inr q3⟩⟩
theorem Tr1.fill {al tmp ot src lo i b : Nat} {t : Int × Int × Fo} {listed : Array Bool} {a : Act} {u : World} {x y z : Value} (h : Tr1 al tmp ot src lo t listed a u) (_h1 : i ≠ al) (h2 : i ≠ ot) (hal : listed.getD al false = true) (he : (a.tmps[tmp]?).getD undef = .pointer (some ⟨b, 0, none⟩)) :
    Tr1 al tmp ot src lo t (listed.setIfInBounds i true) (a.put none undef) (s3 u b x y z) := fun hl => by
  obtain ⟨x', c, L, H, e, q1, q2, q3, q4⟩ := h (set_was h2 hl)
  obtain ⟨b', e2, q5⟩ := q4 hal
  rw [he] at e2
  simp only [Value.pointer.injEq, Option.some.injEq, Addr.mk.injEq, and_true] at e2
  subst e2
  refine ⟨x', c, L, H, e, ?_, q2, by rw [s3_size]; exact q3, fun _ => ⟨b, he, q5⟩⟩
  have h0 : Same L H u u := fun _ _ _ => rfl
  unfold s3
  exact q1.same (((h0.setCell q5 _).setCell q5 _).setCell q5 _)
end Go.Proofs.Ytoafleckcjanaaa

/-! LD0: LinkDo's walk: what holds in its midst. Definitions and plain lemmas. -/
namespace Go.Proofs.Ytoafleckcjanaaa
open Go.RowKit Go.Deep

/-- What LinkDo and ProofEnd answer. -/
def LkPost (r : Option Tm3) (w : World) (e : Ending) (w' : World) : Prop :=
  ∃ a c s v k t, ansR r = ((s, v, k), t) ∧ e = .returned (.tuple #[.agg #[.int .i64 s, .int .i64 v, .slice a (flen k) c], .bool t]) ∧ Below w.heap.size w w' ∧ Sl w' w.heap.size w'.heap.size a k
/-- The boxes of the term, the link and the result. -/
structure LdS (w : World) (s v : Int) (T : Value) (eq : Int) (back : Bool) (P B : Value) (u : World) : Prop where
  low : Below w.heap.size w u
  size : w.heap.size + 3 ≤ u.heap.size
  t0 : u.cell? ⟨w.heap.size, 0, none⟩ = some (.int .i64 s)
  t1 : u.cell? ⟨w.heap.size, 1, none⟩ = some (.int .i64 v)
  t2 : u.cell? ⟨w.heap.size, 2, none⟩ = some T
  l0 : u.cell? ⟨w.heap.size + 1, 0, none⟩ = some (.int .i64 eq)
  l1 : u.cell? ⟨w.heap.size + 1, 1, none⟩ = some (.bool back)
  l2 : u.cell? ⟨w.heap.size + 1, 2, none⟩ = some P
  l3 : u.cell? ⟨w.heap.size + 1, 3, none⟩ = some B
  r0 : u.cell? ⟨w.heap.size + 1 + 1, 0, none⟩ = some (.int .i64 0)
  r1 : u.cell? ⟨w.heap.size + 1 + 1, 1, none⟩ = some (.int .i64 0)
  r2 : u.cell? ⟨w.heap.size + 1 + 1, 2, none⟩ = some (.slice none 0 0)
  f : ∀ i, u.frozen? ⟨w.heap.size + 1 + 1, i, none⟩ = false
theorem LdS.start {w : World} {s v : Int} {T : Value} {eq : Int} {back : Bool} {P B : Value} {T1 T2 T3 : TypeId} : LdS w s v T eq back P B (((w.alloc (.cells #[.int .i64 s, .int .i64 v, T] T1)).alloc (.cells #[.int .i64 eq, .bool back, P, B] T2)).alloc (.cells #[.int .i64 0, .int .i64 0, .slice none 0 0] T3)) := by
  have a0 : ∀ i, (((w.alloc (.cells #[.int .i64 s, .int .i64 v, T] T1)).alloc (.cells #[.int .i64 eq, .bool back, P, B] T2)).alloc (.cells #[.int .i64 0, .int .i64 0, .slice none 0 0] T3)).cell? ⟨w.heap.size, i, none⟩ = #[Value.int .i64 s, .int .i64 v, T][i]? := fun i => by
    rw [World.cell?_alloc_lt _ _ _ (by simp; omega), World.cell?_alloc_lt _ _ _ (by simp), World.cell?_alloc_at _ _ _ _ (by simp)]
  have a1 : ∀ i, (((w.alloc (.cells #[.int .i64 s, .int .i64 v, T] T1)).alloc (.cells #[.int .i64 eq, .bool back, P, B] T2)).alloc (.cells #[.int .i64 0, .int .i64 0, .slice none 0 0] T3)).cell? ⟨w.heap.size + 1, i, none⟩ = #[Value.int .i64 eq, .bool back, P, B][i]? := fun i => by
    rw [World.cell?_alloc_lt _ _ _ (by simp), World.cell?_alloc_at _ _ _ _ (by simp)]
  have a2 : ∀ i, (((w.alloc (.cells #[.int .i64 s, .int .i64 v, T] T1)).alloc (.cells #[.int .i64 eq, .bool back, P, B] T2)).alloc (.cells #[.int .i64 0, .int .i64 0, .slice none 0 0] T3)).cell? ⟨w.heap.size + 1 + 1, i, none⟩ = #[Value.int .i64 0, .int .i64 0, .slice none 0 0][i]? := fun i => by
    rw [World.cell?_alloc_at _ _ _ _ (by simp)]
  exact ⟨(((Below.refl _ _).alloc (Nat.le_refl _) _).alloc (by simp) _).alloc (by simp; omega) _, by simp, a0 0, a0 1, a0 2, a1 0, a1 1, a1 2, a1 3, a2 0, a2 1, a2 2, fun i => by rw [World.frozen?_alloc_at _ _ _ _ (by simp)]⟩
theorem LdS.next {w : World} {s v : Int} {T : Value} {eq : Int} {back : Bool} {P B : Value} {u u' : World} (h : LdS w s v T eq back P B u) (hb : Below u.heap.size u u') : LdS w s v T eq back P B u' :=
  ⟨h.low.trans (hb.mono (by have := h.size; omega)), Nat.le_trans h.size hb.size, cell_low hb h.t0, cell_low hb h.t1, cell_low hb h.t2, cell_low hb h.l0, cell_low hb h.l1, cell_low hb h.l2, cell_low hb h.l3, cell_low hb h.r0, cell_low hb h.r1, cell_low hb h.r2, fun i => (hb.frozen (by have := h.size; simp; omega)).trans (h.f i)⟩
theorem LdS.s3 {w : World} {s v : Int} {T : Value} {eq : Int} {back : Bool} {P B : Value} {u : World} (h : LdS w s v T eq back P B u) {b : Nat} (hb : w.heap.size + 3 ≤ b) (x y z : Value) : LdS w s v T eq back P B (s3 u b x y z) := by
  have hf : ∀ {q i : Nat}, q < w.heap.size + 3 → (Go.Proofs.Ytoafleckcjanaaa.s3 u b x y z).cell? ⟨q, i, none⟩ = u.cell? ⟨q, i, none⟩ := fun hq => (s3_far (q := ⟨_, _, none⟩) (by dsimp only; omega)).1
  refine ⟨?_, by rw [s3_size]; exact h.size, by rw [hf (by omega)]; exact h.t0, by rw [hf (by omega)]; exact h.t1, by rw [hf (by omega)]; exact h.t2, by rw [hf (by omega)]; exact h.l0, by rw [hf (by omega)]; exact h.l1, by rw [hf (by omega)]; exact h.l2, by rw [hf (by omega)]; exact h.l3, by rw [hf (by omega)]; exact h.r0, by rw [hf (by omega)]; exact h.r1, by rw [hf (by omega)]; exact h.r2, fun i => by rw [s3_fr]; exact h.f i⟩
  unfold Go.Proofs.Ytoafleckcjanaaa.s3
  exact ((h.low.setCell (by simp; omega) _).setCell (by simp; omega) _).setCell (by simp; omega) _
theorem lk_end {w w1 : World} {r : Option Tm3} {s v : Int} {k : Fo} {t : Bool} {a : Option Addr} {c : Nat} (hr : ansR r = ((s, v, k), t)) (hb : Below w.heap.size w w1) (hl : Sl w1 (w.heap.size + 3) w1.heap.size a k) (p q o : Value) :
    LkPost r w (.returned (.tuple #[.agg #[.int .i64 s, .int .i64 v, .slice a (flen k) c], .bool t])) (((w1.setCell ⟨w.heap.size + 1 + 1, 0, none⟩ p).setCell ⟨w.heap.size + 1 + 1, 1, none⟩ q).setCell ⟨w.heap.size + 1 + 1, 2, none⟩ o) := by
  refine ⟨a, c, s, v, k, t, hr, rfl, ((hb.setCell (by simp; omega) _).setCell (by simp; omega) _).setCell (by simp; omega) _, ?_⟩
  have hs : Same (w.heap.size + 3) w1.heap.size w1 (((w1.setCell ⟨w.heap.size + 1 + 1, 0, none⟩ p).setCell ⟨w.heap.size + 1 + 1, 1, none⟩ q).setCell ⟨w.heap.size + 1 + 1, 2, none⟩ o) :=
    (((Same.setCell (fun _ _ _ => rfl) (.inl (by simp)) _).setCell (.inl (by simp)) _).setCell (.inl (by simp)) _)
  exact (hl.same hs).mono (by omega) (by simp)
theorem lkR_bad {es : List Eqd} {t : Tm3} {l : Lk} (h : okEs es = false) : lkR es t l = none := by unfold lkR; rw [if_neg (fun h' => by rw [h] at h'; cases h'.1)]
theorem lkR_big {es : List Eqd} {t : Tm3} {l : Lk} (h : okT3 64 t = false) : lkR es t l = none := by unfold lkR; rw [if_neg (fun h' => by rw [h] at h'; cases h'.2)]
theorem lkR_eq {es : List Eqd} {t : Tm3} {l : Lk} (h : okEs es = true) (h2 : okT3 64 t = true) : lkR es t l = lk1 es t l := by unfold lkR; rw [if_pos ⟨h, h2⟩]
theorem lk1_in {es : List Eqd} {t : Tm3} {l : Lk} (h : ¬ (0 ≤ l.1 ∧ l.1 < (es.length : Int))) : lk1 es t l = none := by unfold lk1; rw [if_neg (fun h' => h h'.2)]
theorem lk1_sok {es : List Eqd} {t : Tm3} {l : Lk} (h : sok 64 l.2.2.2 = false) : lk1 es t l = none := by unfold lk1; rw [if_neg (fun h' => by rw [h] at h'; cases h'.1)]
theorem lk1_at {es : List Eqd} {t : Tm3} {i : Nat} {b : Bool} {pl : List Int} {bs : List Bd} {e : Eqd} (hi : es[i]? = some e) (hs : sok 64 bs = true) : lk1 es t ((i : Int), b, pl, bs) = lkAt t pl (put3 (sv bs) (sidesR e b).1) (put3 (sv bs) (sidesR e b).2) := by
  have hlt := (List.getElem?_eq_some_iff.1 hi).1
  unfold lk1
  simp only [Int.toNat_natCast]
  rw [if_pos ⟨hs, by omega, by omega⟩, hi]
  rfl
theorem lkAt_none {t : Tm3} {pl : List Int} {f g : Tm3} (h : fat t.1 t.2.1 t.2.2 pl = none) : lkAt t pl f g = none := by unfold lkAt; rw [h]
theorem lkAt_other {t : Tm3} {pl : List Int} {f g h : Tm3} (h1 : fat t.1 t.2.1 t.2.2 pl = some h) (h2 : teq h.1 h.2.1 h.2.2 f.1 f.2.1 f.2.2 = false) : lkAt t pl f g = none := by unfold lkAt; rw [h1]; dsimp only; rw [h2]; rfl
theorem lkAt_out {t : Tm3} {pl : List Int} {f g h out : Tm3} (h1 : fat t.1 t.2.1 t.2.2 pl = some h) (h2 : teq h.1 h.2.1 h.2.2 f.1 f.2.1 f.2.2 = true) (h3 : fput t.1 t.2.1 t.2.2 pl g = some out) : lkAt t pl f g = if okT3 64 out = true then some out else none := by
  unfold lkAt; rw [h1]; dsimp only; rw [if_pos h2, h3]
theorem ans_none {r : Option Tm3} (h : r = none) : ansR r = ((0, 0, .nil), false) := by rw [h]; rfl
theorem ans_some {r : Option Tm3} {t : Tm3} (h : r = some t) : ansR r = (t, true) := by rw [h]; rfl
end Go.Proofs.Ytoafleckcjanaaa

/-! A2o: The term that a node stands for, made anew, is a tree of one's own. -/
namespace Go.Proofs.Ytoafleckcjanaaa
open Go.RowKit Go.Deep
attribute [local go_sem ↓] Go.wp_at_zero Go.wp_at_succ

/-- The terms k lie there as a tree of one's own. -/
def TXo (w : World) (lo B : Nat) (a : Option Addr) (k : Fo) : Prop := Sl w lo B a k ∧ TroS w lo B a k
theorem TXo.same {w w' : World} {lo B : Nat} {a : Option Addr} {k : Fo} (hb : Same lo B w w') (h : TXo w lo B a k) : TXo w' lo B a k := ⟨h.1.same hb, h.2.same hb⟩
theorem TXo.mono {w : World} {lo lo' B B' : Nat} {a : Option Addr} {k : Fo} (hlo : lo' ≤ lo) (hB : B ≤ B') (h : TXo w lo B a k) : TXo w lo' B' a k := ⟨h.1.mono hlo hB, h.2.mono hlo hB⟩

def TmPostO (s v : Int) (k : Fo) (w : World) (e : Ending) (w' : World) : Prop :=
  ∃ a c, e = .returned (.agg #[.int .i64 s, .int .i64 v, .slice a (flen k) c]) ∧ Below w.heap.size w w' ∧ TXo w' w.heap.size w'.heap.size a k

set_option maxRecDepth 100000 in
set_option maxHeartbeats 1000000 in
theorem varTermO_any (v : Int) (w : World) : Calls Try.prog 147 #[.int .i64 v] w (TmPostO 0 v .nil w) := by
  go_enter Try.func147, Try.ntmps147
  go_wp2_with fail
  refine bodyPost_ret (v := .agg #[.int .i64 0, .int .i64 v, .slice none 0 0]) ?_ rfl ⟨none, 0, rfl, (Below.refl _ _).alloc (Nat.le_refl _) _, ⟨.inl rfl, .inl rfl⟩⟩
  simp [results, Try.results147, go_sem]

/-- What holds at the head of term's loop: the first j kids are made. -/
structure TmAtO (w : World) (s : Int) (k : Fo) (j : Nat) (wr : World) : Prop where
  below : Below w.heap.size w wr
  size : w.heap.size + 4 ≤ wr.heap.size
  t0 : wr.cell? ⟨w.heap.size + 1 + 1, 0, none⟩ = some (.int .i64 s)
  t1 : wr.cell? ⟨w.heap.size + 1 + 1, 1, none⟩ = some (.int .i64 0)
  t2 : wr.cell? ⟨w.heap.size + 1 + 1, 2, none⟩ = some (.slice (some ⟨w.heap.size + 1 + 1 + 1, 0, none⟩) (flen k) (flen k))
  r0 : wr.cell? ⟨w.heap.size + 1, 0, none⟩ = some (.int .i64 0)
  r1 : wr.cell? ⟨w.heap.size + 1, 1, none⟩ = some (.int .i64 0)
  r2 : wr.cell? ⟨w.heap.size + 1, 2, none⟩ = some (.slice none 0 0)
  q0 : wr.frozen? ⟨w.heap.size + 1, 0, none⟩ = false
  q1 : wr.frozen? ⟨w.heap.size + 1, 1, none⟩ = false
  q2 : wr.frozen? ⟨w.heap.size + 1, 2, none⟩ = false
  row : ∃ f : Nat → Value, wr.rowIs (w.heap.size + 1 + 1 + 1) 35 (flen k * 3) f ∧ ∃ Ls : Nat → Nat, Ls 0 = w.heap.size + 4 ∧ (∀ i, i < j → Ls i ≤ Ls (i + 1)) ∧ Ls j ≤ wr.heap.size ∧ ∀ i, i < j → ∃ x y s v kk a c, fdrop i k = .node x y (s, v) kk (fdrop (i + 1) k) ∧
    f (i * 3) = .int .i64 s ∧ f (i * 3 + 1) = .int .i64 v ∧ f (i * 3 + 2) = .slice a (flen kk) c ∧ TXo wr (Ls i) (Ls (i + 1)) a kk

theorem TmAtO.start (w : World) (s : Int) (k : Fo) (x : Value) (y : Value) : TmAtO w s k 0 ((((w.alloc (.cells #[x, y] 166)).alloc (.cells #[.int .i64 0, .int .i64 0, .slice none 0 0] 35)).alloc (.cells #[.int .i64 s, .int .i64 0, .slice (some ⟨w.heap.size + 1 + 1 + 1, 0, none⟩) (flen k) (flen k)] 35)).alloc (.cells (madeCells #[.int .i64 0, .int .i64 0, .slice none 0 0] (flen k * 3)) 35)) := by
  refine ⟨((((Below.refl _ _).alloc (Nat.le_refl _) _).alloc (by simp) _).alloc (by simp; omega) _).alloc (by simp; omega) _, by simp, ?_, ?_, ?_, ?_, ?_, ?_, ?_, ?_, ?_, ?_⟩
  · rw [World.cell?_alloc_lt _ _ _ (by simp), World.cell?_alloc_at _ _ _ _ (by simp)]; rfl
  · rw [World.cell?_alloc_lt _ _ _ (by simp), World.cell?_alloc_at _ _ _ _ (by simp)]; rfl
  · rw [World.cell?_alloc_lt _ _ _ (by simp), World.cell?_alloc_at _ _ _ _ (by simp)]; rfl
  · rw [World.cell?_alloc_lt _ _ _ (by simp), World.cell?_alloc_lt _ _ _ (by simp), World.cell?_alloc_at _ _ _ _ (by simp)]; rfl
  · rw [World.cell?_alloc_lt _ _ _ (by simp), World.cell?_alloc_lt _ _ _ (by simp), World.cell?_alloc_at _ _ _ _ (by simp)]; rfl
  · rw [World.cell?_alloc_lt _ _ _ (by simp), World.cell?_alloc_lt _ _ _ (by simp), World.cell?_alloc_at _ _ _ _ (by simp)]; rfl
  · rw [World.frozen?_alloc_past _ _ _ (by simp), World.frozen?_alloc_past _ _ _ (by simp), World.frozen?_alloc_at _ _ _ _ (by simp)]
  · rw [World.frozen?_alloc_past _ _ _ (by simp), World.frozen?_alloc_past _ _ _ (by simp), World.frozen?_alloc_at _ _ _ _ (by simp)]
  · rw [World.frozen?_alloc_past _ _ _ (by simp), World.frozen?_alloc_past _ _ _ (by simp), World.frozen?_alloc_at _ _ _ _ (by simp)]
  · refine ⟨fun i => #[Value.int .i64 0, .int .i64 0, .slice none 0 0][i % 3]!, ?_, fun _ => w.heap.size + 4, rfl, fun i hi => by omega, by simp, fun i hi => by omega⟩
    have := World.rowIs_alloc (((w.alloc (.cells #[x, y] 166)).alloc (.cells #[.int .i64 0, .int .i64 0, .slice none 0 0] 35)).alloc (.cells #[.int .i64 s, .int .i64 0, .slice (some ⟨w.heap.size + 1 + 1 + 1, 0, none⟩) (flen k) (flen k)] 35)) (madeCells #[.int .i64 0, .int .i64 0, .slice none 0 0] (flen k * 3)) 35 (fun i => #[Value.int .i64 0, .int .i64 0, .slice none 0 0][i % 3]!) (fun i hi => by
      rw [size_madeCells] at hi
      exact made_atA _ _ _ hi)
    rw [size_madeCells] at this
    simp only [World.size_alloc] at this
    exact this
theorem TmAtO.step {w wr w2 : World} {s0 : Int} {k : Fo} {j x y : Nat} {s v : Int} {kk : Fo} {a : Option Addr} {c : Nat} (h : TmAtO w s0 k j wr) (hd : fdrop j k = .node x y (s, v) kk (fdrop (j + 1) k)) (hb : Below wr.heap.size wr w2) (hl : TXo w2 wr.heap.size w2.heap.size a kk) :
    TmAtO w s0 k (j + 1) (((w2.setCell ⟨w.heap.size + 1 + 1 + 1, j * 3, none⟩ (.int .i64 s)).setCell ⟨w.heap.size + 1 + 1 + 1, j * 3 + 1, none⟩ (.int .i64 v)).setCell ⟨w.heap.size + 1 + 1 + 1, j * 3 + 2, none⟩ (.slice a (flen kk) c)) := by
  have hs := h.size
  have hs2 := hb.size
  obtain ⟨f, hf, Ls, hL0, hL1, hL2, hall⟩ := h.row
  have hf2 := hf.of_block (hb.block _ (by omega))
  have hsame : ∀ {L H : Nat}, w.heap.size + 3 < L → Same L H w2 (((w2.setCell ⟨w.heap.size + 1 + 1 + 1, j * 3, none⟩ (.int .i64 s)).setCell ⟨w.heap.size + 1 + 1 + 1, j * 3 + 1, none⟩ (.int .i64 v)).setCell ⟨w.heap.size + 1 + 1 + 1, j * 3 + 2, none⟩ (.slice a (flen kk) c)) := fun hL =>
    ((Same.setCell (fun _ _ _ => rfl) (.inl (by simp; omega)) _).setCell (.inl (by simp; omega)) _).setCell (.inl (by simp; omega)) _
  have hcell : ∀ {q : Addr} {u : Value}, wr.cell? q = some u → q.block < w.heap.size + 3 → (((w2.setCell ⟨w.heap.size + 1 + 1 + 1, j * 3, none⟩ (.int .i64 s)).setCell ⟨w.heap.size + 1 + 1 + 1, j * 3 + 1, none⟩ (.int .i64 v)).setCell ⟨w.heap.size + 1 + 1 + 1, j * 3 + 2, none⟩ (.slice a (flen kk) c)).cell? q = some u := fun {q u} hq hlt => by
    rw [World.cell?_setCell_other _ _ _ _ (by intro h'; have := congrArg Addr.block h'; simp at this; omega), World.cell?_setCell_other _ _ _ _ (by intro h'; have := congrArg Addr.block h'; simp at this; omega), World.cell?_setCell_other _ _ _ _ (by intro h'; have := congrArg Addr.block h'; simp at this; omega), hb.cell (World.block_lt_of_cell? _ _ hq)]
    exact hq
  have hfro : ∀ {q : Addr}, wr.frozen? q = false → q.block < w.heap.size + 3 → (((w2.setCell ⟨w.heap.size + 1 + 1 + 1, j * 3, none⟩ (.int .i64 s)).setCell ⟨w.heap.size + 1 + 1 + 1, j * 3 + 1, none⟩ (.int .i64 v)).setCell ⟨w.heap.size + 1 + 1 + 1, j * 3 + 2, none⟩ (.slice a (flen kk) c)).frozen? q = false := fun {q} hq hlt => by
    rw [World.frozen?_setCell, World.frozen?_setCell, World.frozen?_setCell, hb.frozen (by omega)]
    exact hq
  refine ⟨(((h.below.trans (hb.mono (by omega))).setCell (by simp; omega) _).setCell (by simp; omega) _).setCell (by simp; omega) _, by simp; omega, hcell h.t0 (by simp), hcell h.t1 (by simp), hcell h.t2 (by simp), hcell h.r0 (by simp), hcell h.r1 (by simp), hcell h.r2 (by simp), hfro h.q0 (by simp), hfro h.q1 (by simp), hfro h.q2 (by simp), ⟨_, ((hf2.set _ _).set _ _).set _ _, fun i => if i ≤ j then Ls i else w2.heap.size, by simp [hL0], fun i hi => ?_, by simp [show ¬(j + 1 ≤ j) from by omega], fun i hi => ?_⟩⟩
  · by_cases hij : i = j
    · subst hij
      dsimp only
      rw [if_pos (Nat.le_refl _), if_neg (by omega)]
      omega
    · dsimp only
      rw [if_pos (by omega), if_pos (by omega)]
      exact hL1 i (by omega)
  by_cases hij : i = j
  · subst hij
    refine ⟨x, y, s, v, kk, a, c, hd, by simp, by simp, by simp, ?_⟩
    simp only [Nat.le_refl, if_true, show ¬(i + 1 ≤ i) from by omega, if_false]
    have h0 : Ls 0 ≤ Ls i := by have := Ls_mono hL1 i 0 (by omega); rwa [Nat.zero_add] at this
    exact (hl.same (hsame (by omega))).mono (by omega) (Nat.le_refl _)
  · obtain ⟨x', y', s', v', k', a', c', e, h0, h1, h2, hsl⟩ := hall i (by omega)
    have q0 : Ls 0 ≤ Ls i := by have := Ls_mono hL1 i 0 (by omega); rwa [Nat.zero_add] at this
    have q1 : Ls (i + 1) ≤ Ls j := by have := Ls_mono hL1 (j - (i + 1)) (i + 1) (by omega); rwa [show i + 1 + (j - (i + 1)) = j from by omega] at this
    refine ⟨x', y', s', v', k', a', c', e, ?_, ?_, ?_, ?_⟩
    · rw [if_neg (by omega), if_neg (by omega), if_neg (by omega)]; exact h0
    · rw [if_neg (by omega), if_neg (by omega), if_neg (by omega)]; exact h1
    · rw [if_neg (by omega), if_neg (by omega), if_neg (by omega)]; exact h2
    · dsimp only
      rw [if_pos (show i ≤ j by omega), if_pos (show i + 1 ≤ j by omega)]
      exact (hsl.same (fun b h1 h2 => hb.block b (by omega))).same (hsame (by omega))
theorem TmAtO.sl {w wr : World} {s : Int} {k : Fo} {j : Nat} (h : TmAtO w s k j wr) (hj : flen k = j) : TXo wr (w.heap.size + 3) wr.heap.size (some ⟨w.heap.size + 1 + 1 + 1, 0, none⟩) k := by
  subst hj
  have hs := h.size
  obtain ⟨f, hf, Ls, hL0, hL1, hL2, hall⟩ := h.row
  have key : ∀ i, i < flen k → ∃ x y s v kk a c, fdrop i k = .node x y (s, v) kk (fdrop (i + 1) k) ∧ wr.cell? ⟨w.heap.size + 1 + 1 + 1, 0 + i * 3, none⟩ = some (.int .i64 s) ∧ wr.cell? ⟨w.heap.size + 1 + 1 + 1, 0 + i * 3 + 1, none⟩ = some (.int .i64 v) ∧
      wr.cell? ⟨w.heap.size + 1 + 1 + 1, 0 + i * 3 + 2, none⟩ = some (.slice a (flen kk) c) ∧ TXo wr (Ls i) (Ls (i + 1)) a kk := fun i hi => by
    obtain ⟨x, y, s, v, kk, a, c, e, h0, h1, h2, hs⟩ := hall i hi
    refine ⟨x, y, s, v, kk, a, c, e, ?_, ?_, ?_, hs⟩
    · rw [Nat.zero_add, ← h0]; exact hf.cell (by omega)
    · rw [Nat.zero_add, ← h1]; exact hf.cell (by omega)
    · rw [Nat.zero_add, ← h2]; exact hf.cell (by omega)
  refine ⟨.inr ⟨_, 0, rfl, row_of_all k _ 0 (by omega) (by omega) fun i hi => ?_⟩, .inr ⟨_, rfl, by omega, by omega, ?_⟩⟩
  · obtain ⟨x, y, s, v, kk, a, c, e, h0, h1, h2, hs⟩ := key i hi
    have q0 : Ls 0 ≤ Ls i := by have := Ls_mono hL1 i 0 (by omega); rwa [Nat.zero_add] at this
    have q1 : Ls (i + 1) ≤ Ls (flen k) := by have := Ls_mono hL1 (flen k - (i + 1)) (i + 1) (by omega); rwa [show i + 1 + (flen k - (i + 1)) = flen k from by omega] at this
    exact ⟨x, y, s, v, kk, a, c, e, h0, h1, h2, hs.1.mono (by omega) (by omega)⟩
  · have := tro_of_all (w := wr) k (w.heap.size + 1 + 1 + 1) 0 wr.heap.size Ls hL1 hL2 (by omega) fun i hi => by
      obtain ⟨x, y, s, v, kk, a, c, e, h0, h1, h2, hs⟩ := key i hi
      exact ⟨x, y, s, v, kk, a, c, e, ⟨_, h0⟩, ⟨_, h1⟩, hf.frozen _, ⟨hf.frozen _, hf.frozen _⟩, h2, hs.2⟩
    rw [hL0] at this
    exact this
theorem tm_endO {w w1 : World} {s v : Int} {k : Fo} {a : Option Addr} {c : Nat} (hb : Below w.heap.size w w1) (hl : TXo w1 (w.heap.size + 3) w1.heap.size a k) (x y z : Value) :
    TmPostO s v k w (.returned (.agg #[.int .i64 s, .int .i64 v, .slice a (flen k) c])) (((w1.setCell ⟨w.heap.size + 1, 0, none⟩ x).setCell ⟨w.heap.size + 1, 1, none⟩ y).setCell ⟨w.heap.size + 1, 2, none⟩ z) := by
  refine ⟨a, c, rfl, ((hb.setCell (by simp) _).setCell (by simp) _).setCell (by simp) _, ?_⟩
  have hs : Same (w.heap.size + 3) w1.heap.size w1 (((w1.setCell ⟨w.heap.size + 1, 0, none⟩ x).setCell ⟨w.heap.size + 1, 1, none⟩ y).setCell ⟨w.heap.size + 1, 2, none⟩ z) :=
    (((Same.setCell (fun _ _ _ => rfl) (.inl (by simp)) _).setCell (.inl (by simp)) _).setCell (.inl (by simp)) _)
  exact (hl.same hs).mono (by omega) (by simp)

set_option maxRecDepth 100000 in
set_option maxHeartbeats 1000000 in
theorem symTermO_any (N : Nat) : ∀ (s : Int) (a : Option Addr) (c : Nat) (k : Fo) (w : World), NSl w 0 w.heap.size a k → fok k = true → fsz k ≤ N → N ≤ 1000000 →
    Calls Try.prog 164 #[.agg #[.int .i64 s, .slice a (flen k) c]] w (TmPostO s 0 k w) := by
  induction N using Nat.strongRecOn with
  | _ N ih =>
    intro s a c k w hl hok hN hN2
    have hfl := flen_le_sz k
    have IH := Lib.hid ih
    have HOK := Lib.hid hok
    clear ih hok
    by_cases h0 : flen k = 0
    · have hk : k = .nil := by
        cases k with
        | nil => rfl
        | node _ _ _ _ _ => simp [flen] at h0
      subst hk
      clear hl h0
      simp only [flen]
      go_enter Try.func164, Try.ntmps164
      go_wp2_with fail
      go_loopw [21] (fun i wr => i = .int .i64 0 ∧ wr = (((w.alloc (.cells #[.int .i64 s, .slice a 0 c] 166)).alloc (.cells #[.int .i64 0, .int .i64 0, .slice none 0 0] 35)).alloc (.cells #[.int .i64 s, .int .i64 0, .slice none 0 0] 35))) (fun _ _ => 0)
      case atStart => exact ⟨rfl, rfl⟩
      case round =>
        obtain ⟨rfl, rfl⟩ := hrel
        go_wp2_with fail
        refine bodyPost_ret (v := .agg #[.int .i64 s, .int .i64 0, .slice none 0 0]) ?_ rfl ⟨none, 0, rfl, (((Below.refl _ _).alloc (Nat.le_refl _) _).alloc (by simp) _).alloc (by simp; omega) _, ⟨.inl rfl, .inl rfl⟩⟩
        simp [results, Try.results164, go_sem]
    · have hmk := make_termsA (flen k) (by omega)
      have HST := Lib.hid (TmAtO.start w s k (.int .i64 s) (.slice a (flen k) c))
      have hpos : 0 < flen k := by omega
      go_enter Try.func164, Try.ntmps164
      go_wp2_with fail
      clear hmk
      go_loopw [21] (fun i wr => ∃ j : Nat, j ≤ flen k ∧ i = .int .i64 j ∧ TmAtO w s k j wr) (fun i _ => flen k - (intOf i).toNat)
      case atStart => exact ⟨0, by omega, rfl, HST.out⟩
      case round =>
        clear HST
        obtain ⟨j, hj, rfl, hat⟩ := hrel
        have hsr := hat.size
        by_cases hlt : j < flen k
        · rcases hl with rfl | ⟨b, o, rfl, hrow⟩
          · simp [flen] at hlt
          obtain ⟨s', v', kk, val, ⟨x, y, hd⟩, _, hbB, hk0, hn⟩ := nrow_at (hrow.below hat.below) hlt
          have hkN := fsz_kid hd
          have hkok := fok_kid HOK.out hd
          have ht2 := hat.t2
          have hu0 : ∀ u : After wr.heap.size wr, u.world.cell? ⟨w.heap.size + 1 + 1, 2, none⟩ = some (.slice (some ⟨w.heap.size + 1 + 1 + 1, 0, none⟩) (flen k) (flen k)) := fun u => u.cell (by simp; omega) ht2
          have g1 : (0 : Int) ≤ (j : Int) := by omega
          have g2 : (j : Int) < (flen k : Int) := by omega
          have HAT := Lib.hid hat
          have HD := Lib.hid hd
          clear hd hrow hat
          rcases hn with ⟨rfl, rfl, rfl⟩ | ⟨hs', a2, c2, rfl, hn2⟩
          · clear hkok
            go_wp2_with fail
            refine wp_region_mix (fun w' => ∃ u : After wr.heap.size wr, w' = u.world) [6] [(0, 0), (1, 0), (2, 0), (3, 0), (4, 1), (5, 1), (6, 2)] (by kernel_rfl) (by kernel_rfl) ⟨⟨_, (Below.refl _ _).drew⟩, rfl⟩ ?_
            iterate 4
              refine mix_see rfl (fun K hK => ?_)
              go_simp
              refine hK _ ?_
              clear hK K
            clear hu0
            refine mix_hold rfl (fun K hK => ?_)
            go_simp
            refine upon_method 147 (by kernel_rfl) (by kernel_rfl) ?_
            go_simp
            with_reducible refine (varTermO_any v' _).mono ?_
            rintro e w2 ⟨a2', c2', rfl, hb2', hl2⟩
            have hb2 : Below wr.heap.size wr w2 := bl_undrew hb2'
            obtain ⟨f, hf, _⟩ := HAT.out.row
            have hf2 := hf.of_block (hb2.block _ (by omega))
            have hg0 := hf2.cell (i := j * 3) (by omega)
            have hg1 := hf2.cell (i := j * 3 + 1) (by omega)
            have hg2 := hf2.cell (i := j * 3 + 2) (by omega)
            have hz0 := hf2.frozen (j * 3)
            have hz1 := hf2.frozen (j * 3 + 1)
            have hz2 := hf2.frozen (j * 3 + 2)
            have HSTEP := Lib.hid (HAT.out.step (c := c2') HD.out hb2 hl2)
            refine hK _ _ ⟨⟨_, hb2⟩, rfl⟩ ?_
            clear hK K hf hf2 hb2' hl2
            refine mix_hold rfl (fun K hK => ?_)
            go_simp
            refine hK _ _ ⟨⟨_, hb2⟩, rfl⟩ ?_
            clear hK K hb2
            refine mix_late rfl (fun K hK => ?_)
            go_simp
            refine hK _ _ ?_
            clear hK K
            refine mix_end ?_
            clear hg0 hg1 hg2 hz0 hz1 hz2 ht2 hk0
            go_wp2_with fail
            go_roundw
            case rel => exact ⟨j + 1, by omega, by go_num, HSTEP.out⟩
            case measure => simp [intOf]; omega
          · have hv0 : v' = 0 := ((okN_iff _ _ _).1 hkok.1).2.2 hs'
            subst hv0
            have HKK := Lib.hid hkok.2
            have HN2 := Lib.hid hn2
            clear hn2 hkok
            go_wp2_with fail
            refine wp_region_mix (fun w' => ∃ u : After wr.heap.size wr, w' = u.world) [6] [(0, 0), (1, 0), (2, 0), (3, 0), (4, 1), (5, 1), (6, 2)] (by kernel_rfl) (by kernel_rfl) ⟨⟨_, (Below.refl _ _).drew⟩, rfl⟩ ?_
            iterate 4
              refine mix_see rfl (fun K hK => ?_)
              go_simp
              refine hK _ ?_
              clear hK K
            clear hu0
            refine mix_hold rfl (fun K hK => ?_)
            go_simp
            refine upon_method 164 (by kernel_rfl) (by kernel_rfl) ?_
            go_simp
            with_reducible refine (IH.out (fsz kk) (by omega) s' a2 c2 kk _ ?_ HKK.out (Nat.le_refl _) (by omega)).mono ?_
            · exact (HN2.out.below (Below.refl _ _).drew).mono (Nat.le_refl _) (by simp; omega)
            rintro e w2 ⟨a2', c2', rfl, hb2', hl2⟩
            have hb2 : Below wr.heap.size wr w2 := bl_undrew hb2'
            obtain ⟨f, hf, _⟩ := HAT.out.row
            have hf2 := hf.of_block (hb2.block _ (by omega))
            have hg0 := hf2.cell (i := j * 3) (by omega)
            have hg1 := hf2.cell (i := j * 3 + 1) (by omega)
            have hg2 := hf2.cell (i := j * 3 + 2) (by omega)
            have hz0 := hf2.frozen (j * 3)
            have hz1 := hf2.frozen (j * 3 + 1)
            have hz2 := hf2.frozen (j * 3 + 2)
            have HSTEP := Lib.hid (HAT.out.step (c := c2') HD.out hb2 hl2)
            refine hK _ _ ⟨⟨_, hb2⟩, rfl⟩ ?_
            clear hK K hf hf2 hb2' hl2
            refine mix_hold rfl (fun K hK => ?_)
            go_simp
            refine hK _ _ ⟨⟨_, hb2⟩, rfl⟩ ?_
            clear hK K hb2
            refine mix_late rfl (fun K hK => ?_)
            go_simp
            refine hK _ _ ?_
            clear hK K
            refine mix_end ?_
            clear hg0 hg1 hg2 hz0 hz1 hz2 ht2 hk0
            go_wp2_with fail
            go_roundw
            case rel => exact ⟨j + 1, by omega, by go_num, HSTEP.out⟩
            case measure => simp [intOf]; omega
        · have hjk : j = flen k := by omega
          subst hjk
          have HDN := Lib.hid (fun x y z => tm_endO (s := s) (v := 0) (c := flen k) hat.below (hat.sl rfl) x y z)
          have ht0 := hat.t0
          have ht1 := hat.t1
          have ht2 := hat.t2
          have hr0 := hat.r0
          have hr1 := hat.r1
          have hr2 := hat.r2
          have hq0 := hat.q0
          have hq1 := hat.q1
          have hq2 := hat.q2
          clear hat
          go_wp2_with fail
          refine bodyPost_ret (v := .agg #[.int .i64 s, .int .i64 0, .slice (some ⟨w.heap.size + 1 + 1 + 1, 0, none⟩) (flen k) (flen k)]) ?_ rfl (HDN.out _ _ _)
          simp [results, Try.results164, go_sem, hr0, hr1, hr2]
end Go.Proofs.Ytoafleckcjanaaa
