/- Several texts in one: C2, C3, C4, D1. -/
import Derived.Test.YtoafleckcjanaaaKLk11
import Derived.Lib.SliceRun
import Derived.Deep.RegionHeld3

/-! C2: - A row of nodes, copied, with another node in the midst. -/
namespace Go.Proofs.Ytoafleckcjanaaa
open Go.RowKit Go.Deep
attribute [local go_sem ↓] Go.wp_at_zero Go.wp_at_succ

theorem Try.infoN : ∃ i, Try.prog.info? 107 = some i ∧ i.zero = some .nilIface ∧ i.size = 1 ∧ i.bytes = 16 := by
  obtain ⟨i, hi, hz⟩ := Option.map_eq_some_iff.1 Try.infoNode
  simp only [Prod.mk.injEq] at hz
  exact ⟨i, hi, hz.1, hz.2.1, hz.2.2⟩

theorem node_one {w : World} {lo B : Nat} {val : Value} {s v : Int} {k : Fo} (h : NodeIs w lo B val s v k) : val.oneCell' = true := by
  rcases h with ⟨_, _, rfl⟩ | ⟨_, _, _, rfl, _⟩ <;> rfl
/-- What the cells of a row of nodes hold. -/
theorem nrow_cells {w : World} {lo B : Nat} : ∀ (k : Fo) (b o : Nat), NRow w lo B k b o → ∃ xs : List Value, xs.length = flen k ∧ (∀ u ∈ xs, u.oneCell' = true) ∧
    ∀ j u, xs[j]? = some u → w.cell? ⟨b, o + j, none⟩ = some u ∧ ∃ x y s v kk, fdrop j k = .node x y (s, v) kk (fdrop (j + 1) k) ∧ NodeIs w lo B u s v kk
  | .nil, _, _, _ => ⟨[], rfl, by simp, by simp⟩
  | .node x y (s, v) kk r, b, o, ⟨_, _, ⟨val, hc, hn⟩, hr⟩ => by
    obtain ⟨xs, hl, h1, h2⟩ := nrow_cells r b (o + 1) hr
    have hn' : NodeIs w lo B val s v kk := hn
    refine ⟨val :: xs, by simp [flen, hl], ?_, ?_⟩
    · intro u hu
      rcases List.mem_cons.1 hu with rfl | hu
      · exact node_one hn'
      · exact h1 u hu
    · intro j u hu
      cases j with
      | zero =>
        simp only [List.getElem?_cons_zero, Option.some.injEq] at hu
        subst hu
        exact ⟨hc, x, y, s, v, kk, rfl, hn'⟩
      | succ j =>
        simp only [List.getElem?_cons_succ] at hu
        obtain ⟨hc', e⟩ := h2 j u hu
        exact ⟨by rw [show o + (j + 1) = o + 1 + j from by omega]; exact hc', e⟩

/-- Copied, and the i-th is another. -/
theorem nrow_put {w w5 : World} {i g : Nat} {k : Fo} {xs : List Value} {n C : Nat} {val : Value} {x : Int × Int × Fo} (hb : Below w.heap.size w w5) (hxl : xs.length = flen k)
    (hall : ∀ j u, xs[j]? = some u → ∃ x y s v kk, fdrop j k = .node x y (s, v) kk (fdrop (j + 1) k) ∧ NodeIs w 0 w.heap.size u s v kk)
    (hown : w5.ownsRow w.heap.size 107 1 (.slice (some ⟨g, 0, none⟩) n C) n xs) (hval : NodeIs w 0 w.heap.size val x.1 x.2.1 x.2.2) :
    NRow (w5.setCell ⟨g, i, none⟩ val) 0 w5.heap.size (fset k i x) g 0 := by
  have hcells := hown.cells (g := g) rfl
  have ha : ∀ n, (⟨g, 0, none⟩ : Addr).add n = ⟨g, 0 + n, none⟩ := fun n => by unfold Addr.add; split <;> simp_all
  obtain ⟨hg, hglt⟩ := hown.lt g rfl
  have hsame : Same 0 w.heap.size w (w5.setCell ⟨g, i, none⟩ val) := Same.setCell (fun b _ hb' => hb.block b hb') (.inr hg) _
  refine nrow_of_all _ g 0 (Nat.zero_le _) hglt fun j hj => ?_
  rw [flen_set] at hj
  obtain ⟨u, hu⟩ : ∃ u, xs[j]? = some u := ⟨_, List.getElem?_eq_getElem (by omega)⟩
  obtain ⟨x1, y1, s1, v1, k1, e1, hn1⟩ := hall j u hu
  have hcu := hcells j u hu
  rw [ha] at hcu
  by_cases hij : i = j
  · subst hij
    obtain ⟨b', o', e'⟩ := fset_at k i x hj
    exact ⟨b', o', _, _, _, e', val, by rw [Nat.zero_add] at hcu ⊢; exact World.cell?_setCell_same _ _ _ hcu, (hval.same hsame).mono (Nat.le_refl _) hb.size⟩
  · obtain ⟨r', e'⟩ := fset_far k i j x hij e1
    obtain ⟨x2, y2, s2, v2, k2, e2⟩ := fdrop_succ j (fset k i x) (by rw [flen_set]; exact hj)
    rw [e'] at e2
    simp only [BT.node.injEq, Prod.mk.injEq] at e2
    obtain ⟨rfl, rfl, ⟨rfl, rfl⟩, rfl, hr'⟩ := e2
    refine ⟨x1, y1, s1, v1, k1, by rw [e', hr'], u, ?_, (hn1.same hsame).mono (Nat.le_refl _) hb.size⟩
    rw [World.cell?_setCell_other _ _ _ _ (by intro h; have := congrArg Addr.off h; simp at this; omega)]
    exact hcu
end Go.Proofs.Ytoafleckcjanaaa

/-! C3: - nodePut: another node put to a place; the nodes on the way are made anew. -/
namespace Go.Proofs.Ytoafleckcjanaaa
open Go.RowKit Go.Deep
attribute [local go_sem ↓] Go.wp_at_zero Go.wp_at_succ

def NpPost (s v : Int) (k : Fo) (place : List Int) (x : Int × Int × Fo) (w : World) (e : Ending) (w' : World) : Prop :=
  ∃ nv t, e = .returned (.tuple #[nv, .bool t]) ∧ Below w.heap.size w w' ∧ ((∃ s' v' k', fput s v k place x = some (s', v', k') ∧ t = true ∧ NodeIs w' 0 w'.heap.size nv s' v' k') ∨ (fput s v k place x = none ∧ t = false))

/-- A place from its n-th number on. -/
theorem cut_from {pA : Option Addr} {pC n : Nat} {place : List Int} (hn : n ≤ place.length) (hc : place.length ≤ pC) : ∃ A', (∀ w : World, (Instr.slice 26 (.slice pA place.length pC) (some (.int .i64 (n : Int))) none none).run Try.prog w = .ok (.slice A' (place.length - n) (pC - n)) w) ∧
    ∀ {w : World} {lo B : Nat}, ISl w lo B pA place → ISc w lo B A' (pC - n) (place.drop n) := by
  obtain ⟨ti, hti, htz, hts, htb⟩ := Try.infoI
  have hsz : ∀ w : World, (sizeOf (Try.prog.elem 26)).run Try.prog w = .ok 1 w := fun w => by
    have he : Try.prog.elem 26 = 3 := by kernel_rfl
    rw [he]
    simp [sizeOf, typeInfo, hti, hts]
  have hel : Try.prog.underlying 26 = some (.slice (Try.prog.elem 26)) := by kernel_rfl
  have hrun : ∀ w : World, (Instr.slice 26 (.slice pA place.length pC) (some (.int .i64 (n : Int))) none none).run Try.prog w = .ok (sliced pA n place.length pC 1) w := fun w => by
    rw [run_slice_l (P := Try.prog) w 26 pA place.length pC hel .i64 (n : Int) (by omega) (by omega), hsz]
    simp [Result.andThen]
  refine ⟨if pC = n then pA else pA.map (·.add (n * 1)), fun w => by rw [hrun w]; rfl, fun {w lo B} h => ⟨?_, by simp; omega⟩⟩
  split
  · exact .inl (List.drop_eq_nil_of_le (by omega))
  · rcases h with rfl | ⟨b, o, rfl, h1, h2, h3⟩
    · exact .inl (by simp)
    · refine .inr ⟨b, o + n, ?_, h1, h2, fun j x hx => ?_⟩
      · have ha : (⟨b, o, none⟩ : Addr).add n = ⟨b, o + n, none⟩ := by unfold Addr.add; split <;> simp_all
        simp only [Option.map_some, Nat.mul_one, ha]
      · rw [List.getElem?_drop] at hx
        rw [show o + n + j = o + (n + j) from by omega]
        exact h3 (n + j) x hx
/-- A place's first n numbers. -/
theorem cut_to {pA : Option Addr} {pC n : Nat} {place : List Int} (hn : n ≤ place.length) (hc : place.length ≤ pC) : (∀ w : World, (Instr.slice 26 (.slice pA place.length pC) none (some (.int .i64 (n : Int))) none).run Try.prog w = .ok (.slice pA n pC) w) ∧
    ∀ {w : World} {lo B : Nat}, ISl w lo B pA place → ISc w lo B pA pC (place.take n) := by
  obtain ⟨ti, hti, htz, hts, htb⟩ := Try.infoI
  have hsz : ∀ w : World, (sizeOf (Try.prog.elem 26)).run Try.prog w = .ok 1 w := fun w => by
    have he : Try.prog.elem 26 = 3 := by kernel_rfl
    rw [he]
    simp [sizeOf, typeInfo, hti, hts]
  have hel : Try.prog.underlying 26 = some (.slice (Try.prog.elem 26)) := by kernel_rfl
  refine ⟨fun w => ?_, fun {w lo B} h => ⟨?_, by simp; omega⟩⟩
  · rw [run_slice_h (P := Try.prog) w 26 pA place.length pC hel .i64 (n : Int) (by omega) (by omega), hsz]
    cases pA <;> simp [Result.andThen, sliced, Addr.add]
  · rcases h with rfl | ⟨b, o, rfl, h1, h2, h3⟩
    · exact .inl (by simp)
    · refine .inr ⟨b, o, rfl, h1, h2, fun j x hx => ?_⟩
      rw [List.getElem?_take] at hx
      split at hx
      · exact h3 j x hx
      · cases hx

end Go.Proofs.Ytoafleckcjanaaa

/-! C4: - impl.TermPut: a term with another put to a place, made anew. -/
namespace Go.Proofs.Ytoafleckcjanaaa
open Go.RowKit Go.Deep
attribute [local go_sem ↓] Go.wp_at_zero Go.wp_at_succ

def PutPost (s v : Int) (k : Fo) (place : List Int) (x : Int × Int × Fo) (w : World) (e : Ending) (w' : World) : Prop :=
  ∃ a c s' v' k' t, putR s v k place x = (s', v', k', t) ∧ e = .returned (.tuple #[.agg #[.int .i64 s', .int .i64 v', .slice a (flen k') c], .bool t]) ∧ Below w.heap.size w w' ∧ Sl w' w.heap.size w'.heap.size a k'

theorem put_end {w w1 : World} {s v s' v' : Int} {k k' : Fo} {t : Bool} {place : List Int} {x : Int × Int × Fo} {a : Option Addr} {c : Nat} (hr : putR s v k place x = (s', v', k', t)) (hb : Below w.heap.size w w1) (hl : Sl w1 (w.heap.size + 3) w1.heap.size a k') (p q r : Value) :
    PutPost s v k place x w (.returned (.tuple #[.agg #[.int .i64 s', .int .i64 v', .slice a (flen k') c], .bool t])) (((w1.setCell ⟨w.heap.size + 1 + 1, 0, none⟩ p).setCell ⟨w.heap.size + 1 + 1, 1, none⟩ q).setCell ⟨w.heap.size + 1 + 1, 2, none⟩ r) := by
  refine ⟨a, c, s', v', k', t, hr, rfl, ((hb.setCell (by simp; omega) _).setCell (by simp; omega) _).setCell (by simp; omega) _, ?_⟩
  have hs : Same (w.heap.size + 3) w1.heap.size w1 (((w1.setCell ⟨w.heap.size + 1 + 1, 0, none⟩ p).setCell ⟨w.heap.size + 1 + 1, 1, none⟩ q).setCell ⟨w.heap.size + 1 + 1, 2, none⟩ r) :=
    (((Same.setCell (fun _ _ _ => rfl) (.inl (by simp)) _).setCell (.inl (by simp)) _).setCell (.inl (by simp)) _)
  exact (hl.same hs).mono (by omega) (by simp)

/-- The cells that hold the answer, behind two boxes. -/
theorem put_cells {w w1 : World} {o o' : Obj} (hb : Below (w.heap.size + 3) (((w.alloc o).alloc o').alloc (.cells #[.int .i64 0, .int .i64 0, .slice none 0 0] 35)) w1) :
    w1.cell? ⟨w.heap.size + 1 + 1, 0, none⟩ = some (.int .i64 0) ∧ w1.cell? ⟨w.heap.size + 1 + 1, 1, none⟩ = some (.int .i64 0) ∧ w1.cell? ⟨w.heap.size + 1 + 1, 2, none⟩ = some (.slice none 0 0) ∧
      w1.frozen? ⟨w.heap.size + 1 + 1, 0, none⟩ = false ∧ w1.frozen? ⟨w.heap.size + 1 + 1, 1, none⟩ = false ∧ w1.frozen? ⟨w.heap.size + 1 + 1, 2, none⟩ = false := by
  refine ⟨?_, ?_, ?_, ?_, ?_, ?_⟩
  · rw [hb.cell (by simp), World.cell?_alloc_at _ _ _ _ (by simp)]; rfl
  · rw [hb.cell (by simp), World.cell?_alloc_at _ _ _ _ (by simp)]; rfl
  · rw [hb.cell (by simp), World.cell?_alloc_at _ _ _ _ (by simp)]; rfl
  · rw [hb.frozen (by simp), World.frozen?_alloc_at _ _ _ _ (by simp)]
  · rw [hb.frozen (by simp), World.frozen?_alloc_at _ _ _ _ (by simp)]
  · rw [hb.frozen (by simp), World.frozen?_alloc_at _ _ _ _ (by simp)]
/-- The cells of the second box. -/
theorem put_box {w w1 : World} {o Z : Obj} {x y z : Value} (hb : Below (w.heap.size + 3) (((w.alloc o).alloc (.cells #[x, y, z] 35)).alloc Z) w1) :
    w1.cell? ⟨w.heap.size + 1, 0, none⟩ = some x ∧ w1.cell? ⟨w.heap.size + 1, 1, none⟩ = some y ∧ w1.cell? ⟨w.heap.size + 1, 2, none⟩ = some z := by
  refine ⟨?_, ?_, ?_⟩
  · rw [hb.cell (by simp), World.cell?_alloc_lt _ _ _ (by simp), World.cell?_alloc_at _ _ _ _ (by simp)]; rfl
  · rw [hb.cell (by simp), World.cell?_alloc_lt _ _ _ (by simp), World.cell?_alloc_at _ _ _ _ (by simp)]; rfl
  · rw [hb.cell (by simp), World.cell?_alloc_lt _ _ _ (by simp), World.cell?_alloc_at _ _ _ _ (by simp)]; rfl

end Go.Proofs.Ytoafleckcjanaaa

/-! D1: spec.l1Put: a term made anew with another at a place that is there. -/
namespace Go.Proofs.Ytoafleckcjanaaa
open Go.RowKit Go.Deep
attribute [local go_sem ↓] Go.wp_at_zero Go.wp_at_succ

/-- A kid of a row of one's own is written over. -/
theorem own_set {w : World} {base i g C L2 : Nat} {k : Fo} (h : Own w base k (flen k) (some ⟨g, 0, none⟩) C) (hi : i < flen k) {s v : Int} {a2 : Option Addr} {c2 : Nat} {kk : Fo} (hl : Sl w L2 w.heap.size a2 kk) (hL2 : base ≤ L2) (hg2 : g < L2) :
    Sl (((w.setCell ⟨g, i * 3, none⟩ (.int .i64 s)).setCell ⟨g, i * 3 + 1, none⟩ (.int .i64 v)).setCell ⟨g, i * 3 + 2, none⟩ (.slice a2 (flen kk) c2)) base w.heap.size (some ⟨g, 0, none⟩) (fset k i (s, v, kk)) := by
  obtain ⟨xs, hown, hall⟩ := h
  obtain ⟨g', cap, hv, hb, hlt⟩ := hown.form (by omega)
  simp only [Value.slice.injEq, Option.some.injEq, Addr.mk.injEq] at hv
  obtain ⟨⟨rfl, _⟩, _, rfl⟩ := hv
  have hc := hown.cells (g := g) rfl
  have ha : ∀ n, (⟨g, 0, none⟩ : Addr).add n = ⟨g, n, none⟩ := fun n => by unfold Addr.add; split <;> simp_all
  have hcell : ∀ {i u}, xs[i]? = some u → w.cell? ⟨g, i, none⟩ = some u := fun h => by have := hc _ _ h; rwa [ha] at this
  have hsame : ∀ {L H : Nat}, (g < L ∨ H ≤ g) → Same L H w (((w.setCell ⟨g, i * 3, none⟩ (.int .i64 s)).setCell ⟨g, i * 3 + 1, none⟩ (.int .i64 v)).setCell ⟨g, i * 3 + 2, none⟩ (.slice a2 (flen kk) c2)) := fun hg =>
    ((Same.setCell (fun _ _ _ => rfl) hg _).setCell hg _).setCell hg _
  refine .inr ⟨g, 0, rfl, row_of_all _ g 0 hb hlt fun j hj => ?_⟩
  rw [flen_set] at hj
  obtain ⟨x', y', s', v', k', a', c', L, H, e, h0, h1, h2, hs, hL, hH, hg⟩ := hall j hj
  by_cases hij : i = j
  · subst hij
    obtain ⟨b', o', e'⟩ := fset_at k i (s, v, kk) hj
    refine ⟨b', o', s, v, kk, a2, c2, e', ?_, ?_, ?_, (hl.same (hsame (.inl hg2))).mono hL2 (Nat.le_refl _)⟩
    · rw [World.cell?_setCell_other _ _ _ _ (ne_off (by omega)), World.cell?_setCell_other _ _ _ _ (ne_off (by omega)), Nat.zero_add]
      exact World.cell?_setCell_same _ _ _ (hcell h0)
    · rw [World.cell?_setCell_other _ _ _ _ (ne_off (by omega)), Nat.zero_add]
      refine World.cell?_setCell_same _ _ _ (u := .int .i64 v') ?_
      rw [World.cell?_setCell_other _ _ _ _ (ne_off (by omega))]
      exact hcell h1
    · rw [Nat.zero_add]
      refine World.cell?_setCell_same _ _ _ (u := .slice a' (flen k') c') ?_
      rw [World.cell?_setCell_other _ _ _ _ (ne_off (by omega)), World.cell?_setCell_other _ _ _ _ (ne_off (by omega))]
      exact hcell h2
  · obtain ⟨r', e'⟩ := fset_far k i j (s, v, kk) hij e
    obtain ⟨x2, y2, s2, v2, k2, e2⟩ := fdrop_succ j (fset k i (s, v, kk)) (by rw [flen_set]; exact hj)
    rw [e'] at e2
    simp only [BT.node.injEq, Prod.mk.injEq] at e2
    obtain ⟨rfl, rfl, ⟨rfl, rfl⟩, rfl, hr'⟩ := e2
    refine ⟨x', y', s', v', k', a', c', by rw [e', hr'], ?_, ?_, ?_, (hs.same (hsame (hg g rfl))).mono hL hH⟩
    · rw [World.cell?_setCell_other _ _ _ _ (ne_off (by omega)), World.cell?_setCell_other _ _ _ _ (ne_off (by omega)), World.cell?_setCell_other _ _ _ _ (ne_off (by omega)), Nat.zero_add]
      exact hcell h0
    · rw [World.cell?_setCell_other _ _ _ _ (ne_off (by omega)), World.cell?_setCell_other _ _ _ _ (ne_off (by omega)), World.cell?_setCell_other _ _ _ _ (ne_off (by omega)), Nat.zero_add]
      exact hcell h1
    · rw [World.cell?_setCell_other _ _ _ _ (ne_off (by omega)), World.cell?_setCell_other _ _ _ _ (ne_off (by omega)), World.cell?_setCell_other _ _ _ _ (ne_off (by omega)), Nat.zero_add]
      exact hcell h2
/-- The cells of a kid of a row of one's own. -/
theorem own_nth {w : World} {base i C : Nat} {k : Fo} {A : Option Addr} (h : Own w base k (flen k) A C) (hi : i < flen k) :
    ∃ g, A = some ⟨g, 0, none⟩ ∧ base ≤ g ∧ g < w.heap.size ∧ (∃ u, w.cell? ⟨g, i * 3, none⟩ = some u) ∧ (∃ u, w.cell? ⟨g, i * 3 + 1, none⟩ = some u) ∧ (∃ u, w.cell? ⟨g, i * 3 + 2, none⟩ = some u) ∧ ∀ j, w.frozen? ⟨g, j, none⟩ = false := by
  obtain ⟨xs, hown, hall⟩ := h
  obtain ⟨g, cap, hv, hb, hlt⟩ := hown.form (by omega)
  simp only [Value.slice.injEq] at hv
  obtain ⟨rfl, _, rfl⟩ := hv
  have hc := hown.cells (g := g) rfl
  have ha : ∀ n, (⟨g, 0, none⟩ : Addr).add n = ⟨g, n, none⟩ := fun n => by unfold Addr.add; split <;> simp_all
  have hcell : ∀ {i u}, xs[i]? = some u → w.cell? ⟨g, i, none⟩ = some u := fun h => by have := hc _ _ h; rwa [ha] at this
  obtain ⟨x', y', s', v', k', a', c', L, H, e, h0, h1, h2, hs, hL, hH, hg⟩ := hall i hi
  have hfz : ∀ i, w.frozen? ⟨g, i, none⟩ = false := fun i => by
    rcases hown.2 with ⟨h, _⟩ | ⟨g', cap', cur, h3, h4, h5, h6⟩
    · simp at h
    · simp only [Value.slice.injEq, Option.some.injEq, Addr.mk.injEq] at h3
      obtain ⟨⟨rfl, _⟩, _⟩ := h3
      simp [World.frozen?, h5]
  exact ⟨g, rfl, hb, hlt, ⟨_, hcell h0⟩, ⟨_, hcell h1⟩, ⟨_, hcell h2⟩, hfz⟩

def LputPost (s' v' : Int) (k' : Fo) (w : World) (e : Ending) (w' : World) : Prop :=
  ∃ a c, e = .returned (.agg #[.int .i64 s', .int .i64 v', .slice a (flen k') c]) ∧ Below w.heap.size w w' ∧ Sl w' w.heap.size w'.heap.size a k'

theorem lput_end {w w1 : World} {s' v' : Int} {k' : Fo} {a : Option Addr} {c : Nat} (hb : Below w.heap.size w w1) (hl : Sl w1 (w.heap.size + 3) w1.heap.size a k') (p q r : Value) :
    LputPost s' v' k' w (.returned (.agg #[.int .i64 s', .int .i64 v', .slice a (flen k') c])) (((w1.setCell ⟨w.heap.size + 1 + 1, 0, none⟩ p).setCell ⟨w.heap.size + 1 + 1, 1, none⟩ q).setCell ⟨w.heap.size + 1 + 1, 2, none⟩ r) := by
  refine ⟨a, c, rfl, ((hb.setCell (by simp; omega) _).setCell (by simp; omega) _).setCell (by simp; omega) _, ?_⟩
  have hs : Same (w.heap.size + 3) w1.heap.size w1 (((w1.setCell ⟨w.heap.size + 1 + 1, 0, none⟩ p).setCell ⟨w.heap.size + 1 + 1, 1, none⟩ q).setCell ⟨w.heap.size + 1 + 1, 2, none⟩ r) :=
    (((Same.setCell (fun _ _ _ => rfl) (.inl (by simp)) _).setCell (.inl (by simp)) _).setCell (.inl (by simp)) _)
  exact (hl.same hs).mono (by omega) (by simp)

set_option maxRecDepth 100000 in
set_option maxHeartbeats 1000000 in
theorem l1Put_any (s2 v2 : Int) (a2 : Option Addr) (c2 : Nat) (k2 : Fo) (hk2 : fsz k2 ≤ 1000) : ∀ (place : List Int) (s v : Int) (a : Option Addr) (c : Nat) (k : Fo) (pA : Option Addr) (pC : Nat) (s' v' : Int) (k' : Fo) (w : World), Sl w 0 w.heap.size a k → ISc w 0 w.heap.size pA pC place → place.length ≤ 1048576 → Sl w 0 w.heap.size a2 k2 → fsz k ≤ 1000 → fput s v k place (s2, v2, k2) = some (s', v', k') →
    Calls Try.prog 53 #[.agg #[.int .i64 s, .int .i64 v, .slice a (flen k) c], .slice pA place.length pC, .agg #[.int .i64 s2, .int .i64 v2, .slice a2 (flen k2) c2]] w (LputPost s' v' k' w) := by
  intro place
  induction place with
  | nil =>
    intro s v a c k pA pC s' v' k' w hl hp hpl hl2 hsz hf
    simp only [fput, Option.some.injEq, Prod.mk.injEq] at hf
    obtain ⟨rfl, rfl, rfl⟩ := hf
    have hb0 : Below w.heap.size w (((w.alloc (.cells #[.int .i64 s, .int .i64 v, .slice a (flen k) c] 35)).alloc (.cells #[.int .i64 s2, .int .i64 v2, .slice a2 (flen k2) c2] 35)).alloc (.cells #[.int .i64 0, .int .i64 0, .slice none 0 0] 35)) := (((Below.refl _ _).alloc (Nat.le_refl _) _).alloc (by simp) _).alloc (by simp; omega) _
    have HB0 := Lib.hid hb0
    have HL2 := Lib.hid ((hl2.below hb0).mono (Nat.le_refl _) hb0.size)
    clear hb0 hl hl2 hp
    go_enter Try.func53, Try.ntmps53
    go_wp2_with fail
    with_reducible refine (l1Copy_any (fsz k2) s2 v2 a2 c2 k2 _ HL2.out (Nat.le_refl _) (by omega)).mono ?_
    rintro e w4 ⟨a4, c4, rfl, hb4, hown4⟩
    have hs4 := hb4.size
    simp at hs4
    obtain ⟨hr0, hr1, hr2, hq0, hq1, hq2⟩ := put_cells (hb4.mono (show w.heap.size + 3 ≤ _ by simp))
    have HB4 := Lib.hid (HB0.out.trans (hb4.mono HB0.out.size))
    have HL4 := Lib.hid (hown4.sl.mono (lo' := w.heap.size + 3) (by simp) (Nat.le_refl _))
    clear hb4 hown4
    go_wp2_with fail
    refine bodyPost_ret (v := .agg #[.int .i64 s2, .int .i64 v2, .slice a4 (flen k2) c4]) ?_ rfl (lput_end HB4.out HL4.out _ _ _)
    simp [results, Try.results53, go_sem, hr0, hr1, hr2]
  | cons i ps ih =>
    intro s v a c k pA pC s' v' k' w hl hp hpl hl2 hsz hf
    have IH := Lib.hid ih
    obtain ⟨n, x0, y0, s1, v1, kk, ⟨y1, y2, y3⟩, rfl, hn, hd, hy, e⟩ := fput_cons hf
    simp only [Prod.mk.injEq] at e
    obtain ⟨rfl, rfl, rfl⟩ := e
    clear ih hf
    obtain ⟨b, o, rfl, _, hbB, hc⟩ := isl_get hp.1 (show 0 < ((n : Int) :: ps).length by simp)
    simp only [List.getElem_cons_zero, Nat.add_zero] at hc
    obtain ⟨bk, ok, rfl⟩ : ∃ bk ok, a = some ⟨bk, ok, none⟩ := by
      rcases hl with rfl | ⟨b, o, rfl, _⟩
      · simp [flen] at hn
      · exact ⟨_, _, rfl⟩
    have hrow : Row w 0 w.heap.size k bk ok := by
      rcases hl with rfl | ⟨b, o, e, h⟩
      · simp [flen] at hn
      · cases e; exact h
    obtain ⟨s3, v3, kk3, a3, c3, ⟨xa, ya, hd3⟩, _, hbB2, hk0, hk1, hk2', hsl3⟩ := row_at hrow hn
    rw [hd] at hd3
    simp only [BT.node.injEq, Prod.mk.injEq] at hd3
    obtain ⟨_, _, ⟨rfl, rfl⟩, rfl, _⟩ := hd3
    have hkk := fsz_kid hd
    have hfl := flen_le_sz k
    have hb0 : Below w.heap.size w (((w.alloc (.cells #[.int .i64 s', .int .i64 v', .slice (some ⟨bk, ok, none⟩) (flen k) c] 35)).alloc (.cells #[.int .i64 s2, .int .i64 v2, .slice a2 (flen k2) c2] 35)).alloc (.cells #[.int .i64 0, .int .i64 0, .slice none 0 0] 35)) := (((Below.refl _ _).alloc (Nat.le_refl _) _).alloc (by simp) _).alloc (by simp; omega) _
    have HB0 := Lib.hid hb0
    have HL := Lib.hid ((hl.below hb0).mono (Nat.le_refl _) hb0.size)
    have HL2 := Lib.hid hl2
    have HSL3 := Lib.hid hsl3
    have HP := Lib.hid hp
    have HY := Lib.hid hy
    simp only [List.length_cons] at hpl ⊢
    clear hb0 hl hl2 hrow hsl3 hd hp hy
    go_enter Try.func53, Try.ntmps53
    go_wp2_with fail
    with_reducible refine (l1Copy_any (fsz k) s' v' _ c k _ HL.out (Nat.le_refl _) (by omega)).mono ?_
    rintro e w4 ⟨a4, c4, rfl, hb4, hown4⟩
    have hs4 := hb4.size
    simp at hs4
    obtain ⟨g, rfl, hbg, hgl, ⟨u0, hg0⟩, ⟨u1, hg1⟩, ⟨u2, hg2⟩, hfz⟩ := own_nth hown4 hn
    simp at hbg
    have hb5 : Below w4.heap.size w4 (w4.alloc (.cells #[.int .i64 s', .int .i64 v', .slice (some ⟨g, 0, none⟩) (flen k) c4] 35)) := (Below.refl _ _).alloc (Nat.le_refl _) _
    have hb5' : Below (w.heap.size + 3) (((w.alloc (.cells #[.int .i64 s', .int .i64 v', .slice (some ⟨bk, ok, none⟩) (flen k) c] 35)).alloc (.cells #[.int .i64 s2, .int .i64 v2, .slice a2 (flen k2) c2] 35)).alloc (.cells #[.int .i64 0, .int .i64 0, .slice none 0 0] 35)) (w4.alloc (.cells #[.int .i64 s', .int .i64 v', .slice (some ⟨g, 0, none⟩) (flen k) c4] 35)) := (hb4.mono (by simp)).trans (hb5.mono (by omega))
    obtain ⟨hx0, hx1, hx2⟩ := put_box hb5'
    have hx3 : (w4.alloc (.cells #[.int .i64 s', .int .i64 v', .slice (some ⟨g, 0, none⟩) (flen k) c4] 35)).cell? ⟨w.heap.size, 2, none⟩ = some (.slice (some ⟨bk, ok, none⟩) (flen k) c) := by
      rw [hb5'.cell (by simp), World.cell?_alloc_lt _ _ _ (by first | (simp; done) | (simp; omega)), World.cell?_alloc_lt _ _ _ (by simp), World.cell?_alloc_at _ _ _ _ (by simp)]; rfl
    have hx4 : (w4.alloc (.cells #[.int .i64 s', .int .i64 v', .slice (some ⟨g, 0, none⟩) (flen k) c4] 35)).cell? ⟨w4.heap.size, 2, none⟩ = some (.slice (some ⟨g, 0, none⟩) (flen k) c4) := by rw [World.cell?_alloc_at _ _ _ _ (by simp)]; rfl
    have hbw5 := HB0.out.trans ((hb4.mono HB0.out.size).trans (hb5.mono (by omega)))
    have hx5 := cell_low hbw5 hc
    have hx6 := cell_low hbw5 hk0
    have hx7 := cell_low hbw5 hk1
    have hx8 := cell_low hbw5 hk2'
    obtain ⟨A', hcut, hcutI⟩ := cut_from (pA := some ⟨b, o, none⟩) (pC := pC) (n := 1) (place := (n : Int) :: ps) (by simp) HP.out.2
    have hsl : ∀ w : World, (Instr.slice 26 (.slice (some ⟨b, o, none⟩) (ps.length + 1) pC) (some (.int .i64 1)) none none).run Try.prog w = .ok (.slice A' ps.length (pC - 1)) w := fun w => hcut w
    have hs5 : w4.heap.size + 1 ≤ (w4.alloc (.cells #[.int .i64 s', .int .i64 v', .slice (some ⟨g, 0, none⟩) (flen k) c4] 35)).heap.size := by simp
    have HPC : Hid (ISc (w4.alloc (.cells #[.int .i64 s', .int .i64 v', .slice (some ⟨g, 0, none⟩) (flen k) c4] 35)).drew 0 (w4.alloc (.cells #[.int .i64 s', .int .i64 v', .slice (some ⟨g, 0, none⟩) (flen k) c4] 35)).drew.heap.size A' (pC - 1) ps) := ((hcutI HP.out.1).same (Same.of_below hbw5.drew)).mono (Nat.le_refl _) hbw5.size
    have HSL5 : Hid (Sl (w4.alloc (.cells #[.int .i64 s', .int .i64 v', .slice (some ⟨g, 0, none⟩) (flen k) c4] 35)).drew 0 (w4.alloc (.cells #[.int .i64 s', .int .i64 v', .slice (some ⟨g, 0, none⟩) (flen k) c4] 35)).drew.heap.size a3 kk) := (HSL3.out.below hbw5.drew).mono (Nat.le_refl _) hbw5.size
    have HL25 : Hid (Sl (w4.alloc (.cells #[.int .i64 s', .int .i64 v', .slice (some ⟨g, 0, none⟩) (flen k) c4] 35)).drew 0 (w4.alloc (.cells #[.int .i64 s', .int .i64 v', .slice (some ⟨g, 0, none⟩) (flen k) c4] 35)).drew.heap.size a2 k2) := (HL2.out.below hbw5.drew).mono (Nat.le_refl _) hbw5.size
    have HB4 := Lib.hid hb4
    have HB5' := Lib.hid hb5'
    have HBW5 := Lib.hid hbw5
    have HOWN4 := Lib.hid hown4
    have HFZ := Lib.hid hfz
    have HG0 := Lib.hid hg0
    have HG1 := Lib.hid hg1
    have HG2 := Lib.hid hg2
    clear hcut hcutI hb4 hb5 hb5' hbw5 hown4 hfz hg0 hg1 hg2 hc hk0 hk1 hk2'
    have hu0 : ∀ u : After (w4.alloc (.cells #[.int .i64 s', .int .i64 v', .slice (some ⟨g, 0, none⟩) (flen k) c4] 35)).heap.size (w4.alloc (.cells #[.int .i64 s', .int .i64 v', .slice (some ⟨g, 0, none⟩) (flen k) c4] 35)), u.world.cell? ⟨w4.heap.size, 2, none⟩ = some (.slice (some ⟨g, 0, none⟩) (flen k) c4) := fun u => u.cell (by simp) hx4
    have hu1 : ∀ u : After (w4.alloc (.cells #[.int .i64 s', .int .i64 v', .slice (some ⟨g, 0, none⟩) (flen k) c4] 35)).heap.size (w4.alloc (.cells #[.int .i64 s', .int .i64 v', .slice (some ⟨g, 0, none⟩) (flen k) c4] 35)), u.world.cell? ⟨b, o, none⟩ = some (.int .i64 (n : Int)) := fun u => u.cell (by simp; omega) hx5
    have hu2 : ∀ u : After (w4.alloc (.cells #[.int .i64 s', .int .i64 v', .slice (some ⟨g, 0, none⟩) (flen k) c4] 35)).heap.size (w4.alloc (.cells #[.int .i64 s', .int .i64 v', .slice (some ⟨g, 0, none⟩) (flen k) c4] 35)), u.world.cell? ⟨w.heap.size, 2, none⟩ = some (.slice (some ⟨bk, ok, none⟩) (flen k) c) := fun u => u.cell (by simp; omega) hx3
    have hu3 : ∀ u : After (w4.alloc (.cells #[.int .i64 s', .int .i64 v', .slice (some ⟨g, 0, none⟩) (flen k) c4] 35)).heap.size (w4.alloc (.cells #[.int .i64 s', .int .i64 v', .slice (some ⟨g, 0, none⟩) (flen k) c4] 35)), u.world.cell? ⟨bk, ok + n * 3, none⟩ = some (.int .i64 s1) := fun u => u.cell (by simp; omega) hx6
    have hu4 : ∀ u : After (w4.alloc (.cells #[.int .i64 s', .int .i64 v', .slice (some ⟨g, 0, none⟩) (flen k) c4] 35)).heap.size (w4.alloc (.cells #[.int .i64 s', .int .i64 v', .slice (some ⟨g, 0, none⟩) (flen k) c4] 35)), u.world.cell? ⟨bk, ok + n * 3 + 1, none⟩ = some (.int .i64 v1) := fun u => u.cell (by simp; omega) hx7
    have hu5 : ∀ u : After (w4.alloc (.cells #[.int .i64 s', .int .i64 v', .slice (some ⟨g, 0, none⟩) (flen k) c4] 35)).heap.size (w4.alloc (.cells #[.int .i64 s', .int .i64 v', .slice (some ⟨g, 0, none⟩) (flen k) c4] 35)), u.world.cell? ⟨bk, ok + n * 3 + 2, none⟩ = some (.slice a3 (flen kk) c3) := fun u => u.cell (by simp; omega) hx8
    have hu6 : ∀ u : After (w4.alloc (.cells #[.int .i64 s', .int .i64 v', .slice (some ⟨g, 0, none⟩) (flen k) c4] 35)).heap.size (w4.alloc (.cells #[.int .i64 s', .int .i64 v', .slice (some ⟨g, 0, none⟩) (flen k) c4] 35)), u.world.cell? ⟨w.heap.size + 1, 0, none⟩ = some (.int .i64 s2) := fun u => u.cell (by simp; omega) hx0
    have hu7 : ∀ u : After (w4.alloc (.cells #[.int .i64 s', .int .i64 v', .slice (some ⟨g, 0, none⟩) (flen k) c4] 35)).heap.size (w4.alloc (.cells #[.int .i64 s', .int .i64 v', .slice (some ⟨g, 0, none⟩) (flen k) c4] 35)), u.world.cell? ⟨w.heap.size + 1, 1, none⟩ = some (.int .i64 v2) := fun u => u.cell (by simp; omega) hx1
    have hu8 : ∀ u : After (w4.alloc (.cells #[.int .i64 s', .int .i64 v', .slice (some ⟨g, 0, none⟩) (flen k) c4] 35)).heap.size (w4.alloc (.cells #[.int .i64 s', .int .i64 v', .slice (some ⟨g, 0, none⟩) (flen k) c4] 35)), u.world.cell? ⟨w.heap.size + 1, 2, none⟩ = some (.slice a2 (flen k2) c2) := fun u => u.cell (by simp; omega) hx2
    have g1 : (0 : Int) ≤ (n : Int) := by omega
    have g2 : (n : Int) < (flen k : Int) := by omega
    go_wp2_with fail
    clear hx0 hx1 hx2 hx3 hx4 hx5 hx6 hx7 hx8
    refine wp_region_mix (fun w' => ∃ u : After (w4.alloc (.cells #[.int .i64 s', .int .i64 v', .slice (some ⟨g, 0, none⟩) (flen k) c4] 35)).heap.size (w4.alloc (.cells #[.int .i64 s', .int .i64 v', .slice (some ⟨g, 0, none⟩) (flen k) c4] 35)), w' = u.world) [17] [(0, 0), (1, 0), (2, 0), (3, 0), (4, 0), (5, 0), (6, 0), (7, 0), (8, 0), (9, 0), (10, 0), (11, 0), (12, 0), (13, 0), (14, 0), (15, 1), (16, 1), (17, 2)] (by kernel_rfl) (by kernel_rfl) ⟨⟨_, (Below.refl _ _).drew⟩, rfl⟩ ?_
    iterate 15
      refine mix_see rfl (fun K hK => ?_)
      go_simp
      refine hK _ ?_
      clear hK K
    clear hu0 hu1 hu2 hu3 hu4 hu5 hu6 hu7 hu8
    refine mix_hold rfl (fun K hK => ?_)
    go_simp
    with_reducible refine (IH.out s1 v1 a3 c3 kk A' (pC - 1) y1 y2 y3 _ HSL5.out HPC.out (by omega) HL25.out (by omega) HY.out).mono ?_
    rintro e w6 ⟨a6, c6, rfl, hb6, hl6⟩
    have hb6' := bl_undrew hb6
    have hs6 := hb6'.size
    have hb46 : Below w4.heap.size w4 w6 := ((Below.refl _ _).alloc (Nat.le_refl _) _).trans (hb6'.mono (by simp))
    have hg0 := cell_low hb46 HG0.out
    have hg1 := cell_low hb46 HG1.out
    have hg2 := cell_low hb46 HG2.out
    have hf0 : w6.frozen? ⟨g, n * 3, none⟩ = false := by rw [hb46.frozen (by simpa using hgl)]; exact HFZ.out _
    have hf1 : w6.frozen? ⟨g, n * 3 + 1, none⟩ = false := by rw [hb46.frozen (by simpa using hgl)]; exact HFZ.out _
    have hf2 : w6.frozen? ⟨g, n * 3 + 2, none⟩ = false := by rw [hb46.frozen (by simpa using hgl)]; exact HFZ.out _
    have hl6' : Sl w6 (w4.heap.size + 1) w6.heap.size a6 y3 := hl6.mono (by simp) (Nat.le_refl _)
    have HSET : Hid (Sl (((w6.setCell ⟨g, n * 3, none⟩ (.int .i64 y1)).setCell ⟨g, n * 3 + 1, none⟩ (.int .i64 y2)).setCell ⟨g, n * 3 + 2, none⟩ (.slice a6 (flen y3) c6)) (w.heap.size + 3) w6.heap.size (some ⟨g, 0, none⟩) (fset k n (y1, y2, y3))) := own_set (HOWN4.out.low hb46 (by simp)) hn hl6' (by omega) (by omega)
    have hb7 : Below (w.heap.size + 3) (((w.alloc (.cells #[.int .i64 s', .int .i64 v', .slice (some ⟨bk, ok, none⟩) (flen k) c] 35)).alloc (.cells #[.int .i64 s2, .int .i64 v2, .slice a2 (flen k2) c2] 35)).alloc (.cells #[.int .i64 0, .int .i64 0, .slice none 0 0] 35)) (((w6.setCell ⟨g, n * 3, none⟩ (.int .i64 y1)).setCell ⟨g, n * 3 + 1, none⟩ (.int .i64 y2)).setCell ⟨g, n * 3 + 2, none⟩ (.slice a6 (flen y3) c6)) := (((HB5'.out.trans (hb6'.mono (by simp; omega))).setCell (by simp; omega) _).setCell (by simp; omega) _).setCell (by simp; omega) _
    have HB7 := Lib.hid hb7
    have HE7 : Hid (∀ j z, (w4.alloc (.cells #[.int .i64 s', .int .i64 v', .slice (some ⟨g, 0, none⟩) (flen k) c4] 35)).cell? ⟨w4.heap.size, j, none⟩ = some z → (((w6.setCell ⟨g, n * 3, none⟩ (.int .i64 y1)).setCell ⟨g, n * 3 + 1, none⟩ (.int .i64 y2)).setCell ⟨g, n * 3 + 2, none⟩ (.slice a6 (flen y3) c6)).cell? ⟨w4.heap.size, j, none⟩ = some z) := fun j z hz => by
      rw [World.cell?_setCell_other _ _ _ _ (by intro h; have := congrArg Addr.block h; simp at this; omega), World.cell?_setCell_other _ _ _ _ (by intro h; have := congrArg Addr.block h; simp at this; omega), World.cell?_setCell_other _ _ _ _ (by intro h; have := congrArg Addr.block h; simp at this; omega)]
      exact cell_low hb6' hz
    refine hK _ _ ⟨⟨_, hb6'⟩, rfl⟩ ?_
    clear hK K hb6 hl6 hl6' hb46 hb7
    refine mix_hold rfl (fun K hK => ?_)
    go_simp
    refine hK _ _ ⟨⟨_, hb6'⟩, rfl⟩ ?_
    clear hK K hb6'
    refine mix_late rfl (fun K hK => ?_)
    go_simp
    refine hK _ _ ?_
    clear hK K
    refine mix_end ?_
    clear hg0 hg1 hg2 hf0 hf1 hf2
    obtain ⟨hr0, hr1, hr2, hq0, hq1, hq2⟩ := put_cells HB7.out
    have ho0 := HE7.out 0 (.int .i64 s') (by rw [World.cell?_alloc_at _ _ _ _ (by simp)]; rfl)
    have ho1 := HE7.out 1 (.int .i64 v') (by rw [World.cell?_alloc_at _ _ _ _ (by simp)]; rfl)
    have ho2 := HE7.out 2 (.slice (some ⟨g, 0, none⟩) (flen k) c4) (by rw [World.cell?_alloc_at _ _ _ _ (by simp)]; rfl)
    have HEND := Lib.hid (fun p q r => lput_end (s' := s') (v' := v') (k' := fset k n (y1, y2, y3)) (c := c4) (HB0.out.trans (HB7.out.mono (by simp))) (HSET.out.mono (Nat.le_refl _) (by simp)) p q r)
    go_wp2_with fail
    refine bodyPost_ret (v := .agg #[.int .i64 s', .int .i64 v', .slice (some ⟨g, 0, none⟩) (flen k) c4]) ?_ rfl ?_
    · simp [results, Try.results53, go_sem, hr0, hr1, hr2]
    · have := HEND.out (.int .i64 s') (.int .i64 v') (.slice (some ⟨g, 0, none⟩) (flen k) c4)
      rw [flen_set] at this
      exact this
end Go.Proofs.Ytoafleckcjanaaa
