/- Several texts in one: PE0, PE. -/
import Derived.Test.YtoafleckcjanaaaKLk20
import Derived.Test.YtoafleckcjanaaaKLk24
import Derived.Test.YtoafleckcjanaaaKLk22

/-! PE0: ProofEnd of the program where it fails at once. -/
namespace Go.Proofs.Ytoafleckcjanaaa
open Go.RowKit Go.Deep Go.Shelf

/-- What stays where all cells stay. -/
theorem OwR.keepS {w w' : World} (hk : ∀ (q : Addr) (v : Value), w.cell? q = some v → w'.cell? q = some v ∧ w'.frozen? q = w.frozen? q) : ∀ {k : Fo} {b o : Nat} {P : Nat → Prop}, OwR w k b o P → OwR w' k b o P
  | .nil, _, _, _, _ => trivial
  | .node _ _ p k r, b, o, P, ⟨⟨c0, c1⟩, ⟨f0, f1, f2⟩, a, c, P1, P2, g1, g2, g3, g4, g5, g6⟩ => by
    have k0 := hk _ _ c0
    have k1 := hk _ _ c1
    have k2 := hk _ _ g4
    refine ⟨⟨k0.1, k1.1⟩, ⟨k0.2.trans f0, k1.2.trans f1, k2.2.trans f2⟩, a, c, P1, P2, g1, g2, g3, k2.1, ?_, OwR.keepS hk g6⟩
    rcases g5 with g5 | ⟨b', P3, e, h1, h2, h3, h4⟩
    · exact .inl g5
    · exact .inr ⟨b', P3, e, h1, h2, h3, OwR.keepS hk h4⟩
theorem prR_bad {es : List Eqd} {t : Tm3} {ls : List Lk} (h : okEs es = false ∨ okT3 64 t = false ∨ 40 < ls.length) : prR es t ls = none := by
  unfold prR
  refine if_neg fun h' => ?_
  rcases h with h | h | h
  · rw [h] at h'; cases h'.1
  · rw [h] at h'; cases h'.2.1
  · omega
theorem prR_good {es : List Eqd} {t : Tm3} {ls : List Lk} (h1 : okEs es = true) (h2 : okT3 64 t = true) (h3 : ls.length ≤ 40) : prR es t ls = lkF es t ls := by
  unfold prR
  exact if_pos ⟨h1, h2, h3⟩

/-- The boxes of the term and of both results. -/
structure PeS (w : World) (s v : Int) (T : Value) (u : World) : Prop where
  low : Below w.heap.size w u
  size : w.heap.size + 3 ≤ u.heap.size
  t0 : u.cell? ⟨w.heap.size, 0, none⟩ = some (.int .i64 s)
  t1 : u.cell? ⟨w.heap.size, 1, none⟩ = some (.int .i64 v)
  t2 : u.cell? ⟨w.heap.size, 2, none⟩ = some T
  r0 : u.cell? ⟨w.heap.size + 1, 0, none⟩ = some (.int .i64 0)
  r1 : u.cell? ⟨w.heap.size + 1, 1, none⟩ = some (.int .i64 0)
  r2 : u.cell? ⟨w.heap.size + 1, 2, none⟩ = some (.slice none 0 0)
  b0 : u.cell? ⟨w.heap.size + 1 + 1, 0, none⟩ = some (.bool false)
  f : ∀ i, u.frozen? ⟨w.heap.size + 1, i, none⟩ = false
  g : ∀ i, u.frozen? ⟨w.heap.size + 1 + 1, i, none⟩ = false
theorem PeS.start {w : World} {s v : Int} {T : Value} {T1 T2 T3 : TypeId} : PeS w s v T (((w.alloc (.cells #[.int .i64 s, .int .i64 v, T] T1)).alloc (.cells #[.int .i64 0, .int .i64 0, .slice none 0 0] T2)).alloc (.cells #[.bool false] T3)) := by
  have a0 : ∀ i, (((w.alloc (.cells #[.int .i64 s, .int .i64 v, T] T1)).alloc (.cells #[.int .i64 0, .int .i64 0, .slice none 0 0] T2)).alloc (.cells #[.bool false] T3)).cell? ⟨w.heap.size, i, none⟩ = #[Value.int .i64 s, .int .i64 v, T][i]? := fun i => by
    rw [World.cell?_alloc_lt _ _ _ (by simp; omega), World.cell?_alloc_lt _ _ _ (by simp), World.cell?_alloc_at _ _ _ _ (by simp)]
  have a1 : ∀ i, (((w.alloc (.cells #[.int .i64 s, .int .i64 v, T] T1)).alloc (.cells #[.int .i64 0, .int .i64 0, .slice none 0 0] T2)).alloc (.cells #[.bool false] T3)).cell? ⟨w.heap.size + 1, i, none⟩ = #[Value.int .i64 0, .int .i64 0, .slice none 0 0][i]? := fun i => by
    rw [World.cell?_alloc_lt _ _ _ (by simp), World.cell?_alloc_at _ _ _ _ (by simp)]
  have a2 : ∀ i, (((w.alloc (.cells #[.int .i64 s, .int .i64 v, T] T1)).alloc (.cells #[.int .i64 0, .int .i64 0, .slice none 0 0] T2)).alloc (.cells #[.bool false] T3)).cell? ⟨w.heap.size + 1 + 1, i, none⟩ = #[Value.bool false][i]? := fun i => by
    rw [World.cell?_alloc_at _ _ _ _ (by simp)]
  exact ⟨(((Below.refl _ _).alloc (Nat.le_refl _) _).alloc (by simp) _).alloc (by simp; omega) _, by simp, a0 0, a0 1, a0 2, a1 0, a1 1, a1 2, a2 0, fun i => by rw [((Below.refl _ _).alloc (Nat.le_refl _) _).frozen (by simp), World.frozen?_alloc_at _ _ _ _ (by simp)], fun i => by rw [World.frozen?_alloc_at _ _ _ _ (by simp)]⟩
theorem PeS.next {w : World} {s v : Int} {T : Value} {u u' : World} (h : PeS w s v T u) (hb : Below u.heap.size u u') : PeS w s v T u' :=
  ⟨h.low.trans (hb.mono (by have := h.size; omega)), Nat.le_trans h.size hb.size, cell_low hb h.t0, cell_low hb h.t1, cell_low hb h.t2, cell_low hb h.r0, cell_low hb h.r1, cell_low hb h.r2, cell_low hb h.b0, fun i => (hb.frozen (by have := h.size; simp; omega)).trans (h.f i), fun i => (hb.frozen (by have := h.size; simp; omega)).trans (h.g i)⟩
theorem pe_end {w w1 : World} {r : Option Tm3} {s v : Int} {k : Fo} {t : Bool} {a : Option Addr} {c : Nat} (hr : ansR r = ((s, v, k), t)) (hb : Below w.heap.size w w1) (hl : Sl w1 (w.heap.size + 3) w1.heap.size a k) (p q o z : Value) :
    LkPost r w (.returned (.tuple #[.agg #[.int .i64 s, .int .i64 v, .slice a (flen k) c], .bool t])) ((((w1.setCell ⟨w.heap.size + 1, 0, none⟩ p).setCell ⟨w.heap.size + 1, 1, none⟩ q).setCell ⟨w.heap.size + 1, 2, none⟩ o).setCell ⟨w.heap.size + 1 + 1, 0, none⟩ z) := by
  refine ⟨a, c, s, v, k, t, hr, rfl, (((hb.setCell (by simp) _).setCell (by simp) _).setCell (by simp) _).setCell (by simp; omega) _, ?_⟩
  have hs : Same (w.heap.size + 3) w1.heap.size w1 ((((w1.setCell ⟨w.heap.size + 1, 0, none⟩ p).setCell ⟨w.heap.size + 1, 1, none⟩ q).setCell ⟨w.heap.size + 1, 2, none⟩ o).setCell ⟨w.heap.size + 1 + 1, 0, none⟩ z) :=
    ((((Same.setCell (fun _ _ _ => rfl) (.inl (by simp)) _).setCell (.inl (by simp)) _).setCell (.inl (by simp)) _).setCell (.inl (by simp)) _)
  exact (hl.same hs).mono (by omega) (by simp)

set_option maxRecDepth 100000 in
set_option maxHeartbeats 2000000 in
theorem proofEnd_bad (es : List Eqd) (A : Option Addr) (C : Nat) (s v : Int) (a : Option Addr) (c : Nat) (k : Fo) (A2 : Option Addr) (C2 : Nat) (ls : List Lk) (w : World)
    (hbad : okEs es = false ∨ okT3 64 (s, v, k) = false ∨ 40 < ls.length)
    (hq : ESl w 0 w.heap.size A es) (hel : es.length ≤ 9223372036854775807) (hl : Sl w 0 w.heap.size a k) (hll : ls.length ≤ 9223372036854775807) :
    Calls Try.prog 27 #[.slice A es.length C, .agg #[.int .i64 s, .int .i64 v, .slice a (flen k) c], .slice A2 ls.length C2] w (LkPost (prR es (s, v, k) ls) w) := by
  rw [prR_bad hbad]
  have hb0 : PeS w s v (.slice a (flen k) c) (((w.alloc (.cells #[.int .i64 s, .int .i64 v, .slice a (flen k) c] 35)).alloc (.cells #[.int .i64 0, .int .i64 0, .slice none 0 0] 35)).alloc (.cells #[.bool false] 4)) := PeS.start
  have HS := Lib.hid hb0
  have HQ := Lib.hid (hq.next hb0.low)
  have HL := Lib.hid (Sl.next hl hb0.low)
  have HBAD := Lib.hid hbad
  clear hb0 hq hl hbad
  go_enter Try.func27, Try.ntmps27
  go_wp2_with fail
  with_reducible refine (equationsOf_any es A C _ HQ.out hel).mono ?_
  rintro e w1 ⟨hb1, hcase⟩
  have HS1 := Lib.hid (HS.out.next hb1)
  have HL1 := Lib.hid (Sl.next HL.out hb1)
  clear hb1 HS HL HQ
  obtain ⟨A', n', C', rfl, hbe⟩ : ∃ A' n' C', e = .returned (.tuple #[.slice A' n' C', .bool (okEs es)]) ∧ True := by
    rcases hcase with ⟨h, A', C', rfl, _⟩ | ⟨h, rfl⟩ <;> rw [h] <;> exact ⟨_, _, _, rfl, trivial⟩
  clear hcase hbe
  have hbx : Below w1.heap.size w1 (w1.alloc (.cells #[.slice A' n' C'] 103)) := box_low _ _
  have HS2 := Lib.hid (HS1.out.next hbx)
  have HL2 := Lib.hid (Sl.next HL1.out hbx)
  have c0 := HS2.out.t0
  have c1 := HS2.out.t1
  have c2 := HS2.out.t2
  clear HS1 HL1 hbx
  go_wp2_with fail
  with_reducible refine (nodeOf_any s v a c k 64 _ HL2.out (by omega) (by omega)).mono ?_
  rintro e w3 ⟨nv, rfl, hb3, _⟩
  have HS3 := Lib.hid (HS2.out.next hb3)
  have HOK : Hid (okT3 64 (s, v, k) = okW s v k 64) := rfl
  rw [HOK.out] at HBAD
  have r0 := HS3.out.r0
  have r1 := HS3.out.r1
  have r2 := HS3.out.r2
  have b0 := HS3.out.b0
  have f0 := HS3.out.f 0
  have f1 := HS3.out.f 1
  have f2 := HS3.out.f 2
  have g0 := HS3.out.g 0
  have hsz := HS3.out.size
  clear c0 c1 c2 hb3 HS2 HL2
  have HEND := Lib.hid (pe_end (r := none) (s := 0) (v := 0) (k := .nil) (t := false) (a := none) (c := 0) rfl HS3.out.low (.inl rfl) (.int .i64 0) (.int .i64 0) (.slice none 0 0) (.bool false))
  have hor : (okEs es = true ∧ okW s v k 64 = true) → decide (40 < (ls.length : Int)) = true := fun h => by
    have := HBAD.out
    rw [h.1, h.2] at this
    simp at this
    simp
    omega
  cases h1 : okEs es with
  | false =>
    clear hor
    go_wp2_with fail
    refine bodyPost_ret (v := .tuple #[.agg #[.int .i64 0, .int .i64 0, .slice none 0 0], .bool false]) ?_ rfl HEND.out
    simp [results, Try.results27, go_sem, r0, r1, r2, b0]
  | true =>
    cases h2 : okW s v k 64 with
    | false =>
      clear hor
      go_wp2_with fail
      refine bodyPost_ret (v := .tuple #[.agg #[.int .i64 0, .int .i64 0, .slice none 0 0], .bool false]) ?_ rfl HEND.out
      simp [results, Try.results27, go_sem, r0, r1, r2, b0]
    | true =>
      have h3 := hor ⟨h1, h2⟩
      have h3' : decide ((ls.length : Int) > 40) = true := h3
      clear hor
      go_wp2_with fail
      refine bodyPost_ret (v := .tuple #[.agg #[.int .i64 0, .int .i64 0, .slice none 0 0], .bool false]) ?_ rfl HEND.out
      simp [results, Try.results27, go_sem, r0, r1, r2, b0]
end Go.Proofs.Ytoafleckcjanaaa

/-! PE: ProofEnd of the program. -/
namespace Go.Proofs.Ytoafleckcjanaaa
open Go.RowKit Go.Deep Go.Shelf
attribute [local go_sem] Oper.semAt_some

theorem uponIn_method {F : Fence} {N : Nat} {P : Program} {o : Oper} {a : Act} {K : Act → World → Prop} {Q : Exit → Act → World → Prop} {n : Nat} {t : TypeId} {v : Value} {nm : String} {w : World} (f : FuncId) (h : (method n t v nm).run P w = .ok (f, v) w)
    (h1 : (callFunc f #[v]).run P w = .ok (.enter f #[v]) w) (h2 : o.uponIn F N P a K Q (.ok (.enter f #[v]) w)) : o.uponIn F N P a K Q (((method n t v nm).run P w).andThen fun x w' => (callFunc x.1 #[x.2]).run P w') := by
  rw [h]
  show o.uponIn F N P a K Q ((callFunc f #[v]).run P w)
  rw [h1]
  exact h2
/-- A node's term, whichever it is. -/
theorem node_term {w : World} {tn : TypeId} {un : Value} {s v : Int} {k : Fo} (hn : NodeIs w 0 w.heap.size (.iface tn un) s v k) (hok : okW s v k 64 = true) (n : Nat) : ∃ f, (method (n + 1) tn un "loop.example/tipstaff/impl.term").run Try.prog w = .ok (f, un) w ∧ (callFunc f #[un]).run Try.prog w = .ok (.enter f #[un]) w ∧ Calls Try.prog f #[un] w (TmPostO s v k w) := by
  obtain ⟨h1, h2, h3⟩ := (okW_iff _ _ _ _).1 hok
  rcases hn with ⟨rfl, rfl, he⟩ | ⟨hzs, za, zc, he, hzn⟩
  · cases he
    exact ⟨147, by kernel_rfl, by kernel_rfl, varTermO_any v w⟩
  · cases he
    have hzv : v = 0 := ((okN_iff _ _ _).1 h1).2.2 hzs
    subst hzv
    exact ⟨164, by kernel_rfl, by kernel_rfl, symTermO_any (fsz k) s za zc k w hzn h2 (Nat.le_refl _) (by omega)⟩
/-- What holds of the term that is led on. -/
def PeI (es : List Eqd) (x0 : Tm3) (ls : List Lk) (wT : World) (e : Nat) (pre : List (Fin ls.length)) (W : World) : Prop :=
  ∃ (x : Tm3) (P : Nat → Prop), lkF es x0 (pre.map fun i => ls[i]) = some x ∧ OwR W (one3 x.1 x.2.1 x.2.2) e 0 P ∧ ¬ P e ∧ (∀ y, P y → wT.heap.size ≤ y ∧ y < W.heap.size ∧ y ≠ e + 1 ∧ y ≠ e + 1 + 1) ∧ e + 1 + 1 < W.heap.size
theorem peI_own {es : List Eqd} {x0 : Tm3} {ls : List Lk} {wT : World} {e : Nat} : Go.Own (PeI es x0 ls wT e) := fun _ _ _ _ ⟨x, P, h1, h2, h3, h4, h5⟩ hg hr =>
  ⟨x, P, h1, h2.keepS fun _ _ h => ⟨cell_kept h hg hr, frozen_kept h hg hr⟩, h3, fun y hy => ⟨(h4 y hy).1, Nat.lt_of_lt_of_le (h4 y hy).2.1 hg.size, (h4 y hy).2.2⟩, Nat.lt_of_lt_of_le h5 hg.size⟩
/-- What is in both results' boxes when a link isn't done. -/
def PeX (es : List Eqd) (x0 : Tm3) (ls : List Lk) (w : World) (c : Code) (pre : List (Fin ls.length)) (W : World) : Prop :=
  c = .ret ∧ lkF es x0 (pre.map fun i => ls[i]) = none ∧ W.cell? ⟨w.heap.size + 1, 0, none⟩ = some (.int .i64 0) ∧ W.cell? ⟨w.heap.size + 1, 1, none⟩ = some (.int .i64 0) ∧ W.cell? ⟨w.heap.size + 1, 2, none⟩ = some (.slice none 0 0) ∧ W.cell? ⟨w.heap.size + 1 + 1, 0, none⟩ = some (.bool false)
theorem peX_own {es : List Eqd} {x0 : Tm3} {ls : List Lk} {w : World} {c : Code} : Go.Own (PeX es x0 ls w c) := fun _ _ _ _ ⟨h1, h2, c0, c1, c2, c3⟩ hg hr =>
  ⟨h1, h2, cell_kept c0 hg hr, cell_kept c1 hg hr, cell_kept c2 hg hr, cell_kept c3 hg hr⟩
theorem Row.keepC {w w' : World} {lo B B' : Nat} (hB : B ≤ B') (hk : ∀ (q : Addr) (v : Value), w.cell? q = some v → w'.cell? q = some v) : ∀ {k : Fo} {b o : Nat}, Row w lo B k b o → Row w' lo B' k b o
  | .nil, _, _, _ => trivial
  | .node _ _ _ _ _, _, _, ⟨h1, h2, c0, c1, ⟨a, c, c2, h3⟩, h4⟩ => by
    refine ⟨h1, by omega, hk _ _ c0, hk _ _ c1, ⟨a, c, hk _ _ c2, ?_⟩, Row.keepC hB hk h4⟩
    rcases h3 with h3 | ⟨b', o', e, h3⟩
    · exact .inl h3
    · exact .inr ⟨b', o', e, Row.keepC hB hk h3⟩
theorem Sl.keepC {w w' : World} {lo B B' : Nat} {a : Option Addr} {k : Fo} (hB : B ≤ B') (hk : ∀ (q : Addr) (v : Value), w.cell? q = some v → w'.cell? q = some v) (h : Sl w lo B a k) : Sl w' lo B' a k := by
  rcases h with h | ⟨b, o, e, h⟩
  · exact .inl h
  · exact .inr ⟨b, o, e, Row.keepC hB hk h⟩
theorem cell_putD {W : World} {D : Nat} (h : W.heap[D]? = some (.deferred (some []))) (q : Addr) : (W.putObj D (.deferred none)).cell? q = W.cell? q := by
  by_cases hq : q.block = D
  · have hlt := (Array.getElem?_eq_some_iff.1 h).1
    unfold World.cell?
    rw [hq, h, World.putObj_heap_same hlt]
  · exact World.cell?_of_block (World.putObj_heap_other hq)
theorem OwR.sl_lo {w : World} {lo B : Nat} {s v : Int} {k : Fo} {e : Nat} {P : Nat → Prop} (h : OwR w (one3 s v k) e 0 P) (hP : ∀ x, P x → lo ≤ x ∧ x < B) (h1 : lo ≤ e) (h2 : e < B) : ∃ a c, w.cell? ⟨e, 0, none⟩ = some (.int .i64 s) ∧ w.cell? ⟨e, 1, none⟩ = some (.int .i64 v) ∧ w.cell? ⟨e, 2, none⟩ = some (.slice a (flen k) c) ∧ Sl w lo B a k := by
  obtain ⟨_, _, c0, c1, ⟨a, c, c2, h3⟩, _⟩ := OwR.row hP h1 h2 h
  exact ⟨a, c, c0, by simpa using c1, by simpa using c2, h3⟩
/-- Both results' boxes, stored into. -/
def pset (W : World) (N : Nat) (p q o z : Value) : World := (((W.setCell ⟨N + 1, 0, none⟩ p).setCell ⟨N + 1, 1, none⟩ q).setCell ⟨N + 1, 2, none⟩ o).setCell ⟨N + 1 + 1, 0, none⟩ z
theorem pset_cells {W : World} {N : Nat} {p q o z p' q' o' z' : Value} (r0 : W.cell? ⟨N + 1, 0, none⟩ = some p') (r1 : W.cell? ⟨N + 1, 1, none⟩ = some q') (r2 : W.cell? ⟨N + 1, 2, none⟩ = some o') (b0 : W.cell? ⟨N + 1 + 1, 0, none⟩ = some z') :
    (pset W N p q o z).cell? ⟨N + 1, 0, none⟩ = some p ∧ (pset W N p q o z).cell? ⟨N + 1, 1, none⟩ = some q ∧ (pset W N p q o z).cell? ⟨N + 1, 2, none⟩ = some o ∧ (pset W N p q o z).cell? ⟨N + 1 + 1, 0, none⟩ = some z := by
  unfold pset
  refine ⟨?_, ?_, ?_, ?_⟩
  · rw [World.cell?_setCell_other _ _ _ _ (by simp), World.cell?_setCell_other _ _ _ _ (by simp), World.cell?_setCell_other _ _ _ _ (by simp), World.cell?_setCell_same _ _ _ r0]
  · rw [World.cell?_setCell_other _ _ _ _ (by simp), World.cell?_setCell_other _ _ _ _ (by simp), World.cell?_setCell_same _ _ _ (u := q') (by rw [World.cell?_setCell_other _ _ _ _ (by simp)]; exact r1)]
  · rw [World.cell?_setCell_other _ _ _ _ (by simp), World.cell?_setCell_same _ _ _ (u := o') (by rw [World.cell?_setCell_other _ _ _ _ (by simp), World.cell?_setCell_other _ _ _ _ (by simp)]; exact r2)]
  · rw [World.cell?_setCell_same _ _ _ (u := z') (by rw [World.cell?_setCell_other _ _ _ _ (by simp), World.cell?_setCell_other _ _ _ _ (by simp), World.cell?_setCell_other _ _ _ _ (by simp)]; exact b0)]
theorem pset_low {W w : World} {N B : Nat} {p q o z : Value} (h : Below B w W) (hN : B ≤ N) : Below B w (pset W N p q o z) := by
  unfold pset
  exact (((h.setCell (by simp; omega) _).setCell (by simp; omega) _).setCell (by simp; omega) _).setCell (by simp; omega) _
theorem pset_keeps (W : World) (N : Nat) (p q o z : Value) : KeepsOthers W (pset W N p q o z) := by
  unfold pset
  exact (((KeepsOthers.setCell _ _ _).trans (KeepsOthers.setCell _ _ _)).trans (KeepsOthers.setCell _ _ _)).trans (KeepsOthers.setCell _ _ _)
theorem lkPost_put {r : Option Tm3} {w W : World} {en : Ending} {D : Nat} (hD : w.heap.size ≤ D) (hK : W.heap[D]? = some (.deferred (some []))) (h : LkPost r w en W) : LkPost r w en (W.putObj D (.deferred none)) := by
  obtain ⟨a, c, s, v, k, t, h1, h2, h3, h4⟩ := h
  exact ⟨a, c, s, v, k, t, h1, h2, h3.trans (belowK_b (w := w) (Nat.le_refl _) W D _ _ hD hK rfl rfl), h4.keepC (by simp) fun q v h => (cell_putD hK q).trans h⟩
theorem LKp.alloc {n₀ B1 B2 : Nat} {W : World} (h : n₀ ≤ W.heap.size) (o : Obj) (h1 : B1 < W.heap.size) (h2 : B2 < W.heap.size) : LKp n₀ B1 B2 W (W.alloc o) := ⟨(box_low W o).mono h, (box_low W o).block _ h1, (box_low W o).block _ h2⟩
theorem lkF_ok {es : List Eqd} : ∀ {ls : List Lk} {t x : Tm3}, okT3 64 t = true → lkF es t ls = some x → okT3 64 x = true
  | [], _, _, h, he => by simp only [lkF, Option.some.injEq] at he; exact he ▸ h
  | _ :: _, _, _, _, he => by
    simp only [lkF] at he
    obtain ⟨y, h1, h2⟩ := Option.bind_eq_some_iff.1 he
    exact lkF_ok (lk1_ok h1) h2

set_option maxRecDepth 100000 in
set_option maxHeartbeats 4000000 in
theorem proofEnd_main (es : List Eqd) (A : Option Addr) (C : Nat) (s v : Int) (a : Option Addr) (c : Nat) (k : Fo) (A2 : Option Addr) (C2 : Nat) (ls : List Lk) (w : World)
    (h1 : okEs es = true) (h2 : okT3 64 (s, v, k) = true) (h3 : ls.length ≤ 40)
    (hq : ESl w 0 w.heap.size A es) (hel : es.length ≤ 9223372036854775807) (hl : Sl w 0 w.heap.size a k) (hll : LSl w 0 w.heap.size A2 ls) (hls : ∀ x ∈ ls, x.2.2.1.length ≤ 1048576 ∧ x.2.2.2.length ≤ 1048576) :
    Calls Try.prog 27 #[.slice A es.length C, .agg #[.int .i64 s, .int .i64 v, .slice a (flen k) c], .slice A2 ls.length C2] w (LkPost (prR es (s, v, k) ls) w) := by
  rw [prR_good h1 h2 h3]
  have hb0 : PeS w s v (.slice a (flen k) c) (((w.alloc (.cells #[.int .i64 s, .int .i64 v, .slice a (flen k) c] 35)).alloc (.cells #[.int .i64 0, .int .i64 0, .slice none 0 0] 35)).alloc (.cells #[.bool false] 4)) := PeS.start
  have HS := Lib.hid hb0
  have HQ := Lib.hid (hq.next hb0.low)
  have HL := Lib.hid (Sl.next hl hb0.low)
  obtain ⟨f, hf, hf2⟩ : ∃ f : Nat → Ld, (ls = [] ∨ ∃ b o, A2 = some ⟨b, o, none⟩ ∧ b < w.heap.size ∧ LRow w b o ls f) ∧ ∀ (i : Nat) (x : Lk), ls[i]? = some x → ISc w 0 w.heap.size (f i).1 (f i).2.1 x.2.2.1 ∧ BSl w 0 w.heap.size (f i).2.2.1 x.2.2.2 := by
    by_cases he : ls = []
    · exact ⟨fun _ => (none, 0, none, 0), .inl he, fun i x h => by rw [he] at h; simp at h⟩
    · obtain ⟨b, o, f, e1, e2, e3, e4⟩ := hll.row (List.length_pos_iff.2 he)
      exact ⟨f, .inr ⟨b, o, e1, e2, e3⟩, e4⟩
  have HLF := Lib.hid hf
  have HLF2 := Lib.hid hf2
  have HLS := Lib.hid hls
  have HOE := Lib.hid h1
  have HOT := Lib.hid h2
  clear hb0 hq hl h1 h2 hll hf hf2 hls
  refine (callsIn_wide (n := 12)).1 ?_
  refine callsIn_of_wp_marks Try.func27 rfl trivial ?_ rfl
  simp only [Try.ntmps27, List.size_toArray, List.length_cons, List.length_nil, Nat.reduceAdd, Nat.reduceSub, Array.replicate_succ, Array.replicate_zero, List.push_toArray, List.append_toArray, List.nil_append, List.cons_append]
  gi_wp2_with fail
  refine ⟨trivial, ?_⟩
  with_reducible refine (callsIn_wide.2 (equationsOf_any es A C _ HQ.out hel)).mono ?_
  rintro e w1 ⟨hb1, hcase⟩
  rcases hcase with ⟨_, A', C', rfl, hqs⟩ | ⟨h, _⟩
  rotate_left
  · rw [HOE.out] at h; cases h
  have hbx : Below w1.heap.size w1 (w1.alloc (.cells #[.slice A' es.length C'] 103)) := box_low _ _
  have HS2 := Lib.hid ((HS.out.next hb1).next hbx)
  have HL2 := Lib.hid (Sl.next (Sl.next HL.out hb1) hbx)
  have HQS := Lib.hid (hqs.next hbx)
  have HE2 : Hid ((w1.alloc (.cells #[.slice A' es.length C'] 103)).cell? ⟨w1.heap.size, 0, none⟩ = some (.slice A' es.length C')) := by rw [Hid, World.cell?_alloc_at _ _ _ _ (by simp)]; rfl
  have c0 := HS2.out.t0
  have c1 := HS2.out.t1
  have c2 := HS2.out.t2
  have hw1 : w.heap.size + 3 ≤ w1.heap.size := (HS.out.next hb1).size
  clear HS HL HQ hb1 hbx hqs
  gi_wp2_with fail
  refine ⟨trivial, ?_⟩
  with_reducible refine (callsIn_wide.2 (nodeOf_any s v a c k 64 _ HL2.out (by omega) (by omega))).mono ?_
  rintro e w3 ⟨nv, rfl, hb3, hyes⟩
  have h2 : okW s v k 64 = true := HOT.out
  have d3 : decide ((ls.length : Int) > 40) = false := by simp; omega
  have HS3 := Lib.hid (HS2.out.next hb3)
  have HQ3 := Lib.hid (HQS.out.next hb3)
  have HE3 := Lib.hid (cell_low hb3 HE2.out)
  have hs3 := hb3.size
  simp at hs3
  have hn := hyes h2
  rw [h2]
  clear hyes hb3 c0 c1 c2 HS2 HQS HE2 HL2
  have hw3 := HS3.out.size
  obtain ⟨tn, un, rfl⟩ : ∃ t u, nv = .iface t u := by rcases hn with ⟨_, _, rfl⟩ | ⟨_, _, _, rfl, _⟩ <;> exact ⟨_, _, rfl⟩
  have HNT := Lib.hid (node_term (hn.mono (Nat.zero_le _) (Nat.le_refl _)) h2)
  clear hn h2
  gi_wp2_with fail
  all_goals
    refine ⟨fun _ _ => trivial, ?_⟩
    obtain ⟨fn, hm1, hm2, hm3⟩ := HNT.out 347
    refine uponIn_method fn hm1 hm2 ?_
    clear hm1 hm2
    go_simp
    with_reducible refine (callsIn_wide.2 hm3).mono ?_
    rintro e w4 ⟨a4, c4, rfl, hb4, htx⟩
    clear hm3 HNT
    have hw4 := hb4.size
    have hI0 : PeI es (s, v, k) ls w3 w4.heap.size [] (((w4.alloc (.cells #[.int .i64 s, .int .i64 v, .slice a4 (flen k) c4] 35)).alloc (.cells #[.slice A2 ls.length C2] 53)).alloc (.cells #[.bool false] 4)) := by
      refine ⟨(s, v, k), fun x => w3.heap.size ≤ x ∧ x < w4.heap.size, rfl, ?_, fun h => by omega, fun y hy => ⟨hy.1, by simp; omega, by omega, by omega⟩, by simp⟩
      have h0 : Below w4.heap.size w4 (((w4.alloc (.cells #[.int .i64 s, .int .i64 v, .slice a4 (flen k) c4] 35)).alloc (.cells #[.slice A2 ls.length C2] 53)).alloc (.cells #[.bool false] 4)) := (((Below.refl _ _).alloc (Nat.le_refl _) _).alloc (by simp) _).alloc (by simp; omega) _
      have a0 : ∀ i, (((w4.alloc (.cells #[.int .i64 s, .int .i64 v, .slice a4 (flen k) c4] 35)).alloc (.cells #[.slice A2 ls.length C2] 53)).alloc (.cells #[.bool false] 4)).cell? ⟨w4.heap.size, i, none⟩ = #[Value.int .i64 s, .int .i64 v, .slice a4 (flen k) c4][i]? := fun i => by
        rw [World.cell?_alloc_lt _ _ _ (by simp; omega), World.cell?_alloc_lt _ _ _ (by simp), World.cell?_alloc_at _ _ _ _ (by simp)]
      have g0 : ∀ i, (((w4.alloc (.cells #[.int .i64 s, .int .i64 v, .slice a4 (flen k) c4] 35)).alloc (.cells #[.slice A2 ls.length C2] 53)).alloc (.cells #[.bool false] 4)).frozen? ⟨w4.heap.size, i, none⟩ = false := fun i => by
        rw [((Below.refl _ _).alloc (Nat.le_refl _) _).frozen (by simp; omega), ((Below.refl _ _).alloc (Nat.le_refl _) _).frozen (by simp), World.frozen?_alloc_at _ _ _ _ (by simp)]
      have h5 : OwS (((w4.alloc (.cells #[.int .i64 s, .int .i64 v, .slice a4 (flen k) c4] 35)).alloc (.cells #[.slice A2 ls.length C2] 53)).alloc (.cells #[.bool false] 4)) a4 k fun x => w3.heap.size ≤ x ∧ x < w4.heap.size := (ow_of_trs htx.2 htx.1).keep fun q hq => ⟨h0.cell hq.2, h0.frozen hq.2⟩
      exact ⟨⟨a0 0, a0 1⟩, ⟨g0 0, g0 1, g0 2⟩, a4, c4, _, fun _ => False, fun x h => h, fun x h => h.elim, fun _ _ h => h, a0 2, h5, trivial⟩
    have hB0 : Below w3.heap.size w3 (((w4.alloc (.cells #[.int .i64 s, .int .i64 v, .slice a4 (flen k) c4] 35)).alloc (.cells #[.slice A2 ls.length C2] 53)).alloc (.cells #[.bool false] 4)) := ((hb4.alloc hb4.size _).alloc (by simp; omega) _).alloc (by simp; omega) _
    have hc1 : (((w4.alloc (.cells #[.int .i64 s, .int .i64 v, .slice a4 (flen k) c4] 35)).alloc (.cells #[.slice A2 ls.length C2] 53)).alloc (.cells #[.bool false] 4)).cell? ⟨w4.heap.size + 1, 0, none⟩ = some (.slice A2 ls.length C2) := by
      rw [World.cell?_alloc_lt _ _ _ (by simp), World.cell?_alloc_at _ _ _ _ (by simp)]; rfl
    have hc2 : (((w4.alloc (.cells #[.int .i64 s, .int .i64 v, .slice a4 (flen k) c4] 35)).alloc (.cells #[.slice A2 ls.length C2] 53)).alloc (.cells #[.bool false] 4)).cell? ⟨w4.heap.size + 1 + 1, 0, none⟩ = some (.bool false) := by
      rw [World.cell?_alloc_at _ _ _ _ (by simp)]; rfl
    have hsz : (((w4.alloc (.cells #[.int .i64 s, .int .i64 v, .slice a4 (flen k) c4] 35)).alloc (.cells #[.slice A2 ls.length C2] 53)).alloc (.cells #[.bool false] 4)).heap.size = w4.heap.size + 3 := by simp
    have HI0 := Lib.hid hI0
    have HB0 := Lib.hid hB0
    have HC1 := Lib.hid hc1
    have HC2 := Lib.hid hc2
    have HSZ := Lib.hid hsz
    clear hI0 hB0 hc1 hc2 hsz
    gi_wp2_with fail
    refine ⟨trivial, ?_⟩
    with_reducible refine (linksOf_in _ _ trivial rfl A2 ls.length C2 false _).mono ?_
    rintro e w5 ⟨rfl, rfl⟩
    simp only [World.size_alloc]
    gi_wp2_with fail
    obtain ⟨V, hV⟩ : ∃ V, (((w4.alloc (.cells #[.int .i64 s, .int .i64 v, .slice a4 (flen k) c4] 35)).alloc (.cells #[.slice A2 ls.length C2] 53)).alloc (.cells #[.bool false] 4)) = V := ⟨_, rfl⟩
    rw [hV] at HC1 HC2 HSZ HI0 HB0 ⊢
    have hI0 := HI0.out
    have hB0 := HB0.out
    have hc1 := HC1.out
    have hc2 := HC2.out
    have hsz := HSZ.out
    clear hV htx hb4
    have hwl : Below w.heap.size w V := HS3.out.low.trans (hB0.mono HS3.out.low.size)
    have hlf : ls = [] ∨ ∃ b o, A2 = some ⟨b, o, none⟩ ∧ b < w3.heap.size ∧ LRow V b o ls f := by
      rcases HLF.out with h | ⟨b, o, h1, h2, h3⟩
      · exact .inl h
      · refine .inr ⟨b, o, h1, by omega, fun i x hx => ?_⟩
        obtain ⟨c0, c1, c2, c3⟩ := h3 i x hx
        exact ⟨(hwl.cell (p := ⟨b, _, none⟩) h2).trans c0, (hwl.cell (p := ⟨b, _, none⟩) h2).trans c1, (hwl.cell (p := ⟨b, _, none⟩) h2).trans c2, (hwl.cell (p := ⟨b, _, none⟩) h2).trans c3⟩
    refine wpIn_rangeFunc_ownH (α := Fin ls.length) rfl (by omega) (gf := 94) (lb := #[.pointer (some ⟨w4.heap.size + 1, 0, none⟩), .pointer (some ⟨w4.heap.size + 1 + 1, 0, none⟩)]) rfl trivial (enters_of Try.func94 (by kernel_rfl) rfl)
      (links_stops Fence.wide 11 trivial rfl (by omega) (w4.heap.size + 1) (w4.heap.size + 1 + 1) w3.heap.size A2 C2 false ls f (by omega) V hc1 hc2 (by omega) hlf) LKp.trans (fun W l o o' h1 h2 h3 h4 => LKp.book (w := V) (by omega) (by omega) (by omega) W l o o' h1 h2 h3 h4) (Below.refl _ _) (fun _ => rfl)
      (fun pre W => PeI es (s, v, k) ls w3 w4.heap.size pre W ∧ Below w3.heap.size w3 W)
      (fun c pre W => PeX es (s, v, k) ls w c pre W ∧ Below w.heap.size w W)
      (OwnFrom.and (Go.Own.from peI_own _) (ownFrom_below (Nat.le_refl _) (by omega)))
      (fun c => OwnFrom.and (Go.Own.from peX_own _) (ownFrom_below (Nat.le_refl _) (by omega)))
      ⟨hI0, hB0⟩
      (fun x a' W => ∃ Bx, Bx < W.heap.size ∧ W.cell? ⟨Bx, 0, none⟩ = some (.int .i64 ls[x].1) ∧ W.cell? ⟨Bx, 1, none⟩ = some (.bool ls[x].2.1) ∧ W.cell? ⟨Bx, 2, none⟩ = some (.slice (f x).1 ls[x].2.2.1.length (f x).2.1) ∧ W.cell? ⟨Bx, 3, none⟩ = some (.slice (f x).2.2.1 ls[x].2.2.2.length (f x).2.2.2) ∧ a' = { tmps := #[.slice A es.length C, .agg #[.int .i64 s, .int .i64 v, .slice a (flen k) c], .slice A2 ls.length C2, undef, .pointer (some ⟨w.heap.size, 0, none⟩), undef, .pointer (some ⟨w.heap.size + 1, 0, none⟩), .pointer (some ⟨w.heap.size + 1 + 1, 0, none⟩), .pointer (some ⟨w1.heap.size, 0, none⟩), .bool true, .iface tn un, .bool true, .pointer (some ⟨w4.heap.size, 0, none⟩), .pointer (some ⟨Bx, 0, none⟩), .tuple #[.slice A' es.length C', .bool true], .slice A es.length C, .tuple #[.slice A' es.length C', .bool true], .slice A' es.length C', .bool true, .tuple #[.iface tn un, .bool true], .agg #[.int .i64 s, .int .i64 v, .slice a (flen k) c], .tuple #[.iface tn un, .bool true], .iface tn un, .bool true, .bool true, .bool false, .bool false, .bool true, .bool false, .bool false, .bool false, .slice A2 ls.length C2, .int .i64 ls.length, .bool false, .bool false, undef, .iface tn un, .agg #[.int .i64 s, .int .i64 v, .slice a4 (flen k) c4], .slice A2 ls.length C2, .func (.func 94) #[] #[.pointer (some ⟨w4.heap.size + 1, 0, none⟩), .pointer (some ⟨w4.heap.size + 1 + 1, 0, none⟩)], .agg #[.int .i64 ls[x].1, .bool ls[x].2.1, .slice (f x).1 ls[x].2.2.1.length (f x).2.1, .slice (f x).2.2.1 ls[x].2.2.2.length (f x).2.2.2], undef, undef, undef, undef, undef, undef], defers := [] })
      (fun x a' _ X Y row hs hg hr => by obtain ⟨Bx, e0, e1, e2, e3, e4, e5⟩ := hs; exact ⟨Bx, Nat.lt_of_lt_of_le e0 hg.size, cell_kept e1 hg (fun r e => (hr r e).2), cell_kept e2 hg (fun r e => (hr r e).2), cell_kept e3 hg (fun r e => (hr r e).2), cell_kept e4 hg (fun r e => (hr r e).2), e5⟩)
      ?_ ?_ ?_ ?_
    · rintro l pre x W K ⟨hI, hB⟩ hK
      simp only [lenc, lval]
      gi_wp2_with fail
      have hsW := hB.size
      have hIW := hI
      obtain ⟨_, _, _, _, _, _, heW⟩ := hIW
      have q : ∀ i, (W.alloc (.cells #[.int .i64 ls[x].1, .bool ls[x].2.1, .slice (f x).1 ls[x].2.2.1.length (f x).2.1, .slice (f x).2.2.1 ls[x].2.2.2.length (f x).2.2.2] 43)).cell? ⟨W.heap.size, i, none⟩ = #[Value.int .i64 ls[x].1, .bool ls[x].2.1, .slice (f x).1 ls[x].2.2.1.length (f x).2.1, .slice (f x).2.2.1 ls[x].2.2.2.length (f x).2.2.2][i]? := fun i => by
        rw [World.cell?_alloc_at _ _ _ _ (by simp)]
      exact hK _ _ ((KeepsOthers.alloc _ _).from _) (LKp.alloc hsW _ (by omega) heW) ⟨OwnFrom.alloc (Go.Own.from peI_own 0) _ hI, hB.alloc hsW _⟩ ⟨W.heap.size, by simp, q 0, q 1, q 2, q 3, rfl⟩
    · rintro l pre x a' W hl _ ⟨hI, hB⟩ ⟨Bx, hBx, q0, q1, q2, q3, rfl⟩ hlt
      obtain ⟨⟨ts, tv, tk⟩, P, hlk, hown, hPe, hP, heW⟩ := hI
      have cE : W.cell? ⟨w1.heap.size, 0, none⟩ = some (.slice A' es.length C') := (hB.cell (p := ⟨w1.heap.size, 0, none⟩) (show w1.heap.size < w3.heap.size by omega)).trans HE3.out
      have hxm : ls[x] ∈ ls := List.getElem_mem _
      have hx2 : ls[(x : Nat)]? = some ls[x] := List.getElem?_eq_getElem x.isLt
      obtain ⟨hpl, hbl⟩ := HLS.out _ hxm
      obtain ⟨hps, hbs⟩ := HLF2.out _ _ hx2
      generalize hlx : ls[x] = lx at *
      obtain ⟨eq, back, place, bs⟩ := lx
      generalize f x = d at *
      obtain ⟨pA, pC, sA, sC⟩ := d
      dsimp only at q0 q1 q2 q3 hpl hbl hps hbs ⊢
      have HPS : Hid (ISl w3 0 w3.heap.size pA place) := hps.1.next HS3.out.low
      have HBS : Hid (BSl w3 0 w3.heap.size sA bs) := hbs.next HS3.out.low
      have HOK2 : Hid (okT3 64 (ts, tv, tk) = true) := lkF_ok HOT.out hlk
      have HOWN := Lib.hid hown
      have HP := Lib.hid hP
      have HPE := Lib.hid hPe
      have HLK := Lib.hid hlk
      have HBW := Lib.hid hB
      have hsW := hB.size
      clear hown hP hPe hlk hps hbs hB hx2 hxm
      gi_wp2_with fail
      refine ⟨trivial, ?_⟩
      with_reducible refine (CallsIn.inRound l (callsIn_wide.2 (follow_any es A' C' w3 W ts tv tk w4.heap.size P eq back pA pC place sA sC bs HQ3.out HBW.out HOE.out HOK2.out HOWN.out HPE.out (by omega) (by omega) (fun y hy => ⟨(HP.out y hy).1, (HP.out y hy).2.1⟩) HPS.out hpl HBS.out hbl))).mono ?_
      rintro e W2 ⟨tb, rfl, hlow, hko, hfar, hno, hyes⟩
      have r0 : W2.cell? ⟨w.heap.size + 1, 0, none⟩ = some (.int .i64 0) := (hlow.cell (p := ⟨_, 0, none⟩) (show w.heap.size + 1 < w3.heap.size by omega)).trans HS3.out.r0
      have r1 : W2.cell? ⟨w.heap.size + 1, 1, none⟩ = some (.int .i64 0) := (hlow.cell (p := ⟨_, 1, none⟩) (show w.heap.size + 1 < w3.heap.size by omega)).trans HS3.out.r1
      have r2 : W2.cell? ⟨w.heap.size + 1, 2, none⟩ = some (.slice none 0 0) := (hlow.cell (p := ⟨_, 2, none⟩) (show w.heap.size + 1 < w3.heap.size by omega)).trans HS3.out.r2
      have b0 : W2.cell? ⟨w.heap.size + 1 + 1, 0, none⟩ = some (.bool false) := (hlow.cell (p := ⟨_, 0, none⟩) (show w.heap.size + 1 + 1 < w3.heap.size by omega)).trans HS3.out.b0
      have f0 : W2.frozen? ⟨w.heap.size + 1, 0, none⟩ = false := (hlow.frozen (p := ⟨_, 0, none⟩) (show w.heap.size + 1 < w3.heap.size by omega)).trans (HS3.out.f 0)
      have f1 : W2.frozen? ⟨w.heap.size + 1, 1, none⟩ = false := (hlow.frozen (p := ⟨_, 1, none⟩) (show w.heap.size + 1 < w3.heap.size by omega)).trans (HS3.out.f 1)
      have f2 : W2.frozen? ⟨w.heap.size + 1, 2, none⟩ = false := (hlow.frozen (p := ⟨_, 2, none⟩) (show w.heap.size + 1 < w3.heap.size by omega)).trans (HS3.out.f 2)
      have g0 : W2.frozen? ⟨w.heap.size + 1 + 1, 0, none⟩ = false := (hlow.frozen (p := ⟨_, 0, none⟩) (show w.heap.size + 1 + 1 < w3.heap.size by omega)).trans (HS3.out.g 0)
      have hap : lkF es (s, v, k) ((pre ++ [x]).map fun i => ls[i]) = lk1 es (ts, tv, tk) (eq, back, place, bs) := by
        rw [List.map_append, lkF_append, HLK.out]
        show lkF es (ts, tv, tk) [ls[x]] = _
        rw [lkF_one, hlx]
      cases tb with
      | false =>
        have HPX : Hid (PeX es (s, v, k) ls w .ret (pre ++ [x]) (pset W2 w.heap.size (.int .i64 0) (.int .i64 0) (.slice none 0 0) (.bool false))) :=
          ⟨rfl, hap.trans (hno rfl), pset_cells r0 r1 r2 b0⟩
        have HKF : Hid (KeepsFrom V.heap.size W (pset W2 w.heap.size (.int .i64 0) (.int .i64 0) (.slice none 0 0) (.bool false))) := (hko.trans (pset_keeps _ _ _ _ _ _)).from _
        have HBL : Hid (Below w.heap.size w (pset W2 w.heap.size (.int .i64 0) (.int .i64 0) (.slice none 0 0) (.bool false))) := pset_low (HS3.out.low.trans (hlow.mono (by omega))) (Nat.le_refl _)
        clear hap hno hyes hko hlow hfar
        gi_wp2_with fail
        exact ⟨HKF.out, HPX.out, HBL.out⟩
      | true =>
        obtain ⟨s', v', k', P', hs', ho', hPe', hP', heW'⟩ := hyes rfl
        have hPI : PeI es (s, v, k) ls w3 w4.heap.size (pre ++ [x]) W2 := ⟨(s', v', k'), P', hap.trans hs', ho', hPe', fun y hy => by
          rcases hP' y hy with h | h
          · obtain ⟨e1, e2, e3, e4⟩ := HP.out y h
            exact ⟨e1, Nat.lt_of_lt_of_le e2 hko.size, e3, e4⟩
          · exact ⟨by omega, h.2, by omega, by omega⟩, by have := hko.size; omega⟩
        have hLK : LKp w3.heap.size (w4.heap.size + 1) (w4.heap.size + 1 + 1) W W2 :=
          ⟨⟨hlow.os.trans HBW.out.os.symm, hlow.tape.trans HBW.out.tape.symm, hlow.output.trans HBW.out.output.symm, hko.size, fun b hb => (hlow.block b hb).trans (HBW.out.block b hb).symm⟩,
            hfar _ (by omega) (by omega) (fun h => (HP.out _ h).2.2.1 rfl), hfar _ heW (by omega) (fun h => (HP.out _ h).2.2.2 rfl)⟩
        have HALL : Hid (KeepsFrom V.heap.size W W2 ∧ LKp w3.heap.size (w4.heap.size + 1) (w4.heap.size + 1 + 1) W W2 ∧ PeI es (s, v, k) ls w3 w4.heap.size (pre ++ [x]) W2 ∧ Below w3.heap.size w3 W2) := ⟨hko.from _, hLK, hPI, hlow⟩
        clear hPI hLK hap hno hyes hko hlow hfar hs' ho' hPe' hP'
        gi_wp2_with fail
        exact HALL.out
    · rintro D xs W hD hS ⟨hI, hB⟩ hK
      obtain ⟨⟨ts, tv, tk⟩, P, hlk, hown, hPe, hP, heW⟩ := hI
      rw [hS, lsq_false] at hlk
      have hsW := hB.size
      obtain ⟨ra, rc, e0, e1, e2, hsl⟩ := hown.sl_lo (lo := w.heap.size + 3) (B := W.heap.size) (fun y hy => ⟨by have := (hP y hy).1; omega, (hP y hy).2.1⟩) (by omega) (by omega)
      dsimp only at e0 e1 e2 hsl
      have r0 : W.cell? ⟨w.heap.size + 1, 0, none⟩ = some (.int .i64 0) := (hB.cell (p := ⟨_, 0, none⟩) (show w.heap.size + 1 < w3.heap.size by omega)).trans HS3.out.r0
      have r1 : W.cell? ⟨w.heap.size + 1, 1, none⟩ = some (.int .i64 0) := (hB.cell (p := ⟨_, 1, none⟩) (show w.heap.size + 1 < w3.heap.size by omega)).trans HS3.out.r1
      have r2 : W.cell? ⟨w.heap.size + 1, 2, none⟩ = some (.slice none 0 0) := (hB.cell (p := ⟨_, 2, none⟩) (show w.heap.size + 1 < w3.heap.size by omega)).trans HS3.out.r2
      have b0 : W.cell? ⟨w.heap.size + 1 + 1, 0, none⟩ = some (.bool false) := (hB.cell (p := ⟨_, 0, none⟩) (show w.heap.size + 1 + 1 < w3.heap.size by omega)).trans HS3.out.b0
      have f0 : W.frozen? ⟨w.heap.size + 1, 0, none⟩ = false := (hB.frozen (p := ⟨_, 0, none⟩) (show w.heap.size + 1 < w3.heap.size by omega)).trans (HS3.out.f 0)
      have f1 : W.frozen? ⟨w.heap.size + 1, 1, none⟩ = false := (hB.frozen (p := ⟨_, 1, none⟩) (show w.heap.size + 1 < w3.heap.size by omega)).trans (HS3.out.f 1)
      have f2 : W.frozen? ⟨w.heap.size + 1, 2, none⟩ = false := (hB.frozen (p := ⟨_, 2, none⟩) (show w.heap.size + 1 < w3.heap.size by omega)).trans (HS3.out.f 2)
      have g0 : W.frozen? ⟨w.heap.size + 1 + 1, 0, none⟩ = false := (hB.frozen (p := ⟨_, 0, none⟩) (show w.heap.size + 1 + 1 < w3.heap.size by omega)).trans (HS3.out.g 0)
      have hK' := (pset_keeps W w.heap.size (.int .i64 ts) (.int .i64 tv) (.slice ra (flen tk) rc) (.bool true)).same D _ hK rfl
      have HK' := Lib.hid hK'
      have HC := Lib.hid (pset_cells (p := .int .i64 ts) (q := .int .i64 tv) (o := .slice ra (flen tk) rc) (z := .bool true) r0 r1 r2 b0)
      have HF : Hid (LkPost (lkF es (s, v, k) ls) w (.returned (.tuple #[.agg #[.int .i64 ts, .int .i64 tv, .slice ra (flen tk) rc], .bool true])) ((pset W w.heap.size (.int .i64 ts) (.int .i64 tv) (.slice ra (flen tk) rc) (.bool true)).putObj D (.deferred none))) :=
        lkPost_put (by omega) hK' (pe_end (by rw [hlk]; rfl) (HS3.out.low.trans (hB.mono (by omega))) hsl _ _ _ _)
      clear hown hPe hP hsl hK hK' hlk hB
      gi_wp2_with fail
      show bodyPostM _ _ _ _ _ _ _ (pset W w.heap.size (.int .i64 ts) (.int .i64 tv) (.slice ra (flen tk) rc) (.bool true))
      refine ⟨by simp, .inl ⟨_, _, rfl, run_takeDeferred HK'.out, ?_⟩⟩
      refine ⟨.tuple #[.agg #[.int .i64 ts, .int .i64 tv, .slice ra (flen tk) rc], .bool true], ?_, HF.out⟩
      obtain ⟨k0, k1, k2, k3⟩ := HC.out
      simp [results, Try.results27, go_sem, cell_putD HK'.out, k0, k1, k2, k3]
    · rintro D cc pre W hD hpre ⟨⟨rfl, hnone, r0, r1, r2, b0⟩, hB⟩ hK
      have hall : lkF es (s, v, k) ls = none := by
        rw [lsq_false] at hpre
        obtain ⟨r, hr⟩ := hpre
        rw [← hr, lkF_append, hnone]
        rfl
      have HF : Hid (LkPost (lkF es (s, v, k) ls) w (.returned (.tuple #[.agg #[.int .i64 0, .int .i64 0, .slice none 0 0], .bool false])) (W.putObj D (.deferred none))) :=
        lkPost_put (by omega) hK (by rw [hall]; exact ⟨none, 0, 0, 0, .nil, false, rfl, rfl, hB, .inl rfl⟩)
      have HK := Lib.hid hK
      clear hK
      gi_wp2_with fail
      refine ⟨by simp, .inl ⟨_, _, rfl, run_takeDeferred HK.out, ?_⟩⟩
      refine ⟨.tuple #[.agg #[.int .i64 0, .int .i64 0, .slice none 0 0], .bool false], ?_, HF.out⟩
      simp [results, Try.results27, go_sem, cell_putD HK.out, r0, r1, r2, b0]

/-- ProofEnd of the program. -/
theorem iProofEnd_any (es : List Eqd) (A : Option Addr) (C : Nat) (s v : Int) (a : Option Addr) (c : Nat) (k : Fo) (A2 : Option Addr) (C2 : Nat) (ls : List Lk) (w : World)
    (hq : ESl w 0 w.heap.size A es) (hel : es.length ≤ 9223372036854775807) (hl : Sl w 0 w.heap.size a k) (hll : LSl w 0 w.heap.size A2 ls) (hln : ls.length ≤ 9223372036854775807) (hls : ∀ x ∈ ls, x.2.2.1.length ≤ 1048576 ∧ x.2.2.2.length ≤ 1048576) :
    Calls Try.prog 27 #[.slice A es.length C, .agg #[.int .i64 s, .int .i64 v, .slice a (flen k) c], .slice A2 ls.length C2] w (LkPost (prR es (s, v, k) ls) w) := by
  by_cases hbad : okEs es = false ∨ okT3 64 (s, v, k) = false ∨ 40 < ls.length
  · exact proofEnd_bad es A C s v a c k A2 C2 ls w hbad hq hel hl hln
  · have h1 : okEs es = true := by
      cases h : okEs es with
      | true => rfl
      | false => exact (hbad (.inl h)).elim
    have h2 : okT3 64 (s, v, k) = true := by
      cases h : okT3 64 (s, v, k) with
      | true => rfl
      | false => exact (hbad (.inr (.inl h))).elim
    exact proofEnd_main es A C s v a c k A2 C2 ls w h1 h2 (Nat.le_of_not_lt fun h => hbad (.inr (.inr h))) hq hel hl hll hls
end Go.Proofs.Ytoafleckcjanaaa
