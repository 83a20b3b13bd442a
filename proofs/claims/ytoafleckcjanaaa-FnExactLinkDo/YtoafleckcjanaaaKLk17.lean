/- Several texts in one: XE2, XE3. -/
import Derived.Test.YtoafleckcjanaaaKLk16
import Derived.Test.YtoafleckcjanaaaKLk2

/-! XE2: Copies of slices of equations in the exact laws. -/
namespace Go.Proofs.Ytoafleckcjanaaa
open Go.RowKit Go.Deep

def TeqPost (s v : Int) (k : Fo) (s' v' : Int) (k' : Fo) (w : World) (e : Ending) (w' : World) : Prop :=
  ∃ a c a' c', e = .returned (.agg #[.int .i64 s, .int .i64 v, .slice a (flen k) c, .int .i64 s', .int .i64 v', .slice a' (flen k') c']) ∧ Below w.heap.size w w' ∧ Sl w' w.heap.size w'.heap.size a k ∧ Sl w' w.heap.size w'.heap.size a' k'
/-- Three boxes of six cells: the argument, the result, the copy. -/
structure T3b (w : World) (C : Array Value) (u : World) : Prop where
  low : Below w.heap.size w u
  size : w.heap.size + 3 ≤ u.heap.size
  a : ∀ i, i < 6 → u.cell? ⟨w.heap.size, i, none⟩ = C[i]?
  r : ∀ i, i < 6 → (u.cell? ⟨w.heap.size + 1, i, none⟩).isSome = true
  o : ∀ i, i < 6 → (u.cell? ⟨w.heap.size + 1 + 1, i, none⟩).isSome = true
  f : ∀ i, u.frozen? ⟨w.heap.size + 1, i, none⟩ = false
  g : ∀ i, u.frozen? ⟨w.heap.size + 1 + 1, i, none⟩ = false
theorem T3b.next {w : World} {C : Array Value} {u u' : World} (h : T3b w C u) (hb : Below u.heap.size u u') : T3b w C u' := by
  have hs := h.size
  exact ⟨h.low.trans (hb.mono (by omega)), Nat.le_trans hs hb.size, fun i hi => (hb.cell (by simp; omega)).trans (h.a i hi), fun i hi => by rw [hb.cell (by simp; omega)]; exact h.r i hi, fun i hi => by rw [hb.cell (by simp; omega)]; exact h.o i hi, fun i => (hb.frozen (by simp; omega)).trans (h.f i), fun i => (hb.frozen (by simp; omega)).trans (h.g i)⟩
theorem isSome_setCell {u : World} {p q : Addr} {x : Value} (h : (u.cell? q).isSome = true) : ((u.setCell p x).cell? q).isSome = true := by
  by_cases e : p = q
  · subst e
    rw [World.cell?_setCell_same' _ _ _ h]; rfl
  · rw [World.cell?_setCell_other _ _ _ _ e]; exact h
theorem T3b.set {w : World} {C : Array Value} {u : World} (h : T3b w C u) (j : Nat) (x : Value) : T3b w C (u.setCell ⟨w.heap.size + 1 + 1, j, none⟩ x) :=
  ⟨h.low.setCell (by dsimp only; omega) _, by rw [World.size_setCell]; exact h.size, fun i hi => (World.cell?_setCell_other _ _ _ _ (fun e => by have := congrArg Addr.block e; dsimp only at this; omega)).trans (h.a i hi), fun i hi => isSome_setCell (h.r i hi), fun i hi => isSome_setCell (h.o i hi), fun i => by rw [World.frozen?_setCell]; exact h.f i, fun i => by rw [World.frozen?_setCell]; exact h.g i⟩
theorem T3b.start {w : World} {c0 c1 c2 c3 c4 c5 : Value} {T1 T2 T3 : TypeId} : T3b w #[c0, c1, c2, c3, c4, c5] (((w.alloc (.cells #[c0, c1, c2, c3, c4, c5] T1)).alloc (.cells #[.int .i64 0, .int .i64 0, .slice none 0 0, .int .i64 0, .int .i64 0, .slice none 0 0] T2)).alloc (.cells #[.int .i64 0, .int .i64 0, .slice none 0 0, .int .i64 0, .int .i64 0, .slice none 0 0] T3)) := by
  refine ⟨(((Below.refl _ _).alloc (Nat.le_refl _) _).alloc (by simp) _).alloc (by simp; omega) _, by simp, fun i _ => ?_, fun i hi => ?_, fun i hi => ?_, fun i => ?_, fun i => ?_⟩
  · rw [World.cell?_alloc_lt _ _ _ (by simp; omega), World.cell?_alloc_lt _ _ _ (by simp), World.cell?_alloc_at _ _ _ _ (by simp)]
  · rw [World.cell?_alloc_lt _ _ _ (by simp), World.cell?_alloc_at _ _ _ _ (by simp)]; simpa using hi
  · rw [World.cell?_alloc_at _ _ _ _ (by simp)]; simpa using hi
  · rw [((Below.refl _ _).alloc (Nat.le_refl _) _).frozen (by simp), World.frozen?_alloc_at _ _ _ _ (by simp)]
  · rw [World.frozen?_alloc_at _ _ _ _ (by simp)]

set_option maxRecDepth 100000 in
set_option maxHeartbeats 1000000 in
theorem toEq_any (s v : Int) (a : Option Addr) (c : Nat) (k : Fo) (s' v' : Int) (a' : Option Addr) (c' : Nat) (k' : Fo) (w : World) (hl : Sl w 0 w.heap.size a k) (hl' : Sl w 0 w.heap.size a' k') (hN : fsz k ≤ 1048576) (hN' : fsz k' ≤ 1048576) :
    Calls Try.prog 54 #[.agg #[.int .i64 s, .int .i64 v, .slice a (flen k) c, .int .i64 s', .int .i64 v', .slice a' (flen k') c']] w (TeqPost s v k s' v' k' w) := by
  obtain ⟨W, hW⟩ : ∃ W, ((w.alloc (.cells #[.int .i64 s, .int .i64 v, .slice a (flen k) c, .int .i64 s', .int .i64 v', .slice a' (flen k') c'] 71)).alloc (.cells #[.int .i64 0, .int .i64 0, .slice none 0 0, .int .i64 0, .int .i64 0, .slice none 0 0] 82)).alloc (.cells #[.int .i64 0, .int .i64 0, .slice none 0 0, .int .i64 0, .int .i64 0, .slice none 0 0] 82) = W := ⟨_, rfl⟩
  have hS0 : T3b w #[.int .i64 s, .int .i64 v, .slice a (flen k) c, .int .i64 s', .int .i64 v', .slice a' (flen k') c'] W := hW ▸ T3b.start
  have HS := Lib.hid hS0
  have HL := Lib.hid (Sl.next hl hS0.low)
  have HL2 := Lib.hid hl'
  have c0 : W.cell? ⟨w.heap.size, 0, none⟩ = some (.int .i64 s) := hS0.a 0 (by decide)
  have c1 : W.cell? ⟨w.heap.size, 1, none⟩ = some (.int .i64 v) := hS0.a 1 (by decide)
  have c2 : W.cell? ⟨w.heap.size, 2, none⟩ = some (.slice a (flen k) c) := hS0.a 2 (by decide)
  clear hS0 hl hl'
  go_enter Try.func54, Try.ntmps54
  go_wp2_with fail
  with_reducible refine (toTerm_ofT s v a c k _ (fun w1 hb1 => toTermS_anyT (fsz k) a c k w1 ((HL.out.below hb1).mono (Nat.le_refl _) hb1.size) (Nat.le_refl _) hN)).mono ?_
  rintro e w1 ⟨a1, d1, rfl, hb, hx⟩
  have hS1 := HS.out.next hb
  have HSL1 := Lib.hid hx.1
  obtain ⟨x0, o0⟩ := Option.isSome_iff_exists.1 (hS1.o 0 (by decide))
  obtain ⟨x1, o1⟩ := Option.isSome_iff_exists.1 (hS1.o 1 (by decide))
  obtain ⟨x2, o2⟩ := Option.isSome_iff_exists.1 (hS1.o 2 (by decide))
  have g0 := hS1.g 0
  have g1 := hS1.g 1
  have g2 := hS1.g 2
  obtain ⟨V, hV⟩ : ∃ V, ((w1.setCell ⟨w.heap.size + 1 + 1, 0, none⟩ (.int .i64 s)).setCell ⟨w.heap.size + 1 + 1, 1, none⟩ (.int .i64 v)).setCell ⟨w.heap.size + 1 + 1, 2, none⟩ (.slice a1 (flen k) d1) = V := ⟨_, rfl⟩
  have hSV := ((hS1.set 0 (.int .i64 s)).set 1 (.int .i64 v)).set 2 (.slice a1 (flen k) d1)
  have hp0 : V.cell? ⟨w.heap.size + 1 + 1, 0, none⟩ = some (.int .i64 s) := by rw [← hV, World.cell?_setCell_other _ _ _ _ (by simp), World.cell?_setCell_other _ _ _ _ (by simp), World.cell?_setCell_same _ _ _ o0]
  have hp1 : V.cell? ⟨w.heap.size + 1 + 1, 1, none⟩ = some (.int .i64 v) := by rw [← hV, World.cell?_setCell_other _ _ _ _ (by simp), World.cell?_setCell_same' _ _ _ (isSome_setCell (by rw [o1]; rfl))]
  have hp2 : V.cell? ⟨w.heap.size + 1 + 1, 2, none⟩ = some (.slice a1 (flen k) d1) := by rw [← hV, World.cell?_setCell_same' _ _ _ (isSome_setCell (isSome_setCell (by rw [o2]; rfl)))]
  have hV1 : Same (w.heap.size + 3) w1.heap.size w1 V := by
    rw [← hV]
    exact ((Same.setCell (fun _ _ _ => rfl) (.inl (by simp)) _).setCell (.inl (by simp)) _).setCell (.inl (by simp)) _
  rw [hV] at hSV
  have hszV : w1.heap.size ≤ V.heap.size := by rw [← hV]; simp
  have hsW := HS.out.size
  have HSL2 : Hid (Sl V (w.heap.size + 3) V.heap.size a1 k) := ((HSL1.out.mono hsW (Nat.le_refl _)).same hV1).mono (Nat.le_refl _) hszV
  have HSV := Lib.hid hSV
  have HLV := Lib.hid (Sl.next HL2.out hSV.low)
  have d3 : V.cell? ⟨w.heap.size, 3, none⟩ = some (.int .i64 s') := hSV.a 3 (by decide)
  have d4 : V.cell? ⟨w.heap.size, 4, none⟩ = some (.int .i64 v') := hSV.a 4 (by decide)
  have d5 : V.cell? ⟨w.heap.size, 5, none⟩ = some (.slice a' (flen k') c') := hSV.a 5 (by decide)
  clear hS1 hSV hx hV1 c0 c1 c2 HS HL HL2 hb
  go_wp2_with fail
  clear d3 d4 d5 o0 o1 o2 g0 g1 g2
  with_reducible refine (toTerm_ofT s' v' a' c' k' _ (fun w2 hb2 => toTermS_anyT (fsz k') a' c' k' w2 ((HLV.out.below hb2).mono (Nat.le_refl _) hb2.size) (Nat.le_refl _) hN')).mono ?_
  rintro e w2 ⟨a2, d2, rfl, hb2, hx2⟩
  have hS2 := HSV.out.next hb2
  have p0 := cell_low hb2 hp0
  have p1 := cell_low hb2 hp1
  have p2 := cell_low hb2 hp2
  obtain ⟨x3, o3⟩ := Option.isSome_iff_exists.1 (hS2.o 3 (by decide))
  obtain ⟨x4, o4⟩ := Option.isSome_iff_exists.1 (hS2.o 4 (by decide))
  obtain ⟨x5, o5⟩ := Option.isSome_iff_exists.1 (hS2.o 5 (by decide))
  obtain ⟨y0, r0⟩ := Option.isSome_iff_exists.1 (hS2.r 0 (by decide))
  obtain ⟨y1, r1⟩ := Option.isSome_iff_exists.1 (hS2.r 1 (by decide))
  obtain ⟨y2, r2⟩ := Option.isSome_iff_exists.1 (hS2.r 2 (by decide))
  obtain ⟨y3, r3⟩ := Option.isSome_iff_exists.1 (hS2.r 3 (by decide))
  obtain ⟨y4, r4⟩ := Option.isSome_iff_exists.1 (hS2.r 4 (by decide))
  obtain ⟨y5, r5⟩ := Option.isSome_iff_exists.1 (hS2.r 5 (by decide))
  have g3 := hS2.g 3
  have g4 := hS2.g 4
  have g5 := hS2.g 5
  have f0 := hS2.f 0
  have f1 := hS2.f 1
  have f2 := hS2.f 2
  have f3 := hS2.f 3
  have f4 := hS2.f 4
  have f5 := hS2.f 5
  have hsV := HSV.out.size
  have HLOW := Lib.hid hS2.low
  have HA : Hid (Sl w2 (w.heap.size + 3) w2.heap.size a1 k) := (HSL2.out.same (Same.of_below hb2)).mono (Nat.le_refl _) hb2.size
  have HB : Hid (Sl w2 (w.heap.size + 3) w2.heap.size a2 k') := hx2.1.mono hsV (Nat.le_refl _)
  clear hS2 hx2 hb2 HSV HSL2 HSL1 HLV hp0 hp1 hp2
  go_wp2_with fail
  refine bodyPost_ret (v := .agg #[.int .i64 s, .int .i64 v, .slice a1 (flen k) d1, .int .i64 s', .int .i64 v', .slice a2 (flen k') d2]) ?_ rfl ⟨a1, d1, a2, d2, rfl, ?_, ?_, ?_⟩
  · simp [results, Try.results54, go_sem, r0, r1, r2, r3, r4, r5]
  · iterate 9 refine Below.setCell ?_ (by dsimp only; omega) _
    exact HLOW.out
  · refine (HA.out.same ?_).mono (by omega) (by simp)
    iterate 9 refine Same.setCell ?_ (.inl (by dsimp only; omega)) _
    exact fun _ _ _ => rfl
  · refine (HB.out.same ?_).mono (by omega) (by simp)
    iterate 9 refine Same.setCell ?_ (.inl (by dsimp only; omega)) _
    exact fun _ _ _ => rfl

theorem make_eqs (n : Nat) (hn : n ≤ 1048576) (w : World) :
    (Instr.makeSlice 38 (.int .i64 (n : Int)) (.int .i64 (n : Int))).run Try.prog w = .ok (.slice (some ⟨w.heap.size, 0, none⟩) n n) (w.alloc (.cells (madeCells #[.int .i64 0, .int .i64 0, .slice none 0 0, .int .i64 0, .int .i64 0, .slice none 0 0] (n * 6)) 82)) := by
  obtain ⟨i, hi, hz, hs, hb⟩ : ∃ i, Try.prog.info? 82 = some i ∧ i.zero = some (.agg #[.int .i64 0, .int .i64 0, .slice none 0 0, .int .i64 0, .int .i64 0, .slice none 0 0]) ∧ i.size = 6 ∧ i.bytes = 80 := by
    have := (by kernel_rfl : (Try.prog.info? 82).map (fun i => (i.zero, i.size, i.bytes)) = some (some (.agg #[.int .i64 0, .int .i64 0, .slice none 0 0, .int .i64 0, .int .i64 0, .slice none 0 0]), 6, 80))
    obtain ⟨i, hi, hz⟩ := Option.map_eq_some_iff.1 this
    simp only [Prod.mk.injEq] at hz
    exact ⟨i, hi, hz.1, hz.2.1, hz.2.2⟩
  have := run_make (P := Try.prog) w 38 82 i _ Try.underlying38 hi hz .i64 .i64 (n : Int) (n : Int) (by omega) (by omega) (by rw [hb]; omega) (by omega)
  rw [hs] at this
  simpa [Value.cells] using this

/-- What holds at the head of toEqS's loop. -/
structure TeqAt (w : World) (es : List Eqd) (j : Nat) (wr : World) : Prop where
  below : Below w.heap.size w wr
  size : w.heap.size < wr.heap.size
  row : ∃ f : Nat → Value, wr.rowIs w.heap.size 82 (es.length * 6) f ∧ ∀ i x, i < j → es[i]? = some x → ∃ a c a' c', f (i * 6) = .int .i64 x.1.1 ∧ f (i * 6 + 1) = .int .i64 x.1.2.1 ∧ f (i * 6 + 2) = .slice a (flen x.1.2.2) c ∧ f (i * 6 + 3) = .int .i64 x.2.1 ∧ f (i * 6 + 4) = .int .i64 x.2.2.1 ∧ f (i * 6 + 5) = .slice a' (flen x.2.2.2) c' ∧ Sl wr (w.heap.size + 1) wr.heap.size a x.1.2.2 ∧ Sl wr (w.heap.size + 1) wr.heap.size a' x.2.2.2
theorem TeqAt.start (w : World) (es : List Eqd) : TeqAt w es 0 (w.alloc (.cells (madeCells #[.int .i64 0, .int .i64 0, .slice none 0 0, .int .i64 0, .int .i64 0, .slice none 0 0] (es.length * 6)) 82)) := by
  refine ⟨(Below.refl _ _).alloc (Nat.le_refl _) _, by simp, ⟨fun i => #[Value.int .i64 0, .int .i64 0, .slice none 0 0, .int .i64 0, .int .i64 0, .slice none 0 0][i % 6]!, ?_, fun i x hi => by omega⟩⟩
  have := World.rowIs_alloc w (madeCells #[.int .i64 0, .int .i64 0, .slice none 0 0, .int .i64 0, .int .i64 0, .slice none 0 0] (es.length * 6)) 82 (fun i => #[Value.int .i64 0, .int .i64 0, .slice none 0 0, .int .i64 0, .int .i64 0, .slice none 0 0][i % 6]!) (fun i hi => by
    rw [size_madeCells] at hi
    exact made_at _ _ _ hi)
  rw [size_madeCells] at this
  exact this
/-- An equation's six cells. -/
def e6 (w : World) (b o : Nat) (c0 c1 c2 c3 c4 c5 : Value) : World := (((((w.setCell ⟨b, o, none⟩ c0).setCell ⟨b, o + 1, none⟩ c1).setCell ⟨b, o + 2, none⟩ c2).setCell ⟨b, o + 3, none⟩ c3).setCell ⟨b, o + 4, none⟩ c4).setCell ⟨b, o + 5, none⟩ c5
theorem TeqAt.step {w wr w2 : World} {es : List Eqd} {j : Nat} {s v s' v' : Int} {k k' : Fo} {a a' : Option Addr} {c c' : Nat} (h : TeqAt w es j wr) (hx : es[j]? = some ((s, v, k), s', v', k')) (hb : Below wr.heap.size wr w2) (hl : Sl w2 wr.heap.size w2.heap.size a k) (hl' : Sl w2 wr.heap.size w2.heap.size a' k') :
    TeqAt w es (j + 1) (e6 w2 w.heap.size (j * 6) (.int .i64 s) (.int .i64 v) (.slice a (flen k) c) (.int .i64 s') (.int .i64 v') (.slice a' (flen k') c')) := by
  have hs := h.size
  have hs2 := hb.size
  obtain ⟨f, hf, hall⟩ := h.row
  have hf2 := hf.of_block (hb.block _ hs)
  have hsame : ∀ {L H : Nat}, w.heap.size < L → Same L H w2 (e6 w2 w.heap.size (j * 6) (.int .i64 s) (.int .i64 v) (.slice a (flen k) c) (.int .i64 s') (.int .i64 v') (.slice a' (flen k') c')) := fun hL => by
    unfold e6
    iterate 6 refine Same.setCell ?_ (.inl hL) _
    exact fun _ _ _ => rfl
  have hsz : (e6 w2 w.heap.size (j * 6) (.int .i64 s) (.int .i64 v) (.slice a (flen k) c) (.int .i64 s') (.int .i64 v') (.slice a' (flen k') c')).heap.size = w2.heap.size := by simp [e6]
  refine ⟨?_, by rw [hsz]; omega, ⟨_, (((((hf2.set _ _).set _ _).set _ _).set _ _).set _ _).set _ _, fun i y hi hy => ?_⟩⟩
  · unfold e6
    iterate 6 refine Below.setCell ?_ (by dsimp only; omega) _
    exact h.below.trans (hb.mono (by omega))
  by_cases hij : i = j
  · subst hij
    rw [hx] at hy
    obtain rfl := Option.some.inj hy
    exact ⟨a, c, a', c', by simp, by simp, by simp, by simp, by simp, by simp, (hl.same (hsame (by omega))).mono (by omega) (by rw [hsz]; omega), (hl'.same (hsame (by omega))).mono (by omega) (by rw [hsz]; omega)⟩
  · obtain ⟨b1, d1, b2, d2, h0, h1, h2, h3, h4, h5, hsl, hsl2⟩ := hall i y (by omega) hy
    refine ⟨b1, d1, b2, d2, ?_, ?_, ?_, ?_, ?_, ?_, ((hsl.same (fun b h1 h2 => hb.block b h2)).same (hsame (by omega))).mono (Nat.le_refl _) (by rw [hsz]; omega), ((hsl2.same (fun b h1 h2 => hb.block b h2)).same (hsame (by omega))).mono (Nat.le_refl _) (by rw [hsz]; omega)⟩
    all_goals rw [if_neg (by omega), if_neg (by omega), if_neg (by omega), if_neg (by omega), if_neg (by omega), if_neg (by omega)]
    · exact h0
    · exact h1
    · exact h2
    · exact h3
    · exact h4
    · exact h5
theorem TeqAt.esl {w wr : World} {es : List Eqd} {j : Nat} (h : TeqAt w es j wr) (hj : es.length ≤ j) : ESl wr w.heap.size wr.heap.size (some ⟨w.heap.size, 0, none⟩) es := by
  obtain ⟨f, hf, hall⟩ := h.row
  refine .inr ⟨w.heap.size, 0, rfl, Nat.le_refl _, h.size, fun i x hx => ?_⟩
  have hi := (List.getElem?_eq_some_iff.1 hx).1
  obtain ⟨a, c, a', c', h0, h1, h2, h3, h4, h5, hs, hs'⟩ := hall i x (by omega) hx
  refine ⟨a, c, a', c', ?_, ?_, ?_, ?_, ?_, ?_, hs.mono (by omega) (Nat.le_refl _), hs'.mono (by omega) (Nat.le_refl _)⟩
  · rw [← h0, Nat.zero_add]; exact hf.cell (by omega)
  · rw [← h1, Nat.zero_add]; exact hf.cell (by omega)
  · rw [← h2, Nat.zero_add]; exact hf.cell (by omega)
  · rw [← h3, Nat.zero_add]; exact hf.cell (by omega)
  · rw [← h4, Nat.zero_add]; exact hf.cell (by omega)
  · rw [← h5, Nat.zero_add]; exact hf.cell (by omega)
def TeqsPost (es : List Eqd) (w : World) (e : Ending) (w' : World) : Prop :=
  ∃ A C, e = .returned (.slice A (List.length es) C) ∧ Below w.heap.size w w' ∧ ESl w' w.heap.size w'.heap.size A es

set_option maxRecDepth 100000 in
set_option maxHeartbeats 1000000 in
theorem toEqS_any (es : List Eqd) (A : Option Addr) (C : Nat) (w : World) (h : ESl w 0 w.heap.size A es) (hl : es.length ≤ 1048576) (hz : ∀ x ∈ es, fszE x ≤ 1048576) :
    Calls Try.prog 14 #[.slice A es.length C] w (TeqsPost es w) := by
  have hmk := make_eqs es.length hl
  have HST := Lib.hid (TeqAt.start w es)
  have HB := Lib.hid h
  have HZ := Lib.hid hz
  clear h hz
  go_enter Try.func14, Try.ntmps14
  go_wp2_with fail
  clear hmk
  go_loopw [4] (fun i wr => ∃ j : Nat, j ≤ es.length ∧ i = .int .i64 j ∧ Hid (TeqAt w es j wr)) (fun i _ => es.length - (intOf i).toNat)
  case atStart => exact ⟨0, by omega, rfl, HST⟩
  case round =>
    clear HST
    obtain ⟨j, hj, rfl, HAT⟩ := hrel
    have hsr := HAT.out.size
    by_cases hlt : j < es.length
    · obtain ⟨y, hy⟩ : ∃ y, es[j]? = some y := ⟨es[j], List.getElem?_eq_getElem hlt⟩
      obtain ⟨⟨s, v, k⟩, s', v', k'⟩ := y
      obtain ⟨rb, ro, rfl, _, hbB, a, c, a', c', d0, d1, d2, d3, d4, d5, hsl, hsl'⟩ := (HB.out.next HAT.out.below).at hy
      dsimp only at d0 d1 d2 d3 d4 d5 hsl hsl'
      have d4' : wr.cell? ⟨rb, ro + j * 6 + 4, none⟩ = some (.int .i64 v') := d4
      have d5' : wr.cell? ⟨rb, ro + j * 6 + 5, none⟩ = some (.slice a' (flen k') c') := d5
      have hkz := HZ.out _ (List.mem_of_getElem? hy)
      unfold fszE at hkz
      dsimp only at hkz
      have HX := Lib.hid hy
      have HS := Lib.hid hsl
      have HS' := Lib.hid hsl'
      have g1 : (0 : Int) ≤ (j : Int) := by omega
      have g2 : (j : Int) < (es.length : Int) := by omega
      clear hy hsl hsl' d4 d5
      go_wp2_with fail
      with_reducible refine (toEq_any s v a c k s' v' a' c' k' _ HS.out HS'.out (by omega) (by omega)).mono ?_
      rintro e w2 ⟨a2, c2, a3, c3, rfl, hb2, hl2, hl3⟩
      obtain ⟨f, hf, _⟩ := HAT.out.row
      have hf2 := hf.of_block (hb2.block _ hsr)
      have hg0 := hf2.cell (i := j * 6) (by omega)
      have hg1 := hf2.cell (i := j * 6 + 1) (by omega)
      have hg2 := hf2.cell (i := j * 6 + 2) (by omega)
      have hg3 := hf2.cell (i := j * 6 + 3) (by omega)
      have hg4 := hf2.cell (i := j * 6 + 4) (by omega)
      have hg5 := hf2.cell (i := j * 6 + 5) (by omega)
      have hz0 := hf2.frozen (j * 6)
      have hz1 := hf2.frozen (j * 6 + 1)
      have hz2 := hf2.frozen (j * 6 + 2)
      have hz3 := hf2.frozen (j * 6 + 3)
      have hz4 := hf2.frozen (j * 6 + 4)
      have hz5 := hf2.frozen (j * 6 + 5)
      have HSTEP := Lib.hid (HAT.out.step (c := c2) (c' := c3) HX.out hb2 hl2 hl3)
      unfold e6 at HSTEP
      clear hf hf2 hb2 hl2 hl3 d0 d1 d2 d3 d4' d5'
      go_wp2_with fail
      go_roundw
      case rel => exact ⟨j + 1, by omega, by go_num, HSTEP⟩
      case measure => simp [intOf]; omega
    · have HE : Hid (TeqsPost es w (.returned (.slice (some ⟨w.heap.size, 0, none⟩) es.length es.length)) wr) := ⟨_, _, rfl, HAT.out.below, HAT.out.esl (by omega)⟩
      clear HAT
      go_wp2_with fail
      go_ret
      exact HE.out

set_option maxRecDepth 100000 in
set_option maxHeartbeats 2000000 in
theorem eqEqS_same (es : List Eqd) (A B : Option Addr) (ca cb : Nat) (w : World) (hA : ESl w 0 w.heap.size A es) (hB : ESl w 0 w.heap.size B es) (hl : es.length ≤ 1048576) (hz : ∀ x ∈ es, fszE x ≤ 1048576) :
    Calls Try.prog 19 #[.slice A es.length ca, .slice B es.length cb] w fun e w' => e = .returned (.bool true) ∧ Below w.heap.size w w' := by
  have HA := Lib.hid hA
  have HB := Lib.hid hB
  have HZ := Lib.hid hz
  clear hA hB hz
  go_enter Try.func19, Try.ntmps19
  go_wp2_with fail
  go_loopw [5] (fun i wr => ∃ j : Nat, i = .int .i64 j ∧ j ≤ es.length ∧ Hid (Below w.heap.size w wr)) (fun i _ => es.length - (intOf i).toNat)
  case atStart => exact ⟨0, rfl, Nat.zero_le _, Below.refl _ _⟩
  case round =>
    obtain ⟨j, rfl, hj, HW⟩ := hrel
    have hws := HW.out.size
    by_cases hlt : j < es.length
    · obtain ⟨y, hy⟩ : ∃ y, es[j]? = some y := ⟨es[j], List.getElem?_eq_getElem hlt⟩
      obtain ⟨⟨s, v, k⟩, s', v', k'⟩ := y
      have hyz := HZ.out _ (List.mem_of_getElem? hy)
      unfold fszE at hyz
      dsimp only at hyz
      obtain ⟨rb, ro, rfl, _, hbB, a, c, a', c', d0, d1, d2, d3, d4, d5, hsl, hsl'⟩ := (HA.out.next HW.out).at hy
      obtain ⟨rb2, ro2, rfl, _, hbB2, b, d, b', d', e0, e1, e2, e3, e4, e5, hsm, hsm'⟩ := (HB.out.next HW.out).at hy
      dsimp only at d0 d1 d2 d3 d4 d5 hsl hsl' e0 e1 e2 e3 e4 e5 hsm hsm'
      have g1 : (0 : Int) ≤ (j : Int) := by omega
      have g2 : (j : Int) < (es.length : Int) := by omega
      clear hy
      have hu0 : ∀ u : After wr.heap.size wr, u.world.cell? ⟨rb, ro + j * 6, none⟩ = some (.int .i64 s) := fun u => cell_low u.below d0
      have hu1 : ∀ u : After wr.heap.size wr, u.world.cell? ⟨rb, ro + j * 6 + 1, none⟩ = some (.int .i64 v) := fun u => cell_low u.below d1
      have hu2 : ∀ u : After wr.heap.size wr, u.world.cell? ⟨rb, ro + j * 6 + 2, none⟩ = some (.slice a (flen k) c) := fun u => cell_low u.below d2
      have hu3 : ∀ u : After wr.heap.size wr, u.world.cell? ⟨rb, ro + j * 6 + 3, none⟩ = some (.int .i64 s') := fun u => cell_low u.below d3
      have hu4 : ∀ u : After wr.heap.size wr, u.world.cell? ⟨rb, ro + j * 6 + 4, none⟩ = some (.int .i64 v') := fun u => cell_low u.below d4
      have hu5 : ∀ u : After wr.heap.size wr, u.world.cell? ⟨rb, ro + j * 6 + 5, none⟩ = some (.slice a' (flen k') c') := fun u => cell_low u.below d5
      have hv0 : ∀ u : After wr.heap.size wr, u.world.cell? ⟨rb2, ro2 + j * 6, none⟩ = some (.int .i64 s) := fun u => cell_low u.below e0
      have hv1 : ∀ u : After wr.heap.size wr, u.world.cell? ⟨rb2, ro2 + j * 6 + 1, none⟩ = some (.int .i64 v) := fun u => cell_low u.below e1
      have hv2 : ∀ u : After wr.heap.size wr, u.world.cell? ⟨rb2, ro2 + j * 6 + 2, none⟩ = some (.slice b (flen k) d) := fun u => cell_low u.below e2
      have hv3 : ∀ u : After wr.heap.size wr, u.world.cell? ⟨rb2, ro2 + j * 6 + 3, none⟩ = some (.int .i64 s') := fun u => cell_low u.below e3
      have hv4 : ∀ u : After wr.heap.size wr, u.world.cell? ⟨rb2, ro2 + j * 6 + 4, none⟩ = some (.int .i64 v') := fun u => cell_low u.below e4
      have hv5 : ∀ u : After wr.heap.size wr, u.world.cell? ⟨rb2, ro2 + j * 6 + 5, none⟩ = some (.slice b' (flen k') d') := fun u => cell_low u.below e5
      have HCALL : Hid (∀ u : After wr.heap.size wr, Calls Try.prog 59 #[.agg #[.int .i64 s, .int .i64 v, .slice a (flen k) c, .int .i64 s', .int .i64 v', .slice a' (flen k') c'], .agg #[.int .i64 s, .int .i64 v, .slice b (flen k) d, .int .i64 s', .int .i64 v', .slice b' (flen k') d']] u.world fun e w' => e = .returned (.bool true) ∧ Below u.world.heap.size u.world w') := fun u =>
        eqEq_same s v a c k s' v' a' c' k' b d b' d' u.world (hsl.next u.below) (hsl'.next u.below) (hsm.next u.below) (hsm'.next u.below) (by omega) (by omega)
      clear hsl hsl' hsm hsm'
      go_wp2_with fail
      refine wp_region_after wr.heap.size (by kernel_rfl) (by kernel_rfl) ?_
      repeat (go_big_quiet_step ((go_at_call 59; exact Calls.after (After.below ‹_›).size (HCALL.out _))))
      refine wpQuiet_nil ?_
      rintro u ⟨⟨_, hu⟩, rfl⟩
      have HW2 := Lib.hid (HW.out.trans (hu.mono hws))
      clear hu hu0 hu1 hu2 hu3 hu4 hu5 hv0 hv1 hv2 hv3 hv4 hv5 d0 d1 d2 d3 d4 d5 e0 e1 e2 e3 e4 e5
      go_wp2_with fail
      go_roundw
      case rel => exact ⟨j + 1, by go_num, by omega, HW2⟩
      case measure => simp [intOf]; omega
    · go_wp2_with fail
      go_ret
      exact ⟨rfl, HW.out⟩
end Go.Proofs.Ytoafleckcjanaaa

/-! XE3: Copies of slices of equations in the exact laws, in blocks of their own (out of XE2 by program). -/
namespace Go.Proofs.Ytoafleckcjanaaa
open Go.RowKit Go.Deep

def TeqPostX (s v : Int) (k : Fo) (s' v' : Int) (k' : Fo) (w : World) (e : Ending) (w' : World) : Prop :=
  ∃ a c a' c', e = .returned (.agg #[.int .i64 s, .int .i64 v, .slice a (flen k) c, .int .i64 s', .int .i64 v', .slice a' (flen k') c']) ∧ Below w.heap.size w w' ∧ SX w' w.heap.size w'.heap.size a k ∧ SX w' w.heap.size w'.heap.size a' k'

set_option maxRecDepth 100000 in
set_option maxHeartbeats 1000000 in
theorem toEq_sx (s v : Int) (a : Option Addr) (c : Nat) (k : Fo) (s' v' : Int) (a' : Option Addr) (c' : Nat) (k' : Fo) (w : World) (hl : Sl w 0 w.heap.size a k) (hl' : Sl w 0 w.heap.size a' k') (hN : fsz k ≤ 1048576) (hN' : fsz k' ≤ 1048576) :
    Calls Try.prog 54 #[.agg #[.int .i64 s, .int .i64 v, .slice a (flen k) c, .int .i64 s', .int .i64 v', .slice a' (flen k') c']] w (TeqPostX s v k s' v' k' w) := by
  obtain ⟨W, hW⟩ : ∃ W, ((w.alloc (.cells #[.int .i64 s, .int .i64 v, .slice a (flen k) c, .int .i64 s', .int .i64 v', .slice a' (flen k') c'] 71)).alloc (.cells #[.int .i64 0, .int .i64 0, .slice none 0 0, .int .i64 0, .int .i64 0, .slice none 0 0] 82)).alloc (.cells #[.int .i64 0, .int .i64 0, .slice none 0 0, .int .i64 0, .int .i64 0, .slice none 0 0] 82) = W := ⟨_, rfl⟩
  have hS0 : T3b w #[.int .i64 s, .int .i64 v, .slice a (flen k) c, .int .i64 s', .int .i64 v', .slice a' (flen k') c'] W := hW ▸ T3b.start
  have HS := Lib.hid hS0
  have HL := Lib.hid (Sl.next hl hS0.low)
  have HL2 := Lib.hid hl'
  have c0 : W.cell? ⟨w.heap.size, 0, none⟩ = some (.int .i64 s) := hS0.a 0 (by decide)
  have c1 : W.cell? ⟨w.heap.size, 1, none⟩ = some (.int .i64 v) := hS0.a 1 (by decide)
  have c2 : W.cell? ⟨w.heap.size, 2, none⟩ = some (.slice a (flen k) c) := hS0.a 2 (by decide)
  clear hS0 hl hl'
  go_enter Try.func54, Try.ntmps54
  go_wp2_with fail
  with_reducible refine (toTerm_ofT s v a c k _ (fun w1 hb1 => toTermS_anyT (fsz k) a c k w1 ((HL.out.below hb1).mono (Nat.le_refl _) hb1.size) (Nat.le_refl _) hN)).mono ?_
  rintro e w1 ⟨a1, d1, rfl, hb, hx⟩
  have hS1 := HS.out.next hb
  have HSL1 := Lib.hid hx
  obtain ⟨x0, o0⟩ := Option.isSome_iff_exists.1 (hS1.o 0 (by decide))
  obtain ⟨x1, o1⟩ := Option.isSome_iff_exists.1 (hS1.o 1 (by decide))
  obtain ⟨x2, o2⟩ := Option.isSome_iff_exists.1 (hS1.o 2 (by decide))
  have g0 := hS1.g 0
  have g1 := hS1.g 1
  have g2 := hS1.g 2
  obtain ⟨V, hV⟩ : ∃ V, ((w1.setCell ⟨w.heap.size + 1 + 1, 0, none⟩ (.int .i64 s)).setCell ⟨w.heap.size + 1 + 1, 1, none⟩ (.int .i64 v)).setCell ⟨w.heap.size + 1 + 1, 2, none⟩ (.slice a1 (flen k) d1) = V := ⟨_, rfl⟩
  have hSV := ((hS1.set 0 (.int .i64 s)).set 1 (.int .i64 v)).set 2 (.slice a1 (flen k) d1)
  have hp0 : V.cell? ⟨w.heap.size + 1 + 1, 0, none⟩ = some (.int .i64 s) := by rw [← hV, World.cell?_setCell_other _ _ _ _ (by simp), World.cell?_setCell_other _ _ _ _ (by simp), World.cell?_setCell_same _ _ _ o0]
  have hp1 : V.cell? ⟨w.heap.size + 1 + 1, 1, none⟩ = some (.int .i64 v) := by rw [← hV, World.cell?_setCell_other _ _ _ _ (by simp), World.cell?_setCell_same' _ _ _ (isSome_setCell (by rw [o1]; rfl))]
  have hp2 : V.cell? ⟨w.heap.size + 1 + 1, 2, none⟩ = some (.slice a1 (flen k) d1) := by rw [← hV, World.cell?_setCell_same' _ _ _ (isSome_setCell (isSome_setCell (by rw [o2]; rfl)))]
  have hV1 : Same (w.heap.size + 3) w1.heap.size w1 V := by
    rw [← hV]
    exact ((Same.setCell (fun _ _ _ => rfl) (.inl (by simp)) _).setCell (.inl (by simp)) _).setCell (.inl (by simp)) _
  rw [hV] at hSV
  have hszV : w1.heap.size ≤ V.heap.size := by rw [← hV]; simp
  have hsW := HS.out.size
  have HSL2 : Hid (SX V (w.heap.size + 3) V.heap.size a1 k) := (SX.same hV1 (HSL1.out.mono hsW (Nat.le_refl _))).mono (Nat.le_refl _) hszV
  have HSV := Lib.hid hSV
  have HLV := Lib.hid (Sl.next HL2.out hSV.low)
  have d3 : V.cell? ⟨w.heap.size, 3, none⟩ = some (.int .i64 s') := hSV.a 3 (by decide)
  have d4 : V.cell? ⟨w.heap.size, 4, none⟩ = some (.int .i64 v') := hSV.a 4 (by decide)
  have d5 : V.cell? ⟨w.heap.size, 5, none⟩ = some (.slice a' (flen k') c') := hSV.a 5 (by decide)
  clear hS1 hSV hx hV1 c0 c1 c2 HS HL HL2 hb
  go_wp2_with fail
  clear d3 d4 d5 o0 o1 o2 g0 g1 g2
  with_reducible refine (toTerm_ofT s' v' a' c' k' _ (fun w2 hb2 => toTermS_anyT (fsz k') a' c' k' w2 ((HLV.out.below hb2).mono (Nat.le_refl _) hb2.size) (Nat.le_refl _) hN')).mono ?_
  rintro e w2 ⟨a2, d2, rfl, hb2, hx2⟩
  have hS2 := HSV.out.next hb2
  have p0 := cell_low hb2 hp0
  have p1 := cell_low hb2 hp1
  have p2 := cell_low hb2 hp2
  obtain ⟨x3, o3⟩ := Option.isSome_iff_exists.1 (hS2.o 3 (by decide))
  obtain ⟨x4, o4⟩ := Option.isSome_iff_exists.1 (hS2.o 4 (by decide))
  obtain ⟨x5, o5⟩ := Option.isSome_iff_exists.1 (hS2.o 5 (by decide))
  obtain ⟨y0, r0⟩ := Option.isSome_iff_exists.1 (hS2.r 0 (by decide))
  obtain ⟨y1, r1⟩ := Option.isSome_iff_exists.1 (hS2.r 1 (by decide))
  obtain ⟨y2, r2⟩ := Option.isSome_iff_exists.1 (hS2.r 2 (by decide))
  obtain ⟨y3, r3⟩ := Option.isSome_iff_exists.1 (hS2.r 3 (by decide))
  obtain ⟨y4, r4⟩ := Option.isSome_iff_exists.1 (hS2.r 4 (by decide))
  obtain ⟨y5, r5⟩ := Option.isSome_iff_exists.1 (hS2.r 5 (by decide))
  have g3 := hS2.g 3
  have g4 := hS2.g 4
  have g5 := hS2.g 5
  have f0 := hS2.f 0
  have f1 := hS2.f 1
  have f2 := hS2.f 2
  have f3 := hS2.f 3
  have f4 := hS2.f 4
  have f5 := hS2.f 5
  have hsV := HSV.out.size
  have HLOW := Lib.hid hS2.low
  have HA : Hid (SX w2 (w.heap.size + 3) w2.heap.size a1 k) := (SX.same (Same.of_below hb2) HSL2.out).mono (Nat.le_refl _) hb2.size
  have HB : Hid (SX w2 (w.heap.size + 3) w2.heap.size a2 k') := hx2.mono hsV (Nat.le_refl _)
  clear hS2 hx2 hb2 HSV HSL2 HSL1 HLV hp0 hp1 hp2
  go_wp2_with fail
  refine bodyPost_ret (v := .agg #[.int .i64 s, .int .i64 v, .slice a1 (flen k) d1, .int .i64 s', .int .i64 v', .slice a2 (flen k') d2]) ?_ rfl ⟨a1, d1, a2, d2, rfl, ?_, ?_, ?_⟩
  · simp [results, Try.results54, go_sem, r0, r1, r2, r3, r4, r5]
  · iterate 9 refine Below.setCell ?_ (by dsimp only; omega) _
    exact HLOW.out
  · refine (SX.same ?_ HA.out).mono (by omega) (by simp)
    iterate 9 refine Same.setCell ?_ (.inl (by dsimp only; omega)) _
    exact fun _ _ _ => rfl
  · refine (SX.same ?_ HB.out).mono (by omega) (by simp)
    iterate 9 refine Same.setCell ?_ (.inl (by dsimp only; omega)) _
    exact fun _ _ _ => rfl

/-- What holds at the head of toEqS's loop. -/
structure TeqAtX (w : World) (es : List Eqd) (j : Nat) (wr : World) : Prop where
  below : Below w.heap.size w wr
  size : w.heap.size < wr.heap.size
  row : ∃ f : Nat → Value, wr.rowIs w.heap.size 82 (es.length * 6) f ∧ ∀ i x, i < j → es[i]? = some x → ∃ a c a' c', f (i * 6) = .int .i64 x.1.1 ∧ f (i * 6 + 1) = .int .i64 x.1.2.1 ∧ f (i * 6 + 2) = .slice a (flen x.1.2.2) c ∧ f (i * 6 + 3) = .int .i64 x.2.1 ∧ f (i * 6 + 4) = .int .i64 x.2.2.1 ∧ f (i * 6 + 5) = .slice a' (flen x.2.2.2) c' ∧ SX wr (w.heap.size + 1) wr.heap.size a x.1.2.2 ∧ SX wr (w.heap.size + 1) wr.heap.size a' x.2.2.2
theorem TeqAtX.start (w : World) (es : List Eqd) : TeqAtX w es 0 (w.alloc (.cells (madeCells #[.int .i64 0, .int .i64 0, .slice none 0 0, .int .i64 0, .int .i64 0, .slice none 0 0] (es.length * 6)) 82)) := by
  refine ⟨(Below.refl _ _).alloc (Nat.le_refl _) _, by simp, ⟨fun i => #[Value.int .i64 0, .int .i64 0, .slice none 0 0, .int .i64 0, .int .i64 0, .slice none 0 0][i % 6]!, ?_, fun i x hi => by omega⟩⟩
  have := World.rowIs_alloc w (madeCells #[.int .i64 0, .int .i64 0, .slice none 0 0, .int .i64 0, .int .i64 0, .slice none 0 0] (es.length * 6)) 82 (fun i => #[Value.int .i64 0, .int .i64 0, .slice none 0 0, .int .i64 0, .int .i64 0, .slice none 0 0][i % 6]!) (fun i hi => by
    rw [size_madeCells] at hi
    exact made_at _ _ _ hi)
  rw [size_madeCells] at this
  exact this
theorem TeqAtX.step {w wr w2 : World} {es : List Eqd} {j : Nat} {s v s' v' : Int} {k k' : Fo} {a a' : Option Addr} {c c' : Nat} (h : TeqAtX w es j wr) (hx : es[j]? = some ((s, v, k), s', v', k')) (hb : Below wr.heap.size wr w2) (hl : SX w2 wr.heap.size w2.heap.size a k) (hl' : SX w2 wr.heap.size w2.heap.size a' k') :
    TeqAtX w es (j + 1) (e6 w2 w.heap.size (j * 6) (.int .i64 s) (.int .i64 v) (.slice a (flen k) c) (.int .i64 s') (.int .i64 v') (.slice a' (flen k') c')) := by
  have hs := h.size
  have hs2 := hb.size
  obtain ⟨f, hf, hall⟩ := h.row
  have hf2 := hf.of_block (hb.block _ hs)
  have hsame : ∀ {L H : Nat}, w.heap.size < L → Same L H w2 (e6 w2 w.heap.size (j * 6) (.int .i64 s) (.int .i64 v) (.slice a (flen k) c) (.int .i64 s') (.int .i64 v') (.slice a' (flen k') c')) := fun hL => by
    unfold e6
    iterate 6 refine Same.setCell ?_ (.inl hL) _
    exact fun _ _ _ => rfl
  have hsz : (e6 w2 w.heap.size (j * 6) (.int .i64 s) (.int .i64 v) (.slice a (flen k) c) (.int .i64 s') (.int .i64 v') (.slice a' (flen k') c')).heap.size = w2.heap.size := by simp [e6]
  refine ⟨?_, by rw [hsz]; omega, ⟨_, (((((hf2.set _ _).set _ _).set _ _).set _ _).set _ _).set _ _, fun i y hi hy => ?_⟩⟩
  · unfold e6
    iterate 6 refine Below.setCell ?_ (by dsimp only; omega) _
    exact h.below.trans (hb.mono (by omega))
  by_cases hij : i = j
  · subst hij
    rw [hx] at hy
    obtain rfl := Option.some.inj hy
    exact ⟨a, c, a', c', by simp, by simp, by simp, by simp, by simp, by simp, (SX.same (hsame (by omega)) hl).mono (by omega) (by rw [hsz]; omega), (SX.same (hsame (by omega)) hl').mono (by omega) (by rw [hsz]; omega)⟩
  · obtain ⟨b1, d1, b2, d2, h0, h1, h2, h3, h4, h5, hsl, hsl2⟩ := hall i y (by omega) hy
    refine ⟨b1, d1, b2, d2, ?_, ?_, ?_, ?_, ?_, ?_, (SX.same (hsame (by omega)) (SX.same (fun b h1 h2 => hb.block b h2) hsl)).mono (Nat.le_refl _) (by rw [hsz]; omega), (SX.same (hsame (by omega)) (SX.same (fun b h1 h2 => hb.block b h2) hsl2)).mono (Nat.le_refl _) (by rw [hsz]; omega)⟩
    all_goals rw [if_neg (by omega), if_neg (by omega), if_neg (by omega), if_neg (by omega), if_neg (by omega), if_neg (by omega)]
    · exact h0
    · exact h1
    · exact h2
    · exact h3
    · exact h4
    · exact h5
/-- A copy of a row of equations: the row in a block of its own, its terms in later blocks. -/
def EX (w : World) (base top : Nat) (es : List Eqd) (A : Option Addr) : Prop :=
  es = [] ∨ ∃ g, A = some ⟨g, 0, none⟩ ∧ base ≤ g ∧ g < top ∧ (∀ o, w.frozen? ⟨g, o, none⟩ = false) ∧ ∀ (i : Nat) (x : Eqd), es[i]? = some x → ∃ a c a' c', w.cell? ⟨g, i * 6, none⟩ = some (.int .i64 x.1.1) ∧ w.cell? ⟨g, i * 6 + 1, none⟩ = some (.int .i64 x.1.2.1) ∧ w.cell? ⟨g, i * 6 + 2, none⟩ = some (.slice a (flen x.1.2.2) c) ∧
    w.cell? ⟨g, i * 6 + 3, none⟩ = some (.int .i64 x.2.1) ∧ w.cell? ⟨g, i * 6 + 4, none⟩ = some (.int .i64 x.2.2.1) ∧ w.cell? ⟨g, i * 6 + 5, none⟩ = some (.slice a' (flen x.2.2.2) c') ∧ SX w (g + 1) top a x.1.2.2 ∧ SX w (g + 1) top a' x.2.2.2
theorem EX.same {w w' : World} {base top : Nat} {es : List Eqd} {A : Option Addr} (h : EX w base top es A) (hs : Same base top w w') : EX w' base top es A := by
  rcases h with h | ⟨g, e, h1, h2, hf, hc⟩
  · exact .inl h
  · refine .inr ⟨g, e, h1, h2, fun o => by rw [frozen_same (hs g h1 h2)]; exact hf o, fun i x hx => ?_⟩
    obtain ⟨a, c, a', c', c0, c1, c2, c3, c4, c5, ht, ht'⟩ := hc i x hx
    exact ⟨a, c, a', c', by rw [hs.cell h1 h2]; exact c0, by rw [hs.cell h1 h2]; exact c1, by rw [hs.cell h1 h2]; exact c2, by rw [hs.cell h1 h2]; exact c3, by rw [hs.cell h1 h2]; exact c4, by rw [hs.cell h1 h2]; exact c5, SX.same (hs.mono (by omega) (Nat.le_refl _)) ht, SX.same (hs.mono (by omega) (Nat.le_refl _)) ht'⟩
theorem EX.esl {w : World} {base top : Nat} {es : List Eqd} {A : Option Addr} (h : EX w base top es A) : ESl w base top A es := by
  rcases h with h | ⟨g, e, h1, h2, hf, hc⟩
  · exact .inl h
  · refine .inr ⟨g, 0, e, h1, h2, fun i x hx => ?_⟩
    obtain ⟨a, c, a', c', c0, c1, c2, c3, c4, c5, ht, ht'⟩ := hc i x hx
    exact ⟨a, c, a', c', by rw [Nat.zero_add]; exact c0, by rw [Nat.zero_add]; exact c1, by rw [Nat.zero_add]; exact c2, by rw [Nat.zero_add]; exact c3, by rw [Nat.zero_add]; exact c4, by rw [Nat.zero_add]; exact c5, ht.1.mono (by omega) (Nat.le_refl _), ht'.1.mono (by omega) (Nat.le_refl _)⟩
theorem TeqAtX.ex {w wr : World} {es : List Eqd} {j : Nat} (h : TeqAtX w es j wr) (hj : es.length ≤ j) : EX wr w.heap.size wr.heap.size es (some ⟨w.heap.size, 0, none⟩) := by
  obtain ⟨f, hf, hall⟩ := h.row
  refine .inr ⟨w.heap.size, rfl, Nat.le_refl _, h.size, fun o => hf.frozen o, fun i x hx => ?_⟩
  have hi := (List.getElem?_eq_some_iff.1 hx).1
  obtain ⟨a, c, a', c', h0, h1, h2, h3, h4, h5, hs, hs'⟩ := hall i x (by omega) hx
  refine ⟨a, c, a', c', ?_, ?_, ?_, ?_, ?_, ?_, hs, hs'⟩
  · rw [← h0]; exact hf.cell (by omega)
  · rw [← h1]; exact hf.cell (by omega)
  · rw [← h2]; exact hf.cell (by omega)
  · rw [← h3]; exact hf.cell (by omega)
  · rw [← h4]; exact hf.cell (by omega)
  · rw [← h5]; exact hf.cell (by omega)
def TeqsPostX (es : List Eqd) (w : World) (e : Ending) (w' : World) : Prop :=
  ∃ A C, e = .returned (.slice A (List.length es) C) ∧ Below w.heap.size w w' ∧ EX w' w.heap.size w'.heap.size es A

set_option maxRecDepth 100000 in
set_option maxHeartbeats 1000000 in
theorem toEqS_sx (es : List Eqd) (A : Option Addr) (C : Nat) (w : World) (h : ESl w 0 w.heap.size A es) (hl : es.length ≤ 1048576) (hz : ∀ x ∈ es, fszE x ≤ 1048576) :
    Calls Try.prog 14 #[.slice A es.length C] w (TeqsPostX es w) := by
  have hmk := make_eqs es.length hl
  have HST := Lib.hid (TeqAtX.start w es)
  have HB := Lib.hid h
  have HZ := Lib.hid hz
  clear h hz
  go_enter Try.func14, Try.ntmps14
  go_wp2_with fail
  clear hmk
  go_loopw [4] (fun i wr => ∃ j : Nat, j ≤ es.length ∧ i = .int .i64 j ∧ Hid (TeqAtX w es j wr)) (fun i _ => es.length - (intOf i).toNat)
  case atStart => exact ⟨0, by omega, rfl, HST⟩
  case round =>
    clear HST
    obtain ⟨j, hj, rfl, HAT⟩ := hrel
    have hsr := HAT.out.size
    by_cases hlt : j < es.length
    · obtain ⟨y, hy⟩ : ∃ y, es[j]? = some y := ⟨es[j], List.getElem?_eq_getElem hlt⟩
      obtain ⟨⟨s, v, k⟩, s', v', k'⟩ := y
      obtain ⟨rb, ro, rfl, _, hbB, a, c, a', c', d0, d1, d2, d3, d4, d5, hsl, hsl'⟩ := (HB.out.next HAT.out.below).at hy
      dsimp only at d0 d1 d2 d3 d4 d5 hsl hsl'
      have d4' : wr.cell? ⟨rb, ro + j * 6 + 4, none⟩ = some (.int .i64 v') := d4
      have d5' : wr.cell? ⟨rb, ro + j * 6 + 5, none⟩ = some (.slice a' (flen k') c') := d5
      have hkz := HZ.out _ (List.mem_of_getElem? hy)
      unfold fszE at hkz
      dsimp only at hkz
      have HX := Lib.hid hy
      have HS := Lib.hid hsl
      have HS' := Lib.hid hsl'
      have g1 : (0 : Int) ≤ (j : Int) := by omega
      have g2 : (j : Int) < (es.length : Int) := by omega
      clear hy hsl hsl' d4 d5
      go_wp2_with fail
      with_reducible refine (toEq_sx s v a c k s' v' a' c' k' _ HS.out HS'.out (by omega) (by omega)).mono ?_
      rintro e w2 ⟨a2, c2, a3, c3, rfl, hb2, hl2, hl3⟩
      obtain ⟨f, hf, _⟩ := HAT.out.row
      have hf2 := hf.of_block (hb2.block _ hsr)
      have hg0 := hf2.cell (i := j * 6) (by omega)
      have hg1 := hf2.cell (i := j * 6 + 1) (by omega)
      have hg2 := hf2.cell (i := j * 6 + 2) (by omega)
      have hg3 := hf2.cell (i := j * 6 + 3) (by omega)
      have hg4 := hf2.cell (i := j * 6 + 4) (by omega)
      have hg5 := hf2.cell (i := j * 6 + 5) (by omega)
      have hz0 := hf2.frozen (j * 6)
      have hz1 := hf2.frozen (j * 6 + 1)
      have hz2 := hf2.frozen (j * 6 + 2)
      have hz3 := hf2.frozen (j * 6 + 3)
      have hz4 := hf2.frozen (j * 6 + 4)
      have hz5 := hf2.frozen (j * 6 + 5)
      have HSTEP := Lib.hid (HAT.out.step (c := c2) (c' := c3) HX.out hb2 hl2 hl3)
      unfold e6 at HSTEP
      clear hf hf2 hb2 hl2 hl3 d0 d1 d2 d3 d4' d5'
      go_wp2_with fail
      go_roundw
      case rel => exact ⟨j + 1, by omega, by go_num, HSTEP⟩
      case measure => simp [intOf]; omega
    · have HE : Hid (TeqsPostX es w (.returned (.slice (some ⟨w.heap.size, 0, none⟩) es.length es.length)) wr) := ⟨_, _, rfl, HAT.out.below, HAT.out.ex (by omega)⟩
      clear HAT
      go_wp2_with fail
      go_ret
      exact HE.out

end Go.Proofs.Ytoafleckcjanaaa
