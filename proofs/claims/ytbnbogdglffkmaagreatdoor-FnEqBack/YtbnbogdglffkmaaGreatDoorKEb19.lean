/- Several texts in one: ER5, WF2, Mix2, Mix3. -/
import Derived.Test.YtbnbogdglffkmaaGreatDoorKEb18
import Derived.Test.YtbnbogdglffkmaaGreatDoorKEb3
import Derived.Test.YtbnbogdglffkmaaGreatDoorKEb8

/-! ER5: EqRead of the program. -/
namespace Go.Proofs.YtbnbogdglffkmaaGreatDoor
open Go.RowKit Go.Deep

def EiPost (l : List UInt8) (w : World) (e : Ending) (w' : World) : Prop :=
  ∃ a c s v k a' c' s' v' k' t m, eqA l = ((s, v, k), (s', v', k'), t) ∧ e = .returned (.tuple #[.agg #[.int .i64 s, .int .i64 v, .slice a (flen k) c, .int .i64 s', .int .i64 v', .slice a' (flen k') c'], .bool t]) ∧ Below w.heap.size w w' ∧ w.heap.size ≤ m ∧ m ≤ w'.heap.size ∧ TX w' w.heap.size m a k ∧ TX w' m w'.heap.size a' k'
/-- A world with the six cells of a box written. -/
def set6 (w : World) (n : Nat) (x0 x1 x2 x3 x4 x5 : Value) : World := ((((((w.setCell ⟨n, 0, none⟩ x0).setCell ⟨n, 1, none⟩ x1).setCell ⟨n, 2, none⟩ x2).setCell ⟨n, 3, none⟩ x3).setCell ⟨n, 4, none⟩ x4).setCell ⟨n, 5, none⟩ x5)
theorem set6_cells {w : World} {n : Nat} {y0 y1 y2 y3 y4 y5 : Value} (h : w.cell? ⟨n, 0, none⟩ = some y0 ∧ w.cell? ⟨n, 1, none⟩ = some y1 ∧ w.cell? ⟨n, 2, none⟩ = some y2 ∧ w.cell? ⟨n, 3, none⟩ = some y3 ∧ w.cell? ⟨n, 4, none⟩ = some y4 ∧ w.cell? ⟨n, 5, none⟩ = some y5) (x0 x1 x2 x3 x4 x5 : Value) :
    (set6 w n x0 x1 x2 x3 x4 x5).cell? ⟨n, 0, none⟩ = some x0 ∧ (set6 w n x0 x1 x2 x3 x4 x5).cell? ⟨n, 1, none⟩ = some x1 ∧ (set6 w n x0 x1 x2 x3 x4 x5).cell? ⟨n, 2, none⟩ = some x2 ∧ (set6 w n x0 x1 x2 x3 x4 x5).cell? ⟨n, 3, none⟩ = some x3 ∧ (set6 w n x0 x1 x2 x3 x4 x5).cell? ⟨n, 4, none⟩ = some x4 ∧ (set6 w n x0 x1 x2 x3 x4 x5).cell? ⟨n, 5, none⟩ = some x5 := by
  obtain ⟨h0, h1, h2, h3, h4, h5⟩ := h
  unfold set6
  refine ⟨?_, ?_, ?_, ?_, ?_, ?_⟩ <;> simp [go_sem, h0, h1, h2, h3, h4, h5]

set_option maxRecDepth 100000 in
set_option maxHeartbeats 1000000 in
theorem read_any (l : List UInt8) (w : World) (hl : l.length ≤ 1048576) (hE : ErrAt w w.heap.size) (hM : MxAt w) :
    Calls Tryz.prog 17 #[.string (str l), .func (.func 18) #[] #[]] w (EiPost l w) := by
  have hb0 : Below w.heap.size w (w.alloc (.cells #[.int .i64 0, .int .i64 0, .slice none 0 0, .int .i64 0, .int .i64 0, .slice none 0 0] 27)) := (Below.refl _ _).alloc (Nat.le_refl _) _
  have hE0 : ErrAt (w.alloc (.cells #[.int .i64 0, .int .i64 0, .slice none 0 0, .int .i64 0, .int .i64 0, .slice none 0 0] 27)) (w.alloc (.cells #[.int .i64 0, .int .i64 0, .slice none 0 0, .int .i64 0, .int .i64 0, .slice none 0 0] 27)).heap.size := (hE.same (Same.of_below hb0)).mono (by simp)
  have hcall := eqOf_any l _ hl hE0 (hM.below hb0)
  have HB0 := Lib.hid hb0
  have HC := Lib.hid hcall
  clear hb0 hE0 hcall hl hE hM
  go_enter_defers Tryz.func17, Tryz.ntmps17
  go_wp2_with fail
  with_reducible refine HC.out.mono ?_
  rintro e w2 ⟨s, v, k, s', v', k', t, hA, hb2, hcase⟩
  have hs2 := hb2.size
  simp at hs2
  have hb2' : Below (w.heap.size + 1) (w.alloc (.cells #[.int .i64 0, .int .i64 0, .slice none 0 0, .int .i64 0, .int .i64 0, .slice none 0 0] 27)) w2 := by simpa using hb2
  have hb3 := HB0.out.trans (hb2'.mono (Nat.le_succ _))
  have hrs := box6u rfl hb2'
  have hqs := froz6 rfl hb2'
  have HA := Lib.hid hA
  have HB3 := Lib.hid hb3
  clear hb2 hb2' hb3 hA HC
  rcases hcase with ⟨rfl, a, c, a', c', m, rfl, hm, hm', hl, hl'⟩ | ⟨rfl, rfl⟩
  · have HL := Lib.hid hl
    have HL' := Lib.hid hl'
    simp at hm
    have HCELLS := Lib.hid (set6_cells hrs (.int .i64 s) (.int .i64 v) (.slice a (flen k) c) (.int .i64 s') (.int .i64 v') (.slice a' (flen k') c'))
    obtain ⟨hr0, hr1, hr2, hr3, hr4, hr5⟩ := hrs
    obtain ⟨hq0, hq1, hq2, hq3, hq4, hq5⟩ := hqs
    have HS : Hid (∀ wS, wS = set6 w2 w.heap.size (.int .i64 s) (.int .i64 v) (.slice a (flen k) c) (.int .i64 s') (.int .i64 v') (.slice a' (flen k') c') → Below w.heap.size w wS ∧ TX wS w.heap.size m a k ∧ TX wS m wS.heap.size a' k' ∧ wS.heap.size = w2.heap.size) := by
      rintro wS rfl
      exact ⟨below_set6 (Nat.le_refl _) HB3.out _ _ _ _ _ _, (HL.out.same (same_set6 (n := w.heap.size) (by simp) _ _ _ _ _ _)).mono (by simp) (Nat.le_refl _), (HL'.out.same (same_set6 (n := w.heap.size) (by omega) _ _ _ _ _ _)).mono (Nat.le_refl _) (by unfold set6; simp), by unfold set6; simp⟩
    clear hl hl' HL HL'
    go_wp2_with fail
    obtain ⟨wS, hwS⟩ : ∃ wS, wS = set6 w2 w.heap.size (.int .i64 s) (.int .i64 v) (.slice a (flen k) c) (.int .i64 s') (.int .i64 v') (.slice a' (flen k') c') := ⟨_, rfl⟩
    obtain ⟨hbS, htS, htS', hzS⟩ := HS.out wS hwS
    have hcS := HCELLS.out
    rw [← hwS] at hcS
    change bodyPostD _ _ _ _ _ (set6 w2 w.heap.size (.int .i64 s) (.int .i64 v) (.slice a (flen k) c) (.int .i64 s') (.int .i64 v') (.slice a' (flen k') c'))
    rw [← hwS]
    refine leaves_cons (f := 29) (args := #[]) (by simp) (by simp [go_sem]) ?_
    refine (catch_idle _).mono ?_
    rintro e u' w4 ⟨rfl, rfl, hb4⟩
    have hs4 := hb4.size
    obtain ⟨g0, g1, g2, g3, g4, g5⟩ := hcS
    have g0 := cell_lowX hb4 g0
    have g1 := cell_lowX hb4 g1
    have g2 := cell_lowX hb4 g2
    have g3 := cell_lowX hb4 g3
    have g4 := cell_lowX hb4 g4
    have g5 := cell_lowX hb4 g5
    refine ⟨.tuple #[.agg #[.int .i64 s, .int .i64 v, .slice a (flen k) c, .int .i64 s', .int .i64 v', .slice a' (flen k') c'], .bool true], ?_, ⟨a, c, s, v, k, a', c', s', v', k', true, m, HA.out, rfl, hbS.trans (hb4.mono (by omega)), by omega, by omega, htS.same (Same.of_below (hb4.mono (by omega))), (htS'.same (Same.of_below hb4)).mono (Nat.le_refl _) hs4⟩⟩
    simp [results, Tryz.results17, go_sem, g0, g1, g2, g3, g4, g5]
  · obtain ⟨hr0, hr1, hr2, hr3, hr4, hr5⟩ := hrs
    have hz : ((s, v, k), s', v', k') = ((0, 0, .nil), 0, 0, .nil) := by
      have h := HA.out
      unfold eqA at h
      cases hr : eqR l with
      | none => rw [hr] at h; simp only [Prod.mk.injEq] at h ⊢; obtain ⟨⟨rfl, rfl, rfl⟩, ⟨rfl, rfl, rfl⟩, _⟩ := h; exact ⟨⟨rfl, rfl, rfl⟩, rfl, rfl, rfl⟩
      | some x => rw [hr] at h; simp only [Prod.mk.injEq] at h; exact absurd h.2.2 (by simp)
    simp only [Prod.mk.injEq] at hz
    obtain ⟨⟨rfl, rfl, rfl⟩, rfl, rfl, rfl⟩ := hz
    clear hqs
    go_wp2_with fail
    refine leaves_cons (f := 29) (args := #[]) (by simp) (by simp [go_sem]) ?_
    refine (catch_give _).mono ?_
    rintro e u' w4 ⟨rfl, rfl, hb4⟩
    have hs4 := hb4.size
    have g0 := cell_lowX hb4 hr0
    have g1 := cell_lowX hb4 hr1
    have g2 := cell_lowX hb4 hr2
    have g3 := cell_lowX hb4 hr3
    have g4 := cell_lowX hb4 hr4
    have g5 := cell_lowX hb4 hr5
    refine ⟨.tuple #[.agg #[.int .i64 0, .int .i64 0, .slice none 0 0, .int .i64 0, .int .i64 0, .slice none 0 0], .bool false], ?_, ⟨none, 0, 0, 0, .nil, none, 0, 0, 0, .nil, false, w.heap.size, HA.out, rfl, HB3.out.trans (hb4.mono (by omega)), Nat.le_refl _, by omega, ?_, ?_⟩⟩
    · simp [results, Tryz.results17, go_sem, g0, g1, g2, g3, g4, g5]
    · exact ⟨.inl rfl, .inl rfl⟩
    · exact ⟨.inl rfl, .inl rfl⟩

set_option maxRecDepth 100000 in
set_option maxHeartbeats 1000000 in
theorem iEqRead_any (l : List UInt8) (w : World) (hl : l.length ≤ 1048576) (hE : ErrAt w w.heap.size) (hM : MxAt w) :
    Calls Tryz.prog 8 #[.string (str l)] w (EiPost l w) := by
  have hb0 : Below w.heap.size w (w.alloc (.cells #[.int .i64 0, .int .i64 0, .slice none 0 0, .int .i64 0, .int .i64 0, .slice none 0 0] 27)) := (Below.refl _ _).alloc (Nat.le_refl _) _
  have hE0 : ErrAt (w.alloc (.cells #[.int .i64 0, .int .i64 0, .slice none 0 0, .int .i64 0, .int .i64 0, .slice none 0 0] 27)) (w.alloc (.cells #[.int .i64 0, .int .i64 0, .slice none 0 0, .int .i64 0, .int .i64 0, .slice none 0 0] 27)).heap.size := (hE.same (Same.of_below hb0)).mono (by simp)
  have hcall := read_any l _ hl hE0 (hM.below hb0)
  have HB0 := Lib.hid hb0
  have HC := Lib.hid hcall
  clear hb0 hE0 hcall hl hE hM
  go_enter Tryz.func8, Tryz.ntmps8
  go_wp2_with fail
  with_reducible refine HC.out.mono ?_
  rintro e w2 ⟨a, c, s, v, k, a', c', s', v', k', t, m, hA, rfl, hb2, hm, hm', hl, hl'⟩
  have hs2 := hb2.size
  simp at hs2 hm
  have hb2' : Below (w.heap.size + 1) (w.alloc (.cells #[.int .i64 0, .int .i64 0, .slice none 0 0, .int .i64 0, .int .i64 0, .slice none 0 0] 27)) w2 := by simpa using hb2
  have HB2 := Lib.hid (HB0.out.trans (hb2'.mono (Nat.le_succ _)))
  obtain ⟨hr0, hr1, hr2, hr3, hr4, hr5⟩ := box6u rfl hb2'
  obtain ⟨hq0, hq1, hq2, hq3, hq4, hq5⟩ := froz6 rfl hb2'
  have HA := Lib.hid hA
  have HL := Lib.hid hl
  have HL' := Lib.hid hl'
  clear hb2 hb2' hA hl hl' HC
  go_wp2_with fail
  refine bodyPost_ret (v := .tuple #[.agg #[.int .i64 s, .int .i64 v, .slice a (flen k) c, .int .i64 s', .int .i64 v', .slice a' (flen k') c'], .bool t]) ?_ rfl ⟨a, c, s, v, k, a', c', s', v', k', t, m, HA.out, rfl, below_set6 (Nat.le_refl _) HB2.out _ _ _ _ _ _, by omega, by simpa using hm', ?_, ?_⟩
  · simp [results, Tryz.results8, go_sem, hr0, hr1, hr2, hr3, hr4, hr5]
  · exact (HL.out.same (same_set6 (n := w.heap.size) (by simp) _ _ _ _ _ _)).mono (by simp) (Nat.le_refl _)
  · exact (HL'.out.same (same_set6 (n := w.heap.size) (by omega) _ _ _ _ _ _)).mono (Nat.le_refl _) (by simp)
end Go.Proofs.YtbnbogdglffkmaaGreatDoor

/-! WF2: l71Term once more: what is drawn is a term in form, without marks, no larger than its depth lets. -/
namespace Go.Proofs.YtbnbogdglffkmaaGreatDoor
open Go.RowKit Go.Deep

/-- In form, without marks. -/
def OkZ (s v : Int) (k : Fo) : Prop := okN s v (flen k) = true ∧ fok k = true ∧ Zf k
theorem okz_a : OkZ 1 0 .nil := ⟨by decide, rfl, rfl⟩
theorem okz_b : OkZ 2 0 .nil := ⟨by decide, rfl, rfl⟩
theorem okz_var {v : Int} (h1 : 0 ≤ v) (h2 : v ≤ 11) : OkZ 0 v .nil := ⟨(okN_iff _ _ _).2 ⟨by simp [flen, ar], fun _ => ⟨h1, h2⟩, fun h => absurd rfl h⟩, rfl, rfl⟩
theorem okz_g {s v : Int} {k : Fo} (h : OkZ s v k) : OkZ 3 0 (.node 0 0 (s, v) k .nil) := by
  obtain ⟨h1, h2, h3⟩ := h
  exact ⟨by show okN 3 0 1 = true; decide, by simp [fok, h1, h2], zf_node.2 ⟨rfl, rfl, h3, rfl⟩⟩
theorem okz_f {s v s' v' : Int} {k k' : Fo} (h : OkZ s v k) (h' : OkZ s' v' k') : OkZ 4 0 (.node 0 0 (s, v) k (.node 0 0 (s', v') k' .nil)) := by
  obtain ⟨h1, h2, h3⟩ := h
  obtain ⟨h1', h2', h3'⟩ := h'
  exact ⟨by show okN 4 0 2 = true; decide, by simp [fok, h1, h2, h1', h2'], zf_node.2 ⟨rfl, rfl, h3, zf_node.2 ⟨rfl, rfl, h3', rfl⟩⟩⟩
def DrawnOk (br p K S : Nat) (w : World) (e : Ending) (w' : World) : Prop :=
  ∃ s v a c k p', e = .returned (.agg #[.int .i64 s, .int .i64 v, .slice a (flen k) c]) ∧ OkZ s v k ∧ p ≤ p' ∧ p' ≤ p + K ∧ 1 + fsz k ≤ S ∧ Adv w br p' w' ∧ Sl w' w.heap.size w'.heap.size a k
theorem drawn_ok {w w2 : World} {br p p' K S : Nat} {s v : Int} {a : Option Addr} {c : Nat} {k : Fo} {o : Obj} {x y z : Value} (hok : OkZ s v k) (ha : Adv (w.alloc o) br p' w2) (hbr : br < w.heap.size) (h1 : p ≤ p') (h2 : p' ≤ p + K) (h3 : 1 + fsz k ≤ S)
    (hl : Sl w2 (w.heap.size + 1) w2.heap.size a k) : DrawnOk br p K S w (.returned (.agg #[.int .i64 s, .int .i64 v, .slice a (flen k) c])) (((w2.setCell ⟨w.heap.size, 0, none⟩ x).setCell ⟨w.heap.size, 1, none⟩ y).setCell ⟨w.heap.size, 2, none⟩ z) := by
  refine ⟨s, v, a, c, k, p', rfl, hok, h1, h2, h3, (((ha.off hbr).store (by simp) _).store (by simp) _).store (by simp) _, ?_⟩
  have hs : Same (w.heap.size + 1) w2.heap.size w2 (((w2.setCell ⟨w.heap.size, 0, none⟩ x).setCell ⟨w.heap.size, 1, none⟩ y).setCell ⟨w.heap.size, 2, none⟩ z) :=
    (((Same.setCell (fun _ _ _ => rfl) (.inl (by simp)) _).setCell (.inl (by simp)) _).setCell (.inl (by simp)) _)
  exact (hl.same hs).mono (by omega) (by simp)

set_option maxRecDepth 100000 in
set_option maxHeartbeats 1000000 in
theorem l71Term_ok (D : Nat) : ∀ (deep vars : Int) (br p : Nat) (w : World), deep ≤ D + 1 → -1000 ≤ deep → D ≤ 20 → 1 ≤ vars → vars ≤ 12 → Rd w br p → p + pkN D ≤ 100000000 →
    Calls Tryz.prog 34 #[.pointer (some ⟨br, 0, none⟩), .int .i64 deep, .int .i64 vars] w (DrawnOk br p (pkN D) (szN D) w) := by
  induction D with
  | zero =>
    intro deep vars br p w h1 h2 h3 h4 h5 hr hp
    have hpk : pkN 0 = 3 := rfl
    have HPK := Lib.hid hpk
    have hk3 : 3 ≤ pkN 0 := by omega
    clear hpk
    have e1 : decide (deep < 2) = true := by simp; omega
    have HR0 := Lib.hid hr
    have hlt := hr.lt
    have hr' := hr.alloc (.cells #[.int .i64 0, .int .i64 0, .slice none 0 0] 25)
    have HA : Hid (Adv (w.alloc (.cells #[.int .i64 0, .int .i64 0, .slice none 0 0] 25)) br p (w.alloc (.cells #[.int .i64 0, .int .i64 0, .slice none 0 0] 25))) := Adv.start hr' (Below.refl _ _)
    have HR := Lib.hid hr'
    clear hr hr'
    go_enter Tryz.func34, Tryz.ntmps34
    go_wp2_with fail
    with_reducible refine (pick_any 5 br (p) _ HR.out (by omega) (by omega) (by omega)).mono ?_
    rintro e w1 ⟨x, rfl, hx, hb⟩
    have ha : Adv (w.alloc (.cells #[.int .i64 0, .int .i64 0, .slice none 0 0] 25)) br (p + 1) w1 := HA.out.trans hb
    have hr1 := ha.rd (HR0.out.alloc _)
    have HA1 := Lib.hid ha
    have HR1 := Lib.hid hr1
    clear ha hb hr1
    by_cases hx0 : x = 0
    · subst hx0
      go_wp2_with fail
      with_reducible refine (l71Of_any 1 none 0 0 _).mono ?_
      rintro e w2 ⟨rfl, hb2⟩
      have ha2 := HA1.out.more hb2
      obtain ⟨hc0, hc1, hc2, hf0, hf1, hf2⟩ := res_cells ha2 hlt
      clear hb2
      go_wp2_with fail
      refine bodyPost_ret (v := .agg #[.int .i64 1, .int .i64 0, .slice none 0 0]) ?_ rfl (drawn_ok (s := 1) (v := 0) (k := .nil) okz_a ha2 hlt (by omega) (by omega) (by simp [fsz, szN]) (.inl rfl))
      simp [results, Tryz.results34, go_sem, hc0, hc1, hc2]
    by_cases hx1 : x = 1
    · subst hx1
      go_wp2_with fail
      with_reducible refine (l71Of_any 2 none 0 0 _).mono ?_
      rintro e w2 ⟨rfl, hb2⟩
      have ha2 := HA1.out.more hb2
      obtain ⟨hc0, hc1, hc2, hf0, hf1, hf2⟩ := res_cells ha2 hlt
      clear hb2
      go_wp2_with fail
      refine bodyPost_ret (v := .agg #[.int .i64 2, .int .i64 0, .slice none 0 0]) ?_ rfl (drawn_ok (s := 2) (v := 0) (k := .nil) okz_b ha2 hlt (by omega) (by omega) (by simp [fsz, szN]) (.inl rfl))
      simp [results, Tryz.results34, go_sem, hc0, hc1, hc2]
    have x0 : ((x : Int) == 0) = false := by simpa using hx0
    have x1 : ((x : Int) == 1) = false := by simp; omega
    go_wp2_with fail
    with_reducible refine (pick_any vars br (p + 1) _ HR1.out (by omega) (by omega) (by omega)).mono ?_
    rintro e w2 ⟨y, rfl, hy, hb2⟩
    have ha2 := HA1.out.trans hb2
    have HA2 := Lib.hid ha2
    clear ha2 hb2
    go_wp2_with fail
    with_reducible refine (l71Var_any y _).mono ?_
    rintro e w3 ⟨rfl, hb3⟩
    have ha3 := HA2.out.more hb3
    obtain ⟨hc0, hc1, hc2, hf0, hf1, hf2⟩ := res_cells ha3 hlt
    clear hb3
    go_wp2_with fail
    refine bodyPost_ret (v := .agg #[.int .i64 0, .int .i64 y, .slice none 0 0]) ?_ rfl (drawn_ok (s := 0) (v := y) (k := .nil) (okz_var (by omega) (by omega)) ha3 hlt (by omega) (by omega) (by simp [fsz, szN]) (.inl rfl))
    simp [results, Tryz.results34, go_sem, hc0, hc1, hc2]
  | succ D ih =>
    intro deep vars br p w h1 h2 h3 h4 h5 hr hp
    have hk3 : 2 * pkN D + 3 ≤ pkN (D + 1) := Nat.le_refl _
    have hs1 : 2 * szN D + 1 ≤ szN (D + 1) := Nat.le_refl _
    have hs0 := szN_pos D
    have hdm : deep ≤ 1000 := by omega
    have IH := Lib.hid ih
    clear ih
    have HR0 := Lib.hid hr
    have hlt := hr.lt
    have hr' := hr.alloc (.cells #[.int .i64 0, .int .i64 0, .slice none 0 0] 25)
    have HA : Hid (Adv (w.alloc (.cells #[.int .i64 0, .int .i64 0, .slice none 0 0] 25)) br p (w.alloc (.cells #[.int .i64 0, .int .i64 0, .slice none 0 0] 25))) := Adv.start hr' (Below.refl _ _)
    have HR := Lib.hid hr'
    clear hr hr'
    by_cases hd : deep < 2
    · have e1 : decide (deep < 2) = true := by simp; omega
      go_enter Tryz.func34, Tryz.ntmps34
      go_wp2_with fail
      with_reducible refine (pick_any 5 br (p) _ HR.out (by omega) (by omega) (by omega)).mono ?_
      rintro e w1 ⟨x, rfl, hx, hb⟩
      have ha : Adv (w.alloc (.cells #[.int .i64 0, .int .i64 0, .slice none 0 0] 25)) br (p + 1) w1 := HA.out.trans hb
      have hr1 := ha.rd (HR0.out.alloc _)
      have HA1 := Lib.hid ha
      have HR1 := Lib.hid hr1
      clear ha hb hr1
      by_cases hx0 : x = 0
      · subst hx0
        go_wp2_with fail
        with_reducible refine (l71Of_any 1 none 0 0 _).mono ?_
        rintro e w2 ⟨rfl, hb2⟩
        have ha2 := HA1.out.more hb2
        obtain ⟨hc0, hc1, hc2, hf0, hf1, hf2⟩ := res_cells ha2 hlt
        clear hb2
        go_wp2_with fail
        refine bodyPost_ret (v := .agg #[.int .i64 1, .int .i64 0, .slice none 0 0]) ?_ rfl (drawn_ok (s := 1) (v := 0) (k := .nil) okz_a ha2 hlt (by omega) (by omega) (by simp only [fsz]; omega) (.inl rfl))
        simp [results, Tryz.results34, go_sem, hc0, hc1, hc2]
      by_cases hx1 : x = 1
      · subst hx1
        go_wp2_with fail
        with_reducible refine (l71Of_any 2 none 0 0 _).mono ?_
        rintro e w2 ⟨rfl, hb2⟩
        have ha2 := HA1.out.more hb2
        obtain ⟨hc0, hc1, hc2, hf0, hf1, hf2⟩ := res_cells ha2 hlt
        clear hb2
        go_wp2_with fail
        refine bodyPost_ret (v := .agg #[.int .i64 2, .int .i64 0, .slice none 0 0]) ?_ rfl (drawn_ok (s := 2) (v := 0) (k := .nil) okz_b ha2 hlt (by omega) (by omega) (by simp only [fsz]; omega) (.inl rfl))
        simp [results, Tryz.results34, go_sem, hc0, hc1, hc2]
      have x0 : ((x : Int) == 0) = false := by simpa using hx0
      have x1 : ((x : Int) == 1) = false := by simp; omega
      go_wp2_with fail
      with_reducible refine (pick_any vars br (p + 1) _ HR1.out (by omega) (by omega) (by omega)).mono ?_
      rintro e w2 ⟨y, rfl, hy, hb2⟩
      have ha2 := HA1.out.trans hb2
      have HA2 := Lib.hid ha2
      clear ha2 hb2
      go_wp2_with fail
      with_reducible refine (l71Var_any y _).mono ?_
      rintro e w3 ⟨rfl, hb3⟩
      have ha3 := HA2.out.more hb3
      obtain ⟨hc0, hc1, hc2, hf0, hf1, hf2⟩ := res_cells ha3 hlt
      clear hb3
      go_wp2_with fail
      refine bodyPost_ret (v := .agg #[.int .i64 0, .int .i64 y, .slice none 0 0]) ?_ rfl (drawn_ok (s := 0) (v := y) (k := .nil) (okz_var (by omega) (by omega)) ha3 hlt (by omega) (by omega) (by simp only [fsz]; omega) (.inl rfl))
      simp [results, Tryz.results34, go_sem, hc0, hc1, hc2]
    have e1 : decide (deep < 2) = false := by simp; omega
    go_enter Tryz.func34, Tryz.ntmps34
    go_wp2_with fail
    with_reducible refine (pick_any 4 br p _ HR.out (by omega) (by omega) (by omega)).mono ?_
    rintro e w0 ⟨x4, rfl, hx4, hb0⟩
    have ha0 : Adv (w.alloc (.cells #[.int .i64 0, .int .i64 0, .slice none 0 0] 25)) br (p + 1) w0 := HA.out.trans hb0
    have hr0 := ha0.rd (HR0.out.alloc _)
    clear HA HR
    have HA := Lib.hid ha0
    have HR := Lib.hid hr0
    clear ha0 hr0 hb0 hx4
    by_cases hx : x4 = 0
    · subst hx
      go_wp2_with fail
      with_reducible refine (pick_any 5 br (p + 1) _ HR.out (by omega) (by omega) (by omega)).mono ?_
      rintro e w1 ⟨x, rfl, hx, hb⟩
      have ha : Adv (w.alloc (.cells #[.int .i64 0, .int .i64 0, .slice none 0 0] 25)) br (p + 1 + 1) w1 := HA.out.trans hb
      have hr1 := ha.rd (HR0.out.alloc _)
      have HA1 := Lib.hid ha
      have HR1 := Lib.hid hr1
      clear ha hb hr1
      by_cases hx0 : x = 0
      · subst hx0
        go_wp2_with fail
        with_reducible refine (l71Of_any 1 none 0 0 _).mono ?_
        rintro e w2 ⟨rfl, hb2⟩
        have ha2 := HA1.out.more hb2
        obtain ⟨hc0, hc1, hc2, hf0, hf1, hf2⟩ := res_cells ha2 hlt
        clear hb2
        go_wp2_with fail
        refine bodyPost_ret (v := .agg #[.int .i64 1, .int .i64 0, .slice none 0 0]) ?_ rfl (drawn_ok (s := 1) (v := 0) (k := .nil) okz_a ha2 hlt (by omega) (by omega) (by simp only [fsz]; omega) (.inl rfl))
        simp [results, Tryz.results34, go_sem, hc0, hc1, hc2]
      by_cases hx1 : x = 1
      · subst hx1
        go_wp2_with fail
        with_reducible refine (l71Of_any 2 none 0 0 _).mono ?_
        rintro e w2 ⟨rfl, hb2⟩
        have ha2 := HA1.out.more hb2
        obtain ⟨hc0, hc1, hc2, hf0, hf1, hf2⟩ := res_cells ha2 hlt
        clear hb2
        go_wp2_with fail
        refine bodyPost_ret (v := .agg #[.int .i64 2, .int .i64 0, .slice none 0 0]) ?_ rfl (drawn_ok (s := 2) (v := 0) (k := .nil) okz_b ha2 hlt (by omega) (by omega) (by simp only [fsz]; omega) (.inl rfl))
        simp [results, Tryz.results34, go_sem, hc0, hc1, hc2]
      have x0 : ((x : Int) == 0) = false := by simpa using hx0
      have x1 : ((x : Int) == 1) = false := by simp; omega
      go_wp2_with fail
      with_reducible refine (pick_any vars br (p + 1 + 1) _ HR1.out (by omega) (by omega) (by omega)).mono ?_
      rintro e w2 ⟨y, rfl, hy, hb2⟩
      have ha2 := HA1.out.trans hb2
      have HA2 := Lib.hid ha2
      clear ha2 hb2
      go_wp2_with fail
      with_reducible refine (l71Var_any y _).mono ?_
      rintro e w3 ⟨rfl, hb3⟩
      have ha3 := HA2.out.more hb3
      obtain ⟨hc0, hc1, hc2, hf0, hf1, hf2⟩ := res_cells ha3 hlt
      clear hb3
      go_wp2_with fail
      refine bodyPost_ret (v := .agg #[.int .i64 0, .int .i64 y, .slice none 0 0]) ?_ rfl (drawn_ok (s := 0) (v := y) (k := .nil) (okz_var (by omega) (by omega)) ha3 hlt (by omega) (by omega) (by simp only [fsz]; omega) (.inl rfl))
      simp [results, Tryz.results34, go_sem, hc0, hc1, hc2]
    have x0 : ((x4 : Int) == 0) = false := by simpa using hx
    go_wp2_with fail
    with_reducible refine (pick_any 5 br (p + 1) _ HR.out (by omega) (by omega) (by omega)).mono ?_
    rintro e w1 ⟨x, rfl, hx5, hb⟩
    have ha : Adv (w.alloc (.cells #[.int .i64 0, .int .i64 0, .slice none 0 0] 25)) br (p + 1 + 1) w1 := HA.out.trans hb
    have hr1 := ha.rd (HR0.out.alloc _)
    have hsz1 := ha.size
    simp at hsz1
    have HA1 := Lib.hid ha
    have HR1 := Lib.hid hr1
    clear ha hb hr1 HA HR
    by_cases hx2 : x < 2
    · have g2 : decide ((x : Int) < 2) = true := by simp; omega
      go_wp2_with fail
      with_reducible refine (IH.out (deep - 1) vars br (p + 1 + 1) _ (by omega) (by omega) (by omega) h4 h5 HR1.out (by omega)).mono ?_
      rintro e w2 ⟨s', v', a', c', k', p', rfl, hok1, hp1, hp2, hsz, ha2, hl2⟩
      have ha3 := HA1.out.trans ha2
      have hsz2 := ha2.size
      have HA3 := Lib.hid ha3
      have HL := Lib.hid (kid1 (T := 25) (s := s') (v := v') (c := c') (hl2.mono (lo' := w.heap.size + 1) (by omega) (Nat.le_refl _)) (by omega))
      clear ha2 hl2 ha3
      go_wp2_with fail
      with_reducible refine (l71Of_any 3 _ 1 1 _).mono ?_
      rintro e w3 ⟨rfl, hb3⟩
      have ha4 := (HA3.out.alloc _).more hb3
      have HL3 := Lib.hid ((HL.out.below hb3).mono (Nat.le_refl _) hb3.size)
      obtain ⟨hc0, hc1, hc2, hf0, hf1, hf2⟩ := res_cells ha4 hlt
      clear hb3
      go_wp2_with fail
      refine bodyPost_ret (v := .agg #[.int .i64 3, .int .i64 0, .slice (some ⟨w2.heap.size, 0, none⟩) 1 1]) ?_ rfl (drawn_ok (s := 3) (v := 0) (k := .node 0 0 (s', v') k' .nil) (okz_g hok1) ha4 hlt (by omega) (by omega) (by simp only [fsz]; omega) HL3.out)
      simp [results, Tryz.results34, go_sem, hc0, hc1, hc2]
    · have g2 : decide ((x : Int) < 2) = false := by simp; omega
      go_wp2_with fail
      with_reducible refine (IH.out (deep - 1) vars br (p + 1 + 1) _ (by omega) (by omega) (by omega) h4 h5 HR1.out (by omega)).mono ?_
      rintro e w2 ⟨s', v', a', c', k', p', rfl, hok1, hp1, hp2, hsz, ha2, hl2⟩
      have ha3 := HA1.out.trans ha2
      have hsz2 := ha2.size
      have hr2 := ha2.rd HR1.out
      have HR2 := Lib.hid hr2
      have HA3 := Lib.hid ha3
      have HL := Lib.hid (hl2.mono (lo' := w.heap.size + 1) (by omega) (Nat.le_refl _))
      clear ha2 hl2 ha3 hr2
      go_wp2_with fail
      with_reducible refine (IH.out (deep - 1) vars br p' _ (by omega) (by omega) (by omega) h4 h5 HR2.out (by omega)).mono ?_
      rintro e w3 ⟨s2, v2, a2, c2, k2, p2, rfl, hok2, hp3, hp4, hszb, ha4, hl4⟩
      have ha5 := HA3.out.trans ha4
      have hsz3 := ha4.size
      have HA5 := Lib.hid ha5
      have HLK := Lib.hid (kid2 (T := 25) (s := s') (v := v') (c := c') (s' := s2) (v' := v2) (c' := c2) ((HL.out.same (ha4.same (Nat.le_refl _) (.inl (by omega)))).mono (Nat.le_refl _) hsz3) (hl4.mono (lo' := w.heap.size + 1) (by omega) (Nat.le_refl _)) (by omega))
      clear ha4 hl4 ha5
      go_wp2_with fail
      with_reducible refine (l71Of_any 4 _ 2 2 _).mono ?_
      rintro e w4 ⟨rfl, hb3⟩
      have ha6 := (HA5.out.alloc _).more hb3
      have HL3 := Lib.hid ((HLK.out.below hb3).mono (Nat.le_refl _) hb3.size)
      obtain ⟨hc0, hc1, hc2, hf0, hf1, hf2⟩ := res_cells ha6 hlt
      clear hb3
      go_wp2_with fail
      refine bodyPost_ret (v := .agg #[.int .i64 4, .int .i64 0, .slice (some ⟨w3.heap.size, 0, none⟩) 2 2]) ?_ rfl (drawn_ok (s := 4) (v := 0) (k := .node 0 0 (s', v') k' (.node 0 0 (s2, v2) k2 .nil)) (okz_f hok1 hok2) ha6 hlt (by omega) (by omega) (by simp only [fsz]; omega) HL3.out)
      simp [results, Tryz.results34, go_sem, hc0, hc1, hc2]
end Go.Proofs.YtbnbogdglffkmaaGreatDoor

/-! Mix2: Regions that draw their order and end in two stores, either of which may come first. No condition. -/
namespace Go.Proofs.YtbnbogdglffkmaaGreatDoor

section
variable {P : Program} {ops : Array Oper} {Q : Exit → Act → World → Prop} {md : Region.Mode} {S : World → Prop} {late : List Nat}

/-- What reads no memory may be taken first, whatever has come up. -/
theorem wpAnyT_look {i : Nat} {oi : Oper} {v : Value} (hi : ops[i]? = some oi) (hsel : ∀ (j : Nat) (o : Oper) cs b, ops[j]? = some o → o.op ≠ .select cs b)
    (hQ : ∀ c a w, Q (.panic c) (a.put oi.dst v) w → Q (.panic c) a w) (hil : i ∉ late) :
    ∀ (fuel : Nat) (listed : Array Bool) (a : Act) (w : World),
      (∀ j oj, ops[j]? = some oj → j ≠ i → listed.getD j true = false → (∀ e ∈ oj.after, Region.binds md e = true → e.on ≠ i) → oi.apart ops oj = true) →
      i ∈ Region.ready md ops listed → YieldsIf P ops (fun _ => True) oi v a → ((∃ j ∈ late, listed.getD j false = true) ∨ S w) →
      wpAnyT P md ops Q S late fuel (listed.setIfInBounds i true) (a.put oi.dst v) w → wpAnyT P md ops Q S late (fuel + 1) listed a w := by
  have cur : ∀ (listed : Array Bool) (w : World), ((∃ j ∈ late, listed.getD j false = true) ∨ S w) → (∃ j ∈ late, (listed.setIfInBounds i true).getD j false = true) ∨ S w := fun listed w h => h.imp (fun ⟨k, hk, hl⟩ => ⟨k, hk, by
    have hne : i ≠ k := fun e => hil (by rw [e]; exact hk)
    rw [getD_set_ne false hne]; exact hl⟩) id
  intro fuel
  induction fuel with
  | zero =>
    intro listed a w _ hr hy hS H
    refine ⟨fun h => (by rw [h] at hr; cases hr), fun j hj => ?_⟩
    by_cases hji : j = i
    · subst hji; exact hy.wpOp hi trivial ⟨cur _ _ hS, H⟩
    · have := ready_mono hj hji
      rw [H.1] at this
      cases this
  | succ fuel ih =>
    intro listed a w hfree hr hy hS H
    refine ⟨fun h => (by rw [h] at hr; cases hr), fun j hj => ?_⟩
    by_cases hji : j = i
    · subst hji; exact hy.wpOp hi trivial ⟨cur _ _ hS, H⟩
    · have h1 := H.2 j (ready_mono hj hji)
      obtain ⟨hjun, oj, hoj, hall⟩ := mem_ready.1 hj
      have hiun := listed_no (mem_ready.1 hr).1
      have hnot : ∀ e ∈ oj.after, Region.binds md e = true → e.on ≠ i := fun e he hb heq => by
        have h1 := hall e he hb
        rw [heq, hiun] at h1
        cases h1
      have h2 := wpOp_putIf hoj (hfree j oj hoj hji hjun hnot) (fun cs b => hsel i oi cs b hi) (fun cs b => hsel j oj cs b hoj) hQ hy h1
      have hfree' : ∀ k ok, ops[k]? = some ok → k ≠ i → (listed.setIfInBounds j true).getD k true = false →
          (∀ e ∈ ok.after, Region.binds md e = true → e.on ≠ i) → oi.apart ops ok = true := fun k ok hk hki hun hno => by
        refine hfree k ok hk hki ?_ hno
        by_cases hjk : j = k
        · subst hjk; exact hjun
        · rw [getD_set_ne true hjk] at hun; exact hun
      refine wpOp_mono (fun a' w' h3 => ?_) h2
      have hS' : (∃ k ∈ late, (listed.setIfInBounds j true).getD k false = true) ∨ S w' := h3.2.1.imp (fun ⟨k, hk, hl⟩ => ⟨k, hk, by
        have hne2 : i ≠ k := fun e => hil (by rw [e]; exact hk)
        rw [Array.setIfInBounds_comm _ _ (Ne.symm hji), getD_set_ne false hne2] at hl
        exact hl⟩) id
      refine ⟨hS', ih (listed.setIfInBounds j true) a' w' hfree' (ready_mono hr (Ne.symm hji)) h3.1 hS' ?_⟩
      rw [Array.setIfInBounds_comm _ _ hji]
      exact h3.2.2

/-- A step of the walk: an operation that only looks (0), one behind which S is shown anew (1), one that reads no memory (2); in the end the two last ones, in either order. -/
def wpMixP (P : Program) (ops : Array Oper) (Q : Exit → Act → World → Prop) (S : World → Prop) (p q : Nat) : List (Nat × Nat) → Act → World → Prop
  | [], a, w => wpOp P ops Q p (fun a w => wpOp P ops Q q (fun a w => Q .normal a w) a w) a w ∧ wpOp P ops Q q (fun a w => wpOp P ops Q p (fun a w => Q .normal a w) a w) a w
  | (i, 0) :: rest, a, w => ∃ o v, ops[i]? = some o ∧ YieldsIf P ops S o v a ∧ wpMixP P ops Q S p q rest (a.put o.dst v) w
  | (i, 1) :: rest, a, w => wpOp P ops Q i (fun a' w' => S w' ∧ wpMixP P ops Q S p q rest a' w') a w
  | (i, _ + 2) :: rest, a, w => ∃ o v, ops[i]? = some o ∧ YieldsIf P ops (fun _ => True) o v a ∧ wpMixP P ops Q S p q rest (a.put o.dst v) w

def mixP (md : Region.Mode) (ops : Array Oper) (p q : Nat) : List (Nat × Nat) → Array Bool → Bool
  | [], listed => (Region.ready md ops listed == [p, q]) && (Region.ready md ops (listed.setIfInBounds p true) == [q]) && (Region.ready md ops (listed.setIfInBounds q true) == [p]) && (Region.ready md ops ((listed.setIfInBounds p true).setIfInBounds q true)).isEmpty &&
      (Region.ready md ops ((listed.setIfInBounds q true).setIfInBounds p true)).isEmpty && decide (p < listed.size) && decide (q < listed.size)
  | (i, 0) :: rest, listed => (Region.ready md ops listed).contains i && Region.free md ops listed i &&
      [p, q].all (fun j => match ops[j]? with | some oj => oj.after.any (fun e => Region.binds md e && e.on == i) | none => false) && [p, q].all (fun j => !(listed.getD j false)) && mixP md ops p q rest (listed.setIfInBounds i true)
  | (i, 1) :: rest, listed => (Region.ready md ops listed == [i]) && mixP md ops p q rest (listed.setIfInBounds i true)
  | (i, _ + 2) :: rest, listed => (Region.ready md ops listed).contains i && Region.free md ops listed i && !([p, q].contains i) && mixP md ops p q rest (listed.setIfInBounds i true)

theorem wpAnyT_mixP {p q : Nat} (hs : Region.noSelect ops = true) (hQ : ∀ c a w, ¬ Q (.panic c) a w) : ∀ (l : List (Nat × Nat)) (listed : Array Bool) (a : Act) (w : World), mixP md ops p q l listed = true → S w →
    wpMixP P ops Q S p q l a w → wpAnyT P md ops Q S [p, q] (l.length + 2) listed a w
  | [], listed, a, w, hB, hS, h => by
    simp only [mixP, Bool.and_eq_true, beq_iff_eq, decide_eq_true_eq, List.isEmpty_iff] at hB
    obtain ⟨⟨⟨⟨⟨⟨h1, h2⟩, h3⟩, h4⟩, h5⟩, h6⟩, h7⟩ := hB
    have lp : ∀ (l' : Array Bool) (r : Nat), r < l'.size → (l'.setIfInBounds r true).getD r false = true := fun l' r hr => by simp [hr]
    refine ⟨fun h0 => (by rw [h1] at h0; cases h0), fun j hj => ?_⟩
    rw [h1] at hj
    simp only [List.mem_cons, List.not_mem_nil, or_false] at hj
    rcases hj with rfl | rfl
    · refine wpOp_mono (fun a' w' h' => ⟨.inl ⟨j, by simp, lp _ _ h6⟩, ⟨fun h0 => (by rw [h2] at h0; cases h0), fun k hk => ?_⟩⟩) h.1
      rw [h2] at hk
      simp only [List.mem_singleton] at hk
      subst hk
      exact wpOp_mono (fun a' w' h' => ⟨.inl ⟨k, by simp, lp _ _ (by simpa using h7)⟩, ⟨h4, h'⟩⟩) h'
    · refine wpOp_mono (fun a' w' h' => ⟨.inl ⟨j, by simp, lp _ _ h7⟩, ⟨fun h0 => (by rw [h3] at h0; cases h0), fun k hk => ?_⟩⟩) h.2
      rw [h3] at hk
      simp only [List.mem_singleton] at hk
      subst hk
      exact wpOp_mono (fun a' w' h' => ⟨.inl ⟨k, by simp, lp _ _ (by simpa using h6)⟩, ⟨h5, h'⟩⟩) h'
  | (i, 0) :: rest, listed, a, w, hB, hS, ⟨o, v, ho, hy, h⟩ => by
    simp only [mixP, Bool.and_eq_true] at hB
    obtain ⟨⟨⟨⟨h2, h3⟩, h4⟩, h5⟩, h6⟩ := hB
    refine wpAnyT_first ho (Region.noSelect_spec hs) (fun c a w h => absurd h (hQ c _ w)) (fun j hj => ?_) (rest.length + 2) listed a w (Region.free_spec ho h3) (by simpa using h2) hy hS (fun j hj => ?_) (wpAnyT_mixP hs hQ rest _ _ w h6 hS h)
    · have := List.all_eq_true.1 h4 j hj
      split at this
      · rename_i oj hoj
        obtain ⟨e, he, hb⟩ := Array.any_eq_true'.1 this
        simp only [Bool.and_eq_true, beq_iff_eq] at hb
        exact ⟨oj, hoj, e, he, hb⟩
      · cases this
    · have := List.all_eq_true.1 h5 j hj
      simpa using this
  | (i, 1) :: rest, listed, a, w, hB, hS, h => by
    simp only [mixP, Bool.and_eq_true, beq_iff_eq] at hB
    refine ⟨fun h0 => (by rw [hB.1] at h0; cases h0), fun j hj => ?_⟩
    rw [hB.1] at hj
    simp only [List.mem_singleton] at hj
    subst hj
    exact wpOp_mono (fun a' w' h' => ⟨.inr h'.1, wpAnyT_mixP hs hQ rest _ a' w' hB.2 h'.1 h'.2⟩) h
  | (i, _ + 2) :: rest, listed, a, w, hB, hS, ⟨o, v, ho, hy, h⟩ => by
    simp only [mixP, Bool.and_eq_true] at hB
    obtain ⟨⟨⟨h2, h3⟩, h4⟩, h6⟩ := hB
    exact wpAnyT_look ho (Region.noSelect_spec hs) (fun c a w h => absurd h (hQ c _ w)) (by simpa using h4) (rest.length + 2) listed a w (Region.free_spec ho h3) (by simpa using h2) hy (.inr hS) (wpAnyT_mixP hs hQ rest _ _ w h6 hS h)

/-- The region, walked in one order but for its two last stores. -/
theorem wp_region_mixP {id : Nat} {a : Act} {w : World} (S : World → Prop) (p q : Nat) (l : List (Nat × Nat)) (hm : P.follows .mixedOrders = true) (hB : (Region.noSelect ops && (l.length + 2 == ops.size) && mixP .any ops p q l (Array.replicate ops.size false)) = true)
    (hS : S w.drew) (h : wpMixP P ops (QN Q) S p q l a w.drew) : (Code.region id ops true).wp P Q a w := by
  simp only [Bool.and_eq_true, beq_iff_eq] at hB
  obtain ⟨⟨h1, h2⟩, h3⟩ := hB
  refine Code.wp_mono (Q := QN Q) (fun e a w h => by cases e <;> first | exact h | exact h.elim) ?_
  refine wp_region_any hm (wpAny_of_T (S := S) (late := [p, q]) _ _ _ _ ?_)
  rw [← h2]
  exact wpAnyT_mixP h1 (fun c a w h => h) l _ a _ (by rw [h2]; exact h3) hS h

theorem mixp_see {p q i : Nat} {rest : List (Nat × Nat)} {a : Act} {w : World} {o : Oper} (ho : ops[i]? = some o)
    (h : ∀ K : Act → Prop, (∀ a', wpMixP P ops Q S p q rest a' w → K a') → if Region.wanted o (yielded ops a.tmps) = true then ∃ v, (∀ w, S w → (execOp a.eval o).run P w = .ok (.value v) w) ∧ K (a.put o.dst v) else K (a.put o.dst undef)) : wpMixP P ops Q S p q ((i, 0) :: rest) a w := by
  have := h (fun a' => wpMixP P ops Q S p q rest a' w) (fun _ h => h)
  split at this
  · rename_i hw
    obtain ⟨v, h1, h2⟩ := this
    exact ⟨o, v, ho, .inl ⟨hw, h1⟩, h2⟩
  · rename_i hw
    exact ⟨o, undef, ho, .inr ⟨by simpa using hw, rfl⟩, this⟩
theorem mixp_any {p q i : Nat} {rest : List (Nat × Nat)} {a : Act} {w : World} {o : Oper} (ho : ops[i]? = some o)
    (h : ∀ K : Act → Prop, (∀ a', wpMixP P ops Q S p q rest a' w → K a') → if Region.wanted o (yielded ops a.tmps) = true then ∃ v, (∀ w, True → (execOp a.eval o).run P w = .ok (.value v) w) ∧ K (a.put o.dst v) else K (a.put o.dst undef)) : wpMixP P ops Q S p q ((i, 2) :: rest) a w := by
  have := h (fun a' => wpMixP P ops Q S p q rest a' w) (fun _ h => h)
  split at this
  · rename_i hw
    obtain ⟨v, h1, h2⟩ := this
    exact ⟨o, v, ho, .inl ⟨hw, h1⟩, h2⟩
  · rename_i hw
    exact ⟨o, undef, ho, .inr ⟨by simpa using hw, rfl⟩, this⟩
theorem mixp_hold {p q i : Nat} {rest : List (Nat × Nat)} {a : Act} {w : World} {o : Oper} (ho : ops[i]? = some o)
    (h : ∀ K : Act → World → Prop, (∀ a' w', S w' → wpMixP P ops Q S p q rest a' w' → K a' w') → if Region.wanted o (yielded ops a.tmps) = true then o.wp P a w K Q else K (a.put o.dst undef) w) : wpMixP P ops Q S p q ((i, 1) :: rest) a w := by
  have := h (fun a' w' => S w' ∧ wpMixP P ops Q S p q rest a' w') (fun _ _ h1 h2 => ⟨h1, h2⟩)
  show wpOp P ops Q i _ a w
  unfold wpOp
  simp only [ho]
  split at this
  · rename_i hw; rw [if_pos hw]; exact .inl this
  · rename_i hw; rw [if_neg hw]; exact this
/-- One of the two last ones. -/
theorem mixp_op {i : Nat} {a : Act} {w : World} {o : Oper} {R : Act → World → Prop} (ho : ops[i]? = some o)
    (h : ∀ K : Act → World → Prop, (∀ a' w', R a' w' → K a' w') → if Region.wanted o (yielded ops a.tmps) = true then o.wp P a w K Q else K (a.put o.dst undef) w) : wpOp P ops Q i R a w := by
  have := h R (fun _ _ h => h)
  unfold wpOp
  simp only [ho]
  split at this
  · rename_i hw; rw [if_pos hw]; exact .inl this
  · rename_i hw; rw [if_neg hw]; exact this
theorem mixp_end {p q : Nat} {a : Act} {w : World} (h1 : wpOp P ops (QN Q) p (fun a w => wpOp P ops (QN Q) q (fun a w => Q .normal a w) a w) a w) (h2 : wpOp P ops (QN Q) q (fun a w => wpOp P ops (QN Q) p (fun a w => Q .normal a w) a w) a w) : wpMixP P ops (QN Q) S p q [] a w := ⟨h1, h2⟩
end
end Go.Proofs.YtbnbogdglffkmaaGreatDoor

/-! Mix3: Regions that draw their order, walked order by order; what only looks is taken first. No condition. -/
namespace Go.Proofs.YtbnbogdglffkmaaGreatDoor

section
variable {P : Program} {ops : Array Oper} {Q : Exit → Act → World → Prop} {S : World → Prop}

theorem wp_region_anyT {id : Nat} {a : Act} {w : World} (S : World → Prop) (hm : P.follows .mixedOrders = true) (h : wpAnyT P .any ops (QN Q) S [] ops.size (Array.replicate ops.size false) a w.drew) : (Code.region id ops true).wp P Q a w := by
  refine Code.wp_mono (Q := QN Q) (fun e a w h => by cases e <;> first | exact h | exact h.elim) ?_
  exact wp_region_any hm (wpAny_of_T (S := S) (late := []) _ _ _ _ h)

theorem anyT_look {fuel : Nat} {listed : Array Bool} {i : Nat} {a : Act} {w : World} {o : Oper} (ho : ops[i]? = some o) (hB : (Region.noSelect ops && (Region.ready .any ops listed).contains i && Region.free .any ops listed i) = true) (hS : S w)
    (h : ∀ K : Act → Prop, (∀ a', wpAnyT P .any ops (QN Q) S [] fuel (listed.setIfInBounds i true) a' w → K a') → if Region.wanted o (yielded ops a.tmps) = true then ∃ v, (∀ w, S w → (execOp a.eval o).run P w = .ok (.value v) w) ∧ K (a.put o.dst v) else K (a.put o.dst undef)) :
    wpAnyT P .any ops (QN Q) S [] (fuel + 1) listed a w := by
  simp only [Bool.and_eq_true] at hB
  obtain ⟨⟨h1, h2⟩, h3⟩ := hB
  have := h (fun a' => wpAnyT P .any ops (QN Q) S [] fuel (listed.setIfInBounds i true) a' w) (fun _ h => h)
  split at this
  · rename_i hw
    obtain ⟨v, h4, h5⟩ := this
    exact wpAnyT_first ho (Region.noSelect_spec h1) (fun c a w h => h.elim) (fun j hj => by cases hj) fuel listed a w (Region.free_spec ho h3) (by simpa using h2) (.inl ⟨hw, h4⟩) hS (fun j hj => by cases hj) h5
  · rename_i hw
    exact wpAnyT_first (v := undef) ho (Region.noSelect_spec h1) (fun c a w h => h.elim) (fun j hj => by cases hj) fuel listed a w (Region.free_spec ho h3) (by simpa using h2) (.inr ⟨by simpa using hw, rfl⟩) hS (fun j hj => by cases hj) this

theorem anyT_op {fuel : Nat} {listed : Array Bool} {i : Nat} {a : Act} {w : World} {o : Oper} (ho : ops[i]? = some o)
    (h : ∀ K : Act → World → Prop, (∀ a' w', S w' → wpAnyT P .any ops Q S [] fuel (listed.setIfInBounds i true) a' w' → K a' w') → if Region.wanted o (yielded ops a.tmps) = true then o.wp P a w K Q else K (a.put o.dst undef) w) :
    wpOp P ops Q i (fun a' w' => ((∃ j ∈ ([] : List Nat), (listed.setIfInBounds i true).getD j false = true) ∨ S w') ∧ wpAnyT P .any ops Q S [] fuel (listed.setIfInBounds i true) a' w') a w := by
  have := h (fun a' w' => ((∃ j ∈ ([] : List Nat), (listed.setIfInBounds i true).getD j false = true) ∨ S w') ∧ wpAnyT P .any ops Q S [] fuel (listed.setIfInBounds i true) a' w') (fun _ _ h1 h2 => ⟨.inr h1, h2⟩)
  unfold wpOp
  simp only [ho]
  split at this
  · rename_i hw; rw [if_pos hw]; exact .inl this
  · rename_i hw; rw [if_neg hw]; exact this

/-- One operation may come up. -/
theorem anyT_one {fuel : Nat} {listed : Array Bool} {i : Nat} {a : Act} {w : World} {o : Oper} (hB : Region.ready .any ops listed = [i]) (ho : ops[i]? = some o)
    (h : ∀ K : Act → World → Prop, (∀ a' w', S w' → wpAnyT P .any ops (QN Q) S [] fuel (listed.setIfInBounds i true) a' w' → K a' w') → if Region.wanted o (yielded ops a.tmps) = true then o.wp P a w K (QN Q) else K (a.put o.dst undef) w) :
    wpAnyT P .any ops (QN Q) S [] (fuel + 1) listed a w := by
  refine ⟨fun h0 => (by rw [hB] at h0; cases h0), fun k hk => ?_⟩
  rw [hB] at hk
  simp only [List.mem_singleton] at hk
  subst hk
  exact anyT_op ho h
/-- One of two may come up. -/
theorem anyT_two {fuel : Nat} {listed : Array Bool} {i j : Nat} {a : Act} {w : World} {o o' : Oper} (hB : Region.ready .any ops listed = [i, j]) (ho : ops[i]? = some o) (ho' : ops[j]? = some o')
    (h : ∀ K : Act → World → Prop, (∀ a' w', S w' → wpAnyT P .any ops (QN Q) S [] fuel (listed.setIfInBounds i true) a' w' → K a' w') → if Region.wanted o (yielded ops a.tmps) = true then o.wp P a w K (QN Q) else K (a.put o.dst undef) w)
    (h' : ∀ K : Act → World → Prop, (∀ a' w', S w' → wpAnyT P .any ops (QN Q) S [] fuel (listed.setIfInBounds j true) a' w' → K a' w') → if Region.wanted o' (yielded ops a.tmps) = true then o'.wp P a w K (QN Q) else K (a.put o'.dst undef) w) :
    wpAnyT P .any ops (QN Q) S [] (fuel + 1) listed a w := by
  refine ⟨fun h0 => (by rw [hB] at h0; cases h0), fun k hk => ?_⟩
  rw [hB] at hk
  simp only [List.mem_cons, List.not_mem_nil, or_false] at hk
  rcases hk with rfl | rfl
  · exact anyT_op ho h
  · exact anyT_op ho' h'
theorem anyT_done {listed : Array Bool} {a : Act} {w : World} (hB : Region.ready .any ops listed = []) (h : Q .normal a w) : wpAnyT P .any ops (QN Q) S [] 0 listed a w := ⟨hB, h⟩
end

/-- Cells that a store elsewhere leaves. -/
theorem seen_set {l : List (Addr × Value)} {w : World} (h : ∀ p, p ∈ l → w.cell? p.1 = some p.2) {n : Nat} (hn : ∀ p, p ∈ l → p.1.block ≠ n) (i : Nat) (x : Value) : ∀ p, p ∈ l → (w.setCell ⟨n, i, none⟩ x).cell? p.1 = some p.2 := fun p hp => by
  rw [World.cell?_setCell_other _ _ _ _ (by intro e; exact hn p hp (congrArg Addr.block e).symm)]
  exact h p hp
end Go.Proofs.YtbnbogdglffkmaaGreatDoor
