/- Several texts in one: D1, D2. -/
import Derived.Test.YtiinmlagcbjloaaGreatKAll19
import Derived.Test.YtiinmlagcbjloaaGreatKAll18

/-! D1: spec.l1Put: a term made anew with another at a place that is there. -/
namespace Go.Proofs.YtiinmlagcbjloaaGreat
open Go.RowKit Go.Deep
attribute [local go_sem ↓] Go.wp_at_zero Go.wp_at_succ

/-- A kid of a row of one's own is written over. -/
theorem own_set {w : World} {base i g C L2 : Nat} {k : Fo} (h : Own w base k (flen k) (some ⟨g, 0, none⟩) C) (hi : i < flen k) {s v : Int} {a2 : Option Addr} {c2 : Nat} {kk : Fo} (hl : Sl w L2 w.heap.size a2 kk) (hL2 : base ≤ L2) (hg2 : g < L2) :
    Sl (((w.setCell ⟨g, i * 3, none⟩ (.int .i64 s)).setCell ⟨g, i * 3 + 1, none⟩ (.int .i64 v)).setCell ⟨g, i * 3 + 2, none⟩ (.slice a2 (flen kk) c2)) base w.heap.size (some ⟨g, 0, none⟩) (fset k i (s, v, kk)) := by
  obtain ⟨xs, hown, hall⟩ := h
  obtain ⟨g', cap, hv, hb, hlt⟩ := hown.form (by omega)
  simp only [Value.slice.injEq, Option.some.injEq, Addr.mk.injEq] at hv
  obtain ⟨⟨rfl, _⟩, _, rfl⟩ := hv
  have hc := hown.cells (g := g) rfl
  have ha : ∀ n, (⟨g, 0, none⟩ : Addr).add n = ⟨g, n, none⟩ := fun n => by unfold Addr.add; split <;> simp_all
  have hcell : ∀ {i u}, xs[i]? = some u → w.cell? ⟨g, i, none⟩ = some u := fun h => by have := hc _ _ h; rwa [ha] at this
  have hsame : ∀ {L H : Nat}, (g < L ∨ H ≤ g) → Same L H w (((w.setCell ⟨g, i * 3, none⟩ (.int .i64 s)).setCell ⟨g, i * 3 + 1, none⟩ (.int .i64 v)).setCell ⟨g, i * 3 + 2, none⟩ (.slice a2 (flen kk) c2)) := fun hg =>
    ((Same.setCell (fun _ _ _ => rfl) hg _).setCell hg _).setCell hg _
  refine .inr ⟨g, 0, rfl, row_of_all _ g 0 hb hlt fun j hj => ?_⟩
  rw [flen_set] at hj
  obtain ⟨x', y', s', v', k', a', c', L, H, e, h0, h1, h2, hs, hL, hH, hg⟩ := hall j hj
  by_cases hij : i = j
  · subst hij
    obtain ⟨b', o', e'⟩ := fset_at k i (s, v, kk) hj
    refine ⟨b', o', s, v, kk, a2, c2, e', ?_, ?_, ?_, (hl.same (hsame (.inl hg2))).mono hL2 (Nat.le_refl _)⟩
    · rw [World.cell?_setCell_other _ _ _ _ (ne_off (by omega)), World.cell?_setCell_other _ _ _ _ (ne_off (by omega)), Nat.zero_add]
      exact World.cell?_setCell_same _ _ _ (hcell h0)
    · rw [World.cell?_setCell_other _ _ _ _ (ne_off (by omega)), Nat.zero_add]
      refine World.cell?_setCell_same _ _ _ (u := .int .i64 v') ?_
      rw [World.cell?_setCell_other _ _ _ _ (ne_off (by omega))]
      exact hcell h1
    · rw [Nat.zero_add]
      refine World.cell?_setCell_same _ _ _ (u := .slice a' (flen k') c') ?_
      rw [World.cell?_setCell_other _ _ _ _ (ne_off (by omega)), World.cell?_setCell_other _ _ _ _ (ne_off (by omega))]
      exact hcell h2
  · obtain ⟨r', e'⟩ := fset_far k i j (s, v, kk) hij e
    obtain ⟨x2, y2, s2, v2, k2, e2⟩ := fdrop_succ j (fset k i (s, v, kk)) (by rw [flen_set]; exact hj)
    rw [e'] at e2
    simp only [BT.node.injEq, Prod.mk.injEq] at e2
    obtain ⟨rfl, rfl, ⟨rfl, rfl⟩, rfl, hr'⟩ := e2
    refine ⟨x', y', s', v', k', a', c', by rw [e', hr'], ?_, ?_, ?_, (hs.same (hsame (hg g rfl))).mono hL hH⟩
    · rw [World.cell?_setCell_other _ _ _ _ (ne_off (by omega)), World.cell?_setCell_other _ _ _ _ (ne_off (by omega)), World.cell?_setCell_other _ _ _ _ (ne_off (by omega)), Nat.zero_add]
      exact hcell h0
    · rw [World.cell?_setCell_other _ _ _ _ (ne_off (by omega)), World.cell?_setCell_other _ _ _ _ (ne_off (by omega)), World.cell?_setCell_other _ _ _ _ (ne_off (by omega)), Nat.zero_add]
      exact hcell h1
    · rw [World.cell?_setCell_other _ _ _ _ (ne_off (by omega)), World.cell?_setCell_other _ _ _ _ (ne_off (by omega)), World.cell?_setCell_other _ _ _ _ (ne_off (by omega)), Nat.zero_add]
      exact hcell h2
/-- The cells of a kid of a row of one's own. -/
theorem own_nth {w : World} {base i C : Nat} {k : Fo} {A : Option Addr} (h : Own w base k (flen k) A C) (hi : i < flen k) :
    ∃ g, A = some ⟨g, 0, none⟩ ∧ base ≤ g ∧ g < w.heap.size ∧ (∃ u, w.cell? ⟨g, i * 3, none⟩ = some u) ∧ (∃ u, w.cell? ⟨g, i * 3 + 1, none⟩ = some u) ∧ (∃ u, w.cell? ⟨g, i * 3 + 2, none⟩ = some u) ∧ ∀ j, w.frozen? ⟨g, j, none⟩ = false := by
  obtain ⟨xs, hown, hall⟩ := h
  obtain ⟨g, cap, hv, hb, hlt⟩ := hown.form (by omega)
  simp only [Value.slice.injEq] at hv
  obtain ⟨rfl, _, rfl⟩ := hv
  have hc := hown.cells (g := g) rfl
  have ha : ∀ n, (⟨g, 0, none⟩ : Addr).add n = ⟨g, n, none⟩ := fun n => by unfold Addr.add; split <;> simp_all
  have hcell : ∀ {i u}, xs[i]? = some u → w.cell? ⟨g, i, none⟩ = some u := fun h => by have := hc _ _ h; rwa [ha] at this
  obtain ⟨x', y', s', v', k', a', c', L, H, e, h0, h1, h2, hs, hL, hH, hg⟩ := hall i hi
  have hfz : ∀ i, w.frozen? ⟨g, i, none⟩ = false := fun i => by
    rcases hown.2 with ⟨h, _⟩ | ⟨g', cap', cur, h3, h4, h5, h6⟩
    · simp at h
    · simp only [Value.slice.injEq, Option.some.injEq, Addr.mk.injEq] at h3
      obtain ⟨⟨rfl, _⟩, _⟩ := h3
      simp [World.frozen?, h5]
  exact ⟨g, rfl, hb, hlt, ⟨_, hcell h0⟩, ⟨_, hcell h1⟩, ⟨_, hcell h2⟩, hfz⟩

def LputPost (s' v' : Int) (k' : Fo) (w : World) (e : Ending) (w' : World) : Prop :=
  ∃ a c, e = .returned (.agg #[.int .i64 s', .int .i64 v', .slice a (flen k') c]) ∧ Below w.heap.size w w' ∧ Sl w' w.heap.size w'.heap.size a k'

theorem lput_end {w w1 : World} {s' v' : Int} {k' : Fo} {a : Option Addr} {c : Nat} (hb : Below w.heap.size w w1) (hl : Sl w1 (w.heap.size + 3) w1.heap.size a k') (p q r : Value) :
    LputPost s' v' k' w (.returned (.agg #[.int .i64 s', .int .i64 v', .slice a (flen k') c])) (((w1.setCell ⟨w.heap.size + 1 + 1, 0, none⟩ p).setCell ⟨w.heap.size + 1 + 1, 1, none⟩ q).setCell ⟨w.heap.size + 1 + 1, 2, none⟩ r) := by
  refine ⟨a, c, rfl, ((hb.setCell (by simp; omega) _).setCell (by simp; omega) _).setCell (by simp; omega) _, ?_⟩
  have hs : Same (w.heap.size + 3) w1.heap.size w1 (((w1.setCell ⟨w.heap.size + 1 + 1, 0, none⟩ p).setCell ⟨w.heap.size + 1 + 1, 1, none⟩ q).setCell ⟨w.heap.size + 1 + 1, 2, none⟩ r) :=
    (((Same.setCell (fun _ _ _ => rfl) (.inl (by simp)) _).setCell (.inl (by simp)) _).setCell (.inl (by simp)) _)
  exact (hl.same hs).mono (by omega) (by simp)

set_option maxRecDepth 100000 in
set_option maxHeartbeats 1000000 in
theorem l1Put_any (s2 v2 : Int) (a2 : Option Addr) (c2 : Nat) (k2 : Fo) (hk2 : fsz k2 ≤ 1000) : ∀ (place : List Int) (s v : Int) (a : Option Addr) (c : Nat) (k : Fo) (pA : Option Addr) (pC : Nat) (s' v' : Int) (k' : Fo) (w : World), Sl w 0 w.heap.size a k → ISc w 0 w.heap.size pA pC place → place.length ≤ 1048576 → Sl w 0 w.heap.size a2 k2 → fsz k ≤ 1000 → fput s v k place (s2, v2, k2) = some (s', v', k') →
    Calls Tryz.prog 34 #[.agg #[.int .i64 s, .int .i64 v, .slice a (flen k) c], .slice pA place.length pC, .agg #[.int .i64 s2, .int .i64 v2, .slice a2 (flen k2) c2]] w (LputPost s' v' k' w) := by
  intro place
  induction place with
  | nil =>
    intro s v a c k pA pC s' v' k' w hl hp hpl hl2 hsz hf
    simp only [fput, Option.some.injEq, Prod.mk.injEq] at hf
    obtain ⟨rfl, rfl, rfl⟩ := hf
    have hb0 : Below w.heap.size w (((w.alloc (.cells #[.int .i64 s, .int .i64 v, .slice a (flen k) c] 26)).alloc (.cells #[.int .i64 s2, .int .i64 v2, .slice a2 (flen k2) c2] 26)).alloc (.cells #[.int .i64 0, .int .i64 0, .slice none 0 0] 26)) := (((Below.refl _ _).alloc (Nat.le_refl _) _).alloc (by simp) _).alloc (by simp; omega) _
    have HB0 := Lib.hid hb0
    have HL2 := Lib.hid ((hl2.below hb0).mono (Nat.le_refl _) hb0.size)
    clear hb0 hl hl2 hp
    go_enter Tryz.func34, Tryz.ntmps34
    go_wp2_with fail
    with_reducible refine (l1Copy_any (fsz k2) s2 v2 a2 c2 k2 _ HL2.out (Nat.le_refl _) (by omega)).mono ?_
    rintro e w4 ⟨a4, c4, rfl, hb4, hown4⟩
    have hs4 := hb4.size
    simp at hs4
    obtain ⟨hr0, hr1, hr2, hq0, hq1, hq2⟩ := put_cells (hb4.mono (show w.heap.size + 3 ≤ _ by simp))
    have HB4 := Lib.hid (HB0.out.trans (hb4.mono HB0.out.size))
    have HL4 := Lib.hid (hown4.sl.mono (lo' := w.heap.size + 3) (by simp) (Nat.le_refl _))
    clear hb4 hown4
    go_wp2_with fail
    refine bodyPost_ret (v := .agg #[.int .i64 s2, .int .i64 v2, .slice a4 (flen k2) c4]) ?_ rfl (lput_end HB4.out HL4.out _ _ _)
    simp [results, Tryz.results34, go_sem, hr0, hr1, hr2]
  | cons i ps ih =>
    intro s v a c k pA pC s' v' k' w hl hp hpl hl2 hsz hf
    have IH := Lib.hid ih
    obtain ⟨n, x0, y0, s1, v1, kk, ⟨y1, y2, y3⟩, rfl, hn, hd, hy, e⟩ := fput_cons hf
    simp only [Prod.mk.injEq] at e
    obtain ⟨rfl, rfl, rfl⟩ := e
    clear ih hf
    obtain ⟨b, o, rfl, _, hbB, hc⟩ := isl_get hp.1 (show 0 < ((n : Int) :: ps).length by simp)
    simp only [List.getElem_cons_zero, Nat.add_zero] at hc
    obtain ⟨bk, ok, rfl⟩ : ∃ bk ok, a = some ⟨bk, ok, none⟩ := by
      rcases hl with rfl | ⟨b, o, rfl, _⟩
      · simp [flen] at hn
      · exact ⟨_, _, rfl⟩
    have hrow : Row w 0 w.heap.size k bk ok := by
      rcases hl with rfl | ⟨b, o, e, h⟩
      · simp [flen] at hn
      · cases e; exact h
    obtain ⟨s3, v3, kk3, a3, c3, ⟨xa, ya, hd3⟩, _, hbB2, hk0, hk1, hk2', hsl3⟩ := row_at hrow hn
    rw [hd] at hd3
    simp only [BT.node.injEq, Prod.mk.injEq] at hd3
    obtain ⟨_, _, ⟨rfl, rfl⟩, rfl, _⟩ := hd3
    have hkk := fsz_kid hd
    have hfl := flen_le_sz k
    have hb0 : Below w.heap.size w (((w.alloc (.cells #[.int .i64 s', .int .i64 v', .slice (some ⟨bk, ok, none⟩) (flen k) c] 26)).alloc (.cells #[.int .i64 s2, .int .i64 v2, .slice a2 (flen k2) c2] 26)).alloc (.cells #[.int .i64 0, .int .i64 0, .slice none 0 0] 26)) := (((Below.refl _ _).alloc (Nat.le_refl _) _).alloc (by simp) _).alloc (by simp; omega) _
    have HB0 := Lib.hid hb0
    have HL := Lib.hid ((hl.below hb0).mono (Nat.le_refl _) hb0.size)
    have HL2 := Lib.hid hl2
    have HSL3 := Lib.hid hsl3
    have HP := Lib.hid hp
    have HY := Lib.hid hy
    simp only [List.length_cons] at hpl ⊢
    clear hb0 hl hl2 hrow hsl3 hd hp hy
    go_enter Tryz.func34, Tryz.ntmps34
    go_wp2_with fail
    with_reducible refine (l1Copy_any (fsz k) s' v' _ c k _ HL.out (Nat.le_refl _) (by omega)).mono ?_
    rintro e w4 ⟨a4, c4, rfl, hb4, hown4⟩
    have hs4 := hb4.size
    simp at hs4
    obtain ⟨g, rfl, hbg, hgl, ⟨u0, hg0⟩, ⟨u1, hg1⟩, ⟨u2, hg2⟩, hfz⟩ := own_nth hown4 hn
    simp at hbg
    have hb5 : Below w4.heap.size w4 (w4.alloc (.cells #[.int .i64 s', .int .i64 v', .slice (some ⟨g, 0, none⟩) (flen k) c4] 26)) := (Below.refl _ _).alloc (Nat.le_refl _) _
    have hb5' : Below (w.heap.size + 3) (((w.alloc (.cells #[.int .i64 s', .int .i64 v', .slice (some ⟨bk, ok, none⟩) (flen k) c] 26)).alloc (.cells #[.int .i64 s2, .int .i64 v2, .slice a2 (flen k2) c2] 26)).alloc (.cells #[.int .i64 0, .int .i64 0, .slice none 0 0] 26)) (w4.alloc (.cells #[.int .i64 s', .int .i64 v', .slice (some ⟨g, 0, none⟩) (flen k) c4] 26)) := (hb4.mono (by simp)).trans (hb5.mono (by omega))
    obtain ⟨hx0, hx1, hx2⟩ := put_box hb5'
    have hx3 : (w4.alloc (.cells #[.int .i64 s', .int .i64 v', .slice (some ⟨g, 0, none⟩) (flen k) c4] 26)).cell? ⟨w.heap.size, 2, none⟩ = some (.slice (some ⟨bk, ok, none⟩) (flen k) c) := by
      rw [hb5'.cell (by simp), World.cell?_alloc_lt _ _ _ (by first | (simp; done) | (simp; omega)), World.cell?_alloc_lt _ _ _ (by simp), World.cell?_alloc_at _ _ _ _ (by simp)]; rfl
    have hx4 : (w4.alloc (.cells #[.int .i64 s', .int .i64 v', .slice (some ⟨g, 0, none⟩) (flen k) c4] 26)).cell? ⟨w4.heap.size, 2, none⟩ = some (.slice (some ⟨g, 0, none⟩) (flen k) c4) := by rw [World.cell?_alloc_at _ _ _ _ (by simp)]; rfl
    have hbw5 := HB0.out.trans ((hb4.mono HB0.out.size).trans (hb5.mono (by omega)))
    have hx5 := cell_low hbw5 hc
    have hx6 := cell_low hbw5 hk0
    have hx7 := cell_low hbw5 hk1
    have hx8 := cell_low hbw5 hk2'
    obtain ⟨A', hcut, hcutI⟩ := cut_from (pA := some ⟨b, o, none⟩) (pC := pC) (n := 1) (place := (n : Int) :: ps) (by simp) HP.out.2
    have hsl : ∀ w : World, (Instr.slice 23 (.slice (some ⟨b, o, none⟩) (ps.length + 1) pC) (some (.int .i64 1)) none none).run Tryz.prog w = .ok (.slice A' ps.length (pC - 1)) w := fun w => hcut w
    have hs5 : w4.heap.size + 1 ≤ (w4.alloc (.cells #[.int .i64 s', .int .i64 v', .slice (some ⟨g, 0, none⟩) (flen k) c4] 26)).heap.size := by simp
    have HPC : Hid (ISc (w4.alloc (.cells #[.int .i64 s', .int .i64 v', .slice (some ⟨g, 0, none⟩) (flen k) c4] 26)).drew 0 (w4.alloc (.cells #[.int .i64 s', .int .i64 v', .slice (some ⟨g, 0, none⟩) (flen k) c4] 26)).drew.heap.size A' (pC - 1) ps) := ((hcutI HP.out.1).same (Same.of_below hbw5.drew)).mono (Nat.le_refl _) hbw5.size
    have HSL5 : Hid (Sl (w4.alloc (.cells #[.int .i64 s', .int .i64 v', .slice (some ⟨g, 0, none⟩) (flen k) c4] 26)).drew 0 (w4.alloc (.cells #[.int .i64 s', .int .i64 v', .slice (some ⟨g, 0, none⟩) (flen k) c4] 26)).drew.heap.size a3 kk) := (HSL3.out.below hbw5.drew).mono (Nat.le_refl _) hbw5.size
    have HL25 : Hid (Sl (w4.alloc (.cells #[.int .i64 s', .int .i64 v', .slice (some ⟨g, 0, none⟩) (flen k) c4] 26)).drew 0 (w4.alloc (.cells #[.int .i64 s', .int .i64 v', .slice (some ⟨g, 0, none⟩) (flen k) c4] 26)).drew.heap.size a2 k2) := (HL2.out.below hbw5.drew).mono (Nat.le_refl _) hbw5.size
    have HB4 := Lib.hid hb4
    have HB5' := Lib.hid hb5'
    have HBW5 := Lib.hid hbw5
    have HOWN4 := Lib.hid hown4
    have HFZ := Lib.hid hfz
    have HG0 := Lib.hid hg0
    have HG1 := Lib.hid hg1
    have HG2 := Lib.hid hg2
    clear hcut hcutI hb4 hb5 hb5' hbw5 hown4 hfz hg0 hg1 hg2 hc hk0 hk1 hk2'
    have hu0 : ∀ u : After (w4.alloc (.cells #[.int .i64 s', .int .i64 v', .slice (some ⟨g, 0, none⟩) (flen k) c4] 26)).heap.size (w4.alloc (.cells #[.int .i64 s', .int .i64 v', .slice (some ⟨g, 0, none⟩) (flen k) c4] 26)), u.world.cell? ⟨w4.heap.size, 2, none⟩ = some (.slice (some ⟨g, 0, none⟩) (flen k) c4) := fun u => u.cell (by simp) hx4
    have hu1 : ∀ u : After (w4.alloc (.cells #[.int .i64 s', .int .i64 v', .slice (some ⟨g, 0, none⟩) (flen k) c4] 26)).heap.size (w4.alloc (.cells #[.int .i64 s', .int .i64 v', .slice (some ⟨g, 0, none⟩) (flen k) c4] 26)), u.world.cell? ⟨b, o, none⟩ = some (.int .i64 (n : Int)) := fun u => u.cell (by simp; omega) hx5
    have hu2 : ∀ u : After (w4.alloc (.cells #[.int .i64 s', .int .i64 v', .slice (some ⟨g, 0, none⟩) (flen k) c4] 26)).heap.size (w4.alloc (.cells #[.int .i64 s', .int .i64 v', .slice (some ⟨g, 0, none⟩) (flen k) c4] 26)), u.world.cell? ⟨w.heap.size, 2, none⟩ = some (.slice (some ⟨bk, ok, none⟩) (flen k) c) := fun u => u.cell (by simp; omega) hx3
    have hu3 : ∀ u : After (w4.alloc (.cells #[.int .i64 s', .int .i64 v', .slice (some ⟨g, 0, none⟩) (flen k) c4] 26)).heap.size (w4.alloc (.cells #[.int .i64 s', .int .i64 v', .slice (some ⟨g, 0, none⟩) (flen k) c4] 26)), u.world.cell? ⟨bk, ok + n * 3, none⟩ = some (.int .i64 s1) := fun u => u.cell (by simp; omega) hx6
    have hu4 : ∀ u : After (w4.alloc (.cells #[.int .i64 s', .int .i64 v', .slice (some ⟨g, 0, none⟩) (flen k) c4] 26)).heap.size (w4.alloc (.cells #[.int .i64 s', .int .i64 v', .slice (some ⟨g, 0, none⟩) (flen k) c4] 26)), u.world.cell? ⟨bk, ok + n * 3 + 1, none⟩ = some (.int .i64 v1) := fun u => u.cell (by simp; omega) hx7
    have hu5 : ∀ u : After (w4.alloc (.cells #[.int .i64 s', .int .i64 v', .slice (some ⟨g, 0, none⟩) (flen k) c4] 26)).heap.size (w4.alloc (.cells #[.int .i64 s', .int .i64 v', .slice (some ⟨g, 0, none⟩) (flen k) c4] 26)), u.world.cell? ⟨bk, ok + n * 3 + 2, none⟩ = some (.slice a3 (flen kk) c3) := fun u => u.cell (by simp; omega) hx8
    have hu6 : ∀ u : After (w4.alloc (.cells #[.int .i64 s', .int .i64 v', .slice (some ⟨g, 0, none⟩) (flen k) c4] 26)).heap.size (w4.alloc (.cells #[.int .i64 s', .int .i64 v', .slice (some ⟨g, 0, none⟩) (flen k) c4] 26)), u.world.cell? ⟨w.heap.size + 1, 0, none⟩ = some (.int .i64 s2) := fun u => u.cell (by simp; omega) hx0
    have hu7 : ∀ u : After (w4.alloc (.cells #[.int .i64 s', .int .i64 v', .slice (some ⟨g, 0, none⟩) (flen k) c4] 26)).heap.size (w4.alloc (.cells #[.int .i64 s', .int .i64 v', .slice (some ⟨g, 0, none⟩) (flen k) c4] 26)), u.world.cell? ⟨w.heap.size + 1, 1, none⟩ = some (.int .i64 v2) := fun u => u.cell (by simp; omega) hx1
    have hu8 : ∀ u : After (w4.alloc (.cells #[.int .i64 s', .int .i64 v', .slice (some ⟨g, 0, none⟩) (flen k) c4] 26)).heap.size (w4.alloc (.cells #[.int .i64 s', .int .i64 v', .slice (some ⟨g, 0, none⟩) (flen k) c4] 26)), u.world.cell? ⟨w.heap.size + 1, 2, none⟩ = some (.slice a2 (flen k2) c2) := fun u => u.cell (by simp; omega) hx2
    have g1 : (0 : Int) ≤ (n : Int) := by omega
    have g2 : (n : Int) < (flen k : Int) := by omega
    go_wp2_with fail
    clear hx0 hx1 hx2 hx3 hx4 hx5 hx6 hx7 hx8
    refine wp_region_mix (fun w' => ∃ u : After (w4.alloc (.cells #[.int .i64 s', .int .i64 v', .slice (some ⟨g, 0, none⟩) (flen k) c4] 26)).heap.size (w4.alloc (.cells #[.int .i64 s', .int .i64 v', .slice (some ⟨g, 0, none⟩) (flen k) c4] 26)), w' = u.world) [17] [(0, 0), (1, 0), (2, 0), (3, 0), (4, 0), (5, 0), (6, 0), (7, 0), (8, 0), (9, 0), (10, 0), (11, 0), (12, 0), (13, 0), (14, 0), (15, 1), (16, 1), (17, 2)] (by kernel_rfl) (by kernel_rfl) ⟨⟨_, (Below.refl _ _).drew⟩, rfl⟩ ?_
    iterate 15
      refine mix_see rfl (fun K hK => ?_)
      go_simp
      refine hK _ ?_
      clear hK K
    clear hu0 hu1 hu2 hu3 hu4 hu5 hu6 hu7 hu8
    refine mix_hold rfl (fun K hK => ?_)
    go_simp
    with_reducible refine (IH.out s1 v1 a3 c3 kk A' (pC - 1) y1 y2 y3 _ HSL5.out HPC.out (by omega) HL25.out (by omega) HY.out).mono ?_
    rintro e w6 ⟨a6, c6, rfl, hb6, hl6⟩
    have hb6' := bl_undrew hb6
    have hs6 := hb6'.size
    have hb46 : Below w4.heap.size w4 w6 := ((Below.refl _ _).alloc (Nat.le_refl _) _).trans (hb6'.mono (by simp))
    have hg0 := cell_low hb46 HG0.out
    have hg1 := cell_low hb46 HG1.out
    have hg2 := cell_low hb46 HG2.out
    have hf0 : w6.frozen? ⟨g, n * 3, none⟩ = false := by rw [hb46.frozen (by simpa using hgl)]; exact HFZ.out _
    have hf1 : w6.frozen? ⟨g, n * 3 + 1, none⟩ = false := by rw [hb46.frozen (by simpa using hgl)]; exact HFZ.out _
    have hf2 : w6.frozen? ⟨g, n * 3 + 2, none⟩ = false := by rw [hb46.frozen (by simpa using hgl)]; exact HFZ.out _
    have hl6' : Sl w6 (w4.heap.size + 1) w6.heap.size a6 y3 := hl6.mono (by simp) (Nat.le_refl _)
    have HSET : Hid (Sl (((w6.setCell ⟨g, n * 3, none⟩ (.int .i64 y1)).setCell ⟨g, n * 3 + 1, none⟩ (.int .i64 y2)).setCell ⟨g, n * 3 + 2, none⟩ (.slice a6 (flen y3) c6)) (w.heap.size + 3) w6.heap.size (some ⟨g, 0, none⟩) (fset k n (y1, y2, y3))) := own_set (HOWN4.out.low hb46 (by simp)) hn hl6' (by omega) (by omega)
    have hb7 : Below (w.heap.size + 3) (((w.alloc (.cells #[.int .i64 s', .int .i64 v', .slice (some ⟨bk, ok, none⟩) (flen k) c] 26)).alloc (.cells #[.int .i64 s2, .int .i64 v2, .slice a2 (flen k2) c2] 26)).alloc (.cells #[.int .i64 0, .int .i64 0, .slice none 0 0] 26)) (((w6.setCell ⟨g, n * 3, none⟩ (.int .i64 y1)).setCell ⟨g, n * 3 + 1, none⟩ (.int .i64 y2)).setCell ⟨g, n * 3 + 2, none⟩ (.slice a6 (flen y3) c6)) := (((HB5'.out.trans (hb6'.mono (by simp; omega))).setCell (by simp; omega) _).setCell (by simp; omega) _).setCell (by simp; omega) _
    have HB7 := Lib.hid hb7
    have HE7 : Hid (∀ j z, (w4.alloc (.cells #[.int .i64 s', .int .i64 v', .slice (some ⟨g, 0, none⟩) (flen k) c4] 26)).cell? ⟨w4.heap.size, j, none⟩ = some z → (((w6.setCell ⟨g, n * 3, none⟩ (.int .i64 y1)).setCell ⟨g, n * 3 + 1, none⟩ (.int .i64 y2)).setCell ⟨g, n * 3 + 2, none⟩ (.slice a6 (flen y3) c6)).cell? ⟨w4.heap.size, j, none⟩ = some z) := fun j z hz => by
      rw [World.cell?_setCell_other _ _ _ _ (by intro h; have := congrArg Addr.block h; simp at this; omega), World.cell?_setCell_other _ _ _ _ (by intro h; have := congrArg Addr.block h; simp at this; omega), World.cell?_setCell_other _ _ _ _ (by intro h; have := congrArg Addr.block h; simp at this; omega)]
      exact cell_low hb6' hz
    refine hK _ _ ⟨⟨_, hb6'⟩, rfl⟩ ?_
    clear hK K hb6 hl6 hl6' hb46 hb7
    refine mix_hold rfl (fun K hK => ?_)
    go_simp
    refine hK _ _ ⟨⟨_, hb6'⟩, rfl⟩ ?_
    clear hK K hb6'
    refine mix_late rfl (fun K hK => ?_)
    go_simp
    refine hK _ _ ?_
    clear hK K
    refine mix_end ?_
    clear hg0 hg1 hg2 hf0 hf1 hf2
    obtain ⟨hr0, hr1, hr2, hq0, hq1, hq2⟩ := put_cells HB7.out
    have ho0 := HE7.out 0 (.int .i64 s') (by rw [World.cell?_alloc_at _ _ _ _ (by simp)]; rfl)
    have ho1 := HE7.out 1 (.int .i64 v') (by rw [World.cell?_alloc_at _ _ _ _ (by simp)]; rfl)
    have ho2 := HE7.out 2 (.slice (some ⟨g, 0, none⟩) (flen k) c4) (by rw [World.cell?_alloc_at _ _ _ _ (by simp)]; rfl)
    have HEND := Lib.hid (fun p q r => lput_end (s' := s') (v' := v') (k' := fset k n (y1, y2, y3)) (c := c4) (HB0.out.trans (HB7.out.mono (by simp))) (HSET.out.mono (Nat.le_refl _) (by simp)) p q r)
    go_wp2_with fail
    refine bodyPost_ret (v := .agg #[.int .i64 s', .int .i64 v', .slice (some ⟨g, 0, none⟩) (flen k) c4]) ?_ rfl ?_
    · simp [results, Tryz.results34, go_sem, hr0, hr1, hr2]
    · have := HEND.out (.int .i64 s') (.int .i64 v') (.slice (some ⟨g, 0, none⟩) (flen k) c4)
      rw [flen_set] at this
      exact this
end Go.Proofs.YtiinmlagcbjloaaGreat

/-! D2: spec.TermPut. -/
namespace Go.Proofs.YtiinmlagcbjloaaGreat
open Go.RowKit Go.Deep
attribute [local go_sem ↓] Go.wp_at_zero Go.wp_at_succ

/-- The cells of the first box of three. -/
theorem put_box0 {w w1 : World} {o Z : Obj} {x y z : Value} (hb : Below (w.heap.size + 3) (((w.alloc (.cells #[x, y, z] 26)).alloc o).alloc Z) w1) :
    w1.cell? ⟨w.heap.size, 0, none⟩ = some x ∧ w1.cell? ⟨w.heap.size, 1, none⟩ = some y ∧ w1.cell? ⟨w.heap.size, 2, none⟩ = some z := by
  refine ⟨?_, ?_, ?_⟩
  · rw [hb.cell (by simp), World.cell?_alloc_lt _ _ _ (by first | (simp; done) | (simp; omega)), World.cell?_alloc_lt _ _ _ (by simp), World.cell?_alloc_at _ _ _ _ (by simp)]; rfl
  · rw [hb.cell (by simp), World.cell?_alloc_lt _ _ _ (by first | (simp; done) | (simp; omega)), World.cell?_alloc_lt _ _ _ (by simp), World.cell?_alloc_at _ _ _ _ (by simp)]; rfl
  · rw [hb.cell (by simp), World.cell?_alloc_lt _ _ _ (by first | (simp; done) | (simp; omega)), World.cell?_alloc_lt _ _ _ (by simp), World.cell?_alloc_at _ _ _ _ (by simp)]; rfl

set_option maxRecDepth 100000 in
set_option maxHeartbeats 1000000 in
theorem sTermPut_any (s v : Int) (a : Option Addr) (c : Nat) (k : Fo) (pA : Option Addr) (pC : Nat) (place : List Int) (s2 v2 : Int) (a2 : Option Addr) (c2 : Nat) (k2 : Fo) (w : World) (hl : Sl w 0 w.heap.size a k) (hp : ISc w 0 w.heap.size pA pC place) (hpl : place.length ≤ 1048576) (hl2 : Sl w 0 w.heap.size a2 k2) :
    Calls Tryz.prog 17 #[.agg #[.int .i64 s, .int .i64 v, .slice a (flen k) c], .slice pA place.length pC, .agg #[.int .i64 s2, .int .i64 v2, .slice a2 (flen k2) c2]] w (PutPost s v k place (s2, v2, k2) w) := by
  have HL := Lib.hid hl
  have HL2 := Lib.hid hl2
  have HP := Lib.hid hp
  clear hl hl2 hp
  have hb0 : Below w.heap.size w (((w.alloc (.cells #[.int .i64 s, .int .i64 v, .slice a (flen k) c] 26)).alloc (.cells #[.int .i64 s2, .int .i64 v2, .slice a2 (flen k2) c2] 26)).alloc (.cells #[.int .i64 0, .int .i64 0, .slice none 0 0] 26)) := (((Below.refl _ _).alloc (Nat.le_refl _) _).alloc (by simp) _).alloc (by simp; omega) _
  have HB0 := Lib.hid hb0
  clear hb0
  go_enter Tryz.func17, Tryz.ntmps17
  go_wp2_with fail
  with_reducible refine (sTermOk_any s v a c k _ ?_).mono ?_
  · exact (HL.out.below HB0.out).mono (Nat.le_refl _) HB0.out.size
  rintro e w2 ⟨rfl, hb⟩
  have hs2 := hb.size
  simp at hs2
  have hb' := hb.mono (show w.heap.size + 3 ≤ _ by simp)
  obtain ⟨hc0, hc1, hc2⟩ := put_box hb'
  obtain ⟨hr0, hr1, hr2, hq0, hq1, hq2⟩ := put_cells hb'
  have HB2' := Lib.hid hb'
  have HB2 := Lib.hid (HB0.out.trans (hb.mono HB0.out.size))
  clear hb hb'
  cases hok : okW s v k 16 with
  | false =>
    have HR : Hid (putR s v k place (s2, v2, k2) = (0, 0, .nil, false)) := by unfold Hid putR; rw [hok]; simp
    clear hok
    go_wp2_with fail
    refine bodyPost_ret (v := .tuple #[.agg #[.int .i64 0, .int .i64 0, .slice none 0 0], .bool false]) ?_ rfl (put_end (k' := .nil) HR.out HB2.out (.inl rfl) _ _ _)
    simp [results, Tryz.results17, go_sem, hr0, hr1, hr2]
  | true =>
    have HOK := Lib.hid hok
    have hsz := ((okW_iff _ _ _ _).1 hok).2.2
    clear hok hr0 hr1 hr2 hq0 hq1 hq2
    go_wp2_with fail
    with_reducible refine (sTermOk_any s2 v2 a2 c2 k2 _ ?_).mono ?_
    · exact (HL2.out.below HB2.out).mono (Nat.le_refl _) HB2.out.size
    rintro e w3 ⟨rfl, hb3⟩
    have hs3 := hb3.size
    have hb3' := HB2'.out.trans (hb3.mono (show w.heap.size + 3 ≤ _ by omega))
    obtain ⟨hr0, hr1, hr2, hq0, hq1, hq2⟩ := put_cells hb3'
    have HB3' := Lib.hid hb3'
    have HB3 := Lib.hid (HB2.out.trans (hb3.mono (by omega)))
    clear hb3 hc0 hc1 hc2
    cases hok2 : okW s2 v2 k2 16 with
    | false =>
      have HR : Hid (putR s v k place (s2, v2, k2) = (0, 0, .nil, false)) := by unfold Hid putR; simp [hok2]
      clear hok2 hb3'
      go_wp2_with fail
      refine bodyPost_ret (v := .tuple #[.agg #[.int .i64 0, .int .i64 0, .slice none 0 0], .bool false]) ?_ rfl (put_end (k' := .nil) HR.out HB3.out (.inl rfl) _ _ _)
      simp [results, Tryz.results17, go_sem, hr0, hr1, hr2]
    | true =>
      have HOK2 := Lib.hid hok2
      have hsz2 := ((okW_iff _ _ _ _).1 hok2).2.2
      obtain ⟨hd0, hd1, hd2⟩ := put_box0 hb3'
      clear hok2 hr0 hr1 hr2 hq0 hq1 hq2 hb3'
      have HL3 := Lib.hid ((HL.out.below HB3.out).mono (lo' := 0) (Nat.le_refl _) HB3.out.size)
      have HP3 := Lib.hid ((HP.out.same (Same.of_below HB3.out)).mono (lo' := 0) (Nat.le_refl _) HB3.out.size)
      have HP3i := Lib.hid HP3.out.1
      go_wp2_with fail
      with_reducible refine (l1At_any s v a c k pA pC place _ HL3.out HP3i.out hpl (by omega)).mono ?_
      rintro e w4 ⟨hb4, hcase⟩
      have hs4 := hb4.size
      have HB4' := Lib.hid (HB3'.out.trans (hb4.mono (by omega)))
      have HB4 := Lib.hid (HB3.out.trans (hb4.mono (by omega)))
      clear hb4 hd0 hd1 hd2
      rcases hcase with ⟨s4, v4, k4, a4, c4, hf, rfl, _⟩ | ⟨hf, rfl⟩
      · have hth := fput_there place s v k (s2, v2, k2)
        rw [hf] at hth
        obtain ⟨⟨s', v', k'⟩, hput⟩ := Option.isSome_iff_exists.1 hth
        have h1 := (okW_iff _ _ _ _).1 HOK.out
        have h2 := (okW_iff _ _ _ _).1 HOK2.out
        have hfo := fput_ok place s v k _ h1.1 h1.2.1 h2.1 h2.2.1 hput
        have hfs := fput_sz place s v k _ hput hf
        dsimp only at hfs
        have hb5 := HB4'.out.alloc (by omega) (.cells #[.int .i64 s4, .int .i64 v4, .slice a4 (flen k4) c4] 26)
        obtain ⟨hd0, hd1, hd2⟩ := put_box0 hb5
        obtain ⟨hc0, hc1, hc2⟩ := put_box hb5
        have HB5' := Lib.hid hb5
        have HB5 := Lib.hid (HB4.out.alloc HB4.out.size (.cells #[.int .i64 s4, .int .i64 v4, .slice a4 (flen k4) c4] 26))
        have HPUT := Lib.hid hput
        have HFO := Lib.hid hfo
        clear hth h1 h2 hf hb5 hput hfo
        have HL5 := Lib.hid ((HL.out.below HB5.out).mono (lo' := 0) (Nat.le_refl _) HB5.out.size)
        have HM5 := Lib.hid ((HL2.out.below HB5.out).mono (lo' := 0) (Nat.le_refl _) HB5.out.size)
        have HP5 := Lib.hid ((HP.out.same (Same.of_below HB5.out)).mono (lo' := 0) (Nat.le_refl _) HB5.out.size)
        go_wp2_with fail
        with_reducible refine (l1Put_any s2 v2 a2 c2 k2 (by omega) place s v a c k pA pC s' v' k' _ HL5.out HP5.out hpl HM5.out (by omega) HPUT.out).mono ?_
        rintro e w6 ⟨a6, c6, rfl, hb6, hl6⟩
        have hs6 := hb6.size
        simp at hs6
        have hb7 := hb6.alloc hb6.size (.cells #[.int .i64 s', .int .i64 v', .slice a6 (flen k') c6] 26)
        have hb7' := HB5'.out.trans (hb7.mono (show w.heap.size + 3 ≤ _ by simp; omega))
        have HL7 := Lib.hid (hl6.low ((Below.refl _ _).alloc (Nat.le_refl _) (.cells #[.int .i64 s', .int .i64 v', .slice a6 (flen k') c6] 26)))
        have HB7' := Lib.hid hb7'
        have HB7 := Lib.hid (HB5.out.trans (hb7.mono (by simp; omega)))
        clear hb6 hb7 hb7' hl6 hd0 hd1 hd2 hc0 hc1 hc2
        go_wp2_with fail
        with_reducible refine (sTermOk_any s' v' a6 c6 k' _ (HL7.out.mono (Nat.zero_le _) (Nat.le_refl _))).mono ?_
        rintro e w8 ⟨rfl, hb8⟩
        have hs8 := hb8.size
        simp at hs8
        have hb8' := HB7'.out.trans (hb8.mono (show w.heap.size + 3 ≤ _ by simp; omega))
        obtain ⟨hr0, hr1, hr2, hq0, hq1, hq2⟩ := put_cells hb8'
        have HB8 := Lib.hid (HB7.out.trans (hb8.mono (by simp; omega)))
        have HL8 := Lib.hid ((HL7.out.low hb8).mono (lo' := w.heap.size + 3) (by simp; omega) (Nat.le_refl _))
        obtain ⟨he0, he1, he2⟩ := box_cells (w := w6) (x := .int .i64 s') (y := .int .i64 v') (z := .slice a6 (flen k') c6) (T := 26) ⟨w8, by simpa using hb8⟩
        dsimp only at he0 he1 he2
        clear hb8 hb8'
        by_cases hbig : 1 + fsz k' ≤ 16
        · have hok6 : okW s' v' k' 16 = true := (okW_iff _ _ _ _).2 ⟨HFO.out.1, HFO.out.2, by omega⟩
          have HR : Hid (putR s v k place (s2, v2, k2) = (s', v', k', true)) := putR_some HOK.out HOK2.out HPUT.out hbig
          rw [hok6]
          clear hok6
          go_wp2_with fail
          refine bodyPost_ret (v := .tuple #[.agg #[.int .i64 s', .int .i64 v', .slice a6 (flen k') c6], .bool true]) ?_ rfl (put_end HR.out HB8.out HL8.out _ _ _)
          simp [results, Tryz.results17, go_sem, hr0, hr1, hr2]
        · have hok6 : okW s' v' k' 16 = false := by
            cases h : okW s' v' k' 16 with
            | false => rfl
            | true => have := ((okW_iff _ _ _ _).1 h).2.2; omega
          have HR : Hid (putR s v k place (s2, v2, k2) = (0, 0, .nil, false)) := by unfold Hid putR; rw [if_pos ⟨HOK.out, HOK2.out⟩, HPUT.out]; dsimp only; rw [if_neg hbig]
          rw [hok6]
          clear hok6
          go_wp2_with fail
          refine bodyPost_ret (v := .tuple #[.agg #[.int .i64 0, .int .i64 0, .slice none 0 0], .bool false]) ?_ rfl (put_end (k' := .nil) HR.out HB8.out (.inl rfl) _ _ _)
          simp [results, Tryz.results17, go_sem, hr0, hr1, hr2]
      · have hth := fput_there place s v k (s2, v2, k2)
        rw [hf] at hth
        have hput : fput s v k place (s2, v2, k2) = none := by
          cases h : fput s v k place (s2, v2, k2) with
          | none => rfl
          | some y => rw [h] at hth; cases hth
        have HR : Hid (putR s v k place (s2, v2, k2) = (0, 0, .nil, false)) := by unfold Hid putR; rw [if_pos ⟨HOK.out, HOK2.out⟩, hput]
        have hb5 := HB4'.out.alloc (by omega) (.cells #[.int .i64 0, .int .i64 0, .slice none 0 0] 26)
        obtain ⟨hr0, hr1, hr2, hq0, hq1, hq2⟩ := put_cells hb5
        have HB5 := Lib.hid (HB4.out.alloc HB4.out.size (.cells #[.int .i64 0, .int .i64 0, .slice none 0 0] 26))
        clear hth hf hput hb5
        go_wp2_with fail
        refine bodyPost_ret (v := .tuple #[.agg #[.int .i64 0, .int .i64 0, .slice none 0 0], .bool false]) ?_ rfl (put_end (k' := .nil) HR.out HB5.out (.inl rfl) _ _ _)
        simp [results, Tryz.results17, go_sem, hr0, hr1, hr2]
end Go.Proofs.YtiinmlagcbjloaaGreat
