/- Several texts in one: D1, B1, SM. -/
import Derived.Test.YtdkcbbhkoibplaaKLn14
import Derived.Test.YtdkcbbhkoibplaaKLn6
import Derived.Test.YtdkcbbhkoibplaaKLn4

/-! D1: spec.l1Put: a term made anew with another at a place that is there. -/
namespace Go.Proofs.Ytdkcbbhkoibplaa
open Go.RowKit Go.Deep
attribute [local go_sem ↓] Go.wp_at_zero Go.wp_at_succ

/-- A kid of a row of one's own is written over. -/
theorem own_set {w : World} {base i g C L2 : Nat} {k : Fo} (h : Own w base k (flen k) (some ⟨g, 0, none⟩) C) (hi : i < flen k) {s v : Int} {a2 : Option Addr} {c2 : Nat} {kk : Fo} (hl : Sl w L2 w.heap.size a2 kk) (hL2 : base ≤ L2) (hg2 : g < L2) :
    Sl (((w.setCell ⟨g, i * 3, none⟩ (.int .i64 s)).setCell ⟨g, i * 3 + 1, none⟩ (.int .i64 v)).setCell ⟨g, i * 3 + 2, none⟩ (.slice a2 (flen kk) c2)) base w.heap.size (some ⟨g, 0, none⟩) (fset k i (s, v, kk)) := by
  obtain ⟨xs, hown, hall⟩ := h
  obtain ⟨g', cap, hv, hb, hlt⟩ := hown.form (by omega)
  simp only [Value.slice.injEq, Option.some.injEq, Addr.mk.injEq] at hv
  obtain ⟨⟨rfl, _⟩, _, rfl⟩ := hv
  have hc := hown.cells (g := g) rfl
  have ha : ∀ n, (⟨g, 0, none⟩ : Addr).add n = ⟨g, n, none⟩ := fun n => by unfold Addr.add; split <;> simp_all
  have hcell : ∀ {i u}, xs[i]? = some u → w.cell? ⟨g, i, none⟩ = some u := fun h => by have := hc _ _ h; rwa [ha] at this
  have hsame : ∀ {L H : Nat}, (g < L ∨ H ≤ g) → Same L H w (((w.setCell ⟨g, i * 3, none⟩ (.int .i64 s)).setCell ⟨g, i * 3 + 1, none⟩ (.int .i64 v)).setCell ⟨g, i * 3 + 2, none⟩ (.slice a2 (flen kk) c2)) := fun hg =>
    ((Same.setCell (fun _ _ _ => rfl) hg _).setCell hg _).setCell hg _
  refine .inr ⟨g, 0, rfl, row_of_all _ g 0 hb hlt fun j hj => ?_⟩
  rw [flen_set] at hj
  obtain ⟨x', y', s', v', k', a', c', L, H, e, h0, h1, h2, hs, hL, hH, hg⟩ := hall j hj
  by_cases hij : i = j
  · subst hij
    obtain ⟨b', o', e'⟩ := fset_at k i (s, v, kk) hj
    refine ⟨b', o', s, v, kk, a2, c2, e', ?_, ?_, ?_, (hl.same (hsame (.inl hg2))).mono hL2 (Nat.le_refl _)⟩
    · rw [World.cell?_setCell_other _ _ _ _ (ne_off (by omega)), World.cell?_setCell_other _ _ _ _ (ne_off (by omega)), Nat.zero_add]
      exact World.cell?_setCell_same _ _ _ (hcell h0)
    · rw [World.cell?_setCell_other _ _ _ _ (ne_off (by omega)), Nat.zero_add]
      refine World.cell?_setCell_same _ _ _ (u := .int .i64 v') ?_
      rw [World.cell?_setCell_other _ _ _ _ (ne_off (by omega))]
      exact hcell h1
    · rw [Nat.zero_add]
      refine World.cell?_setCell_same _ _ _ (u := .slice a' (flen k') c') ?_
      rw [World.cell?_setCell_other _ _ _ _ (ne_off (by omega)), World.cell?_setCell_other _ _ _ _ (ne_off (by omega))]
      exact hcell h2
  · obtain ⟨r', e'⟩ := fset_far k i j (s, v, kk) hij e
    obtain ⟨x2, y2, s2, v2, k2, e2⟩ := fdrop_succ j (fset k i (s, v, kk)) (by rw [flen_set]; exact hj)
    rw [e'] at e2
    simp only [BT.node.injEq, Prod.mk.injEq] at e2
    obtain ⟨rfl, rfl, ⟨rfl, rfl⟩, rfl, hr'⟩ := e2
    refine ⟨x', y', s', v', k', a', c', by rw [e', hr'], ?_, ?_, ?_, (hs.same (hsame (hg g rfl))).mono hL hH⟩
    · rw [World.cell?_setCell_other _ _ _ _ (ne_off (by omega)), World.cell?_setCell_other _ _ _ _ (ne_off (by omega)), World.cell?_setCell_other _ _ _ _ (ne_off (by omega)), Nat.zero_add]
      exact hcell h0
    · rw [World.cell?_setCell_other _ _ _ _ (ne_off (by omega)), World.cell?_setCell_other _ _ _ _ (ne_off (by omega)), World.cell?_setCell_other _ _ _ _ (ne_off (by omega)), Nat.zero_add]
      exact hcell h1
    · rw [World.cell?_setCell_other _ _ _ _ (ne_off (by omega)), World.cell?_setCell_other _ _ _ _ (ne_off (by omega)), World.cell?_setCell_other _ _ _ _ (ne_off (by omega)), Nat.zero_add]
      exact hcell h2
/-- The cells of a kid of a row of one's own. -/
theorem own_nth {w : World} {base i C : Nat} {k : Fo} {A : Option Addr} (h : Own w base k (flen k) A C) (hi : i < flen k) :
    ∃ g, A = some ⟨g, 0, none⟩ ∧ base ≤ g ∧ g < w.heap.size ∧ (∃ u, w.cell? ⟨g, i * 3, none⟩ = some u) ∧ (∃ u, w.cell? ⟨g, i * 3 + 1, none⟩ = some u) ∧ (∃ u, w.cell? ⟨g, i * 3 + 2, none⟩ = some u) ∧ ∀ j, w.frozen? ⟨g, j, none⟩ = false := by
  obtain ⟨xs, hown, hall⟩ := h
  obtain ⟨g, cap, hv, hb, hlt⟩ := hown.form (by omega)
  simp only [Value.slice.injEq] at hv
  obtain ⟨rfl, _, rfl⟩ := hv
  have hc := hown.cells (g := g) rfl
  have ha : ∀ n, (⟨g, 0, none⟩ : Addr).add n = ⟨g, n, none⟩ := fun n => by unfold Addr.add; split <;> simp_all
  have hcell : ∀ {i u}, xs[i]? = some u → w.cell? ⟨g, i, none⟩ = some u := fun h => by have := hc _ _ h; rwa [ha] at this
  obtain ⟨x', y', s', v', k', a', c', L, H, e, h0, h1, h2, hs, hL, hH, hg⟩ := hall i hi
  have hfz : ∀ i, w.frozen? ⟨g, i, none⟩ = false := fun i => by
    rcases hown.2 with ⟨h, _⟩ | ⟨g', cap', cur, h3, h4, h5, h6⟩
    · simp at h
    · simp only [Value.slice.injEq, Option.some.injEq, Addr.mk.injEq] at h3
      obtain ⟨⟨rfl, _⟩, _⟩ := h3
      simp [World.frozen?, h5]
  exact ⟨g, rfl, hb, hlt, ⟨_, hcell h0⟩, ⟨_, hcell h1⟩, ⟨_, hcell h2⟩, hfz⟩

def LputPost (s' v' : Int) (k' : Fo) (w : World) (e : Ending) (w' : World) : Prop :=
  ∃ a c, e = .returned (.agg #[.int .i64 s', .int .i64 v', .slice a (flen k') c]) ∧ Below w.heap.size w w' ∧ Sl w' w.heap.size w'.heap.size a k'

theorem lput_end {w w1 : World} {s' v' : Int} {k' : Fo} {a : Option Addr} {c : Nat} (hb : Below w.heap.size w w1) (hl : Sl w1 (w.heap.size + 3) w1.heap.size a k') (p q r : Value) :
    LputPost s' v' k' w (.returned (.agg #[.int .i64 s', .int .i64 v', .slice a (flen k') c])) (((w1.setCell ⟨w.heap.size + 1 + 1, 0, none⟩ p).setCell ⟨w.heap.size + 1 + 1, 1, none⟩ q).setCell ⟨w.heap.size + 1 + 1, 2, none⟩ r) := by
  refine ⟨a, c, rfl, ((hb.setCell (by simp; omega) _).setCell (by simp; omega) _).setCell (by simp; omega) _, ?_⟩
  have hs : Same (w.heap.size + 3) w1.heap.size w1 (((w1.setCell ⟨w.heap.size + 1 + 1, 0, none⟩ p).setCell ⟨w.heap.size + 1 + 1, 1, none⟩ q).setCell ⟨w.heap.size + 1 + 1, 2, none⟩ r) :=
    (((Same.setCell (fun _ _ _ => rfl) (.inl (by simp)) _).setCell (.inl (by simp)) _).setCell (.inl (by simp)) _)
  exact (hl.same hs).mono (by omega) (by simp)

set_option maxRecDepth 100000 in
set_option maxHeartbeats 1000000 in
theorem l1Put_any (s2 v2 : Int) (a2 : Option Addr) (c2 : Nat) (k2 : Fo) (hk2 : fsz k2 ≤ 1000) : ∀ (place : List Int) (s v : Int) (a : Option Addr) (c : Nat) (k : Fo) (pA : Option Addr) (pC : Nat) (s' v' : Int) (k' : Fo) (w : World), Sl w 0 w.heap.size a k → ISc w 0 w.heap.size pA pC place → place.length ≤ 1048576 → Sl w 0 w.heap.size a2 k2 → fsz k ≤ 1000 → fput s v k place (s2, v2, k2) = some (s', v', k') →
    Calls Try.prog 53 #[.agg #[.int .i64 s, .int .i64 v, .slice a (flen k) c], .slice pA place.length pC, .agg #[.int .i64 s2, .int .i64 v2, .slice a2 (flen k2) c2]] w (LputPost s' v' k' w) := by
  intro place
  induction place with
  | nil =>
    intro s v a c k pA pC s' v' k' w hl hp hpl hl2 hsz hf
    simp only [fput, Option.some.injEq, Prod.mk.injEq] at hf
    obtain ⟨rfl, rfl, rfl⟩ := hf
    have hb0 : Below w.heap.size w (((w.alloc (.cells #[.int .i64 s, .int .i64 v, .slice a (flen k) c] 35)).alloc (.cells #[.int .i64 s2, .int .i64 v2, .slice a2 (flen k2) c2] 35)).alloc (.cells #[.int .i64 0, .int .i64 0, .slice none 0 0] 35)) := (((Below.refl _ _).alloc (Nat.le_refl _) _).alloc (by simp) _).alloc (by simp; omega) _
    have HB0 := Lib.hid hb0
    have HL2 := Lib.hid ((hl2.below hb0).mono (Nat.le_refl _) hb0.size)
    clear hb0 hl hl2 hp
    go_enter Try.func53, Try.ntmps53
    go_wp2_with fail
    with_reducible refine (l1Copy_any (fsz k2) s2 v2 a2 c2 k2 _ HL2.out (Nat.le_refl _) (by omega)).mono ?_
    rintro e w4 ⟨a4, c4, rfl, hb4, hown4⟩
    have hs4 := hb4.size
    simp at hs4
    obtain ⟨hr0, hr1, hr2, hq0, hq1, hq2⟩ := put_cells (hb4.mono (show w.heap.size + 3 ≤ _ by simp))
    have HB4 := Lib.hid (HB0.out.trans (hb4.mono HB0.out.size))
    have HL4 := Lib.hid (hown4.sl.mono (lo' := w.heap.size + 3) (by simp) (Nat.le_refl _))
    clear hb4 hown4
    go_wp2_with fail
    refine bodyPost_ret (v := .agg #[.int .i64 s2, .int .i64 v2, .slice a4 (flen k2) c4]) ?_ rfl (lput_end HB4.out HL4.out _ _ _)
    simp [results, Try.results53, go_sem, hr0, hr1, hr2]
  | cons i ps ih =>
    intro s v a c k pA pC s' v' k' w hl hp hpl hl2 hsz hf
    have IH := Lib.hid ih
    obtain ⟨n, x0, y0, s1, v1, kk, ⟨y1, y2, y3⟩, rfl, hn, hd, hy, e⟩ := fput_cons hf
    simp only [Prod.mk.injEq] at e
    obtain ⟨rfl, rfl, rfl⟩ := e
    clear ih hf
    obtain ⟨b, o, rfl, _, hbB, hc⟩ := isl_get hp.1 (show 0 < ((n : Int) :: ps).length by simp)
    simp only [List.getElem_cons_zero, Nat.add_zero] at hc
    obtain ⟨bk, ok, rfl⟩ : ∃ bk ok, a = some ⟨bk, ok, none⟩ := by
      rcases hl with rfl | ⟨b, o, rfl, _⟩
      · simp [flen] at hn
      · exact ⟨_, _, rfl⟩
    have hrow : Row w 0 w.heap.size k bk ok := by
      rcases hl with rfl | ⟨b, o, e, h⟩
      · simp [flen] at hn
      · cases e; exact h
    obtain ⟨s3, v3, kk3, a3, c3, ⟨xa, ya, hd3⟩, _, hbB2, hk0, hk1, hk2', hsl3⟩ := row_at hrow hn
    rw [hd] at hd3
    simp only [BT.node.injEq, Prod.mk.injEq] at hd3
    obtain ⟨_, _, ⟨rfl, rfl⟩, rfl, _⟩ := hd3
    have hkk := fsz_kid hd
    have hfl := flen_le_sz k
    have hb0 : Below w.heap.size w (((w.alloc (.cells #[.int .i64 s', .int .i64 v', .slice (some ⟨bk, ok, none⟩) (flen k) c] 35)).alloc (.cells #[.int .i64 s2, .int .i64 v2, .slice a2 (flen k2) c2] 35)).alloc (.cells #[.int .i64 0, .int .i64 0, .slice none 0 0] 35)) := (((Below.refl _ _).alloc (Nat.le_refl _) _).alloc (by simp) _).alloc (by simp; omega) _
    have HB0 := Lib.hid hb0
    have HL := Lib.hid ((hl.below hb0).mono (Nat.le_refl _) hb0.size)
    have HL2 := Lib.hid hl2
    have HSL3 := Lib.hid hsl3
    have HP := Lib.hid hp
    have HY := Lib.hid hy
    simp only [List.length_cons] at hpl ⊢
    clear hb0 hl hl2 hrow hsl3 hd hp hy
    go_enter Try.func53, Try.ntmps53
    go_wp2_with fail
    with_reducible refine (l1Copy_any (fsz k) s' v' _ c k _ HL.out (Nat.le_refl _) (by omega)).mono ?_
    rintro e w4 ⟨a4, c4, rfl, hb4, hown4⟩
    have hs4 := hb4.size
    simp at hs4
    obtain ⟨g, rfl, hbg, hgl, ⟨u0, hg0⟩, ⟨u1, hg1⟩, ⟨u2, hg2⟩, hfz⟩ := own_nth hown4 hn
    simp at hbg
    have hb5 : Below w4.heap.size w4 (w4.alloc (.cells #[.int .i64 s', .int .i64 v', .slice (some ⟨g, 0, none⟩) (flen k) c4] 35)) := (Below.refl _ _).alloc (Nat.le_refl _) _
    have hb5' : Below (w.heap.size + 3) (((w.alloc (.cells #[.int .i64 s', .int .i64 v', .slice (some ⟨bk, ok, none⟩) (flen k) c] 35)).alloc (.cells #[.int .i64 s2, .int .i64 v2, .slice a2 (flen k2) c2] 35)).alloc (.cells #[.int .i64 0, .int .i64 0, .slice none 0 0] 35)) (w4.alloc (.cells #[.int .i64 s', .int .i64 v', .slice (some ⟨g, 0, none⟩) (flen k) c4] 35)) := (hb4.mono (by simp)).trans (hb5.mono (by omega))
    obtain ⟨hx0, hx1, hx2⟩ := put_box hb5'
    have hx3 : (w4.alloc (.cells #[.int .i64 s', .int .i64 v', .slice (some ⟨g, 0, none⟩) (flen k) c4] 35)).cell? ⟨w.heap.size, 2, none⟩ = some (.slice (some ⟨bk, ok, none⟩) (flen k) c) := by
      rw [hb5'.cell (by simp), World.cell?_alloc_lt _ _ _ (by first | (simp; done) | (simp; omega)), World.cell?_alloc_lt _ _ _ (by simp), World.cell?_alloc_at _ _ _ _ (by simp)]; rfl
    have hx4 : (w4.alloc (.cells #[.int .i64 s', .int .i64 v', .slice (some ⟨g, 0, none⟩) (flen k) c4] 35)).cell? ⟨w4.heap.size, 2, none⟩ = some (.slice (some ⟨g, 0, none⟩) (flen k) c4) := by rw [World.cell?_alloc_at _ _ _ _ (by simp)]; rfl
    have hbw5 := HB0.out.trans ((hb4.mono HB0.out.size).trans (hb5.mono (by omega)))
    have hx5 := cell_low hbw5 hc
    have hx6 := cell_low hbw5 hk0
    have hx7 := cell_low hbw5 hk1
    have hx8 := cell_low hbw5 hk2'
    obtain ⟨A', hcut, hcutI⟩ := cut_from (pA := some ⟨b, o, none⟩) (pC := pC) (n := 1) (place := (n : Int) :: ps) (by simp) HP.out.2
    have hsl : ∀ w : World, (Instr.slice 26 (.slice (some ⟨b, o, none⟩) (ps.length + 1) pC) (some (.int .i64 1)) none none).run Try.prog w = .ok (.slice A' ps.length (pC - 1)) w := fun w => hcut w
    have hs5 : w4.heap.size + 1 ≤ (w4.alloc (.cells #[.int .i64 s', .int .i64 v', .slice (some ⟨g, 0, none⟩) (flen k) c4] 35)).heap.size := by simp
    have HPC : Hid (ISc (w4.alloc (.cells #[.int .i64 s', .int .i64 v', .slice (some ⟨g, 0, none⟩) (flen k) c4] 35)).drew 0 (w4.alloc (.cells #[.int .i64 s', .int .i64 v', .slice (some ⟨g, 0, none⟩) (flen k) c4] 35)).drew.heap.size A' (pC - 1) ps) := ((hcutI HP.out.1).same (Same.of_below hbw5.drew)).mono (Nat.le_refl _) hbw5.size
    have HSL5 : Hid (Sl (w4.alloc (.cells #[.int .i64 s', .int .i64 v', .slice (some ⟨g, 0, none⟩) (flen k) c4] 35)).drew 0 (w4.alloc (.cells #[.int .i64 s', .int .i64 v', .slice (some ⟨g, 0, none⟩) (flen k) c4] 35)).drew.heap.size a3 kk) := (HSL3.out.below hbw5.drew).mono (Nat.le_refl _) hbw5.size
    have HL25 : Hid (Sl (w4.alloc (.cells #[.int .i64 s', .int .i64 v', .slice (some ⟨g, 0, none⟩) (flen k) c4] 35)).drew 0 (w4.alloc (.cells #[.int .i64 s', .int .i64 v', .slice (some ⟨g, 0, none⟩) (flen k) c4] 35)).drew.heap.size a2 k2) := (HL2.out.below hbw5.drew).mono (Nat.le_refl _) hbw5.size
    have HB4 := Lib.hid hb4
    have HB5' := Lib.hid hb5'
    have HBW5 := Lib.hid hbw5
    have HOWN4 := Lib.hid hown4
    have HFZ := Lib.hid hfz
    have HG0 := Lib.hid hg0
    have HG1 := Lib.hid hg1
    have HG2 := Lib.hid hg2
    clear hcut hcutI hb4 hb5 hb5' hbw5 hown4 hfz hg0 hg1 hg2 hc hk0 hk1 hk2'
    have hu0 : ∀ u : After (w4.alloc (.cells #[.int .i64 s', .int .i64 v', .slice (some ⟨g, 0, none⟩) (flen k) c4] 35)).heap.size (w4.alloc (.cells #[.int .i64 s', .int .i64 v', .slice (some ⟨g, 0, none⟩) (flen k) c4] 35)), u.world.cell? ⟨w4.heap.size, 2, none⟩ = some (.slice (some ⟨g, 0, none⟩) (flen k) c4) := fun u => u.cell (by simp) hx4
    have hu1 : ∀ u : After (w4.alloc (.cells #[.int .i64 s', .int .i64 v', .slice (some ⟨g, 0, none⟩) (flen k) c4] 35)).heap.size (w4.alloc (.cells #[.int .i64 s', .int .i64 v', .slice (some ⟨g, 0, none⟩) (flen k) c4] 35)), u.world.cell? ⟨b, o, none⟩ = some (.int .i64 (n : Int)) := fun u => u.cell (by simp; omega) hx5
    have hu2 : ∀ u : After (w4.alloc (.cells #[.int .i64 s', .int .i64 v', .slice (some ⟨g, 0, none⟩) (flen k) c4] 35)).heap.size (w4.alloc (.cells #[.int .i64 s', .int .i64 v', .slice (some ⟨g, 0, none⟩) (flen k) c4] 35)), u.world.cell? ⟨w.heap.size, 2, none⟩ = some (.slice (some ⟨bk, ok, none⟩) (flen k) c) := fun u => u.cell (by simp; omega) hx3
    have hu3 : ∀ u : After (w4.alloc (.cells #[.int .i64 s', .int .i64 v', .slice (some ⟨g, 0, none⟩) (flen k) c4] 35)).heap.size (w4.alloc (.cells #[.int .i64 s', .int .i64 v', .slice (some ⟨g, 0, none⟩) (flen k) c4] 35)), u.world.cell? ⟨bk, ok + n * 3, none⟩ = some (.int .i64 s1) := fun u => u.cell (by simp; omega) hx6
    have hu4 : ∀ u : After (w4.alloc (.cells #[.int .i64 s', .int .i64 v', .slice (some ⟨g, 0, none⟩) (flen k) c4] 35)).heap.size (w4.alloc (.cells #[.int .i64 s', .int .i64 v', .slice (some ⟨g, 0, none⟩) (flen k) c4] 35)), u.world.cell? ⟨bk, ok + n * 3 + 1, none⟩ = some (.int .i64 v1) := fun u => u.cell (by simp; omega) hx7
    have hu5 : ∀ u : After (w4.alloc (.cells #[.int .i64 s', .int .i64 v', .slice (some ⟨g, 0, none⟩) (flen k) c4] 35)).heap.size (w4.alloc (.cells #[.int .i64 s', .int .i64 v', .slice (some ⟨g, 0, none⟩) (flen k) c4] 35)), u.world.cell? ⟨bk, ok + n * 3 + 2, none⟩ = some (.slice a3 (flen kk) c3) := fun u => u.cell (by simp; omega) hx8
    have hu6 : ∀ u : After (w4.alloc (.cells #[.int .i64 s', .int .i64 v', .slice (some ⟨g, 0, none⟩) (flen k) c4] 35)).heap.size (w4.alloc (.cells #[.int .i64 s', .int .i64 v', .slice (some ⟨g, 0, none⟩) (flen k) c4] 35)), u.world.cell? ⟨w.heap.size + 1, 0, none⟩ = some (.int .i64 s2) := fun u => u.cell (by simp; omega) hx0
    have hu7 : ∀ u : After (w4.alloc (.cells #[.int .i64 s', .int .i64 v', .slice (some ⟨g, 0, none⟩) (flen k) c4] 35)).heap.size (w4.alloc (.cells #[.int .i64 s', .int .i64 v', .slice (some ⟨g, 0, none⟩) (flen k) c4] 35)), u.world.cell? ⟨w.heap.size + 1, 1, none⟩ = some (.int .i64 v2) := fun u => u.cell (by simp; omega) hx1
    have hu8 : ∀ u : After (w4.alloc (.cells #[.int .i64 s', .int .i64 v', .slice (some ⟨g, 0, none⟩) (flen k) c4] 35)).heap.size (w4.alloc (.cells #[.int .i64 s', .int .i64 v', .slice (some ⟨g, 0, none⟩) (flen k) c4] 35)), u.world.cell? ⟨w.heap.size + 1, 2, none⟩ = some (.slice a2 (flen k2) c2) := fun u => u.cell (by simp; omega) hx2
    have g1 : (0 : Int) ≤ (n : Int) := by omega
    have g2 : (n : Int) < (flen k : Int) := by omega
    go_wp2_with fail
    clear hx0 hx1 hx2 hx3 hx4 hx5 hx6 hx7 hx8
    refine wp_region_mix (fun w' => ∃ u : After (w4.alloc (.cells #[.int .i64 s', .int .i64 v', .slice (some ⟨g, 0, none⟩) (flen k) c4] 35)).heap.size (w4.alloc (.cells #[.int .i64 s', .int .i64 v', .slice (some ⟨g, 0, none⟩) (flen k) c4] 35)), w' = u.world) [17] [(0, 0), (1, 0), (2, 0), (3, 0), (4, 0), (5, 0), (6, 0), (7, 0), (8, 0), (9, 0), (10, 0), (11, 0), (12, 0), (13, 0), (14, 0), (15, 1), (16, 1), (17, 2)] (by kernel_rfl) (by kernel_rfl) ⟨⟨_, (Below.refl _ _).drew⟩, rfl⟩ ?_
    iterate 15
      refine mix_see rfl (fun K hK => ?_)
      go_simp
      refine hK _ ?_
      clear hK K
    clear hu0 hu1 hu2 hu3 hu4 hu5 hu6 hu7 hu8
    refine mix_hold rfl (fun K hK => ?_)
    go_simp
    with_reducible refine (IH.out s1 v1 a3 c3 kk A' (pC - 1) y1 y2 y3 _ HSL5.out HPC.out (by omega) HL25.out (by omega) HY.out).mono ?_
    rintro e w6 ⟨a6, c6, rfl, hb6, hl6⟩
    have hb6' := bl_undrew hb6
    have hs6 := hb6'.size
    have hb46 : Below w4.heap.size w4 w6 := ((Below.refl _ _).alloc (Nat.le_refl _) _).trans (hb6'.mono (by simp))
    have hg0 := cell_low hb46 HG0.out
    have hg1 := cell_low hb46 HG1.out
    have hg2 := cell_low hb46 HG2.out
    have hf0 : w6.frozen? ⟨g, n * 3, none⟩ = false := by rw [hb46.frozen (by simpa using hgl)]; exact HFZ.out _
    have hf1 : w6.frozen? ⟨g, n * 3 + 1, none⟩ = false := by rw [hb46.frozen (by simpa using hgl)]; exact HFZ.out _
    have hf2 : w6.frozen? ⟨g, n * 3 + 2, none⟩ = false := by rw [hb46.frozen (by simpa using hgl)]; exact HFZ.out _
    have hl6' : Sl w6 (w4.heap.size + 1) w6.heap.size a6 y3 := hl6.mono (by simp) (Nat.le_refl _)
    have HSET : Hid (Sl (((w6.setCell ⟨g, n * 3, none⟩ (.int .i64 y1)).setCell ⟨g, n * 3 + 1, none⟩ (.int .i64 y2)).setCell ⟨g, n * 3 + 2, none⟩ (.slice a6 (flen y3) c6)) (w.heap.size + 3) w6.heap.size (some ⟨g, 0, none⟩) (fset k n (y1, y2, y3))) := own_set (HOWN4.out.low hb46 (by simp)) hn hl6' (by omega) (by omega)
    have hb7 : Below (w.heap.size + 3) (((w.alloc (.cells #[.int .i64 s', .int .i64 v', .slice (some ⟨bk, ok, none⟩) (flen k) c] 35)).alloc (.cells #[.int .i64 s2, .int .i64 v2, .slice a2 (flen k2) c2] 35)).alloc (.cells #[.int .i64 0, .int .i64 0, .slice none 0 0] 35)) (((w6.setCell ⟨g, n * 3, none⟩ (.int .i64 y1)).setCell ⟨g, n * 3 + 1, none⟩ (.int .i64 y2)).setCell ⟨g, n * 3 + 2, none⟩ (.slice a6 (flen y3) c6)) := (((HB5'.out.trans (hb6'.mono (by simp; omega))).setCell (by simp; omega) _).setCell (by simp; omega) _).setCell (by simp; omega) _
    have HB7 := Lib.hid hb7
    have HE7 : Hid (∀ j z, (w4.alloc (.cells #[.int .i64 s', .int .i64 v', .slice (some ⟨g, 0, none⟩) (flen k) c4] 35)).cell? ⟨w4.heap.size, j, none⟩ = some z → (((w6.setCell ⟨g, n * 3, none⟩ (.int .i64 y1)).setCell ⟨g, n * 3 + 1, none⟩ (.int .i64 y2)).setCell ⟨g, n * 3 + 2, none⟩ (.slice a6 (flen y3) c6)).cell? ⟨w4.heap.size, j, none⟩ = some z) := fun j z hz => by
      rw [World.cell?_setCell_other _ _ _ _ (by intro h; have := congrArg Addr.block h; simp at this; omega), World.cell?_setCell_other _ _ _ _ (by intro h; have := congrArg Addr.block h; simp at this; omega), World.cell?_setCell_other _ _ _ _ (by intro h; have := congrArg Addr.block h; simp at this; omega)]
      exact cell_low hb6' hz
    refine hK _ _ ⟨⟨_, hb6'⟩, rfl⟩ ?_
    clear hK K hb6 hl6 hl6' hb46 hb7
    refine mix_hold rfl (fun K hK => ?_)
    go_simp
    refine hK _ _ ⟨⟨_, hb6'⟩, rfl⟩ ?_
    clear hK K hb6'
    refine mix_late rfl (fun K hK => ?_)
    go_simp
    refine hK _ _ ?_
    clear hK K
    refine mix_end ?_
    clear hg0 hg1 hg2 hf0 hf1 hf2
    obtain ⟨hr0, hr1, hr2, hq0, hq1, hq2⟩ := put_cells HB7.out
    have ho0 := HE7.out 0 (.int .i64 s') (by rw [World.cell?_alloc_at _ _ _ _ (by simp)]; rfl)
    have ho1 := HE7.out 1 (.int .i64 v') (by rw [World.cell?_alloc_at _ _ _ _ (by simp)]; rfl)
    have ho2 := HE7.out 2 (.slice (some ⟨g, 0, none⟩) (flen k) c4) (by rw [World.cell?_alloc_at _ _ _ _ (by simp)]; rfl)
    have HEND := Lib.hid (fun p q r => lput_end (s' := s') (v' := v') (k' := fset k n (y1, y2, y3)) (c := c4) (HB0.out.trans (HB7.out.mono (by simp))) (HSET.out.mono (Nat.le_refl _) (by simp)) p q r)
    go_wp2_with fail
    refine bodyPost_ret (v := .agg #[.int .i64 s', .int .i64 v', .slice (some ⟨g, 0, none⟩) (flen k) c4]) ?_ rfl ?_
    · simp [results, Try.results53, go_sem, hr0, hr1, hr2]
    · have := HEND.out (.int .i64 s') (.int .i64 v') (.slice (some ⟨g, 0, none⟩) (flen k) c4)
      rw [flen_set] at this
      exact this
end Go.Proofs.Ytdkcbbhkoibplaa

/-! B1: spec.l1At: kid by kid. -/
namespace Go.Proofs.Ytdkcbbhkoibplaa
open Go.RowKit Go.Deep
attribute [local go_sem ↓] Go.wp_at_zero Go.wp_at_succ

/-- What holds at the head of l1At's loop: the box holds the part. -/
structure LaAt (w : World) (s v : Int) (a : Option Addr) (c : Nat) (k : Fo) (wr : World) : Prop where
  below : Below w.heap.size w wr
  size : w.heap.size + 2 ≤ wr.heap.size
  b0 : wr.cell? ⟨w.heap.size, 0, none⟩ = some (.int .i64 s)
  b1 : wr.cell? ⟨w.heap.size, 1, none⟩ = some (.int .i64 v)
  b2 : wr.cell? ⟨w.heap.size, 2, none⟩ = some (.slice a (flen k) c)
  f0 : wr.frozen? ⟨w.heap.size, 0, none⟩ = false
  f1 : wr.frozen? ⟨w.heap.size, 1, none⟩ = false
  f2 : wr.frozen? ⟨w.heap.size, 2, none⟩ = false
  r0 : wr.cell? ⟨w.heap.size + 1, 0, none⟩ = some (.int .i64 0)
  r1 : wr.cell? ⟨w.heap.size + 1, 1, none⟩ = some (.int .i64 0)
  r2 : wr.cell? ⟨w.heap.size + 1, 2, none⟩ = some (.slice none 0 0)
  q0 : wr.frozen? ⟨w.heap.size + 1, 0, none⟩ = false
  q1 : wr.frozen? ⟨w.heap.size + 1, 1, none⟩ = false
  q2 : wr.frozen? ⟨w.heap.size + 1, 2, none⟩ = false
  sl : Sl w 0 w.heap.size a k

theorem LaAt.start {w : World} {s v : Int} {a : Option Addr} {c : Nat} {k : Fo} (hl : Sl w 0 w.heap.size a k) : LaAt w s v a c k ((w.alloc (.cells #[.int .i64 s, .int .i64 v, .slice a (flen k) c] 35)).alloc (.cells #[.int .i64 0, .int .i64 0, .slice none 0 0] 35)) := by
  refine ⟨((Below.refl _ _).alloc (Nat.le_refl _) _).alloc (by simp) _, by simp, ?_, ?_, ?_, ?_, ?_, ?_, ?_, ?_, ?_, ?_, ?_, ?_, hl⟩
  · rw [World.cell?_alloc_lt _ _ _ (by simp), World.cell?_alloc_at _ _ _ _ (by simp)]; rfl
  · rw [World.cell?_alloc_lt _ _ _ (by simp), World.cell?_alloc_at _ _ _ _ (by simp)]; rfl
  · rw [World.cell?_alloc_lt _ _ _ (by simp), World.cell?_alloc_at _ _ _ _ (by simp)]; rfl
  · rw [World.frozen?_alloc_past _ _ _ (by simp), World.frozen?_alloc_at _ _ _ _ (by simp)]
  · rw [World.frozen?_alloc_past _ _ _ (by simp), World.frozen?_alloc_at _ _ _ _ (by simp)]
  · rw [World.frozen?_alloc_past _ _ _ (by simp), World.frozen?_alloc_at _ _ _ _ (by simp)]
  · rw [World.cell?_alloc_at _ _ _ _ (by simp)]; rfl
  · rw [World.cell?_alloc_at _ _ _ _ (by simp)]; rfl
  · rw [World.cell?_alloc_at _ _ _ _ (by simp)]; rfl
  · rw [World.frozen?_alloc_at _ _ _ _ (by simp)]
  · rw [World.frozen?_alloc_at _ _ _ _ (by simp)]
  · rw [World.frozen?_alloc_at _ _ _ _ (by simp)]
theorem LaAt.low {w wr w2 : World} {s v : Int} {a : Option Addr} {c : Nat} {k : Fo} (h : LaAt w s v a c k wr) (hb : Below wr.heap.size wr w2) : LaAt w s v a c k w2 := by
  have hs := h.size
  have hc : ∀ {q : Addr} {u : Value}, wr.cell? q = some u → w2.cell? q = some u := fun hq => by rw [hb.cell (World.block_lt_of_cell? _ _ hq)]; exact hq
  have hf : ∀ {q : Addr}, q.block < w.heap.size + 2 → wr.frozen? q = false → w2.frozen? q = false := fun hlt hq => by rw [hb.frozen (by omega)]; exact hq
  exact ⟨h.below.trans (hb.mono (by omega)), Nat.le_trans hs hb.size, hc h.b0, hc h.b1, hc h.b2, hf (by simp) h.f0, hf (by simp) h.f1, hf (by simp) h.f2, hc h.r0, hc h.r1, hc h.r2, hf (by simp) h.q0, hf (by simp) h.q1, hf (by simp) h.q2, h.sl⟩
theorem LaAt.step {w wr : World} {s v s' v' : Int} {a a' : Option Addr} {c c' : Nat} {k k' : Fo} (h : LaAt w s v a c k wr) (hl : Sl w 0 w.heap.size a' k') :
    LaAt w s' v' a' c' k' (((wr.setCell ⟨w.heap.size, 0, none⟩ (.int .i64 s')).setCell ⟨w.heap.size, 1, none⟩ (.int .i64 v')).setCell ⟨w.heap.size, 2, none⟩ (.slice a' (flen k') c')) := by
  have hc : ∀ {q : Addr} {u : Value}, wr.cell? q = some u → q.block ≠ w.heap.size → (((wr.setCell ⟨w.heap.size, 0, none⟩ (.int .i64 s')).setCell ⟨w.heap.size, 1, none⟩ (.int .i64 v')).setCell ⟨w.heap.size, 2, none⟩ (.slice a' (flen k') c')).cell? q = some u := fun {q u} hq hne => by
    rw [World.cell?_setCell_other _ _ _ _ (by intro e; exact hne (congrArg Addr.block e).symm), World.cell?_setCell_other _ _ _ _ (by intro e; exact hne (congrArg Addr.block e).symm), World.cell?_setCell_other _ _ _ _ (by intro e; exact hne (congrArg Addr.block e).symm)]
    exact hq
  have hf : ∀ {q : Addr}, wr.frozen? q = false → (((wr.setCell ⟨w.heap.size, 0, none⟩ (.int .i64 s')).setCell ⟨w.heap.size, 1, none⟩ (.int .i64 v')).setCell ⟨w.heap.size, 2, none⟩ (.slice a' (flen k') c')).frozen? q = false := fun {q} hq => by
    rw [World.frozen?_setCell, World.frozen?_setCell, World.frozen?_setCell]
    exact hq
  refine ⟨((h.below.setCell (Nat.le_refl _) _).setCell (Nat.le_refl _) _).setCell (Nat.le_refl _) _, by simpa using h.size, ?_, ?_, ?_, hf h.f0, hf h.f1, hf h.f2, hc h.r0 (by simp), hc h.r1 (by simp), hc h.r2 (by simp), hf h.q0, hf h.q1, hf h.q2, hl⟩
  · rw [World.cell?_setCell_other _ _ _ _ (by intro h; have := congrArg Addr.off h; simp at this), World.cell?_setCell_other _ _ _ _ (by intro h; have := congrArg Addr.off h; simp at this)]
    exact World.cell?_setCell_same _ _ _ h.b0
  · rw [World.cell?_setCell_other _ _ _ _ (by intro h; have := congrArg Addr.off h; simp at this)]
    exact World.cell?_setCell_same _ _ _ (show World.cell? _ ⟨w.heap.size, 1, none⟩ = some (.int .i64 v) from by rw [World.cell?_setCell_other _ _ _ _ (by intro h; have := congrArg Addr.off h; simp at this)]; exact h.b1)
  · exact World.cell?_setCell_same _ _ _ (show World.cell? _ ⟨w.heap.size, 2, none⟩ = some (.slice a (flen k) c) from by rw [World.cell?_setCell_other _ _ _ _ (by intro h; have := congrArg Addr.off h; simp at this), World.cell?_setCell_other _ _ _ _ (by intro h; have := congrArg Addr.off h; simp at this)]; exact h.b2)

def LatPost (s v : Int) (k : Fo) (place : List Int) (w : World) (e : Ending) (w' : World) : Prop :=
  Below w.heap.size w w' ∧ ((∃ s' v' k' a c, fat s v k place = some (s', v', k') ∧ e = .returned (.tuple #[.agg #[.int .i64 s', .int .i64 v', .slice a (flen k') c], .bool true]) ∧ Sl w 0 w.heap.size a k') ∨
    (fat s v k place = none ∧ e = .returned (.tuple #[.agg #[.int .i64 0, .int .i64 0, .slice none 0 0], .bool false])))

theorem lat_low {w w1 : World} (hb : Below w.heap.size w w1) (x y z : Value) : Below w.heap.size w (((w1.setCell ⟨w.heap.size + 1, 0, none⟩ x).setCell ⟨w.heap.size + 1, 1, none⟩ y).setCell ⟨w.heap.size + 1, 2, none⟩ z) :=
  ((hb.setCell (by simp) _).setCell (by simp) _).setCell (by simp) _

set_option maxRecDepth 100000 in
set_option maxHeartbeats 1000000 in
theorem l1At_any (s v : Int) (a : Option Addr) (c : Nat) (k : Fo) (pA : Option Addr) (pC : Nat) (place : List Int) (w : World) (hl : Sl w 0 w.heap.size a k) (hp : ISl w 0 w.heap.size pA place) (hpl : place.length ≤ 1048576) (hsz : fsz k ≤ 1048576) :
    Calls Try.prog 50 #[.agg #[.int .i64 s, .int .i64 v, .slice a (flen k) c], .slice pA place.length pC] w (LatPost s v k place w) := by
  have HST := Lib.hid (LaAt.start (s := s) (v := v) (c := c) hl)
  have HP := Lib.hid hp
  clear hl hp
  go_enter Try.func50, Try.ntmps50
  go_wp2_with fail
  go_loopw [6] (fun i wr => ∃ (j : Nat) (s' v' : Int) (a' : Option Addr) (c' : Nat) (k' : Fo), j ≤ place.length ∧ i = .int .i64 j ∧ Hid (fat s v k place = fat s' v' k' (place.drop j)) ∧ fsz k' ≤ 1048576 ∧ LaAt w s' v' a' c' k' wr) (fun i _ => place.length - (intOf i).toNat)
  case atStart => exact ⟨0, s, v, a, c, k, by omega, rfl, by simp [Hid], hsz, HST.out⟩
  case round =>
    clear HST
    obtain ⟨j, s', v', a', c', k', hj, rfl, hf, hsz', hat⟩ := hrel
    have hsr := hat.size
    have hfl := flen_le_sz k'
    by_cases hlt : j < place.length
    · obtain ⟨b, o, rfl, _, hbB, hc⟩ := isl_get (HP.out.below hat.below) hlt
      have hdr : place.drop j = place[j] :: place.drop (j + 1) := List.drop_eq_getElem_cons hlt
      rw [hdr] at hf
      generalize place[j] = x at hc hf
      have hb2 := hat.b2
      have g1 : (0 : Int) ≤ (j : Int) := by omega
      have g2 : (j : Int) < (place.length : Int) := by omega
      have HF := Lib.hid hf.out
      have HAT := Lib.hid hat
      clear hf hat hdr
      have hu0 : ∀ u : After wr.heap.size wr, u.world.cell? ⟨b, o + j, none⟩ = some (.int .i64 x) := fun u => u.cell (by simp; omega) hc
      have hu1 : ∀ u : After wr.heap.size wr, u.world.cell? ⟨w.heap.size, 2, none⟩ = some (.slice a' (flen k') c') := fun u => u.cell (by simp; omega) hb2
      by_cases hx : 0 ≤ x ∧ x ≤ (flen k' : Int) - 1
      · have hxd : decide (0 ≤ x ∧ x ≤ (flen k' : Int) - 1) = true := by simpa using hx
        go_wp2_with fail
        refine wp_region_after wr.heap.size (by kernel_rfl) (by kernel_rfl) ?_
        repeat (go_big_quiet_step ((go_at_call 47; exact Calls.after_same (l6In_is hxd))))
        refine wpQuiet_nil ?_
        rintro w3 ⟨⟨_, hu⟩, rfl⟩
        have HAT3 := Lib.hid (HAT.out.low hu)
        have hc3 : w3.cell? ⟨b, o + j, none⟩ = some (.int .i64 x) := cell_low hu hc
        clear hu0 hu1 hc hb2 HAT hu
        clear hxd
        obtain ⟨q, rfl⟩ : ∃ q : Nat, x = q := ⟨x.toNat, by omega⟩
        have hq : q < flen k' := by omega
        have hslw := HAT3.out.sl
        obtain ⟨bk, ok, rfl⟩ : ∃ bk ok, a' = some ⟨bk, ok, none⟩ := by
          rcases hslw with rfl | ⟨b, o, rfl, _⟩
          · simp [flen] at hq
          · exact ⟨_, _, rfl⟩
        have hrow : Row w 0 w.heap.size k' bk ok := by
          rcases hslw with rfl | ⟨b, o, e, h⟩
          · simp [flen] at hq
          · cases e; exact h
        obtain ⟨s2, v2, kk, a2, c2, ⟨x2, y2, hd⟩, _, hbB2, hm0, hm1, hm2, hsl⟩ := row_at hrow hq
        have HE : Hid (fat s v k place = fat s2 v2 kk (place.drop (j + 1))) := by
          rw [Hid, HF.out]; simp only [fat]; rw [if_pos (by omega)]
          simp only [Int.toNat_natCast, hd]
        have hks := fsz_kid hd
        have hbw := HAT3.out.below
        have hs3 := HAT3.out.size
        have hn0 : w3.cell? ⟨bk, ok + q * 3, none⟩ = some (.int .i64 s2) := by rw [hbw.cell (by simp; omega)]; exact hm0
        have hn1 : w3.cell? ⟨bk, ok + q * 3 + 1, none⟩ = some (.int .i64 v2) := by rw [hbw.cell (by simp; omega)]; exact hm1
        have hn2 : w3.cell? ⟨bk, ok + q * 3 + 2, none⟩ = some (.slice a2 (flen kk) c2) := by rw [hbw.cell (by simp; omega)]; exact hm2
        have hb0 := HAT3.out.b0
        have hb1 := HAT3.out.b1
        have hb2 := HAT3.out.b2
        have hf0 := HAT3.out.f0
        have hf1 := HAT3.out.f1
        have hf2 := HAT3.out.f2
        have HSTEP := Lib.hid ((HAT3.out.step (s' := s2) (v' := v2) (c' := c2) hsl).low (Below.refl _ _).drew)
        have hu0 : ∀ u : After w3.heap.size w3, u.world.cell? ⟨b, o + j, none⟩ = some (.int .i64 (q : Int)) := fun u => u.cell (by simp; omega) hc3
        have hu1 : ∀ u : After w3.heap.size w3, u.world.cell? ⟨w.heap.size, 2, none⟩ = some (.slice (some ⟨bk, ok, none⟩) (flen k') c') := fun u => u.cell (by simp; omega) hb2
        have hu2 : ∀ u : After w3.heap.size w3, u.world.cell? ⟨bk, ok + q * 3, none⟩ = some (.int .i64 s2) := fun u => u.cell (by simp; omega) hn0
        have hu3 : ∀ u : After w3.heap.size w3, u.world.cell? ⟨bk, ok + q * 3 + 1, none⟩ = some (.int .i64 v2) := fun u => u.cell (by simp; omega) hn1
        have hu4 : ∀ u : After w3.heap.size w3, u.world.cell? ⟨bk, ok + q * 3 + 2, none⟩ = some (.slice a2 (flen kk) c2) := fun u => u.cell (by simp; omega) hn2
        have g3 : (0 : Int) ≤ (q : Int) := by omega
        have g4 : (q : Int) < (flen k' : Int) := by omega
        clear hslw hrow hd hm0 hm1 hm2 hsl hbw hx hn0 hn1 hn2 hc3 HAT3
        go_wp2_with fail
        refine wp_region_mix (fun w' => ∃ u : After w3.heap.size w3, w' = u.world) [8] [(0, 0), (1, 0), (2, 0), (3, 0), (4, 0), (5, 0), (6, 0), (7, 0), (8, 2)] (by kernel_rfl) (by kernel_rfl) ⟨⟨_, (Below.refl _ _).drew⟩, rfl⟩ ?_
        iterate 8
          refine mix_see rfl (fun K hK => ?_)
          go_simp
          refine hK _ ?_
          clear hK K
        clear hu0 hu1 hu2 hu3 hu4
        refine mix_late rfl (fun K hK => ?_)
        go_simp
        refine hK _ _ ?_
        clear hK K
        refine mix_end ?_
        clear hb0 hb1 hb2 hf0 hf1 hf2
        go_wp2_with fail
        go_roundw
        case rel => exact ⟨j + 1, s2, v2, a2, c2, kk, by omega, by go_num, HE.out, by omega, HSTEP.out⟩
        case measure => simp [intOf]; omega
      · have hxd : decide (0 ≤ x ∧ x ≤ (flen k' : Int) - 1) = false := by simpa using hx
        go_wp2_with fail
        refine wp_region_after wr.heap.size (by kernel_rfl) (by kernel_rfl) ?_
        repeat (go_big_quiet_step ((go_at_call 47; exact Calls.after_same (l6In_is hxd))))
        refine wpQuiet_nil ?_
        rintro w3 ⟨⟨_, hu⟩, rfl⟩
        have HAT3 := Lib.hid (HAT.out.low hu)
        have hc3 : w3.cell? ⟨b, o + j, none⟩ = some (.int .i64 x) := cell_low hu hc
        clear hu0 hu1 hc hb2 HAT hu
        clear hxd
        have HE : Hid (fat s v k place = none) := by rw [Hid, HF.out]; simp only [fat]; rw [if_neg (by omega)]
        have hr0 := HAT3.out.r0
        have hr1 := HAT3.out.r1
        have hr2 := HAT3.out.r2
        have hq0 := HAT3.out.q0
        have hq1 := HAT3.out.q1
        have hq2 := HAT3.out.q2
        have HBE := Lib.hid (fun x y z => lat_low HAT3.out.below x y z)
        go_wp2_with fail
        refine bodyPost_ret (v := .tuple #[.agg #[.int .i64 0, .int .i64 0, .slice none 0 0], .bool false]) ?_ rfl ⟨HBE.out _ _ _, .inr ⟨HE.out, rfl⟩⟩
        simp [results, Try.results50, go_sem, hr0, hr1, hr2]
    · have HE : Hid (fat s v k place = some (s', v', k')) := by
        rw [Hid, hf.out, List.drop_eq_nil_of_le (by omega)]; rfl
      have hb0 := hat.b0
      have hb1 := hat.b1
      have hb2 := hat.b2
      have hr0 := hat.r0
      have hr1 := hat.r1
      have hr2 := hat.r2
      have hq0 := hat.q0
      have hq1 := hat.q1
      have hq2 := hat.q2
      have HBE := Lib.hid (fun x y z => lat_low hat.below x y z)
      have HSL := Lib.hid hat.sl
      clear hat hf
      go_wp2_with fail
      refine bodyPost_ret (v := .tuple #[.agg #[.int .i64 s', .int .i64 v', .slice a' (flen k') c'], .bool true]) ?_ rfl ⟨HBE.out _ _ _, .inl ⟨s', v', k', a', c', HE.out, rfl, HSL.out⟩⟩
      simp [results, Try.results50, go_sem, hr0, hr1, hr2]
end Go.Proofs.Ytdkcbbhkoibplaa

/-! SM: l1Same on any two terms. -/
namespace Go.Proofs.Ytdkcbbhkoibplaa
open Go.RowKit Go.Deep

theorem boxes_SM {w wr : World} {x y z x' y' z' : Value} (h : Below (w.heap.size + 2) ((w.alloc (.cells #[x, y, z] 35)).alloc (.cells #[x', y', z'] 35)) wr) :
    wr.cell? ⟨w.heap.size, 2, none⟩ = some z ∧ wr.cell? ⟨w.heap.size + 1, 2, none⟩ = some z' := by
  refine ⟨?_, ?_⟩
  · rw [h.cell (by simp), World.cell?_alloc_lt _ _ _ (by simp), World.cell?_alloc_at _ _ _ _ (by simp)]; rfl
  · rw [h.cell (by simp), World.cell?_alloc_at _ _ _ _ (by simp)]; rfl

set_option maxRecDepth 100000 in
set_option maxHeartbeats 2000000 in
theorem l1Same_any (N : Nat) : ∀ (s v : Int) (a : Option Addr) (c : Nat) (k : Fo) (s' v' : Int) (a' : Option Addr) (c' : Nat) (k' : Fo) (w : World), Sl w 0 w.heap.size a k → Sl w 0 w.heap.size a' k' → fsz k ≤ N → N ≤ 1000000 →
    Calls Try.prog 51 #[.agg #[.int .i64 s, .int .i64 v, .slice a (flen k) c], .agg #[.int .i64 s', .int .i64 v', .slice a' (flen k') c']] w fun e w' => e = .returned (.bool (teq s v k s' v' k')) ∧ Below w.heap.size w w' := by
  induction N using Nat.strongRecOn with
  | _ N ih =>
    intro s v a c k s' v' a' c' k' w hl hl' hN hN2
    have hfl := flen_le_sz k
    have IH := Lib.hid ih
    clear ih
    have hb0 : Below w.heap.size w ((w.alloc (.cells #[.int .i64 s, .int .i64 v, .slice a (flen k) c] 35)).alloc (.cells #[.int .i64 s', .int .i64 v', .slice a' (flen k') c'] 35)) := ((Below.refl _ _).alloc (Nat.le_refl _) _).alloc (by simp) _
    have HB0 := Lib.hid hb0
    clear hb0
    by_cases hs : s = s'
    case neg =>
      have e0 : (s != s') = true := by simp [hs]
      have HF := Lib.hid (teq_sign (v := v) (k := k) (v' := v') (k' := k') hs)
      clear hs
      go_enter Try.func51, Try.ntmps51
      go_wp2_with fail
      go_ret
      exact ⟨by rw [HF.out]; rfl, HB0.out⟩
    subst hs
    have e0 : (s != s) = false := by simp
    by_cases hv : v = v'
    case neg =>
      have e1 : (v != v') = true := by simp [hv]
      have HF := Lib.hid (teq_var (s := s) (k := k) (s' := s) (k' := k') hv)
      clear hv
      go_enter Try.func51, Try.ntmps51
      go_wp2_with fail
      go_ret
      exact ⟨by rw [HF.out]; rfl, HB0.out⟩
    subst hv
    have e1 : (v != v) = false := by simp
    by_cases hk : flen k = flen k'
    case neg =>
      have e2 : ((flen k : Int) != (flen k' : Int)) = true := by simp; omega
      have HF := Lib.hid (teq_len (s := s) (v := v) (s' := s) (v' := v) hk)
      clear hk
      go_enter Try.func51, Try.ntmps51
      go_wp2_with fail
      go_ret
      exact ⟨by rw [HF.out]; rfl, HB0.out⟩
    have e2 : ((flen k : Int) != (flen k' : Int)) = false := by simp [hk]
    have hkl : flen k ≤ flen k' := by omega
    have hkg : flen k' ≤ flen k := by omega
    clear hk
    rw [teq_kids]
    go_enter Try.func51, Try.ntmps51
    go_wp2_with fail
    go_loopw [5] (fun i wr => ∃ j : Nat, j ≤ flen k ∧ i = .int .i64 j ∧ Hid (feq k k' = feq (fdrop j k) (fdrop j k')) ∧ Below (w.heap.size + 2) ((w.alloc (.cells #[.int .i64 s, .int .i64 v, .slice a (flen k) c] 35)).alloc (.cells #[.int .i64 s, .int .i64 v, .slice a' (flen k') c'] 35)) wr) (fun i _ => flen k - (intOf i).toNat)
    case atStart => exact ⟨0, by omega, rfl, rfl, Below.refl _ _⟩
    case round =>
      obtain ⟨j, hj, rfl, hfe, hbl⟩ := hrel
      have hsr := hbl.size
      simp at hsr
      obtain ⟨hx2, hy2⟩ := boxes_SM hbl
      have hbw := HB0.out.trans (hbl.mono (show w.heap.size ≤ w.heap.size + 2 by omega))
      by_cases hlt : j < flen k
      · rcases hl with rfl | ⟨b, o, rfl, hrow⟩
        · simp [flen] at hlt
        rcases hl' with rfl | ⟨b', o', rfl, hrow'⟩
        · simp [flen] at hkl; omega
        obtain ⟨s1, v1, kk, a1, c1, ⟨x, y, hd⟩, _, hbB, hk0, hk1, hk2, hsl⟩ := row_at (hrow.below hbw) hlt
        obtain ⟨s2, v2, kk2, a2, c2, ⟨x2, y2, hd2⟩, _, hbB', hk3, hk4, hk5, hsl2⟩ := row_at (hrow'.below hbw) (show j < flen k' by omega)
        have hfd := feq_drop hd hd2
        have hkN := fsz_kid hd
        have HS := Lib.hid hsl
        have HS2 := Lib.hid hsl2
        have HBL := Lib.hid hbl
        clear hd hd2 hsl hsl2 hrow hrow' hbl hbw
        have g1 : (0 : Int) ≤ (j : Int) := by omega
        have g2 : (j : Int) < (flen k : Int) := by omega
        have g3 : (j : Int) < (flen k' : Int) := by omega
        have hu0 : ∀ u : After wr.heap.size wr, u.world.cell? ⟨b, o + j * 3, none⟩ = some (.int .i64 s1) := fun u => u.cell (by simp; omega) hk0
        have hu1 : ∀ u : After wr.heap.size wr, u.world.cell? ⟨b, o + j * 3 + 1, none⟩ = some (.int .i64 v1) := fun u => u.cell (by simp; omega) hk1
        have hu2 : ∀ u : After wr.heap.size wr, u.world.cell? ⟨b, o + j * 3 + 2, none⟩ = some (.slice a1 (flen kk) c1) := fun u => u.cell (by simp; omega) hk2
        have hu3 : ∀ u : After wr.heap.size wr, u.world.cell? ⟨b', o' + j * 3, none⟩ = some (.int .i64 s2) := fun u => u.cell (by simp; omega) hk3
        have hu4 : ∀ u : After wr.heap.size wr, u.world.cell? ⟨b', o' + j * 3 + 1, none⟩ = some (.int .i64 v2) := fun u => u.cell (by simp; omega) hk4
        have hu5 : ∀ u : After wr.heap.size wr, u.world.cell? ⟨b', o' + j * 3 + 2, none⟩ = some (.slice a2 (flen kk2) c2) := fun u => u.cell (by simp; omega) hk5
        have hu6 : ∀ u : After wr.heap.size wr, u.world.cell? ⟨w.heap.size, 2, none⟩ = some (.slice (some ⟨b, o, none⟩) (flen k) c) := fun u => u.cell (by simp; omega) hx2
        have hu7 : ∀ u : After wr.heap.size wr, u.world.cell? ⟨w.heap.size + 1, 2, none⟩ = some (.slice (some ⟨b', o', none⟩) (flen k') c') := fun u => u.cell (by simp; omega) hy2
        have HCALL : Hid (∀ u : After wr.heap.size wr, Calls Try.prog 51 #[.agg #[.int .i64 s1, .int .i64 v1, .slice a1 (flen kk) c1], .agg #[.int .i64 s2, .int .i64 v2, .slice a2 (flen kk2) c2]] u.world fun e w' => e = .returned (.bool (teq s1 v1 kk s2 v2 kk2)) ∧ Below u.world.heap.size u.world w') := fun u => by
          have hu := u.below
          have hus := hu.size
          refine IH.out (fsz kk) (by omega) s1 v1 a1 c1 kk s2 v2 a2 c2 kk2 u.world ?_ ?_ (Nat.le_refl _) (by omega)
          · exact (HS.out.below (hu.mono (by omega))).mono (Nat.le_refl _) (by omega)
          · exact (HS2.out.below (hu.mono (by omega))).mono (Nat.le_refl _) (by omega)
        cases hte : teq s1 v1 kk s2 v2 kk2 with
        | true =>
          have HFE : Hid (feq k k' = feq (fdrop (j + 1) k) (fdrop (j + 1) k')) := by unfold Hid; rw [hfe.out, hfd, hte, Bool.true_and]
          rw [hte] at HCALL
          clear hfe hfd hte
          go_wp2_with fail
          refine wp_region_after wr.heap.size (by kernel_rfl) (by kernel_rfl) ?_
          repeat (go_big_quiet_step ((go_at_call 51; exact Calls.after (After.below ‹_›).size (HCALL.out _))))
          refine wpQuiet_nil ?_
          rintro u ⟨⟨_, hu⟩, rfl⟩
          clear hu0 hu1 hu2 hu3 hu4 hu5 hu6 hu7 hk0 hk1 hk2 hk3 hk4 hk5 hx2 hy2
          have HB2 := Lib.hid (HBL.out.trans (hu.mono hsr))
          clear hu
          go_wp2_with fail
          go_roundw
          case rel => exact ⟨j + 1, by omega, by go_num, HFE, HB2.out⟩
          case measure => simp [intOf]; omega
        | false =>
          have HFE : Hid (feq k k' = false) := by unfold Hid; rw [hfe.out, hfd, hte, Bool.false_and]
          rw [hte] at HCALL
          clear hfe hfd hte
          go_wp2_with fail
          refine wp_region_after wr.heap.size (by kernel_rfl) (by kernel_rfl) ?_
          repeat (go_big_quiet_step ((go_at_call 51; exact Calls.after (After.below ‹_›).size (HCALL.out _))))
          refine wpQuiet_nil ?_
          rintro u ⟨⟨_, hu⟩, rfl⟩
          clear hu0 hu1 hu2 hu3 hu4 hu5 hu6 hu7 hk0 hk1 hk2 hk3 hk4 hk5 hx2 hy2
          have HB2 := Lib.hid (HB0.out.trans ((HBL.out.trans (hu.mono hsr)).mono (by omega)))
          clear hu
          go_wp2_with fail
          go_ret
          exact ⟨by rw [HFE.out]; rfl, HB2.out⟩
      · have HBW := Lib.hid hbw
        have HFE : Hid (feq k k' = true) := by unfold Hid; rw [hfe.out, fdrop_all (by omega), fdrop_all (by omega)]; rfl
        clear hbw hbl hfe
        go_wp2_with fail
        go_ret
        exact ⟨by rw [HFE.out]; rfl, HBW.out⟩
end Go.Proofs.Ytdkcbbhkoibplaa
