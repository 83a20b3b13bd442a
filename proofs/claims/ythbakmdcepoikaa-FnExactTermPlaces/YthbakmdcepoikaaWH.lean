/- l71Bad. -/
import Derived.Test.YthbakmdcepoikaaWG
namespace Go.Proofs.Ythbakmdcepoikaa
open Go.RowKit Go.Deep

theorem own_same {w w2 : World} {base : Nat} {k : Fo} {j : Nat} {A : Option Addr} {C : Nat} (h : Own w base k j A C) (hs : ∀ b, base ≤ b → b < w.heap.size → w2.heap[b]? = w.heap[b]?) (hsz : w.heap.size ≤ w2.heap.size) : Own w2 base k j A C := by
  obtain ⟨xs, hown, hall⟩ := h
  refine ⟨xs, ⟨hown.1, ?_⟩, fun i hi => ?_⟩
  · rcases hown.2 with h2 | ⟨g, cap, cur, h3, h4, h5, h6⟩
    · exact .inl h2
    · have hg : g < w.heap.size := (hown.lt g (by rw [h3]; rfl)).2
      exact .inr ⟨g, cap, cur, h3, h4, by rw [hs g h4 hg]; exact h5, h6⟩
  · obtain ⟨x, y, s', v', kk, a', c', L, H, e, h0, h1, h2, hsl, hL, hH, hg⟩ := hall i hi
    exact ⟨x, y, s', v', kk, a', c', L, H, e, h0, h1, h2, hsl.same (fun b h1 h2 => hs b (by omega) (by omega)), hL, by omega, hg⟩
theorem Own.adv {w w2 : World} {base br p : Nat} {k : Fo} {j : Nat} {A : Option Addr} {C : Nat} (h : Own w base k j A C) (ha : Adv w br p w2) (hb : br < base) : Own w2 base k j A C :=
  own_same h (fun b h1 h2 => by rw [Below.block ha b h2, Below.heap_setCell _ _ _ _ (by simp; omega)]) ha.size

def fsnoc : Fo → Int × Int → Fo
  | .nil, p => .node 0 0 p .nil .nil
  | .node x y q k r, p => .node x y q k (fsnoc r p)
theorem flen_snoc (p : Int × Int) : ∀ k, flen (fsnoc k p) = flen k + 1
  | .nil => rfl
  | .node _ _ _ _ r => by simp only [fsnoc, flen, flen_snoc p r]
theorem fsz_snoc (p : Int × Int) : ∀ k, fsz (fsnoc k p) = fsz k + 1
  | .nil => rfl
  | .node _ _ _ _ r => by simp only [fsnoc, fsz, fsz_snoc p r]; omega
theorem fdrop_snoc (p : Int × Int) : ∀ (i : Nat) (k : Fo) {x y : Nat} {q : Int × Int} {kk : Fo}, fdrop i k = .node x y q kk (fdrop (i + 1) k) → fdrop i (fsnoc k p) = .node x y q kk (fdrop (i + 1) (fsnoc k p))
  | 0, .nil, _, _, _, _, h => by simp [fdrop] at h
  | 0, .node _ _ _ _ r, _, _, _, _, h => by
    simp only [fdrop, BT.node.injEq] at h
    obtain ⟨rfl, rfl, rfl, rfl, _⟩ := h
    simp [fsnoc, fdrop]
  | i + 1, .nil, _, _, _, _, h => by simp [fdrop] at h
  | i + 1, .node _ _ _ _ r, _, _, _, _, h => by
    simp only [fsnoc, fdrop] at h ⊢
    exact fdrop_snoc p i r h
theorem fdrop_snoc_end (p : Int × Int) : ∀ (k : Fo), fdrop (flen k) (fsnoc k p) = .node 0 0 p .nil (fdrop (flen k + 1) (fsnoc k p))
  | .nil => rfl
  | .node _ _ _ _ r => by simp only [fsnoc, flen, fdrop]; exact fdrop_snoc_end p r

/-- Where l71Bad stands: the term's own cells hold (s, v, (A, n, C)), the result's are as laid. -/
structure BadAt (w : World) (br p : Nat) (s v : Int) (A : Option Addr) (n C : Nat) (wc : World) : Prop where
  adv : Adv w br p wc
  rd : Rd wc br p
  size : w.heap.size + 2 ≤ wc.heap.size
  t0 : wc.cell? ⟨w.heap.size, 0, none⟩ = some (.int .i64 s)
  t1 : wc.cell? ⟨w.heap.size, 1, none⟩ = some (.int .i64 v)
  t2 : wc.cell? ⟨w.heap.size, 2, none⟩ = some (.slice A n C)
  f0 : wc.frozen? ⟨w.heap.size, 0, none⟩ = false
  f1 : wc.frozen? ⟨w.heap.size, 1, none⟩ = false
  f2 : wc.frozen? ⟨w.heap.size, 2, none⟩ = false
  r0 : wc.cell? ⟨w.heap.size + 1, 0, none⟩ = some (.int .i64 0)
  r1 : wc.cell? ⟨w.heap.size + 1, 1, none⟩ = some (.int .i64 0)
  r2 : wc.cell? ⟨w.heap.size + 1, 2, none⟩ = some (.slice none 0 0)
  g0 : wc.frozen? ⟨w.heap.size + 1, 0, none⟩ = false
  g1 : wc.frozen? ⟨w.heap.size + 1, 1, none⟩ = false
  g2 : wc.frozen? ⟨w.heap.size + 1, 2, none⟩ = false

theorem BadAt.start {w : World} {br p : Nat} (hr : Rd w br p) (s v : Int) (a : Option Addr) (n c : Nat) :
    BadAt w br p s v a n c ((w.alloc (.cells #[.int .i64 s, .int .i64 v, .slice a n c] 25)).alloc (.cells #[.int .i64 0, .int .i64 0, .slice none 0 0] 25)) := by
  refine ⟨((Adv.start hr (Below.refl _ _)).alloc _).alloc _, (hr.alloc _).alloc _, by simp, ?_, ?_, ?_, ?_, ?_, ?_, ?_, ?_, ?_, ?_, ?_, ?_⟩
  iterate 3
    · rw [World.cell?_alloc_lt _ _ _ (by simp)]; simp
  iterate 3
    · rw [World.frozen?_alloc_old _ _ _ (by simp)]; simp
  iterate 3
    · rw [World.cell?_alloc_at _ _ _ _ (by simp)]; rfl
  iterate 3
    · rw [World.frozen?_alloc_at _ _ _ _ (by simp)]

theorem BadAt.call {w wc w2 : World} {br p p' : Nat} {s v : Int} {A : Option Addr} {n C : Nat} (h : BadAt w br p s v A n C wc) (hbr : br < w.heap.size) (ha : Adv wc br p' w2) : BadAt w br p' s v A n C w2 := by
  have hs := h.size
  have hs2 := ha.size
  refine ⟨h.adv.trans ha, ha.rd h.rd, by omega, ha.cell h.t0 (by simp; omega), ha.cell h.t1 (by simp; omega), ha.cell h.t2 (by simp; omega), ?_, ?_, ?_, ha.cell h.r0 (by simp; omega), ha.cell h.r1 (by simp; omega), ha.cell h.r2 (by simp; omega), ?_, ?_, ?_⟩
  · rw [ha.frozen (by simp; omega)]; exact h.f0
  · rw [ha.frozen (by simp; omega)]; exact h.f1
  · rw [ha.frozen (by simp; omega)]; exact h.f2
  · rw [ha.frozen (by simp; omega)]; exact h.g0
  · rw [ha.frozen (by simp; omega)]; exact h.g1
  · rw [ha.frozen (by simp; omega)]; exact h.g2
theorem BadAt.more {w wc w2 : World} {br p : Nat} {s v : Int} {A : Option Addr} {n C : Nat} (h : BadAt w br p s v A n C wc) (hbr : br < w.heap.size) (hb : Below wc.heap.size wc w2) : BadAt w br p s v A n C w2 :=
  h.call hbr (Adv.start h.rd hb)
/-- Old memory is as it was, the term's and the result's cells too. -/
theorem BadAt.keep {w wc w2 : World} {br p : Nat} {s v : Int} {A : Option Addr} {n C : Nat} (h : BadAt w br p s v A n C wc) (hbr : br < w.heap.size) (hb : Below (w.heap.size + 2) wc w2) (hs : w.heap.size + 2 ≤ w2.heap.size) : BadAt w br p s v A n C w2 := by
  have hsz := h.size
  refine ⟨Below.trans h.adv (hb.mono (by omega)), ?_, hs, ?_, ?_, ?_, ?_, ?_, ?_, ?_, ?_, ?_, ?_, ?_, ?_⟩
  · refine ⟨by omega, ?_, ?_, ?_⟩
    · rw [hb.cell (by simp; omega)]; exact h.rd.place
    · rw [hb.frozen (by simp; omega)]; exact h.rd.free
    · obtain ⟨a, len, cap, h0, h1, h2⟩ := h.rd.text
      refine ⟨a, len, cap, by rw [hb.cell (by simp; omega)]; exact h0, h1, ?_⟩
      rcases h2 with h2 | ⟨b, o, e, h3, h4⟩
      · exact .inl h2
      · refine .inr ⟨b, o, e, h3, fun i hi => ?_⟩
        obtain ⟨x, hx, hc⟩ := h4 i hi
        exact ⟨x, hx, by rw [hb.cell (by simp; omega)]; exact hc⟩
  · rw [hb.cell (by simp)]; exact h.t0
  · rw [hb.cell (by simp)]; exact h.t1
  · rw [hb.cell (by simp)]; exact h.t2
  · rw [hb.frozen (by simp)]; exact h.f0
  · rw [hb.frozen (by simp)]; exact h.f1
  · rw [hb.frozen (by simp)]; exact h.f2
  · rw [hb.cell (by simp)]; exact h.r0
  · rw [hb.cell (by simp)]; exact h.r1
  · rw [hb.cell (by simp)]; exact h.r2
  · rw [hb.frozen (by simp)]; exact h.g0
  · rw [hb.frozen (by simp)]; exact h.g1
  · rw [hb.frozen (by simp)]; exact h.g2
theorem ne_off {b i j : Nat} (h : i ≠ j) : (⟨b, i, none⟩ : Addr) ≠ ⟨b, j, none⟩ := fun e => h (congrArg Addr.off e)
theorem ne_blk {b c i j : Nat} (h : b ≠ c) : (⟨b, i, none⟩ : Addr) ≠ ⟨c, j, none⟩ := fun e => h (congrArg Addr.block e)
theorem Rd.store {w : World} {br p : Nat} (h : Rd w br p) {q : Addr} (hq : br < q.block) (u : Value) : Rd (w.setCell q u) br p := by
  refine ⟨by simpa using h.lt, ?_, by simpa using h.free, ?_⟩
  · rw [World.cell?_setCell_other _ _ _ _ (fun e => by have := congrArg Addr.block e; simp at this; omega)]; exact h.place
  · obtain ⟨a, len, cap, h0, h1, h2⟩ := h.text
    refine ⟨a, len, cap, by rw [World.cell?_setCell_other _ _ _ _ (fun e => by have := congrArg Addr.block e; simp at this; omega)]; exact h0, h1, ?_⟩
    rcases h2 with h2 | ⟨b, o, e, h3, h4⟩
    · exact .inl h2
    · refine .inr ⟨b, o, e, h3, fun i hi => ?_⟩
      obtain ⟨x, hx, hc⟩ := h4 i hi
      exact ⟨x, hx, by rw [World.cell?_setCell_other _ _ _ _ (fun e => by have := congrArg Addr.block e; simp at this; omega)]; exact hc⟩
theorem BadAt.set0 {w wc : World} {br p : Nat} {s v : Int} {A : Option Addr} {n C : Nat} (h : BadAt w br p s v A n C wc) (hbr : br < w.heap.size) (s' : Int) : BadAt w br p s' v A n C (wc.setCell ⟨w.heap.size, 0, none⟩ (.int .i64 s')) := by
  refine ⟨h.adv.store (by simp) _, h.rd.store (by simpa using hbr) _, by simpa using h.size, World.cell?_setCell_same _ _ _ h.t0, ?_, ?_, ?_, ?_, ?_, ?_, ?_, ?_, ?_, ?_, ?_⟩
  · rw [World.cell?_setCell_other _ _ _ _ (ne_off (by omega))]; exact h.t1
  · rw [World.cell?_setCell_other _ _ _ _ (ne_off (by omega))]; exact h.t2
  · rw [World.frozen?_setCell]; exact h.f0
  · rw [World.frozen?_setCell]; exact h.f1
  · rw [World.frozen?_setCell]; exact h.f2
  · rw [World.cell?_setCell_other _ _ _ _ (ne_blk (by omega))]; exact h.r0
  · rw [World.cell?_setCell_other _ _ _ _ (ne_blk (by omega))]; exact h.r1
  · rw [World.cell?_setCell_other _ _ _ _ (ne_blk (by omega))]; exact h.r2
  · rw [World.frozen?_setCell]; exact h.g0
  · rw [World.frozen?_setCell]; exact h.g1
  · rw [World.frozen?_setCell]; exact h.g2
theorem BadAt.set1 {w wc : World} {br p : Nat} {s v : Int} {A : Option Addr} {n C : Nat} (h : BadAt w br p s v A n C wc) (hbr : br < w.heap.size) (v' : Int) : BadAt w br p s v' A n C (wc.setCell ⟨w.heap.size, 1, none⟩ (.int .i64 v')) := by
  refine ⟨h.adv.store (by simp) _, h.rd.store (by simpa using hbr) _, by simpa using h.size, ?_, World.cell?_setCell_same _ _ _ h.t1, ?_, ?_, ?_, ?_, ?_, ?_, ?_, ?_, ?_, ?_⟩
  · rw [World.cell?_setCell_other _ _ _ _ (ne_off (by omega))]; exact h.t0
  · rw [World.cell?_setCell_other _ _ _ _ (ne_off (by omega))]; exact h.t2
  · rw [World.frozen?_setCell]; exact h.f0
  · rw [World.frozen?_setCell]; exact h.f1
  · rw [World.frozen?_setCell]; exact h.f2
  · rw [World.cell?_setCell_other _ _ _ _ (ne_blk (by omega))]; exact h.r0
  · rw [World.cell?_setCell_other _ _ _ _ (ne_blk (by omega))]; exact h.r1
  · rw [World.cell?_setCell_other _ _ _ _ (ne_blk (by omega))]; exact h.r2
  · rw [World.frozen?_setCell]; exact h.g0
  · rw [World.frozen?_setCell]; exact h.g1
  · rw [World.frozen?_setCell]; exact h.g2
theorem BadAt.set2 {w wc : World} {br p : Nat} {s v : Int} {A A' : Option Addr} {n C n' C' : Nat} (h : BadAt w br p s v A n C wc) (hbr : br < w.heap.size) : BadAt w br p s v A' n' C' (wc.setCell ⟨w.heap.size, 2, none⟩ (.slice A' n' C')) := by
  refine ⟨h.adv.store (by simp) _, h.rd.store (by simpa using hbr) _, by simpa using h.size, ?_, ?_, World.cell?_setCell_same _ _ _ h.t2, ?_, ?_, ?_, ?_, ?_, ?_, ?_, ?_, ?_⟩
  · rw [World.cell?_setCell_other _ _ _ _ (ne_off (by omega))]; exact h.t0
  · rw [World.cell?_setCell_other _ _ _ _ (ne_off (by omega))]; exact h.t1
  · rw [World.frozen?_setCell]; exact h.f0
  · rw [World.frozen?_setCell]; exact h.f1
  · rw [World.frozen?_setCell]; exact h.f2
  · rw [World.cell?_setCell_other _ _ _ _ (ne_blk (by omega))]; exact h.r0
  · rw [World.cell?_setCell_other _ _ _ _ (ne_blk (by omega))]; exact h.r1
  · rw [World.cell?_setCell_other _ _ _ _ (ne_blk (by omega))]; exact h.r2
  · rw [World.frozen?_setCell]; exact h.g0
  · rw [World.frozen?_setCell]; exact h.g1
  · rw [World.frozen?_setCell]; exact h.g2
/-- A store past both. -/
theorem BadAt.far {w wc : World} {br p : Nat} {s v : Int} {A : Option Addr} {n C : Nat} (h : BadAt w br p s v A n C wc) (hbr : br < w.heap.size) {q : Addr} (hq : w.heap.size + 2 ≤ q.block) (u : Value) : BadAt w br p s v A n C (wc.setCell q u) := by
  have hne : ∀ {b i : Nat}, b ≤ w.heap.size + 1 → q ≠ ⟨b, i, none⟩ := fun hb e => by have := congrArg Addr.block e; simp at this; omega
  refine ⟨h.adv.store (by omega) _, h.rd.store (by omega) _, by simpa using h.size, ?_, ?_, ?_, ?_, ?_, ?_, ?_, ?_, ?_, ?_, ?_, ?_⟩
  · rw [World.cell?_setCell_other _ _ _ _ (hne (by omega))]; exact h.t0
  · rw [World.cell?_setCell_other _ _ _ _ (hne (by omega))]; exact h.t1
  · rw [World.cell?_setCell_other _ _ _ _ (hne (by omega))]; exact h.t2
  · rw [World.frozen?_setCell]; exact h.f0
  · rw [World.frozen?_setCell]; exact h.f1
  · rw [World.frozen?_setCell]; exact h.f2
  · rw [World.cell?_setCell_other _ _ _ _ (hne (by omega))]; exact h.r0
  · rw [World.cell?_setCell_other _ _ _ _ (hne (by omega))]; exact h.r1
  · rw [World.cell?_setCell_other _ _ _ _ (hne (by omega))]; exact h.r2
  · rw [World.frozen?_setCell]; exact h.g0
  · rw [World.frozen?_setCell]; exact h.g1
  · rw [World.frozen?_setCell]; exact h.g2
/-- The end: the result's cells are stored. -/
theorem BadAt.done {w wc : World} {br p p' K S : Nat} {s v : Int} {A : Option Addr} {C : Nat} {k : Fo} {x y z : Value} (h : BadAt w br p' s v A (flen k) C wc) (h1 : p ≤ p') (h2 : p' ≤ p + K) (h3 : 1 + fsz k ≤ S) (hl : Sl wc (w.heap.size + 2) wc.heap.size A k) :
    DrawnPost br p K S w (.returned (.agg #[.int .i64 s, .int .i64 v, .slice A (flen k) C])) (((wc.setCell ⟨w.heap.size + 1, 0, none⟩ x).setCell ⟨w.heap.size + 1, 1, none⟩ y).setCell ⟨w.heap.size + 1, 2, none⟩ z) := by
  refine ⟨s, v, A, C, k, p', rfl, h1, h2, h3, ((h.adv.store (by simp) _).store (by simp) _).store (by simp) _, ?_⟩
  have hs : Same (w.heap.size + 2) wc.heap.size wc (((wc.setCell ⟨w.heap.size + 1, 0, none⟩ x).setCell ⟨w.heap.size + 1, 1, none⟩ y).setCell ⟨w.heap.size + 1, 2, none⟩ z) :=
    (((Same.setCell (fun _ _ _ => rfl) (.inl (by simp)) _).setCell (.inl (by simp)) _).setCell (.inl (by simp)) _)
  exact (hl.same hs).mono (by omega) (by simp)

theorem Sl.store {w : World} {lo B : Nat} {A : Option Addr} {k : Fo} (h : Sl w lo B A k) {q : Addr} (hq : q.block < lo) (u : Value) : Sl (w.setCell q u) lo B A k := h.same (Same.setCell (fun _ _ _ => rfl) (.inl hq) _)
theorem Sl.adv {w w2 : World} {lo br p : Nat} {A : Option Addr} {k : Fo} (h : Sl w lo w.heap.size A k) (ha : Adv w br p w2) (hb : br < lo) : Sl w2 lo w2.heap.size A k := (h.same (ha.same (Nat.le_refl _) (.inl hb))).mono (Nat.le_refl _) ha.size
theorem Sl.low {w w2 : World} {lo : Nat} {A : Option Addr} {k : Fo} (h : Sl w lo w.heap.size A k) (hb : Below w.heap.size w w2) : Sl w2 lo w2.heap.size A k := (h.below hb).mono (Nat.le_refl _) hb.size

/-- The first kid is written over. -/
theorem own_put0 {w : World} {base x y : Nat} {p : Int × Int} {kk r : Fo} {g C : Nat} (h : Own w base (.node x y p kk r) (flen r + 1) (some ⟨g, 0, none⟩) C) (s v : Int) :
    Sl (((w.setCell ⟨g, 0, none⟩ (.int .i64 s)).setCell ⟨g, 1, none⟩ (.int .i64 v)).setCell ⟨g, 2, none⟩ (.slice none 0 0)) base w.heap.size (some ⟨g, 0, none⟩) (.node 0 0 (s, v) .nil r) := by
  obtain ⟨xs, hown, hall⟩ := h
  obtain ⟨g', cap, hv, hb, hlt⟩ := hown.form (by omega)
  simp only [Value.slice.injEq, Option.some.injEq, Addr.mk.injEq] at hv
  obtain ⟨⟨rfl, _⟩, _, rfl⟩ := hv
  have hc := hown.cells (g := g) rfl
  have ha : ∀ n, (⟨g, 0, none⟩ : Addr).add n = ⟨g, n, none⟩ := fun n => by unfold Addr.add; split <;> simp_all
  have hcell : ∀ {i u}, xs[i]? = some u → w.cell? ⟨g, i, none⟩ = some u := fun h => by have := hc _ _ h; rwa [ha] at this
  refine .inr ⟨g, 0, rfl, row_of_all _ g 0 hb hlt fun i hi => ?_⟩
  have hsame : ∀ {L H : Nat}, (g < L ∨ H ≤ g) → Same L H w (((w.setCell ⟨g, 0, none⟩ (.int .i64 s)).setCell ⟨g, 1, none⟩ (.int .i64 v)).setCell ⟨g, 2, none⟩ (.slice none 0 0)) := fun hg =>
    ((Same.setCell (fun _ _ _ => rfl) hg _).setCell hg _).setCell hg _
  obtain ⟨x', y', s', v', k', a', c', L, H, e, h0, h1, h2, hs, hL, hH, hg⟩ := hall 0 (by omega)
  cases i with
  | zero =>
    refine ⟨0, 0, s, v, .nil, none, 0, rfl, ?_, ?_, ?_, .inl rfl⟩
    · rw [World.cell?_setCell_other _ _ _ _ (ne_off (by omega)), World.cell?_setCell_other _ _ _ _ (ne_off (by omega))]
      exact World.cell?_setCell_same _ _ _ (hcell h0)
    · rw [World.cell?_setCell_other _ _ _ _ (ne_off (by omega))]
      refine World.cell?_setCell_same _ _ _ (u := .int .i64 v') ?_
      rw [World.cell?_setCell_other _ _ _ _ (ne_off (by omega))]
      exact hcell h1
    · refine World.cell?_setCell_same _ _ _ (u := .slice a' (flen k') c') ?_
      rw [World.cell?_setCell_other _ _ _ _ (ne_off (by omega)), World.cell?_setCell_other _ _ _ _ (ne_off (by omega))]
      exact hcell h2
  | succ i =>
    obtain ⟨x', y', s', v', k', a', c', L, H, e, h0, h1, h2, hs, hL, hH, hg⟩ := hall (i + 1) (by simp [flen] at hi; omega)
    refine ⟨x', y', s', v', k', a', c', ?_, ?_, ?_, ?_, (hs.same (hsame (hg g rfl))).mono hL hH⟩
    · simpa [fdrop] using e
    · rw [World.cell?_setCell_other _ _ _ _ (ne_off (by omega)), World.cell?_setCell_other _ _ _ _ (ne_off (by omega)), World.cell?_setCell_other _ _ _ _ (ne_off (by omega)), Nat.zero_add]
      exact hcell h0
    · rw [World.cell?_setCell_other _ _ _ _ (ne_off (by omega)), World.cell?_setCell_other _ _ _ _ (ne_off (by omega)), World.cell?_setCell_other _ _ _ _ (ne_off (by omega)), Nat.zero_add]
      exact hcell h1
    · rw [World.cell?_setCell_other _ _ _ _ (ne_off (by omega)), World.cell?_setCell_other _ _ _ _ (ne_off (by omega)), World.cell?_setCell_other _ _ _ _ (ne_off (by omega)), Nat.zero_add]
      exact hcell h2
/-- The cells of the first kid. -/
theorem own_first {w : World} {base : Nat} {k : Fo} {n C : Nat} {A : Option Addr} (h : Own w base k n A C) (hn : 0 < n) :
    ∃ g, A = some ⟨g, 0, none⟩ ∧ base ≤ g ∧ g < w.heap.size ∧ (∃ u, w.cell? ⟨g, 0, none⟩ = some u) ∧ (∃ u, w.cell? ⟨g, 1, none⟩ = some u) ∧ (∃ u, w.cell? ⟨g, 2, none⟩ = some u) ∧
      w.frozen? ⟨g, 0, none⟩ = false ∧ w.frozen? ⟨g, 1, none⟩ = false ∧ w.frozen? ⟨g, 2, none⟩ = false := by
  obtain ⟨xs, hown, hall⟩ := h
  obtain ⟨g, cap, hv, hb, hlt⟩ := hown.form hn
  simp only [Value.slice.injEq] at hv
  obtain ⟨rfl, _, rfl⟩ := hv
  have hc := hown.cells (g := g) rfl
  have ha : ∀ n, (⟨g, 0, none⟩ : Addr).add n = ⟨g, n, none⟩ := fun n => by unfold Addr.add; split <;> simp_all
  have hcell : ∀ {i u}, xs[i]? = some u → w.cell? ⟨g, i, none⟩ = some u := fun h => by have := hc _ _ h; rwa [ha] at this
  obtain ⟨x', y', s', v', k', a', c', L, H, e, h0, h1, h2, hs, hL, hH, hg⟩ := hall 0 hn
  have hfz : ∀ i, w.frozen? ⟨g, i, none⟩ = false := fun i => by
    rcases hown.2 with ⟨h, _⟩ | ⟨g', cap', cur, h3, h4, h5, h6⟩
    · simp at h
    · simp only [Value.slice.injEq, Option.some.injEq, Addr.mk.injEq] at h3
      obtain ⟨⟨rfl, _⟩, _⟩ := h3
      simp [World.frozen?, h5]
  exact ⟨g, rfl, hb, hlt, ⟨_, hcell h0⟩, ⟨_, hcell h1⟩, ⟨_, hcell h2⟩, hfz 0, hfz 1, hfz 2⟩

end Go.Proofs.Ythbakmdcepoikaa
