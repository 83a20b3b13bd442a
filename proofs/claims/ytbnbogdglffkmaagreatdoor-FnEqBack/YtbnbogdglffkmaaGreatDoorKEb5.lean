/- Several texts in one: WH, P1, P2, S3. -/
import Derived.Test.YtbnbogdglffkmaaGreatDoorKEb4
import Derived.Maps.AppendAt
import Derived.Deep.AppendLies
import Derived.Laws.OwnMore

/-! WH: l71Bad. -/
namespace Go.Proofs.YtbnbogdglffkmaaGreatDoor
open Go.RowKit Go.Deep

theorem own_same {w w2 : World} {base : Nat} {k : Fo} {j : Nat} {A : Option Addr} {C : Nat} (h : Own w base k j A C) (hs : ∀ b, base ≤ b → b < w.heap.size → w2.heap[b]? = w.heap[b]?) (hsz : w.heap.size ≤ w2.heap.size) : Own w2 base k j A C := by
  obtain ⟨xs, hown, hall⟩ := h
  refine ⟨xs, ⟨hown.1, ?_⟩, fun i hi => ?_⟩
  · rcases hown.2 with h2 | ⟨g, cap, cur, h3, h4, h5, h6⟩
    · exact .inl h2
    · have hg : g < w.heap.size := (hown.lt g (by rw [h3]; rfl)).2
      exact .inr ⟨g, cap, cur, h3, h4, by rw [hs g h4 hg]; exact h5, h6⟩
  · obtain ⟨x, y, s', v', kk, a', c', L, H, e, h0, h1, h2, hsl, hL, hH, hg⟩ := hall i hi
    exact ⟨x, y, s', v', kk, a', c', L, H, e, h0, h1, h2, hsl.same (fun b h1 h2 => hs b (by omega) (by omega)), hL, by omega, hg⟩
theorem Own.adv {w w2 : World} {base br p : Nat} {k : Fo} {j : Nat} {A : Option Addr} {C : Nat} (h : Own w base k j A C) (ha : Adv w br p w2) (hb : br < base) : Own w2 base k j A C :=
  own_same h (fun b h1 h2 => by rw [Below.block ha b h2, Below.heap_setCell _ _ _ _ (by simp; omega)]) ha.size

def fsnoc : Fo → Int × Int → Fo
  | .nil, p => .node 0 0 p .nil .nil
  | .node x y q k r, p => .node x y q k (fsnoc r p)
theorem flen_snoc (p : Int × Int) : ∀ k, flen (fsnoc k p) = flen k + 1
  | .nil => rfl
  | .node _ _ _ _ r => by simp only [fsnoc, flen, flen_snoc p r]
theorem fsz_snoc (p : Int × Int) : ∀ k, fsz (fsnoc k p) = fsz k + 1
  | .nil => rfl
  | .node _ _ _ _ r => by simp only [fsnoc, fsz, fsz_snoc p r]; omega
theorem fdrop_snoc (p : Int × Int) : ∀ (i : Nat) (k : Fo) {x y : Nat} {q : Int × Int} {kk : Fo}, fdrop i k = .node x y q kk (fdrop (i + 1) k) → fdrop i (fsnoc k p) = .node x y q kk (fdrop (i + 1) (fsnoc k p))
  | 0, .nil, _, _, _, _, h => by simp [fdrop] at h
  | 0, .node _ _ _ _ r, _, _, _, _, h => by
    simp only [fdrop, BT.node.injEq] at h
    obtain ⟨rfl, rfl, rfl, rfl, _⟩ := h
    simp [fsnoc, fdrop]
  | i + 1, .nil, _, _, _, _, h => by simp [fdrop] at h
  | i + 1, .node _ _ _ _ r, _, _, _, _, h => by
    simp only [fsnoc, fdrop] at h ⊢
    exact fdrop_snoc p i r h
theorem fdrop_snoc_end (p : Int × Int) : ∀ (k : Fo), fdrop (flen k) (fsnoc k p) = .node 0 0 p .nil (fdrop (flen k + 1) (fsnoc k p))
  | .nil => rfl
  | .node _ _ _ _ r => by simp only [fsnoc, flen, fdrop]; exact fdrop_snoc_end p r

/-- Where l71Bad stands: the term's own cells hold (s, v, (A, n, C)), the result's are as laid. -/
structure BadAt (w : World) (br p : Nat) (s v : Int) (A : Option Addr) (n C : Nat) (wc : World) : Prop where
  adv : Adv w br p wc
  rd : Rd wc br p
  size : w.heap.size + 2 ≤ wc.heap.size
  t0 : wc.cell? ⟨w.heap.size, 0, none⟩ = some (.int .i64 s)
  t1 : wc.cell? ⟨w.heap.size, 1, none⟩ = some (.int .i64 v)
  t2 : wc.cell? ⟨w.heap.size, 2, none⟩ = some (.slice A n C)
  f0 : wc.frozen? ⟨w.heap.size, 0, none⟩ = false
  f1 : wc.frozen? ⟨w.heap.size, 1, none⟩ = false
  f2 : wc.frozen? ⟨w.heap.size, 2, none⟩ = false
  r0 : wc.cell? ⟨w.heap.size + 1, 0, none⟩ = some (.int .i64 0)
  r1 : wc.cell? ⟨w.heap.size + 1, 1, none⟩ = some (.int .i64 0)
  r2 : wc.cell? ⟨w.heap.size + 1, 2, none⟩ = some (.slice none 0 0)
  g0 : wc.frozen? ⟨w.heap.size + 1, 0, none⟩ = false
  g1 : wc.frozen? ⟨w.heap.size + 1, 1, none⟩ = false
  g2 : wc.frozen? ⟨w.heap.size + 1, 2, none⟩ = false

theorem BadAt.start {w : World} {br p : Nat} (hr : Rd w br p) (s v : Int) (a : Option Addr) (n c : Nat) :
    BadAt w br p s v a n c ((w.alloc (.cells #[.int .i64 s, .int .i64 v, .slice a n c] 25)).alloc (.cells #[.int .i64 0, .int .i64 0, .slice none 0 0] 25)) := by
  refine ⟨((Adv.start hr (Below.refl _ _)).alloc _).alloc _, (hr.alloc _).alloc _, by simp, ?_, ?_, ?_, ?_, ?_, ?_, ?_, ?_, ?_, ?_, ?_, ?_⟩
  iterate 3
    · rw [World.cell?_alloc_lt _ _ _ (by simp)]; simp
  iterate 3
    · rw [World.frozen?_alloc_old _ _ _ (by simp)]; simp
  iterate 3
    · rw [World.cell?_alloc_at _ _ _ _ (by simp)]; rfl
  iterate 3
    · rw [World.frozen?_alloc_at _ _ _ _ (by simp)]

theorem BadAt.call {w wc w2 : World} {br p p' : Nat} {s v : Int} {A : Option Addr} {n C : Nat} (h : BadAt w br p s v A n C wc) (hbr : br < w.heap.size) (ha : Adv wc br p' w2) : BadAt w br p' s v A n C w2 := by
  have hs := h.size
  have hs2 := ha.size
  refine ⟨h.adv.trans ha, ha.rd h.rd, by omega, ha.cell h.t0 (by simp; omega), ha.cell h.t1 (by simp; omega), ha.cell h.t2 (by simp; omega), ?_, ?_, ?_, ha.cell h.r0 (by simp; omega), ha.cell h.r1 (by simp; omega), ha.cell h.r2 (by simp; omega), ?_, ?_, ?_⟩
  · rw [ha.frozen (by simp; omega)]; exact h.f0
  · rw [ha.frozen (by simp; omega)]; exact h.f1
  · rw [ha.frozen (by simp; omega)]; exact h.f2
  · rw [ha.frozen (by simp; omega)]; exact h.g0
  · rw [ha.frozen (by simp; omega)]; exact h.g1
  · rw [ha.frozen (by simp; omega)]; exact h.g2
theorem BadAt.more {w wc w2 : World} {br p : Nat} {s v : Int} {A : Option Addr} {n C : Nat} (h : BadAt w br p s v A n C wc) (hbr : br < w.heap.size) (hb : Below wc.heap.size wc w2) : BadAt w br p s v A n C w2 :=
  h.call hbr (Adv.start h.rd hb)
/-- Old memory is as it was, the term's and the result's cells too. -/
theorem BadAt.keep {w wc w2 : World} {br p : Nat} {s v : Int} {A : Option Addr} {n C : Nat} (h : BadAt w br p s v A n C wc) (hbr : br < w.heap.size) (hb : Below (w.heap.size + 2) wc w2) (hs : w.heap.size + 2 ≤ w2.heap.size) : BadAt w br p s v A n C w2 := by
  have hsz := h.size
  refine ⟨Below.trans h.adv (hb.mono (by omega)), ?_, hs, ?_, ?_, ?_, ?_, ?_, ?_, ?_, ?_, ?_, ?_, ?_, ?_⟩
  · refine ⟨by omega, ?_, ?_, ?_⟩
    · rw [hb.cell (by simp; omega)]; exact h.rd.place
    · rw [hb.frozen (by simp; omega)]; exact h.rd.free
    · obtain ⟨a, len, cap, h0, h1, h2⟩ := h.rd.text
      refine ⟨a, len, cap, by rw [hb.cell (by simp; omega)]; exact h0, h1, ?_⟩
      rcases h2 with h2 | ⟨b, o, e, h3, h4⟩
      · exact .inl h2
      · refine .inr ⟨b, o, e, h3, fun i hi => ?_⟩
        obtain ⟨x, hx, hc⟩ := h4 i hi
        exact ⟨x, hx, by rw [hb.cell (by simp; omega)]; exact hc⟩
  · rw [hb.cell (by simp)]; exact h.t0
  · rw [hb.cell (by simp)]; exact h.t1
  · rw [hb.cell (by simp)]; exact h.t2
  · rw [hb.frozen (by simp)]; exact h.f0
  · rw [hb.frozen (by simp)]; exact h.f1
  · rw [hb.frozen (by simp)]; exact h.f2
  · rw [hb.cell (by simp)]; exact h.r0
  · rw [hb.cell (by simp)]; exact h.r1
  · rw [hb.cell (by simp)]; exact h.r2
  · rw [hb.frozen (by simp)]; exact h.g0
  · rw [hb.frozen (by simp)]; exact h.g1
  · rw [hb.frozen (by simp)]; exact h.g2
theorem ne_off {b i j : Nat} (h : i ≠ j) : (⟨b, i, none⟩ : Addr) ≠ ⟨b, j, none⟩ := fun e => h (congrArg Addr.off e)
theorem ne_blk {b c i j : Nat} (h : b ≠ c) : (⟨b, i, none⟩ : Addr) ≠ ⟨c, j, none⟩ := fun e => h (congrArg Addr.block e)
theorem Rd.store {w : World} {br p : Nat} (h : Rd w br p) {q : Addr} (hq : br < q.block) (u : Value) : Rd (w.setCell q u) br p := by
  refine ⟨by simpa using h.lt, ?_, by simpa using h.free, ?_⟩
  · rw [World.cell?_setCell_other _ _ _ _ (fun e => by have := congrArg Addr.block e; simp at this; omega)]; exact h.place
  · obtain ⟨a, len, cap, h0, h1, h2⟩ := h.text
    refine ⟨a, len, cap, by rw [World.cell?_setCell_other _ _ _ _ (fun e => by have := congrArg Addr.block e; simp at this; omega)]; exact h0, h1, ?_⟩
    rcases h2 with h2 | ⟨b, o, e, h3, h4⟩
    · exact .inl h2
    · refine .inr ⟨b, o, e, h3, fun i hi => ?_⟩
      obtain ⟨x, hx, hc⟩ := h4 i hi
      exact ⟨x, hx, by rw [World.cell?_setCell_other _ _ _ _ (fun e => by have := congrArg Addr.block e; simp at this; omega)]; exact hc⟩
theorem BadAt.set0 {w wc : World} {br p : Nat} {s v : Int} {A : Option Addr} {n C : Nat} (h : BadAt w br p s v A n C wc) (hbr : br < w.heap.size) (s' : Int) : BadAt w br p s' v A n C (wc.setCell ⟨w.heap.size, 0, none⟩ (.int .i64 s')) := by
  refine ⟨h.adv.store (by simp) _, h.rd.store (by simpa using hbr) _, by simpa using h.size, World.cell?_setCell_same _ _ _ h.t0, ?_, ?_, ?_, ?_, ?_, ?_, ?_, ?_, ?_, ?_, ?_⟩
  · rw [World.cell?_setCell_other _ _ _ _ (ne_off (by omega))]; exact h.t1
  · rw [World.cell?_setCell_other _ _ _ _ (ne_off (by omega))]; exact h.t2
  · rw [World.frozen?_setCell]; exact h.f0
  · rw [World.frozen?_setCell]; exact h.f1
  · rw [World.frozen?_setCell]; exact h.f2
  · rw [World.cell?_setCell_other _ _ _ _ (ne_blk (by omega))]; exact h.r0
  · rw [World.cell?_setCell_other _ _ _ _ (ne_blk (by omega))]; exact h.r1
  · rw [World.cell?_setCell_other _ _ _ _ (ne_blk (by omega))]; exact h.r2
  · rw [World.frozen?_setCell]; exact h.g0
  · rw [World.frozen?_setCell]; exact h.g1
  · rw [World.frozen?_setCell]; exact h.g2
theorem BadAt.set1 {w wc : World} {br p : Nat} {s v : Int} {A : Option Addr} {n C : Nat} (h : BadAt w br p s v A n C wc) (hbr : br < w.heap.size) (v' : Int) : BadAt w br p s v' A n C (wc.setCell ⟨w.heap.size, 1, none⟩ (.int .i64 v')) := by
  refine ⟨h.adv.store (by simp) _, h.rd.store (by simpa using hbr) _, by simpa using h.size, ?_, World.cell?_setCell_same _ _ _ h.t1, ?_, ?_, ?_, ?_, ?_, ?_, ?_, ?_, ?_, ?_⟩
  · rw [World.cell?_setCell_other _ _ _ _ (ne_off (by omega))]; exact h.t0
  · rw [World.cell?_setCell_other _ _ _ _ (ne_off (by omega))]; exact h.t2
  · rw [World.frozen?_setCell]; exact h.f0
  · rw [World.frozen?_setCell]; exact h.f1
  · rw [World.frozen?_setCell]; exact h.f2
  · rw [World.cell?_setCell_other _ _ _ _ (ne_blk (by omega))]; exact h.r0
  · rw [World.cell?_setCell_other _ _ _ _ (ne_blk (by omega))]; exact h.r1
  · rw [World.cell?_setCell_other _ _ _ _ (ne_blk (by omega))]; exact h.r2
  · rw [World.frozen?_setCell]; exact h.g0
  · rw [World.frozen?_setCell]; exact h.g1
  · rw [World.frozen?_setCell]; exact h.g2
theorem BadAt.set2 {w wc : World} {br p : Nat} {s v : Int} {A A' : Option Addr} {n C n' C' : Nat} (h : BadAt w br p s v A n C wc) (hbr : br < w.heap.size) : BadAt w br p s v A' n' C' (wc.setCell ⟨w.heap.size, 2, none⟩ (.slice A' n' C')) := by
  refine ⟨h.adv.store (by simp) _, h.rd.store (by simpa using hbr) _, by simpa using h.size, ?_, ?_, World.cell?_setCell_same _ _ _ h.t2, ?_, ?_, ?_, ?_, ?_, ?_, ?_, ?_, ?_⟩
  · rw [World.cell?_setCell_other _ _ _ _ (ne_off (by omega))]; exact h.t0
  · rw [World.cell?_setCell_other _ _ _ _ (ne_off (by omega))]; exact h.t1
  · rw [World.frozen?_setCell]; exact h.f0
  · rw [World.frozen?_setCell]; exact h.f1
  · rw [World.frozen?_setCell]; exact h.f2
  · rw [World.cell?_setCell_other _ _ _ _ (ne_blk (by omega))]; exact h.r0
  · rw [World.cell?_setCell_other _ _ _ _ (ne_blk (by omega))]; exact h.r1
  · rw [World.cell?_setCell_other _ _ _ _ (ne_blk (by omega))]; exact h.r2
  · rw [World.frozen?_setCell]; exact h.g0
  · rw [World.frozen?_setCell]; exact h.g1
  · rw [World.frozen?_setCell]; exact h.g2
/-- A store past both. -/
theorem BadAt.far {w wc : World} {br p : Nat} {s v : Int} {A : Option Addr} {n C : Nat} (h : BadAt w br p s v A n C wc) (hbr : br < w.heap.size) {q : Addr} (hq : w.heap.size + 2 ≤ q.block) (u : Value) : BadAt w br p s v A n C (wc.setCell q u) := by
  have hne : ∀ {b i : Nat}, b ≤ w.heap.size + 1 → q ≠ ⟨b, i, none⟩ := fun hb e => by have := congrArg Addr.block e; simp at this; omega
  refine ⟨h.adv.store (by omega) _, h.rd.store (by omega) _, by simpa using h.size, ?_, ?_, ?_, ?_, ?_, ?_, ?_, ?_, ?_, ?_, ?_, ?_⟩
  · rw [World.cell?_setCell_other _ _ _ _ (hne (by omega))]; exact h.t0
  · rw [World.cell?_setCell_other _ _ _ _ (hne (by omega))]; exact h.t1
  · rw [World.cell?_setCell_other _ _ _ _ (hne (by omega))]; exact h.t2
  · rw [World.frozen?_setCell]; exact h.f0
  · rw [World.frozen?_setCell]; exact h.f1
  · rw [World.frozen?_setCell]; exact h.f2
  · rw [World.cell?_setCell_other _ _ _ _ (hne (by omega))]; exact h.r0
  · rw [World.cell?_setCell_other _ _ _ _ (hne (by omega))]; exact h.r1
  · rw [World.cell?_setCell_other _ _ _ _ (hne (by omega))]; exact h.r2
  · rw [World.frozen?_setCell]; exact h.g0
  · rw [World.frozen?_setCell]; exact h.g1
  · rw [World.frozen?_setCell]; exact h.g2
/-- The end: the result's cells are stored. -/
theorem BadAt.done {w wc : World} {br p p' K S : Nat} {s v : Int} {A : Option Addr} {C : Nat} {k : Fo} {x y z : Value} (h : BadAt w br p' s v A (flen k) C wc) (h1 : p ≤ p') (h2 : p' ≤ p + K) (h3 : 1 + fsz k ≤ S) (hl : Sl wc (w.heap.size + 2) wc.heap.size A k) :
    DrawnPost br p K S w (.returned (.agg #[.int .i64 s, .int .i64 v, .slice A (flen k) C])) (((wc.setCell ⟨w.heap.size + 1, 0, none⟩ x).setCell ⟨w.heap.size + 1, 1, none⟩ y).setCell ⟨w.heap.size + 1, 2, none⟩ z) := by
  refine ⟨s, v, A, C, k, p', rfl, h1, h2, h3, ((h.adv.store (by simp) _).store (by simp) _).store (by simp) _, ?_⟩
  have hs : Same (w.heap.size + 2) wc.heap.size wc (((wc.setCell ⟨w.heap.size + 1, 0, none⟩ x).setCell ⟨w.heap.size + 1, 1, none⟩ y).setCell ⟨w.heap.size + 1, 2, none⟩ z) :=
    (((Same.setCell (fun _ _ _ => rfl) (.inl (by simp)) _).setCell (.inl (by simp)) _).setCell (.inl (by simp)) _)
  exact (hl.same hs).mono (by omega) (by simp)

theorem Sl.store {w : World} {lo B : Nat} {A : Option Addr} {k : Fo} (h : Sl w lo B A k) {q : Addr} (hq : q.block < lo) (u : Value) : Sl (w.setCell q u) lo B A k := h.same (Same.setCell (fun _ _ _ => rfl) (.inl hq) _)
theorem Sl.adv {w w2 : World} {lo br p : Nat} {A : Option Addr} {k : Fo} (h : Sl w lo w.heap.size A k) (ha : Adv w br p w2) (hb : br < lo) : Sl w2 lo w2.heap.size A k := (h.same (ha.same (Nat.le_refl _) (.inl hb))).mono (Nat.le_refl _) ha.size
theorem Sl.low {w w2 : World} {lo : Nat} {A : Option Addr} {k : Fo} (h : Sl w lo w.heap.size A k) (hb : Below w.heap.size w w2) : Sl w2 lo w2.heap.size A k := (h.below hb).mono (Nat.le_refl _) hb.size

/-- The first kid is written over. -/
theorem own_put0 {w : World} {base x y : Nat} {p : Int × Int} {kk r : Fo} {g C : Nat} (h : Own w base (.node x y p kk r) (flen r + 1) (some ⟨g, 0, none⟩) C) (s v : Int) :
    Sl (((w.setCell ⟨g, 0, none⟩ (.int .i64 s)).setCell ⟨g, 1, none⟩ (.int .i64 v)).setCell ⟨g, 2, none⟩ (.slice none 0 0)) base w.heap.size (some ⟨g, 0, none⟩) (.node 0 0 (s, v) .nil r) := by
  obtain ⟨xs, hown, hall⟩ := h
  obtain ⟨g', cap, hv, hb, hlt⟩ := hown.form (by omega)
  simp only [Value.slice.injEq, Option.some.injEq, Addr.mk.injEq] at hv
  obtain ⟨⟨rfl, _⟩, _, rfl⟩ := hv
  have hc := hown.cells (g := g) rfl
  have ha : ∀ n, (⟨g, 0, none⟩ : Addr).add n = ⟨g, n, none⟩ := fun n => by unfold Addr.add; split <;> simp_all
  have hcell : ∀ {i u}, xs[i]? = some u → w.cell? ⟨g, i, none⟩ = some u := fun h => by have := hc _ _ h; rwa [ha] at this
  refine .inr ⟨g, 0, rfl, row_of_all _ g 0 hb hlt fun i hi => ?_⟩
  have hsame : ∀ {L H : Nat}, (g < L ∨ H ≤ g) → Same L H w (((w.setCell ⟨g, 0, none⟩ (.int .i64 s)).setCell ⟨g, 1, none⟩ (.int .i64 v)).setCell ⟨g, 2, none⟩ (.slice none 0 0)) := fun hg =>
    ((Same.setCell (fun _ _ _ => rfl) hg _).setCell hg _).setCell hg _
  obtain ⟨x', y', s', v', k', a', c', L, H, e, h0, h1, h2, hs, hL, hH, hg⟩ := hall 0 (by omega)
  cases i with
  | zero =>
    refine ⟨0, 0, s, v, .nil, none, 0, rfl, ?_, ?_, ?_, .inl rfl⟩
    · rw [World.cell?_setCell_other _ _ _ _ (ne_off (by omega)), World.cell?_setCell_other _ _ _ _ (ne_off (by omega))]
      exact World.cell?_setCell_same _ _ _ (hcell h0)
    · rw [World.cell?_setCell_other _ _ _ _ (ne_off (by omega))]
      refine World.cell?_setCell_same _ _ _ (u := .int .i64 v') ?_
      rw [World.cell?_setCell_other _ _ _ _ (ne_off (by omega))]
      exact hcell h1
    · refine World.cell?_setCell_same _ _ _ (u := .slice a' (flen k') c') ?_
      rw [World.cell?_setCell_other _ _ _ _ (ne_off (by omega)), World.cell?_setCell_other _ _ _ _ (ne_off (by omega))]
      exact hcell h2
  | succ i =>
    obtain ⟨x', y', s', v', k', a', c', L, H, e, h0, h1, h2, hs, hL, hH, hg⟩ := hall (i + 1) (by simp [flen] at hi; omega)
    refine ⟨x', y', s', v', k', a', c', ?_, ?_, ?_, ?_, (hs.same (hsame (hg g rfl))).mono hL hH⟩
    · simpa [fdrop] using e
    · rw [World.cell?_setCell_other _ _ _ _ (ne_off (by omega)), World.cell?_setCell_other _ _ _ _ (ne_off (by omega)), World.cell?_setCell_other _ _ _ _ (ne_off (by omega)), Nat.zero_add]
      exact hcell h0
    · rw [World.cell?_setCell_other _ _ _ _ (ne_off (by omega)), World.cell?_setCell_other _ _ _ _ (ne_off (by omega)), World.cell?_setCell_other _ _ _ _ (ne_off (by omega)), Nat.zero_add]
      exact hcell h1
    · rw [World.cell?_setCell_other _ _ _ _ (ne_off (by omega)), World.cell?_setCell_other _ _ _ _ (ne_off (by omega)), World.cell?_setCell_other _ _ _ _ (ne_off (by omega)), Nat.zero_add]
      exact hcell h2
/-- The cells of the first kid. -/
theorem own_first {w : World} {base : Nat} {k : Fo} {n C : Nat} {A : Option Addr} (h : Own w base k n A C) (hn : 0 < n) :
    ∃ g, A = some ⟨g, 0, none⟩ ∧ base ≤ g ∧ g < w.heap.size ∧ (∃ u, w.cell? ⟨g, 0, none⟩ = some u) ∧ (∃ u, w.cell? ⟨g, 1, none⟩ = some u) ∧ (∃ u, w.cell? ⟨g, 2, none⟩ = some u) ∧
      w.frozen? ⟨g, 0, none⟩ = false ∧ w.frozen? ⟨g, 1, none⟩ = false ∧ w.frozen? ⟨g, 2, none⟩ = false := by
  obtain ⟨xs, hown, hall⟩ := h
  obtain ⟨g, cap, hv, hb, hlt⟩ := hown.form hn
  simp only [Value.slice.injEq] at hv
  obtain ⟨rfl, _, rfl⟩ := hv
  have hc := hown.cells (g := g) rfl
  have ha : ∀ n, (⟨g, 0, none⟩ : Addr).add n = ⟨g, n, none⟩ := fun n => by unfold Addr.add; split <;> simp_all
  have hcell : ∀ {i u}, xs[i]? = some u → w.cell? ⟨g, i, none⟩ = some u := fun h => by have := hc _ _ h; rwa [ha] at this
  obtain ⟨x', y', s', v', k', a', c', L, H, e, h0, h1, h2, hs, hL, hH, hg⟩ := hall 0 hn
  have hfz : ∀ i, w.frozen? ⟨g, i, none⟩ = false := fun i => by
    rcases hown.2 with ⟨h, _⟩ | ⟨g', cap', cur, h3, h4, h5, h6⟩
    · simp at h
    · simp only [Value.slice.injEq, Option.some.injEq, Addr.mk.injEq] at h3
      obtain ⟨⟨rfl, _⟩, _⟩ := h3
      simp [World.frozen?, h5]
  exact ⟨g, rfl, hb, hlt, ⟨_, hcell h0⟩, ⟨_, hcell h1⟩, ⟨_, hcell h2⟩, hfz 0, hfz 1, hfz 2⟩

end Go.Proofs.YtbnbogdglffkmaaGreatDoor

/-! P1: Rows of numbers and rows of rows; an append whose source may be nil or empty. Definitions and plain lemmas. -/
namespace Go.Proofs.YtbnbogdglffkmaaGreatDoor
open Go.RowKit Go.Deep

/-- A slice's address at which the numbers xs lie. -/
def ISl (w : World) (lo B : Nat) (a : Option Addr) (xs : List Int) : Prop :=
  xs = [] ∨ ∃ b o, a = some ⟨b, o, none⟩ ∧ lo ≤ b ∧ b < B ∧ ∀ i x, xs[i]? = some x → w.cell? ⟨b, o + i, none⟩ = some (.int .i64 x)
theorem ISl.same {w w' : World} {lo B : Nat} {a : Option Addr} {xs : List Int} (hb : Same lo B w w') (h : ISl w lo B a xs) : ISl w' lo B a xs := by
  rcases h with h | ⟨b, o, e, h1, h2, h3⟩
  · exact .inl h
  · exact .inr ⟨b, o, e, h1, h2, fun i x hx => by rw [hb.cell h1 h2]; exact h3 i x hx⟩
theorem ISl.mono {w : World} {lo lo' B B' : Nat} {a : Option Addr} {xs : List Int} (hlo : lo' ≤ lo) (hB : B ≤ B') (h : ISl w lo B a xs) : ISl w lo' B' a xs := by
  rcases h with h | ⟨b, o, e, h1, h2, h3⟩
  · exact .inl h
  · exact .inr ⟨b, o, e, by omega, by omega, h3⟩
theorem ISl.below {w w' : World} {lo B : Nat} {a : Option Addr} {xs : List Int} (hb : Below B w w') (h : ISl w lo B a xs) : ISl w' lo B a xs := h.same (Same.of_below hb)
/-- .. and no more than it has room for. -/
def ISc (w : World) (lo B : Nat) (a : Option Addr) (c : Nat) (xs : List Int) : Prop := ISl w lo B a xs ∧ xs.length ≤ c
theorem ISc.same {w w' : World} {lo B : Nat} {a : Option Addr} {c : Nat} {xs : List Int} (hb : Same lo B w w') (h : ISc w lo B a c xs) : ISc w' lo B a c xs := ⟨h.1.same hb, h.2⟩
theorem ISc.mono {w : World} {lo lo' B B' : Nat} {a : Option Addr} {c : Nat} {xs : List Int} (hlo : lo' ≤ lo) (hB : B ≤ B') (h : ISc w lo B a c xs) : ISc w lo' B' a c xs := ⟨h.1.mono hlo hB, h.2⟩
/-- .. the rows. -/
def RSl (w : World) (lo B : Nat) (a : Option Addr) (rows : List (List Int)) : Prop :=
  rows = [] ∨ ∃ b o, a = some ⟨b, o, none⟩ ∧ lo ≤ b ∧ b < B ∧ ∀ i r, rows[i]? = some r → ∃ a' c', w.cell? ⟨b, o + i, none⟩ = some (.slice a' r.length c') ∧ ISc w lo B a' c' r

theorem RSl.same {w w' : World} {lo B : Nat} {a : Option Addr} {rows : List (List Int)} (hb : Same lo B w w') (h : RSl w lo B a rows) : RSl w' lo B a rows := by
  rcases h with h | ⟨b, o, e, h1, h2, h3⟩
  · exact .inl h
  · refine .inr ⟨b, o, e, h1, h2, fun i x hx => ?_⟩
    obtain ⟨a', c', hc, hi⟩ := h3 i x hx
    exact ⟨a', c', by rw [hb.cell h1 h2]; exact hc, hi.same hb⟩
theorem RSl.mono {w : World} {lo lo' B B' : Nat} {a : Option Addr} {rows : List (List Int)} (hlo : lo' ≤ lo) (hB : B ≤ B') (h : RSl w lo B a rows) : RSl w lo' B' a rows := by
  rcases h with h | ⟨b, o, e, h1, h2, h3⟩
  · exact .inl h
  · refine .inr ⟨b, o, e, by omega, by omega, fun i x hx => ?_⟩
    obtain ⟨a', c', hc, hi⟩ := h3 i x hx
    exact ⟨a', c', hc, hi.mono hlo hB⟩
theorem RSl.below {w w' : World} {lo B : Nat} {a : Option Addr} {rows : List (List Int)} (hb : Below B w w') (h : RSl w lo B a rows) : RSl w' lo B a rows := h.same (Same.of_below hb)

/-- The positions of the terms of a row, the first of which is number i. -/
def fpl : Fo → Nat → List (List Int)
  | .nil, _ => []
  | .node _ _ _ k r, i => (([] :: fpl k 0).map fun p => (i : Int) :: p) ++ fpl r (i + 1)
/-- The positions of a term. -/
def places (k : Fo) : List (List Int) := [] :: fpl k 0

/-- The source of an append. -/
def Src (w : World) (size : Nat) (A : Option Addr) (m : Nat) (news : List Value) : Prop :=
  news.length = m * size ∧ ((A = none ∧ m = 0) ∨ ∃ ad, A = some ad ∧ ∀ j u, news[j]? = some u → w.cell? (ad.add j) = some u)

section
variable {P : Program} (w : World)
theorem run_append_nil_src (t ty e : TypeId) (i : TypeInfo) (ht : P.underlying t = some (.slice e)) (hi : P.info? e = some i) (base size : Nat) (v : Value) (n : Nat) (xs : List Value) (hown : w.ownsRow base e size v n xs) (c : Nat) :
    (Builtin.append_ #[t, t] ty #[v, .slice none 0 c]).run P w = .ok v w := by
  rcases hown.2 with ⟨rfl, rfl⟩ | ⟨g, cap, cur, rfl, _, _, hnc, _⟩
  · simp [Builtin.append_, Builtin.lenOf, Builtin.firstCells, sizeOf, typeInfo, run_underlying ht, hi]
  · simp [Builtin.append_, Builtin.lenOf, Builtin.firstCells, sizeOf, typeInfo, storeCells, run_underlying ht, hi, hnc]

/-- append onto a row of the call's own, from whatever source; where the new row lies. -/
theorem run_append_src (t ty : TypeId) (base : Nat) (e : TypeId) (i : TypeInfo) (z : Value) (size bytes : Nat) (ht : P.underlying t = some (.slice e)) (hi : P.info? e = some i) (hz : i.zero = some z)
    (hsize : i.size = size) (hby : i.bytes = bytes) (hzs : z.cells.size = size) (hsz : 0 < size)
    (v : Value) (n : Nat) (xs : List Value) (hown : w.ownsRow base e size v n xs) (A : Option Addr) (m c : Nat) (news : List Value) (hsrc : Src w size A m news) (h1 : ∀ u ∈ news, u.oneCell' = true)
    (h63 : n + m ≤ maxLen) (hbytes : (n + m) * bytes ≤ 140737488355328) (hbase : base ≤ w.heap.size) :
    ∃ A' C' w', (Builtin.append_ #[t, t] ty #[v, .slice A m c]).run P w = .ok (.slice A' (n + m) C') w' ∧
      w'.ownsRow base e size (.slice A' (n + m) C') (n + m) (xs ++ news) ∧ w.grownBy w' v.ownBlock ∧ ((Value.slice A' (n + m) C').ownBlock = v.ownBlock ∨ (Value.slice A' (n + m) C').ownBlock = some w.heap.size) := by
  have form : ∀ {w' : World} {v' : Value} {n' : Nat} {ys : List Value}, w'.ownsRow base e size v' n' ys → ∃ A C, v' = .slice A n' C := fun h => by
    rcases h.2 with ⟨rfl, rfl⟩ | ⟨g, cap, cur, rfl, _⟩
    · exact ⟨none, 0, rfl⟩
    · exact ⟨_, _, rfl⟩
  rcases hsrc with ⟨hlen, ⟨rfl, rfl⟩ | ⟨ad, rfl, hc⟩⟩
  · have hn : news = [] := List.eq_nil_of_length_eq_zero (by simpa using hlen)
    subst hn
    obtain ⟨A', C', rfl⟩ := form hown
    refine ⟨A', C', w, run_append_nil_src w t ty e i ht hi base size _ n xs hown c, by simpa using hown, ⟨rfl, rfl, rfl, Nat.le_refl _, fun _ _ _ => rfl⟩, .inl rfl⟩
  · obtain ⟨v', w', hr, h2, h3, _, h5⟩ := run_append_own_at (P := P) w base t ty e i z size bytes ht hi hz hsize hby hzs hsz v n xs hown ad m c news hlen hc h1 h63 hbytes hbase
    obtain ⟨A', C', rfl⟩ := form h2
    exact ⟨A', C', w', hr, h2, h3, h5⟩

theorem wp_append_src {o : Oper} {a : Act} {K : Act → World → Prop} {Q : Exit → Act → World → Prop} (s x : Operand) (t : TypeId) (ho : o.op = .call { callee := .builtin .append, args := #[s, x], argTypes := #[t, t] })
    (base : Nat) (e : TypeId) (i : TypeInfo) (z : Value) (size bytes : Nat) (ht : P.underlying t = some (.slice e)) (hi : P.info? e = some i) (hz : i.zero = some z)
    (hsize : i.size = size) (hby : i.bytes = bytes) (hzs : z.cells.size = size) (hsz : 0 < size)
    (v : Value) (n : Nat) (xs : List Value) (hs : a.eval s = v) (hown : w.ownsRow base e size v n xs) (A : Option Addr) (m c : Nat) (news : List Value) (hx : a.eval x = .slice A m c) (hsrc : Src w size A m news) (h1 : ∀ u ∈ news, u.oneCell' = true)
    (h63 : n + m ≤ maxLen) (hbytes : (n + m) * bytes ≤ 140737488355328) (hbase : base ≤ w.heap.size)
    (h : ∀ A' C' w', w'.ownsRow base e size (.slice A' (n + m) C') (n + m) (xs ++ news) → w.grownBy w' v.ownBlock → ((Value.slice A' (n + m) C').ownBlock = v.ownBlock ∨ (Value.slice A' (n + m) C').ownBlock = some w.heap.size) → K (a.put o.dst (.slice A' (n + m) C')) w') : o.wp P a w K Q := by
  obtain ⟨A', C', w', hr, h2, h3, h4⟩ := run_append_src (P := P) w t o.type base e i z size bytes ht hi hz hsize hby hzs hsz v n xs hown A m c news hsrc h1 h63 hbytes hbase
  unfold Oper.wp execOp
  simp only [ho, resolve, invoke, builtin, Sem.run_bind, Sem.run_pure, Result.andThen_ok, List.map_toArray, List.map_cons, List.map_nil, hs, hx, hr]
  exact h A' C' w' h2 h3 h4
theorem wpList_append_src {ops : Array Oper} {rest : List Oper} {o : Oper} {a : Act} {Q : Exit → Act → World → Prop} (hgd : o.guard = none) (s x : Operand) (t : TypeId) (ho : o.op = .call { callee := .builtin .append, args := #[s, x], argTypes := #[t, t] })
    (base : Nat) (e : TypeId) (i : TypeInfo) (z : Value) (size bytes : Nat) (ht : P.underlying t = some (.slice e)) (hi : P.info? e = some i) (hz : i.zero = some z)
    (hsize : i.size = size) (hby : i.bytes = bytes) (hzs : z.cells.size = size) (hsz : 0 < size)
    (v : Value) (n : Nat) (xs : List Value) (hs : a.eval s = v) (hown : w.ownsRow base e size v n xs) (A : Option Addr) (m c : Nat) (news : List Value) (hx : a.eval x = .slice A m c) (hsrc : Src w size A m news) (h1 : ∀ u ∈ news, u.oneCell' = true)
    (h63 : n + m ≤ maxLen) (hbytes : (n + m) * bytes ≤ 140737488355328) (hbase : base ≤ w.heap.size)
    (h : ∀ A' C' w', w'.ownsRow base e size (.slice A' (n + m) C') (n + m) (xs ++ news) → w.grownBy w' v.ownBlock → ((Value.slice A' (n + m) C').ownBlock = v.ownBlock ∨ (Value.slice A' (n + m) C').ownBlock = some w.heap.size) → wpList P ops Q rest (a.put o.dst (.slice A' (n + m) C')) w') : wpList P ops Q (o :: rest) a w :=
  wpList_plain hgd fun _ hK => wp_append_src w s x t ho base e i z size bytes ht hi hz hsize hby hzs hsz v n xs hs hown A m c news hx hsrc h1 h63 hbytes hbase fun A' C' w' h2 h3 h4 => hK _ _ (h A' C' w' h2 h3 h4)
theorem step_append_src {ops : Array Oper} {o : Oper} {a : Act} {K : Act → World → Prop} {Q : Exit → Act → World → Prop} {E : Prop} (hgd : o.guard = none) (s x : Operand) (t : TypeId) (ho : o.op = .call { callee := .builtin .append, args := #[s, x], argTypes := #[t, t] })
    (base : Nat) (e : TypeId) (i : TypeInfo) (z : Value) (size bytes : Nat) (ht : P.underlying t = some (.slice e)) (hi : P.info? e = some i) (hz : i.zero = some z)
    (hsize : i.size = size) (hby : i.bytes = bytes) (hzs : z.cells.size = size) (hsz : 0 < size)
    (v : Value) (n : Nat) (xs : List Value) (hs : a.eval s = v) (hown : w.ownsRow base e size v n xs) (A : Option Addr) (m c : Nat) (news : List Value) (hx : a.eval x = .slice A m c) (hsrc : Src w size A m news) (h1 : ∀ u ∈ news, u.oneCell' = true)
    (h63 : n + m ≤ maxLen) (hbytes : (n + m) * bytes ≤ 140737488355328) (hbase : base ≤ w.heap.size)
    (h : ∀ A' C' w', w'.ownsRow base e size (.slice A' (n + m) C') (n + m) (xs ++ news) → w.grownBy w' v.ownBlock → ((Value.slice A' (n + m) C').ownBlock = v.ownBlock ∨ (Value.slice A' (n + m) C').ownBlock = some w.heap.size) → K (a.put o.dst (.slice A' (n + m) C')) w') :
    if Region.wanted o (yielded ops a.tmps) = true then Oper.wp P o a w K Q else E := by
  have hw : Region.wanted o (yielded ops a.tmps) = true := by simp [Region.wanted, hgd]
  rw [if_pos hw]
  exact wp_append_src w s x t ho base e i z size bytes ht hi hz hsize hby hzs hsz v n xs hs hown A m c news hx hsrc h1 h63 hbytes hbase h
end

theorem Tryz.infoI : ∃ i, Tryz.prog.info? 3 = some i ∧ i.zero = some (.int .i64 0) ∧ i.size = 1 ∧ i.bytes = 8 := by
  have h : (Tryz.prog.info? 3).map (fun i => (i.zero, i.size, i.bytes)) = some (some (.int .i64 0), 1, 8) := by kernel_rfl
  obtain ⟨i, hi, hz⟩ := Option.map_eq_some_iff.1 h
  simp only [Prod.mk.injEq] at hz
  exact ⟨i, hi, hz.1, hz.2.1, hz.2.2⟩
theorem Tryz.infoIS : ∃ i, Tryz.prog.info? 71 = some i ∧ i.zero = some (.slice none 0 0) ∧ i.size = 1 ∧ i.bytes = 24 := by
  have h : (Tryz.prog.info? 71).map (fun i => (i.zero, i.size, i.bytes)) = some (some (.slice none 0 0), 1, 24) := by kernel_rfl
  obtain ⟨i, hi, hz⟩ := Option.map_eq_some_iff.1 h
  simp only [Prod.mk.injEq] at hz
  exact ⟨i, hi, hz.1, hz.2.1, hz.2.2⟩
end Go.Proofs.YtbnbogdglffkmaaGreatDoor

/-! P2: - kidsOf; rows of the call's own. -/
namespace Go.Proofs.YtbnbogdglffkmaaGreatDoor
open Go.RowKit Go.Deep

def KidsPost (B : Nat) (k : Fo) (w : World) (e : Ending) (w' : World) : Prop := ∃ a c, e = .returned (.slice a (flen k) c) ∧ Below w.heap.size w w' ∧ NSl w 0 B a k

theorem assert_var (v : Int) (w : World) : (Instr.typeAssert (.iface 80 (.int .i64 v)) 54 83 true).run Tryz.prog w = .ok (.tuple #[.agg #[.int .i64 0, .slice none 0 0], .bool false]) w := by kernel_rfl
theorem assert_sym (s : Int) (a : Option Addr) (n c : Nat) (w : World) : (Instr.typeAssert (.iface 83 (.agg #[.int .i64 s, .slice a n c])) 54 83 true).run Tryz.prog w = .ok (.tuple #[.agg #[.int .i64 s, .slice a n c], .bool true]) w := by kernel_rfl

/-- The slice (A, m, C) is a row of rows of the call's own, made from block base on; no row below it lies in its own block. -/
def ROwn (w : World) (base : Nat) (rows : List (List Int)) (A : Option Addr) (C : Nat) : Prop :=
  ∃ xs : List Value, w.ownsRow base 71 1 (.slice A rows.length C) rows.length xs ∧ ∀ (i : Nat) (r : List Int), rows[i]? = some r → ∃ a' c' L H, xs[i]? = some (Value.slice a' r.length c') ∧ ISc w L H a' c' r ∧ base ≤ L ∧ H ≤ w.heap.size ∧
    (∀ g, (Value.slice A rows.length C).ownBlock = some g → g < L ∨ H ≤ g)

theorem ROwn.sl {w : World} {base : Nat} {rows : List (List Int)} {A : Option Addr} {C : Nat} (h : ROwn w base rows A C) : RSl w base w.heap.size A rows := by
  obtain ⟨xs, hown, hall⟩ := h
  rcases Nat.eq_zero_or_pos rows.length with h0 | h0
  · exact .inl (List.eq_nil_of_length_eq_zero h0)
  · obtain ⟨g, cap, hv, hb, hlt⟩ := hown.form h0
    have hA : A = some ⟨g, 0, none⟩ := by simp only [Value.slice.injEq] at hv; exact hv.1
    have hc := hown.cells (g := g) (by rw [hA]; rfl)
    have ha : ∀ n, (⟨g, 0, none⟩ : Addr).add n = ⟨g, 0 + n, none⟩ := fun n => by unfold Addr.add; split <;> simp_all
    refine .inr ⟨g, 0, hA, hb, hlt, fun i r hr => ?_⟩
    obtain ⟨a', c', L, H, hx, hi, hL, hH, _⟩ := hall i r hr
    exact ⟨a', c', by have := hc _ _ hx; rwa [ha] at this, hi.mono hL hH⟩
theorem ROwn.low {w w2 : World} {base base' : Nat} {rows : List (List Int)} {A : Option Addr} {C : Nat} (h : ROwn w base rows A C) (hb : Below w.heap.size w w2) (hbase : base' ≤ base) : ROwn w2 base' rows A C := by
  obtain ⟨xs, hown, hall⟩ := h
  refine ⟨xs, own_base hbase (own_low hb hown), fun i r hr => ?_⟩
  obtain ⟨a', c', L, H, hx, hi, hL, hH, hg⟩ := hall i r hr
  exact ⟨a', c', L, H, hx, hi.same (fun b _ hb' => hb.block b (by omega)), by omega, Nat.le_trans hH hb.size, hg⟩
/-- One more row is appended: w: where the rows stood; w2: where the new one lies too; blk: the block that shows it to append. -/
theorem ROwn.append {w w2 w3 : World} {base : Nat} {rows : List (List Int)} {A A' : Option Addr} {C C' : Nat} {blk : Obj} {r : List Int} {a2 : Option Addr} {c2 : Nat} {xs : List Value} (hown : w.ownsRow base 71 1 (.slice A rows.length C) rows.length xs)
    (hall : ∀ (i : Nat) (r : List Int), rows[i]? = some r → ∃ a' c' L H, xs[i]? = some (Value.slice a' r.length c') ∧ ISc w L H a' c' r ∧ base ≤ L ∧ H ≤ w.heap.size ∧ (∀ g, (Value.slice A rows.length C).ownBlock = some g → g < L ∨ H ≤ g))
    (hown3 : w3.ownsRow base 71 1 (.slice A' (rows.length + 1) C') (rows.length + 1) (xs ++ [.slice a2 r.length c2])) (hb2 : Below w.heap.size w w2) (hi2 : ISc w2 w.heap.size w2.heap.size a2 c2 r) (hbase : base ≤ w.heap.size)
    (hgrow : (w2.alloc blk).grownBy w3 (Value.slice A rows.length C).ownBlock) (hat : (Value.slice A' (rows.length + 1) C').ownBlock = (Value.slice A rows.length C).ownBlock ∨ (Value.slice A' (rows.length + 1) C').ownBlock = some (w2.heap.size + 1)) : ROwn w3 base (rows ++ [r]) A' C' := by
  have hs2 := hb2.size
  have hs3 := hgrow.size
  simp at hs3
  have hxl : xs.length = rows.length := by have := hown.1; omega
  have hl : (rows ++ [r]).length = rows.length + 1 := by simp
  rw [ROwn, hl]
  refine ⟨_, hown3, fun i r' hr => ?_⟩
  have hcond : ∀ {L H : Nat}, (∀ g, (Value.slice A rows.length C).ownBlock = some g → g < L ∨ H ≤ g) → H ≤ w2.heap.size → ∀ g', (Value.slice A' (rows.length + 1) C').ownBlock = some g' → g' < L ∨ H ≤ g' := fun hg hH g' hg' => by
    rcases hat with h1 | h1
    · exact hg g' (by rw [← h1]; exact hg')
    · rw [h1] at hg'; simp at hg'; omega
  by_cases hi : i < rows.length
  · rw [List.getElem?_append_left hi] at hr
    obtain ⟨a', c', L, H, hx, hsl, hL, hH, hg⟩ := hall i r' hr
    refine ⟨a', c', L, H, by rw [List.getElem?_append_left (by omega)]; exact hx, hsl.same (fun b h1 h2 => ?_), hL, by omega, hcond hg (by omega)⟩
    rw [hgrow.block b (by simp; omega) (fun e => by have := hg b e.symm; omega), Below.heap_alloc _ _ _ (by omega), hb2.block b (by omega)]
  · have hir : i = rows.length := by
      have := (List.getElem?_eq_some_iff.1 hr).1
      simp at this
      omega
    subst hir
    simp at hr
    subst hr
    refine ⟨a2, c2, w.heap.size, w2.heap.size, by rw [← hxl]; simp, hi2.same (fun b h1 h2 => ?_), hbase, by omega, hcond (fun g hg => .inl (hown.lt _ hg).2) (Nat.le_refl _)⟩
    rw [hgrow.block b (by simp; omega) (fun e => by have := (hown.lt b e.symm).2; omega), Below.heap_alloc _ _ _ (by omega)]

/-- Numbers that a row of the call's own holds. -/
theorem isl_of_own {w : World} {base : Nat} {A : Option Addr} {C n : Nat} {xs : List Int} (h : w.ownsRow base 3 1 (.slice A n C) n (xs.map (Value.int .i64))) : ISl w base w.heap.size A xs := by
  have hl : xs.length = n := by have := h.1; simpa using this
  rcases Nat.eq_zero_or_pos n with h0 | h0
  · exact .inl (List.eq_nil_of_length_eq_zero (by omega))
  · obtain ⟨g, cap, hv, hb, hlt⟩ := h.form h0
    have hA : A = some ⟨g, 0, none⟩ := by simp only [Value.slice.injEq] at hv; exact hv.1
    have hc := h.cells (g := g) (by rw [hA]; rfl)
    have ha : ∀ n, (⟨g, 0, none⟩ : Addr).add n = ⟨g, 0 + n, none⟩ := fun n => by unfold Addr.add; split <;> simp_all
    refine .inr ⟨g, 0, hA, hb, hlt, fun i x hx => ?_⟩
    have := hc i (.int .i64 x) (by simp [hx])
    rwa [ha] at this
/-- The source of an append of numbers. -/
theorem own_cap {w : World} {base : Nat} {A : Option Addr} {C n e : Nat} {xs : List Value} (h : w.ownsRow base e 1 (.slice A n C) n xs) : n ≤ C := by
  rcases h.2 with ⟨_, h2⟩ | ⟨g, cap, cur, h3, _, _, h6, _⟩
  · omega
  · simp only [Value.slice.injEq] at h3
    omega
theorem isc_of_own {w : World} {base : Nat} {A : Option Addr} {C n : Nat} {xs : List Int} (h : w.ownsRow base 3 1 (.slice A n C) n (xs.map (Value.int .i64))) : ISc w base w.heap.size A C xs :=
  ⟨isl_of_own h, by have := own_cap h; have := h.1; simp at this; omega⟩
theorem src_of_isl {w : World} {lo B : Nat} {a : Option Addr} {xs : List Int} (h : ISl w lo B a xs) (hn : a = none → xs = []) : Src w 1 a xs.length (xs.map (Value.int .i64)) := by
  refine ⟨by simp, ?_⟩
  cases a with
  | none => exact .inl ⟨rfl, by rw [hn rfl]; rfl⟩
  | some ad =>
    refine .inr ⟨ad, rfl, fun j u hu => ?_⟩
    rcases h with h | ⟨b, o, e, h1, h2, h3⟩
    · rw [h] at hu; simp at hu
    · have ha : ad = ⟨b, o, none⟩ := by simpa using e
      subst ha
      rw [List.getElem?_map, Option.map_eq_some_iff] at hu
      obtain ⟨x, hx, rfl⟩ := hu
      rw [show (⟨b, o, none⟩ : Addr).add j = ⟨b, o + j, none⟩ from by unfold Addr.add; split <;> simp_all]
      exact h3 j x hx
theorem isl_none {w : World} {lo B : Nat} {xs : List Int} (h : ISl w lo B none xs) : xs = [] := by
  rcases h with h | ⟨b, o, e, _⟩
  · exact h
  · cases e
end Go.Proofs.YtbnbogdglffkmaaGreatDoor

/-! S3: - What is put in: plain; nodes that stay. valueOf, symbolOf. -/
namespace Go.Proofs.YtbnbogdglffkmaaGreatDoor
open Go.RowKit Go.Deep Go.Maps

/-- What variables stand for put into terms of a row. -/
def fsub (σ : Int → Option (Int × Int × Fo)) : Fo → Fo
  | .nil => .nil
  | .node x y p k r => if p.1 = 0 then (match σ p.2 with
      | some t => .node x y (t.1, t.2.1) t.2.2 (fsub σ r)
      | none => .node x y p k (fsub σ r)) else .node x y p (fsub σ k) (fsub σ r)
def tsub (σ : Int → Option (Int × Int × Fo)) (s v : Int) (k : Fo) : Int × Int × Fo := if s = 0 then (σ v).getD (s, v, k) else (s, v, fsub σ k)
theorem fsub_len (σ : Int → Option (Int × Int × Fo)) : ∀ k : Fo, flen (fsub σ k) = flen k
  | .nil => rfl
  | .node _ _ p k r => by
    simp only [fsub]
    split
    · split <;> simp only [flen, fsub_len σ r]
    · simp only [flen, fsub_len σ r]
theorem fsub_at (σ : Int → Option (Int × Int × Fo)) : ∀ (i : Nat) (k : Fo) {x y : Nat} {s v : Int} {kk r : Fo}, fdrop i k = .node x y (s, v) kk r → fdrop i (fsub σ k) = .node x y ((tsub σ s v kk).1, (tsub σ s v kk).2.1) (tsub σ s v kk).2.2 (fdrop (i + 1) (fsub σ k))
  | 0, .nil, _, _, _, _, _, _, h => by simp [fdrop] at h
  | 0, .node _ _ p k r, x, y, s, v, kk, r', h => by
    simp only [fdrop, BT.node.injEq] at h
    obtain ⟨rfl, rfl, rfl, rfl, _⟩ := h
    simp only [fsub, tsub]
    by_cases e : s = 0
    · simp only [if_pos e]
      cases σ v with
      | none => simp [fdrop]
      | some t => simp [fdrop]
    · simp only [if_neg e]
      simp [fdrop]
  | _ + 1, .nil, _, _, _, _, _, _, h => by simp [fdrop] at h
  | n + 1, .node _ _ p k r, x, y, s, v, kk, r', h => by
    simp only [fdrop] at h
    have := fsub_at σ n r h
    simp only [fsub]
    split
    · split <;> simp only [fdrop, this]
    · simp only [fdrop, this]

/-- What stays where all cells but those of no node stay. -/
theorem NRow.keepN {w w' : World} {lo B : Nat} (hk : ∀ q x, w.cell? q = some x → x ≠ .nilIface → w'.cell? q = some x) : ∀ (k : Fo) (b o : Nat), NRow w lo B k b o → NRow w' lo B k b o
  | .nil, _, _, _ => trivial
  | .node _ _ p k r, b, o, ⟨hl, h0, ⟨val, h1, h2⟩, h5⟩ => by
    have hne : val ≠ .nilIface := by
      rcases h2 with ⟨_, _, rfl⟩ | ⟨_, a, c, rfl, _⟩ <;> (intro e; cases e)
    refine ⟨hl, h0, ⟨val, hk _ _ h1 hne, ?_⟩, NRow.keepN hk r b (o + 1) h5⟩
    rcases h2 with h2 | ⟨e, a, c, e2, h3⟩
    · exact .inl h2
    · refine .inr ⟨e, a, c, e2, ?_⟩
      rcases h3 with h3 | ⟨b', o', e3, h3⟩
      · exact .inl h3
      · exact .inr ⟨b', o', e3, NRow.keepN hk k b' o' h3⟩
theorem NodeIs.keepN {w w' : World} {lo B : Nat} {val : Value} {s v : Int} {k : Fo} (hk : ∀ q x, w.cell? q = some x → x ≠ .nilIface → w'.cell? q = some x) (h : NodeIs w lo B val s v k) : NodeIs w' lo B val s v k := by
  rcases h with h | ⟨hs, a, c, e, h⟩
  · exact .inl h
  · refine .inr ⟨hs, a, c, e, ?_⟩
    rcases h with h | ⟨b, o, e2, h⟩
    · exact .inl h
    · exact .inr ⟨b, o, e2, h.keepN hk⟩
theorem nrow_of_allS {w : World} {lo B : Nat} : ∀ (k : Fo) (b o : Nat), lo ≤ b → b < B →
    (∀ i, i < flen k → ∃ x y s v kk val, fdrop i k = .node x y (s, v) kk (fdrop (i + 1) k) ∧ w.cell? ⟨b, o + i, none⟩ = some val ∧ NodeIs w lo B val s v kk) → NRow w lo B k b o
  | .nil, _, _, _, _, _ => trivial
  | .node x y p kk r, b, o, h1, h2, h => by
    obtain ⟨x', y', s, v, kk', val, e, c0, hn⟩ := h 0 (by simp [flen])
    simp only [fdrop, BT.node.injEq] at e
    obtain ⟨_, _, rfl, rfl, _⟩ := e
    refine ⟨h1, h2, ⟨val, by simpa using c0, hn⟩, nrow_of_allS r b (o + 1) h1 h2 fun i hi => ?_⟩
    obtain ⟨x', y', s', v', kk', val', e, c0, hn⟩ := h (i + 1) (by simp [flen]; omega)
    exact ⟨x', y', s', v', kk', val', e, by rw [show o + 1 + i = o + (i + 1) from by omega]; exact c0, hn⟩

theorem zeroE (w : World) : (zeroValue 54).run Tryz.prog w = .ok .nilIface w := by kernel_rfl

def NvPost (s v : Int) (k : Fo) (w : World) (e : Ending) (w' : World) : Prop := ∃ nv, e = .returned nv ∧ Below w.heap.size w w' ∧ NodeIs w' 0 w'.heap.size nv s v k

end Go.Proofs.YtbnbogdglffkmaaGreatDoor
