/- Several texts in one: WG, S0, AD0, S1, S2. -/
import Derived.Test.YtbnbogdglffkmaaGreatDoorKEb3
import Derived.Deep.AppendLies
import Derived.Deep.DrawnRows
import Derived.Test.YtbnbogdglffkmaaGreatDoorKEb2
import Derived.Maps.Own
import Derived.Maps.OwnSet
import Derived.Maps.OwnOps

/-! WG: l1Copy. -/
namespace Go.Proofs.YtbnbogdglffkmaaGreatDoor
open Go.RowKit Go.Deep
attribute [local go_sem ↓] Go.wp_at_zero Go.wp_at_succ

/-- The slice (A, j, C) is a row of the call's own, made from block base on; its elements are the first j terms of k, and no term below them lies in the row's own block. -/
def Own (w : World) (base : Nat) (k : Fo) (j : Nat) (A : Option Addr) (C : Nat) : Prop :=
  ∃ xs, w.ownsRow base 25 3 (.slice A j C) j xs ∧ ∀ i, i < j → ∃ x y s' v' kk a' c' L H, fdrop i k = .node x y (s', v') kk (fdrop (i + 1) k) ∧
    xs[i * 3]? = some (.int .i64 s') ∧ xs[i * 3 + 1]? = some (.int .i64 v') ∧ xs[i * 3 + 2]? = some (.slice a' (flen kk) c') ∧ Sl w L H a' kk ∧ base ≤ L ∧ H ≤ w.heap.size ∧
    (∀ g, (Value.slice A j C).ownBlock = some g → g < L ∨ H ≤ g)

def CopyPost (s v : Int) (k : Fo) (w : World) (e : Ending) (w' : World) : Prop :=
  ∃ a c, e = .returned (.agg #[.int .i64 s, .int .i64 v, .slice a (flen k) c]) ∧ Below w.heap.size w w' ∧ Own w' w.heap.size k (flen k) a c

theorem cell_low {W w2 : World} {q : Addr} {x : Value} (hb : Below W.heap.size W w2) (h : W.cell? q = some x) : w2.cell? q = some x := by
  rw [hb.cell (World.block_lt_of_cell? _ _ h)]; exact h
theorem own_low {W w2 : World} {base : Nat} {e : TypeId} {size : Nat} {v : Value} {n : Nat} {xs : List Value} (hb : Below W.heap.size W w2) (h : W.ownsRow base e size v n xs) : w2.ownsRow base e size v n xs := by
  refine ⟨h.1, ?_⟩
  rcases h.2 with h2 | ⟨g, cap, cur, h3, h4, h5, h6⟩
  · exact .inl h2
  · have hg : g < W.heap.size := (h.lt g (by rw [h3]; rfl)).2
    exact .inr ⟨g, cap, cur, h3, h4, by rw [hb.block g hg]; exact h5, h6⟩
theorem own_base {W : World} {base base' : Nat} {e : TypeId} {size : Nat} {v : Value} {n : Nat} {xs : List Value} (hb : base' ≤ base) (h : W.ownsRow base e size v n xs) : W.ownsRow base' e size v n xs := by
  refine ⟨h.1, ?_⟩
  rcases h.2 with h2 | ⟨g, cap, cur, h3, h4, h5⟩
  · exact .inl h2
  · exact .inr ⟨g, cap, cur, h3, by omega, h5⟩
theorem cell_grown {W w3 : World} {base : Nat} {row : Option Nat} (hg : W.grownBy w3 row) (hr : ∀ g, row = some g → base ≤ g) {q : Addr} {x : Value} (h : W.cell? q = some x) (hq : q.block < base) : w3.cell? q = some x := by
  rw [hg.cell_far q (World.block_lt_of_cell? _ _ h) (fun e => by have := hr _ e.symm; omega)]; exact h

theorem row_of_all {w : World} {lo B : Nat} : ∀ (k : Fo) (b o : Nat), lo ≤ b → b < B →
    (∀ i, i < flen k → ∃ x y s v kk a c, fdrop i k = .node x y (s, v) kk (fdrop (i + 1) k) ∧ w.cell? ⟨b, o + i * 3, none⟩ = some (.int .i64 s) ∧ w.cell? ⟨b, o + i * 3 + 1, none⟩ = some (.int .i64 v) ∧
      w.cell? ⟨b, o + i * 3 + 2, none⟩ = some (.slice a (flen kk) c) ∧ Sl w lo B a kk) → Row w lo B k b o
  | .nil, _, _, _, _, _ => trivial
  | .node x y p kk r, b, o, h1, h2, h => by
    obtain ⟨x', y', s, v, kk', a, c, e, c0, c1, c2, hs⟩ := h 0 (by simp [flen])
    simp only [fdrop, BT.node.injEq] at e
    obtain ⟨_, _, rfl, rfl, _⟩ := e
    refine ⟨h1, h2, by simpa using c0, by simpa using c1, ⟨a, c, by simpa using c2, hs⟩, row_of_all r b (o + 3) h1 h2 fun i hi => ?_⟩
    obtain ⟨x', y', s, v, kk', a, c, e, c0, c1, c2, hs⟩ := h (i + 1) (by simp [flen]; omega)
    have e3 : o + 3 + i * 3 = o + (i + 1) * 3 := by omega
    exact ⟨x', y', s, v, kk', a, c, e, by rw [e3]; exact c0, by rw [e3]; exact c1, by rw [e3]; exact c2, hs⟩

theorem Own.sl {w : World} {base : Nat} {k : Fo} {A : Option Addr} {C : Nat} (h : Own w base k (flen k) A C) : Sl w base w.heap.size A k := by
  cases hk : k with
  | nil => exact .inl rfl
  | node x0 y0 p0 k0 r0 =>
    rw [← hk]
    obtain ⟨xs, hown, hall⟩ := h
    obtain ⟨g, cap, hv, hb, hlt⟩ := hown.form (by rw [hk]; simp [flen])
    have hA : A = some ⟨g, 0, none⟩ := by simp only [Value.slice.injEq] at hv; exact hv.1
    refine .inr ⟨g, 0, hA, row_of_all k g 0 hb hlt fun i hi => ?_⟩
    obtain ⟨x, y, s', v', kk, a', c', L, H, e, h0, h1, h2, hs, hL, hH, _⟩ := hall i hi
    have hc := hown.cells (g := g) (by rw [hA]; rfl)
    have ha : ∀ n, (⟨g, 0, none⟩ : Addr).add n = ⟨g, 0 + n, none⟩ := fun n => by unfold Addr.add; split <;> simp_all
    refine ⟨x, y, s', v', kk, a', c', e, ?_, ?_, ?_, hs.mono hL hH⟩
    · have := hc _ _ h0; rw [ha] at this; exact this
    · have := hc _ _ h1; rw [ha] at this; exact this
    · have := hc _ _ h2; rw [ha] at this; exact this
theorem Own.low {w w2 : World} {base base' : Nat} {k : Fo} {j : Nat} {A : Option Addr} {C : Nat} (h : Own w base k j A C) (hb : Below w.heap.size w w2) (hbase : base' ≤ base) : Own w2 base' k j A C := by
  obtain ⟨xs, hown, hall⟩ := h
  refine ⟨xs, own_base hbase (own_low hb hown), fun i hi => ?_⟩
  obtain ⟨x, y, s', v', kk, a', c', L, H, e, h0, h1, h2, hs, hL, hH, hg⟩ := hall i hi
  exact ⟨x, y, s', v', kk, a', c', L, H, e, h0, h1, h2, hs.same (fun b _ hb' => hb.block b (by omega)), by omega, Nat.le_trans hH hb.size, hg⟩
/-- A store into a block below base, or past the end. -/
theorem Own.store {w : World} {base : Nat} {k : Fo} {j : Nat} {A : Option Addr} {C : Nat} (h : Own w base k j A C) {q : Addr} (hq : q.block < base) (u : Value) : Own (w.setCell q u) base k j A C := by
  obtain ⟨xs, hown, hall⟩ := h
  refine ⟨xs, ownsRow_setCell_below hown hq u, fun i hi => ?_⟩
  obtain ⟨x, y, s', v', kk, a', c', L, H, e, h0, h1, h2, hs, hL, hH, hg⟩ := hall i hi
  exact ⟨x, y, s', v', kk, a', c', L, H, e, h0, h1, h2, hs.same (Same.setCell (fun _ _ _ => rfl) (.inl (by omega)) _), hL, by simpa using hH, hg⟩
/-- One more term is appended. -/
theorem Own.append {wr w2 w3 : World} {base : Nat} {k : Fo} {j : Nat} {A : Option Addr} {C g cap : Nat} {blk : Obj} {x y : Nat} {s' v' : Int} {kk : Fo} {a2 : Option Addr} {c2 : Nat} (h : ∃ xs, wr.ownsRow base 25 3 (.slice A j C) j xs ∧
      w3.ownsRow base 25 3 (.slice (some ⟨g, 0, none⟩) (j + 1) cap) (j + 1) (xs ++ [.int .i64 s', .int .i64 v', .slice a2 (flen kk) c2]) ∧
      ∀ i, i < j → ∃ x y s' v' kk a' c' L H, fdrop i k = .node x y (s', v') kk (fdrop (i + 1) k) ∧
        xs[i * 3]? = some (.int .i64 s') ∧ xs[i * 3 + 1]? = some (.int .i64 v') ∧ xs[i * 3 + 2]? = some (.slice a' (flen kk) c') ∧ Sl wr L H a' kk ∧ base ≤ L ∧ H ≤ wr.heap.size ∧ (∀ g, (Value.slice A j C).ownBlock = some g → g < L ∨ H ≤ g))
    (hb2 : Below wr.heap.size wr w2) (hl2 : Sl w2 wr.heap.size w2.heap.size a2 kk) (hbase : base ≤ wr.heap.size) (hd : fdrop j k = .node x y (s', v') kk (fdrop (j + 1) k))
    (hgrow : (w2.alloc blk).grownBy w3 (Value.slice A j C).ownBlock) (hatg : (Value.slice A j C).ownBlock = some g ∨ g = w2.heap.size + 1) : Own w3 base k (j + 1) (some ⟨g, 0, none⟩) cap := by
  obtain ⟨xs, hown, hown3, hall⟩ := h
  have hs2 := hb2.size
  have hs3 := hgrow.size
  simp at hs3
  have hxl : xs.length = j * 3 := hown.1
  refine ⟨_, hown3, fun i hi => ?_⟩
  by_cases hij : i < j
  · obtain ⟨x, y, s1, v1, k1, a1, c1, L, H, e, h0, h1, h2, hs, hL, hH, hg⟩ := hall i hij
    refine ⟨x, y, s1, v1, k1, a1, c1, L, H, e, ?_, ?_, ?_, hs.same (fun b h1 h2 => ?_), hL, by omega, fun g' hg' => ?_⟩
    · rw [List.getElem?_append_left (by omega)]; exact h0
    · rw [List.getElem?_append_left (by omega)]; exact h1
    · rw [List.getElem?_append_left (by omega)]; exact h2
    · rw [hgrow.block b (by simp; omega) (fun e => by have := hg b e.symm; omega), Below.heap_alloc _ _ _ (by omega), hb2.block b (by omega)]
    · have : g' = g := by simpa [Value.ownBlock] using hg'.symm
      subst this
      rcases hatg with hg1 | hg1
      · exact hg _ hg1
      · omega
  · have : i = j := by omega
    subst this
    refine ⟨x, y, s', v', kk, a2, c2, wr.heap.size, w2.heap.size, hd, ?_, ?_, ?_, hl2.same (fun b h1 h2 => ?_), hbase, by omega, fun g' hg' => ?_⟩
    · rw [List.getElem?_append_right (by omega), hxl]; simp
    · rw [List.getElem?_append_right (by omega), hxl, show i * 3 + 1 - i * 3 = 1 from by omega]; rfl
    · rw [List.getElem?_append_right (by omega), hxl, show i * 3 + 2 - i * 3 = 2 from by omega]; rfl
    · rw [hgrow.block b (by simp; omega) (fun e => by have := (hown.lt b e.symm).2; omega), Below.heap_alloc _ _ _ (by omega)]
    · have : g' = g := by simpa [Value.ownBlock] using hg'.symm
      subst this
      rcases hatg with hg1 | hg1
      · exact .inl (hown.lt _ hg1).2
      · exact .inr (by omega)

theorem Tryz.infoTerm : ∃ i, Tryz.prog.info? 25 = some i ∧ i.zero = some (.agg #[.int .i64 0, .int .i64 0, .slice none 0 0]) ∧ i.size = 3 ∧ i.bytes = 40 := by
  have h : (Tryz.prog.info? 25).map (fun i => (i.zero, i.size, i.bytes)) = some (some (.agg #[.int .i64 0, .int .i64 0, .slice none 0 0]), 3, 40) := by kernel_rfl
  obtain ⟨i, hi, hz⟩ := Option.map_eq_some_iff.1 h
  simp only [Prod.mk.injEq] at hz
  exact ⟨i, hi, hz.1, hz.2.1, hz.2.2⟩

theorem bl_undrew {B : Nat} {w w2 : World} (h : Below B w.drew w2) : Below B w w2 := ⟨h.os, h.tape, h.output, h.size, h.block⟩

/-- What holds at the head of l1Copy's loop: j kids are copied, the new slice is (A, j, C). -/
structure CpAt (w : World) (s v : Int) (a : Option Addr) (c : Nat) (k : Fo) (j : Nat) (A : Option Addr) (C : Nat) (wr : World) : Prop where
  below : Below (w.heap.size + 2) ((w.alloc (.cells #[.int .i64 s, .int .i64 v, .slice a (flen k) c] 25)).alloc (.cells #[.int .i64 0, .int .i64 0, .slice none 0 0] 25)) wr
  out0 : wr.cell? ⟨w.heap.size + 2, 0, none⟩ = some (.int .i64 s)
  out1 : wr.cell? ⟨w.heap.size + 2, 1, none⟩ = some (.int .i64 v)
  out2 : wr.cell? ⟨w.heap.size + 2, 2, none⟩ = some (.slice A j C)
  free : wr.frozen? ⟨w.heap.size + 2, 2, none⟩ = false
  size : w.heap.size + 3 ≤ wr.heap.size
  own : Own wr (w.heap.size + 3) k j A C

theorem CpAt.start (w : World) (s v : Int) (a : Option Addr) (c : Nat) (k : Fo) : CpAt w s v a c k 0 none 0 (((w.alloc (.cells #[.int .i64 s, .int .i64 v, .slice a (flen k) c] 25)).alloc (.cells #[.int .i64 0, .int .i64 0, .slice none 0 0] 25)).alloc (.cells #[.int .i64 s, .int .i64 v, .slice none 0 0] 25)) := by
  refine ⟨(Below.refl _ _).alloc (by simp) _, ?_, ?_, ?_, ?_, by simp, ⟨[], World.ownsRow_nil _ _ _ _, fun i hi => by omega⟩⟩
  · rw [World.cell?_alloc_at _ _ _ _ (by simp)]; rfl
  · rw [World.cell?_alloc_at _ _ _ _ (by simp)]; rfl
  · rw [World.cell?_alloc_at _ _ _ _ (by simp)]; rfl
  · rw [World.frozen?_alloc_at _ _ _ _ (by simp)]
theorem CpAt.step {w wr w2 w3 : World} {s v : Int} {a : Option Addr} {c : Nat} {k : Fo} {j : Nat} {A : Option Addr} {C g cap : Nat} {blk : Obj} {xs : List Value} {x y : Nat} {s' v' : Int} {kk : Fo} {a2 : Option Addr} {c2 : Nat} (h : CpAt w s v a c k j A C wr)
    (hb2 : Below wr.heap.size wr w2) (hl2 : Sl w2 wr.heap.size w2.heap.size a2 kk) (hd : fdrop j k = .node x y (s', v') kk (fdrop (j + 1) k)) (hown : wr.ownsRow (w.heap.size + 3) 25 3 (.slice A j C) j xs)
    (hall : ∀ i, i < j → ∃ x y s' v' kk a' c' L H, fdrop i k = .node x y (s', v') kk (fdrop (i + 1) k) ∧
        xs[i * 3]? = some (.int .i64 s') ∧ xs[i * 3 + 1]? = some (.int .i64 v') ∧ xs[i * 3 + 2]? = some (.slice a' (flen kk) c') ∧ Sl wr L H a' kk ∧ w.heap.size + 3 ≤ L ∧ H ≤ wr.heap.size ∧ (∀ g, (Value.slice A j C).ownBlock = some g → g < L ∨ H ≤ g))
    (hown3 : w3.ownsRow (w.heap.size + 3) 25 3 (.slice (some ⟨g, 0, none⟩) (j + 1) cap) (j + 1) (xs ++ [.int .i64 s', .int .i64 v', .slice a2 (flen kk) c2]))
    (hgrow : (w2.alloc blk).grownBy w3 (Value.slice A j C).ownBlock) (hatg : (Value.slice A j C).ownBlock = some g ∨ g = w2.heap.size + 1) :
    CpAt w s v a c k (j + 1) (some ⟨g, 0, none⟩) cap (w3.setCell ⟨w.heap.size + 2, 2, none⟩ (.slice (some ⟨g, 0, none⟩) (j + 1) cap)) := by
  have hs1 := h.size
  have hs2 := hb2.size
  have hs3 := hgrow.size
  simp at hs3
  have hr : ∀ g, (Value.slice A j C).ownBlock = some g → w.heap.size + 3 ≤ g := fun g hg => (hown.lt g hg).1
  have hcell : ∀ {q : Addr} {u : Value}, wr.cell? q = some u → q.block < w.heap.size + 3 → w3.cell? q = some u := fun hq hlt =>
    cell_grown hgrow hr (cell_low ((Below.refl _ _).alloc (Nat.le_refl _) _) (cell_low hb2 hq)) hlt
  refine ⟨?_, ?_, ?_, ?_, ?_, by simp; omega, ?_⟩
  · exact (((h.below.trans (hb2.mono (by omega))).alloc (by omega) _).grown hgrow (by simp; omega) (fun g hg => by have := hr g hg; omega)).setCell (by simp) _
  · rw [World.cell?_setCell_other _ _ _ _ (by intro h'; have := congrArg Addr.off h'; simp at this)]; exact hcell h.out0 (by simp)
  · rw [World.cell?_setCell_other _ _ _ _ (by intro h'; have := congrArg Addr.off h'; simp at this)]; exact hcell h.out1 (by simp)
  · exact World.cell?_setCell_same _ _ _ (hcell h.out2 (by simp))
  · rw [World.frozen?_setCell, hgrow.frozen_far _ (by simp; omega) (fun e => by have := hr _ e.symm; dsimp only at this; omega), World.frozen?_alloc_old _ _ _ (by simp; omega), hb2.frozen (by simp; omega)]
    exact h.free
  · exact (Own.append ⟨xs, hown, hown3, hall⟩ hb2 hl2 (by omega) hd hgrow hatg).store (by simp) _
theorem CpAt.low {w wr : World} {s v : Int} {a : Option Addr} {c : Nat} {k : Fo} {j : Nat} {A : Option Addr} {C : Nat} (h : CpAt w s v a c k j A C wr) : Below w.heap.size w wr :=
  (((Below.refl _ _).alloc (Nat.le_refl _) _).alloc (by simp) _).trans (h.below.mono (by omega))
theorem CpAt.done {w wr : World} {s v : Int} {a : Option Addr} {c : Nat} {k : Fo} {A : Option Addr} {C : Nat} (h : CpAt w s v a c k (flen k) A C wr) (x y z : Value) :
    CopyPost s v k w (.returned (.agg #[.int .i64 s, .int .i64 v, .slice A (flen k) C])) (((wr.setCell ⟨w.heap.size + 1, 0, none⟩ x).setCell ⟨w.heap.size + 1, 1, none⟩ y).setCell ⟨w.heap.size + 1, 2, none⟩ z) := by
  refine ⟨A, C, rfl, ((h.low.setCell (by simp) _).setCell (by simp) _).setCell (by simp) _, ?_⟩
  exact (((h.own.store (by simp) x).store (by simp) y).store (by simp) z).low (Below.refl _ _) (by omega)
theorem CpAt.res {w wr : World} {s v : Int} {a : Option Addr} {c : Nat} {k : Fo} {j : Nat} {A : Option Addr} {C : Nat} (h : CpAt w s v a c k j A C wr) :
    wr.cell? ⟨w.heap.size + 1, 0, none⟩ = some (.int .i64 0) ∧ wr.cell? ⟨w.heap.size + 1, 1, none⟩ = some (.int .i64 0) ∧ wr.cell? ⟨w.heap.size + 1, 2, none⟩ = some (.slice none 0 0) ∧
      wr.frozen? ⟨w.heap.size + 1, 0, none⟩ = false ∧ wr.frozen? ⟨w.heap.size + 1, 1, none⟩ = false ∧ wr.frozen? ⟨w.heap.size + 1, 2, none⟩ = false ∧ wr.cell? ⟨w.heap.size, 2, none⟩ = some (.slice a (flen k) c) := by
  refine ⟨?_, ?_, ?_, ?_, ?_, ?_, ?_⟩
  · rw [h.below.cell (by simp), World.cell?_alloc_at _ _ _ _ (by simp)]; rfl
  · rw [h.below.cell (by simp), World.cell?_alloc_at _ _ _ _ (by simp)]; rfl
  · rw [h.below.cell (by simp), World.cell?_alloc_at _ _ _ _ (by simp)]; rfl
  · rw [h.below.frozen (by simp), World.frozen?_alloc_at _ _ _ _ (by simp)]
  · rw [h.below.frozen (by simp), World.frozen?_alloc_at _ _ _ _ (by simp)]
  · rw [h.below.frozen (by simp), World.frozen?_alloc_at _ _ _ _ (by simp)]
  · rw [h.below.cell (by simp), World.cell?_alloc_lt _ _ _ (by simp)]; simp

theorem fsz_drop : ∀ (i : Nat) (k : Fo), fsz (fdrop i k) ≤ fsz k
  | 0, _ => Nat.le_refl _
  | _ + 1, .nil => Nat.le_refl _
  | n + 1, .node _ _ _ _ r => by have := fsz_drop n r; simp only [fdrop, fsz]; omega
theorem fsz_kid {i : Nat} {k : Fo} {x y : Nat} {p : Int × Int} {kk r : Fo} (h : fdrop i k = .node x y p kk r) : fsz kk < fsz k := by
  have := fsz_drop i k
  rw [h] at this
  simp only [fsz] at this
  omega

set_option maxRecDepth 100000 in
set_option maxHeartbeats 1000000 in
theorem l1Copy_any (N : Nat) : ∀ (s v : Int) (a : Option Addr) (c : Nat) (k : Fo) (w : World), Sl w 0 w.heap.size a k → fsz k ≤ N → N ≤ 1000000 →
    Calls Tryz.prog 37 #[.agg #[.int .i64 s, .int .i64 v, .slice a (flen k) c]] w (CopyPost s v k w) := by
  induction N using Nat.strongRecOn with
  | _ N ih =>
    intro s v a c k w hl hN hN2
    have hfl := flen_le_sz k
    have IH := Lib.hid ih
    clear ih
    have HST := Lib.hid (CpAt.start w s v a c k)
    go_enter Tryz.func37, Tryz.ntmps37
    go_wp2_with fail
    go_loopw [4] (fun i wr => ∃ (j : Nat) (A : Option Addr) (C : Nat), j ≤ flen k ∧ i = .int .i64 j ∧ CpAt w s v a c k j A C wr) (fun i _ => flen k - (intOf i).toNat)
    case atStart => exact ⟨0, none, 0, Nat.zero_le _, rfl, HST.out⟩
    case round =>
      clear HST
      obtain ⟨j, A, C, hj, rfl, hat⟩ := hrel
      obtain ⟨hr0, hr1, hr2, hq0, hq1, hq2, hb0⟩ := hat.res
      have ho0 := hat.out0
      have ho1 := hat.out1
      have ho2 := hat.out2
      have hof := hat.free
      have hsz := hat.size
      by_cases hlt : j < flen k
      · clear hr0 hr1 hr2 hq0 hq1 hq2
        rcases hl with rfl | ⟨b, o, rfl, hrow⟩
        · simp [flen] at hlt
        have hbw := hat.low
        obtain ⟨s', v', kk, a', c', ⟨x, y, hd⟩, _, hbB, hk0, hk1, hk2, hsl⟩ := row_at (hrow.below hbw) hlt
        have hkN := Lib.hid (fsz_kid hd)
        have HD := Lib.hid hd
        have HS := Lib.hid hsl
        have HROW := Lib.hid hrow
        have HAT := Lib.hid hat
        clear hd hsl hrow hat hbw
        have g1 : (0 : Int) ≤ (j : Int) := by omega
        have g2 : (j : Int) < (flen k : Int) := by omega
        obtain ⟨ti, hti, htz, hts, htb⟩ := Tryz.infoTerm
        obtain ⟨xs, hown, hall⟩ := HAT.out.own
        have HTI := Lib.hid hti
        have HTZ := Lib.hid htz
        have HTS := Lib.hid hts
        have HTB := Lib.hid htb
        have HOWN := Lib.hid hown
        have HALL := Lib.hid hall
        have HLT : Hid (∀ g, (Value.slice A j C).ownBlock = some g → w.heap.size + 3 ≤ g) := fun g hg => (hown.lt g hg).1
        clear hti htz hts htb hown hall
        have hu0 : ∀ u : After (w.heap.size + 3) wr, u.world.cell? ⟨w.heap.size + 1 + 1, 2, none⟩ = some (.slice A j C) := fun u => u.cell (by simp) ho2
        have hu1 : ∀ u : After (w.heap.size + 3) wr, u.world.cell? ⟨w.heap.size, 2, none⟩ = some (.slice (some ⟨b, o, none⟩) (flen k) c) := fun u => u.cell (by simp) hb0
        have hu2 : ∀ u : After (w.heap.size + 3) wr, u.world.cell? ⟨b, o + j * 3, none⟩ = some (.int .i64 s') := fun u => u.cell (by simp; omega) hk0
        have hu3 : ∀ u : After (w.heap.size + 3) wr, u.world.cell? ⟨b, o + j * 3 + 1, none⟩ = some (.int .i64 v') := fun u => u.cell (by simp; omega) hk1
        have hu4 : ∀ u : After (w.heap.size + 3) wr, u.world.cell? ⟨b, o + j * 3 + 2, none⟩ = some (.slice a' (flen kk) c') := fun u => u.cell (by simp; omega) hk2
        go_wp2_with fail
        refine wp_region_mix (fun w' => ∃ u : After (w.heap.size + 3) wr, w' = u.world) [10, 11] [(0, 0), (1, 0), (2, 0), (3, 0), (4, 0), (5, 0), (6, 0), (7, 1), (8, 1), (9, 1), (10, 2), (11, 2)] (by kernel_rfl) (by kernel_rfl) ⟨⟨_, (Below.refl _ _).drew⟩, rfl⟩ ?_
        iterate 7
          refine mix_see rfl (fun K hK => ?_)
          go_simp
          refine hK _ ?_
          clear hK K
        clear hu0 hu1 hu2 hu3 hu4
        refine mix_hold rfl (fun K hK => ?_)
        go_simp
        with_reducible refine (IH.out (fsz kk) (by have := hkN.out; omega) s' v' a' c' kk _ ?_ (Nat.le_refl _) ?_).mono ?_
        · exact (HS.out.below (Below.refl _ _).drew).mono (Nat.le_refl _) (by simp; omega)
        · have := hkN.out; omega
        rintro e w2 ⟨a2, c2, rfl, hb2', hown2⟩
        have hb2 : Below wr.heap.size wr w2 := bl_undrew hb2'
        have HL2 : Hid (Sl w2 wr.heap.size w2.heap.size a2 kk) := hown2.sl
        have hs2 := hb2.size
        refine hK _ _ ⟨⟨_, hb2.mono (by omega)⟩, rfl⟩ ?_
        clear hK K hb2' hown2
        refine mix_hold rfl (fun K hK => ?_)
        go_simp
        refine hK _ _ ⟨⟨_, (hb2.mono (by omega)).alloc (by omega) _⟩, rfl⟩ ?_
        clear hK K
        refine mix_hold rfl (fun K hK => ?_)
        refine step_append_lies _ (by rfl) _ _ _ (by rfl) (w.heap.size + 3) 25 ti _ 3 40 Tryz.underlying23 HTI.out HTZ.out HTS.out HTB.out rfl (by omega) (.slice A j C) j xs (by rfl) (own_low ((Below.refl _ _).alloc (Nat.le_refl _) _) (own_low hb2 HOWN.out)) ⟨w2.heap.size, 0, none⟩ 1 1 [.int .i64 s', .int .i64 v', .slice a2 (flen kk) c2] (by rfl) (by rfl) (World.news_of_block (heap_alloc_new _ _)) (by simp [Value.oneCell']) (by omega) (by unfold maxLen; omega) (by omega) (by simp; omega) (w2.heap.size + 1) (by simp) ?_
        intro g cap w3 hown3 hgrow hatg hg3
        have hlow : Below (w.heap.size + 3) wr w3 := ((hb2.mono (by omega)).alloc (by omega) _).grown hgrow (by simp; omega) HLT.out
        have hz2 : w3.cell? ⟨w.heap.size + 1 + 1, 2, none⟩ = some (.slice A j C) := by rw [hlow.cell (by simp)]; exact ho2
        have hz3 : w3.frozen? ⟨w.heap.size + 1 + 1, 2, none⟩ = false := by rw [hlow.frozen (by simp)]; exact hof
        have HSTEP := Lib.hid (HAT.out.step hb2 HL2.out HD.out HOWN.out HALL.out hown3 hgrow hatg)
        refine hK _ _ ⟨⟨_, hlow⟩, rfl⟩ ?_
        clear hK K hown3 hgrow hatg
        refine mix_late rfl (fun K hK => ?_)
        go_simp
        refine hK _ _ ?_
        clear hK K
        refine mix_late rfl (fun K hK => ?_)
        go_simp
        refine hK _ _ ?_
        clear hK K
        refine mix_end ?_
        clear hz2 hz3 hlow hb0 ho0 ho1 ho2 hof hk0 hk1 hk2
        go_wp2_with fail
        go_roundw
        case rel => exact ⟨j + 1, _, _, by omega, by go_num, HSTEP.out⟩
        case measure => simp [intOf]; omega
      · have hjk : j = flen k := by omega
        subst hjk
        have HDN := Lib.hid (fun x y z => hat.done x y z)
        clear hat
        go_wp2_with fail
        refine bodyPost_ret (v := .agg #[.int .i64 s, .int .i64 v, .slice A (flen k) C]) ?_ rfl (HDN.out _ _ _)
        simp [results, Tryz.results37, go_sem, hr0, hr1, hr2]
end Go.Proofs.YtbnbogdglffkmaaGreatDoor

/-! S0: Substitutions as plain data, in memory as rows of binds, and as a map of nodes. Definitions and plain lemmas. -/
namespace Go.Proofs.YtbnbogdglffkmaaGreatDoor
open Go.RowKit Go.Deep Go.Maps

/-- A variable and the term that it stands for. -/
abbrev Bd := Int × Int × Int × Fo

/-- A slice's address at which the binds bs lie. -/
def BSl (w : World) (lo B : Nat) (a : Option Addr) (bs : List Bd) : Prop :=
  bs = [] ∨ ∃ b o, a = some ⟨b, o, none⟩ ∧ lo ≤ b ∧ b < B ∧ ∀ (i : Nat) (x : Bd), bs[i]? = some x → ∃ a' c', w.cell? ⟨b, o + i * 4, none⟩ = some (.int .i64 x.1) ∧ w.cell? ⟨b, o + i * 4 + 1, none⟩ = some (.int .i64 x.2.1) ∧ w.cell? ⟨b, o + i * 4 + 1 + 1, none⟩ = some (.int .i64 x.2.2.1) ∧ w.cell? ⟨b, o + i * 4 + 1 + 2, none⟩ = some (.slice a' (flen x.2.2.2) c') ∧ Sl w lo B a' x.2.2.2
theorem BSl.same {w w' : World} {lo B : Nat} {a : Option Addr} {bs : List Bd} (hb : Same lo B w w') (h : BSl w lo B a bs) : BSl w' lo B a bs := by
  rcases h with h | ⟨b, o, e, h1, h2, h3⟩
  · exact .inl h
  · refine .inr ⟨b, o, e, h1, h2, fun i x hx => ?_⟩
    obtain ⟨a', c', c0, c1, c2, c3, hl⟩ := h3 i x hx
    exact ⟨a', c', by rw [hb.cell h1 h2]; exact c0, by rw [hb.cell h1 h2]; exact c1, by rw [hb.cell h1 h2]; exact c2, by rw [hb.cell h1 h2]; exact c3, hl.same hb⟩
theorem BSl.mono {w : World} {lo lo' B B' : Nat} {a : Option Addr} {bs : List Bd} (hlo : lo' ≤ lo) (hB : B ≤ B') (h : BSl w lo B a bs) : BSl w lo' B' a bs := by
  rcases h with h | ⟨b, o, e, h1, h2, h3⟩
  · exact .inl h
  · refine .inr ⟨b, o, e, by omega, by omega, fun i x hx => ?_⟩
    obtain ⟨a', c', c0, c1, c2, c3, hl⟩ := h3 i x hx
    exact ⟨a', c', c0, c1, c2, c3, hl.mono hlo hB⟩
theorem BSl.below {w w' : World} {lo B : Nat} {a : Option Addr} {bs : List Bd} (hb : Below B w w') (h : BSl w lo B a bs) : BSl w' lo B a bs := h.same (Same.of_below hb)

/-- In form: ascending behind last, below 12, of terms of so many signs. -/
def sokFrom (room : Int) : Int → List Bd → Bool
  | _, [] => true
  | last, x :: r => okW x.2.1 x.2.2.1 x.2.2.2 room && (decide (last < x.1) && (decide (x.1 < 12) && sokFrom room x.1 r))
def sok (room : Int) (bs : List Bd) : Bool := sokFrom room (-1) bs
/-- What a variable stands for. -/
def sv : List Bd → Int → Option (Int × Int × Fo)
  | [], _ => none
  | x :: r, v => if x.1 = v then some x.2 else sv r v

theorem sv_snoc {bs : List Bd} {x : Bd} (h : sv bs x.1 = none) (v : Int) : sv (bs ++ [x]) v = if x.1 = v then some x.2 else sv bs v := by
  induction bs with
  | nil => rfl
  | cons y r ih =>
    simp only [sv] at h
    by_cases e : y.1 = x.1
    · rw [if_pos e] at h; cases h
    · rw [if_neg e] at h
      simp only [List.cons_append, sv]
      by_cases e2 : y.1 = v
      · rw [if_pos e2, if_pos e2, if_neg (by rw [← e2]; exact fun e' => e e'.symm)]
      · rw [if_neg e2, if_neg e2]; exact ih h

/-- A value reads as itself. -/
def rdV (v : Value) : Option (DataW Value × List MemPlace) := some (.held v, [])

/-- Block b is a map in which the variables of bs have nodes of their terms. -/
def MapIs (w : World) (b : Nat) (bs : List Bd) : Prop :=
  ∃ n D, w.ownsMap Tryz.prog 80 rdV b n D ∧ n ≤ 12 + bs.length ∧ ∀ x : Int, (Lit.int .i64 x).wf = true →
    (sv bs x = none → Maps.has D (.int .i64 x) = false) ∧ ∀ s v k, sv bs x = some (s, v, k) → Maps.has D (.int .i64 x) = true ∧ ∃ nv, D.atKey (.int .i64 x) (.held .nilIface) = .held nv ∧ NodeIs w 0 w.heap.size nv s v k
end Go.Proofs.YtbnbogdglffkmaaGreatDoor

/-! AD0: A bind put in order, plain. -/
namespace Go.Proofs.YtbnbogdglffkmaaGreatDoor
open Go.RowKit Go.Deep

/-- A bind put in order. -/
def ladd : List Bd → Bd → List Bd
  | [], b => [b]
  | x :: r, b => if b.1 < x.1 then b :: x :: r else x :: ladd r b
theorem ladd_len : ∀ (bs : List Bd) (b : Bd), (ladd bs b).length = bs.length + 1
  | [], _ => rfl
  | x :: r, b => by
    simp only [ladd]
    split
    · rfl
    · simp [ladd_len r b]
end Go.Proofs.YtbnbogdglffkmaaGreatDoor

/-! S1: - substOf: the binds put into a map of nodes. -/
namespace Go.Proofs.YtbnbogdglffkmaaGreatDoor
open Go.RowKit Go.Deep Go.Maps

theorem law : Keyed Tryz.prog 80 := int_keyed (q := .i64) (by kernel_rfl)
theorem key_of {x : Int} (h : (Lit.int .i64 x).wf = true) : keyOf Tryz.prog 80 (.int .i64 x) = some (.int .i64 x) := keyOf_int_mk (by kernel_rfl) h

/-- What stays where cells stay. -/
theorem NRow.keep {w w' : World} {lo B : Nat} (hk : ∀ q x, w.cell? q = some x → w'.cell? q = some x) : ∀ (k : Fo) (b o : Nat), NRow w lo B k b o → NRow w' lo B k b o
  | .nil, _, _, _ => trivial
  | .node _ _ p k r, b, o, ⟨hl, h0, ⟨val, h1, h2⟩, h5⟩ => by
    refine ⟨hl, h0, ⟨val, hk _ _ h1, ?_⟩, NRow.keep hk r b (o + 1) h5⟩
    rcases h2 with h2 | ⟨e, a, c, e2, h3⟩
    · exact .inl h2
    · refine .inr ⟨e, a, c, e2, ?_⟩
      rcases h3 with h3 | ⟨b', o', e3, h3⟩
      · exact .inl h3
      · exact .inr ⟨b', o', e3, NRow.keep hk k b' o' h3⟩
theorem NodeIs.keep {w w' : World} {lo B : Nat} {val : Value} {s v : Int} {k : Fo} (hk : ∀ q x, w.cell? q = some x → w'.cell? q = some x) (h : NodeIs w lo B val s v k) : NodeIs w' lo B val s v k := by
  rcases h with h | ⟨hs, a, c, e, h⟩
  · exact .inl h
  · refine .inr ⟨hs, a, c, e, ?_⟩
    rcases h with h | ⟨b, o, e2, h⟩
    · exact .inl h
    · exact .inr ⟨b, o, e2, h.keep hk⟩
theorem Row.keep {w w' : World} {lo B : Nat} (hk : ∀ q x, w.cell? q = some x → w'.cell? q = some x) : ∀ (k : Fo) (b o : Nat), Row w lo B k b o → Row w' lo B k b o
  | .nil, _, _, _ => trivial
  | .node _ _ p k r, b, o, ⟨hl, h0, h1, h2, ⟨a, c, h3, h4⟩, h5⟩ => by
    refine ⟨hl, h0, hk _ _ h1, hk _ _ h2, ⟨a, c, hk _ _ h3, ?_⟩, Row.keep hk r b (o + 3) h5⟩
    rcases h4 with h4 | ⟨b', o', e, h4⟩
    · exact .inl h4
    · exact .inr ⟨b', o', e, Row.keep hk k b' o' h4⟩
theorem Sl.keep {w w' : World} {lo B : Nat} {a : Option Addr} {k : Fo} (hk : ∀ q x, w.cell? q = some x → w'.cell? q = some x) (h : Sl w lo B a k) : Sl w' lo B a k := by
  rcases h with h | ⟨b, o, e, h⟩
  · exact .inl h
  · exact .inr ⟨b, o, e, h.keep hk⟩
theorem BSl.keep {w w' : World} {lo B : Nat} {a : Option Addr} {bs : List Bd} (hk : ∀ q x, w.cell? q = some x → w'.cell? q = some x) (h : BSl w lo B a bs) : BSl w' lo B a bs := by
  rcases h with h | ⟨b, o, e, h1, h2, h3⟩
  · exact .inl h
  · refine .inr ⟨b, o, e, h1, h2, fun i x hx => ?_⟩
    obtain ⟨a', c', c0, c1, c2, c3, hl⟩ := h3 i x hx
    exact ⟨a', c', hk _ _ c0, hk _ _ c1, hk _ _ c2, hk _ _ c3, hl.keep hk⟩
/-- Cells stay where a map is written. -/
theorem cells_keep {w w' : World} {b : Nat} {n : Nat} {D : DataW Value} (hm : w.ownsMap Tryz.prog 80 rdV b n D) (hg : w.grownBy w' (some b)) : ∀ q x, w.cell? q = some x → w'.cell? q = some x := fun q x hq => by
  obtain ⟨es, clock, hb, _⟩ := hm
  refine hg.cell hq fun e => ?_
  have : q.block = b := by simpa using e
  unfold World.cell? at hq
  rw [this, hb] at hq
  cases hq

theorem MapIs.start (w : World) : MapIs (w.alloc (.map #[] 0)) w.heap.size [] :=
  ⟨0, .map [], World.ownsMap_made w Tryz.prog 80 rdV, Nat.zero_le _, fun x _ => ⟨fun _ => rfl, fun s v k h => by simp [sv] at h⟩⟩
theorem MapIs.below {w w' : World} {b : Nat} {bs : List Bd} (h : MapIs w b bs) (hb : Below w.heap.size w w') : MapIs w' b bs := by
  obtain ⟨n, D, hm, hn, hx⟩ := h
  have hlt := hm.lt
  refine ⟨n, D, ?_, hn, fun x hw => ⟨(hx x hw).1, fun s v k hs => ?_⟩⟩
  · obtain ⟨es, clock, h1, h2⟩ := hm
    exact ⟨es, clock, by rw [hb.block b hlt]; exact h1, h2⟩
  · obtain ⟨h1, nv, h2, h3⟩ := (hx x hw).2 s v k hs
    exact ⟨h1, nv, h2, (h3.below hb).mono (Nat.le_refl _) hb.size⟩
/-- One more bind. -/
theorem MapIs.put {w w' : World} {b n : Nat} {D : DataW Value} {bs : List Bd} {x : Int} {nv : Value} {s v : Int} {k : Fo} (hn : n ≤ 12 + bs.length) (hx : ∀ x : Int, (Lit.int .i64 x).wf = true →
    (sv bs x = none → Maps.has D (.int .i64 x) = false) ∧ ∀ s v k, sv bs x = some (s, v, k) → Maps.has D (.int .i64 x) = true ∧ ∃ nv, D.atKey (.int .i64 x) (.held .nilIface) = .held nv ∧ NodeIs w 0 w.heap.size nv s v k)
    (hm : w.ownsMap Tryz.prog 80 rdV b n D) (hw : w'.ownsMap Tryz.prog 80 rdV b (n + 1) (D.put (.int .i64 x) (.held nv))) (hg : w.grownBy w' (some b)) (hv : sv bs x = none) (hnv : NodeIs w 0 w.heap.size nv s v k) : MapIs w' b (bs ++ [(x, s, v, k)]) := by
  have hk := cells_keep hm hg
  have hD := (hm.tidy law).isMap
  refine ⟨n + 1, _, hw, by simp; omega, fun y hy => ?_⟩
  rw [sv_snoc (x := (x, s, v, k)) hv]
  by_cases e : x = y
  · subst e
    rw [if_pos rfl]
    refine ⟨fun h => (by cases h), fun s' v' k' h => ?_⟩
    simp only [Option.some.injEq, Prod.mk.injEq] at h
    obtain ⟨rfl, rfl, rfl⟩ := h
    exact ⟨has_put_same hD (by trivial) _, nv, atKey_put_same hD (by trivial) _ _, (hnv.keep hk).mono (Nat.le_refl _) hg.size⟩
  · rw [if_neg (by exact e)]
    have hne : (Lit.int .i64 y) ≠ (Lit.int .i64 x) := by intro h; simp only [Lit.int.injEq, true_and] at h; exact e h.symm
    refine ⟨fun h => ?_, fun s' v' k' h => ?_⟩
    · rw [has_put_other hne]; exact (hx y hy).1 h
    · obtain ⟨h1, nv', h2, h3⟩ := (hx y hy).2 s' v' k' h
      exact ⟨by rw [has_put_other hne]; exact h1, nv', by rw [atKey_put_other hne]; exact h2, (h3.keep hk).mono (Nat.le_refl _) hg.size⟩
end Go.Proofs.YtbnbogdglffkmaaGreatDoor

/-! S2: - substOf. -/
namespace Go.Proofs.YtbnbogdglffkmaaGreatDoor
open Go.RowKit Go.Deep Go.Maps

def SoPost (bs : List Bd) (room : Int) (w : World) (e : Ending) (w' : World) : Prop :=
  Below w.heap.size w w' ∧ ((sok room bs = true ∧ ∃ b, e = .returned (.tuple #[.map (some b), .bool true]) ∧ w.heap.size ≤ b ∧ MapIs w' b bs) ∨ (sok room bs = false ∧ e = .returned (.tuple #[.map none, .bool false])))

theorem drop_bd {bs : List Bd} {j : Nat} {x : Bd} (h : bs[j]? = some x) : bs.drop j = x :: bs.drop (j + 1) := by
  obtain ⟨hj, rfl⟩ := List.getElem?_eq_some_iff.1 h
  exact List.drop_eq_getElem_cons hj

end Go.Proofs.YtbnbogdglffkmaaGreatDoor
