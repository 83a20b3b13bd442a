/- Several texts in one: WG, WH. -/
import Derived.Test.YtoafleckcjanaaaKLk5
import Derived.Deep.AppendLies
import Derived.Deep.DrawnRows

/-! WG: l1Copy. -/
namespace Go.Proofs.Ytoafleckcjanaaa
open Go.RowKit Go.Deep
attribute [local go_sem ↓] Go.wp_at_zero Go.wp_at_succ

/-- The slice (A, j, C) is a row of the call's own, made from block base on; its elements are the first j terms of k, and no term below them lies in the row's own block. -/
def Own (w : World) (base : Nat) (k : Fo) (j : Nat) (A : Option Addr) (C : Nat) : Prop :=
  ∃ xs, w.ownsRow base 35 3 (.slice A j C) j xs ∧ ∀ i, i < j → ∃ x y s' v' kk a' c' L H, fdrop i k = .node x y (s', v') kk (fdrop (i + 1) k) ∧
    xs[i * 3]? = some (.int .i64 s') ∧ xs[i * 3 + 1]? = some (.int .i64 v') ∧ xs[i * 3 + 2]? = some (.slice a' (flen kk) c') ∧ Sl w L H a' kk ∧ base ≤ L ∧ H ≤ w.heap.size ∧
    (∀ g, (Value.slice A j C).ownBlock = some g → g < L ∨ H ≤ g)

def CopyPost (s v : Int) (k : Fo) (w : World) (e : Ending) (w' : World) : Prop :=
  ∃ a c, e = .returned (.agg #[.int .i64 s, .int .i64 v, .slice a (flen k) c]) ∧ Below w.heap.size w w' ∧ Own w' w.heap.size k (flen k) a c

theorem cell_low {W w2 : World} {q : Addr} {x : Value} (hb : Below W.heap.size W w2) (h : W.cell? q = some x) : w2.cell? q = some x := by
  rw [hb.cell (World.block_lt_of_cell? _ _ h)]; exact h
theorem own_low {W w2 : World} {base : Nat} {e : TypeId} {size : Nat} {v : Value} {n : Nat} {xs : List Value} (hb : Below W.heap.size W w2) (h : W.ownsRow base e size v n xs) : w2.ownsRow base e size v n xs := by
  refine ⟨h.1, ?_⟩
  rcases h.2 with h2 | ⟨g, cap, cur, h3, h4, h5, h6⟩
  · exact .inl h2
  · have hg : g < W.heap.size := (h.lt g (by rw [h3]; rfl)).2
    exact .inr ⟨g, cap, cur, h3, h4, by rw [hb.block g hg]; exact h5, h6⟩
theorem own_base {W : World} {base base' : Nat} {e : TypeId} {size : Nat} {v : Value} {n : Nat} {xs : List Value} (hb : base' ≤ base) (h : W.ownsRow base e size v n xs) : W.ownsRow base' e size v n xs := by
  refine ⟨h.1, ?_⟩
  rcases h.2 with h2 | ⟨g, cap, cur, h3, h4, h5⟩
  · exact .inl h2
  · exact .inr ⟨g, cap, cur, h3, by omega, h5⟩
theorem cell_grown {W w3 : World} {base : Nat} {row : Option Nat} (hg : W.grownBy w3 row) (hr : ∀ g, row = some g → base ≤ g) {q : Addr} {x : Value} (h : W.cell? q = some x) (hq : q.block < base) : w3.cell? q = some x := by
  rw [hg.cell_far q (World.block_lt_of_cell? _ _ h) (fun e => by have := hr _ e.symm; omega)]; exact h

theorem row_of_all {w : World} {lo B : Nat} : ∀ (k : Fo) (b o : Nat), lo ≤ b → b < B →
    (∀ i, i < flen k → ∃ x y s v kk a c, fdrop i k = .node x y (s, v) kk (fdrop (i + 1) k) ∧ w.cell? ⟨b, o + i * 3, none⟩ = some (.int .i64 s) ∧ w.cell? ⟨b, o + i * 3 + 1, none⟩ = some (.int .i64 v) ∧
      w.cell? ⟨b, o + i * 3 + 2, none⟩ = some (.slice a (flen kk) c) ∧ Sl w lo B a kk) → Row w lo B k b o
  | .nil, _, _, _, _, _ => trivial
  | .node x y p kk r, b, o, h1, h2, h => by
    obtain ⟨x', y', s, v, kk', a, c, e, c0, c1, c2, hs⟩ := h 0 (by simp [flen])
    simp only [fdrop, BT.node.injEq] at e
    obtain ⟨_, _, rfl, rfl, _⟩ := e
    refine ⟨h1, h2, by simpa using c0, by simpa using c1, ⟨a, c, by simpa using c2, hs⟩, row_of_all r b (o + 3) h1 h2 fun i hi => ?_⟩
    obtain ⟨x', y', s, v, kk', a, c, e, c0, c1, c2, hs⟩ := h (i + 1) (by simp [flen]; omega)
    have e3 : o + 3 + i * 3 = o + (i + 1) * 3 := by omega
    exact ⟨x', y', s, v, kk', a, c, e, by rw [e3]; exact c0, by rw [e3]; exact c1, by rw [e3]; exact c2, hs⟩

theorem Own.sl {w : World} {base : Nat} {k : Fo} {A : Option Addr} {C : Nat} (h : Own w base k (flen k) A C) : Sl w base w.heap.size A k := by
  cases hk : k with
  | nil => exact .inl rfl
  | node x0 y0 p0 k0 r0 =>
    rw [← hk]
    obtain ⟨xs, hown, hall⟩ := h
    obtain ⟨g, cap, hv, hb, hlt⟩ := hown.form (by rw [hk]; simp [flen])
    have hA : A = some ⟨g, 0, none⟩ := by simp only [Value.slice.injEq] at hv; exact hv.1
    refine .inr ⟨g, 0, hA, row_of_all k g 0 hb hlt fun i hi => ?_⟩
    obtain ⟨x, y, s', v', kk, a', c', L, H, e, h0, h1, h2, hs, hL, hH, _⟩ := hall i hi
    have hc := hown.cells (g := g) (by rw [hA]; rfl)
    have ha : ∀ n, (⟨g, 0, none⟩ : Addr).add n = ⟨g, 0 + n, none⟩ := fun n => by unfold Addr.add; split <;> simp_all
    refine ⟨x, y, s', v', kk, a', c', e, ?_, ?_, ?_, hs.mono hL hH⟩
    · have := hc _ _ h0; rw [ha] at this; exact this
    · have := hc _ _ h1; rw [ha] at this; exact this
    · have := hc _ _ h2; rw [ha] at this; exact this
theorem Own.low {w w2 : World} {base base' : Nat} {k : Fo} {j : Nat} {A : Option Addr} {C : Nat} (h : Own w base k j A C) (hb : Below w.heap.size w w2) (hbase : base' ≤ base) : Own w2 base' k j A C := by
  obtain ⟨xs, hown, hall⟩ := h
  refine ⟨xs, own_base hbase (own_low hb hown), fun i hi => ?_⟩
  obtain ⟨x, y, s', v', kk, a', c', L, H, e, h0, h1, h2, hs, hL, hH, hg⟩ := hall i hi
  exact ⟨x, y, s', v', kk, a', c', L, H, e, h0, h1, h2, hs.same (fun b _ hb' => hb.block b (by omega)), by omega, Nat.le_trans hH hb.size, hg⟩
/-- A store into a block below base, or past the end. -/
theorem Own.store {w : World} {base : Nat} {k : Fo} {j : Nat} {A : Option Addr} {C : Nat} (h : Own w base k j A C) {q : Addr} (hq : q.block < base) (u : Value) : Own (w.setCell q u) base k j A C := by
  obtain ⟨xs, hown, hall⟩ := h
  refine ⟨xs, ownsRow_setCell_below hown hq u, fun i hi => ?_⟩
  obtain ⟨x, y, s', v', kk, a', c', L, H, e, h0, h1, h2, hs, hL, hH, hg⟩ := hall i hi
  exact ⟨x, y, s', v', kk, a', c', L, H, e, h0, h1, h2, hs.same (Same.setCell (fun _ _ _ => rfl) (.inl (by omega)) _), hL, by simpa using hH, hg⟩
/-- One more term is appended. -/
theorem Own.append {wr w2 w3 : World} {base : Nat} {k : Fo} {j : Nat} {A : Option Addr} {C g cap : Nat} {blk : Obj} {x y : Nat} {s' v' : Int} {kk : Fo} {a2 : Option Addr} {c2 : Nat} (h : ∃ xs, wr.ownsRow base 35 3 (.slice A j C) j xs ∧
      w3.ownsRow base 35 3 (.slice (some ⟨g, 0, none⟩) (j + 1) cap) (j + 1) (xs ++ [.int .i64 s', .int .i64 v', .slice a2 (flen kk) c2]) ∧
      ∀ i, i < j → ∃ x y s' v' kk a' c' L H, fdrop i k = .node x y (s', v') kk (fdrop (i + 1) k) ∧
        xs[i * 3]? = some (.int .i64 s') ∧ xs[i * 3 + 1]? = some (.int .i64 v') ∧ xs[i * 3 + 2]? = some (.slice a' (flen kk) c') ∧ Sl wr L H a' kk ∧ base ≤ L ∧ H ≤ wr.heap.size ∧ (∀ g, (Value.slice A j C).ownBlock = some g → g < L ∨ H ≤ g))
    (hb2 : Below wr.heap.size wr w2) (hl2 : Sl w2 wr.heap.size w2.heap.size a2 kk) (hbase : base ≤ wr.heap.size) (hd : fdrop j k = .node x y (s', v') kk (fdrop (j + 1) k))
    (hgrow : (w2.alloc blk).grownBy w3 (Value.slice A j C).ownBlock) (hatg : (Value.slice A j C).ownBlock = some g ∨ g = w2.heap.size + 1) : Own w3 base k (j + 1) (some ⟨g, 0, none⟩) cap := by
  obtain ⟨xs, hown, hown3, hall⟩ := h
  have hs2 := hb2.size
  have hs3 := hgrow.size
  simp at hs3
  have hxl : xs.length = j * 3 := hown.1
  refine ⟨_, hown3, fun i hi => ?_⟩
  by_cases hij : i < j
  · obtain ⟨x, y, s1, v1, k1, a1, c1, L, H, e, h0, h1, h2, hs, hL, hH, hg⟩ := hall i hij
    refine ⟨x, y, s1, v1, k1, a1, c1, L, H, e, ?_, ?_, ?_, hs.same (fun b h1 h2 => ?_), hL, by omega, fun g' hg' => ?_⟩
    · rw [List.getElem?_append_left (by omega)]; exact h0
    · rw [List.getElem?_append_left (by omega)]; exact h1
    · rw [List.getElem?_append_left (by omega)]; exact h2
    · rw [hgrow.block b (by simp; omega) (fun e => by have := hg b e.symm; omega), Below.heap_alloc _ _ _ (by omega), hb2.block b (by omega)]
    · have : g' = g := by simpa [Value.ownBlock] using hg'.symm
      subst this
      rcases hatg with hg1 | hg1
      · exact hg _ hg1
      · omega
  · have : i = j := by omega
    subst this
    refine ⟨x, y, s', v', kk, a2, c2, wr.heap.size, w2.heap.size, hd, ?_, ?_, ?_, hl2.same (fun b h1 h2 => ?_), hbase, by omega, fun g' hg' => ?_⟩
    · rw [List.getElem?_append_right (by omega), hxl]; simp
    · rw [List.getElem?_append_right (by omega), hxl, show i * 3 + 1 - i * 3 = 1 from by omega]; rfl
    · rw [List.getElem?_append_right (by omega), hxl, show i * 3 + 2 - i * 3 = 2 from by omega]; rfl
    · rw [hgrow.block b (by simp; omega) (fun e => by have := (hown.lt b e.symm).2; omega), Below.heap_alloc _ _ _ (by omega)]
    · have : g' = g := by simpa [Value.ownBlock] using hg'.symm
      subst this
      rcases hatg with hg1 | hg1
      · exact .inl (hown.lt _ hg1).2
      · exact .inr (by omega)

theorem Try.infoTerm : ∃ i, Try.prog.info? 35 = some i ∧ i.zero = some (.agg #[.int .i64 0, .int .i64 0, .slice none 0 0]) ∧ i.size = 3 ∧ i.bytes = 40 := by
  have h : (Try.prog.info? 35).map (fun i => (i.zero, i.size, i.bytes)) = some (some (.agg #[.int .i64 0, .int .i64 0, .slice none 0 0]), 3, 40) := by kernel_rfl
  obtain ⟨i, hi, hz⟩ := Option.map_eq_some_iff.1 h
  simp only [Prod.mk.injEq] at hz
  exact ⟨i, hi, hz.1, hz.2.1, hz.2.2⟩

theorem bl_undrew {B : Nat} {w w2 : World} (h : Below B w.drew w2) : Below B w w2 := ⟨h.os, h.tape, h.output, h.size, h.block⟩

/-- What holds at the head of l1Copy's loop: j kids are copied, the new slice is (A, j, C). -/
structure CpAt (w : World) (s v : Int) (a : Option Addr) (c : Nat) (k : Fo) (j : Nat) (A : Option Addr) (C : Nat) (wr : World) : Prop where
  below : Below (w.heap.size + 2) ((w.alloc (.cells #[.int .i64 s, .int .i64 v, .slice a (flen k) c] 35)).alloc (.cells #[.int .i64 0, .int .i64 0, .slice none 0 0] 35)) wr
  out0 : wr.cell? ⟨w.heap.size + 2, 0, none⟩ = some (.int .i64 s)
  out1 : wr.cell? ⟨w.heap.size + 2, 1, none⟩ = some (.int .i64 v)
  out2 : wr.cell? ⟨w.heap.size + 2, 2, none⟩ = some (.slice A j C)
  free : wr.frozen? ⟨w.heap.size + 2, 2, none⟩ = false
  size : w.heap.size + 3 ≤ wr.heap.size
  own : Own wr (w.heap.size + 3) k j A C

theorem CpAt.start (w : World) (s v : Int) (a : Option Addr) (c : Nat) (k : Fo) : CpAt w s v a c k 0 none 0 (((w.alloc (.cells #[.int .i64 s, .int .i64 v, .slice a (flen k) c] 35)).alloc (.cells #[.int .i64 0, .int .i64 0, .slice none 0 0] 35)).alloc (.cells #[.int .i64 s, .int .i64 v, .slice none 0 0] 35)) := by
  refine ⟨(Below.refl _ _).alloc (by simp) _, ?_, ?_, ?_, ?_, by simp, ⟨[], World.ownsRow_nil _ _ _ _, fun i hi => by omega⟩⟩
  · rw [World.cell?_alloc_at _ _ _ _ (by simp)]; rfl
  · rw [World.cell?_alloc_at _ _ _ _ (by simp)]; rfl
  · rw [World.cell?_alloc_at _ _ _ _ (by simp)]; rfl
  · rw [World.frozen?_alloc_at _ _ _ _ (by simp)]
theorem CpAt.step {w wr w2 w3 : World} {s v : Int} {a : Option Addr} {c : Nat} {k : Fo} {j : Nat} {A : Option Addr} {C g cap : Nat} {blk : Obj} {xs : List Value} {x y : Nat} {s' v' : Int} {kk : Fo} {a2 : Option Addr} {c2 : Nat} (h : CpAt w s v a c k j A C wr)
    (hb2 : Below wr.heap.size wr w2) (hl2 : Sl w2 wr.heap.size w2.heap.size a2 kk) (hd : fdrop j k = .node x y (s', v') kk (fdrop (j + 1) k)) (hown : wr.ownsRow (w.heap.size + 3) 35 3 (.slice A j C) j xs)
    (hall : ∀ i, i < j → ∃ x y s' v' kk a' c' L H, fdrop i k = .node x y (s', v') kk (fdrop (i + 1) k) ∧
        xs[i * 3]? = some (.int .i64 s') ∧ xs[i * 3 + 1]? = some (.int .i64 v') ∧ xs[i * 3 + 2]? = some (.slice a' (flen kk) c') ∧ Sl wr L H a' kk ∧ w.heap.size + 3 ≤ L ∧ H ≤ wr.heap.size ∧ (∀ g, (Value.slice A j C).ownBlock = some g → g < L ∨ H ≤ g))
    (hown3 : w3.ownsRow (w.heap.size + 3) 35 3 (.slice (some ⟨g, 0, none⟩) (j + 1) cap) (j + 1) (xs ++ [.int .i64 s', .int .i64 v', .slice a2 (flen kk) c2]))
    (hgrow : (w2.alloc blk).grownBy w3 (Value.slice A j C).ownBlock) (hatg : (Value.slice A j C).ownBlock = some g ∨ g = w2.heap.size + 1) :
    CpAt w s v a c k (j + 1) (some ⟨g, 0, none⟩) cap (w3.setCell ⟨w.heap.size + 2, 2, none⟩ (.slice (some ⟨g, 0, none⟩) (j + 1) cap)) := by
  have hs1 := h.size
  have hs2 := hb2.size
  have hs3 := hgrow.size
  simp at hs3
  have hr : ∀ g, (Value.slice A j C).ownBlock = some g → w.heap.size + 3 ≤ g := fun g hg => (hown.lt g hg).1
  have hcell : ∀ {q : Addr} {u : Value}, wr.cell? q = some u → q.block < w.heap.size + 3 → w3.cell? q = some u := fun hq hlt =>
    cell_grown hgrow hr (cell_low ((Below.refl _ _).alloc (Nat.le_refl _) _) (cell_low hb2 hq)) hlt
  refine ⟨?_, ?_, ?_, ?_, ?_, by simp; omega, ?_⟩
  · exact (((h.below.trans (hb2.mono (by omega))).alloc (by omega) _).grown hgrow (by simp; omega) (fun g hg => by have := hr g hg; omega)).setCell (by simp) _
  · rw [World.cell?_setCell_other _ _ _ _ (by intro h'; have := congrArg Addr.off h'; simp at this)]; exact hcell h.out0 (by simp)
  · rw [World.cell?_setCell_other _ _ _ _ (by intro h'; have := congrArg Addr.off h'; simp at this)]; exact hcell h.out1 (by simp)
  · exact World.cell?_setCell_same _ _ _ (hcell h.out2 (by simp))
  · rw [World.frozen?_setCell, hgrow.frozen_far _ (by simp; omega) (fun e => by have := hr _ e.symm; dsimp only at this; omega), World.frozen?_alloc_old _ _ _ (by simp; omega), hb2.frozen (by simp; omega)]
    exact h.free
  · exact (Own.append ⟨xs, hown, hown3, hall⟩ hb2 hl2 (by omega) hd hgrow hatg).store (by simp) _
theorem CpAt.low {w wr : World} {s v : Int} {a : Option Addr} {c : Nat} {k : Fo} {j : Nat} {A : Option Addr} {C : Nat} (h : CpAt w s v a c k j A C wr) : Below w.heap.size w wr :=
  (((Below.refl _ _).alloc (Nat.le_refl _) _).alloc (by simp) _).trans (h.below.mono (by omega))
theorem CpAt.done {w wr : World} {s v : Int} {a : Option Addr} {c : Nat} {k : Fo} {A : Option Addr} {C : Nat} (h : CpAt w s v a c k (flen k) A C wr) (x y z : Value) :
    CopyPost s v k w (.returned (.agg #[.int .i64 s, .int .i64 v, .slice A (flen k) C])) (((wr.setCell ⟨w.heap.size + 1, 0, none⟩ x).setCell ⟨w.heap.size + 1, 1, none⟩ y).setCell ⟨w.heap.size + 1, 2, none⟩ z) := by
  refine ⟨A, C, rfl, ((h.low.setCell (by simp) _).setCell (by simp) _).setCell (by simp) _, ?_⟩
  exact (((h.own.store (by simp) x).store (by simp) y).store (by simp) z).low (Below.refl _ _) (by omega)
theorem CpAt.res {w wr : World} {s v : Int} {a : Option Addr} {c : Nat} {k : Fo} {j : Nat} {A : Option Addr} {C : Nat} (h : CpAt w s v a c k j A C wr) :
    wr.cell? ⟨w.heap.size + 1, 0, none⟩ = some (.int .i64 0) ∧ wr.cell? ⟨w.heap.size + 1, 1, none⟩ = some (.int .i64 0) ∧ wr.cell? ⟨w.heap.size + 1, 2, none⟩ = some (.slice none 0 0) ∧
      wr.frozen? ⟨w.heap.size + 1, 0, none⟩ = false ∧ wr.frozen? ⟨w.heap.size + 1, 1, none⟩ = false ∧ wr.frozen? ⟨w.heap.size + 1, 2, none⟩ = false ∧ wr.cell? ⟨w.heap.size, 2, none⟩ = some (.slice a (flen k) c) := by
  refine ⟨?_, ?_, ?_, ?_, ?_, ?_, ?_⟩
  · rw [h.below.cell (by simp), World.cell?_alloc_at _ _ _ _ (by simp)]; rfl
  · rw [h.below.cell (by simp), World.cell?_alloc_at _ _ _ _ (by simp)]; rfl
  · rw [h.below.cell (by simp), World.cell?_alloc_at _ _ _ _ (by simp)]; rfl
  · rw [h.below.frozen (by simp), World.frozen?_alloc_at _ _ _ _ (by simp)]
  · rw [h.below.frozen (by simp), World.frozen?_alloc_at _ _ _ _ (by simp)]
  · rw [h.below.frozen (by simp), World.frozen?_alloc_at _ _ _ _ (by simp)]
  · rw [h.below.cell (by simp), World.cell?_alloc_lt _ _ _ (by simp)]; simp

theorem fsz_drop : ∀ (i : Nat) (k : Fo), fsz (fdrop i k) ≤ fsz k
  | 0, _ => Nat.le_refl _
  | _ + 1, .nil => Nat.le_refl _
  | n + 1, .node _ _ _ _ r => by have := fsz_drop n r; simp only [fdrop, fsz]; omega
theorem fsz_kid {i : Nat} {k : Fo} {x y : Nat} {p : Int × Int} {kk r : Fo} (h : fdrop i k = .node x y p kk r) : fsz kk < fsz k := by
  have := fsz_drop i k
  rw [h] at this
  simp only [fsz] at this
  omega

set_option maxRecDepth 100000 in
set_option maxHeartbeats 1000000 in
theorem l1Copy_any (N : Nat) : ∀ (s v : Int) (a : Option Addr) (c : Nat) (k : Fo) (w : World), Sl w 0 w.heap.size a k → fsz k ≤ N → N ≤ 1000000 →
    Calls Try.prog 70 #[.agg #[.int .i64 s, .int .i64 v, .slice a (flen k) c]] w (CopyPost s v k w) := by
  induction N using Nat.strongRecOn with
  | _ N ih =>
    intro s v a c k w hl hN hN2
    have hfl := flen_le_sz k
    have IH := Lib.hid ih
    clear ih
    have HST := Lib.hid (CpAt.start w s v a c k)
    go_enter Try.func70, Try.ntmps70
    go_wp2_with fail
    go_loopw [4] (fun i wr => ∃ (j : Nat) (A : Option Addr) (C : Nat), j ≤ flen k ∧ i = .int .i64 j ∧ CpAt w s v a c k j A C wr) (fun i _ => flen k - (intOf i).toNat)
    case atStart => exact ⟨0, none, 0, Nat.zero_le _, rfl, HST.out⟩
    case round =>
      clear HST
      obtain ⟨j, A, C, hj, rfl, hat⟩ := hrel
      obtain ⟨hr0, hr1, hr2, hq0, hq1, hq2, hb0⟩ := hat.res
      have ho0 := hat.out0
      have ho1 := hat.out1
      have ho2 := hat.out2
      have hof := hat.free
      have hsz := hat.size
      by_cases hlt : j < flen k
      · clear hr0 hr1 hr2 hq0 hq1 hq2
        rcases hl with rfl | ⟨b, o, rfl, hrow⟩
        · simp [flen] at hlt
        have hbw := hat.low
        obtain ⟨s', v', kk, a', c', ⟨x, y, hd⟩, _, hbB, hk0, hk1, hk2, hsl⟩ := row_at (hrow.below hbw) hlt
        have hkN := Lib.hid (fsz_kid hd)
        have HD := Lib.hid hd
        have HS := Lib.hid hsl
        have HROW := Lib.hid hrow
        have HAT := Lib.hid hat
        clear hd hsl hrow hat hbw
        have g1 : (0 : Int) ≤ (j : Int) := by omega
        have g2 : (j : Int) < (flen k : Int) := by omega
        obtain ⟨ti, hti, htz, hts, htb⟩ := Try.infoTerm
        obtain ⟨xs, hown, hall⟩ := HAT.out.own
        have HTI := Lib.hid hti
        have HTZ := Lib.hid htz
        have HTS := Lib.hid hts
        have HTB := Lib.hid htb
        have HOWN := Lib.hid hown
        have HALL := Lib.hid hall
        have HLT : Hid (∀ g, (Value.slice A j C).ownBlock = some g → w.heap.size + 3 ≤ g) := fun g hg => (hown.lt g hg).1
        clear hti htz hts htb hown hall
        have hu0 : ∀ u : After (w.heap.size + 3) wr, u.world.cell? ⟨w.heap.size + 1 + 1, 2, none⟩ = some (.slice A j C) := fun u => u.cell (by simp) ho2
        have hu1 : ∀ u : After (w.heap.size + 3) wr, u.world.cell? ⟨w.heap.size, 2, none⟩ = some (.slice (some ⟨b, o, none⟩) (flen k) c) := fun u => u.cell (by simp) hb0
        have hu2 : ∀ u : After (w.heap.size + 3) wr, u.world.cell? ⟨b, o + j * 3, none⟩ = some (.int .i64 s') := fun u => u.cell (by simp; omega) hk0
        have hu3 : ∀ u : After (w.heap.size + 3) wr, u.world.cell? ⟨b, o + j * 3 + 1, none⟩ = some (.int .i64 v') := fun u => u.cell (by simp; omega) hk1
        have hu4 : ∀ u : After (w.heap.size + 3) wr, u.world.cell? ⟨b, o + j * 3 + 2, none⟩ = some (.slice a' (flen kk) c') := fun u => u.cell (by simp; omega) hk2
        go_wp2_with fail
        refine wp_region_mix (fun w' => ∃ u : After (w.heap.size + 3) wr, w' = u.world) [10, 11] [(0, 0), (1, 0), (2, 0), (3, 0), (4, 0), (5, 0), (6, 0), (7, 1), (8, 1), (9, 1), (10, 2), (11, 2)] (by kernel_rfl) (by kernel_rfl) ⟨⟨_, (Below.refl _ _).drew⟩, rfl⟩ ?_
        iterate 7
          refine mix_see rfl (fun K hK => ?_)
          go_simp
          refine hK _ ?_
          clear hK K
        clear hu0 hu1 hu2 hu3 hu4
        refine mix_hold rfl (fun K hK => ?_)
        go_simp
        with_reducible refine (IH.out (fsz kk) (by have := hkN.out; omega) s' v' a' c' kk _ ?_ (Nat.le_refl _) ?_).mono ?_
        · exact (HS.out.below (Below.refl _ _).drew).mono (Nat.le_refl _) (by simp; omega)
        · have := hkN.out; omega
        rintro e w2 ⟨a2, c2, rfl, hb2', hown2⟩
        have hb2 : Below wr.heap.size wr w2 := bl_undrew hb2'
        have HL2 : Hid (Sl w2 wr.heap.size w2.heap.size a2 kk) := hown2.sl
        have hs2 := hb2.size
        refine hK _ _ ⟨⟨_, hb2.mono (by omega)⟩, rfl⟩ ?_
        clear hK K hb2' hown2
        refine mix_hold rfl (fun K hK => ?_)
        go_simp
        refine hK _ _ ⟨⟨_, (hb2.mono (by omega)).alloc (by omega) _⟩, rfl⟩ ?_
        clear hK K
        refine mix_hold rfl (fun K hK => ?_)
        refine step_append_lies _ (by rfl) _ _ _ (by rfl) (w.heap.size + 3) 35 ti _ 3 40 Try.underlying33 HTI.out HTZ.out HTS.out HTB.out rfl (by omega) (.slice A j C) j xs (by rfl) (own_low ((Below.refl _ _).alloc (Nat.le_refl _) _) (own_low hb2 HOWN.out)) ⟨w2.heap.size, 0, none⟩ 1 1 [.int .i64 s', .int .i64 v', .slice a2 (flen kk) c2] (by rfl) (by rfl) (World.news_of_block (heap_alloc_new _ _)) (by simp [Value.oneCell']) (by omega) (by unfold maxLen; omega) (by omega) (by simp; omega) (w2.heap.size + 1) (by simp) ?_
        intro g cap w3 hown3 hgrow hatg hg3
        have hlow : Below (w.heap.size + 3) wr w3 := ((hb2.mono (by omega)).alloc (by omega) _).grown hgrow (by simp; omega) HLT.out
        have hz2 : w3.cell? ⟨w.heap.size + 1 + 1, 2, none⟩ = some (.slice A j C) := by rw [hlow.cell (by simp)]; exact ho2
        have hz3 : w3.frozen? ⟨w.heap.size + 1 + 1, 2, none⟩ = false := by rw [hlow.frozen (by simp)]; exact hof
        have HSTEP := Lib.hid (HAT.out.step hb2 HL2.out HD.out HOWN.out HALL.out hown3 hgrow hatg)
        refine hK _ _ ⟨⟨_, hlow⟩, rfl⟩ ?_
        clear hK K hown3 hgrow hatg
        refine mix_late rfl (fun K hK => ?_)
        go_simp
        refine hK _ _ ?_
        clear hK K
        refine mix_late rfl (fun K hK => ?_)
        go_simp
        refine hK _ _ ?_
        clear hK K
        refine mix_end ?_
        clear hz2 hz3 hlow hb0 ho0 ho1 ho2 hof hk0 hk1 hk2
        go_wp2_with fail
        go_roundw
        case rel => exact ⟨j + 1, _, _, by omega, by go_num, HSTEP.out⟩
        case measure => simp [intOf]; omega
      · have hjk : j = flen k := by omega
        subst hjk
        have HDN := Lib.hid (fun x y z => hat.done x y z)
        clear hat
        go_wp2_with fail
        refine bodyPost_ret (v := .agg #[.int .i64 s, .int .i64 v, .slice A (flen k) C]) ?_ rfl (HDN.out _ _ _)
        simp [results, Try.results70, go_sem, hr0, hr1, hr2]
end Go.Proofs.Ytoafleckcjanaaa

/-! WH: l71Bad. -/
namespace Go.Proofs.Ytoafleckcjanaaa
open Go.RowKit Go.Deep

theorem own_same {w w2 : World} {base : Nat} {k : Fo} {j : Nat} {A : Option Addr} {C : Nat} (h : Own w base k j A C) (hs : ∀ b, base ≤ b → b < w.heap.size → w2.heap[b]? = w.heap[b]?) (hsz : w.heap.size ≤ w2.heap.size) : Own w2 base k j A C := by
  obtain ⟨xs, hown, hall⟩ := h
  refine ⟨xs, ⟨hown.1, ?_⟩, fun i hi => ?_⟩
  · rcases hown.2 with h2 | ⟨g, cap, cur, h3, h4, h5, h6⟩
    · exact .inl h2
    · have hg : g < w.heap.size := (hown.lt g (by rw [h3]; rfl)).2
      exact .inr ⟨g, cap, cur, h3, h4, by rw [hs g h4 hg]; exact h5, h6⟩
  · obtain ⟨x, y, s', v', kk, a', c', L, H, e, h0, h1, h2, hsl, hL, hH, hg⟩ := hall i hi
    exact ⟨x, y, s', v', kk, a', c', L, H, e, h0, h1, h2, hsl.same (fun b h1 h2 => hs b (by omega) (by omega)), hL, by omega, hg⟩
theorem Own.adv {w w2 : World} {base br p : Nat} {k : Fo} {j : Nat} {A : Option Addr} {C : Nat} (h : Own w base k j A C) (ha : Adv w br p w2) (hb : br < base) : Own w2 base k j A C :=
  own_same h (fun b h1 h2 => by rw [Below.block ha b h2, Below.heap_setCell _ _ _ _ (by simp; omega)]) ha.size

def fsnoc : Fo → Int × Int → Fo
  | .nil, p => .node 0 0 p .nil .nil
  | .node x y q k r, p => .node x y q k (fsnoc r p)
theorem flen_snoc (p : Int × Int) : ∀ k, flen (fsnoc k p) = flen k + 1
  | .nil => rfl
  | .node _ _ _ _ r => by simp only [fsnoc, flen, flen_snoc p r]
theorem fsz_snoc (p : Int × Int) : ∀ k, fsz (fsnoc k p) = fsz k + 1
  | .nil => rfl
  | .node _ _ _ _ r => by simp only [fsnoc, fsz, fsz_snoc p r]; omega
theorem fdrop_snoc (p : Int × Int) : ∀ (i : Nat) (k : Fo) {x y : Nat} {q : Int × Int} {kk : Fo}, fdrop i k = .node x y q kk (fdrop (i + 1) k) → fdrop i (fsnoc k p) = .node x y q kk (fdrop (i + 1) (fsnoc k p))
  | 0, .nil, _, _, _, _, h => by simp [fdrop] at h
  | 0, .node _ _ _ _ r, _, _, _, _, h => by
    simp only [fdrop, BT.node.injEq] at h
    obtain ⟨rfl, rfl, rfl, rfl, _⟩ := h
    simp [fsnoc, fdrop]
  | i + 1, .nil, _, _, _, _, h => by simp [fdrop] at h
  | i + 1, .node _ _ _ _ r, _, _, _, _, h => by
    simp only [fsnoc, fdrop] at h ⊢
    exact fdrop_snoc p i r h
theorem fdrop_snoc_end (p : Int × Int) : ∀ (k : Fo), fdrop (flen k) (fsnoc k p) = .node 0 0 p .nil (fdrop (flen k + 1) (fsnoc k p))
  | .nil => rfl
  | .node _ _ _ _ r => by simp only [fsnoc, flen, fdrop]; exact fdrop_snoc_end p r

/-- Where l71Bad stands: the term's own cells hold (s, v, (A, n, C)), the result's are as laid. -/
structure BadAt (w : World) (br p : Nat) (s v : Int) (A : Option Addr) (n C : Nat) (wc : World) : Prop where
  adv : Adv w br p wc
  rd : Rd wc br p
  size : w.heap.size + 2 ≤ wc.heap.size
  t0 : wc.cell? ⟨w.heap.size, 0, none⟩ = some (.int .i64 s)
  t1 : wc.cell? ⟨w.heap.size, 1, none⟩ = some (.int .i64 v)
  t2 : wc.cell? ⟨w.heap.size, 2, none⟩ = some (.slice A n C)
  f0 : wc.frozen? ⟨w.heap.size, 0, none⟩ = false
  f1 : wc.frozen? ⟨w.heap.size, 1, none⟩ = false
  f2 : wc.frozen? ⟨w.heap.size, 2, none⟩ = false
  r0 : wc.cell? ⟨w.heap.size + 1, 0, none⟩ = some (.int .i64 0)
  r1 : wc.cell? ⟨w.heap.size + 1, 1, none⟩ = some (.int .i64 0)
  r2 : wc.cell? ⟨w.heap.size + 1, 2, none⟩ = some (.slice none 0 0)
  g0 : wc.frozen? ⟨w.heap.size + 1, 0, none⟩ = false
  g1 : wc.frozen? ⟨w.heap.size + 1, 1, none⟩ = false
  g2 : wc.frozen? ⟨w.heap.size + 1, 2, none⟩ = false

theorem BadAt.start {w : World} {br p : Nat} (hr : Rd w br p) (s v : Int) (a : Option Addr) (n c : Nat) :
    BadAt w br p s v a n c ((w.alloc (.cells #[.int .i64 s, .int .i64 v, .slice a n c] 35)).alloc (.cells #[.int .i64 0, .int .i64 0, .slice none 0 0] 35)) := by
  refine ⟨((Adv.start hr (Below.refl _ _)).alloc _).alloc _, (hr.alloc _).alloc _, by simp, ?_, ?_, ?_, ?_, ?_, ?_, ?_, ?_, ?_, ?_, ?_, ?_⟩
  iterate 3
    · rw [World.cell?_alloc_lt _ _ _ (by simp)]; simp
  iterate 3
    · rw [World.frozen?_alloc_old _ _ _ (by simp)]; simp
  iterate 3
    · rw [World.cell?_alloc_at _ _ _ _ (by simp)]; rfl
  iterate 3
    · rw [World.frozen?_alloc_at _ _ _ _ (by simp)]

theorem BadAt.call {w wc w2 : World} {br p p' : Nat} {s v : Int} {A : Option Addr} {n C : Nat} (h : BadAt w br p s v A n C wc) (hbr : br < w.heap.size) (ha : Adv wc br p' w2) : BadAt w br p' s v A n C w2 := by
  have hs := h.size
  have hs2 := ha.size
  refine ⟨h.adv.trans ha, ha.rd h.rd, by omega, ha.cell h.t0 (by simp; omega), ha.cell h.t1 (by simp; omega), ha.cell h.t2 (by simp; omega), ?_, ?_, ?_, ha.cell h.r0 (by simp; omega), ha.cell h.r1 (by simp; omega), ha.cell h.r2 (by simp; omega), ?_, ?_, ?_⟩
  · rw [ha.frozen (by simp; omega)]; exact h.f0
  · rw [ha.frozen (by simp; omega)]; exact h.f1
  · rw [ha.frozen (by simp; omega)]; exact h.f2
  · rw [ha.frozen (by simp; omega)]; exact h.g0
  · rw [ha.frozen (by simp; omega)]; exact h.g1
  · rw [ha.frozen (by simp; omega)]; exact h.g2
theorem BadAt.more {w wc w2 : World} {br p : Nat} {s v : Int} {A : Option Addr} {n C : Nat} (h : BadAt w br p s v A n C wc) (hbr : br < w.heap.size) (hb : Below wc.heap.size wc w2) : BadAt w br p s v A n C w2 :=
  h.call hbr (Adv.start h.rd hb)
/-- Old memory is as it was, the term's and the result's cells too. -/
theorem BadAt.keep {w wc w2 : World} {br p : Nat} {s v : Int} {A : Option Addr} {n C : Nat} (h : BadAt w br p s v A n C wc) (hbr : br < w.heap.size) (hb : Below (w.heap.size + 2) wc w2) (hs : w.heap.size + 2 ≤ w2.heap.size) : BadAt w br p s v A n C w2 := by
  have hsz := h.size
  refine ⟨Below.trans h.adv (hb.mono (by omega)), ?_, hs, ?_, ?_, ?_, ?_, ?_, ?_, ?_, ?_, ?_, ?_, ?_, ?_⟩
  · refine ⟨by omega, ?_, ?_, ?_⟩
    · rw [hb.cell (by simp; omega)]; exact h.rd.place
    · rw [hb.frozen (by simp; omega)]; exact h.rd.free
    · obtain ⟨a, len, cap, h0, h1, h2⟩ := h.rd.text
      refine ⟨a, len, cap, by rw [hb.cell (by simp; omega)]; exact h0, h1, ?_⟩
      rcases h2 with h2 | ⟨b, o, e, h3, h4⟩
      · exact .inl h2
      · refine .inr ⟨b, o, e, h3, fun i hi => ?_⟩
        obtain ⟨x, hx, hc⟩ := h4 i hi
        exact ⟨x, hx, by rw [hb.cell (by simp; omega)]; exact hc⟩
  · rw [hb.cell (by simp)]; exact h.t0
  · rw [hb.cell (by simp)]; exact h.t1
  · rw [hb.cell (by simp)]; exact h.t2
  · rw [hb.frozen (by simp)]; exact h.f0
  · rw [hb.frozen (by simp)]; exact h.f1
  · rw [hb.frozen (by simp)]; exact h.f2
  · rw [hb.cell (by simp)]; exact h.r0
  · rw [hb.cell (by simp)]; exact h.r1
  · rw [hb.cell (by simp)]; exact h.r2
  · rw [hb.frozen (by simp)]; exact h.g0
  · rw [hb.frozen (by simp)]; exact h.g1
  · rw [hb.frozen (by simp)]; exact h.g2
theorem ne_off {b i j : Nat} (h : i ≠ j) : (⟨b, i, none⟩ : Addr) ≠ ⟨b, j, none⟩ := fun e => h (congrArg Addr.off e)
theorem ne_blk {b c i j : Nat} (h : b ≠ c) : (⟨b, i, none⟩ : Addr) ≠ ⟨c, j, none⟩ := fun e => h (congrArg Addr.block e)
theorem Rd.store {w : World} {br p : Nat} (h : Rd w br p) {q : Addr} (hq : br < q.block) (u : Value) : Rd (w.setCell q u) br p := by
  refine ⟨by simpa using h.lt, ?_, by simpa using h.free, ?_⟩
  · rw [World.cell?_setCell_other _ _ _ _ (fun e => by have := congrArg Addr.block e; simp at this; omega)]; exact h.place
  · obtain ⟨a, len, cap, h0, h1, h2⟩ := h.text
    refine ⟨a, len, cap, by rw [World.cell?_setCell_other _ _ _ _ (fun e => by have := congrArg Addr.block e; simp at this; omega)]; exact h0, h1, ?_⟩
    rcases h2 with h2 | ⟨b, o, e, h3, h4⟩
    · exact .inl h2
    · refine .inr ⟨b, o, e, h3, fun i hi => ?_⟩
      obtain ⟨x, hx, hc⟩ := h4 i hi
      exact ⟨x, hx, by rw [World.cell?_setCell_other _ _ _ _ (fun e => by have := congrArg Addr.block e; simp at this; omega)]; exact hc⟩
theorem BadAt.set0 {w wc : World} {br p : Nat} {s v : Int} {A : Option Addr} {n C : Nat} (h : BadAt w br p s v A n C wc) (hbr : br < w.heap.size) (s' : Int) : BadAt w br p s' v A n C (wc.setCell ⟨w.heap.size, 0, none⟩ (.int .i64 s')) := by
  refine ⟨h.adv.store (by simp) _, h.rd.store (by simpa using hbr) _, by simpa using h.size, World.cell?_setCell_same _ _ _ h.t0, ?_, ?_, ?_, ?_, ?_, ?_, ?_, ?_, ?_, ?_, ?_⟩
  · rw [World.cell?_setCell_other _ _ _ _ (ne_off (by omega))]; exact h.t1
  · rw [World.cell?_setCell_other _ _ _ _ (ne_off (by omega))]; exact h.t2
  · rw [World.frozen?_setCell]; exact h.f0
  · rw [World.frozen?_setCell]; exact h.f1
  · rw [World.frozen?_setCell]; exact h.f2
  · rw [World.cell?_setCell_other _ _ _ _ (ne_blk (by omega))]; exact h.r0
  · rw [World.cell?_setCell_other _ _ _ _ (ne_blk (by omega))]; exact h.r1
  · rw [World.cell?_setCell_other _ _ _ _ (ne_blk (by omega))]; exact h.r2
  · rw [World.frozen?_setCell]; exact h.g0
  · rw [World.frozen?_setCell]; exact h.g1
  · rw [World.frozen?_setCell]; exact h.g2
theorem BadAt.set1 {w wc : World} {br p : Nat} {s v : Int} {A : Option Addr} {n C : Nat} (h : BadAt w br p s v A n C wc) (hbr : br < w.heap.size) (v' : Int) : BadAt w br p s v' A n C (wc.setCell ⟨w.heap.size, 1, none⟩ (.int .i64 v')) := by
  refine ⟨h.adv.store (by simp) _, h.rd.store (by simpa using hbr) _, by simpa using h.size, ?_, World.cell?_setCell_same _ _ _ h.t1, ?_, ?_, ?_, ?_, ?_, ?_, ?_, ?_, ?_, ?_⟩
  · rw [World.cell?_setCell_other _ _ _ _ (ne_off (by omega))]; exact h.t0
  · rw [World.cell?_setCell_other _ _ _ _ (ne_off (by omega))]; exact h.t2
  · rw [World.frozen?_setCell]; exact h.f0
  · rw [World.frozen?_setCell]; exact h.f1
  · rw [World.frozen?_setCell]; exact h.f2
  · rw [World.cell?_setCell_other _ _ _ _ (ne_blk (by omega))]; exact h.r0
  · rw [World.cell?_setCell_other _ _ _ _ (ne_blk (by omega))]; exact h.r1
  · rw [World.cell?_setCell_other _ _ _ _ (ne_blk (by omega))]; exact h.r2
  · rw [World.frozen?_setCell]; exact h.g0
  · rw [World.frozen?_setCell]; exact h.g1
  · rw [World.frozen?_setCell]; exact h.g2
theorem BadAt.set2 {w wc : World} {br p : Nat} {s v : Int} {A A' : Option Addr} {n C n' C' : Nat} (h : BadAt w br p s v A n C wc) (hbr : br < w.heap.size) : BadAt w br p s v A' n' C' (wc.setCell ⟨w.heap.size, 2, none⟩ (.slice A' n' C')) := by
  refine ⟨h.adv.store (by simp) _, h.rd.store (by simpa using hbr) _, by simpa using h.size, ?_, ?_, World.cell?_setCell_same _ _ _ h.t2, ?_, ?_, ?_, ?_, ?_, ?_, ?_, ?_, ?_⟩
  · rw [World.cell?_setCell_other _ _ _ _ (ne_off (by omega))]; exact h.t0
  · rw [World.cell?_setCell_other _ _ _ _ (ne_off (by omega))]; exact h.t1
  · rw [World.frozen?_setCell]; exact h.f0
  · rw [World.frozen?_setCell]; exact h.f1
  · rw [World.frozen?_setCell]; exact h.f2
  · rw [World.cell?_setCell_other _ _ _ _ (ne_blk (by omega))]; exact h.r0
  · rw [World.cell?_setCell_other _ _ _ _ (ne_blk (by omega))]; exact h.r1
  · rw [World.cell?_setCell_other _ _ _ _ (ne_blk (by omega))]; exact h.r2
  · rw [World.frozen?_setCell]; exact h.g0
  · rw [World.frozen?_setCell]; exact h.g1
  · rw [World.frozen?_setCell]; exact h.g2
/-- A store past both. -/
theorem BadAt.far {w wc : World} {br p : Nat} {s v : Int} {A : Option Addr} {n C : Nat} (h : BadAt w br p s v A n C wc) (hbr : br < w.heap.size) {q : Addr} (hq : w.heap.size + 2 ≤ q.block) (u : Value) : BadAt w br p s v A n C (wc.setCell q u) := by
  have hne : ∀ {b i : Nat}, b ≤ w.heap.size + 1 → q ≠ ⟨b, i, none⟩ := fun hb e => by have := congrArg Addr.block e; simp at this; omega
  refine ⟨h.adv.store (by omega) _, h.rd.store (by omega) _, by simpa using h.size, ?_, ?_, ?_, ?_, ?_, ?_, ?_, ?_, ?_, ?_, ?_, ?_⟩
  · rw [World.cell?_setCell_other _ _ _ _ (hne (by omega))]; exact h.t0
  · rw [World.cell?_setCell_other _ _ _ _ (hne (by omega))]; exact h.t1
  · rw [World.cell?_setCell_other _ _ _ _ (hne (by omega))]; exact h.t2
  · rw [World.frozen?_setCell]; exact h.f0
  · rw [World.frozen?_setCell]; exact h.f1
  · rw [World.frozen?_setCell]; exact h.f2
  · rw [World.cell?_setCell_other _ _ _ _ (hne (by omega))]; exact h.r0
  · rw [World.cell?_setCell_other _ _ _ _ (hne (by omega))]; exact h.r1
  · rw [World.cell?_setCell_other _ _ _ _ (hne (by omega))]; exact h.r2
  · rw [World.frozen?_setCell]; exact h.g0
  · rw [World.frozen?_setCell]; exact h.g1
  · rw [World.frozen?_setCell]; exact h.g2
/-- The end: the result's cells are stored. -/
theorem BadAt.done {w wc : World} {br p p' K S : Nat} {s v : Int} {A : Option Addr} {C : Nat} {k : Fo} {x y z : Value} (h : BadAt w br p' s v A (flen k) C wc) (h1 : p ≤ p') (h2 : p' ≤ p + K) (h3 : 1 + fsz k ≤ S) (hl : Sl wc (w.heap.size + 2) wc.heap.size A k) :
    DrawnPost br p K S w (.returned (.agg #[.int .i64 s, .int .i64 v, .slice A (flen k) C])) (((wc.setCell ⟨w.heap.size + 1, 0, none⟩ x).setCell ⟨w.heap.size + 1, 1, none⟩ y).setCell ⟨w.heap.size + 1, 2, none⟩ z) := by
  refine ⟨s, v, A, C, k, p', rfl, h1, h2, h3, ((h.adv.store (by simp) _).store (by simp) _).store (by simp) _, ?_⟩
  have hs : Same (w.heap.size + 2) wc.heap.size wc (((wc.setCell ⟨w.heap.size + 1, 0, none⟩ x).setCell ⟨w.heap.size + 1, 1, none⟩ y).setCell ⟨w.heap.size + 1, 2, none⟩ z) :=
    (((Same.setCell (fun _ _ _ => rfl) (.inl (by simp)) _).setCell (.inl (by simp)) _).setCell (.inl (by simp)) _)
  exact (hl.same hs).mono (by omega) (by simp)

theorem Sl.store {w : World} {lo B : Nat} {A : Option Addr} {k : Fo} (h : Sl w lo B A k) {q : Addr} (hq : q.block < lo) (u : Value) : Sl (w.setCell q u) lo B A k := h.same (Same.setCell (fun _ _ _ => rfl) (.inl hq) _)
theorem Sl.adv {w w2 : World} {lo br p : Nat} {A : Option Addr} {k : Fo} (h : Sl w lo w.heap.size A k) (ha : Adv w br p w2) (hb : br < lo) : Sl w2 lo w2.heap.size A k := (h.same (ha.same (Nat.le_refl _) (.inl hb))).mono (Nat.le_refl _) ha.size
theorem Sl.low {w w2 : World} {lo : Nat} {A : Option Addr} {k : Fo} (h : Sl w lo w.heap.size A k) (hb : Below w.heap.size w w2) : Sl w2 lo w2.heap.size A k := (h.below hb).mono (Nat.le_refl _) hb.size

/-- The first kid is written over. -/
theorem own_put0 {w : World} {base x y : Nat} {p : Int × Int} {kk r : Fo} {g C : Nat} (h : Own w base (.node x y p kk r) (flen r + 1) (some ⟨g, 0, none⟩) C) (s v : Int) :
    Sl (((w.setCell ⟨g, 0, none⟩ (.int .i64 s)).setCell ⟨g, 1, none⟩ (.int .i64 v)).setCell ⟨g, 2, none⟩ (.slice none 0 0)) base w.heap.size (some ⟨g, 0, none⟩) (.node 0 0 (s, v) .nil r) := by
  obtain ⟨xs, hown, hall⟩ := h
  obtain ⟨g', cap, hv, hb, hlt⟩ := hown.form (by omega)
  simp only [Value.slice.injEq, Option.some.injEq, Addr.mk.injEq] at hv
  obtain ⟨⟨rfl, _⟩, _, rfl⟩ := hv
  have hc := hown.cells (g := g) rfl
  have ha : ∀ n, (⟨g, 0, none⟩ : Addr).add n = ⟨g, n, none⟩ := fun n => by unfold Addr.add; split <;> simp_all
  have hcell : ∀ {i u}, xs[i]? = some u → w.cell? ⟨g, i, none⟩ = some u := fun h => by have := hc _ _ h; rwa [ha] at this
  refine .inr ⟨g, 0, rfl, row_of_all _ g 0 hb hlt fun i hi => ?_⟩
  have hsame : ∀ {L H : Nat}, (g < L ∨ H ≤ g) → Same L H w (((w.setCell ⟨g, 0, none⟩ (.int .i64 s)).setCell ⟨g, 1, none⟩ (.int .i64 v)).setCell ⟨g, 2, none⟩ (.slice none 0 0)) := fun hg =>
    ((Same.setCell (fun _ _ _ => rfl) hg _).setCell hg _).setCell hg _
  obtain ⟨x', y', s', v', k', a', c', L, H, e, h0, h1, h2, hs, hL, hH, hg⟩ := hall 0 (by omega)
  cases i with
  | zero =>
    refine ⟨0, 0, s, v, .nil, none, 0, rfl, ?_, ?_, ?_, .inl rfl⟩
    · rw [World.cell?_setCell_other _ _ _ _ (ne_off (by omega)), World.cell?_setCell_other _ _ _ _ (ne_off (by omega))]
      exact World.cell?_setCell_same _ _ _ (hcell h0)
    · rw [World.cell?_setCell_other _ _ _ _ (ne_off (by omega))]
      refine World.cell?_setCell_same _ _ _ (u := .int .i64 v') ?_
      rw [World.cell?_setCell_other _ _ _ _ (ne_off (by omega))]
      exact hcell h1
    · refine World.cell?_setCell_same _ _ _ (u := .slice a' (flen k') c') ?_
      rw [World.cell?_setCell_other _ _ _ _ (ne_off (by omega)), World.cell?_setCell_other _ _ _ _ (ne_off (by omega))]
      exact hcell h2
  | succ i =>
    obtain ⟨x', y', s', v', k', a', c', L, H, e, h0, h1, h2, hs, hL, hH, hg⟩ := hall (i + 1) (by simp [flen] at hi; omega)
    refine ⟨x', y', s', v', k', a', c', ?_, ?_, ?_, ?_, (hs.same (hsame (hg g rfl))).mono hL hH⟩
    · simpa [fdrop] using e
    · rw [World.cell?_setCell_other _ _ _ _ (ne_off (by omega)), World.cell?_setCell_other _ _ _ _ (ne_off (by omega)), World.cell?_setCell_other _ _ _ _ (ne_off (by omega)), Nat.zero_add]
      exact hcell h0
    · rw [World.cell?_setCell_other _ _ _ _ (ne_off (by omega)), World.cell?_setCell_other _ _ _ _ (ne_off (by omega)), World.cell?_setCell_other _ _ _ _ (ne_off (by omega)), Nat.zero_add]
      exact hcell h1
    · rw [World.cell?_setCell_other _ _ _ _ (ne_off (by omega)), World.cell?_setCell_other _ _ _ _ (ne_off (by omega)), World.cell?_setCell_other _ _ _ _ (ne_off (by omega)), Nat.zero_add]
      exact hcell h2
/-- The cells of the first kid. -/
theorem own_first {w : World} {base : Nat} {k : Fo} {n C : Nat} {A : Option Addr} (h : Own w base k n A C) (hn : 0 < n) :
    ∃ g, A = some ⟨g, 0, none⟩ ∧ base ≤ g ∧ g < w.heap.size ∧ (∃ u, w.cell? ⟨g, 0, none⟩ = some u) ∧ (∃ u, w.cell? ⟨g, 1, none⟩ = some u) ∧ (∃ u, w.cell? ⟨g, 2, none⟩ = some u) ∧
      w.frozen? ⟨g, 0, none⟩ = false ∧ w.frozen? ⟨g, 1, none⟩ = false ∧ w.frozen? ⟨g, 2, none⟩ = false := by
  obtain ⟨xs, hown, hall⟩ := h
  obtain ⟨g, cap, hv, hb, hlt⟩ := hown.form hn
  simp only [Value.slice.injEq] at hv
  obtain ⟨rfl, _, rfl⟩ := hv
  have hc := hown.cells (g := g) rfl
  have ha : ∀ n, (⟨g, 0, none⟩ : Addr).add n = ⟨g, n, none⟩ := fun n => by unfold Addr.add; split <;> simp_all
  have hcell : ∀ {i u}, xs[i]? = some u → w.cell? ⟨g, i, none⟩ = some u := fun h => by have := hc _ _ h; rwa [ha] at this
  obtain ⟨x', y', s', v', k', a', c', L, H, e, h0, h1, h2, hs, hL, hH, hg⟩ := hall 0 hn
  have hfz : ∀ i, w.frozen? ⟨g, i, none⟩ = false := fun i => by
    rcases hown.2 with ⟨h, _⟩ | ⟨g', cap', cur, h3, h4, h5, h6⟩
    · simp at h
    · simp only [Value.slice.injEq, Option.some.injEq, Addr.mk.injEq] at h3
      obtain ⟨⟨rfl, _⟩, _⟩ := h3
      simp [World.frozen?, h5]
  exact ⟨g, rfl, hb, hlt, ⟨_, hcell h0⟩, ⟨_, hcell h1⟩, ⟨_, hcell h2⟩, hfz 0, hfz 1, hfz 2⟩

end Go.Proofs.Ytoafleckcjanaaa
