/- Several texts in one: H2, H3, OK2, UM. -/
import Derived.Test.YtiinmlagcbjloaaGreatKAll11
import Derived.Test.YtiinmlagcbjloaaGreatKAll6
import Derived.Test.YtiinmlagcbjloaaGreatKAll1

/-! H2: From terms laid flat to the whole look; what is known at first. Plain lemmas. -/
namespace Go.Proofs.YtiinmlagcbjloaaGreat
open Go.RowKit Go.Deep

def tsS (ts : List (Int × Int × Fo)) (i : Nat) : Int × Int × Fo := (ts[i]?).getD (0, 0, .nil)
theorem tsS_of {ts : List (Int × Int × Fo)} {i : Nat} {t : Int × Int × Fo} (h : ts[i]? = some t) : tsS ts i = t := by simp [tsS, h]

theorem Flat.tab {w : World} {D g po : Nat} {O : Nat → Prop} {F : FV} {ts : List (Int × Int × Fo)} {rows : List (List Int)} (h : Flat w D g po O F ts rows) (hlen : rows.length = ts.length) (hk : ∀ i, i < ts.length → KidsAt ts rows i) {B : Nat} (hO : ∀ b, O b → b < B) (hg : g ≤ B) :
    Tab w B F.A F.K ts.length (tsS ts) rows := by
  refine ⟨fun i hi => ?_, fun i hi => ?_, ?_, hlen, fun i hi => ?_⟩
  · obtain ⟨b, cap, hv, hb, hlt⟩ := h.oA.form (by omega)
    have hA : F.A = some ⟨b, 0, none⟩ := by simp only [FV.a, Value.slice.injEq] at hv; exact hv.1
    have hAo : (F.a ts.length).ownBlock = some b := by simp [FV.a, Value.ownBlock, hA]
    have hoA := h.oA
    rw [show F.a ts.length = .slice (some ⟨b, 0, none⟩) ts.length F.CA from by simp [FV.a, hA]] at hoA
    have ht : ts[i]? = some ts[i] := List.getElem?_eq_getElem hi
    obtain ⟨a, c, h0, h1, h2, h3⟩ := h.term i _ ht
    refine ⟨b, 0, a, c, hA, hO b (h.bA b hAo), ?_, ?_, ?_, ?_⟩
    · rw [Nat.zero_add, hoA.cellAt _ (by omega), tsS_of ht]; exact h0
    · rw [Nat.zero_add, hoA.cellAt _ (by omega), tsS_of ht]; exact h1
    · rw [Nat.zero_add, hoA.cellAt _ (by omega), tsS_of ht]; exact h2
    · rw [tsS_of ht]; exact h3.mono (Nat.le_refl _) hg
  · obtain ⟨t, r, h1, _, h3, h4, h5, _⟩ := hk i hi
    rw [tsS_of h1]
    exact ⟨h3, h4, h5⟩
  · rcases Nat.eq_zero_or_pos rows.length with h0 | h0
    · exact .inl (List.eq_nil_of_length_eq_zero h0)
    · obtain ⟨KB, _, _, hK, _⟩ := h.rowAt (List.getElem?_eq_getElem h0)
      have hKo : (F.k rows.length).ownBlock = some KB := by simp [FV.k, Value.ownBlock, hK]
      refine .inr ⟨KB, 0, hK, Nat.zero_le _, hO KB (h.bK KB hKo), fun i r hr => ?_⟩
      obtain ⟨KB', a, c, hK', hx, hc, _⟩ := h.rowAt hr
      obtain rfl : KB = KB' := by rw [hK] at hK'; simpa using hK'
      obtain ⟨a', c', hx', hio, hap⟩ := h.row i r hr
      rw [hx] at hx'
      simp only [Option.some.injEq, Value.slice.injEq] at hx'
      obtain ⟨rfl, _, rfl⟩ := hx'
      refine ⟨a, c, by rw [Nat.zero_add]; exact hc, ?_⟩
      exact (RwF.sc (H := B) ⟨hio, fun q hq => hO q (hap q hq).1⟩).mono (Nat.zero_le _) (Nat.le_refl _)
  · obtain ⟨t, r, h1, h2, _, _, _, h6, h7⟩ := hk i hi
    refine ⟨r, h2, by rw [tsS_of h1]; exact h6, fun m s v kk x y tl hd => ?_⟩
    rw [tsS_of h1] at hd
    obtain ⟨q, hq1, hq2⟩ := h7 m s v kk x y tl hd
    exact ⟨q, hq1, (List.getElem?_eq_some_iff.1 hq2).1, tsS_of hq2⟩

theorem RF.keep {w w2 : World} {base : Nat} {rows : List (List Int)} {A : Option Addr} {C : Nat} {xs : List Value} {lo hi : Nat → Nat} (h : RF w base rows A C xs lo hi) (hs : w.heap.size ≤ w2.heap.size) (hb : ∀ b, base ≤ b → b < w.heap.size → w2.heap[b]? = w.heap[b]?) : RF w2 base rows A C xs lo hi := by
  refine ⟨own_block h.own fun g hg => hb g (h.own.lt g hg).1 (h.own.lt g hg).2, h.up, fun i r hr => ?_⟩
  obtain ⟨a', c', hx, hw, h1, h2, h3⟩ := h.at_ i r hr
  exact ⟨a', c', hx, hw.same (fun b h4 h5 => hb b (by omega) (by omega)), h1, by omega, h3⟩

/-- What lies at the head of l3More's loop: j rows of m zeroes. -/
structure KnAt (B g m : Nat) (w6 : World) (j : Nat) (A : Option Addr) (C : Nat) (wr : World) : Prop where
  own : ROwnF wr B (List.replicate j (List.replicate m 0)) A C
  touch : Touch g 5 (fun _ => False) w6 wr
  c5 : wr.cell? ⟨g, 5, none⟩ = some (.slice A j C)

theorem KnAt.start {B g m : Nat} {w6 : World} (hc : w6.cell? ⟨g, 5, none⟩ = some (.slice none 0 0)) : KnAt B g m w6 0 none 0 w6 :=
  ⟨⟨[], fun _ => 0, fun _ => 0, World.ownsRow_nil _ _ _ _, fun i k _ hk => by simp at hk, fun i r hr => by simp at hr⟩, Touch.refl, hc⟩

/-- A row of zeroes of the call's own. -/
theorem zeros_own {w : World} {m base : Nat} (hb : base ≤ w.heap.size) (hm : m ≤ 1000) : IOwn (w.alloc (.cells (madeCells #[.int .i64 0] m) 3)) base (List.replicate m 0) (some ⟨w.heap.size, 0, none⟩) m := by
  have := World.ownsRow_lit (base := base) (e := 3) (size := 1) w (madeCells #[.int .i64 0] m) m hb (by unfold maxLen; omega) (by simp [madeCells])
  unfold IOwn
  rw [List.length_replicate, List.map_replicate]
  rwa [toList_madeCells_one] at this

theorem KnAt.step {B g m : Nat} {w6 wr W w3 : World} {j : Nat} {A A' : Option Addr} {C C' : Nat} {xs : List Value} {lo hi : Nat → Nat} (h : KnAt B g m w6 j A C wr) (hg : g < B) (hB : B = w6.heap.size) (hm : m ≤ 1000) (hrf : RF wr B (List.replicate j (List.replicate m 0)) A C xs lo hi)
    (hW : W = ((wr.alloc (.cells (madeCells #[.int .i64 0] m) 3)).alloc (.cells #[.slice (some ⟨wr.heap.size, 0, none⟩) m m] 23)).drew)
    (hown3 : w3.ownsRow B 23 1 (.slice A' (j + 1) C') (j + 1) (xs ++ [.slice (some ⟨wr.heap.size, 0, none⟩) m m])) (hgrow : W.grownBy w3 (Value.slice A j C).ownBlock) (hat : (Value.slice A j C).ownBlock = (Value.slice A' (j + 1) C').ownBlock ∨ (Value.slice A' (j + 1) C').ownBlock = some (wr.heap.size + 2)) :
    KnAt B g m w6 (j + 1) A' C' (w3.setCell ⟨g, 5, none⟩ (.slice A' (j + 1) C')) := by
  have hs6 := h.touch.size
  have hgw : g < wr.heap.size := by omega
  have hl : (List.replicate j (List.replicate m (0 : Int))).length = j := by simp
  have hb2 : Below wr.heap.size wr (wr.alloc (.cells (madeCells #[.int .i64 0] m) 3)) := (Below.refl _ _).alloc (Nat.le_refl _) _
  have hgrow' : ((wr.alloc (.cells (madeCells #[.int .i64 0] m) 3)).alloc (.cells #[.slice (some ⟨wr.heap.size, 0, none⟩) m m] 23)).grownBy w3 (Value.slice A j C).ownBlock := by
    rw [hW] at hgrow
    exact ⟨hgrow.os, hgrow.tape, hgrow.output, hgrow.size, hgrow.block⟩
  have happ := RF.append (r := List.replicate m 0) (a2 := some ⟨wr.heap.size, 0, none⟩) (c2 := m) (w2 := wr.alloc (.cells (madeCells #[.int .i64 0] m) 3)) (blk := .cells #[.slice (some ⟨wr.heap.size, 0, none⟩) m m] 23) (A' := A') (C' := C') (w3 := w3) hrf (by rw [hl, List.length_replicate]; exact hown3) hb2 (zeros_own (Nat.le_refl _) hm) (by omega) (by rw [hl]; exact hgrow') (by rw [hl]; rcases hat with h1 | h1; exact .inl h1.symm; exact .inr (by rw [h1]; simp))
  have hgA : ∀ b, (Value.slice A j C).ownBlock = some b → B ≤ b := fun b hb' => by have := hrf.own; rw [hl] at this; exact (this.lt b hb').1
  have hbW : Below wr.heap.size wr W := by rw [hW]; exact ((Below.refl _ _).alloc (Nat.le_refl _) _).alloc (by simp) _ |>.drew
  have hsW := hbW.size
  have hgb : w3.heap[g]? = wr.heap[g]? := by rw [hgrow.block g (by omega) (fun e => by have := hgA g e.symm; omega), hbW.block g hgw]
  refine ⟨?_, ((h.touch.below hbW hgw).grown hgrow (by omega) (fun b hb' => ⟨fun e => by have := hgA b hb'; omega, fun hlt => by have := hgA b hb'; omega⟩)).setG (.inl rfl) _, World.cell?_setCell_same _ _ _ ((World.cell?_of_block (a := ⟨g, 5, none⟩) hgb).trans h.c5)⟩
  rw [show List.replicate (j + 1) (List.replicate m (0 : Int)) = List.replicate j (List.replicate m 0) ++ [List.replicate m 0] from List.replicate_succ']
  obtain ⟨xs', lo', hi', hr⟩ := happ
  exact ⟨xs', lo', hi', hr.keep (by simp) fun b h1 h2 => Below.heap_setCell _ _ _ _ (by simp only; omega)⟩
end Go.Proofs.YtiinmlagcbjloaaGreat

/-! H3: l3More. -/
namespace Go.Proofs.YtiinmlagcbjloaaGreat
open Go.RowKit Go.Deep
attribute [local go_sem ↓] Go.wp_at_zero Go.wp_at_succ

theorem moreS_all (L : Look) : ∀ M : Nat, FindTo L M
  | 0 => fun a b rows w _ _ h => absurd h (Nat.not_lt_zero _)
  | M + 1 => fun a b rows w ha hb hM hlk hkn => findS_any (moreS_any (moreS_all L M)) a b rows w ha hb (by omega) hlk hkn

def cells3 (p : Nat) (s v : Int) (y : Value) : List (Addr × Value) := [(⟨p, 0, none⟩, .int .i64 s), (⟨p, 1, none⟩, .int .i64 v), (⟨p, 2, none⟩, y)]
def cells2 (g : Nat) (x y : Value) : List (Addr × Value) := [(⟨g, 5, none⟩, x), (⟨g, 3, none⟩, y)]

theorem seen3 {w : World} {p : Nat} {s v : Int} {y : Value} (h0 : w.cell? ⟨p, 0, none⟩ = some (.int .i64 s)) (h1 : w.cell? ⟨p, 1, none⟩ = some (.int .i64 v)) (h2 : w.cell? ⟨p, 2, none⟩ = some y) : ∃ u : SeenC (cells3 p s v y), w = u.world := ⟨⟨w, fun q hq => by
  simp only [cells3, List.mem_cons, List.not_mem_nil, or_false] at hq
  rcases hq with rfl | rfl | rfl
  · exact h0
  · exact h1
  · exact h2⟩, rfl⟩

theorem flat_start {w : World} {g po : Nat} (h : g < w.heap.size) (c0 : w.cell? ⟨g, po, none⟩ = some (.slice none 0 0)) (c1 : w.cell? ⟨g, po + 1, none⟩ = some (.slice none 0 0)) (z0 : w.frozen? ⟨g, po, none⟩ = false) (z1 : w.frozen? ⟨g, po + 1, none⟩ = false) :
    Flat w (g + 1) g po (fun _ => False) ⟨none, 0, none, 0, [], []⟩ [] [] :=
  ⟨by omega, h, c0, c1, z0, z1, World.ownsRow_nil _ _ _ _, World.ownsRow_nil _ _ _ _, fun _ h => h.elim, fun _ h => by simp [Value.ownBlock] at h, fun _ h => by simp [Value.ownBlock] at h, fun _ h => by simp [Value.ownBlock] at h, fun i t ht => by simp at ht, fun i r hr => by simp at hr, fun i j x y q _ hx => by simp at hx⟩

theorem Touch.undrew {g po : Nat} {O : Nat → Prop} {w w2 : World} (h : Touch g po O w.drew w2) : Touch g po O w w2 := ⟨h.os, h.tape, h.output, h.size, h.block, h.cell, h.free⟩

/-- The world at the start: the two terms' boxes, the look. -/
structure L3 (w : World) (x : Value) (s v : Int) (y : Value) (s' v' : Int) (y' : Value) (g : Nat) (w1 : World) : Prop where
  low : Below w.heap.size w w1
  gE : g = w.heap.size + 2
  size : w1.heap.size = w.heap.size + 3
  s0 : w1.cell? ⟨w.heap.size, 0, none⟩ = some (.int .i64 s)
  s1 : w1.cell? ⟨w.heap.size, 1, none⟩ = some (.int .i64 v)
  s2 : w1.cell? ⟨w.heap.size, 2, none⟩ = some y
  t0 : w1.cell? ⟨w.heap.size + 1, 0, none⟩ = some (.int .i64 s')
  t1 : w1.cell? ⟨w.heap.size + 1, 1, none⟩ = some (.int .i64 v')
  t2 : w1.cell? ⟨w.heap.size + 1, 2, none⟩ = some y'
  g0 : w1.cell? ⟨g, 0, none⟩ = some x
  gN : ∀ o, 1 ≤ o → o ≤ 5 → w1.cell? ⟨g, o, none⟩ = some (.slice none 0 0)
  gz : ∀ o, w1.frozen? ⟨g, o, none⟩ = false
theorem l3_start (w : World) (x : Value) (s v : Int) (y : Value) (s' v' : Int) (y' : Value) : L3 w x s v y s' v' y' (w.heap.size + 1 + 1) (((w.alloc (.cells #[.int .i64 s, .int .i64 v, y] 26)).alloc (.cells #[.int .i64 s', .int .i64 v', y'] 26)).alloc (.cells #[x, .slice none 0 0, .slice none 0 0, .slice none 0 0, .slice none 0 0, .slice none 0 0] 96)) := by
  refine ⟨(((Below.refl _ _).alloc (Nat.le_refl _) _).alloc (by simp) _).alloc (by simp; omega) _, rfl, by simp, ?_, ?_, ?_, ?_, ?_, ?_, ?_, fun o h1 h2 => ?_, fun o => ?_⟩
  iterate 3
    rw [World.cell?_alloc_lt _ _ _ (by simp; omega), World.cell?_alloc_lt _ _ _ (by simp), World.cell?_alloc_at _ _ _ _ rfl]; rfl
  iterate 3
    rw [World.cell?_alloc_lt _ _ _ (by simp), World.cell?_alloc_at _ _ _ _ (by simp)]; rfl
  · rw [World.cell?_alloc_at _ _ _ _ (by simp)]; rfl
  · rw [World.cell?_alloc_at _ _ _ _ (by simp)]
    have : o = 1 ∨ o = 2 ∨ o = 3 ∨ o = 4 ∨ o = 5 := by omega
    rcases this with rfl | rfl | rfl | rfl | rfl <;> rfl
  · rw [World.frozen?_alloc_at _ _ _ _ (by simp)]

theorem Touch.base {g po B : Nat} {w w' : World} (h : Touch g po (fun _ => False) w w') (h1 : B ≤ g) (h2 : B ≤ w.heap.size) : Below B w w' := ⟨h.os, h.tape, h.output, h.size, fun b hb => h.block b (by omega) (by omega) fun h => h⟩
theorem Flat.beside {w w' : World} {D g po po' : Nat} {O : Nat → Prop} {F : FV} {ts : List (Int × Int × Fo)} {rows : List (List Int)} (h : Flat w D g po O F ts rows) (ht : Touch g po' (fun _ => False) w w') (h1 : po + 1 < po' ∨ po' + 1 < po) : Flat w' D g po O F ts rows := by
  have hgD := h.gD
  have hbig := h.big
  refine h.frame ht.size (fun b hb => ht.block b ?_ ?_ fun h => h) (ht.cell po (by omega) (by omega)) (ht.cell (po + 1) (by omega) (by omega)) (ht.free po) (ht.free (po + 1))
  · rcases hb with hb | hb
    · omega
    · exact (h.Ob b hb).2
  · rcases hb with hb | hb
    · omega
    · have := (h.Ob b hb).1; omega
theorem seen2 {w : World} {g : Nat} {x y : Value} (h0 : w.cell? ⟨g, 5, none⟩ = some x) (h1 : w.cell? ⟨g, 3, none⟩ = some y) : ∃ u : SeenC (cells2 g x y), w = u.world := ⟨⟨w, fun q hq => by
  simp only [cells2, List.mem_cons, List.not_mem_nil, or_false] at hq
  rcases hq with rfl | rfl
  · exact h0
  · exact h1⟩, rfl⟩
theorem kv_zero {n m a b : Nat} : kv (List.replicate n (List.replicate m 0)) a b = 0 := by
  unfold kv
  simp only [List.getD_eq_getElem?_getD, List.getElem?_replicate]
  by_cases h : a < n <;> by_cases h' : b < m <;> simp [h, h']

/-- The whole look, all of it known to be unknown. -/
theorem look_all {w w1 w3 wr : World} {xs : List Int} {A : Option Addr} {C : Nat} {s v : Int} {y : Value} {s' v' : Int} {y' : Value} {g : Nat} {O1 O2 : Nat → Prop} {F1 F2 : FV} {ts1 ts2 : List (Int × Int × Fo)} {rows1 rows2 : List (List Int)} {A' : Option Addr} {C' : Nat}
    (h1 : L3 w (.slice A xs.length C) s v y s' v' y' g w1) (hr : ISl w 0 w.heap.size A xs) (hrk : rkOk xs = true) (g0 : w3.cell? ⟨g, 0, none⟩ = w1.cell? ⟨g, 0, none⟩) (hbw : ∀ b, b < w1.heap.size → b ≠ g → w3.heap[b]? = w1.heap[b]?)
    (hf1 : Flat w3 (g + 1) g 1 O1 F1 ts1 rows1) (hr1 : rows1.length = ts1.length) (hk1 : ∀ i, i < ts1.length → KidsAt ts1 rows1 i) (hn1 : ts1.length ≤ 100)
    (hf2 : Flat w3 (g + 1) g 3 O2 F2 ts2 rows2) (hr2 : rows2.length = ts2.length) (hk2 : ∀ i, i < ts2.length → KidsAt ts2 rows2 i) (hn2 : ts2.length ≤ 100)
    (hkn : KnAt w3.heap.size g ts2.length w3 ts1.length A' C' wr) :
    ∃ L : Look, L.B = w3.heap.size ∧ L.g = g ∧ L.n = ts1.length ∧ L.m = ts2.length ∧ L.S = tsS ts1 ∧ L.T = tsS ts2 ∧ L.xs = xs ∧ LookAt L wr ∧ ∀ z, Kn L z (List.replicate ts1.length (List.replicate ts2.length 0)) wr := by
  obtain ⟨vs, lo, hi, hrf⟩ := hkn.own
  have hgs : g < w3.heap.size := Nat.lt_of_lt_of_le hf1.gD hf1.big
  have hts := hkn.touch.size
  have hl : (List.replicate ts1.length (List.replicate ts2.length (0 : Int))).length = ts1.length := by simp
  have e1 := hf1.beside hkn.touch (.inl (by omega))
  have e2 := hf2.beside hkn.touch (.inl (by omega))
  have hgE := h1.gE
  have hws := h1.size
  refine ⟨⟨w3.heap.size, g, xs, A, C, F1.A, F1.K, F1.CA, F1.CK, ts1.length, tsS ts1, rows1, F2.A, F2.K, F2.CA, F2.CK, ts2.length, tsS ts2, rows2, A', C', vs, lo, hi, wr.heap.size⟩, rfl, rfl, rfl, rfl, rfl, rfl, rfl, ?_, fun z => ?_⟩
  · refine ⟨hgs, hts, Nat.le_refl _, hts, fun i hi' => ?_, ?_, e1.cA, ?_, e2.cA, ?_, hkn.c5, ?_, hrk, e1.tab hr1 hk1 (fun b hb => (hf1.Ob b hb).2) (Nat.le_of_lt hgs), e2.tab hr2 hk2 (fun b hb => (hf2.Ob b hb).2) (Nat.le_of_lt hgs), hn1, hn2⟩
    · obtain ⟨_, _, _, _, _, h2, _⟩ := hrf.at_ i (List.replicate ts2.length 0) (by simp [List.getElem?_replicate]; exact hi')
      exact h2
    · exact (hkn.touch.cell 0 (by omega) (by omega)).trans (g0.trans h1.g0)
    · have := e1.cK; rw [hr1] at this; exact this
    · have := e2.cK; rw [hr2] at this; exact this
    · exact ((hr.below h1.low).same fun b _ hb => by rw [hkn.touch.block b (by omega) (by omega) (fun h => h), hbw b (by omega) (by omega)]).mono (Nat.le_refl _) (by dsimp only; omega)
  · refine ⟨hrf, hl, fun a r hr' => ?_, fun a b _ _ _ => .inl kv_zero⟩
    rw [List.getElem?_replicate] at hr'
    split at hr'
    · obtain rfl := Option.some.inj hr'; simp
    · cases hr'

set_option maxRecDepth 100000 in
set_option maxHeartbeats 2000000 in
theorem l3More_any (xs : List Int) (A : Option Addr) (C : Nat) (s v : Int) (a : Option Addr) (c : Nat) (k : Fo) (s' v' : Int) (a' : Option Addr) (c' : Nat) (k' : Fo) (w : World) (hr : ISl w 0 w.heap.size A xs) (hl : Sl w 0 w.heap.size a k) (hl' : Sl w 0 w.heap.size a' k') (hrk : rkOk xs = true) (hok : okW s v k 16 = true) (hok' : okW s' v' k' 16 = true) :
    Calls Tryz.prog 25 #[.slice A xs.length C, .agg #[.int .i64 s, .int .i64 v, .slice a (flen k) c], .agg #[.int .i64 s', .int .i64 v', .slice a' (flen k') c']] w fun e w' => e = .returned (.bool (pB (Gt (rkN xs) (tmOf s v k) (tmOf s' v' k')))) ∧ Below w.heap.size w w' := by
  obtain ⟨ho, hf, hz⟩ := (okW_iff _ _ _ _).1 hok
  obtain ⟨ho', hf', hz'⟩ := (okW_iff _ _ _ _).1 hok'
  have HO := Lib.hid ho
  have HF := Lib.hid hf
  have HO' := Lib.hid ho'
  have HF' := Lib.hid hf'
  have hz16 : fsz k ≤ 15 := by omega
  have hz16' : fsz k' ≤ 15 := by omega
  have HRK := Lib.hid hrk
  have HR := Lib.hid hr
  have HL := Lib.hid hl
  have HL' := Lib.hid hl'
  clear ho hf ho' hf' hok hok' hrk hr hl hl' hz hz'
  have H1 := Lib.hid (l3_start w (.slice A xs.length C) s v (.slice a (flen k) c) s' v' (.slice a' (flen k') c'))
  go_enter Tryz.func25, Tryz.ntmps25
  go_wp2_with fail
  generalize (((w.alloc (.cells #[.int .i64 s, .int .i64 v, .slice a (flen k) c] 26)).alloc (.cells #[.int .i64 s', .int .i64 v', .slice a' (flen k') c'] 26)).alloc (.cells #[.slice A xs.length C, .slice none 0 0, .slice none 0 0, .slice none 0 0, .slice none 0 0, .slice none 0 0] 96)) = w1 at *
  generalize w.heap.size + 1 + 1 = g at *
  have hbx0 := H1.out.s0
  have hbx1 := H1.out.s1
  have hbx2 := H1.out.s2
  have hu0 : ∀ u : SeenC (cells3 w.heap.size s v (.slice a (flen k) c)), u.world.cell? ⟨w.heap.size, 0, none⟩ = some (.int .i64 s) := fun u => u.at_ (_, _) (by simp [cells3])
  have hu1 : ∀ u : SeenC (cells3 w.heap.size s v (.slice a (flen k) c)), u.world.cell? ⟨w.heap.size, 1, none⟩ = some (.int .i64 v) := fun u => u.at_ (_, _) (by simp [cells3])
  have hu2 : ∀ u : SeenC (cells3 w.heap.size s v (.slice a (flen k) c)), u.world.cell? ⟨w.heap.size, 2, none⟩ = some (.slice a (flen k) c) := fun u => u.at_ (_, _) (by simp [cells3])
  obtain ⟨u1, hu1w⟩ := seen3 (w := w1.drew) hbx0 hbx1 hbx2
  haveI : Nonempty (SeenC (cells3 w.heap.size s v (.slice a (flen k) c))) := ⟨u1⟩
  have HU : Hid (∃ u : SeenC (cells3 w.heap.size s v (.slice a (flen k) c)), w1.drew = u.world) := ⟨u1, hu1w⟩
  clear hbx0 hbx1 hbx2 hu1w
  refine wp_region_mix (fun w' => ∃ u : SeenC (cells3 w.heap.size s v (.slice a (flen k) c)), w' = u.world) [] [(0, 0), (1, 0), (2, 0), (3, 0), (4, 1)] (by kernel_rfl) (by kernel_rfl) HU.out ?_
  iterate 4
    refine mix_see rfl (fun K hK => ?_)
    go_simp
    refine hK _ ?_
    clear hK K
  clear hu0 hu1 hu2 HU u1
  refine mix_hold rfl (fun K hK => ?_)
  go_simp
  have hgs : g < w1.heap.size := by have h1 := H1.out.size; have h2 := H1.out.gE; omega
  have HFL := Lib.hid ((flat_start (po := 1) hgs (H1.out.gN 1 (by omega) (by omega)) (H1.out.gN 2 (by omega) (by omega)) (H1.out.gz 1) (H1.out.gz 2)).low (Below.refl _ _).drew)
  have HSL : Hid (Sl w1.drew 0 g a k) := ((HL.out.below H1.out.low).mono (Nat.le_refl _) (by have := H1.out.gE; omega)).below (Below.refl _ _).drew
  with_reducible refine (put_any (g + 1) g 1 (fsz k) s v a c k _ _ [] [] _ HFL.out rfl HSL.out HO.out HF.out (Nat.le_refl _) (by omega) (by simp; omega)).mono ?_
  rintro e w2 ⟨O1, F1, ts1, rows1, he, hF1, hT1', hO1, hl1, hr1, hp1, hq1, htop1, hkk1⟩
  obtain rfl : e = .returned (.int .i64 0) := he
  have HT1 := Lib.hid hT1'.undrew
  have HF1 := Lib.hid hF1
  have HL1 := Lib.hid hl1
  have HR1 := Lib.hid hr1
  have HTOP1 := Lib.hid htop1
  have HK1 := Lib.hid hkk1
  clear hT1' hF1 hl1 hr1 hp1 hq1 htop1 hkk1 hO1 HFL HSL
  have hbw : ∀ b, b < w1.heap.size → b ≠ g → w2.heap[b]? = w1.heap[b]? := fun b h1 h2 => HT1.out.block b h1 h2 (fun h => h)
  refine hK _ _ (seen3 ((World.cell?_of_block (a := ⟨w.heap.size, 0, none⟩) (hbw _ (by have := H1.out.size; simp only; omega) (by have := H1.out.gE; simp only; omega))).trans H1.out.s0) ((World.cell?_of_block (a := ⟨w.heap.size, 1, none⟩) (hbw _ (by have := H1.out.size; simp only; omega) (by have := H1.out.gE; simp only; omega))).trans H1.out.s1) ((World.cell?_of_block (a := ⟨w.heap.size, 2, none⟩) (hbw _ (by have := H1.out.size; simp only; omega) (by have := H1.out.gE; simp only; omega))).trans H1.out.s2)) ?_
  clear hK K
  refine mix_end ?_
  have hby0 : w2.cell? ⟨w.heap.size + 1, 0, none⟩ = some (.int .i64 s') := (World.cell?_of_block (a := ⟨w.heap.size + 1, 0, none⟩) (hbw _ (by have := H1.out.size; simp only; omega) (by have := H1.out.gE; simp only; omega))).trans H1.out.t0
  have hby1 : w2.cell? ⟨w.heap.size + 1, 1, none⟩ = some (.int .i64 v') := (World.cell?_of_block (a := ⟨w.heap.size + 1, 1, none⟩) (hbw _ (by have := H1.out.size; simp only; omega) (by have := H1.out.gE; simp only; omega))).trans H1.out.t1
  have hby2 : w2.cell? ⟨w.heap.size + 1, 2, none⟩ = some (.slice a' (flen k') c') := (World.cell?_of_block (a := ⟨w.heap.size + 1, 2, none⟩) (hbw _ (by have := H1.out.size; simp only; omega) (by have := H1.out.gE; simp only; omega))).trans H1.out.t2
  have HBW := Lib.hid hbw
  clear hbw
  go_wp2_with fail
  have hu0 : ∀ u : SeenC (cells3 (w.heap.size + 1) s' v' (.slice a' (flen k') c')), u.world.cell? ⟨w.heap.size + 1, 0, none⟩ = some (.int .i64 s') := fun u => u.at_ (_, _) (by simp [cells3])
  have hu1 : ∀ u : SeenC (cells3 (w.heap.size + 1) s' v' (.slice a' (flen k') c')), u.world.cell? ⟨w.heap.size + 1, 1, none⟩ = some (.int .i64 v') := fun u => u.at_ (_, _) (by simp [cells3])
  have hu2 : ∀ u : SeenC (cells3 (w.heap.size + 1) s' v' (.slice a' (flen k') c')), u.world.cell? ⟨w.heap.size + 1, 2, none⟩ = some (.slice a' (flen k') c') := fun u => u.at_ (_, _) (by simp [cells3])
  obtain ⟨u1, hu1w⟩ := seen3 (w := w2.drew) hby0 hby1 hby2
  haveI : Nonempty (SeenC (cells3 (w.heap.size + 1) s' v' (.slice a' (flen k') c'))) := ⟨u1⟩
  have HU : Hid (∃ u : SeenC (cells3 (w.heap.size + 1) s' v' (.slice a' (flen k') c')), w2.drew = u.world) := ⟨u1, hu1w⟩
  clear hby0 hby1 hby2 hu1w
  refine wp_region_mix (fun w' => ∃ u : SeenC (cells3 (w.heap.size + 1) s' v' (.slice a' (flen k') c')), w' = u.world) [] [(0, 0), (1, 0), (2, 0), (3, 0), (4, 1)] (by kernel_rfl) (by kernel_rfl) HU.out ?_
  iterate 4
    refine mix_see rfl (fun K hK => ?_)
    go_simp
    refine hK _ ?_
    clear hK K
  clear hu0 hu1 hu2 HU u1
  refine mix_hold rfl (fun K hK => ?_)
  go_simp
  have hgs2 : g < w2.heap.size := Nat.lt_of_lt_of_le hgs HT1.out.size
  have HFL := Lib.hid ((flat_start (po := 3) hgs2 ((HT1.out.cell 3 (by omega) (by omega)).trans (H1.out.gN 3 (by omega) (by omega))) ((HT1.out.cell 4 (by omega) (by omega)).trans (H1.out.gN 4 (by omega) (by omega))) ((HT1.out.free 3).trans (H1.out.gz 3)) ((HT1.out.free 4).trans (H1.out.gz 4))).low (Below.refl _ _).drew)
  have HSL : Hid (Sl w2.drew 0 g a' k') := (((HL'.out.below H1.out.low).mono (Nat.le_refl _) (by have := H1.out.gE; omega)).same fun b _ hb => HBW.out b (by omega) (by omega)).below (Below.refl _ _).drew
  with_reducible refine (put_any (g + 1) g 3 (fsz k') s' v' a' c' k' _ _ [] [] _ HFL.out rfl HSL.out HO'.out HF'.out (Nat.le_refl _) (by omega) (by simp; omega)).mono ?_
  rintro e w3 ⟨O2, F2, ts2, rows2, he, hF2, hT2', hO2, hl2, hr2, hp2, hq2, htop2, hkk2⟩
  obtain rfl : e = .returned (.int .i64 0) := he
  have HT2 := Lib.hid hT2'.undrew
  have HF2 := Lib.hid hF2
  have HL2 := Lib.hid hl2
  have HR2 := Lib.hid hr2
  have HTOP2 := Lib.hid htop2
  have HK2 := Lib.hid hkk2
  clear hT2' hF2 hl2 hr2 hp2 hq2 htop2 hkk2 hO2 HFL HSL
  have hbw : ∀ b, b < w1.heap.size → b ≠ g → w3.heap[b]? = w1.heap[b]? := fun b h1 h2 => (HT2.out.block b (Nat.lt_of_lt_of_le h1 HT1.out.size) h2 (fun h => h)).trans (HBW.out b h1 h2)
  refine hK _ _ (seen3 ((World.cell?_of_block (a := ⟨w.heap.size + 1, 0, none⟩) (hbw _ (by have := H1.out.size; simp only; omega) (by have := H1.out.gE; simp only; omega))).trans H1.out.t0) ((World.cell?_of_block (a := ⟨w.heap.size + 1, 1, none⟩) (hbw _ (by have := H1.out.size; simp only; omega) (by have := H1.out.gE; simp only; omega))).trans H1.out.t1) ((World.cell?_of_block (a := ⟨w.heap.size + 1, 2, none⟩) (hbw _ (by have := H1.out.size; simp only; omega) (by have := H1.out.gE; simp only; omega))).trans H1.out.t2)) ?_
  clear hK K
  refine mix_end ?_
  have HBW3 := Lib.hid hbw
  clear hbw
  go_wp2_with fail
  have HF13 := Lib.hid (HF1.out.beside HT2.out (.inl (by omega)))
  have hn1 : ts1.length ≤ 16 := by have := HL1.out; simp at this; omega
  have hn2 : ts2.length ≤ 16 := by have := HL2.out; simp at this; omega
  have h1pos : 0 < ts1.length := (List.getElem?_eq_some_iff.1 HTOP1.out).1
  have h2pos : 0 < ts2.length := (List.getElem?_eq_some_iff.1 HTOP2.out).1
  have hgs3 : g < w3.heap.size := Nat.lt_of_lt_of_le hgs2 HT2.out.size
  obtain ⟨tj, htj, htjz, htjs, htjb⟩ := Tryz.infoIS
  have HTJ : Hid (Tryz.prog.info? 23 = some tj ∧ tj.zero = some (.slice none 0 0) ∧ tj.size = 1 ∧ tj.bytes = 24) := ⟨htj, htjz, htjs, htjb⟩
  clear htj htjz htjs htjb
  have hmk := run_make_row' (P := Tryz.prog) 23 3 (.int .i64 0) 8 Tryz.underlying23 (by kernel_rfl) rfl .i64 .i64 ts2.length (by omega) (by omega)
  go_loopw [8] (fun i wr => ∃ (j : Nat) (A' : Option Addr) (C' : Nat), i = .int .i64 j ∧ j ≤ ts1.length ∧ Hid (KnAt w3.heap.size g ts2.length w3 j A' C' wr)) (fun i _ => ts1.length - (intOf i).toNat)
  case atStart => exact ⟨0, none, 0, rfl, Nat.zero_le _, KnAt.start ((HT2.out.cell 5 (by omega) (by omega)).trans ((HT1.out.cell 5 (by omega) (by omega)).trans (H1.out.gN 5 (by omega) (by omega))))⟩
  case round =>
    obtain ⟨j, A', C', rfl, hj, hat⟩ := hrel
    have hc1 : wr.cell? ⟨g, 1, none⟩ = some (.slice F1.A ts1.length F1.CA) := (hat.out.touch.cell 1 (by omega) (by omega)).trans HF13.out.cA
    have hts := hat.out.touch.size
    by_cases hlt : j < ts1.length
    · have hc3 : wr.cell? ⟨g, 3, none⟩ = some (.slice F2.A ts2.length F2.CA) := (hat.out.touch.cell 3 (by omega) (by omega)).trans HF2.out.cA
      have hc5 := hat.out.c5
      have hgz : wr.frozen? ⟨g, 5, none⟩ = false := (hat.out.touch.free 5).trans ((HT2.out.free 5).trans ((HT1.out.free 5).trans (H1.out.gz 5)))
      obtain ⟨vs, lo, hi, hrf⟩ := hat.out.own
      have hown := hrf.own
      rw [show (List.replicate j (List.replicate ts2.length (0 : Int))).length = j from by simp] at hown
      have HOWN := Lib.hid hown
      have HRF := Lib.hid hrf
      have hgA : (Value.slice A' j C').ownBlock ≠ some g := fun e => by have := (hown.lt g e).1; omega
      clear hown hrf
      have g2 : (j : Int) < (ts1.length : Int) := by omega
      have hu0 : ∀ u : SeenC (cells2 g (.slice A' j C') (.slice F2.A ts2.length F2.CA)), u.world.cell? ⟨g, 5, none⟩ = some (.slice A' j C') := fun u => u.at_ (_, _) (by simp [cells2])
      have hu1 : ∀ u : SeenC (cells2 g (.slice A' j C') (.slice F2.A ts2.length F2.CA)), u.world.cell? ⟨g, 3, none⟩ = some (.slice F2.A ts2.length F2.CA) := fun u => u.at_ (_, _) (by simp [cells2])
      have HSEE : Hid (∀ w4 : World, w4.heap[g]? = wr.heap[g]? → ∃ u : SeenC (cells2 g (.slice A' j C') (.slice F2.A ts2.length F2.CA)), w4 = u.world) := fun w4 h4 => seen2 ((World.cell?_of_block (a := ⟨g, 5, none⟩) h4).trans hc5) ((World.cell?_of_block (a := ⟨g, 3, none⟩) h4).trans hc3)
      haveI : Nonempty (SeenC (cells2 g (.slice A' j C') (.slice F2.A ts2.length F2.CA))) := ⟨(HSEE.out wr rfl).choose⟩
      have hgr : g < wr.heap.size := by omega
      go_wp2_with fail
      clear hc3 hc1
      have HC5 := Lib.hid hc5
      clear hc5
      refine wp_region_mix (fun w' => ∃ u : SeenC (cells2 g (.slice A' j C') (.slice F2.A ts2.length F2.CA)), w' = u.world) [16] [(0, 0), (1, 0), (2, 0), (3, 0), (4, 0), (5, 0), (6, 0), (7, 0), (8, 0), (9, 0), (10, 0), (11, 1), (12, 1), (13, 1), (14, 1), (15, 1), (16, 2)] (by kernel_rfl) (by kernel_rfl) (HSEE.out _ rfl) ?_
      iterate 11
        refine mix_see rfl (fun K hK => ?_)
        go_simp
        refine hK _ ?_
        clear hK K
      clear hu0 hu1
      refine mix_hold rfl (fun K hK => ?_)
      go_simp
      refine hK _ _ (HSEE.out _ (Below.heap_alloc _ _ _ hgr)) ?_
      clear hK K
      refine mix_hold rfl (fun K hK => ?_)
      go_simp
      have hbw : Below wr.heap.size wr ((wr.alloc (.cells (madeCells #[.int .i64 0] ts2.length) 3)).alloc (.cells #[.slice (some ⟨wr.heap.size, 0, none⟩) ts2.length ts2.length] 23)).drew := (((Below.refl _ _).alloc (Nat.le_refl _) _).alloc (by simp) _).drew
      refine hK _ _ (HSEE.out _ (hbw.block g hgr)) ?_
      clear hK K
      refine mix_hold rfl (fun K hK => ?_)
      have HNB : Hid (((wr.alloc (.cells (madeCells #[.int .i64 0] ts2.length) 3)).alloc (.cells #[.slice (some ⟨wr.heap.size, 0, none⟩) ts2.length ts2.length] 23)).heap[wr.heap.size + 1]? = some (.cells #[.slice (some ⟨wr.heap.size, 0, none⟩) ts2.length ts2.length] 23 (0, 0))) := by
        have := heap_alloc_new (wr.alloc (.cells (madeCells #[.int .i64 0] ts2.length) 3)) (.cells #[.slice (some ⟨wr.heap.size, 0, none⟩) ts2.length ts2.length] 23)
        unfold Hid
        simpa using this
      refine step_append_lies _ (by rfl) _ _ _ (by rfl) w3.heap.size 23 tj _ 1 24 Tryz.underlying71 HTJ.out.1 HTJ.out.2.1 HTJ.out.2.2.1 HTJ.out.2.2.2 rfl (by omega) (.slice A' j C') j vs (by rfl) (own_low hbw HOWN.out) ⟨wr.heap.size + 1, 0, none⟩ 1 1 [.slice (some ⟨wr.heap.size, 0, none⟩) ts2.length ts2.length] (by rfl) (by rfl) (World.news_of_block (w := ((wr.alloc (.cells (madeCells #[.int .i64 0] ts2.length) 3)).alloc (.cells #[.slice (some ⟨wr.heap.size, 0, none⟩) ts2.length ts2.length] 23)).drew) HNB.out) (by simp [Value.oneCell']) (by omega) (by unfold maxLen; omega) (by omega) (by simp; omega) (wr.heap.size + 2) (by simp) ?_
      intro q cap w4 hown4 hgrow hatg hg4
      have hgb : w4.heap[g]? = wr.heap[g]? := by rw [hgrow.block g (by have := hbw.size; omega) (fun e => hgA e.symm), hbw.block g hgr]
      have hz5 : w4.cell? ⟨g, 5, none⟩ = some (.slice A' j C') := (World.cell?_of_block (a := ⟨g, 5, none⟩) hgb).trans HC5.out
      have hy5 : w4.frozen? ⟨g, 5, none⟩ = false := (World.frozen?_of_block (a := ⟨g, 5, none⟩) hgb).trans hgz
      have HSTEP := Lib.hid (KnAt.step (A' := some ⟨q, 0, none⟩) (C' := cap) hat.out hgs3 rfl (by omega) HRF.out rfl hown4 hgrow (hatg.imp id (fun e => by rw [e]; rfl)))
      have HS4 := Lib.hid (HSEE.out w4 hgb)
      refine hK _ _ HS4.out ?_
      clear hK K hown4 hgrow hatg hgb hat
      refine mix_hold rfl (fun K hK => ?_)
      go_simp
      refine hK _ _ HS4.out ?_
      clear hK K
      refine mix_hold rfl (fun K hK => ?_)
      go_simp
      refine hK _ _ HS4.out ?_
      clear hK K
      refine mix_late rfl (fun K hK => ?_)
      go_simp
      refine hK _ _ ?_
      clear hK K
      refine mix_end ?_
      clear hz5 hy5 hgz
      go_wp2_with fail
      go_roundw
      case rel =>
        exact ⟨j + 1, some ⟨q, 0, none⟩, cap, by go_num, by omega, HSTEP⟩
      case measure => simp [intOf]; omega
    · have hjn : j = ts1.length := by omega
      subst hjn
      obtain ⟨L, hLB, hLg, hLn, hLm, hLS, hLT, hLx, hlk, hkn⟩ := look_all H1.out HR.out HRK.out ((HT2.out.cell 0 (by omega) (by omega)).trans (HT1.out.cell 0 (by omega) (by omega))) HBW3.out HF13.out HR1.out (fun i hi => HK1.out i (Nat.zero_le _) hi) (by omega) HF2.out HR2.out (fun i hi => HK2.out i (Nat.zero_le _) hi) (by omega) hat.out
      have HC : Hid (Calls Tryz.prog 50 #[.pointer (some ⟨L.g, 0, none⟩), .int .i64 0, .int .i64 0] wr (LkPost L (L.sz 0 0 + 1) (List.replicate ts1.length (List.replicate ts2.length 0)) (L.gt 0 0) wr)) := moreS_any (moreS_all L (L.sz 0 0 + 1)) 0 0 _ wr (by omega) (by omega) (Nat.lt_succ_self _) hlk (hkn _)
      rw [hLg] at HC
      have HG : Hid (L.gt 0 0 = pB (Gt (rkN xs) (tmOf s v k) (tmOf s' v' k'))) := by
        unfold Hid Look.gt
        rw [hLS, hLT, hLx, tsS_of (show ts1[0]? = some (s, v, k) from HTOP1.out), tsS_of (show ts2[0]? = some (s', v', k') from HTOP2.out)]
        rfl
      have HBL : Hid (Below w.heap.size w wr) := by
        have e1 := H1.out.gE
        have e2 := H1.out.size
        have e3 := HT1.out.size
        have e4 := HT2.out.size
        exact ((H1.out.low.trans (HT1.out.base (by omega) (by omega))).trans (HT2.out.base (by omega) (by omega))).trans (hat.out.touch.base (by omega) (by omega))
      have hLB2 : w.heap.size ≤ L.B := by have e1 := H1.out.gE; omega
      clear hat hlk hkn
      go_wp2_with fail
      with_reducible refine HC.out.mono ?_
      rintro e w9 ⟨rows9, rfl, hfar, _, _⟩
      have HB9 := Lib.hid (HBL.out.trans (hfar.low.mono hLB2))
      clear hfar hc1
      go_wp2_with fail
      go_ret
      exact ⟨by rw [HG.out]; rfl, HB9.out⟩
end Go.Proofs.YtiinmlagcbjloaaGreat

/-! OK2: OrderOk of the specification. -/
namespace Go.Proofs.YtiinmlagcbjloaaGreat
open Go.RowKit Go.Deep

/-- What is known of the first j numbers. -/
def RkUp (xs : List Int) (j : Nat) : Prop := (∀ (i : Nat) (x : Int), i < j → xs[i]? = some x → 1 ≤ x ∧ x ≤ 4) ∧ ∀ (i k : Nat) (x y : Int), i < j → k < i → xs[k]? = some x → xs[i]? = some y → x ≠ y
def RkNe (xs : List Int) (j k : Nat) : Prop := ∀ (q : Nat) (x y : Int), q < k → xs[q]? = some x → xs[j]? = some y → x ≠ y
theorem RkUp.next {xs : List Int} {j : Nat} {z : Int} (h : RkUp xs j) (hz : xs[j]? = some z) (h1 : 1 ≤ z ∧ z ≤ 4) (hn : RkNe xs j j) : RkUp xs (j + 1) := by
  refine ⟨fun i x hi hx => ?_, fun i k x y hi hk hx hy => ?_⟩
  · by_cases e : i = j
    · subst e; rw [hz] at hx; obtain rfl := Option.some.inj hx; exact h1
    · exact h.1 i x (by omega) hx
  · by_cases e : i = j
    · subst e; exact hn k x y hk hx hy
    · exact h.2 i k x y (by omega) hk hx hy
theorem RkUp.all {xs : List Int} (h4 : xs.length = 4) (h : RkUp xs 4) : rkOk xs = true := by
  refine (rk_iff h4).2 ⟨fun i x hx => h.1 i x ?_ hx, fun i k x y hk hx hy => h.2 i k x y ?_ hk hx hy⟩
  · have := (List.getElem?_eq_some_iff.1 hx).1; omega
  · have := (List.getElem?_eq_some_iff.1 hy).1; omega
theorem RkNe.next {xs : List Int} {j k : Nat} {x y : Int} (h : RkNe xs j k) (hx : xs[k]? = some x) (hy : xs[j]? = some y) (hne : x ≠ y) : RkNe xs j (k + 1) := fun q x' y' hq h1 h2 => by
  by_cases e : q = k
  · subst e; rw [hx] at h1; rw [hy] at h2; obtain rfl := Option.some.inj h1; obtain rfl := Option.some.inj h2; exact hne
  · exact h q x' y' (by omega) h1 h2
theorem rk_out {xs : List Int} {j : Nat} {z : Int} (h4 : xs.length = 4) (hz : xs[j]? = some z) (h : ¬(1 ≤ z ∧ z ≤ 4)) : rkOk xs = false := by
  cases hr : rkOk xs with
  | false => rfl
  | true => exact absurd (((rk_iff h4).1 hr).1 j z hz) h
theorem rk_two {xs : List Int} {j k : Nat} {x y : Int} (h4 : xs.length = 4) (hk : k < j) (hx : xs[k]? = some x) (hy : xs[j]? = some y) (h : x = y) : rkOk xs = false := by
  cases hr : rkOk xs with
  | false => rfl
  | true => exact absurd h (((rk_iff h4).1 hr).2 j k x y hk hx hy)

set_option maxRecDepth 100000 in
set_option maxHeartbeats 2000000 in
theorem sOrderOk_any (xs : List Int) (A : Option Addr) (C : Nat) (w : World) (h : ISl w 0 w.heap.size A xs) :
    Calls Tryz.prog 8 #[.slice A xs.length C] w fun e w' => e = .returned (.bool (rkOk xs)) ∧ Below w.heap.size w w' := by
  by_cases h4 : xs.length = 4
  · have HI := Lib.hid h
    have e4 : ((xs.length : Int) != 4) = false := by simp [h4]
    have H4 := Lib.hid h4
    have h4' : (xs.length : Int) = 4 := by omega
    clear h h4
    go_enter Tryz.func8, Tryz.ntmps8
    go_wp2_with fail
    go_loopw [3] (fun i wr => ∃ j : Nat, i = .int .i64 j ∧ j ≤ 4 ∧ Hid (RkUp xs j) ∧ Below w.heap.size w wr) (fun i _ => 4 - (intOf i).toNat)
    case atStart => exact ⟨0, rfl, by omega, ⟨fun i x hi => by omega, fun i k x y hi => by omega⟩, Below.refl _ _⟩
    case round =>
      obtain ⟨j, rfl, hj, hup, hbl⟩ := hrel
      by_cases hlt : j < 4
      · have hlt' : j < xs.length := by have := H4.out; omega
        obtain ⟨b, o, rfl, _, hb1, hc⟩ := isl_at (HI.out.below hbl) hlt'
        have HZ : Hid (xs[j]? = some xs[j]) := List.getElem?_eq_getElem hlt'
        generalize xs[j] = z at hc HZ
        have g1 : (0 : Int) ≤ (j : Int) := by omega
        have g2 : (j : Int) < (xs.length : Int) := by omega
        have hbs := hbl.size
        have HBL := Lib.hid hbl
        clear hbl hlt'
        by_cases hr : 1 ≤ z ∧ z ≤ 4
        · have HR := Lib.hid hr
          have ht : Hid (decide (1 ≤ z ∧ z ≤ 4) = true) := decide_eq_true hr
          clear hr
          go_wp2_with (go_at_call 26; refine (l6In_is ht.out).mono ?_; rintro e w' ⟨rfl, rfl⟩)
          go_loopw [4] (fun i wi => ∃ k : Nat, i = .int .i64 k ∧ k ≤ j ∧ Hid (RkNe xs j k) ∧ Below w.heap.size w wi) (fun i _ => j - (intOf i).toNat)
          case atStart => exact ⟨0, rfl, by omega, fun q x y hq => by omega, HBL.out⟩
          case round =>
            obtain ⟨k, rfl, hk, hne, hbi⟩ := hrel
            have hbis := hbi.size
            by_cases hkj : k < j
            · have hk' : k < xs.length := by have := H4.out; omega
              have hj' : j < xs.length := by have := H4.out; omega
              obtain ⟨b', o', e', _, _, hck⟩ := isl_at (HI.out.below hbi) hk'
              obtain ⟨b2, o2, e2, _, _, hcj⟩ := isl_at (HI.out.below hbi) hj'
              obtain ⟨rfl, rfl, _⟩ : b = b' ∧ o = o' ∧ True := by simpa using e'
              obtain ⟨rfl, rfl, _⟩ : b = b2 ∧ o = o2 ∧ True := by simpa using e2
              have HX : Hid (xs[k]? = some xs[k]) := List.getElem?_eq_getElem hk'
              have hzj : xs[j] = z := by have := HZ.out; rw [List.getElem?_eq_getElem hj'] at this; exact Option.some.inj this
              rw [hzj] at hcj
              generalize xs[k] = x at hck HX
              have g3 : (0 : Int) ≤ (k : Int) := by omega
              have g4 : (k : Int) < (xs.length : Int) := by omega
              have hu0 : ∀ u : After wr.heap.size wr, u.world.cell? ⟨b, o + k, none⟩ = some (.int .i64 x) := fun u => u.cell (by simp; omega) hck
              have hu1 : ∀ u : After wr.heap.size wr, u.world.cell? ⟨b, o + j, none⟩ = some (.int .i64 z) := fun u => u.cell (by simp; omega) hcj
              have HBI := Lib.hid hbi
              clear hbi hzj hk' hj' e' e2
              by_cases hxz : x = z
              · have HF : Hid (rkOk xs = false) := rk_two H4.out hkj HX.out HZ.out hxz
                have ex : (x == z) = true := by simp [hxz]
                clear hxz hne
                go_wp2_with fail
                refine wp_region_after wr.heap.size (by kernel_rfl) (by kernel_rfl) ?_
                repeat (go_big_quiet_step (fail))
                refine wpQuiet_nil ?_
                rintro u ⟨⟨_, hu⟩, rfl⟩
                have HB2 := Lib.hid (HBI.out.trans (hu.mono hbis))
                clear hu0 hu1 hck hcj hu hc
                go_wp2_with fail
                go_ret
                exact ⟨by rw [HF.out]; rfl, HB2.out⟩
              · have HNE : Hid (RkNe xs j (k + 1)) := hne.out.next HX.out HZ.out hxz
                have ex : (x == z) = false := by simp [hxz]
                clear hxz hne
                go_wp2_with fail
                refine wp_region_after wr.heap.size (by kernel_rfl) (by kernel_rfl) ?_
                repeat (go_big_quiet_step (fail))
                refine wpQuiet_nil ?_
                rintro u ⟨⟨_, hu⟩, rfl⟩
                have HB2 := Lib.hid (HBI.out.trans (hu.mono hbis))
                clear hu0 hu1 hck hcj hu hc
                go_wp2_with fail
                go_roundw
                case rel => exact ⟨k + 1, by go_num, by omega, HNE, HB2.out⟩
                case measure => simp [intOf]; omega
            · have hkj' : k = j := by omega
              subst hkj'
              have HUP : Hid (RkUp xs (k + 1)) := hup.out.next HZ.out HR.out hne.out
              have HBI := Lib.hid hbi
              clear hup hne hbi hc
              go_wp2_with fail
              go_roundw
              case rel => exact ⟨k + 1, by go_num, by omega, HUP, HBI.out⟩
              case measure => simp [intOf]; omega
        · have HF : Hid (rkOk xs = false) := rk_out H4.out HZ.out hr
          have ht : Hid (decide (1 ≤ z ∧ z ≤ 4) = false) := decide_eq_false hr
          clear hr
          go_wp2_with (go_at_call 26; refine (l6In_is ht.out).mono ?_; rintro e w' ⟨rfl, rfl⟩)
          go_ret
          exact ⟨by rw [HF.out]; rfl, HBL.out⟩
      · have hj4 : j = 4 := by omega
        subst hj4
        have HT : Hid (rkOk xs = true) := hup.out.all H4.out
        clear hup
        go_wp2_with fail
        go_ret
        exact ⟨by rw [HT.out]; rfl, hbl⟩
  · have e4 : ((xs.length : Int) != 4) = true := by simp; omega
    have HN : Hid (rkOk xs = false) := rk_no h4
    clear h h4
    go_enter Tryz.func8, Tryz.ntmps8
    go_wp2_with fail
    go_ret
    exact ⟨by rw [HN.out]; rfl, Below.refl _ _⟩
end Go.Proofs.YtiinmlagcbjloaaGreat

/-! UM: A method called on an interface value. -/
namespace Go.Proofs.YtiinmlagcbjloaaGreat
open Go.RowKit Go.Deep

/-- A method called on an interface value whose method is known. -/
theorem upon_method {P : Program} {o : Oper} {a : Act} {K : Act → World → Prop} {Q : Exit → Act → World → Prop} {n : Nat} {t : TypeId} {v : Value} {nm : String} {w : World} (f : FuncId) (h : (method n t v nm).run P w = .ok (f, v) w)
    (h1 : (callFunc f #[v]).run P w = .ok (.enter f #[v]) w) (h2 : o.upon P a K Q (.ok (.enter f #[v]) w)) : o.upon P a K Q (((method n t v nm).run P w).andThen fun x w' => (callFunc x.1 #[x.2]).run P w') := by
  rw [h]
  show o.upon P a K Q ((callFunc f #[v]).run P w)
  rw [h1]
  exact h2
end Go.Proofs.YtiinmlagcbjloaaGreat
