/- Several texts in one: PF2, RFp, SM, G7. -/
import Derived.Test.YtiinmlagcbjloaaGreatKAll6
import Derived.Test.YtiinmlagcbjloaaGreatKAll2
import Derived.Test.YtiinmlagcbjloaaGreatKAll5

/-! PF2: Rows of rows of the call's own, each row in blocks of its own. Definitions and plain lemmas. -/
namespace Go.Proofs.YtiinmlagcbjloaaGreat
open Go.RowKit Go.Deep

/-- A row of numbers of one's own, in blocks from L on below H. -/
structure RwF (w : World) (L H : Nat) (a : Option Addr) (c : Nat) (r : List Int) : Prop where
  own : IOwn w L r a c
  hi : ∀ g, (Value.slice a r.length c).ownBlock = some g → g < H
theorem RwF.same {w w2 : World} {L H : Nat} {a : Option Addr} {c : Nat} {r : List Int} (h : RwF w L H a c r) (hs : ∀ b, L ≤ b → b < H → w2.heap[b]? = w.heap[b]?) : RwF w2 L H a c r := by
  refine ⟨⟨h.own.1, ?_⟩, h.hi⟩
  rcases h.own.2 with h2 | ⟨g, cap, cur, h3, h4, h5, h6⟩
  · exact .inl h2
  · have hg : g < H := h.hi g (by rw [h3]; rfl)
    exact .inr ⟨g, cap, cur, h3, h4, by rw [hs g h4 hg]; exact h5, h6⟩
theorem RwF.sc {w : World} {L H : Nat} {a : Option Addr} {c : Nat} {r : List Int} (h : RwF w L H a c r) : ISc w L H a c r := by
  refine ⟨?_, (isc_of_own h.own).2⟩
  rcases Nat.eq_zero_or_pos r.length with h0 | h0
  · exact .inl (List.eq_nil_of_length_eq_zero h0)
  · obtain ⟨g, cap, hv, hb, hlt⟩ := h.own.form h0
    have hg : g < H := h.hi g (by rw [hv]; rfl)
    rcases h.own.sl with h1 | ⟨b, o, e, h1, h2, h3⟩
    · exact .inl h1
    · simp only [Value.slice.injEq] at hv
      rw [hv.1] at e
      simp only [Option.some.injEq, Addr.mk.injEq] at e
      refine .inr ⟨b, o, by rw [hv.1]; simp [e.1, e.2.1], h1, by omega, h3⟩

/-- The rows lie in row (A, C), row i from block lo i on below hi i, one behind the other. -/
structure RF (w : World) (base : Nat) (rows : List (List Int)) (A : Option Addr) (C : Nat) (xs : List Value) (lo hi : Nat → Nat) : Prop where
  own : w.ownsRow base 23 1 (.slice A rows.length C) rows.length xs
  up : ∀ i j, i < j → j < rows.length → hi i ≤ lo j
  at_ : ∀ (i : Nat) (r : List Int), rows[i]? = some r → ∃ a' c', xs[i]? = some (Value.slice a' r.length c') ∧ RwF w (lo i) (hi i) a' c' r ∧ base ≤ lo i ∧ hi i ≤ w.heap.size ∧ (∀ g, (Value.slice A rows.length C).ownBlock = some g → g < lo i ∨ hi i ≤ g)
def ROwnF (w : World) (base : Nat) (rows : List (List Int)) (A : Option Addr) (C : Nat) : Prop := ∃ xs lo hi, RF w base rows A C xs lo hi
theorem RF.all {w : World} {base : Nat} {rows : List (List Int)} {A : Option Addr} {C : Nat} {xs : List Value} {lo hi : Nat → Nat} (h : RF w base rows A C xs lo hi) :
    ∀ (i : Nat) (r : List Int), rows[i]? = some r → ∃ a' c' L H, xs[i]? = some (Value.slice a' r.length c') ∧ ISc w L H a' c' r ∧ base ≤ L ∧ H ≤ w.heap.size ∧ (∀ g, (Value.slice A rows.length C).ownBlock = some g → g < L ∨ H ≤ g) := fun i r hr => by
  obtain ⟨a', c', hx, hw, h1, h2, h3⟩ := h.at_ i r hr
  exact ⟨a', c', lo i, hi i, hx, hw.sc, h1, h2, h3⟩
theorem ROwnF.to {w : World} {base : Nat} {rows : List (List Int)} {A : Option Addr} {C : Nat} (h : ROwnF w base rows A C) : ROwn w base rows A C := by
  obtain ⟨xs, lo, hi, h⟩ := h
  exact ⟨xs, h.own, h.all⟩
theorem RF.low {w w2 : World} {base base' : Nat} {rows : List (List Int)} {A : Option Addr} {C : Nat} {xs : List Value} {lo hi : Nat → Nat} (h : RF w base rows A C xs lo hi) (hb : Below w.heap.size w w2) (hbase : base' ≤ base) : RF w2 base' rows A C xs lo hi := by
  refine ⟨own_base hbase (own_low hb h.own), h.up, fun i r hr => ?_⟩
  obtain ⟨a', c', hx, hw, h1, h2, h3⟩ := h.at_ i r hr
  exact ⟨a', c', hx, hw.same (fun b _ hb' => hb.block b (by omega)), by omega, Nat.le_trans h2 hb.size, h3⟩
theorem ROwnF.low {w w2 : World} {base base' : Nat} {rows : List (List Int)} {A : Option Addr} {C : Nat} (h : ROwnF w base rows A C) (hb : Below w.heap.size w w2) (hbase : base' ≤ base) : ROwnF w2 base' rows A C := by
  obtain ⟨xs, lo, hi, h⟩ := h
  exact ⟨xs, lo, hi, h.low hb hbase⟩
/-- One more row is appended. -/
theorem RF.append {w w2 w3 : World} {base : Nat} {rows : List (List Int)} {A A' : Option Addr} {C C' : Nat} {blk : Obj} {r : List Int} {a2 : Option Addr} {c2 : Nat} {xs : List Value} {lo hi : Nat → Nat} (h : RF w base rows A C xs lo hi)
    (hown3 : w3.ownsRow base 23 1 (.slice A' (rows.length + 1) C') (rows.length + 1) (xs ++ [.slice a2 r.length c2])) (hb2 : Below w.heap.size w w2) (hi2 : IOwn w2 w.heap.size r a2 c2) (hbase : base ≤ w.heap.size)
    (hgrow : (w2.alloc blk).grownBy w3 (Value.slice A rows.length C).ownBlock) (hat : (Value.slice A' (rows.length + 1) C').ownBlock = (Value.slice A rows.length C).ownBlock ∨ (Value.slice A' (rows.length + 1) C').ownBlock = some (w2.heap.size + 1)) : ROwnF w3 base (rows ++ [r]) A' C' := by
  have hs2 := hb2.size
  have hs3 := hgrow.size
  simp at hs3
  have hxl : xs.length = rows.length := by have := h.own.1; omega
  have hl : (rows ++ [r]).length = rows.length + 1 := by simp
  refine ⟨xs ++ [.slice a2 r.length c2], fun i => if i < rows.length then lo i else w.heap.size, fun i => if i < rows.length then hi i else w2.heap.size, by rw [hl]; exact hown3, fun i j hij hj => ?_, fun i r' hr => ?_⟩
  · rw [hl] at hj
    rw [if_pos (by omega)]
    split
    · exact h.up i j hij (by omega)
    · obtain ⟨a', c', _, _, _, h2, _⟩ := h.at_ i rows[i] (List.getElem?_eq_getElem (by omega))
      exact h2
  have hcond : ∀ {L H : Nat}, (∀ g, (Value.slice A rows.length C).ownBlock = some g → g < L ∨ H ≤ g) → H ≤ w2.heap.size → ∀ g', (Value.slice A' (rows.length + 1) C').ownBlock = some g' → g' < L ∨ H ≤ g' := fun hg hH g' hg' => by
    rcases hat with h1 | h1
    · exact hg g' (by rw [← h1]; exact hg')
    · rw [h1] at hg'; simp at hg'; omega
  by_cases hi' : i < rows.length
  · rw [List.getElem?_append_left hi'] at hr
    obtain ⟨a', c', hx, hsl, hL, hH, hg⟩ := h.at_ i r' hr
    simp only [if_pos hi']
    refine ⟨a', c', by rw [List.getElem?_append_left (by omega)]; exact hx, hsl.same (fun b h1 h2 => ?_), hL, by omega, by rw [hl]; exact hcond hg (by omega)⟩
    rw [hgrow.block b (by simp; omega) (fun e => by have := hg b e.symm; omega), Below.heap_alloc _ _ _ (by omega), hb2.block b (by omega)]
  · have hir : i = rows.length := by
      have := (List.getElem?_eq_some_iff.1 hr).1
      simp at this
      omega
    subst hir
    simp at hr
    subst hr
    simp only [if_neg hi']
    refine ⟨a2, c2, by rw [← hxl]; simp, RwF.same ⟨hi2, fun g hg => (hi2.lt g hg).2⟩ (fun b h1 h2 => ?_), hbase, by omega, by rw [hl]; exact hcond (fun g hg => .inl (h.own.lt _ hg).2) (Nat.le_refl _)⟩
    rw [hgrow.block b (by simp; omega) (fun e => by have := (h.own.lt b e.symm).2; omega), Below.heap_alloc _ _ _ (by omega)]

/-- The first row: the root's own. -/
theorem rownF_start {w w3 : World} (hb : Below ((w.alloc (.cells #[] 3)).alloc (.cells #[.slice (some ⟨w.heap.size, 0, none⟩) 0 0] 23)).heap.size ((w.alloc (.cells #[] 3)).alloc (.cells #[.slice (some ⟨w.heap.size, 0, none⟩) 0 0] 23)) w3) :
    ROwnF w3 w.heap.size [[]] (some ⟨w.heap.size + 1, 0, none⟩) 1 := by
  refine ROwnF.low (w := (w.alloc (.cells #[] 3)).alloc (.cells #[.slice (some ⟨w.heap.size, 0, none⟩) 0 0] 23)) ⟨[.slice (some ⟨w.heap.size, 0, none⟩) 0 0], fun _ => w.heap.size, fun _ => w.heap.size + 1, ⟨rfl, .inr ⟨w.heap.size + 1, 1, #[.slice (some ⟨w.heap.size, 0, none⟩) 0 0], rfl, by omega, ?_, Nat.le_refl _, by decide, rfl, rfl⟩⟩, fun i j h1 h2 => ?_, fun i r hr => ?_⟩ hb (Nat.le_refl _)
  · have := heap_alloc_new (w.alloc (.cells #[] 3)) (.cells #[.slice (some ⟨w.heap.size, 0, none⟩) 0 0] 23)
    simpa using this
  · simp at h2; omega
  · have hi : i = 0 := by
      have := (List.getElem?_eq_some_iff.1 hr).1
      simp at this
      exact this
    subst hi
    simp at hr
    subst hr
    refine ⟨_, 0, rfl, ⟨⟨rfl, .inr ⟨w.heap.size, 0, #[], rfl, Nat.le_refl _, ?_, Nat.le_refl _, by decide, rfl, rfl⟩⟩, fun g hg => by simp [Value.ownBlock] at hg; omega⟩, Nat.le_refl _, by simp, fun g hg => .inr (by simp [Value.ownBlock] at hg; omega)⟩
    rw [Below.heap_alloc _ _ _ (by simp)]
    exact heap_alloc_new _ _
end Go.Proofs.YtiinmlagcbjloaaGreat

/-! RFp: Rows of rows: one row written over. -/
namespace Go.Proofs.YtiinmlagcbjloaaGreat
open Go.RowKit Go.Deep

theorem own_block {W w2 : World} {base : Nat} {e : TypeId} {size : Nat} {v : Value} {n : Nat} {xs : List Value} (h : W.ownsRow base e size v n xs) (hs : ∀ g, v.ownBlock = some g → w2.heap[g]? = W.heap[g]?) : w2.ownsRow base e size v n xs := by
  refine ⟨h.1, ?_⟩
  rcases h.2 with h2 | ⟨g, cap, cur, h3, h4, h5, h6⟩
  · exact .inl h2
  · exact .inr ⟨g, cap, cur, h3, h4, by rw [hs g (by rw [h3]; rfl)]; exact h5, h6⟩

/-- Row j has been written over. -/
theorem RF.mark {w w2 : World} {base : Nat} {cur : List (List Int)} {A : Option Addr} {C : Nat} {xs : List Value} {lo hi : Nat → Nat} {j : Nat} {r r2 : List Int} {a : Option Addr} {c : Nat} (h : RF w base cur A C xs lo hi) (hr : cur[j]? = some r) (hx : xs[j]? = some (Value.slice a r.length c))
    (hl : r2.length = r.length) (hown : IOwn w2 (lo j) r2 a c) (hg : w.grownBy w2 (Value.slice a r.length c).ownBlock) : RF w2 base (cur.set j r2) A C xs lo hi := by
  have hj := (List.getElem?_eq_some_iff.1 hr).1
  obtain ⟨a', c', hx', hw, h1, h2, h3⟩ := h.at_ j r hr
  rw [hx] at hx'
  simp only [Option.some.injEq, Value.slice.injEq] at hx'
  obtain ⟨rfl, _, rfl⟩ := hx'
  have hs := hg.size
  have hb : ∀ g, (Value.slice a r.length c).ownBlock = some g → lo j ≤ g ∧ g < hi j := fun g hgg => ⟨(hw.own.lt g hgg).1, hw.hi g hgg⟩
  refine ⟨?_, fun i k hik hk => h.up i k hik (by rwa [List.length_set] at hk), fun i r' hr' => ?_⟩
  · rw [List.length_set]
    refine own_block h.own fun g hgg => hg.block g (h.own.lt g hgg).2 fun e => ?_
    have := h3 g hgg
    have := hb g e.symm
    omega
  · rw [List.length_set]
    by_cases e : i = j
    · subst e
      rw [List.getElem?_set_self hj] at hr'
      obtain rfl := Option.some.inj hr'
      exact ⟨a, c, by rw [hl]; exact hx, ⟨hown, by rw [hl]; exact hw.hi⟩, h1, by omega, h3⟩
    · rw [List.getElem?_set_ne (fun h => e h.symm)] at hr'
      obtain ⟨a', c', gx, gw, g1, g2, g3⟩ := h.at_ i r' hr'
      refine ⟨a', c', gx, gw.same (fun b hb1 hb2 => hg.block b (by omega) fun eb => ?_), g1, by omega, g3⟩
      have := hb b eb.symm
      have hi' := (List.getElem?_eq_some_iff.1 hr').1
      rcases Nat.lt_or_gt_of_ne e with hij | hij
      · have := h.up i j hij hj; omega
      · have := h.up j i hij hi'; omega
end Go.Proofs.YtiinmlagcbjloaaGreat

/-! SM: l1Same on any two terms. -/
namespace Go.Proofs.YtiinmlagcbjloaaGreat
open Go.RowKit Go.Deep

theorem boxes_SM {w wr : World} {x y z x' y' z' : Value} (h : Below (w.heap.size + 2) ((w.alloc (.cells #[x, y, z] 26)).alloc (.cells #[x', y', z'] 26)) wr) :
    wr.cell? ⟨w.heap.size, 2, none⟩ = some z ∧ wr.cell? ⟨w.heap.size + 1, 2, none⟩ = some z' := by
  refine ⟨?_, ?_⟩
  · rw [h.cell (by simp), World.cell?_alloc_lt _ _ _ (by simp), World.cell?_alloc_at _ _ _ _ (by simp)]; rfl
  · rw [h.cell (by simp), World.cell?_alloc_at _ _ _ _ (by simp)]; rfl

set_option maxRecDepth 100000 in
set_option maxHeartbeats 2000000 in
theorem l1Same_any (N : Nat) : ∀ (s v : Int) (a : Option Addr) (c : Nat) (k : Fo) (s' v' : Int) (a' : Option Addr) (c' : Nat) (k' : Fo) (w : World), Sl w 0 w.heap.size a k → Sl w 0 w.heap.size a' k' → fsz k ≤ N → N ≤ 1000000 →
    Calls Tryz.prog 71 #[.agg #[.int .i64 s, .int .i64 v, .slice a (flen k) c], .agg #[.int .i64 s', .int .i64 v', .slice a' (flen k') c']] w fun e w' => e = .returned (.bool (teq s v k s' v' k')) ∧ Below w.heap.size w w' := by
  induction N using Nat.strongRecOn with
  | _ N ih =>
    intro s v a c k s' v' a' c' k' w hl hl' hN hN2
    have hfl := flen_le_sz k
    have IH := Lib.hid ih
    clear ih
    have hb0 : Below w.heap.size w ((w.alloc (.cells #[.int .i64 s, .int .i64 v, .slice a (flen k) c] 26)).alloc (.cells #[.int .i64 s', .int .i64 v', .slice a' (flen k') c'] 26)) := ((Below.refl _ _).alloc (Nat.le_refl _) _).alloc (by simp) _
    have HB0 := Lib.hid hb0
    clear hb0
    by_cases hs : s = s'
    case neg =>
      have e0 : (s != s') = true := by simp [hs]
      have HF := Lib.hid (teq_sign (v := v) (k := k) (v' := v') (k' := k') hs)
      clear hs
      go_enter Tryz.func71, Tryz.ntmps71
      go_wp2_with fail
      go_ret
      exact ⟨by rw [HF.out]; rfl, HB0.out⟩
    subst hs
    have e0 : (s != s) = false := by simp
    by_cases hv : v = v'
    case neg =>
      have e1 : (v != v') = true := by simp [hv]
      have HF := Lib.hid (teq_var (s := s) (k := k) (s' := s) (k' := k') hv)
      clear hv
      go_enter Tryz.func71, Tryz.ntmps71
      go_wp2_with fail
      go_ret
      exact ⟨by rw [HF.out]; rfl, HB0.out⟩
    subst hv
    have e1 : (v != v) = false := by simp
    by_cases hk : flen k = flen k'
    case neg =>
      have e2 : ((flen k : Int) != (flen k' : Int)) = true := by simp; omega
      have HF := Lib.hid (teq_len (s := s) (v := v) (s' := s) (v' := v) hk)
      clear hk
      go_enter Tryz.func71, Tryz.ntmps71
      go_wp2_with fail
      go_ret
      exact ⟨by rw [HF.out]; rfl, HB0.out⟩
    have e2 : ((flen k : Int) != (flen k' : Int)) = false := by simp [hk]
    have hkl : flen k ≤ flen k' := by omega
    have hkg : flen k' ≤ flen k := by omega
    clear hk
    rw [teq_kids]
    go_enter Tryz.func71, Tryz.ntmps71
    go_wp2_with fail
    go_loopw [5] (fun i wr => ∃ j : Nat, j ≤ flen k ∧ i = .int .i64 j ∧ Hid (feq k k' = feq (fdrop j k) (fdrop j k')) ∧ Below (w.heap.size + 2) ((w.alloc (.cells #[.int .i64 s, .int .i64 v, .slice a (flen k) c] 26)).alloc (.cells #[.int .i64 s, .int .i64 v, .slice a' (flen k') c'] 26)) wr) (fun i _ => flen k - (intOf i).toNat)
    case atStart => exact ⟨0, by omega, rfl, rfl, Below.refl _ _⟩
    case round =>
      obtain ⟨j, hj, rfl, hfe, hbl⟩ := hrel
      have hsr := hbl.size
      simp at hsr
      obtain ⟨hx2, hy2⟩ := boxes_SM hbl
      have hbw := HB0.out.trans (hbl.mono (show w.heap.size ≤ w.heap.size + 2 by omega))
      by_cases hlt : j < flen k
      · rcases hl with rfl | ⟨b, o, rfl, hrow⟩
        · simp [flen] at hlt
        rcases hl' with rfl | ⟨b', o', rfl, hrow'⟩
        · simp [flen] at hkl; omega
        obtain ⟨s1, v1, kk, a1, c1, ⟨x, y, hd⟩, _, hbB, hk0, hk1, hk2, hsl⟩ := row_at (hrow.below hbw) hlt
        obtain ⟨s2, v2, kk2, a2, c2, ⟨x2, y2, hd2⟩, _, hbB', hk3, hk4, hk5, hsl2⟩ := row_at (hrow'.below hbw) (show j < flen k' by omega)
        have hfd := feq_drop hd hd2
        have hkN := fsz_kid hd
        have HS := Lib.hid hsl
        have HS2 := Lib.hid hsl2
        have HBL := Lib.hid hbl
        clear hd hd2 hsl hsl2 hrow hrow' hbl hbw
        have g1 : (0 : Int) ≤ (j : Int) := by omega
        have g2 : (j : Int) < (flen k : Int) := by omega
        have g3 : (j : Int) < (flen k' : Int) := by omega
        have hu0 : ∀ u : After wr.heap.size wr, u.world.cell? ⟨b, o + j * 3, none⟩ = some (.int .i64 s1) := fun u => u.cell (by simp; omega) hk0
        have hu1 : ∀ u : After wr.heap.size wr, u.world.cell? ⟨b, o + j * 3 + 1, none⟩ = some (.int .i64 v1) := fun u => u.cell (by simp; omega) hk1
        have hu2 : ∀ u : After wr.heap.size wr, u.world.cell? ⟨b, o + j * 3 + 2, none⟩ = some (.slice a1 (flen kk) c1) := fun u => u.cell (by simp; omega) hk2
        have hu3 : ∀ u : After wr.heap.size wr, u.world.cell? ⟨b', o' + j * 3, none⟩ = some (.int .i64 s2) := fun u => u.cell (by simp; omega) hk3
        have hu4 : ∀ u : After wr.heap.size wr, u.world.cell? ⟨b', o' + j * 3 + 1, none⟩ = some (.int .i64 v2) := fun u => u.cell (by simp; omega) hk4
        have hu5 : ∀ u : After wr.heap.size wr, u.world.cell? ⟨b', o' + j * 3 + 2, none⟩ = some (.slice a2 (flen kk2) c2) := fun u => u.cell (by simp; omega) hk5
        have hu6 : ∀ u : After wr.heap.size wr, u.world.cell? ⟨w.heap.size, 2, none⟩ = some (.slice (some ⟨b, o, none⟩) (flen k) c) := fun u => u.cell (by simp; omega) hx2
        have hu7 : ∀ u : After wr.heap.size wr, u.world.cell? ⟨w.heap.size + 1, 2, none⟩ = some (.slice (some ⟨b', o', none⟩) (flen k') c') := fun u => u.cell (by simp; omega) hy2
        have HCALL : Hid (∀ u : After wr.heap.size wr, Calls Tryz.prog 71 #[.agg #[.int .i64 s1, .int .i64 v1, .slice a1 (flen kk) c1], .agg #[.int .i64 s2, .int .i64 v2, .slice a2 (flen kk2) c2]] u.world fun e w' => e = .returned (.bool (teq s1 v1 kk s2 v2 kk2)) ∧ Below u.world.heap.size u.world w') := fun u => by
          have hu := u.below
          have hus := hu.size
          refine IH.out (fsz kk) (by omega) s1 v1 a1 c1 kk s2 v2 a2 c2 kk2 u.world ?_ ?_ (Nat.le_refl _) (by omega)
          · exact (HS.out.below (hu.mono (by omega))).mono (Nat.le_refl _) (by omega)
          · exact (HS2.out.below (hu.mono (by omega))).mono (Nat.le_refl _) (by omega)
        cases hte : teq s1 v1 kk s2 v2 kk2 with
        | true =>
          have HFE : Hid (feq k k' = feq (fdrop (j + 1) k) (fdrop (j + 1) k')) := by unfold Hid; rw [hfe.out, hfd, hte, Bool.true_and]
          rw [hte] at HCALL
          clear hfe hfd hte
          go_wp2_with fail
          refine wp_region_after wr.heap.size (by kernel_rfl) (by kernel_rfl) ?_
          repeat (go_big_quiet_step ((go_at_call 71; exact Calls.after (After.below ‹_›).size (HCALL.out _))))
          refine wpQuiet_nil ?_
          rintro u ⟨⟨_, hu⟩, rfl⟩
          clear hu0 hu1 hu2 hu3 hu4 hu5 hu6 hu7 hk0 hk1 hk2 hk3 hk4 hk5 hx2 hy2
          have HB2 := Lib.hid (HBL.out.trans (hu.mono hsr))
          clear hu
          go_wp2_with fail
          go_roundw
          case rel => exact ⟨j + 1, by omega, by go_num, HFE, HB2.out⟩
          case measure => simp [intOf]; omega
        | false =>
          have HFE : Hid (feq k k' = false) := by unfold Hid; rw [hfe.out, hfd, hte, Bool.false_and]
          rw [hte] at HCALL
          clear hfe hfd hte
          go_wp2_with fail
          refine wp_region_after wr.heap.size (by kernel_rfl) (by kernel_rfl) ?_
          repeat (go_big_quiet_step ((go_at_call 71; exact Calls.after (After.below ‹_›).size (HCALL.out _))))
          refine wpQuiet_nil ?_
          rintro u ⟨⟨_, hu⟩, rfl⟩
          clear hu0 hu1 hu2 hu3 hu4 hu5 hu6 hu7 hk0 hk1 hk2 hk3 hk4 hk5 hx2 hy2
          have HB2 := Lib.hid (HB0.out.trans ((HBL.out.trans (hu.mono hsr)).mono (by omega)))
          clear hu
          go_wp2_with fail
          go_ret
          exact ⟨by rw [HFE.out]; rfl, HB2.out⟩
      · have HBW := Lib.hid hbw
        have HFE : Hid (feq k k' = true) := by unfold Hid; rw [hfe.out, fdrop_all (by omega), fdrop_all (by omega)]; rfl
        clear hbw hbl hfe
        go_wp2_with fail
        go_ret
        exact ⟨by rw [HFE.out]; rfl, HBW.out⟩
end Go.Proofs.YtiinmlagcbjloaaGreat

/-! G7: The specification's comparison: what lies in memory, what is known already. -/
namespace Go.Proofs.YtiinmlagcbjloaaGreat
open Go.RowKit Go.Deep

/-- Terms laid flat: n terms at A, the numbers of their kids at K; all below block B. -/
structure Tab (w : World) (B : Nat) (A : Option Addr) (K : Option Addr) (n : Nat) (S : Nat → Int × Int × Fo) (I : List (List Int)) : Prop where
  cells : ∀ i, i < n → ∃ b o a c, A = some ⟨b, o, none⟩ ∧ b < B ∧ w.cell? ⟨b, o + i * 3, none⟩ = some (.int .i64 (S i).1) ∧ w.cell? ⟨b, o + i * 3 + 1, none⟩ = some (.int .i64 (S i).2.1) ∧
    w.cell? ⟨b, o + i * 3 + 2, none⟩ = some (.slice a (flen (S i).2.2) c) ∧ Sl w 0 B a (S i).2.2
  ok : ∀ i, i < n → okN (S i).1 (S i).2.1 (flen (S i).2.2) = true ∧ fok (S i).2.2 = true ∧ fsz (S i).2.2 ≤ 100
  rows : RSl w 0 B K I
  len : I.length = n
  kid : ∀ i, i < n → ∃ r, I[i]? = some r ∧ r.length = flen (S i).2.2 ∧ ∀ m s v kk x y t, fdrop m (S i).2.2 = .node x y (s, v) kk t → ∃ q : Nat, r[m]? = some (q : Int) ∧ q < n ∧ S q = (s, v, kk)
theorem Tab.same {w w2 : World} {B : Nat} {A K : Option Addr} {n : Nat} {S : Nat → Int × Int × Fo} {I : List (List Int)} (h : Tab w B A K n S I) (hb : Below B w w2) : Tab w2 B A K n S I := by
  refine ⟨fun i hi => ?_, h.ok, h.rows.below hb, h.len, h.kid⟩
  obtain ⟨b, o, a, c, e, hlt, h0, h1, h2, hl⟩ := h.cells i hi
  exact ⟨b, o, a, c, e, hlt, by rw [hb.cell hlt]; exact h0, by rw [hb.cell hlt]; exact h1, by rw [hb.cell hlt]; exact h2, hl.below hb⟩
def tmS (x : Int × Int × Fo) : Tm := tmOf x.1 x.2.1 x.2.2
theorem Tab.shape {w : World} {B : Nat} {A K : Option Addr} {n : Nat} {S : Nat → Int × Int × Fo} {I : List (List Int)} (h : Tab w B A K n S I) {i : Nat} (hi : i < n) : Shape (S i).1 (S i).2.1 (S i).2.2 := shape_of (h.ok i hi).1 (h.ok i hi).2.1

/-- The whole look. -/
structure Look where
  B : Nat
  g : Nat
  xs : List Int
  rA : Option Addr
  rC : Nat
  sA : Option Addr
  sK : Option Addr
  sCA : Nat
  sCK : Nat
  n : Nat
  S : Nat → Int × Int × Fo
  I : List (List Int)
  tA : Option Addr
  tK : Option Addr
  tCA : Nat
  tCK : Nat
  m : Nat
  T : Nat → Int × Int × Fo
  J : List (List Int)
  A : Option Addr
  C : Nat
  vs : List Value
  lo : Nat → Nat
  hi : Nat → Nat
  D : Nat
structure LookAt (L : Look) (w : World) : Prop where
  glt : L.g < L.B
  big : L.B ≤ w.heap.size
  dbig : L.D ≤ w.heap.size
  bd : L.B ≤ L.D
  hid : ∀ i, i < L.n → L.hi i ≤ L.D
  c0 : w.cell? ⟨L.g, 0, none⟩ = some (.slice L.rA L.xs.length L.rC)
  c1 : w.cell? ⟨L.g, 1, none⟩ = some (.slice L.sA L.n L.sCA)
  c2 : w.cell? ⟨L.g, 2, none⟩ = some (.slice L.sK L.n L.sCK)
  c3 : w.cell? ⟨L.g, 3, none⟩ = some (.slice L.tA L.m L.tCA)
  c4 : w.cell? ⟨L.g, 4, none⟩ = some (.slice L.tK L.m L.tCK)
  c5 : w.cell? ⟨L.g, 5, none⟩ = some (.slice L.A L.n L.C)
  rk : ISl w 0 L.B L.rA L.xs
  rok : rkOk L.xs = true
  s : Tab w L.B L.sA L.sK L.n L.S L.I
  t : Tab w L.B L.tA L.tK L.m L.T L.J
  small : L.n ≤ 100 ∧ L.m ≤ 100
theorem LookAt.next {L : Look} {w w2 : World} (h : LookAt L w) (hb : Below L.B w w2) : LookAt L w2 :=
  ⟨h.glt, Nat.le_trans h.big hb.size, Nat.le_trans h.dbig hb.size, h.bd, h.hid, by rw [hb.cell h.glt]; exact h.c0, by rw [hb.cell h.glt]; exact h.c1, by rw [hb.cell h.glt]; exact h.c2, by rw [hb.cell h.glt]; exact h.c3, by rw [hb.cell h.glt]; exact h.c4, by rw [hb.cell h.glt]; exact h.c5, h.rk.below hb, h.rok, h.s.same hb, h.t.same hb, h.small⟩
/-- Nothing is changed but what is known. -/
structure Far (L : Look) (w w' : World) : Prop where
  low : Below L.B w w'
  far : Same L.D w.heap.size w w'
theorem Far.refl {L : Look} {w : World} : Far L w w := ⟨Below.refl _ _, fun _ _ _ => rfl⟩
theorem Far.trans {L : Look} {w w1 w2 : World} (h : Far L w w1) (h' : Far L w1 w2) : Far L w w2 :=
  ⟨h.low.trans h'.low, fun b h1 h2 => by rw [h'.far b h1 (Nat.lt_of_lt_of_le h2 h.low.size), h.far b h1 h2]⟩
theorem Far.new {L : Look} {w w2 : World} (hL : L.B ≤ w.heap.size) (hb : Below w.heap.size w w2) : Far L w w2 := ⟨hb.mono hL, Same.of_below hb⟩
theorem Far.store {L : Look} {w : World} {u b : Nat} (x : Value) (h1 : L.B ≤ u) (h2 : u < L.D) : Far L w (w.setCell ⟨u, b, none⟩ x) :=
  ⟨(Below.refl _ _).setCell (by simpa using h1) _, Same.setCell (fun _ _ _ => rfl) (.inl h2) _⟩
def Look.sz (L : Look) (a b : Nat) : Nat := fsz (L.S a).2.2 + fsz (L.T b).2.2
noncomputable def Look.gt (L : Look) (a b : Nat) : Bool := pB (Gt (rkN L.xs) (tmS (L.S a)) (tmS (L.T b)))
def kv (rows : List (List Int)) (a b : Nat) : Int := (rows.getD a []).getD b 0

/-- What is known: of all pairs that are smaller than z, nothing or the truth. -/
structure Kn (L : Look) (z : Nat) (rows : List (List Int)) (w : World) : Prop where
  rf : RF w L.B rows L.A L.C L.vs L.lo L.hi
  len : rows.length = L.n
  wide : ∀ (a : Nat) (r : List Int), rows[a]? = some r → r.length = L.m
  say : ∀ a b, a < L.n → b < L.m → L.sz a b < z → kv rows a b = 0 ∨ kv rows a b = (if L.gt a b = true then 1 else 2)
/-- What a call leaves. -/
def LkPost (L : Look) (z : Nat) (rows : List (List Int)) (res : Bool) (w : World) (e : Ending) (w' : World) : Prop :=
  ∃ rows', e = .returned (.bool res) ∧ Far L w w' ∧ Kn L z rows' w' ∧ ∀ a b, a < L.n → b < L.m → z ≤ L.sz a b → kv rows' a b = kv rows a b

theorem Kn.less {L : Look} {z z' : Nat} {rows : List (List Int)} {w : World} (h : Kn L z rows w) (hz : z' ≤ z) : Kn L z' rows w := ⟨h.rf, h.len, h.wide, fun a b ha hb hs => h.say a b ha hb (by omega)⟩
/-- Behind a call on a smaller pair. -/
theorem Kn.more {L : Look} {z z' : Nat} {rows rows' : List (List Int)} {w w' : World} (h : Kn L z rows w) (h' : Kn L z' rows' w') (_hz : z' ≤ z) (hsame : ∀ a b, a < L.n → b < L.m → z' ≤ L.sz a b → kv rows' a b = kv rows a b) : Kn L z rows' w' :=
  ⟨h'.rf, h'.len, h'.wide, fun a b ha hb hs => by
    by_cases e : L.sz a b < z'
    · exact h'.say a b ha hb e
    · rw [hsame a b ha hb (by omega)]; exact h.say a b ha hb hs⟩
/-- New blocks change nothing. -/
theorem Kn.low {L : Look} {z : Nat} {rows : List (List Int)} {w w2 : World} (h : Kn L z rows w) (hb : Below w.heap.size w w2) : Kn L z rows w2 := ⟨h.rf.low hb (Nat.le_refl _), h.len, h.wide, h.say⟩

/-- Where an entry lies. -/
theorem Kn.cell {L : Look} {z : Nat} {rows : List (List Int)} {w : World} (h : Kn L z rows w) {a b : Nat} (ha : a < L.n) (hb : b < L.m) :
    ∃ g r u c, L.A = some ⟨g, 0, none⟩ ∧ w.cell? ⟨g, a, none⟩ = some (.slice (some ⟨u, 0, none⟩) L.m c) ∧ w.cell? ⟨u, b, none⟩ = some (.int .i64 (kv rows a b)) ∧ w.frozen? ⟨u, b, none⟩ = false ∧ rows[a]? = some r ∧ r.length = L.m ∧ L.B ≤ u ∧ u < L.hi a ∧
      ∀ x : Int, RF (w.setCell ⟨u, b, none⟩ (.int .i64 x)) L.B (rows.set a (r.set b x)) L.A L.C L.vs L.lo L.hi := by
  have hal : a < rows.length := by rw [h.len]; exact ha
  have hr : rows[a]? = some rows[a] := List.getElem?_eq_getElem hal
  have hw := h.wide a _ hr
  obtain ⟨a', c', hx, hrw, hlo, hhi, _⟩ := h.rf.at_ a _ hr
  have hown := h.rf.own
  obtain ⟨g, cap, hv, hbg, hgl⟩ := hown.form (by omega)
  simp only [Value.slice.injEq] at hv
  obtain ⟨hA, _, _⟩ := hv
  obtain ⟨u, ucap, hu, hbu, hul⟩ := hrw.own.form (by omega)
  simp only [Value.slice.injEq] at hu
  obtain ⟨rfl, _, _⟩ := hu
  refine ⟨g, rows[a], u, c', hA, ?_, ?_, hrw.own.frozenAt b, hr, hw, by omega, hrw.hi u rfl, fun x => ?_⟩
  · have hown' := hown
    rw [hA] at hown'
    rw [hown'.cellAt a (by omega), hx, hw]
  · rw [hrw.own.cellAt b (by omega)]
    have hbl : b < rows[a].length := by omega
    simp [kv, List.getD, hr, hbl]
  · obtain ⟨hst, hgr⟩ := hrw.own.stored b (.int .i64 x)
    refine h.rf.mark hr hx (by rw [List.length_set]) ?_ hgr
    unfold IOwn
    rw [List.length_set, List.map_set]
    exact hst
theorem kv_set_same {rows : List (List Int)} {a b : Nat} {r : List Int} {x : Int} (hr : rows[a]? = some r) (hb : b < r.length) : kv (rows.set a (r.set b x)) a b = x := by
  have ha := (List.getElem?_eq_some_iff.1 hr).1
  simp [kv, List.getD, ha, hb]
theorem kv_set_other {rows : List (List Int)} {a b a' b' : Nat} {r : List Int} {x : Int} (hr : rows[a]? = some r) (hne : ¬ (a' = a ∧ b' = b)) : kv (rows.set a (r.set b x)) a' b' = kv rows a' b' := by
  have ha := (List.getElem?_eq_some_iff.1 hr).1
  by_cases e : a' = a
  · subst e
    have eb : b ≠ b' := fun h => hne ⟨rfl, h.symm⟩
    obtain ⟨_, rfl⟩ := List.getElem?_eq_some_iff.1 hr
    simp [kv, List.getD, ha, List.getElem?_set_ne eb]
  · simp [kv, List.getD, List.getElem?_set_ne (fun h => e h.symm)]
/-- An entry is written: what is known of smaller pairs stays. -/
theorem Kn.put {L : Look} {z : Nat} {rows : List (List Int)} {w w2 : World} {a b : Nat} {r : List Int} {x : Int} (h : Kn L z rows w) (hz : z ≤ L.sz a b) (hr : rows[a]? = some r) (hrf : RF w2 L.B (rows.set a (r.set b x)) L.A L.C L.vs L.lo L.hi) : Kn L z (rows.set a (r.set b x)) w2 := by
  refine ⟨hrf, by rw [List.length_set]; exact h.len, fun i q hq => ?_, fun a' b' ha' hb' hs => ?_⟩
  · by_cases e : i = a
    · subst e
      rw [List.getElem?_set_self (List.getElem?_eq_some_iff.1 hr).1] at hq
      obtain rfl := Option.some.inj hq
      rw [List.length_set]
      exact h.wide i r hr
    · rw [List.getElem?_set_ne (fun h => e h.symm)] at hq
      exact h.wide i q hq
  · rw [kv_set_other hr (fun hh => by obtain ⟨rfl, rfl⟩ := hh; omega)]
    exact h.say a' b' ha' hb' hs
end Go.Proofs.YtiinmlagcbjloaaGreat
