/- Several texts in one: Mix3, ZB, SU, SUo. -/
import Derived.Test.YtpfkhgiiojikbaaKUnify6
import Derived.Test.YtpfkhgiiojikbaaKThen13
import Derived.Test.YtpfkhgiiojikbaaKUnify4
import Derived.Test.YtpfkhgiiojikbaaKThen14
import Derived.Test.YtpfkhgiiojikbaaKUnify5

/-! Mix3: Regions that draw their order, walked order by order; what only looks is taken first. No condition. -/
namespace Go.Proofs.Ytpfkhgiiojikbaa

section
variable {P : Program} {ops : Array Oper} {Q : Exit → Act → World → Prop} {S : World → Prop}

theorem wp_region_anyT {id : Nat} {a : Act} {w : World} (S : World → Prop) (hm : P.follows .mixedOrders = true) (h : wpAnyT P .any ops (QN Q) S [] ops.size (Array.replicate ops.size false) a w.drew) : (Code.region id ops true).wp P Q a w := by
  refine Code.wp_mono (Q := QN Q) (fun e a w h => by cases e <;> first | exact h | exact h.elim) ?_
  exact wp_region_any hm (wpAny_of_T (S := S) (late := []) _ _ _ _ h)

theorem anyT_look {fuel : Nat} {listed : Array Bool} {i : Nat} {a : Act} {w : World} {o : Oper} (ho : ops[i]? = some o) (hB : (Region.noSelect ops && (Region.ready .any ops listed).contains i && Region.free .any ops listed i) = true) (hS : S w)
    (h : ∀ K : Act → Prop, (∀ a', wpAnyT P .any ops (QN Q) S [] fuel (listed.setIfInBounds i true) a' w → K a') → if Region.wanted o (yielded ops a.tmps) = true then ∃ v, (∀ w, S w → (execOp a.eval o).run P w = .ok (.value v) w) ∧ K (a.put o.dst v) else K (a.put o.dst undef)) :
    wpAnyT P .any ops (QN Q) S [] (fuel + 1) listed a w := by
  simp only [Bool.and_eq_true] at hB
  obtain ⟨⟨h1, h2⟩, h3⟩ := hB
  have := h (fun a' => wpAnyT P .any ops (QN Q) S [] fuel (listed.setIfInBounds i true) a' w) (fun _ h => h)
  split at this
  · rename_i hw
    obtain ⟨v, h4, h5⟩ := this
    exact wpAnyT_first ho (Region.noSelect_spec h1) (fun c a w h => h.elim) (fun j hj => by cases hj) fuel listed a w (Region.free_spec ho h3) (by simpa using h2) (.inl ⟨hw, h4⟩) hS (fun j hj => by cases hj) h5
  · rename_i hw
    exact wpAnyT_first (v := undef) ho (Region.noSelect_spec h1) (fun c a w h => h.elim) (fun j hj => by cases hj) fuel listed a w (Region.free_spec ho h3) (by simpa using h2) (.inr ⟨by simpa using hw, rfl⟩) hS (fun j hj => by cases hj) this

theorem anyT_op {fuel : Nat} {listed : Array Bool} {i : Nat} {a : Act} {w : World} {o : Oper} (ho : ops[i]? = some o)
    (h : ∀ K : Act → World → Prop, (∀ a' w', S w' → wpAnyT P .any ops Q S [] fuel (listed.setIfInBounds i true) a' w' → K a' w') → if Region.wanted o (yielded ops a.tmps) = true then o.wp P a w K Q else K (a.put o.dst undef) w) :
    wpOp P ops Q i (fun a' w' => ((∃ j ∈ ([] : List Nat), (listed.setIfInBounds i true).getD j false = true) ∨ S w') ∧ wpAnyT P .any ops Q S [] fuel (listed.setIfInBounds i true) a' w') a w := by
  have := h (fun a' w' => ((∃ j ∈ ([] : List Nat), (listed.setIfInBounds i true).getD j false = true) ∨ S w') ∧ wpAnyT P .any ops Q S [] fuel (listed.setIfInBounds i true) a' w') (fun _ _ h1 h2 => ⟨.inr h1, h2⟩)
  unfold wpOp
  simp only [ho]
  split at this
  · rename_i hw; rw [if_pos hw]; exact .inl this
  · rename_i hw; rw [if_neg hw]; exact this

/-- One operation may come up. -/
theorem anyT_one {fuel : Nat} {listed : Array Bool} {i : Nat} {a : Act} {w : World} {o : Oper} (hB : Region.ready .any ops listed = [i]) (ho : ops[i]? = some o)
    (h : ∀ K : Act → World → Prop, (∀ a' w', S w' → wpAnyT P .any ops (QN Q) S [] fuel (listed.setIfInBounds i true) a' w' → K a' w') → if Region.wanted o (yielded ops a.tmps) = true then o.wp P a w K (QN Q) else K (a.put o.dst undef) w) :
    wpAnyT P .any ops (QN Q) S [] (fuel + 1) listed a w := by
  refine ⟨fun h0 => (by rw [hB] at h0; cases h0), fun k hk => ?_⟩
  rw [hB] at hk
  simp only [List.mem_singleton] at hk
  subst hk
  exact anyT_op ho h
/-- One of two may come up. -/
theorem anyT_two {fuel : Nat} {listed : Array Bool} {i j : Nat} {a : Act} {w : World} {o o' : Oper} (hB : Region.ready .any ops listed = [i, j]) (ho : ops[i]? = some o) (ho' : ops[j]? = some o')
    (h : ∀ K : Act → World → Prop, (∀ a' w', S w' → wpAnyT P .any ops (QN Q) S [] fuel (listed.setIfInBounds i true) a' w' → K a' w') → if Region.wanted o (yielded ops a.tmps) = true then o.wp P a w K (QN Q) else K (a.put o.dst undef) w)
    (h' : ∀ K : Act → World → Prop, (∀ a' w', S w' → wpAnyT P .any ops (QN Q) S [] fuel (listed.setIfInBounds j true) a' w' → K a' w') → if Region.wanted o' (yielded ops a.tmps) = true then o'.wp P a w K (QN Q) else K (a.put o'.dst undef) w) :
    wpAnyT P .any ops (QN Q) S [] (fuel + 1) listed a w := by
  refine ⟨fun h0 => (by rw [hB] at h0; cases h0), fun k hk => ?_⟩
  rw [hB] at hk
  simp only [List.mem_cons, List.not_mem_nil, or_false] at hk
  rcases hk with rfl | rfl
  · exact anyT_op ho h
  · exact anyT_op ho' h'
theorem anyT_done {listed : Array Bool} {a : Act} {w : World} (hB : Region.ready .any ops listed = []) (h : Q .normal a w) : wpAnyT P .any ops (QN Q) S [] 0 listed a w := ⟨hB, h⟩
end

/-- Cells that a store elsewhere leaves. -/
theorem seen_set {l : List (Addr × Value)} {w : World} (h : ∀ p, p ∈ l → w.cell? p.1 = some p.2) {n : Nat} (hn : ∀ p, p ∈ l → p.1.block ≠ n) (i : Nat) (x : Value) : ∀ p, p ∈ l → (w.setCell ⟨n, i, none⟩ x).cell? p.1 = some p.2 := fun p hp => by
  rw [World.cell?_setCell_other _ _ _ _ (by intro e; exact hn p hp (congrArg Addr.block e).symm)]
  exact h p hp
end Go.Proofs.Ytpfkhgiiojikbaa

/-! ZB: A fresh box of a term, and what is stored into it. Plain lemmas. -/
namespace Go.Proofs.Ytpfkhgiiojikbaa
open Go.RowKit Go.Deep

/-- A fresh box. -/
structure Zb (b : Nat) (wn : World) : Prop where
  lt : b < wn.heap.size
  z0 : wn.cell? ⟨b, 0, none⟩ = some (.int .i64 0)
  z1 : wn.cell? ⟨b, 1, none⟩ = some (.int .i64 0)
  z2 : wn.cell? ⟨b, 2, none⟩ = some (.slice none 0 0)
  f : ∀ o, wn.frozen? ⟨b, o, none⟩ = false
theorem zb_new (X : World) : Zb X.heap.size (X.alloc (.cells #[.int .i64 0, .int .i64 0, .slice none 0 0] 28)) := by
  refine ⟨by simp, ?_, ?_, ?_, fun o => ?_⟩
  iterate 3
    rw [World.cell?_alloc_at _ _ _ _ rfl]; rfl
  rw [World.frozen?_alloc_at _ _ _ _ rfl]
theorem Zb.low {b : Nat} {wn wm : World} (h : Zb b wn) (hb : Below wn.heap.size wn wm) : Zb b wm :=
  ⟨Nat.lt_of_lt_of_le h.lt hb.size, cell_low hb h.z0, cell_low hb h.z1, cell_low hb h.z2, fun o => (hb.frozen h.lt).trans (h.f o)⟩
theorem box_set {b : Nat} {wn : World} (h : Zb b wn) (x y z : Value) : (((wn.setCell ⟨b, 0, none⟩ x).setCell ⟨b, 1, none⟩ y).setCell ⟨b, 2, none⟩ z).cell? ⟨b, 0, none⟩ = some x ∧ (((wn.setCell ⟨b, 0, none⟩ x).setCell ⟨b, 1, none⟩ y).setCell ⟨b, 2, none⟩ z).cell? ⟨b, 1, none⟩ = some y ∧ (((wn.setCell ⟨b, 0, none⟩ x).setCell ⟨b, 1, none⟩ y).setCell ⟨b, 2, none⟩ z).cell? ⟨b, 2, none⟩ = some z := by
  have d01 : (⟨b, 0, none⟩ : Addr) ≠ ⟨b, 1, none⟩ := by intro e; have := congrArg Addr.off e; simp at this
  have d02 : (⟨b, 0, none⟩ : Addr) ≠ ⟨b, 2, none⟩ := by intro e; have := congrArg Addr.off e; simp at this
  have d12 : (⟨b, 1, none⟩ : Addr) ≠ ⟨b, 2, none⟩ := by intro e; have := congrArg Addr.off e; simp at this
  refine ⟨?_, ?_, ?_⟩
  · rw [World.cell?_setCell_other _ _ _ _ d02.symm, World.cell?_setCell_other _ _ _ _ d01.symm]
    exact World.cell?_setCell_same _ _ _ h.z0
  · rw [World.cell?_setCell_other _ _ _ _ d12.symm]
    refine World.cell?_setCell_same _ _ _ (?_ : _ = some (.int .i64 0))
    rw [World.cell?_setCell_other _ _ _ _ d01]
    exact h.z1
  · refine World.cell?_setCell_same _ _ _ (?_ : _ = some (.slice none 0 0))
    rw [World.cell?_setCell_other _ _ _ _ d12, World.cell?_setCell_other _ _ _ _ d02]
    exact h.z2
theorem Sl.set3 {wn : World} {lo hi b : Nat} {a : Option Addr} {k : Fo} (h : Sl wn lo hi a k) (hb : b < lo ∨ hi ≤ b) (x y z : Value) : Sl (((wn.setCell ⟨b, 0, none⟩ x).setCell ⟨b, 1, none⟩ y).setCell ⟨b, 2, none⟩ z) lo hi a k := by
  have h0 : Same lo hi wn wn := fun _ _ _ => rfl
  exact h.same (((h0.setCell hb _).setCell hb _).setCell hb _)
/-- What is stored into a fresh box stands there; the rest is as it was. -/
theorem zb_fin {wr wz : World} {b lo hi : Nat} {s v : Int} {a : Option Addr} {c : Nat} {k : Fo} (hz : Zb b wz) (hb : Below wr.heap.size wr wz) (hlo : wr.heap.size ≤ b) (hl : Sl wz lo hi a k) (hh : hi ≤ wz.heap.size) (hd : b < lo ∨ hi ≤ b) :
    Below wr.heap.size wr (((wz.setCell ⟨b, 0, none⟩ (.int .i64 s)).setCell ⟨b, 1, none⟩ (.int .i64 v)).setCell ⟨b, 2, none⟩ (.slice a (flen k) c)) ∧ Tb b s v a c k (((wz.setCell ⟨b, 0, none⟩ (.int .i64 s)).setCell ⟨b, 1, none⟩ (.int .i64 v)).setCell ⟨b, 2, none⟩ (.slice a (flen k) c)) := by
  obtain ⟨h0, h1, h2⟩ := box_set hz (.int .i64 s) (.int .i64 v) (.slice a (flen k) c)
  exact ⟨((hb.setCell hlo _).setCell hlo _).setCell hlo _, h0, h1, h2, (hl.set3 hd _ _ _).mono (Nat.zero_le _) (by simpa using hh)⟩
end Go.Proofs.Ytpfkhgiiojikbaa

/-! SU: The specification's l2Unify. -/
namespace Go.Proofs.Ytpfkhgiiojikbaa
open Go.RowKit Go.Deep
attribute [local go_sem ↓] Go.wp_at_zero Go.wp_at_succ

/-- A box that may be written. -/
structure Gb (b : Nat) (x y z : Value) (wn : World) : Prop where
  lt : b < wn.heap.size
  c0 : wn.cell? ⟨b, 0, none⟩ = some x
  c1 : wn.cell? ⟨b, 1, none⟩ = some y
  c2 : wn.cell? ⟨b, 2, none⟩ = some z
  f : ∀ o, wn.frozen? ⟨b, o, none⟩ = false
theorem Gb.low {b : Nat} {x y z : Value} {wn wm : World} (h : Gb b x y z wn) (hb : Below wn.heap.size wn wm) : Gb b x y z wm :=
  ⟨Nat.lt_of_lt_of_le h.lt hb.size, cell_low hb h.c0, cell_low hb h.c1, cell_low hb h.c2, fun o => (hb.frozen h.lt).trans (h.f o)⟩
theorem Gb.new (w : World) (x y z : Value) (T : TypeId) : Gb w.heap.size x y z (w.alloc (.cells #[x, y, z] T)) := by
  refine ⟨by simp, ?_, ?_, ?_, fun o => ?_⟩
  iterate 3
    rw [World.cell?_alloc_at _ _ _ _ rfl]; rfl
  rw [World.frozen?_alloc_at _ _ _ _ rfl]
def set3 (w : World) (b : Nat) (x y z : Value) : World := ((w.setCell ⟨b, 0, none⟩ x).setCell ⟨b, 1, none⟩ y).setCell ⟨b, 2, none⟩ z
theorem set3_size (w : World) (b : Nat) (x y z : Value) : (set3 w b x y z).heap.size = w.heap.size := by simp [set3]
theorem set3_same {w : World} {lo hi b : Nat} (hb : b < lo ∨ hi ≤ b) (x y z : Value) : Same lo hi w (set3 w b x y z) := by
  have h0 : Same lo hi w w := fun _ _ _ => rfl
  exact ((h0.setCell hb _).setCell hb _).setCell hb _
theorem set3_low {w0 w : World} {n b : Nat} (h : Below n w0 w) (hb : n ≤ b) (x y z : Value) : Below n w0 (set3 w b x y z) := ((h.setCell hb _).setCell hb _).setCell hb _
theorem Gb.set {b : Nat} {x y z : Value} {wn : World} (h : Gb b x y z wn) (x' y' z' : Value) : Gb b x' y' z' (set3 wn b x' y' z') := by
  have d01 : (⟨b, 0, none⟩ : Addr) ≠ ⟨b, 1, none⟩ := by intro e; have := congrArg Addr.off e; simp at this
  have d02 : (⟨b, 0, none⟩ : Addr) ≠ ⟨b, 2, none⟩ := by intro e; have := congrArg Addr.off e; simp at this
  have d12 : (⟨b, 1, none⟩ : Addr) ≠ ⟨b, 2, none⟩ := by intro e; have := congrArg Addr.off e; simp at this
  unfold set3
  refine ⟨by simpa using h.lt, ?_, ?_, ?_, fun o => ?_⟩
  · rw [World.cell?_setCell_other _ _ _ _ d02.symm, World.cell?_setCell_other _ _ _ _ d01.symm]
    exact World.cell?_setCell_same _ _ _ h.c0
  · rw [World.cell?_setCell_other _ _ _ _ d12.symm]
    refine World.cell?_setCell_same _ _ _ (?_ : _ = some y)
    rw [World.cell?_setCell_other _ _ _ _ d01]
    exact h.c1
  · refine World.cell?_setCell_same _ _ _ (?_ : _ = some z)
    rw [World.cell?_setCell_other _ _ _ _ d12, World.cell?_setCell_other _ _ _ _ d02]
    exact h.c2
  · rw [World.frozen?_setCell, World.frozen?_setCell, World.frozen?_setCell]; exact h.f o
theorem Gb.other {b b' : Nat} {x y z : Value} {wn : World} (h : Gb b x y z wn) (hb : b ≠ b') (x' y' z' : Value) : Gb b x y z (set3 wn b' x' y' z') := by
  have hs : Same b (b + 1) wn (set3 wn b' x' y' z') := set3_same (by omega) _ _ _
  refine ⟨by rw [set3_size]; exact h.lt, by rw [hs.cell (Nat.le_refl _) (Nat.lt_succ_self _)]; exact h.c0, by rw [hs.cell (Nat.le_refl _) (Nat.lt_succ_self _)]; exact h.c1, by rw [hs.cell (Nat.le_refl _) (Nat.lt_succ_self _)]; exact h.c2, fun o => ?_⟩
  unfold set3
  rw [World.frozen?_setCell, World.frozen?_setCell, World.frozen?_setCell]; exact h.f o

set_option maxRecDepth 100000 in
set_option maxHeartbeats 4000000 in
theorem l2Unify_any (n : Nat) (hn600 : n ≤ 600) : ∀ (bs : List Bd) (A : Option Addr) (C : Nat) (s v : Int) (a : Option Addr) (c : Nat) (k : Fo) (s' v' : Int) (a' : Option Addr) (c' : Nat) (k' : Fo) (w : World), BSl w 0 w.heap.size A bs → Wb 64 bs → Sl w 0 w.heap.size a k → Sl w 0 w.heap.size a' k' → okT (s, v, k) → okT (s', v', k') → Un 64 n bs (s, v, k) → Un 64 n bs (s', v', k') →
    Calls Try.prog 61 #[.slice A bs.length C, .agg #[.int .i64 s, .int .i64 v, .slice a (flen k) c], .agg #[.int .i64 s', .int .i64 v', .slice a' (flen k') c']] w (LbPost (unT 64 n bs (s, v, k) (s', v', k')) w) := by
  induction n with
  | zero =>
    intro bs A C s v a c k s' v' a' c' k' w _ hw _ _ _ _ hu _
    have := hu.now hw
    simp only [sz] at this
    omega
  | succ n ih =>
    intro bs A C s v a c k s' v' a' c' k' w hb hw hl hl' ho ho' hu hu'
    have IH := Lib.hid (ih (by omega))
    have hz1 := hu.self hw ho
    have hz2 := hu'.self hw ho'
    have hz3 := hu.now hw
    have hz4 := hu'.now hw
    have HOA := Lib.hid (hw.okA ho)
    have HOB := Lib.hid (hw.okA ho')
    simp only [sz] at hz1 hz2
    have hlen := hw.len
    have HBZ : Hid (∀ x t, sv bs x = some t → fsz t.2.2 ≤ 1000000) := fun x t ht => by have := hw.small x t ht; simp only [sz] at this; omega
    have hbx : Below w.heap.size w ((w.alloc (.cells #[.int .i64 s, .int .i64 v, .slice a (flen k) c] 28)).alloc (.cells #[.int .i64 s', .int .i64 v', .slice a' (flen k') c'] 28)) := ((Below.refl _ _).alloc (Nat.le_refl _) _).alloc (by simp) _
    have HBw := Lib.hid hb
    have HLw' := Lib.hid hl'
    have HB0 := Lib.hid (hb.next hbx)
    have HL0 := Lib.hid (hl.next hbx)
    have HBX := Lib.hid hbx
    have HG1 : Hid (Gb w.heap.size (.int .i64 s) (.int .i64 v) (.slice a (flen k) c) ((w.alloc (.cells #[.int .i64 s, .int .i64 v, .slice a (flen k) c] 28)).alloc (.cells #[.int .i64 s', .int .i64 v', .slice a' (flen k') c'] 28))) := (Gb.new w _ _ _ _).low (box_low _ _)
    have HG2 : Hid (Gb (w.heap.size + 1) (.int .i64 s') (.int .i64 v') (.slice a' (flen k') c') ((w.alloc (.cells #[.int .i64 s, .int .i64 v, .slice a (flen k) c] 28)).alloc (.cells #[.int .i64 s', .int .i64 v', .slice a' (flen k') c'] 28))) := by
      rw [Hid]
      have := Gb.new (w.alloc (.cells #[.int .i64 s, .int .i64 v, .slice a (flen k) c] 28)) (.int .i64 s') (.int .i64 v') (.slice a' (flen k') c') 28
      simpa using this
    have hs0 : ((w.alloc (.cells #[.int .i64 s, .int .i64 v, .slice a (flen k) c] 28)).alloc (.cells #[.int .i64 s', .int .i64 v', .slice a' (flen k') c'] 28)).heap.size = w.heap.size + 2 := by simp
    have HO1 := Lib.hid ho.1
    have HO2 := Lib.hid ho.2
    have HO1' := Lib.hid ho'.1
    have HO2' := Lib.hid ho'.2
    dsimp only at HO1 HO2 HO1' HO2'
    have HW := Lib.hid hw
    have HFA := Lib.hid (hw.free_ap ho)
    have HFB := Lib.hid (hw.free_ap ho')
    have HUK : Hid (∀ (b1 : List Bd), Wb 64 b1 → Le bs b1 → (ap (sv bs) (s, v, k)).1 ≠ 0 → ∀ (j x y : Nat) (s1 v1 : Int) (k1 r : Fo), fdrop j (ap (sv bs) (s, v, k)).2.2 = .node x y (s1, v1) k1 r → Un 64 n b1 (s1, v1, k1)) := fun b1 h1 h2 h3 j x y s1 v1 k1 r hd => hu.kid hw h2 ho h3 hd
    have HUK' : Hid (∀ (b1 : List Bd), Wb 64 b1 → Le bs b1 → (ap (sv bs) (s', v', k')).1 ≠ 0 → ∀ (j x y : Nat) (s1 v1 : Int) (k1 r : Fo), fdrop j (ap (sv bs) (s', v', k')).2.2 = .node x y (s1, v1) k1 r → Un 64 n b1 (s1, v1, k1)) := fun b1 h1 h2 h3 j x y s1 v1 k1 r hd => hu'.kid hw h2 ho' h3 hd
    have HR : Hid (unT 64 (n + 1) bs (s, v, k) (s', v', k') = _) := unT_succ 64 n bs (s, v, k) (s', v', k')
    have HEA : Hid (tsub (sv bs) s v k = ap (sv bs) (s, v, k)) := rfl
    have HEB : Hid (tsub (sv bs) s' v' k' = ap (sv bs) (s', v', k')) := rfl
    clear hb hw hl hl' ho ho' hu hu' ih hbx
    generalize unT 64 (n + 1) bs (s, v, k) (s', v', k') = R at *
    generalize ap (sv bs) (s, v, k) = ta at *
    generalize ap (sv bs) (s', v', k') = tb at *
    obtain ⟨sa, va, ka⟩ := ta
    obtain ⟨sb, vb, kb⟩ := tb
    simp only [sz] at hz3 hz4
    dsimp only at HR HUK HUK'
    go_enter Try.func61, Try.ntmps61
    generalize hw0 : ((w.alloc (.cells #[.int .i64 s, .int .i64 v, .slice a (flen k) c] 28)).alloc (.cells #[.int .i64 s', .int .i64 v', .slice a' (flen k') c'] 28)) = w0 at *
    have q0 := HG1.out.c0
    have q1 := HG1.out.c1
    have q2 := HG1.out.c2
    go_wp2_with fail
    clear hw0
    with_reducible refine (l2Put_any bs A C (by omega) HBZ.out (fsz k) s v a c k w0 HB0.out HL0.out HO1.out HO2.out (Nat.le_refl _) (by omega)).mono ?_
    rw [HEA.out]
    dsimp only
    rintro e w1 ⟨a1, c1, rfl, hb1, ho1⟩
    have hs1 := hb1.size
    have HSA1 := Lib.hid ho1.sl
    have HGa := Lib.hid (HG1.out.low hb1)
    have HGb := Lib.hid (HG2.out.low hb1)
    have HW1 := Lib.hid (below_next HBX.out hb1)
    clear hb1 ho1 q0 q1 q2 HB0 HL0 HG1 HG2 HBX HEA
    have z0 := HGa.out.c0
    have z1 := HGa.out.c1
    have z2 := HGa.out.c2
    have f0 := HGa.out.f 0
    have f1 := HGa.out.f 1
    have f2 := HGa.out.f 2
    have y0 := HGb.out.c0
    have y1 := HGb.out.c1
    have y2 := HGb.out.c2
    have HWx : Hid (Below w.heap.size w (set3 w1 w.heap.size (.int .i64 sa) (.int .i64 va) (.slice a1 (flen ka) c1))) := set3_low HW1.out (Nat.le_refl _) _ _ _
    have HGx : Hid (Gb w.heap.size (.int .i64 sa) (.int .i64 va) (.slice a1 (flen ka) c1) (set3 w1 w.heap.size (.int .i64 sa) (.int .i64 va) (.slice a1 (flen ka) c1))) := HGa.out.set _ _ _
    have HGy : Hid (Gb (w.heap.size + 1) (.int .i64 s') (.int .i64 v') (.slice a' (flen k') c') (set3 w1 w.heap.size (.int .i64 sa) (.int .i64 va) (.slice a1 (flen ka) c1))) := HGb.out.other (by omega) _ _ _
    have hszx := set3_size w1 w.heap.size (.int .i64 sa) (.int .i64 va) (.slice a1 (flen ka) c1)
    have HSAx : Hid (Sl (set3 w1 w.heap.size (.int .i64 sa) (.int .i64 va) (.slice a1 (flen ka) c1)) w0.heap.size w1.heap.size a1 ka) := HSA1.out.same (set3_same (.inl (by omega)) _ _ _)
    clear HSA1 HGa HGb HW1
    generalize hwx : set3 w1 w.heap.size (.int .i64 sa) (.int .i64 va) (.slice a1 (flen ka) c1) = wx at *
    have x0 := HGy.out.c0
    have x1 := HGy.out.c1
    have x2 := HGy.out.c2
    unfold set3 at hwx
    go_wp2_with fail
    clear hwx z0 z1 z2 f0 f1 f2 y0 y1 y2
    have HBx := Lib.hid (HBw.out.next HWx.out)
    have HLx := Lib.hid (HLw'.out.next HWx.out)
    with_reducible refine (l2Put_any bs A C (by omega) HBZ.out (fsz k') s' v' a' c' k' wx HBx.out HLx.out HO1'.out HO2'.out (Nat.le_refl _) (by omega)).mono ?_
    rw [HEB.out]
    dsimp only
    rintro e w2 ⟨a2, c2, rfl, hb2, ho2⟩
    have hs2 := hb2.size
    have HSB2 := Lib.hid ho2.sl
    have HSA2 : Hid (Sl w2 w0.heap.size w1.heap.size a1 ka) := HSAx.out.same fun q _ hq => hb2.block q (by omega)
    have HGa := Lib.hid (HGx.out.low hb2)
    have HGb := Lib.hid (HGy.out.low hb2)
    have HW2 := Lib.hid (below_next HWx.out hb2)
    clear hb2 ho2 x0 x1 x2 HBx HLx HGx HGy HSAx HEB HWx HBZ HLw' HO1 HO2 HO1' HO2' hz1 hz2
    have z0 := HGa.out.c0
    have z1 := HGa.out.c1
    have z2 := HGa.out.c2
    have y0 := HGb.out.c0
    have y1 := HGb.out.c1
    have y2 := HGb.out.c2
    have f0 := HGb.out.f 0
    have f1 := HGb.out.f 1
    have f2 := HGb.out.f 2
    have HWy : Hid (Below w.heap.size w (set3 w2 (w.heap.size + 1) (.int .i64 sb) (.int .i64 vb) (.slice a2 (flen kb) c2))) := set3_low HW2.out (by omega) _ _ _
    have HGy : Hid (Gb (w.heap.size + 1) (.int .i64 sb) (.int .i64 vb) (.slice a2 (flen kb) c2) (set3 w2 (w.heap.size + 1) (.int .i64 sb) (.int .i64 vb) (.slice a2 (flen kb) c2))) := HGb.out.set _ _ _
    have HGx : Hid (Gb w.heap.size (.int .i64 sa) (.int .i64 va) (.slice a1 (flen ka) c1) (set3 w2 (w.heap.size + 1) (.int .i64 sb) (.int .i64 vb) (.slice a2 (flen kb) c2))) := HGa.out.other (by omega) _ _ _
    have hszy := set3_size w2 (w.heap.size + 1) (.int .i64 sb) (.int .i64 vb) (.slice a2 (flen kb) c2)
    have HSA : Hid (Sl (set3 w2 (w.heap.size + 1) (.int .i64 sb) (.int .i64 vb) (.slice a2 (flen kb) c2)) 0 (set3 w2 (w.heap.size + 1) (.int .i64 sb) (.int .i64 vb) (.slice a2 (flen kb) c2)).heap.size a1 ka) := (HSA2.out.same (set3_same (.inl (by omega)) _ _ _)).mono (Nat.zero_le _) (by omega)
    have HSB : Hid (Sl (set3 w2 (w.heap.size + 1) (.int .i64 sb) (.int .i64 vb) (.slice a2 (flen kb) c2)) 0 (set3 w2 (w.heap.size + 1) (.int .i64 sb) (.int .i64 vb) (.slice a2 (flen kb) c2)).heap.size a2 kb) := (HSB2.out.same (set3_same (.inl (by omega)) _ _ _)).mono (Nat.zero_le _) (by omega)
    clear HSA2 HSB2 HGa HGb HW2
    generalize hwy : set3 w2 (w.heap.size + 1) (.int .i64 sb) (.int .i64 vb) (.slice a2 (flen kb) c2) = wy at *
    have x0 := HGx.out.c0
    have x1 := HGx.out.c1
    have x2 := HGx.out.c2
    have v0 := HGy.out.c0
    have v1 := HGy.out.c1
    have v2 := HGy.out.c2
    unfold set3 at hwy
    go_wp2_with fail
    clear hwy z0 z1 z2 f0 f1 f2 y0 y1 y2 hszx hszy hs1 hs2 hs0
    have HB := Lib.hid (HBw.out.next HWy.out)
    clear HBw
    with_reducible refine (l1Same_any (fsz ka) sa va a1 c1 ka sb vb a2 c2 kb wy HSA.out HSB.out (Nat.le_refl _) (by omega)).mono ?_
    rintro e w3 ⟨rfl, hb3⟩
    have HB3 := Lib.hid (HB.out.next hb3)
    have HSA3 := Lib.hid (HSA.out.next hb3)
    have HSB3 := Lib.hid (HSB.out.next hb3)
    have HG1 := Lib.hid (HGx.out.low hb3)
    have HG2 := Lib.hid (HGy.out.low hb3)
    have HW3 := Lib.hid (below_next HWy.out hb3)
    clear hb3 HB HSA HSB HGx HGy HWy x0 x1 x2 v0 v1 v2
    have x0 := HG1.out.c0
    have x1 := HG1.out.c1
    have x2 := HG1.out.c2
    have y0 := HG2.out.c0
    have y1 := HG2.out.c1
    have y2 := HG2.out.c2
    cases hq : teq sa va ka sb vb kb with
    | true =>
      have HRS : Hid (R = some bs) := by rw [Hid, HR.out, if_pos (show tq (sa, va, ka) (sb, vb, kb) = true from hq)]
      clear hq
      go_wp2_with fail
      refine bodyPost_ret (v := .tuple #[.slice A bs.length C, .int .i64 0]) ?_ rfl ⟨A, C, bs, 0, rfl, HW3.out, HB3.out, .inl ⟨rfl, HRS.out⟩⟩
      simp [results, Try.results61, go_sem]
    | false =>
      have HR2 : Hid (R = if sa = 0 then unB 64 bs va (sb, vb, kb) else if sb = 0 then unB 64 bs vb (sa, va, ka) else if sa = sb then unF (unT 64 n) bs ka kb else none) := by
        rw [Hid, HR.out, if_neg (show ¬ tq (sa, va, ka) (sb, vb, kb) = true by rw [show tq (sa, va, ka) (sb, vb, kb) = false from hq]; simp)]
      clear hq HR
      by_cases hsa : sa = 0
      · have HRS : Hid (R = unB 64 bs va (sb, vb, kb)) := by rw [Hid, HR2.out]; exact if_pos hsa
        have hse : (sa == 0) = true := by simpa using hsa
        have HC := Lib.hid (l2Bind_any bs A C va sb vb a2 c2 kb w3 HB3.out HW.out HSB3.out HOB.out (by simp only [sz]; omega))
        clear HR2 hsa
        go_wp2_with fail
        with_reducible refine HC.out.mono ?_
        rintro e w4 ⟨A4, C4, l4, cd, rfl, hb4, hs4, hcase⟩
        have HP : Hid (LbPost R w (.returned (.tuple #[.slice A4 l4.length C4, .int .i64 cd])) w4) := ⟨A4, C4, l4, cd, rfl, below_next HW3.out hb4, hs4, by rw [HRS.out]; exact hcase⟩
        clear hb4 hs4 hcase HC
        go_wp2_with fail
        refine bodyPost_ret (v := .tuple #[.slice A4 l4.length C4, .int .i64 cd]) ?_ rfl HP.out
        simp [results, Try.results61, go_sem]
      have hse : (sa == 0) = false := by simpa using hsa
      have HR3 : Hid (R = if sb = 0 then unB 64 bs vb (sa, va, ka) else if sa = sb then unF (unT 64 n) bs ka kb else none) := by rw [Hid, HR2.out]; exact if_neg hsa
      have HNA := Lib.hid hsa
      clear HR2 hsa
      by_cases hsb : sb = 0
      · have HRS : Hid (R = unB 64 bs vb (sa, va, ka)) := by rw [Hid, HR3.out]; exact if_pos hsb
        have hse2 : (sb == 0) = true := by simpa using hsb
        have HC := Lib.hid (l2Bind_any bs A C vb sa va a1 c1 ka w3 HB3.out HW.out HSA3.out HOA.out (by simp only [sz]; omega))
        clear HR3 hsb
        go_wp2_with fail
        with_reducible refine HC.out.mono ?_
        rintro e w4 ⟨A4, C4, l4, cd, rfl, hb4, hs4, hcase⟩
        have HP : Hid (LbPost R w (.returned (.tuple #[.slice A4 l4.length C4, .int .i64 cd])) w4) := ⟨A4, C4, l4, cd, rfl, below_next HW3.out hb4, hs4, by rw [HRS.out]; exact hcase⟩
        clear hb4 hs4 hcase HC
        go_wp2_with fail
        refine bodyPost_ret (v := .tuple #[.slice A4 l4.length C4, .int .i64 cd]) ?_ rfl HP.out
        simp [results, Try.results61, go_sem]
      have hse2 : (sb == 0) = false := by simpa using hsb
      have HNB := Lib.hid hsb
      have HR4 : Hid (R = if sa = sb then unF (unT 64 n) bs ka kb else none) := by rw [Hid, HR3.out]; exact if_neg hsb
      clear HR3 hsb
      by_cases hss : sa = sb
      case neg =>
        have HRS : Hid (R = none) := by rw [Hid, HR4.out]; exact if_neg hss
        have hne : (sa != sb) = true := by simp [hss]
        clear HR4 hss
        go_wp2_with fail
        refine bodyPost_ret (v := .tuple #[.slice A bs.length C, .int .i64 1]) ?_ rfl ⟨A, C, bs, 1, rfl, HW3.out, HB3.out, .inr ⟨by omega, HRS.out⟩⟩
        simp [results, Try.results61, go_sem]
      have HRS : Hid (R = unF (unT 64 n) bs ka kb) := by rw [Hid, HR4.out]; exact if_pos hss
      have hne : (sa != sb) = false := by simp [hss]
      have HFL : Hid (flen ka = flen kb) := by
        have h1 := ((okN_iff _ _ _).1 (show okN sa va (flen ka) = true from HOA.out.1)).1
        have h2 := ((okN_iff _ _ _).1 (show okN sb vb (flen kb) = true from HOB.out.1)).1
        rw [hss] at h1
        show _ = _
        omega
      have HFA2 : Hid (fok ka = true) := (show okT (sa, va, ka) from HOA.out).2
      have HFB2 : Hid (fok kb = true) := (show okT (sb, vb, kb) from HOB.out).2
      have hkl := flen_le_sz ka
      clear HR4 hss
      go_wp2_with fail
      go_loopw [0, 8] (fun o i wr => ∃ (j : Nat) (b1 : List Bd) (A1 : Option Addr) (C1 : Nat), o = .slice A1 b1.length C1 ∧ i = .int .i64 j ∧ j ≤ flen ka ∧ Hid (unF (unT 64 n) bs ka kb = unF (unT 64 n) b1 (fdrop j ka) (fdrop j kb)) ∧ Hid (Wb 64 b1) ∧ Hid (Le bs b1) ∧ Hid (BSl wr 0 wr.heap.size A1 b1) ∧ Hid (Below w3.heap.size w3 wr)) (fun _ i _ => flen ka - (intOf i).toNat)
      case atStart => exact ⟨0, bs, A, C, rfl, rfl, Nat.zero_le _, rfl, HW, HW.out.le, HB3, Below.refl _ _⟩
      case round =>
        clear HB3 x0 x1 x2 y0 y1 y2
        obtain ⟨j, b1, A1, C1, rfl, rfl, hj, HF, HWB, HLE, HBS, HBL⟩ := hrel
        have X0 := cell_low HBL.out HG1.out.c2
        have Y0 := cell_low HBL.out HG2.out.c2
        by_cases hlt : j < flen ka
        · have hlt' : j < flen kb := by rw [← HFL.out]; exact hlt
          have hnr := HSA3.out.next HBL.out
          rcases hnr with rfl | ⟨b, o, rfl, hrow⟩
          · simp [flen] at hlt
          have hnr' := HSB3.out.next HBL.out
          rcases hnr' with rfl | ⟨b', o', rfl, hrow'⟩
          · simp [flen] at hlt'
          obtain ⟨s1, v1, k1, a3, c3, ⟨x, y, hd⟩, _, hbB, q0, q1, q2, hsl⟩ := row_at hrow hlt
          obtain ⟨s2, v2, k2, a4, c4, ⟨x2, y2, hd'⟩, _, hbB', q3, q4, q5, hsl2⟩ := row_at hrow' hlt'
          have hk1 := fok_kid HFA2.out hd
          have hk2 := fok_kid HFB2.out hd'
          have HST := Lib.hid (unF_step (f := unT 64 n) (bs := b1) hd hd')
          have hu1 := HUK.out b1 HWB.out HLE.out HNA.out j _ _ _ _ _ _ hd
          have hu2 := HUK'.out b1 HWB.out HLE.out HNB.out j _ _ _ _ _ _ hd'
          have HCALL : Hid (∀ u : After wr.heap.size wr, Calls Try.prog 61 #[.slice A1 b1.length C1, .agg #[.int .i64 s1, .int .i64 v1, .slice a3 (flen k1) c3], .agg #[.int .i64 s2, .int .i64 v2, .slice a4 (flen k2) c4]] u.world (LbPost (unT 64 n b1 (s1, v1, k1) (s2, v2, k2)) u.world)) := fun u =>
            IH.out b1 A1 C1 s1 v1 a3 c3 k1 s2 v2 a4 c4 k2 u.world (HBS.out.next u.below) HWB.out (hsl.next u.below) (hsl2.next u.below) ⟨hk1.1, hk1.2⟩ ⟨hk2.1, hk2.2⟩ hu1 hu2
          have HWN : Hid (∀ b2, unT 64 n b1 (s1, v1, k1) (s2, v2, k2) = some b2 → Wb 64 b2 ∧ Le b1 b2) := fun b2 h => unT_wb n b1 _ _ b2 HWB.out ⟨hk1.1, hk1.2⟩ ⟨hk2.1, hk2.2⟩ h
          have g1 : (0 : Int) ≤ (j : Int) := by omega
          have g2 : (j : Int) < (flen ka : Int) := by omega
          have g3 : (j : Int) < (flen kb : Int) := by omega
          clear hd hd' hk1 hk2 hrow hrow' hsl hsl2 hu1 hu2
          have hu0 : ∀ u : After wr.heap.size wr, u.world.cell? ⟨b, o + j * 3, none⟩ = some (.int .i64 s1) := fun u => cell_low u.below q0
          have hu1 : ∀ u : After wr.heap.size wr, u.world.cell? ⟨b, o + j * 3 + 1, none⟩ = some (.int .i64 v1) := fun u => cell_low u.below q1
          have hu2 : ∀ u : After wr.heap.size wr, u.world.cell? ⟨b, o + j * 3 + 2, none⟩ = some (.slice a3 (flen k1) c3) := fun u => cell_low u.below q2
          have hu3 : ∀ u : After wr.heap.size wr, u.world.cell? ⟨b', o' + j * 3, none⟩ = some (.int .i64 s2) := fun u => cell_low u.below q3
          have hu4 : ∀ u : After wr.heap.size wr, u.world.cell? ⟨b', o' + j * 3 + 1, none⟩ = some (.int .i64 v2) := fun u => cell_low u.below q4
          have hu5 : ∀ u : After wr.heap.size wr, u.world.cell? ⟨b', o' + j * 3 + 2, none⟩ = some (.slice a4 (flen k2) c4) := fun u => cell_low u.below q5
          have hu6 : ∀ u : After wr.heap.size wr, u.world.cell? ⟨w.heap.size, 2, none⟩ = some (.slice (some ⟨b, o, none⟩) (flen ka) c1) := fun u => cell_low u.below X0
          have hu7 : ∀ u : After wr.heap.size wr, u.world.cell? ⟨w.heap.size + 1, 2, none⟩ = some (.slice (some ⟨b', o', none⟩) (flen kb) c2) := fun u => cell_low u.below Y0
          go_wp2_with fail
          refine wp_region_mix (fun w' => ∃ u : After wr.heap.size wr, w' = u.world) [] [(0, 0), (1, 0), (2, 0), (3, 0), (4, 0), (5, 0), (6, 0), (7, 0), (8, 0), (9, 0), (10, 0), (11, 1), (12, 0), (13, 0), (14, 0), (15, 1), (16, 1)] (by kernel_rfl) (by kernel_rfl) ⟨⟨_, (Below.refl _ _).drew⟩, rfl⟩ ?_
          have HBD : Hid (Below wr.heap.size wr wr.drew) := (Below.refl _ _).drew
          generalize wr.drew = wd at *
          iterate 11
            refine mix_see rfl (fun K hK => ?_)
            go_simp
            refine hK _ ?_
            clear hK K
          clear hu0 hu1 hu2 hu3 hu4 hu5 hu6 hu7 q0 q1 q2 q3 q4 q5 X0 Y0
          refine mix_hold rfl (fun K hK => ?_)
          go_simp
          with_reducible refine (HCALL.out ⟨wd, HBD.out⟩).mono ?_
          rintro e w5 ⟨A2, C2, b2, cd, rfl, hb5, hs5, hcase⟩
          have HB5 := Lib.hid (below_next HBD.out hb5)
          have HS5 := Lib.hid hs5
          refine hK _ _ ⟨⟨_, HB5.out⟩, rfl⟩ ?_
          clear hK K hb5 hs5 HCALL
          iterate 3
            refine mix_see rfl (fun K hK => ?_)
            go_simp
            refine hK _ ?_
            clear hK K
          iterate 2
            refine mix_hold rfl (fun K hK => ?_)
            go_simp
            refine hK _ _ ⟨⟨_, HB5.out⟩, rfl⟩ ?_
            clear hK K
          refine mix_end ?_
          rcases hcase with ⟨rfl, ht⟩ | ⟨hcd, ht⟩
          · have HF2 : Hid (unF (unT 64 n) bs ka kb = unF (unT 64 n) b2 (fdrop (j + 1) ka) (fdrop (j + 1) kb)) := by rw [Hid, HF.out, HST.out, ht]; rfl
            have HWL := Lib.hid (HWN.out b2 ht)
            have HLE2 : Hid (Le bs b2) := HLE.out.trans HWL.out.2 HW.out
            have HBL2 := Lib.hid (below_next HBL.out HB5.out)
            clear ht
            go_wp2_with fail
            go_roundw
            case rel => exact ⟨j + 1, b2, A2, C2, rfl, by go_num, by omega, HF2, HWL.out.1, HLE2, HS5, HBL2⟩
            case measure => simp [intOf]; omega
          · have hgt : decide (cd > 0) = true := decide_eq_true hcd
            have HP : Hid (LbPost R w (.returned (.tuple #[.slice A1 b1.length C1, .int .i64 cd])) w5) :=
              ⟨A1, C1, b1, cd, rfl, below_next (below_next HW3.out HBL.out) HB5.out, HBS.out.next HB5.out, .inr ⟨hcd, by rw [HRS.out, HF.out, HST.out, ht]; rfl⟩⟩
            clear ht hcd
            go_wp2_with fail
            refine bodyPost_ret (v := .tuple #[.slice A1 b1.length C1, .int .i64 cd]) ?_ rfl HP.out
            simp [results, Try.results61, go_sem]
        · have HP : Hid (LbPost R w (.returned (.tuple #[.slice A1 b1.length C1, .int .i64 0])) wr) :=
            ⟨A1, C1, b1, 0, rfl, below_next HW3.out HBL.out, HBS.out, .inl ⟨rfl, by rw [HRS.out, HF.out, fdrop_all (by omega), fdrop_all (k := kb) (by have := HFL.out; omega)]; rfl⟩⟩
          go_wp2_with fail
          refine bodyPost_ret (v := .tuple #[.slice A1 b1.length C1, .int .i64 0]) ?_ rfl HP.out
          simp [results, Try.results61, go_sem]
end Go.Proofs.Ytpfkhgiiojikbaa

/-! SUo: The specification's UnifyOf. -/
namespace Go.Proofs.Ytpfkhgiiojikbaa
open Go.RowKit Go.Deep

theorem unT_okw {a b : T3} (ha : okT a) (hb : okT b) {out : List Bd} (h : unT 64 600 [] a b = some out) : okW (ap (sv out) a).1 (ap (sv out) a).2.1 (ap (sv out) a).2.2 16 = decide (sz (ap (sv out) a) ≤ 16) := by
  have ho := ((unT_wb _ _ _ _ _ (Wb.nil 64) ha hb h).1).okA ha
  rw [Bool.eq_iff_iff, decide_eq_true_eq]
  constructor
  · exact fun h => by have := (okW_iff _ _ _ _).1 h; simp only [sz]; omega
  · exact fun h => w_sz ho h

set_option maxRecDepth 100000 in
set_option maxHeartbeats 2000000 in
theorem sUnifyOf_any (s v : Int) (a : Option Addr) (c : Nat) (k : Fo) (s' v' : Int) (a' : Option Addr) (c' : Nat) (k' : Fo) (w : World) (hl : Sl w 0 w.heap.size a k) (hl' : Sl w 0 w.heap.size a' k') :
    Calls Try.prog 27 #[.agg #[.int .i64 s, .int .i64 v, .slice a (flen k) c], .agg #[.int .i64 s', .int .i64 v', .slice a' (flen k') c']] w (UfPost s v k s' v' k' w) := by
  have hb0 : Below w.heap.size w ((w.alloc (.cells #[.int .i64 s, .int .i64 v, .slice a (flen k) c] 28)).alloc (.cells #[.int .i64 s', .int .i64 v', .slice a' (flen k') c'] 28)) := ((Below.refl _ _).alloc (Nat.le_refl _) _).alloc (by simp) _
  have HL0 := Lib.hid (hl.next hb0)
  have HL0' := Lib.hid (hl'.next hb0)
  have HW0 := Lib.hid hb0
  have HB0 : Hid (Below (w.heap.size + 2) ((w.alloc (.cells #[.int .i64 s, .int .i64 v, .slice a (flen k) c] 28)).alloc (.cells #[.int .i64 s', .int .i64 v', .slice a' (flen k') c'] 28)) ((w.alloc (.cells #[.int .i64 s, .int .i64 v, .slice a (flen k) c] 28)).alloc (.cells #[.int .i64 s', .int .i64 v', .slice a' (flen k') c'] 28))) := Below.refl _ _
  have hsz : w.heap.size + 2 ≤ ((w.alloc (.cells #[.int .i64 s, .int .i64 v, .slice a (flen k) c] 28)).alloc (.cells #[.int .i64 s', .int .i64 v', .slice a' (flen k') c'] 28)).heap.size := by simp
  clear hb0 hl hl'
  go_enter Try.func27, Try.ntmps27
  go_wp2_with fail
  with_reducible refine (sTermOk_any s v a c k _ HL0.out).mono ?_
  rintro e w1 ⟨rfl, hb1⟩
  have hb1' := HB0.out.trans (hb1.mono hsz)
  obtain ⟨hr0, hr1, hr2, hr3, hr4, hr5⟩ := two_boxesM hb1'
  have HW1 := Lib.hid (below_next HW0.out hb1)
  have HL1 := Lib.hid (HL0.out.next hb1)
  have HL1' := Lib.hid (HL0'.out.next hb1)
  have HB1 := Lib.hid hb1'
  have hsz1 : w.heap.size + 2 ≤ w1.heap.size := Nat.le_trans hsz hb1.size
  clear hb1 hb1' HB0 hsz HL0 HL0' HW0
  by_cases hok : okW s v k 16 = true
  case neg =>
    have hf : okW s v k 16 = false := by simpa using hok
    have HP : Hid (UfPost s v k s' v' k' w (.returned (.tuple #[.slice (some ⟨w1.heap.size, 0, none⟩) 0 0, .bool false])) (w1.alloc (.cells #[] 75))) := uf_none (unR_bad fun h => hok h.1) (below_next HW1.out (box_low _ _))
    rw [hf]
    clear hok hf
    go_wp2_with fail
    refine bodyPost_ret (v := .tuple #[.slice (some ⟨w1.heap.size, 0, none⟩) 0 0, .bool false]) ?_ rfl HP.out
    simp [results, Try.results27, go_sem]
  rw [hok]
  go_wp2_with fail
  with_reducible refine (sTermOk_any s' v' a' c' k' _ HL1'.out).mono ?_
  rintro e w2 ⟨rfl, hb2⟩
  have HW2 := Lib.hid (below_next HW1.out hb2)
  have hb2' := HB1.out.trans (hb2.mono hsz1)
  have HL2 := Lib.hid (HL1.out.next hb2)
  have HL2' := Lib.hid (HL1'.out.next hb2)
  clear hr0 hr1 hr2 hr3 hr4 hr5 hb2 HL1 HL1' HB1
  by_cases hok' : okW s' v' k' 16 = true
  case neg =>
    have hf : okW s' v' k' 16 = false := by simpa using hok'
    have HP : Hid (UfPost s v k s' v' k' w (.returned (.tuple #[.slice (some ⟨w2.heap.size, 0, none⟩) 0 0, .bool false])) (w2.alloc (.cells #[] 75))) := uf_none (unR_bad fun h => hok' h.2) (below_next HW2.out (box_low _ _))
    rw [hf]
    clear hok hf hok' hb2'
    go_wp2_with fail
    refine bodyPost_ret (v := .tuple #[.slice (some ⟨w2.heap.size, 0, none⟩) 0 0, .bool false]) ?_ rfl HP.out
    simp [results, Try.results27, go_sem]
  have HOK := Lib.hid hok
  have HOK' := Lib.hid hok'
  have ha := okT_w hok
  have hb := okT_w hok'
  have HA1 := Lib.hid ha.1
  have HA2 := Lib.hid ha.2
  dsimp only at HA1 HA2
  have hbm : Below w2.heap.size w2 (w2.alloc (.cells #[] 75)) := (Below.refl _ _).alloc (Nat.le_refl _) _
  have hb3' := hb2'.trans (hbm.mono (show w.heap.size + 2 ≤ w2.heap.size by have := hb2'.size; simp at this; omega))
  obtain ⟨hr0, hr1, hr2, hr3, hr4, hr5⟩ := two_boxesM hb3'
  have HB3 := Lib.hid hb3'
  have HWM := Lib.hid (below_next HW2.out hbm)
  have hszm : w.heap.size + 2 ≤ (w2.alloc (.cells #[] 75)).heap.size := by have := hb3'.size; simp at this ⊢; omega
  have HLM := Lib.hid (HL2.out.next hbm)
  have HC : Hid (Calls Try.prog 61 #[.slice (some ⟨w2.heap.size, 0, none⟩) 0 0, .agg #[.int .i64 s, .int .i64 v, .slice a (flen k) c], .agg #[.int .i64 s', .int .i64 v', .slice a' (flen k') c']] (w2.alloc (.cells #[] 75)) (LbPost (unT 64 600 [] (s, v, k) (s', v', k')) (w2.alloc (.cells #[] 75)))) := l2Unify_any 600 (Nat.le_refl _) [] (some ⟨w2.heap.size, 0, none⟩) 0 s v a c k s' v' a' c' k' _ (.inl rfl) (Wb.nil 64) HLM.out (HL2'.out.next hbm) ha hb (Un.start (by omega) ha (sz_w hok)) (Un.start (by omega) hb (sz_w hok'))
  have HSP : Hid (∀ bs, uniR 16 (s, v, k) (s', v', k') = some bs ↔ unT 64 600 [] (s, v, k) (s', v', k') = some bs ∧ sok 16 bs = true ∧ sz (ap (sv bs) (s, v, k)) ≤ 16) := fun bs => uniR_spec ha hb
  have HOW : Hid (∀ out, unT 64 600 [] (s, v, k) (s', v', k') = some out → Wb 64 out ∧ okW (ap (sv out) (s, v, k)).1 (ap (sv out) (s, v, k)).2.1 (ap (sv out) (s, v, k)).2.2 16 = decide (sz (ap (sv out) (s, v, k)) ≤ 16)) := fun out h => ⟨(unT_wb _ _ _ _ _ (Wb.nil 64) ha hb h).1, unT_okw ha hb h⟩
  have hk16 := ((okW_iff _ _ _ _).1 hok).2.2
  rw [hok']
  clear hok hok' ha hb hbm hb2' hb3' HL2 HL2'
  go_wp2_with fail
  with_reducible refine HC.out.mono ?_
  rintro e w3 ⟨A, C, b1, cd, rfl, hb3, hs3, hcase⟩
  have HW3 := Lib.hid (below_next HWM.out hb3)
  have HS3 := Lib.hid hs3
  have HL3 := Lib.hid (HLM.out.next hb3)
  have HB4 := Lib.hid (HB3.out.trans (hb3.mono hszm))
  have hszw : w.heap.size + 2 ≤ w3.heap.size := Nat.le_trans hszm hb3.size
  clear hb3 hs3 hr0 hr1 hr2 hr3 hr4 hr5 HC HB3 HLM HWM
  rcases hcase with ⟨rfl, ht⟩ | ⟨hcd, ht⟩
  · have hwo := HOW.out b1 ht
    have hlen := hwo.1.len
    have HT := Lib.hid ht
    have HBZ : Hid (∀ x t, sv b1 x = some t → fsz t.2.2 ≤ 1000000) := fun x t ht => by have := hwo.1.small x t ht; simp only [sz] at this; omega
    have HOE := Lib.hid hwo.2
    clear ht hwo HOW
    go_wp2_with fail
    with_reducible refine (sSubstOk_any b1 A C _ HS3.out (by omega)).mono ?_
    rintro e w4 ⟨rfl, hb4⟩
    have HW4 := Lib.hid (below_next HW3.out hb4)
    have HS4 := Lib.hid (HS3.out.next hb4)
    have HL4 := Lib.hid (HL3.out.next hb4)
    obtain ⟨hr0, hr1, hr2, _, _, _⟩ := two_boxesM (HB4.out.trans (hb4.mono hszw))
    clear hb4 HS3 HL3
    by_cases hso : sok 16 b1 = true
    case neg =>
      have hf : sok 16 b1 = false := by simpa using hso
      have HP : Hid (UfPost s v k s' v' k' w (.returned (.tuple #[.slice (some ⟨w4.heap.size, 0, none⟩) 0 0, .bool false])) (w4.alloc (.cells #[] 75))) := uf_none (unR_none (by
        cases hu : uniR 16 (s, v, k) (s', v', k') with
        | none => rfl
        | some b2 =>
          obtain ⟨h1, h2, _⟩ := (HSP.out b2).1 hu
          rw [HT.out] at h1
          obtain rfl := Option.some.inj h1
          exact absurd h2 hso)) (below_next HW4.out (box_low _ _))
      rw [hf]
      clear hso hf
      go_wp2_with fail
      refine bodyPost_ret (v := .tuple #[.slice (some ⟨w4.heap.size, 0, none⟩) 0 0, .bool false]) ?_ rfl HP.out
      simp [results, Try.results27, go_sem]
    have HSO := Lib.hid hso
    rw [hso]
    clear hso
    have HEA : Hid (tsub (sv b1) s v k = ap (sv b1) (s, v, k)) := rfl
    have HUS : Hid (sz (ap (sv b1) (s, v, k)) ≤ 16 → unR s v k s' v' k' = (b1, true)) := fun hz => unR_some HOK.out HOK'.out ((HSP.out b1).2 ⟨HT.out, HSO.out, hz⟩)
    have HUN : Hid (¬ sz (ap (sv b1) (s, v, k)) ≤ 16 → unR s v k s' v' k' = ([], false)) := fun hz => unR_none (by
      cases hu : uniR 16 (s, v, k) (s', v', k') with
      | none => rfl
      | some b2 =>
        obtain ⟨h1, _, h3⟩ := (HSP.out b2).1 hu
        rw [HT.out] at h1
        obtain rfl := Option.some.inj h1
        exact absurd h3 hz)
    have HCP := Lib.hid (l2Put_any b1 A C (by omega) HBZ.out (fsz k) s v a c k w4 HS4.out HL4.out HA1.out HA2.out (Nat.le_refl _) (by omega))
    clear HSP HT HSO HBZ HL4
    generalize ap (sv b1) (s, v, k) = q at *
    obtain ⟨sq, vq, kq⟩ := q
    dsimp only at HOE
    go_wp2_with fail
    with_reducible refine HCP.out.mono ?_
    rw [HEA.out]
    dsimp only
    rintro e w5 ⟨aq, cq, rfl, hb5, hq5⟩
    have HW5 := Lib.hid (below_next HW4.out hb5)
    have HS5 := Lib.hid (HS4.out.next hb5)
    have HQ5 : Hid (Sl w5 0 w5.heap.size aq kq) := hq5.sl.mono (Nat.zero_le _) (Nat.le_refl _)
    clear hb5 hq5 HCP HEA hr0 hr1 hr2
    go_wp2_with fail
    with_reducible refine (sTermOk_any sq vq aq cq kq _ HQ5.out).mono ?_
    rw [HOE.out]
    rintro e w6 ⟨rfl, hb6⟩
    have HW6 := Lib.hid (below_next HW5.out hb6)
    have HS6 := Lib.hid (HS5.out.next hb6)
    clear hb6
    by_cases hz : sz (sq, vq, kq) ≤ 16
    · have HP : Hid (UfPost s v k s' v' k' w (.returned (.tuple #[.slice A b1.length C, .bool true])) w6) := ⟨A, C, b1, true, HUS.out hz, rfl, HW6.out, HS6.out⟩
      rw [decide_eq_true hz]
      clear hz
      go_wp2_with fail
      refine bodyPost_ret (v := .tuple #[.slice A b1.length C, .bool true]) ?_ rfl HP.out
      simp [results, Try.results27, go_sem]
    · have HP : Hid (UfPost s v k s' v' k' w (.returned (.tuple #[.slice (some ⟨w6.heap.size, 0, none⟩) 0 0, .bool false])) (w6.alloc (.cells #[] 75))) := uf_none (HUN.out hz) (below_next HW6.out (box_low _ _))
      rw [decide_eq_false hz]
      clear hz
      go_wp2_with fail
      refine bodyPost_ret (v := .tuple #[.slice (some ⟨w6.heap.size, 0, none⟩) 0 0, .bool false]) ?_ rfl HP.out
      simp [results, Try.results27, go_sem]
  · have hgt : decide (cd > 0) = true := decide_eq_true hcd
    have HP : Hid (UfPost s v k s' v' k' w (.returned (.tuple #[.slice (some ⟨w3.heap.size, 0, none⟩) 0 0, .bool false])) (w3.alloc (.cells #[] 75))) := uf_none (unR_none (by
      cases hu : uniR 16 (s, v, k) (s', v', k') with
      | none => rfl
      | some b2 => have := ((HSP.out b2).1 hu).1; rw [ht] at this; cases this)) (below_next HW3.out (box_low _ _))
    clear ht hcd
    go_wp2_with fail
    refine bodyPost_ret (v := .tuple #[.slice (some ⟨w3.heap.size, 0, none⟩) 0 0, .bool false]) ?_ rfl HP.out
    simp [results, Try.results27, go_sem]
end Go.Proofs.Ytpfkhgiiojikbaa
