/- Several texts in one: PEt, LKIt, LKI, ES1, SP1. -/
import Derived.Test.YtoafleckcjanaaaKLk25
import Derived.Test.YtoafleckcjanaaaKLk16
import Derived.Test.YtoafleckcjanaaaKLk9

/-! PEt: ProofEnd of the program: what it answers owns its memory. Written by gen_pet.py. -/
namespace Go.Proofs.Ytoafleckcjanaaa
open Go.RowKit Go.Deep Go.Shelf
attribute [local go_sem] Oper.semAt_some

/-- What LkPost says, and the answer's memory is its own. -/
def LkPostT (r : Option Tm3) (w : World) (e : Ending) (w' : World) : Prop :=
  ∃ a c s v k t P, ansR r = ((s, v, k), t) ∧ e = .returned (.tuple #[.agg #[.int .i64 s, .int .i64 v, .slice a (flen k) c], .bool t]) ∧ Below w.heap.size w w' ∧ OwS w' a k P ∧ (∀ x, P x → w.heap.size ≤ x ∧ x < w'.heap.size)
theorem LkPostT.plain {r : Option Tm3} {w : World} {e : Ending} {w' : World} (h : LkPostT r w e w') : LkPost r w e w' := by
  obtain ⟨a, c, s, v, k, t, P, h1, h2, h3, h4, h5⟩ := h
  exact ⟨a, c, s, v, k, t, h1, h2, h3, h4.sl h5⟩
theorem lkPostT_none {w : World} {e : Ending} {w' : World} (h : LkPost none w e w') : LkPostT none w e w' := by
  obtain ⟨a, c, s, v, k, t, h1, h2, h3, h4⟩ := h
  have hk : k = .nil := (congrArg (fun x => x.1.2.2) h1).symm
  exact ⟨a, c, s, v, k, t, fun _ => False, h1, h2, h3, .inl hk, fun x hx => hx.elim⟩
theorem OwR.own_lo {w : World} {s v : Int} {k : Fo} {e : Nat} {P : Nat → Prop} (h : OwR w (one3 s v k) e 0 P) : ∃ a c, w.cell? ⟨e, 0, none⟩ = some (.int .i64 s) ∧ w.cell? ⟨e, 1, none⟩ = some (.int .i64 v) ∧ w.cell? ⟨e, 2, none⟩ = some (.slice a (flen k) c) ∧ OwS w a k P := by
  obtain ⟨⟨c0, c1⟩, _, a, c, P1, P2, g1, g2, g3, g4, g5, g6⟩ := h
  exact ⟨a, c, c0, by simpa using c1, by simpa using g4, OwS.mono g1 g5⟩
theorem frozen_putD {W : World} {D : Nat} (h : W.heap[D]? = some (.deferred (some []))) (q : Addr) : (W.putObj D (.deferred none)).frozen? q = W.frozen? q := by
  by_cases hq : q.block = D
  · have hlt := (Array.getElem?_eq_some_iff.1 h).1
    unfold World.frozen?
    rw [hq, h, World.putObj_heap_same hlt]
  · simp only [World.frozen?, World.putObj_heap_other hq]
theorem lkPostT_put {r : Option Tm3} {w W : World} {en : Ending} {D : Nat} (hD : w.heap.size ≤ D) (hK : W.heap[D]? = some (.deferred (some []))) (h : LkPostT r w en W) : LkPostT r w en (W.putObj D (.deferred none)) := by
  obtain ⟨a, c, s, v, k, t, P, h1, h2, h3, h4, h5⟩ := h
  exact ⟨a, c, s, v, k, t, P, h1, h2, h3.trans (belowK_b (w := w) (Nat.le_refl _) W D _ _ hD hK rfl rfl), h4.keep fun q _ => ⟨cell_putD hK q, frozen_putD hK q⟩, fun x hx => ⟨(h5 x hx).1, by simpa using (h5 x hx).2⟩⟩
theorem peT_end {w w1 : World} {r : Option Tm3} {s v : Int} {k : Fo} {t : Bool} {a : Option Addr} {c : Nat} {P : Nat → Prop} (hr : ansR r = ((s, v, k), t)) (hb : Below w.heap.size w w1) (hl : OwS w1 a k P) (hP : ∀ x, P x → w.heap.size + 3 ≤ x ∧ x < w1.heap.size) (p q o z : Value) :
    LkPostT r w (.returned (.tuple #[.agg #[.int .i64 s, .int .i64 v, .slice a (flen k) c], .bool t])) (pset w1 w.heap.size p q o z) := by
  refine ⟨a, c, s, v, k, t, P, hr, rfl, pset_low hb (Nat.le_refl _), hl.keep fun x hx => ?_, fun x hx => ⟨by have := hP x hx; omega, by simpa [pset] using (hP x hx).2⟩⟩
  have h3 := (hP _ hx).1
  refine ⟨?_, by unfold pset; rw [World.frozen?_setCell, World.frozen?_setCell, World.frozen?_setCell, World.frozen?_setCell]⟩
  have ne : ∀ i j, i < 3 → (⟨w.heap.size + i, j, none⟩ : Addr) ≠ x := fun i j hi e => by rw [← e] at h3; simp at h3; omega
  unfold pset
  rw [World.cell?_setCell_other _ _ _ _ (ne 2 0 (by omega)), World.cell?_setCell_other _ _ _ _ (ne 1 2 (by omega)), World.cell?_setCell_other _ _ _ _ (ne 1 1 (by omega)), World.cell?_setCell_other _ _ _ _ (ne 1 0 (by omega))]

set_option maxRecDepth 100000 in
set_option maxHeartbeats 4000000 in
theorem proofEndT_main (es : List Eqd) (A : Option Addr) (C : Nat) (s v : Int) (a : Option Addr) (c : Nat) (k : Fo) (A2 : Option Addr) (C2 : Nat) (ls : List Lk) (w : World)
    (h1 : okEs es = true) (h2 : okT3 64 (s, v, k) = true) (h3 : ls.length ≤ 40)
    (hq : ESl w 0 w.heap.size A es) (hel : es.length ≤ 9223372036854775807) (hl : Sl w 0 w.heap.size a k) (hll : LSl w 0 w.heap.size A2 ls) (hls : ∀ x ∈ ls, x.2.2.1.length ≤ 1048576 ∧ x.2.2.2.length ≤ 1048576) :
    Calls Try.prog 27 #[.slice A es.length C, .agg #[.int .i64 s, .int .i64 v, .slice a (flen k) c], .slice A2 ls.length C2] w (LkPostT (prR es (s, v, k) ls) w) := by
  rw [prR_good h1 h2 h3]
  have hb0 : PeS w s v (.slice a (flen k) c) (((w.alloc (.cells #[.int .i64 s, .int .i64 v, .slice a (flen k) c] 35)).alloc (.cells #[.int .i64 0, .int .i64 0, .slice none 0 0] 35)).alloc (.cells #[.bool false] 4)) := PeS.start
  have HS := Lib.hid hb0
  have HQ := Lib.hid (hq.next hb0.low)
  have HL := Lib.hid (Sl.next hl hb0.low)
  obtain ⟨f, hf, hf2⟩ : ∃ f : Nat → Ld, (ls = [] ∨ ∃ b o, A2 = some ⟨b, o, none⟩ ∧ b < w.heap.size ∧ LRow w b o ls f) ∧ ∀ (i : Nat) (x : Lk), ls[i]? = some x → ISc w 0 w.heap.size (f i).1 (f i).2.1 x.2.2.1 ∧ BSl w 0 w.heap.size (f i).2.2.1 x.2.2.2 := by
    by_cases he : ls = []
    · exact ⟨fun _ => (none, 0, none, 0), .inl he, fun i x h => by rw [he] at h; simp at h⟩
    · obtain ⟨b, o, f, e1, e2, e3, e4⟩ := hll.row (List.length_pos_iff.2 he)
      exact ⟨f, .inr ⟨b, o, e1, e2, e3⟩, e4⟩
  have HLF := Lib.hid hf
  have HLF2 := Lib.hid hf2
  have HLS := Lib.hid hls
  have HOE := Lib.hid h1
  have HOT := Lib.hid h2
  clear hb0 hq hl h1 h2 hll hf hf2 hls
  refine (callsIn_wide (n := 12)).1 ?_
  refine callsIn_of_wp_marks Try.func27 rfl trivial ?_ rfl
  simp only [Try.ntmps27, List.size_toArray, List.length_cons, List.length_nil, Nat.reduceAdd, Nat.reduceSub, Array.replicate_succ, Array.replicate_zero, List.push_toArray, List.append_toArray, List.nil_append, List.cons_append]
  gi_wp2_with fail
  refine ⟨trivial, ?_⟩
  with_reducible refine (callsIn_wide.2 (equationsOf_any es A C _ HQ.out hel)).mono ?_
  rintro e w1 ⟨hb1, hcase⟩
  rcases hcase with ⟨_, A', C', rfl, hqs⟩ | ⟨h, _⟩
  rotate_left
  · rw [HOE.out] at h; cases h
  have hbx : Below w1.heap.size w1 (w1.alloc (.cells #[.slice A' es.length C'] 103)) := box_low _ _
  have HS2 := Lib.hid ((HS.out.next hb1).next hbx)
  have HL2 := Lib.hid (Sl.next (Sl.next HL.out hb1) hbx)
  have HQS := Lib.hid (hqs.next hbx)
  have HE2 : Hid ((w1.alloc (.cells #[.slice A' es.length C'] 103)).cell? ⟨w1.heap.size, 0, none⟩ = some (.slice A' es.length C')) := by rw [Hid, World.cell?_alloc_at _ _ _ _ (by simp)]; rfl
  have c0 := HS2.out.t0
  have c1 := HS2.out.t1
  have c2 := HS2.out.t2
  have hw1 : w.heap.size + 3 ≤ w1.heap.size := (HS.out.next hb1).size
  clear HS HL HQ hb1 hbx hqs
  gi_wp2_with fail
  refine ⟨trivial, ?_⟩
  with_reducible refine (callsIn_wide.2 (nodeOf_any s v a c k 64 _ HL2.out (by omega) (by omega))).mono ?_
  rintro e w3 ⟨nv, rfl, hb3, hyes⟩
  have h2 : okW s v k 64 = true := HOT.out
  have d3 : decide ((ls.length : Int) > 40) = false := by simp; omega
  have HS3 := Lib.hid (HS2.out.next hb3)
  have HQ3 := Lib.hid (HQS.out.next hb3)
  have HE3 := Lib.hid (cell_low hb3 HE2.out)
  have hs3 := hb3.size
  simp at hs3
  have hn := hyes h2
  rw [h2]
  clear hyes hb3 c0 c1 c2 HS2 HQS HE2 HL2
  have hw3 := HS3.out.size
  obtain ⟨tn, un, rfl⟩ : ∃ t u, nv = .iface t u := by rcases hn with ⟨_, _, rfl⟩ | ⟨_, _, _, rfl, _⟩ <;> exact ⟨_, _, rfl⟩
  have HNT := Lib.hid (node_term (hn.mono (Nat.zero_le _) (Nat.le_refl _)) h2)
  clear hn h2
  gi_wp2_with fail
  all_goals
    refine ⟨fun _ _ => trivial, ?_⟩
    obtain ⟨fn, hm1, hm2, hm3⟩ := HNT.out 347
    refine uponIn_method fn hm1 hm2 ?_
    clear hm1 hm2
    go_simp
    with_reducible refine (callsIn_wide.2 hm3).mono ?_
    rintro e w4 ⟨a4, c4, rfl, hb4, htx⟩
    clear hm3 HNT
    have hw4 := hb4.size
    have hI0 : PeI es (s, v, k) ls w3 w4.heap.size [] (((w4.alloc (.cells #[.int .i64 s, .int .i64 v, .slice a4 (flen k) c4] 35)).alloc (.cells #[.slice A2 ls.length C2] 53)).alloc (.cells #[.bool false] 4)) := by
      refine ⟨(s, v, k), fun x => w3.heap.size ≤ x ∧ x < w4.heap.size, rfl, ?_, fun h => by omega, fun y hy => ⟨hy.1, by simp; omega, by omega, by omega⟩, by simp⟩
      have h0 : Below w4.heap.size w4 (((w4.alloc (.cells #[.int .i64 s, .int .i64 v, .slice a4 (flen k) c4] 35)).alloc (.cells #[.slice A2 ls.length C2] 53)).alloc (.cells #[.bool false] 4)) := (((Below.refl _ _).alloc (Nat.le_refl _) _).alloc (by simp) _).alloc (by simp; omega) _
      have a0 : ∀ i, (((w4.alloc (.cells #[.int .i64 s, .int .i64 v, .slice a4 (flen k) c4] 35)).alloc (.cells #[.slice A2 ls.length C2] 53)).alloc (.cells #[.bool false] 4)).cell? ⟨w4.heap.size, i, none⟩ = #[Value.int .i64 s, .int .i64 v, .slice a4 (flen k) c4][i]? := fun i => by
        rw [World.cell?_alloc_lt _ _ _ (by simp; omega), World.cell?_alloc_lt _ _ _ (by simp), World.cell?_alloc_at _ _ _ _ (by simp)]
      have g0 : ∀ i, (((w4.alloc (.cells #[.int .i64 s, .int .i64 v, .slice a4 (flen k) c4] 35)).alloc (.cells #[.slice A2 ls.length C2] 53)).alloc (.cells #[.bool false] 4)).frozen? ⟨w4.heap.size, i, none⟩ = false := fun i => by
        rw [((Below.refl _ _).alloc (Nat.le_refl _) _).frozen (by simp; omega), ((Below.refl _ _).alloc (Nat.le_refl _) _).frozen (by simp), World.frozen?_alloc_at _ _ _ _ (by simp)]
      have h5 : OwS (((w4.alloc (.cells #[.int .i64 s, .int .i64 v, .slice a4 (flen k) c4] 35)).alloc (.cells #[.slice A2 ls.length C2] 53)).alloc (.cells #[.bool false] 4)) a4 k fun x => w3.heap.size ≤ x ∧ x < w4.heap.size := (ow_of_trs htx.2 htx.1).keep fun q hq => ⟨h0.cell hq.2, h0.frozen hq.2⟩
      exact ⟨⟨a0 0, a0 1⟩, ⟨g0 0, g0 1, g0 2⟩, a4, c4, _, fun _ => False, fun x h => h, fun x h => h.elim, fun _ _ h => h, a0 2, h5, trivial⟩
    have hB0 : Below w3.heap.size w3 (((w4.alloc (.cells #[.int .i64 s, .int .i64 v, .slice a4 (flen k) c4] 35)).alloc (.cells #[.slice A2 ls.length C2] 53)).alloc (.cells #[.bool false] 4)) := ((hb4.alloc hb4.size _).alloc (by simp; omega) _).alloc (by simp; omega) _
    have hc1 : (((w4.alloc (.cells #[.int .i64 s, .int .i64 v, .slice a4 (flen k) c4] 35)).alloc (.cells #[.slice A2 ls.length C2] 53)).alloc (.cells #[.bool false] 4)).cell? ⟨w4.heap.size + 1, 0, none⟩ = some (.slice A2 ls.length C2) := by
      rw [World.cell?_alloc_lt _ _ _ (by simp), World.cell?_alloc_at _ _ _ _ (by simp)]; rfl
    have hc2 : (((w4.alloc (.cells #[.int .i64 s, .int .i64 v, .slice a4 (flen k) c4] 35)).alloc (.cells #[.slice A2 ls.length C2] 53)).alloc (.cells #[.bool false] 4)).cell? ⟨w4.heap.size + 1 + 1, 0, none⟩ = some (.bool false) := by
      rw [World.cell?_alloc_at _ _ _ _ (by simp)]; rfl
    have hsz : (((w4.alloc (.cells #[.int .i64 s, .int .i64 v, .slice a4 (flen k) c4] 35)).alloc (.cells #[.slice A2 ls.length C2] 53)).alloc (.cells #[.bool false] 4)).heap.size = w4.heap.size + 3 := by simp
    have HI0 := Lib.hid hI0
    have HB0 := Lib.hid hB0
    have HC1 := Lib.hid hc1
    have HC2 := Lib.hid hc2
    have HSZ := Lib.hid hsz
    clear hI0 hB0 hc1 hc2 hsz
    gi_wp2_with fail
    refine ⟨trivial, ?_⟩
    with_reducible refine (linksOf_in _ _ trivial rfl A2 ls.length C2 false _).mono ?_
    rintro e w5 ⟨rfl, rfl⟩
    simp only [World.size_alloc]
    gi_wp2_with fail
    obtain ⟨V, hV⟩ : ∃ V, (((w4.alloc (.cells #[.int .i64 s, .int .i64 v, .slice a4 (flen k) c4] 35)).alloc (.cells #[.slice A2 ls.length C2] 53)).alloc (.cells #[.bool false] 4)) = V := ⟨_, rfl⟩
    rw [hV] at HC1 HC2 HSZ HI0 HB0 ⊢
    have hI0 := HI0.out
    have hB0 := HB0.out
    have hc1 := HC1.out
    have hc2 := HC2.out
    have hsz := HSZ.out
    clear hV htx hb4
    have hwl : Below w.heap.size w V := HS3.out.low.trans (hB0.mono HS3.out.low.size)
    have hlf : ls = [] ∨ ∃ b o, A2 = some ⟨b, o, none⟩ ∧ b < w3.heap.size ∧ LRow V b o ls f := by
      rcases HLF.out with h | ⟨b, o, h1, h2, h3⟩
      · exact .inl h
      · refine .inr ⟨b, o, h1, by omega, fun i x hx => ?_⟩
        obtain ⟨c0, c1, c2, c3⟩ := h3 i x hx
        exact ⟨(hwl.cell (p := ⟨b, _, none⟩) h2).trans c0, (hwl.cell (p := ⟨b, _, none⟩) h2).trans c1, (hwl.cell (p := ⟨b, _, none⟩) h2).trans c2, (hwl.cell (p := ⟨b, _, none⟩) h2).trans c3⟩
    refine wpIn_rangeFunc_ownH (α := Fin ls.length) rfl (by omega) (gf := 94) (lb := #[.pointer (some ⟨w4.heap.size + 1, 0, none⟩), .pointer (some ⟨w4.heap.size + 1 + 1, 0, none⟩)]) rfl trivial (enters_of Try.func94 (by kernel_rfl) rfl)
      (links_stops Fence.wide 11 trivial rfl (by omega) (w4.heap.size + 1) (w4.heap.size + 1 + 1) w3.heap.size A2 C2 false ls f (by omega) V hc1 hc2 (by omega) hlf) LKp.trans (fun W l o o' h1 h2 h3 h4 => LKp.book (w := V) (by omega) (by omega) (by omega) W l o o' h1 h2 h3 h4) (Below.refl _ _) (fun _ => rfl)
      (fun pre W => PeI es (s, v, k) ls w3 w4.heap.size pre W ∧ Below w3.heap.size w3 W)
      (fun c pre W => PeX es (s, v, k) ls w c pre W ∧ Below w.heap.size w W)
      (OwnFrom.and (Go.Own.from peI_own _) (ownFrom_below (Nat.le_refl _) (by omega)))
      (fun c => OwnFrom.and (Go.Own.from peX_own _) (ownFrom_below (Nat.le_refl _) (by omega)))
      ⟨hI0, hB0⟩
      (fun x a' W => ∃ Bx, Bx < W.heap.size ∧ W.cell? ⟨Bx, 0, none⟩ = some (.int .i64 ls[x].1) ∧ W.cell? ⟨Bx, 1, none⟩ = some (.bool ls[x].2.1) ∧ W.cell? ⟨Bx, 2, none⟩ = some (.slice (f x).1 ls[x].2.2.1.length (f x).2.1) ∧ W.cell? ⟨Bx, 3, none⟩ = some (.slice (f x).2.2.1 ls[x].2.2.2.length (f x).2.2.2) ∧ a' = { tmps := #[.slice A es.length C, .agg #[.int .i64 s, .int .i64 v, .slice a (flen k) c], .slice A2 ls.length C2, undef, .pointer (some ⟨w.heap.size, 0, none⟩), undef, .pointer (some ⟨w.heap.size + 1, 0, none⟩), .pointer (some ⟨w.heap.size + 1 + 1, 0, none⟩), .pointer (some ⟨w1.heap.size, 0, none⟩), .bool true, .iface tn un, .bool true, .pointer (some ⟨w4.heap.size, 0, none⟩), .pointer (some ⟨Bx, 0, none⟩), .tuple #[.slice A' es.length C', .bool true], .slice A es.length C, .tuple #[.slice A' es.length C', .bool true], .slice A' es.length C', .bool true, .tuple #[.iface tn un, .bool true], .agg #[.int .i64 s, .int .i64 v, .slice a (flen k) c], .tuple #[.iface tn un, .bool true], .iface tn un, .bool true, .bool true, .bool false, .bool false, .bool true, .bool false, .bool false, .bool false, .slice A2 ls.length C2, .int .i64 ls.length, .bool false, .bool false, undef, .iface tn un, .agg #[.int .i64 s, .int .i64 v, .slice a4 (flen k) c4], .slice A2 ls.length C2, .func (.func 94) #[] #[.pointer (some ⟨w4.heap.size + 1, 0, none⟩), .pointer (some ⟨w4.heap.size + 1 + 1, 0, none⟩)], .agg #[.int .i64 ls[x].1, .bool ls[x].2.1, .slice (f x).1 ls[x].2.2.1.length (f x).2.1, .slice (f x).2.2.1 ls[x].2.2.2.length (f x).2.2.2], undef, undef, undef, undef, undef, undef], defers := [] })
      (fun x a' _ X Y row hs hg hr => by obtain ⟨Bx, e0, e1, e2, e3, e4, e5⟩ := hs; exact ⟨Bx, Nat.lt_of_lt_of_le e0 hg.size, cell_kept e1 hg (fun r e => (hr r e).2), cell_kept e2 hg (fun r e => (hr r e).2), cell_kept e3 hg (fun r e => (hr r e).2), cell_kept e4 hg (fun r e => (hr r e).2), e5⟩)
      ?_ ?_ ?_ ?_
    · rintro l pre x W K ⟨hI, hB⟩ hK
      simp only [lenc, lval]
      gi_wp2_with fail
      have hsW := hB.size
      have hIW := hI
      obtain ⟨_, _, _, _, _, _, heW⟩ := hIW
      have q : ∀ i, (W.alloc (.cells #[.int .i64 ls[x].1, .bool ls[x].2.1, .slice (f x).1 ls[x].2.2.1.length (f x).2.1, .slice (f x).2.2.1 ls[x].2.2.2.length (f x).2.2.2] 43)).cell? ⟨W.heap.size, i, none⟩ = #[Value.int .i64 ls[x].1, .bool ls[x].2.1, .slice (f x).1 ls[x].2.2.1.length (f x).2.1, .slice (f x).2.2.1 ls[x].2.2.2.length (f x).2.2.2][i]? := fun i => by
        rw [World.cell?_alloc_at _ _ _ _ (by simp)]
      exact hK _ _ ((KeepsOthers.alloc _ _).from _) (LKp.alloc hsW _ (by omega) heW) ⟨OwnFrom.alloc (Go.Own.from peI_own 0) _ hI, hB.alloc hsW _⟩ ⟨W.heap.size, by simp, q 0, q 1, q 2, q 3, rfl⟩
    · rintro l pre x a' W hl _ ⟨hI, hB⟩ ⟨Bx, hBx, q0, q1, q2, q3, rfl⟩ hlt
      obtain ⟨⟨ts, tv, tk⟩, P, hlk, hown, hPe, hP, heW⟩ := hI
      have cE : W.cell? ⟨w1.heap.size, 0, none⟩ = some (.slice A' es.length C') := (hB.cell (p := ⟨w1.heap.size, 0, none⟩) (show w1.heap.size < w3.heap.size by omega)).trans HE3.out
      have hxm : ls[x] ∈ ls := List.getElem_mem _
      have hx2 : ls[(x : Nat)]? = some ls[x] := List.getElem?_eq_getElem x.isLt
      obtain ⟨hpl, hbl⟩ := HLS.out _ hxm
      obtain ⟨hps, hbs⟩ := HLF2.out _ _ hx2
      generalize hlx : ls[x] = lx at *
      obtain ⟨eq, back, place, bs⟩ := lx
      generalize f x = d at *
      obtain ⟨pA, pC, sA, sC⟩ := d
      dsimp only at q0 q1 q2 q3 hpl hbl hps hbs ⊢
      have HPS : Hid (ISl w3 0 w3.heap.size pA place) := hps.1.next HS3.out.low
      have HBS : Hid (BSl w3 0 w3.heap.size sA bs) := hbs.next HS3.out.low
      have HOK2 : Hid (okT3 64 (ts, tv, tk) = true) := lkF_ok HOT.out hlk
      have HOWN := Lib.hid hown
      have HP := Lib.hid hP
      have HPE := Lib.hid hPe
      have HLK := Lib.hid hlk
      have HBW := Lib.hid hB
      have hsW := hB.size
      clear hown hP hPe hlk hps hbs hB hx2 hxm
      gi_wp2_with fail
      refine ⟨trivial, ?_⟩
      with_reducible refine (CallsIn.inRound l (callsIn_wide.2 (follow_any es A' C' w3 W ts tv tk w4.heap.size P eq back pA pC place sA sC bs HQ3.out HBW.out HOE.out HOK2.out HOWN.out HPE.out (by omega) (by omega) (fun y hy => ⟨(HP.out y hy).1, (HP.out y hy).2.1⟩) HPS.out hpl HBS.out hbl))).mono ?_
      rintro e W2 ⟨tb, rfl, hlow, hko, hfar, hno, hyes⟩
      have r0 : W2.cell? ⟨w.heap.size + 1, 0, none⟩ = some (.int .i64 0) := (hlow.cell (p := ⟨_, 0, none⟩) (show w.heap.size + 1 < w3.heap.size by omega)).trans HS3.out.r0
      have r1 : W2.cell? ⟨w.heap.size + 1, 1, none⟩ = some (.int .i64 0) := (hlow.cell (p := ⟨_, 1, none⟩) (show w.heap.size + 1 < w3.heap.size by omega)).trans HS3.out.r1
      have r2 : W2.cell? ⟨w.heap.size + 1, 2, none⟩ = some (.slice none 0 0) := (hlow.cell (p := ⟨_, 2, none⟩) (show w.heap.size + 1 < w3.heap.size by omega)).trans HS3.out.r2
      have b0 : W2.cell? ⟨w.heap.size + 1 + 1, 0, none⟩ = some (.bool false) := (hlow.cell (p := ⟨_, 0, none⟩) (show w.heap.size + 1 + 1 < w3.heap.size by omega)).trans HS3.out.b0
      have f0 : W2.frozen? ⟨w.heap.size + 1, 0, none⟩ = false := (hlow.frozen (p := ⟨_, 0, none⟩) (show w.heap.size + 1 < w3.heap.size by omega)).trans (HS3.out.f 0)
      have f1 : W2.frozen? ⟨w.heap.size + 1, 1, none⟩ = false := (hlow.frozen (p := ⟨_, 1, none⟩) (show w.heap.size + 1 < w3.heap.size by omega)).trans (HS3.out.f 1)
      have f2 : W2.frozen? ⟨w.heap.size + 1, 2, none⟩ = false := (hlow.frozen (p := ⟨_, 2, none⟩) (show w.heap.size + 1 < w3.heap.size by omega)).trans (HS3.out.f 2)
      have g0 : W2.frozen? ⟨w.heap.size + 1 + 1, 0, none⟩ = false := (hlow.frozen (p := ⟨_, 0, none⟩) (show w.heap.size + 1 + 1 < w3.heap.size by omega)).trans (HS3.out.g 0)
      have hap : lkF es (s, v, k) ((pre ++ [x]).map fun i => ls[i]) = lk1 es (ts, tv, tk) (eq, back, place, bs) := by
        rw [List.map_append, lkF_append, HLK.out]
        show lkF es (ts, tv, tk) [ls[x]] = _
        rw [lkF_one, hlx]
      cases tb with
      | false =>
        have HPX : Hid (PeX es (s, v, k) ls w .ret (pre ++ [x]) (pset W2 w.heap.size (.int .i64 0) (.int .i64 0) (.slice none 0 0) (.bool false))) :=
          ⟨rfl, hap.trans (hno rfl), pset_cells r0 r1 r2 b0⟩
        have HKF : Hid (KeepsFrom V.heap.size W (pset W2 w.heap.size (.int .i64 0) (.int .i64 0) (.slice none 0 0) (.bool false))) := (hko.trans (pset_keeps _ _ _ _ _ _)).from _
        have HBL : Hid (Below w.heap.size w (pset W2 w.heap.size (.int .i64 0) (.int .i64 0) (.slice none 0 0) (.bool false))) := pset_low (HS3.out.low.trans (hlow.mono (by omega))) (Nat.le_refl _)
        clear hap hno hyes hko hlow hfar
        gi_wp2_with fail
        exact ⟨HKF.out, HPX.out, HBL.out⟩
      | true =>
        obtain ⟨s', v', k', P', hs', ho', hPe', hP', heW'⟩ := hyes rfl
        have hPI : PeI es (s, v, k) ls w3 w4.heap.size (pre ++ [x]) W2 := ⟨(s', v', k'), P', hap.trans hs', ho', hPe', fun y hy => by
          rcases hP' y hy with h | h
          · obtain ⟨e1, e2, e3, e4⟩ := HP.out y h
            exact ⟨e1, Nat.lt_of_lt_of_le e2 hko.size, e3, e4⟩
          · exact ⟨by omega, h.2, by omega, by omega⟩, by have := hko.size; omega⟩
        have hLK : LKp w3.heap.size (w4.heap.size + 1) (w4.heap.size + 1 + 1) W W2 :=
          ⟨⟨hlow.os.trans HBW.out.os.symm, hlow.tape.trans HBW.out.tape.symm, hlow.output.trans HBW.out.output.symm, hko.size, fun b hb => (hlow.block b hb).trans (HBW.out.block b hb).symm⟩,
            hfar _ (by omega) (by omega) (fun h => (HP.out _ h).2.2.1 rfl), hfar _ heW (by omega) (fun h => (HP.out _ h).2.2.2 rfl)⟩
        have HALL : Hid (KeepsFrom V.heap.size W W2 ∧ LKp w3.heap.size (w4.heap.size + 1) (w4.heap.size + 1 + 1) W W2 ∧ PeI es (s, v, k) ls w3 w4.heap.size (pre ++ [x]) W2 ∧ Below w3.heap.size w3 W2) := ⟨hko.from _, hLK, hPI, hlow⟩
        clear hPI hLK hap hno hyes hko hlow hfar hs' ho' hPe' hP'
        gi_wp2_with fail
        exact HALL.out
    · rintro D xs W hD hS ⟨hI, hB⟩ hK
      obtain ⟨⟨ts, tv, tk⟩, P, hlk, hown, hPe, hP, heW⟩ := hI
      rw [hS, lsq_false] at hlk
      have hsW := hB.size
      obtain ⟨ra, rc, e0, e1, e2, hsl⟩ := hown.own_lo
      dsimp only at e0 e1 e2 hsl
      have r0 : W.cell? ⟨w.heap.size + 1, 0, none⟩ = some (.int .i64 0) := (hB.cell (p := ⟨_, 0, none⟩) (show w.heap.size + 1 < w3.heap.size by omega)).trans HS3.out.r0
      have r1 : W.cell? ⟨w.heap.size + 1, 1, none⟩ = some (.int .i64 0) := (hB.cell (p := ⟨_, 1, none⟩) (show w.heap.size + 1 < w3.heap.size by omega)).trans HS3.out.r1
      have r2 : W.cell? ⟨w.heap.size + 1, 2, none⟩ = some (.slice none 0 0) := (hB.cell (p := ⟨_, 2, none⟩) (show w.heap.size + 1 < w3.heap.size by omega)).trans HS3.out.r2
      have b0 : W.cell? ⟨w.heap.size + 1 + 1, 0, none⟩ = some (.bool false) := (hB.cell (p := ⟨_, 0, none⟩) (show w.heap.size + 1 + 1 < w3.heap.size by omega)).trans HS3.out.b0
      have f0 : W.frozen? ⟨w.heap.size + 1, 0, none⟩ = false := (hB.frozen (p := ⟨_, 0, none⟩) (show w.heap.size + 1 < w3.heap.size by omega)).trans (HS3.out.f 0)
      have f1 : W.frozen? ⟨w.heap.size + 1, 1, none⟩ = false := (hB.frozen (p := ⟨_, 1, none⟩) (show w.heap.size + 1 < w3.heap.size by omega)).trans (HS3.out.f 1)
      have f2 : W.frozen? ⟨w.heap.size + 1, 2, none⟩ = false := (hB.frozen (p := ⟨_, 2, none⟩) (show w.heap.size + 1 < w3.heap.size by omega)).trans (HS3.out.f 2)
      have g0 : W.frozen? ⟨w.heap.size + 1 + 1, 0, none⟩ = false := (hB.frozen (p := ⟨_, 0, none⟩) (show w.heap.size + 1 + 1 < w3.heap.size by omega)).trans (HS3.out.g 0)
      have hK' := (pset_keeps W w.heap.size (.int .i64 ts) (.int .i64 tv) (.slice ra (flen tk) rc) (.bool true)).same D _ hK rfl
      have HK' := Lib.hid hK'
      have HC := Lib.hid (pset_cells (p := .int .i64 ts) (q := .int .i64 tv) (o := .slice ra (flen tk) rc) (z := .bool true) r0 r1 r2 b0)
      have HF : Hid (LkPostT (lkF es (s, v, k) ls) w (.returned (.tuple #[.agg #[.int .i64 ts, .int .i64 tv, .slice ra (flen tk) rc], .bool true])) ((pset W w.heap.size (.int .i64 ts) (.int .i64 tv) (.slice ra (flen tk) rc) (.bool true)).putObj D (.deferred none))) :=
        lkPostT_put (by omega) hK' (peT_end (by rw [hlk]; rfl) (HS3.out.low.trans (hB.mono (by omega))) hsl (fun y hy => ⟨by have := (hP y hy).1; omega, (hP y hy).2.1⟩) _ _ _ _)
      clear hown hPe hP hsl hK hK' hlk hB
      gi_wp2_with fail
      show bodyPostM _ _ _ _ _ _ _ (pset W w.heap.size (.int .i64 ts) (.int .i64 tv) (.slice ra (flen tk) rc) (.bool true))
      refine ⟨by simp, .inl ⟨_, _, rfl, run_takeDeferred HK'.out, ?_⟩⟩
      refine ⟨.tuple #[.agg #[.int .i64 ts, .int .i64 tv, .slice ra (flen tk) rc], .bool true], ?_, HF.out⟩
      obtain ⟨k0, k1, k2, k3⟩ := HC.out
      simp [results, Try.results27, go_sem, cell_putD HK'.out, k0, k1, k2, k3]
    · rintro D cc pre W hD hpre ⟨⟨rfl, hnone, r0, r1, r2, b0⟩, hB⟩ hK
      have hall : lkF es (s, v, k) ls = none := by
        rw [lsq_false] at hpre
        obtain ⟨r, hr⟩ := hpre
        rw [← hr, lkF_append, hnone]
        rfl
      have HF : Hid (LkPostT (lkF es (s, v, k) ls) w (.returned (.tuple #[.agg #[.int .i64 0, .int .i64 0, .slice none 0 0], .bool false])) (W.putObj D (.deferred none))) :=
        lkPostT_put (by omega) hK (by rw [hall]; exact ⟨none, 0, 0, 0, .nil, false, fun _ => False, rfl, rfl, hB, .inl rfl, fun x hx => hx.elim⟩)
      have HK := Lib.hid hK
      clear hK
      gi_wp2_with fail
      refine ⟨by simp, .inl ⟨_, _, rfl, run_takeDeferred HK.out, ?_⟩⟩
      refine ⟨.tuple #[.agg #[.int .i64 0, .int .i64 0, .slice none 0 0], .bool false], ?_, HF.out⟩
      simp [results, Try.results27, go_sem, cell_putD HK.out, r0, r1, r2, b0]

/-- ProofEnd of the program. -/
theorem iProofEndT_any (es : List Eqd) (A : Option Addr) (C : Nat) (s v : Int) (a : Option Addr) (c : Nat) (k : Fo) (A2 : Option Addr) (C2 : Nat) (ls : List Lk) (w : World)
    (hq : ESl w 0 w.heap.size A es) (hel : es.length ≤ 9223372036854775807) (hl : Sl w 0 w.heap.size a k) (hll : LSl w 0 w.heap.size A2 ls) (hln : ls.length ≤ 9223372036854775807) (hls : ∀ x ∈ ls, x.2.2.1.length ≤ 1048576 ∧ x.2.2.2.length ≤ 1048576) :
    Calls Try.prog 27 #[.slice A es.length C, .agg #[.int .i64 s, .int .i64 v, .slice a (flen k) c], .slice A2 ls.length C2] w (LkPostT (prR es (s, v, k) ls) w) := by
  by_cases hbad : okEs es = false ∨ okT3 64 (s, v, k) = false ∨ 40 < ls.length
  · exact (proofEnd_bad es A C s v a c k A2 C2 ls w hbad hq hel hl hln).mono fun e w' h => by rw [prR_bad hbad] at h ⊢; exact lkPostT_none h
  · have h1 : okEs es = true := by
      cases h : okEs es with
      | true => rfl
      | false => exact (hbad (.inl h)).elim
    have h2 : okT3 64 (s, v, k) = true := by
      cases h : okT3 64 (s, v, k) with
      | true => rfl
      | false => exact (hbad (.inr (.inl h))).elim
    exact proofEndT_main es A C s v a c k A2 C2 ls w h1 h2 (Nat.le_of_not_lt fun h => hbad (.inr (.inr h))) hq hel hl hll hls
end Go.Proofs.Ytoafleckcjanaaa

/-! LKIt: LinkDo of the program: what it answers owns its memory. Written by gen_lkit.py. -/
namespace Go.Proofs.Ytoafleckcjanaaa
open Go.RowKit Go.Deep Go.Shelf

theorem lkT_end {w w1 : World} {r : Option Tm3} {s v : Int} {k : Fo} {t : Bool} {a : Option Addr} {c : Nat} {P : Nat → Prop} (hr : ansR r = ((s, v, k), t)) (hb : Below w.heap.size w w1) (hl : OwS w1 a k P) (hP : ∀ x, P x → w.heap.size + 3 ≤ x ∧ x < w1.heap.size) (p q o : Value) :
    LkPostT r w (.returned (.tuple #[.agg #[.int .i64 s, .int .i64 v, .slice a (flen k) c], .bool t])) (((w1.setCell ⟨w.heap.size + 1 + 1, 0, none⟩ p).setCell ⟨w.heap.size + 1 + 1, 1, none⟩ q).setCell ⟨w.heap.size + 1 + 1, 2, none⟩ o) := by
  refine ⟨a, c, s, v, k, t, P, hr, rfl, ((hb.setCell (by simp; omega) _).setCell (by simp; omega) _).setCell (by simp; omega) _, hl.keep fun x hx => ?_, fun x hx => ⟨by have := hP x hx; omega, by simpa using (hP x hx).2⟩⟩
  have h3 := (hP _ hx).1
  refine ⟨?_, by rw [World.frozen?_setCell, World.frozen?_setCell, World.frozen?_setCell]⟩
  have ne : ∀ j, (⟨w.heap.size + 1 + 1, j, none⟩ : Addr) ≠ x := fun j e => by rw [← e] at h3; simp at h3; omega
  rw [World.cell?_setCell_other _ _ _ _ (ne 2), World.cell?_setCell_other _ _ _ _ (ne 1), World.cell?_setCell_other _ _ _ _ (ne 0)]

set_option maxRecDepth 100000 in
set_option maxHeartbeats 1000000 in
theorem iLinkDoT_any (es : List Eqd) (A : Option Addr) (C : Nat) (s v : Int) (a : Option Addr) (c : Nat) (k : Fo) (eq : Int) (back : Bool) (pA : Option Addr) (pC : Nat) (place : List Int) (B : Option Addr) (D : Nat) (bs : List Bd) (w : World) (he : ESl w 0 w.heap.size A es) (hel : es.length ≤ 9223372036854775807)
    (hl : Sl w 0 w.heap.size a k) (hp : ISc w 0 w.heap.size pA pC place) (hpl : place.length ≤ 1048576) (hb : BSl w 0 w.heap.size B bs) (hbl : bs.length ≤ 1048576) :
    Calls Try.prog 17 #[.slice A es.length C, .agg #[.int .i64 s, .int .i64 v, .slice a (flen k) c], .agg #[.int .i64 eq, .bool back, .slice pA place.length pC, .slice B bs.length D]] w (LkPostT (lkR es (s, v, k) (eq, back, place, bs)) w) := by
  obtain ⟨W, hW⟩ : ∃ W, (((w.alloc (.cells #[.int .i64 s, .int .i64 v, .slice a (flen k) c] 35)).alloc (.cells #[.int .i64 eq, .bool back, .slice pA place.length pC, .slice B bs.length D] 43)).alloc (.cells #[.int .i64 0, .int .i64 0, .slice none 0 0] 35)) = W := ⟨_, rfl⟩
  have hS : LdS w s v (.slice a (flen k) c) eq back (.slice pA place.length pC) (.slice B bs.length D) W := hW ▸ LdS.start
  obtain ⟨V, hV⟩ : ∃ V, W.alloc (.cells #[.int .i64 eq, .bool back, .slice pA place.length pC, .slice B bs.length D] 43) = V := ⟨_, rfl⟩
  have hWV : Below W.heap.size W V := hV ▸ box_low _ _
  have hVs : V.heap.size = W.heap.size + 1 := by rw [← hV]; simp
  have hcell : ∀ i, V.cell? ⟨W.heap.size, i, none⟩ = #[Value.int .i64 eq, .bool back, .slice pA place.length pC, .slice B bs.length D][i]? := fun i => by rw [← hV, World.cell?_alloc_at _ _ _ _ (by simp)]
  have hS2 := hS.next hWV
  have hlow := hS2.low
  have hLL : LSl V 0 V.heap.size (some ⟨W.heap.size, 0, none⟩) [(eq, back, place, bs)] := by
    refine .inr ⟨W.heap.size, 0, rfl, Nat.zero_le _, by omega, fun i x hx => ?_⟩
    have hi : i = 0 := by have := (List.getElem?_eq_some_iff.1 hx).1; simp at this; exact this
    subst hi
    obtain rfl : x = (eq, back, place, bs) := by simpa using hx.symm
    exact ⟨pA, pC, B, D, hcell 0, hcell 1, hcell 2, hcell 3, hp.next hlow, hb.next hlow⟩
  have HC := Lib.hid (iProofEndT_any es A C s v a c k (some ⟨W.heap.size, 0, none⟩) 1 [(eq, back, place, bs)] V (he.next hlow) hel (Sl.next hl hlow) hLL (by simp) (fun x hx => by (obtain rfl : x = (eq, back, place, bs) := by simpa using hx); exact ⟨hpl, hbl⟩))
  rw [prR_one] at HC
  have HS2 := Lib.hid hS2
  have q0 := hS.t0
  have q1 := hS.t1
  have q2 := hS.t2
  have l0 := hS.l0
  have l1 := hS.l1
  have l2 := hS.l2
  have l3 := hS.l3
  have hsW := hS.size
  clear hS hS2 hWV hcell hLL he hl hp hb hlow
  go_enter Try.func17, Try.ntmps17
  go_wp2_with fail
  refine Calls.mono (show Calls _ _ #[_, _, .slice (some ⟨W.heap.size, 0, none⟩) 1 1] _ _ from HC.out) ?_
  rintro e w2 ⟨a2, c2, s2, v2, k2, t2, P2, hr, rfl, hb2, hsl, hP2⟩
  have hS3 := HS2.out.next hb2
  have r0 := hS3.r0
  have r1 := hS3.r1
  have r2 := hS3.r2
  have f0 := hS3.f 0
  have f1 := hS3.f 1
  have f2 := hS3.f 2
  have HE := Lib.hid (lkT_end (c := c2) hr hS3.low hsl (fun x hx => ⟨by have := hP2 x hx; omega, (hP2 x hx).2⟩) (.int .i64 s2) (.int .i64 v2) (.slice a2 (flen k2) c2))
  clear hS3 hr hb2 hsl hP2 q0 q1 q2 l0 l1 l2 l3 HS2 HC
  go_wp2_with fail
  refine bodyPost_ret (v := .tuple #[.agg #[.int .i64 s2, .int .i64 v2, .slice a2 (flen k2) c2], .bool t2]) ?_ rfl HE.out
  simp [results, Try.results17, go_sem, r0, r1, r2]
end Go.Proofs.Ytoafleckcjanaaa

/-! LKI: LinkDo of the program. -/
namespace Go.Proofs.Ytoafleckcjanaaa
open Go.RowKit Go.Deep Go.Shelf

set_option maxRecDepth 100000 in
set_option maxHeartbeats 1000000 in
theorem iLinkDo_any (es : List Eqd) (A : Option Addr) (C : Nat) (s v : Int) (a : Option Addr) (c : Nat) (k : Fo) (eq : Int) (back : Bool) (pA : Option Addr) (pC : Nat) (place : List Int) (B : Option Addr) (D : Nat) (bs : List Bd) (w : World) (he : ESl w 0 w.heap.size A es) (hel : es.length ≤ 9223372036854775807)
    (hl : Sl w 0 w.heap.size a k) (hp : ISc w 0 w.heap.size pA pC place) (hpl : place.length ≤ 1048576) (hb : BSl w 0 w.heap.size B bs) (hbl : bs.length ≤ 1048576) :
    Calls Try.prog 17 #[.slice A es.length C, .agg #[.int .i64 s, .int .i64 v, .slice a (flen k) c], .agg #[.int .i64 eq, .bool back, .slice pA place.length pC, .slice B bs.length D]] w (LkPost (lkR es (s, v, k) (eq, back, place, bs)) w) := by
  obtain ⟨W, hW⟩ : ∃ W, (((w.alloc (.cells #[.int .i64 s, .int .i64 v, .slice a (flen k) c] 35)).alloc (.cells #[.int .i64 eq, .bool back, .slice pA place.length pC, .slice B bs.length D] 43)).alloc (.cells #[.int .i64 0, .int .i64 0, .slice none 0 0] 35)) = W := ⟨_, rfl⟩
  have hS : LdS w s v (.slice a (flen k) c) eq back (.slice pA place.length pC) (.slice B bs.length D) W := hW ▸ LdS.start
  obtain ⟨V, hV⟩ : ∃ V, W.alloc (.cells #[.int .i64 eq, .bool back, .slice pA place.length pC, .slice B bs.length D] 43) = V := ⟨_, rfl⟩
  have hWV : Below W.heap.size W V := hV ▸ box_low _ _
  have hVs : V.heap.size = W.heap.size + 1 := by rw [← hV]; simp
  have hcell : ∀ i, V.cell? ⟨W.heap.size, i, none⟩ = #[Value.int .i64 eq, .bool back, .slice pA place.length pC, .slice B bs.length D][i]? := fun i => by rw [← hV, World.cell?_alloc_at _ _ _ _ (by simp)]
  have hS2 := hS.next hWV
  have hlow := hS2.low
  have hLL : LSl V 0 V.heap.size (some ⟨W.heap.size, 0, none⟩) [(eq, back, place, bs)] := by
    refine .inr ⟨W.heap.size, 0, rfl, Nat.zero_le _, by omega, fun i x hx => ?_⟩
    have hi : i = 0 := by have := (List.getElem?_eq_some_iff.1 hx).1; simp at this; exact this
    subst hi
    obtain rfl : x = (eq, back, place, bs) := by simpa using hx.symm
    exact ⟨pA, pC, B, D, hcell 0, hcell 1, hcell 2, hcell 3, hp.next hlow, hb.next hlow⟩
  have HC := Lib.hid (iProofEnd_any es A C s v a c k (some ⟨W.heap.size, 0, none⟩) 1 [(eq, back, place, bs)] V (he.next hlow) hel (Sl.next hl hlow) hLL (by simp) (fun x hx => by (obtain rfl : x = (eq, back, place, bs) := by simpa using hx); exact ⟨hpl, hbl⟩))
  rw [prR_one] at HC
  have HS2 := Lib.hid hS2
  have q0 := hS.t0
  have q1 := hS.t1
  have q2 := hS.t2
  have l0 := hS.l0
  have l1 := hS.l1
  have l2 := hS.l2
  have l3 := hS.l3
  have hsW := hS.size
  clear hS hS2 hWV hcell hLL he hl hp hb hlow
  go_enter Try.func17, Try.ntmps17
  go_wp2_with fail
  refine Calls.mono (show Calls _ _ #[_, _, .slice (some ⟨W.heap.size, 0, none⟩) 1 1] _ _ from HC.out) ?_
  rintro e w2 ⟨a2, c2, s2, v2, k2, t2, hr, rfl, hb2, hsl⟩
  have hS3 := HS2.out.next hb2
  have r0 := hS3.r0
  have r1 := hS3.r1
  have r2 := hS3.r2
  have f0 := hS3.f 0
  have f1 := hS3.f 1
  have f2 := hS3.f 2
  have HE := Lib.hid (lk_end (c := c2) hr hS3.low (hsl.mono (by omega) (Nat.le_refl _)) (.int .i64 s2) (.int .i64 v2) (.slice a2 (flen k2) c2))
  clear hS3 hr hb2 hsl q0 q1 q2 l0 l1 l2 l3 HS2 HC
  go_wp2_with fail
  refine bodyPost_ret (v := .tuple #[.agg #[.int .i64 s2, .int .i64 v2, .slice a2 (flen k2) c2], .bool t2]) ?_ rfl HE.out
  simp [results, Try.results17, go_sem, r0, r1, r2]
end Go.Proofs.Ytoafleckcjanaaa

/-! ES1: The specification's EqsOk. -/
namespace Go.Proofs.Ytoafleckcjanaaa
open Go.RowKit Go.Deep

set_option maxRecDepth 100000 in
set_option maxHeartbeats 2000000 in
theorem sEqsOk_any (es : List Eqd) (A : Option Addr) (C : Nat) (w : World) (hb : ESl w 0 w.heap.size A es) (hl : es.length ≤ 9223372036854775807) :
    Calls Try.prog 45 #[.slice A es.length C] w fun e w' => e = .returned (.bool (okEs es)) ∧ Below w.heap.size w w' := by
  have HB := Lib.hid hb
  clear hb
  by_cases hbig : 6 < es.length
  · have HF : Hid (okEs es = false) := by
      cases h : okEs es with
      | false => exact rfl
      | true => have := ((okEs_iff es).1 h).1; omega
    go_enter Try.func45, Try.ntmps45
    go_wp2_with fail
    go_ret
    exact ⟨by rw [HF.out]; rfl, Below.refl _ _⟩
  go_enter Try.func45, Try.ntmps45
  go_wp2_with fail
  go_loopw [3] (fun i wr => ∃ j : Nat, i = .int .i64 j ∧ j ≤ es.length ∧ Hid ((es.take j).all okE = true) ∧ Hid (Below w.heap.size w wr)) (fun i _ => es.length - (intOf i).toNat)
  case atStart => exact ⟨0, rfl, Nat.zero_le _, rfl, Below.refl _ _⟩
  case round =>
    obtain ⟨j, rfl, hj, HS, HLW⟩ := hrel
    have hws := HLW.out.size
    by_cases hlt : j < es.length
    · obtain ⟨x, hx⟩ : ∃ x, es[j]? = some x := ⟨es[j], List.getElem?_eq_getElem hlt⟩
      obtain ⟨⟨s, v, k⟩, s', v', k'⟩ := x
      have hbr := HB.out.below HLW.out
      obtain ⟨b, o, rfl, _, hbB, a1, d1, a2, d2, c0, c1, c2, c3, c4, c5, hsl, hsl2⟩ := hbr.at hx
      dsimp only at c0 c1 c2 c3 c4 c5 hsl hsl2
      have g1 : (0 : Int) ≤ (j : Int) := by omega
      have g2 : (j : Int) < (es.length : Int) := by omega
      have HX := Lib.hid hx
      have HSL : Hid (Sl wr 0 wr.heap.size a1 k) := hsl.mono (Nat.le_refl _) hws
      have HSL2 : Hid (Sl wr 0 wr.heap.size a2 k') := hsl2.mono (Nat.le_refl _) hws
      clear hx hsl hsl2
      go_wp2_with fail
      with_reducible refine (sTermOk_any s v a1 d1 k _ HSL.out).mono ?_
      rintro e w2 ⟨rfl, hb2⟩
      have e3 := cell_low hb2 c3
      have e4 := cell_low hb2 c4
      have e5 := cell_low hb2 c5
      have HL2 := Lib.hid (HLW.out.trans (hb2.mono hws))
      have HSL3 := Lib.hid (HSL2.out.next hb2)
      clear hb2 c0 c1 c2 c3 c4 c5 HSL HSL2
      cases hok : okW s v k 16 with
      | false =>
        have HF : Hid (okEs es = false) := all_no HX.out (by simp only [okE, okT3, hok, Bool.false_and])
        clear hok
        go_wp2_with fail
        go_ret
        exact ⟨by rw [HF.out]; rfl, HL2.out⟩
      | true =>
        have HOK := Lib.hid hok
        clear hok
        go_wp2_with fail
        with_reducible refine (sTermOk_any s' v' a2 d2 k' _ HSL3.out).mono ?_
        rintro e w3 ⟨rfl, hb3⟩
        have HL3 := Lib.hid (HL2.out.trans (hb3.mono HL2.out.size))
        clear hb3 e3 e4 e5 HSL3
        cases hok : okW s' v' k' 16 with
        | false =>
          have HF : Hid (okEs es = false) := all_no HX.out (by simp only [okE, okT3, hok, Bool.and_false])
          clear hok
          go_wp2_with fail
          go_ret
          exact ⟨by rw [HF.out]; rfl, HL3.out⟩
        | true =>
          have HA : Hid ((es.take (j + 1)).all okE = true) := all_take HS.out HX.out (by simp only [okE, okT3, hok, HOK.out, Bool.and_self])
          clear hok
          go_wp2_with fail
          go_roundw
          case rel => exact ⟨j + 1, by go_num, by omega, HA, HL3⟩
          case measure => simp [intOf]; omega
    · have HE : Hid (okEs es = true) := by
        refine (okEs_iff es).2 ⟨by omega, fun x hx => ?_⟩
        have := HS.out
        rw [List.take_of_length_le (by omega)] at this
        exact List.all_eq_true.1 this x hx
      go_wp2_with fail
      go_ret
      exact ⟨by rw [HE.out]; rfl, HLW.out⟩
end Go.Proofs.Ytoafleckcjanaaa

/-! SP1: What a variable stands for: the specification's l2Of. -/
namespace Go.Proofs.Ytoafleckcjanaaa
open Go.RowKit Go.Deep

def OfPost (bs : List Bd) (x : Int) (w : World) (e : Ending) (w' : World) : Prop :=
  ∃ a c, e = .returned (.agg #[.int .i64 (tsub (sv bs) 0 x .nil).1, .int .i64 (tsub (sv bs) 0 x .nil).2.1, .slice a (flen (tsub (sv bs) 0 x .nil).2.2) c]) ∧ Below w.heap.size w w' ∧ Sl w' 0 w'.heap.size a (tsub (sv bs) 0 x .nil).2.2

theorem of_end {w : World} {bs : List Bd} {x s v : Int} {k : Fo} {a : Option Addr} {c : Nat} {Z : Obj} (hr : tsub (sv bs) 0 x .nil = (s, v, k)) (hl : Sl w 0 w.heap.size a k) :
    OfPost bs x w (.returned (.agg #[.int .i64 s, .int .i64 v, .slice a (flen k) c])) (w.alloc Z) := by
  have hb : Below w.heap.size w (w.alloc Z) := (Below.refl _ _).alloc (Nat.le_refl _) Z
  refine ⟨a, c, by rw [hr], hb, ?_⟩
  rw [hr]
  exact (hl.below hb).mono (Nat.le_refl _) hb.size

set_option maxRecDepth 100000 in
set_option maxHeartbeats 1000000 in
theorem l2Of_any (bs : List Bd) (A : Option Addr) (C : Nat) (x : Int) (w : World) (hb : BSl w 0 w.heap.size A bs) (hl : bs.length ≤ 9223372036854775807) :
    Calls Try.prog 87 #[.slice A bs.length C, .int .i64 x] w (OfPost bs x w) := by
  have HB := Lib.hid hb
  clear hb
  go_enter Try.func87, Try.ntmps87
  go_wp2_with fail
  go_loopw [5] (fun i wr => ∃ j : Nat, i = .int .i64 j ∧ j ≤ bs.length ∧ wr = w.alloc (.cells #[.int .i64 0, .int .i64 0, .slice none 0 0] 35) ∧ Hid (sv bs x = sv (bs.drop j) x)) (fun i _ => bs.length - (intOf i).toNat)
  case atStart => exact ⟨0, rfl, Nat.zero_le _, rfl, by simp [Hid]⟩
  case round =>
    obtain ⟨j, rfl, hj, rfl, HS⟩ := hrel
    by_cases hlt : j < bs.length
    · obtain ⟨y, hy⟩ : ∃ y, bs[j]? = some y := ⟨bs[j], List.getElem?_eq_getElem hlt⟩
      obtain ⟨xv, s, v, k⟩ := y
      have hbr := HB.out
      rcases hbr with hbr | ⟨b, o, rfl, _, hbB, hcells⟩
      · subst hbr; simp at hy
      obtain ⟨a', c', c0, c1, c2, c3, hsl⟩ := hcells j _ hy
      dsimp only at c0 c1 c2 c3 hsl
      have d0 := (World.cell?_alloc_lt w (.cells #[.int .i64 0, .int .i64 0, .slice none 0 0] 35) ⟨b, o + j * 4, none⟩ hbB).trans c0
      have d1 := (World.cell?_alloc_lt w (.cells #[.int .i64 0, .int .i64 0, .slice none 0 0] 35) ⟨b, o + j * 4 + 1, none⟩ hbB).trans c1
      have d2 := (World.cell?_alloc_lt w (.cells #[.int .i64 0, .int .i64 0, .slice none 0 0] 35) ⟨b, o + j * 4 + 1 + 1, none⟩ hbB).trans c2
      have d3 := (World.cell?_alloc_lt w (.cells #[.int .i64 0, .int .i64 0, .slice none 0 0] 35) ⟨b, o + j * 4 + 1 + 2, none⟩ hbB).trans c3
      have HD := Lib.hid (drop_bd hy)
      have HSL := Lib.hid hsl
      have g1 : (0 : Int) ≤ (j : Int) := by omega
      have g2 : (j : Int) < (bs.length : Int) := by omega
      clear hcells hy c0 c1 c2 c3 hsl
      by_cases hx : xv = x
      · have hxe : (xv == x) = true := by simpa using hx
        have HT : Hid (tsub (sv bs) 0 x .nil = (s, v, k)) := by
          rw [Hid, tsub, if_pos rfl, HS.out, HD.out]; simp only [sv]; rw [if_pos hx]; rfl
        clear hx HS HD
        go_wp2_with fail
        refine bodyPost_ret (v := .agg #[.int .i64 s, .int .i64 v, .slice a' (flen k) c']) ?_ rfl (of_end HT.out HSL.out)
        simp [results, Try.results87, go_sem]
      · have hxe : (xv == x) = false := by simpa using hx
        have HN : Hid (sv bs x = sv (bs.drop (j + 1)) x) := by rw [Hid, HS.out, HD.out]; simp only [sv]; rw [if_neg hx]
        clear hx HS HD
        go_wp2_with fail
        go_roundw
        case rel => exact ⟨j + 1, by go_num, by omega, trivial, HN⟩
        case measure => simp [intOf]; omega
    · have HT : Hid (tsub (sv bs) 0 x .nil = (0, x, .nil)) := by
        rw [Hid, tsub, if_pos rfl, HS.out, List.drop_eq_nil_of_le (by omega)]; rfl
      clear HS
      go_wp2_with fail
      refine bodyPost_ret (v := .agg #[.int .i64 0, .int .i64 x, .slice none 0 0]) ?_ rfl (of_end (k := .nil) HT.out (.inl rfl))
      simp [results, Try.results87, go_sem]
end Go.Proofs.Ytoafleckcjanaaa
