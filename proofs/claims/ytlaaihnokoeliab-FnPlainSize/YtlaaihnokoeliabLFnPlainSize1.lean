/- Several texts in one: WL, S8, C2, C3, SOk, P5a, P5, LawPSize. -/
import Derived.Test.YtlaaihnokoeliabKPla7
import Derived.Test.YtlaaihnokoeliabKPla5
import Derived.Test.YtlaaihnokoeliabKPla14
import Derived.Test.YtlaaihnokoeliabKPla8
import Derived.Lib.SliceRun
import Derived.Deep.RegionHeld3
import Derived.Test.YtlaaihnokoeliabKPla15
import Derived.Test.YtlaaihnokoeliabKPla4
import Derived.Test.YtlaaihnokoeliabKPla6
import Derived.Test.YtlaaihnokoeliabKPla18
import Derived.Test.YtlaaihnokoeliabKPla19
import Derived.Test.YtlaaihnokoeliabKPla2
import Derived.Test.YtlaaihnokoeliabKPla11

/-! WL: - The size of a node; TermSize. -/
namespace Go.Proofs.Ytlaaihnokoeliab
open Go.RowKit Go.Deep
set_option maxRecDepth 100000 in
set_option maxHeartbeats 1000000 in
theorem iTermSize_any (s v : Int) (a : Option Addr) (c : Nat) (k : Fo) (w : World) (hl : Sl w 0 w.heap.size a k) :
    Calls Try.prog 20 #[.agg #[.int .i64 s, .int .i64 v, .slice a (flen k) c]] w fun e w' => e = .returned (.int .i64 (if okW s v k 16 = true then 1 + fsz k else -1)) ∧ Below w.heap.size w w' := by
  cases hok : okW s v k 16 with
  | false =>
    have HOK := Lib.hid hok
    clear hok
    go_enter Try.func20, Try.ntmps20
    go_wp2_with fail
    with_reducible refine (nodeOf_any s v a c k 16 _ ?_ (by omega) (by omega)).mono ?_
    · exact (hl.below ((Below.refl _ _).alloc (Nat.le_refl _) _)).mono (Nat.le_refl _) (by simp)
    rintro e w2 ⟨nv, he, hb, hyes⟩
    rw [HOK.out] at he
    subst he
    clear hyes
    go_wp2_with fail
    go_ret
    exact ⟨rfl, ((Below.refl _ _).alloc (Nat.le_refl _) _).trans (hb.mono (by simp))⟩
  | true =>
    have HOK := Lib.hid hok
    have hsz := ((okW_iff _ _ _ _).1 hok).2.2
    clear hok
    go_enter Try.func20, Try.ntmps20
    go_wp2_with fail
    with_reducible refine (nodeOf_any s v a c k 16 _ ?_ (by omega) (by omega)).mono ?_
    · exact (hl.below ((Below.refl _ _).alloc (Nat.le_refl _) _)).mono (Nat.le_refl _) (by simp)
    rintro e w2 ⟨nv, he, hb, hyes⟩
    rw [HOK.out] at he
    subst he
    have hn := hyes HOK.out
    have HB := Lib.hid (((Below.refl _ _).alloc (Nat.le_refl _) _).trans (hb.mono (by simp)))
    clear hyes hb
    rcases hn with ⟨hs', rfl, rfl⟩ | ⟨hs', a2, c2, rfl, hn2⟩
    · go_wp2_with fail
      refine upon_method 112 (by kernel_rfl) (by kernel_rfl) ?_
      go_simp
      with_reducible refine (varSize_any v _).mono ?_
      rintro e w3 ⟨rfl, rfl⟩
      go_wp2_with fail
      go_ret
      exact ⟨rfl, HB.out⟩
    · have HN2 := Lib.hid hn2
      clear hn2
      go_wp2_with fail
      refine upon_method 128 (by kernel_rfl) (by kernel_rfl) ?_
      go_simp
      with_reducible refine (symSize_any (fsz k) s a2 c2 k _ ?_ (Nat.le_refl _) (by omega)).mono ?_
      · exact HN2.out.mono (Nat.zero_le _) (Nat.le_refl _)
      rintro e w3 ⟨rfl, hb3⟩
      go_wp2_with fail
      go_ret
      exact ⟨by simp, HB.out.trans (hb3.mono HB.out.size)⟩

end Go.Proofs.Ytlaaihnokoeliab

/-! S8: - l71Subst, DrawSubstDo. -/
namespace Go.Proofs.Ytlaaihnokoeliab
open Go.RowKit Go.Deep

def SbPost (br p : Nat) (w : World) (e : Ending) (w' : World) : Prop :=
  ∃ bs A C p', e = .returned (.slice A (List.length bs) C) ∧ bs.length ≤ 20 ∧ p ≤ p' ∧ p' ≤ p + 3000 ∧ Adv w br p' w' ∧ BOwn w' w.heap.size bs A C

end Go.Proofs.Ytlaaihnokoeliab

/-! C2: - A row of nodes, copied, with another node in the midst. -/
namespace Go.Proofs.Ytlaaihnokoeliab
open Go.RowKit Go.Deep
attribute [local go_sem ↓] Go.wp_at_zero Go.wp_at_succ

theorem Try.infoN : ∃ i, Try.prog.info? 58 = some i ∧ i.zero = some .nilIface ∧ i.size = 1 ∧ i.bytes = 16 := by
  obtain ⟨i, hi, hz⟩ := Option.map_eq_some_iff.1 Try.infoNode
  simp only [Prod.mk.injEq] at hz
  exact ⟨i, hi, hz.1, hz.2.1, hz.2.2⟩

theorem node_one {w : World} {lo B : Nat} {val : Value} {s v : Int} {k : Fo} (h : NodeIs w lo B val s v k) : val.oneCell' = true := by
  rcases h with ⟨_, _, rfl⟩ | ⟨_, _, _, rfl, _⟩ <;> rfl
/-- What the cells of a row of nodes hold. -/
theorem nrow_cells {w : World} {lo B : Nat} : ∀ (k : Fo) (b o : Nat), NRow w lo B k b o → ∃ xs : List Value, xs.length = flen k ∧ (∀ u ∈ xs, u.oneCell' = true) ∧
    ∀ j u, xs[j]? = some u → w.cell? ⟨b, o + j, none⟩ = some u ∧ ∃ x y s v kk, fdrop j k = .node x y (s, v) kk (fdrop (j + 1) k) ∧ NodeIs w lo B u s v kk
  | .nil, _, _, _ => ⟨[], rfl, by simp, by simp⟩
  | .node x y (s, v) kk r, b, o, ⟨_, _, ⟨val, hc, hn⟩, hr⟩ => by
    obtain ⟨xs, hl, h1, h2⟩ := nrow_cells r b (o + 1) hr
    have hn' : NodeIs w lo B val s v kk := hn
    refine ⟨val :: xs, by simp [flen, hl], ?_, ?_⟩
    · intro u hu
      rcases List.mem_cons.1 hu with rfl | hu
      · exact node_one hn'
      · exact h1 u hu
    · intro j u hu
      cases j with
      | zero =>
        simp only [List.getElem?_cons_zero, Option.some.injEq] at hu
        subst hu
        exact ⟨hc, x, y, s, v, kk, rfl, hn'⟩
      | succ j =>
        simp only [List.getElem?_cons_succ] at hu
        obtain ⟨hc', e⟩ := h2 j u hu
        exact ⟨by rw [show o + (j + 1) = o + 1 + j from by omega]; exact hc', e⟩

/-- Copied, and the i-th is another. -/
theorem nrow_put {w w5 : World} {i g : Nat} {k : Fo} {xs : List Value} {n C : Nat} {val : Value} {x : Int × Int × Fo} (hb : Below w.heap.size w w5) (hxl : xs.length = flen k)
    (hall : ∀ j u, xs[j]? = some u → ∃ x y s v kk, fdrop j k = .node x y (s, v) kk (fdrop (j + 1) k) ∧ NodeIs w 0 w.heap.size u s v kk)
    (hown : w5.ownsRow w.heap.size 58 1 (.slice (some ⟨g, 0, none⟩) n C) n xs) (hval : NodeIs w 0 w.heap.size val x.1 x.2.1 x.2.2) :
    NRow (w5.setCell ⟨g, i, none⟩ val) 0 w5.heap.size (fset k i x) g 0 := by
  have hcells := hown.cells (g := g) rfl
  have ha : ∀ n, (⟨g, 0, none⟩ : Addr).add n = ⟨g, 0 + n, none⟩ := fun n => by unfold Addr.add; split <;> simp_all
  obtain ⟨hg, hglt⟩ := hown.lt g rfl
  have hsame : Same 0 w.heap.size w (w5.setCell ⟨g, i, none⟩ val) := Same.setCell (fun b _ hb' => hb.block b hb') (.inr hg) _
  refine nrow_of_all _ g 0 (Nat.zero_le _) hglt fun j hj => ?_
  rw [flen_set] at hj
  obtain ⟨u, hu⟩ : ∃ u, xs[j]? = some u := ⟨_, List.getElem?_eq_getElem (by omega)⟩
  obtain ⟨x1, y1, s1, v1, k1, e1, hn1⟩ := hall j u hu
  have hcu := hcells j u hu
  rw [ha] at hcu
  by_cases hij : i = j
  · subst hij
    obtain ⟨b', o', e'⟩ := fset_at k i x hj
    exact ⟨b', o', _, _, _, e', val, by rw [Nat.zero_add] at hcu ⊢; exact World.cell?_setCell_same _ _ _ hcu, (hval.same hsame).mono (Nat.le_refl _) hb.size⟩
  · obtain ⟨r', e'⟩ := fset_far k i j x hij e1
    obtain ⟨x2, y2, s2, v2, k2, e2⟩ := fdrop_succ j (fset k i x) (by rw [flen_set]; exact hj)
    rw [e'] at e2
    simp only [BT.node.injEq, Prod.mk.injEq] at e2
    obtain ⟨rfl, rfl, ⟨rfl, rfl⟩, rfl, hr'⟩ := e2
    refine ⟨x1, y1, s1, v1, k1, by rw [e', hr'], u, ?_, (hn1.same hsame).mono (Nat.le_refl _) hb.size⟩
    rw [World.cell?_setCell_other _ _ _ _ (by intro h; have := congrArg Addr.off h; simp at this; omega)]
    exact hcu
end Go.Proofs.Ytlaaihnokoeliab

/-! C3: - nodePut: another node put to a place; the nodes on the way are made anew. -/
namespace Go.Proofs.Ytlaaihnokoeliab
open Go.RowKit Go.Deep
attribute [local go_sem ↓] Go.wp_at_zero Go.wp_at_succ

def NpPost (s v : Int) (k : Fo) (place : List Int) (x : Int × Int × Fo) (w : World) (e : Ending) (w' : World) : Prop :=
  ∃ nv t, e = .returned (.tuple #[nv, .bool t]) ∧ Below w.heap.size w w' ∧ ((∃ s' v' k', fput s v k place x = some (s', v', k') ∧ t = true ∧ NodeIs w' 0 w'.heap.size nv s' v' k') ∨ (fput s v k place x = none ∧ t = false))

/-- A place from its n-th number on. -/
theorem cut_from {pA : Option Addr} {pC n : Nat} {place : List Int} (hn : n ≤ place.length) (hc : place.length ≤ pC) : ∃ A', (∀ w : World, (Instr.slice 38 (.slice pA place.length pC) (some (.int .i64 (n : Int))) none none).run Try.prog w = .ok (.slice A' (place.length - n) (pC - n)) w) ∧
    ∀ {w : World} {lo B : Nat}, ISl w lo B pA place → ISc w lo B A' (pC - n) (place.drop n) := by
  obtain ⟨ti, hti, htz, hts, htb⟩ := Try.infoI
  have hsz : ∀ w : World, (sizeOf (Try.prog.elem 38)).run Try.prog w = .ok 1 w := fun w => by
    have he : Try.prog.elem 38 = 3 := by kernel_rfl
    rw [he]
    simp [sizeOf, typeInfo, hti, hts]
  have hel : Try.prog.underlying 38 = some (.slice (Try.prog.elem 38)) := by kernel_rfl
  have hrun : ∀ w : World, (Instr.slice 38 (.slice pA place.length pC) (some (.int .i64 (n : Int))) none none).run Try.prog w = .ok (sliced pA n place.length pC 1) w := fun w => by
    rw [run_slice_l (P := Try.prog) w 38 pA place.length pC hel .i64 (n : Int) (by omega) (by omega), hsz]
    simp [Result.andThen]
  refine ⟨if pC = n then pA else pA.map (·.add (n * 1)), fun w => by rw [hrun w]; rfl, fun {w lo B} h => ⟨?_, by simp; omega⟩⟩
  split
  · exact .inl (List.drop_eq_nil_of_le (by omega))
  · rcases h with rfl | ⟨b, o, rfl, h1, h2, h3⟩
    · exact .inl (by simp)
    · refine .inr ⟨b, o + n, ?_, h1, h2, fun j x hx => ?_⟩
      · have ha : (⟨b, o, none⟩ : Addr).add n = ⟨b, o + n, none⟩ := by unfold Addr.add; split <;> simp_all
        simp only [Option.map_some, Nat.mul_one, ha]
      · rw [List.getElem?_drop] at hx
        rw [show o + n + j = o + (n + j) from by omega]
        exact h3 (n + j) x hx
/-- A place's first n numbers. -/
theorem cut_to {pA : Option Addr} {pC n : Nat} {place : List Int} (hn : n ≤ place.length) (hc : place.length ≤ pC) : (∀ w : World, (Instr.slice 38 (.slice pA place.length pC) none (some (.int .i64 (n : Int))) none).run Try.prog w = .ok (.slice pA n pC) w) ∧
    ∀ {w : World} {lo B : Nat}, ISl w lo B pA place → ISc w lo B pA pC (place.take n) := by
  obtain ⟨ti, hti, htz, hts, htb⟩ := Try.infoI
  have hsz : ∀ w : World, (sizeOf (Try.prog.elem 38)).run Try.prog w = .ok 1 w := fun w => by
    have he : Try.prog.elem 38 = 3 := by kernel_rfl
    rw [he]
    simp [sizeOf, typeInfo, hti, hts]
  have hel : Try.prog.underlying 38 = some (.slice (Try.prog.elem 38)) := by kernel_rfl
  refine ⟨fun w => ?_, fun {w lo B} h => ⟨?_, by simp; omega⟩⟩
  · rw [run_slice_h (P := Try.prog) w 38 pA place.length pC hel .i64 (n : Int) (by omega) (by omega), hsz]
    cases pA <;> simp [Result.andThen, sliced, Addr.add]
  · rcases h with rfl | ⟨b, o, rfl, h1, h2, h3⟩
    · exact .inl (by simp)
    · refine .inr ⟨b, o, rfl, h1, h2, fun j x hx => ?_⟩
      rw [List.getElem?_take] at hx
      split at hx
      · exact h3 j x hx
      · cases hx

end Go.Proofs.Ytlaaihnokoeliab

/-! SOk: - The program's SubstOk; DrawSubstOk; the first binds of a row. -/
namespace Go.Proofs.Ytlaaihnokoeliab
open Go.RowKit Go.Deep

set_option maxRecDepth 100000 in
theorem iSubstOk_any (bs : List Bd) (A : Option Addr) (C : Nat) (w : World) (hb : BSl w 0 w.heap.size A bs) (hl : bs.length ≤ 9223372036854775807) :
    Calls Try.prog 22 #[.slice A bs.length C] w fun e w' => e = .returned (.bool (sok 16 bs)) ∧ Below w.heap.size w w' := by
  have HB := Lib.hid hb
  clear hb
  go_enter Try.func22, Try.ntmps22
  go_wp2_with fail
  with_reducible refine (substOf_any bs A C 16 _ HB.out hl (by omega) (by omega)).mono ?_
  rintro e w1 ⟨hb1, hcase⟩
  have HB1 := Lib.hid hb1
  clear hb1
  rcases hcase with ⟨hs, b, rfl, _, _⟩ | ⟨hs, rfl⟩
  · have HS := Lib.hid hs
    clear hs
    go_wp2_with fail
    go_ret
    exact ⟨by rw [HS.out]; rfl, HB1.out⟩
  · have HS := Lib.hid hs
    clear hs
    go_wp2_with fail
    go_ret
    exact ⟨by rw [HS.out]; rfl, HB1.out⟩

theorem sokFrom_take {room : Int} : ∀ (bs : List Bd) (last : Int) (n : Nat), sokFrom room last bs = true → sokFrom room last (bs.take n) = true
  | [], _, _, _ => by simp [sokFrom]
  | _ :: _, _, 0, _ => by simp [sokFrom]
  | x :: r, last, n + 1, h => by
    simp only [sokFrom, Bool.and_eq_true, List.take_succ_cons] at h ⊢
    exact ⟨h.1, h.2.1, h.2.2.1, sokFrom_take r x.1 n h.2.2.2⟩
theorem BSl.take {w : World} {lo B : Nat} {A : Option Addr} {bs : List Bd} (h : BSl w lo B A bs) (n : Nat) : BSl w lo B A (bs.take n) := by
  rcases h with rfl | ⟨b, o, e, h1, h2, h3⟩
  · exact .inl (by simp)
  · refine .inr ⟨b, o, e, h1, h2, fun i x hx => h3 i x ?_⟩
    rw [List.getElem?_take] at hx
    split at hx
    · exact hx
    · cases hx
theorem cutB_to {A : Option Addr} {L C n : Nat} (hn : n ≤ L) (hc : L ≤ C) (w : World) : (Instr.slice 27 (.slice A L C) none (some (.int .i64 (n : Int))) none).run Try.prog w = .ok (.slice A n C) w := by
  obtain ⟨ti, hti, htz, hts, htb⟩ := Try.infoBind
  have hsz : ∀ w : World, (sizeOf (Try.prog.elem 27)).run Try.prog w = .ok 4 w := fun w => by
    have he : Try.prog.elem 27 = 68 := by kernel_rfl
    rw [he]
    simp [sizeOf, typeInfo, hti, hts]
  have hel : Try.prog.underlying 27 = some (.slice (Try.prog.elem 27)) := by kernel_rfl
  rw [run_slice_h (P := Try.prog) w 27 A L C hel .i64 (n : Int) (by omega) (by omega), hsz]
  cases A <;> simp [Result.andThen, sliced, Addr.add]
theorem BOwn.cap {w : World} {base : Nat} {bs : List Bd} {A : Option Addr} {C : Nat} (h : BOwn w base bs A C) : bs.length ≤ C := by
  obtain ⟨xs, hown, _⟩ := h
  rcases hown.2 with ⟨_, h2⟩ | ⟨g, cap, cur, h3, _, _, h6, _⟩
  · omega
  · simp only [Value.slice.injEq] at h3
    omega

def DsoPost (w : World) (e : Ending) (w' : World) : Prop :=
  ∃ bs A C, e = .returned (.slice A (List.length bs) C) ∧ bs.length ≤ 21 ∧ bs.length ≤ C ∧ Below w.heap.size w w' ∧ BSl w' w.heap.size w'.heap.size A bs

end Go.Proofs.Ytlaaihnokoeliab

/-! P5a: laInts: what is the same comes out the same. -/
namespace Go.Proofs.Ytlaaihnokoeliab
open Go.RowKit Go.Deep

set_option maxRecDepth 100000 in
set_option maxHeartbeats 1000000 in
theorem laInts_same (xs : List Int) (A B : Option Addr) (ca cb m n : Nat) (w : World) (hA : ISl w 0 w.heap.size A xs) (hB : ISl w 0 w.heap.size B xs) (hm : m = xs.length) (hn : n = xs.length) (hx : xs.length ≤ 2000) :
    Calls Try.prog 47 #[.slice A m ca, .slice B n cb] w fun e w' => e = .returned (.bool true) ∧ Below w.heap.size w w' := by
  subst hm
  subst hn
  have HA := Lib.hid hA
  have HB := Lib.hid hB
  clear hA hB
  go_enter Try.func47, Try.ntmps47
  go_wp2_with fail
  go_loopw [5] (fun i wr => ∃ j : Nat, j ≤ xs.length ∧ i = .int .i64 j ∧ Below w.heap.size w wr) (fun i _ => xs.length - (intOf i).toNat)
  case atStart => exact ⟨0, by omega, rfl, Below.refl _ _⟩
  case round =>
    obtain ⟨j, hj, rfl, hbl⟩ := hrel
    have hbs := hbl.size
    by_cases hlt : j < xs.length
    · obtain ⟨b, o, rfl, _, hb1, hc⟩ := isl_at (HA.out.below hbl) hlt
      obtain ⟨b', o', rfl, _, hb2, hc'⟩ := isl_at (HB.out.below hbl) hlt
      generalize xs[j] = x at hc hc'
      have hu0 : ∀ u : After wr.heap.size wr, u.world.cell? ⟨b, o + j, none⟩ = some (.int .i64 x) := fun u => u.cell (by simp; omega) hc
      have hu1 : ∀ u : After wr.heap.size wr, u.world.cell? ⟨b', o' + j, none⟩ = some (.int .i64 x) := fun u => u.cell (by simp; omega) hc'
      have g1 : (0 : Int) ≤ (j : Int) := by omega
      have g2 : (j : Int) < (xs.length : Int) := by omega
      have HBL := Lib.hid hbl
      clear hbl
      go_wp2_with fail
      refine wp_region_after wr.heap.size (by kernel_rfl) (by kernel_rfl) ?_
      repeat (go_big_quiet_step (fail))
      refine wpQuiet_nil ?_
      rintro u ⟨⟨_, hu⟩, rfl⟩
      clear hu0 hu1 hc hc'
      have HB2 := Lib.hid (HBL.out.trans (hu.mono hbs))
      clear hu
      have ex : (x != x) = false := by simp
      go_wp2_with fail
      go_roundw
      case rel => exact ⟨j + 1, by omega, by go_num, HB2.out⟩
      case measure => simp [intOf]; omega
    · go_wp2_with fail
      go_ret
      exact ⟨rfl, hbl⟩

end Go.Proofs.Ytlaaihnokoeliab

/-! P5: laRows: what is the same comes out the same. -/
namespace Go.Proofs.Ytlaaihnokoeliab
open Go.RowKit Go.Deep

set_option maxRecDepth 100000 in
set_option maxHeartbeats 1000000 in
theorem laRows_same (rows : List (List Int)) (A B : Option Addr) (ca cb m n : Nat) (w : World) (hA : RSl w 0 w.heap.size A rows) (hB : RSl w 0 w.heap.size B rows) (hm : m = rows.length) (hn : n = rows.length) (hx : rows.length ≤ 2000) (hdeep : ∀ r ∈ rows, r.length ≤ 2000) :
    Calls Try.prog 21 #[.slice A m ca, .slice B n cb] w fun e w' => e = .returned (.bool true) ∧ Below w.heap.size w w' := by
  subst hm
  subst hn
  have HA := Lib.hid hA
  have HB := Lib.hid hB
  have HD := Lib.hid hdeep
  clear hA hB hdeep
  go_enter Try.func21, Try.ntmps21
  go_wp2_with fail
  go_loopw [5] (fun i wr => ∃ j : Nat, j ≤ rows.length ∧ i = .int .i64 j ∧ Below w.heap.size w wr) (fun i _ => rows.length - (intOf i).toNat)
  case atStart => exact ⟨0, by omega, rfl, Below.refl _ _⟩
  case round =>
    obtain ⟨j, hj, rfl, hbl⟩ := hrel
    have hbs := hbl.size
    by_cases hlt : j < rows.length
    · obtain ⟨b, o, a1, c1, r, rfl, _, _, hr, hc, hi1⟩ := rsl_at (HA.out.below hbl) hlt
      obtain ⟨b', o', a2, c2, r', rfl, _, _, hr', hc', hi2⟩ := rsl_at (HB.out.below hbl) hlt
      have e1 : r' = r := by rw [hr] at hr'; exact (Option.some.inj hr').symm
      subst e1
      have hrl : r'.length ≤ 2000 := HD.out r' (List.mem_of_getElem? hr)
      have HI1 := Lib.hid hi1
      have HI2 := Lib.hid hi2
      have hu0 : ∀ u : After wr.heap.size wr, u.world.cell? ⟨b, o + j, none⟩ = some (.slice a1 r'.length c1) := fun u => u.cell (by simp; omega) hc
      have hu1 : ∀ u : After wr.heap.size wr, u.world.cell? ⟨b', o' + j, none⟩ = some (.slice a2 r'.length c2) := fun u => u.cell (by simp; omega) hc'
      have g1 : (0 : Int) ≤ (j : Int) := by omega
      have g2 : (j : Int) < (rows.length : Int) := by omega
      have HBL := Lib.hid hbl
      have HCALL : Hid (∀ u : After wr.heap.size wr, Calls Try.prog 47 #[.slice a1 r'.length c1, .slice a2 r'.length c2] u.world fun e w' => e = .returned (.bool true) ∧ Below u.world.heap.size u.world w') := fun u => by
        have hu := u.below
        have hus := hu.size
        refine laInts_same r' a1 a2 c1 c2 _ _ u.world ?_ ?_ rfl rfl hrl
        · exact (HI1.out.below (hu.mono (by omega))).mono (Nat.le_refl _) (by omega)
        · exact (HI2.out.below (hu.mono (by omega))).mono (Nat.le_refl _) (by omega)
      clear hi1 hi2 hr hr' hbl
      go_wp2_with fail
      refine wp_region_after wr.heap.size (by kernel_rfl) (by kernel_rfl) ?_
      repeat (go_big_quiet_step ((go_at_call 47; exact Calls.after (After.below ‹_›).size (HCALL.out _))))
      refine wpQuiet_nil ?_
      rintro u ⟨⟨_, hu⟩, rfl⟩
      clear hu0 hu1 hc hc'
      have HB2 := Lib.hid (HBL.out.trans (hu.mono hbs))
      clear hu
      go_wp2_with fail
      go_roundw
      case rel => exact ⟨j + 1, by omega, by go_num, HB2.out⟩
      case measure => simp [intOf]; omega
    · go_wp2_with fail
      go_ret
      exact ⟨rfl, hbl⟩
end Go.Proofs.Ytlaaihnokoeliab

/-! LawPSize: laws.FnPlainSize answers true at every code. -/
namespace Go.Proofs.Ytlaaihnokoeliab
open Go.RowKit Go.Deep
attribute [local go_sem ↓] Go.wp_at_zero Go.wp_at_succ

set_option maxRecDepth 100000 in
set_option maxHeartbeats 4000000 in
theorem plainSize_walk (a0 : Option Addr) (len cap : Nat) (w : World) (hby : Bytes w a0 len) (hlen : len ≤ cap) :
    Calls Try.prog 5 #[.slice a0 len cap] w fun e w' => e = .returned (.bool true) ∧ Below w.heap.size w w' := by
  have HBY := Lib.hid hby
  clear hby
  by_cases hbiglen : 1048576 < len
  · go_enter Try.func5, Try.ntmps5
    go_wp2_with fail
    go_ret
    exact ⟨rfl, Below.refl _ _⟩
  go_enter Try.func5, Try.ntmps5
  go_wp2_with fail
  with_reducible refine (DrawTermPlain_any a0 len cap _ HBY.out hlen).mono ?_
  rintro e wa ⟨s, v, a, c, k, rfl, hSk, hb, hl⟩
  have Hlow := Lib.hid hb
  have HL := Lib.hid hl
  clear hb hl HBY
  have hbx : Below wa.heap.size wa (wa.alloc (.cells #[.int .i64 s, .int .i64 v, .slice a (flen k) c] 25)) := box_low _ _
  have Hn : Hid (Tb wa.heap.size s v a c k (wa.alloc (.cells #[.int .i64 s, .int .i64 v, .slice a (flen k) c] 25))) := Tb.new HL.out
  have Hlow' : Hid (Below w.heap.size w (wa.alloc (.cells #[.int .i64 s, .int .i64 v, .slice a (flen k) c] 25))) := below_next Hlow.out hbx
  clear Hlow
  have Hlow := Hlow'
  clear Hlow'
  have Ht := Hn
  clear Hn hbx
  clear HL
  have qt0 := Ht.out.c0
  have qt1 := Ht.out.c1
  have qt2 := Ht.out.c2
  go_wp2_with fail
  with_reducible refine (sTermPlain_any s v a c k _ Ht.out.sl).mono ?_
  rintro e wx1 ⟨aw, cw, Aw, Cw, sw, vw, kw, bw, hdw, rfl, hb, hlw, hsw⟩
  have HDw := Lib.hid hdw
  clear hdw
  clear qt0 qt1 qt2
  have Hlow' : Hid (Below w.heap.size w wx1) := below_next Hlow.out hb
  have Ht' : Hid (Tb wa.heap.size s v a c k wx1) := Ht.out.next hb
  clear Hlow Ht
  have Hlow := Hlow'
  clear Hlow'
  have Ht := Ht'
  clear Ht'
  clear hb
  have Hwr : Hid (BSl wx1 0 wx1.heap.size Aw bw) := hsw
  have Hlw := Lib.hid hlw
  clear hsw hlw
  have hbx : Below wx1.heap.size wx1 (wx1.alloc (.cells #[.int .i64 sw, .int .i64 vw, .slice aw (flen kw) cw] 25)) := box_low _ _
  have Hn : Hid (Tb wx1.heap.size sw vw aw cw kw (wx1.alloc (.cells #[.int .i64 sw, .int .i64 vw, .slice aw (flen kw) cw] 25))) := Tb.new Hlw.out
  have Hlow' : Hid (Below w.heap.size w (wx1.alloc (.cells #[.int .i64 sw, .int .i64 vw, .slice aw (flen kw) cw] 25))) := below_next Hlow.out hbx
  have Ht' : Hid (Tb wa.heap.size s v a c k (wx1.alloc (.cells #[.int .i64 sw, .int .i64 vw, .slice aw (flen kw) cw] 25))) := Ht.out.next hbx
  have Hwr' : Hid (BSl (wx1.alloc (.cells #[.int .i64 sw, .int .i64 vw, .slice aw (flen kw) cw] 25)) 0 (wx1.alloc (.cells #[.int .i64 sw, .int .i64 vw, .slice aw (flen kw) cw] 25)).heap.size Aw bw) := Hwr.out.next hbx
  clear Hlow Ht Hwr
  have Hlow := Hlow'
  clear Hlow'
  have Ht := Ht'
  clear Ht'
  have Hwr := Hwr'
  clear Hwr'
  have Hw := Hn
  clear Hn hbx
  clear Hlw
  have qt0 := Ht.out.c0
  have qt1 := Ht.out.c1
  have qt2 := Ht.out.c2
  go_wp2_with fail
  with_reducible refine (iTermPlain_any s v a c k _ Ht.out.sl).mono ?_
  rintro e wx2 ⟨ax, cx, Ax, Cx, sx, vx, kx, bx, hdx, rfl, hb, hlx, hsx⟩
  rw [HDw.out] at hdx
  simp only [Prod.mk.injEq] at hdx
  obtain ⟨⟨rfl, rfl, rfl⟩, rfl⟩ := hdx
  clear qt0 qt1 qt2
  have Hlow' : Hid (Below w.heap.size w wx2) := below_next Hlow.out hb
  have Ht' : Hid (Tb wa.heap.size s v a c k wx2) := Ht.out.next hb
  have Hwr' : Hid (BSl wx2 0 wx2.heap.size Aw bw) := Hwr.out.next hb
  have Hw' : Hid (Tb wx1.heap.size sw vw aw cw kw wx2) := Hw.out.next hb
  clear Hlow Ht Hwr Hw
  have Hlow := Hlow'
  clear Hlow'
  have Ht := Ht'
  clear Ht'
  have Hwr := Hwr'
  clear Hwr'
  have Hw := Hw'
  clear Hw'
  clear hb
  have Hxr : Hid (BSl wx2 0 wx2.heap.size Ax bw) := hsx
  have Hlx := Lib.hid hlx
  clear hsx hlx
  have hbx : Below wx2.heap.size wx2 (wx2.alloc (.cells #[.int .i64 sw, .int .i64 vw, .slice ax (flen kw) cx] 25)) := box_low _ _
  have Hn : Hid (Tb wx2.heap.size sw vw ax cx kw (wx2.alloc (.cells #[.int .i64 sw, .int .i64 vw, .slice ax (flen kw) cx] 25))) := Tb.new Hlx.out
  have Hlow' : Hid (Below w.heap.size w (wx2.alloc (.cells #[.int .i64 sw, .int .i64 vw, .slice ax (flen kw) cx] 25))) := below_next Hlow.out hbx
  have Ht' : Hid (Tb wa.heap.size s v a c k (wx2.alloc (.cells #[.int .i64 sw, .int .i64 vw, .slice ax (flen kw) cx] 25))) := Ht.out.next hbx
  have Hwr' : Hid (BSl (wx2.alloc (.cells #[.int .i64 sw, .int .i64 vw, .slice ax (flen kw) cx] 25)) 0 (wx2.alloc (.cells #[.int .i64 sw, .int .i64 vw, .slice ax (flen kw) cx] 25)).heap.size Aw bw) := Hwr.out.next hbx
  have Hw' : Hid (Tb wx1.heap.size sw vw aw cw kw (wx2.alloc (.cells #[.int .i64 sw, .int .i64 vw, .slice ax (flen kw) cx] 25))) := Hw.out.next hbx
  have Hxr' : Hid (BSl (wx2.alloc (.cells #[.int .i64 sw, .int .i64 vw, .slice ax (flen kw) cx] 25)) 0 (wx2.alloc (.cells #[.int .i64 sw, .int .i64 vw, .slice ax (flen kw) cx] 25)).heap.size Ax bw) := Hxr.out.next hbx
  clear Hlow Ht Hwr Hw Hxr
  have Hlow := Hlow'
  clear Hlow'
  have Ht := Ht'
  clear Ht'
  have Hwr := Hwr'
  clear Hwr'
  have Hw := Hw'
  clear Hw'
  have Hxr := Hxr'
  clear Hxr'
  have Hx := Hn
  clear Hn hbx
  clear Hlx
  have HSM := Lib.hid (plR_small HDw.out)
  have qx0 := Hx.out.c0
  have qx1 := Hx.out.c1
  have qx2 := Hx.out.c2
  have qw0 := Hw.out.c0
  have qw1 := Hw.out.c1
  have qw2 := Hw.out.c2
  go_wp2_with fail
  with_reducible refine (laTerm_same (fsz kw) sw vw ax aw cx cw kw _ Hx.out.sl Hw.out.sl (Nat.le_refl _) (by have := HSM.out.1; omega)).mono ?_
  rintro e wx3 ⟨rfl, hb⟩
  clear qx0 qx1 qx2 qw0 qw1 qw2
  have Hlow' : Hid (Below w.heap.size w wx3) := below_next Hlow.out hb
  have Ht' : Hid (Tb wa.heap.size s v a c k wx3) := Ht.out.next hb
  have Hwr' : Hid (BSl wx3 0 wx3.heap.size Aw bw) := Hwr.out.next hb
  have Hw' : Hid (Tb wx1.heap.size sw vw aw cw kw wx3) := Hw.out.next hb
  have Hxr' : Hid (BSl wx3 0 wx3.heap.size Ax bw) := Hxr.out.next hb
  have Hx' : Hid (Tb wx2.heap.size sw vw ax cx kw wx3) := Hx.out.next hb
  clear Hlow Ht Hwr Hw Hxr Hx
  have Hlow := Hlow'
  clear Hlow'
  have Ht := Ht'
  clear Ht'
  have Hwr := Hwr'
  clear Hwr'
  have Hw := Hw'
  clear Hw'
  have Hxr := Hxr'
  clear Hxr'
  have Hx := Hx'
  clear Hx'
  clear hb
  go_wp2_with fail
  with_reducible refine (laSubst_same bw Ax Aw Cx Cw _ Hxr.out Hwr.out (by have := HSM.out.2.1; omega) HSM.out.2.2).mono ?_
  rintro e wx4 ⟨rfl, hb⟩
  have Hlow' : Hid (Below w.heap.size w wx4) := below_next Hlow.out hb
  have Ht' : Hid (Tb wa.heap.size s v a c k wx4) := Ht.out.next hb
  have Hwr' : Hid (BSl wx4 0 wx4.heap.size Aw bw) := Hwr.out.next hb
  have Hw' : Hid (Tb wx1.heap.size sw vw aw cw kw wx4) := Hw.out.next hb
  have Hxr' : Hid (BSl wx4 0 wx4.heap.size Ax bw) := Hxr.out.next hb
  have Hx' : Hid (Tb wx2.heap.size sw vw ax cx kw wx4) := Hx.out.next hb
  clear Hlow Ht Hwr Hw Hxr Hx
  have Hlow := Hlow'
  clear Hlow'
  have Ht := Ht'
  clear Ht'
  have Hwr := Hwr'
  clear Hwr'
  have Hw := Hw'
  clear Hw'
  have Hxr := Hxr'
  clear Hxr'
  have Hx := Hx'
  clear Hx'
  clear hb
  cases hok : okW s v k 16 with
  | false =>
    have HOK := Lib.hid hok
    clear hok
    have qt0 := Ht.out.c0
    have qt1 := Ht.out.c1
    have qt2 := Ht.out.c2
    go_wp2_with fail
    with_reducible refine (sTermOk_any s v a c k _ Ht.out.sl).mono ?_
    rw [HOK.out]
    rintro e wx5 ⟨rfl, hb⟩
    clear qt0 qt1 qt2
    have Hlow' : Hid (Below w.heap.size w wx5) := below_next Hlow.out hb
    have Ht' : Hid (Tb wa.heap.size s v a c k wx5) := Ht.out.next hb
    have Hwr' : Hid (BSl wx5 0 wx5.heap.size Aw bw) := Hwr.out.next hb
    have Hw' : Hid (Tb wx1.heap.size sw vw aw cw kw wx5) := Hw.out.next hb
    have Hxr' : Hid (BSl wx5 0 wx5.heap.size Ax bw) := Hxr.out.next hb
    have Hx' : Hid (Tb wx2.heap.size sw vw ax cx kw wx5) := Hx.out.next hb
    clear Hlow Ht Hwr Hw Hxr Hx
    have Hlow := Hlow'
    clear Hlow'
    have Ht := Ht'
    clear Ht'
    have Hwr := Hwr'
    clear Hwr'
    have Hw := Hw'
    clear Hw'
    have Hxr := Hxr'
    clear Hxr'
    have Hx := Hx'
    clear Hx'
    clear hb
    have qx0 := Hx.out.c0
    have qx1 := Hx.out.c1
    have qx2 := Hx.out.c2
    have qw0 := Hw.out.c0
    have qw1 := Hw.out.c1
    have qw2 := Hw.out.c2
    go_wp2_with fail
    with_reducible refine (laTerm_same (fsz kw) sw vw ax aw cx cw kw _ Hx.out.sl Hw.out.sl (Nat.le_refl _) (by have := HSM.out.1; omega)).mono ?_
    rintro e wx6 ⟨rfl, hb⟩
    clear qx0 qx1 qx2 qw0 qw1 qw2
    have Hlow' : Hid (Below w.heap.size w wx6) := below_next Hlow.out hb
    have Ht' : Hid (Tb wa.heap.size s v a c k wx6) := Ht.out.next hb
    have Hwr' : Hid (BSl wx6 0 wx6.heap.size Aw bw) := Hwr.out.next hb
    have Hw' : Hid (Tb wx1.heap.size sw vw aw cw kw wx6) := Hw.out.next hb
    have Hxr' : Hid (BSl wx6 0 wx6.heap.size Ax bw) := Hxr.out.next hb
    have Hx' : Hid (Tb wx2.heap.size sw vw ax cx kw wx6) := Hx.out.next hb
    clear Hlow Ht Hwr Hw Hxr Hx
    have Hlow := Hlow'
    clear Hlow'
    have Ht := Ht'
    clear Ht'
    have Hwr := Hwr'
    clear Hwr'
    have Hw := Hw'
    clear Hw'
    have Hxr := Hxr'
    clear Hxr'
    have Hx := Hx'
    clear Hx'
    clear hb
    go_wp2_with fail
    with_reducible refine (laSubst_same bw Ax Aw Cx Cw _ Hxr.out Hwr.out (by have := HSM.out.2.1; omega) HSM.out.2.2).mono ?_
    rintro e wx7 ⟨rfl, hb⟩
    have Hlow' : Hid (Below w.heap.size w wx7) := below_next Hlow.out hb
    have Ht' : Hid (Tb wa.heap.size s v a c k wx7) := Ht.out.next hb
    have Hwr' : Hid (BSl wx7 0 wx7.heap.size Aw bw) := Hwr.out.next hb
    have Hw' : Hid (Tb wx1.heap.size sw vw aw cw kw wx7) := Hw.out.next hb
    have Hxr' : Hid (BSl wx7 0 wx7.heap.size Ax bw) := Hxr.out.next hb
    have Hx' : Hid (Tb wx2.heap.size sw vw ax cx kw wx7) := Hx.out.next hb
    clear Hlow Ht Hwr Hw Hxr Hx
    have Hlow := Hlow'
    clear Hlow'
    have Ht := Ht'
    clear Ht'
    have Hwr := Hwr'
    clear Hwr'
    have Hw := Hw'
    clear Hw'
    have Hxr := Hxr'
    clear Hxr'
    have Hx := Hx'
    clear Hx'
    clear hb
    go_wp2_with fail
    go_ret
    exact ⟨rfl, Hlow.out⟩
  | true =>
    have HOK := Lib.hid hok
    have hk16 := ((okW_iff _ _ _ _).1 hok).2.2
    clear hok
    have qt0 := Ht.out.c0
    have qt1 := Ht.out.c1
    have qt2 := Ht.out.c2
    go_wp2_with fail
    with_reducible refine (sTermOk_any s v a c k _ Ht.out.sl).mono ?_
    rw [HOK.out]
    rintro e wx5 ⟨rfl, hb⟩
    clear qt0 qt1 qt2
    have Hlow' : Hid (Below w.heap.size w wx5) := below_next Hlow.out hb
    have Ht' : Hid (Tb wa.heap.size s v a c k wx5) := Ht.out.next hb
    have Hwr' : Hid (BSl wx5 0 wx5.heap.size Aw bw) := Hwr.out.next hb
    have Hw' : Hid (Tb wx1.heap.size sw vw aw cw kw wx5) := Hw.out.next hb
    have Hxr' : Hid (BSl wx5 0 wx5.heap.size Ax bw) := Hxr.out.next hb
    have Hx' : Hid (Tb wx2.heap.size sw vw ax cx kw wx5) := Hx.out.next hb
    clear Hlow Ht Hwr Hw Hxr Hx
    have Hlow := Hlow'
    clear Hlow'
    have Ht := Ht'
    clear Ht'
    have Hwr := Hwr'
    clear Hwr'
    have Hw := Hw'
    clear Hw'
    have Hxr := Hxr'
    clear Hxr'
    have Hx := Hx'
    clear Hx'
    clear hb
    have HOKX : Hid (okW sw vw kw 16 = true) := by rcases plR_cases HDw.out with ⟨h, _⟩ | ⟨_, _, _, h, _⟩; (rw [HOK.out] at h; cases h); exact h
    have HSZ : Hid (fsz kw = fsz k ∧ places kw = places k ∧ bw = nms s v k) := by rcases plR_cases HDw.out with ⟨h, _⟩ | ⟨_, h0, _, _, h1, h2⟩; (rw [HOK.out] at h; cases h); exact ⟨h1, h2, h0⟩
    clear Hw Hwr
    go_wp2_with fail
    generalize wx5 = wv at *
    have hu0 : ∀ u : After wv.heap.size wv, u.world.cell? ⟨wx2.heap.size, 0, none⟩ = some (.int .i64 sw) := fun u => cell_low u.below Hx.out.c0
    have hu1 : ∀ u : After wv.heap.size wv, u.world.cell? ⟨wx2.heap.size, 1, none⟩ = some (.int .i64 vw) := fun u => cell_low u.below Hx.out.c1
    have hu2 : ∀ u : After wv.heap.size wv, u.world.cell? ⟨wx2.heap.size, 2, none⟩ = some (.slice ax (flen kw) cx) := fun u => cell_low u.below Hx.out.c2
    have hu3 : ∀ u : After wv.heap.size wv, u.world.cell? ⟨wa.heap.size, 0, none⟩ = some (.int .i64 s) := fun u => cell_low u.below Ht.out.c0
    have hu4 : ∀ u : After wv.heap.size wv, u.world.cell? ⟨wa.heap.size, 1, none⟩ = some (.int .i64 v) := fun u => cell_low u.below Ht.out.c1
    have hu5 : ∀ u : After wv.heap.size wv, u.world.cell? ⟨wa.heap.size, 2, none⟩ = some (.slice a (flen k) c) := fun u => cell_low u.below Ht.out.c2
    have HSOK : Hid (sok 16 bw = true) := by rw [Hid, HSZ.out.2.2]; exact nms_sok HOK.out
    have hzz := HSZ.out.1
    have e1 : ((1 + (fsz kw : Int)) == (1 + (fsz k : Int))) = true := by simp; omega
    have HPK : Hid ((places k).length ≤ 2000 ∧ ∀ r ∈ places k, r.length ≤ 2000) := ⟨by rw [places_len]; omega, fun r hr => by have := places_deep hr; omega⟩
    clear hzz
    refine wp_region_mix (fun w' => ∃ u : After wv.heap.size wv, w' = u.world) [] [(0, 0), (2, 0), (1, 1), (3, 1), (4, 0), (5, 0), (6, 0), (8, 0), (7, 1), (9, 1), (10, 1), (11, 0), (12, 0), (13, 0), (14, 1), (15, 0), (16, 1)] (by kernel_rfl) (by kernel_rfl) ⟨⟨_, (Below.refl _ _).drew⟩, rfl⟩ ?_
    have HBD : Hid (Below wv.heap.size wv wv.drew) := (Below.refl _ _).drew
    generalize wv.drew = wd at *
    iterate 2
      refine mix_see rfl (fun K hK => ?_)
      go_simp
      refine hK _ ?_
      clear hK K
    refine mix_hold rfl (fun K hK => ?_)
    go_simp
    with_reducible refine (iTermSize_any sw vw ax cx kw _ (Hx.out.sl.next HBD.out)).mono ?_
    rw [if_pos HOKX.out]
    rintro e wpx6 ⟨rfl, hb⟩
    replace HBD := Lib.hid (below_next HBD.out hb)
    refine hK _ _ ⟨⟨_, HBD.out⟩, rfl⟩ ?_
    clear hK K hb
    refine mix_hold rfl (fun K hK => ?_)
    go_simp
    with_reducible refine (iTermSize_any s v a c k _ (Ht.out.sl.next HBD.out)).mono ?_
    rw [if_pos HOK.out]
    rintro e wpx7 ⟨rfl, hb⟩
    replace HBD := Lib.hid (below_next HBD.out hb)
    refine hK _ _ ⟨⟨_, HBD.out⟩, rfl⟩ ?_
    clear hK K hb
    iterate 4
      refine mix_see rfl (fun K hK => ?_)
      go_simp
      refine hK _ ?_
      clear hK K
    clear hu0 hu1 hu2 hu3 hu4 hu5
    refine mix_hold rfl (fun K hK => ?_)
    go_simp
    with_reducible refine (iTermPlaces_any sw vw ax cx kw _ (Hx.out.sl.next HBD.out)).mono ?_
    rintro e wpx8 ⟨AL, CL, rows, rfl, hrows, hb, hrs⟩
    rw [if_pos HOKX.out, HSZ.out.2.1] at hrows
    subst hrows
    have HR1 := Lib.hid hrs
    clear hrs
    replace HBD := Lib.hid (below_next HBD.out hb)
    refine hK _ _ ⟨⟨_, HBD.out⟩, rfl⟩ ?_
    clear hK K hb
    refine mix_hold rfl (fun K hK => ?_)
    go_simp
    with_reducible refine (iTermPlaces_any s v a c k _ (Ht.out.sl.next HBD.out)).mono ?_
    rintro e wpx9 ⟨AM, CM, rows, rfl, hrows, hb, hrs⟩
    rw [if_pos HOK.out] at hrows
    subst hrows
    have HR2 := Lib.hid hrs
    replace HR1 := Lib.hid (HR1.out.next hb)
    clear hrs
    replace HBD := Lib.hid (below_next HBD.out hb)
    refine hK _ _ ⟨⟨_, HBD.out⟩, rfl⟩ ?_
    clear hK K hb
    refine mix_hold rfl (fun K hK => ?_)
    go_simp
    with_reducible refine (laRows_same (places k) AL AM CL CM (places k).length (places k).length _ HR1.out (HR2.out.mono (Nat.zero_le _) (Nat.le_refl _)) rfl rfl HPK.out.1 HPK.out.2).mono ?_
    rintro e wpx10 ⟨rfl, hb⟩
    replace HBD := Lib.hid (below_next HBD.out hb)
    refine hK _ _ ⟨⟨_, HBD.out⟩, rfl⟩ ?_
    clear hK K hb
    iterate 3
      refine mix_see rfl (fun K hK => ?_)
      go_simp
      refine hK _ ?_
      clear hK K
    refine mix_hold rfl (fun K hK => ?_)
    go_simp
    with_reducible refine (iSubstOk_any bw Ax Cx _ (Hxr.out.next HBD.out) (by have := HSM.out.2.1; omega)).mono ?_
    rw [HSOK.out]
    rintro e wpx11 ⟨rfl, hb⟩
    replace HBD := Lib.hid (below_next HBD.out hb)
    refine hK _ _ ⟨⟨_, HBD.out⟩, rfl⟩ ?_
    clear hK K hb
    iterate 1
      refine mix_see rfl (fun K hK => ?_)
      go_simp
      refine hK _ ?_
      clear hK K
    refine mix_hold rfl (fun K hK => ?_)
    go_simp
    refine hK _ _ ⟨⟨_, HBD.out⟩, rfl⟩ ?_
    clear hK K
    refine mix_end ?_
    have Hlow2 := Lib.hid (below_next Hlow.out HBD.out)
    go_wp2_with fail
    go_ret
    exact ⟨rfl, Hlow2.out⟩
end Go.Proofs.Ytlaaihnokoeliab
