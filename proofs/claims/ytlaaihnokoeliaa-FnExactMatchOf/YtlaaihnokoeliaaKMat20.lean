/- Several texts in one: LSu, LB2, WL, C2, C3, SOk, FrameO, Frame, PL0. -/
import Derived.Test.YtlaaihnokoeliaaKMat19
import Derived.Test.YtlaaihnokoeliaaKMat14
import Derived.Test.YtlaaihnokoeliaaKMat7
import Derived.Test.YtlaaihnokoeliaaKMat9
import Derived.Test.YtlaaihnokoeliaaKMat6
import Derived.Test.YtlaaihnokoeliaaKMat3
import Derived.Test.YtlaaihnokoeliaaKMat10
import Derived.Lib.SliceRun
import Derived.Deep.RegionHeld3
import Derived.Test.YtlaaihnokoeliaaKMat16
import Derived.Test.YtlaaihnokoeliaaRows
import Derived.WalkKit
import Derived.ProofKit
import Derived.OpenShut
import Derived.ShutString
import Derived.ChangeOld
import Derived.Below

/-! LSu: laSubst on two rows of the same binds. -/
namespace Go.Proofs.Ytlaaihnokoeliaa
open Go.RowKit Go.Deep

set_option maxRecDepth 100000 in
set_option maxHeartbeats 2000000 in
theorem laSubst_same (bs : List Bd) (A B : Option Addr) (ca cb : Nat) (w : World) (hA : BSl w 0 w.heap.size A bs) (hB : BSl w 0 w.heap.size B bs) (hl : bs.length ≤ 1000000) (hz : ∀ x ∈ bs, fsz x.2.2.2 ≤ 1000000) :
    Calls Try.prog 12 #[.slice A bs.length ca, .slice B bs.length cb] w fun e w' => e = .returned (.bool true) ∧ Below w.heap.size w w' := by
  have HA := Lib.hid hA
  have HB := Lib.hid hB
  have HZ := Lib.hid hz
  clear hA hB hz
  go_enter Try.func12, Try.ntmps12
  go_wp2_with fail
  go_loopw [5] (fun i wr => ∃ j : Nat, i = .int .i64 j ∧ j ≤ bs.length ∧ Hid (Below w.heap.size w wr)) (fun i _ => bs.length - (intOf i).toNat)
  case atStart => exact ⟨0, rfl, Nat.zero_le _, Below.refl _ _⟩
  case round =>
    obtain ⟨j, rfl, hj, HW⟩ := hrel
    have hws := HW.out.size
    by_cases hlt : j < bs.length
    · obtain ⟨y, hy⟩ : ∃ y, bs[j]? = some y := ⟨bs[j], List.getElem?_eq_getElem hlt⟩
      obtain ⟨yx, ys, yv, yk⟩ := y
      have hyz := HZ.out _ (List.mem_of_getElem? hy)
      dsimp only at hyz
      have hbr := HA.out.next HW.out
      rcases hbr with hbr | ⟨rb, ro, rfl, _, hbB, hcells⟩
      · subst hbr; simp at hy
      have hbr2 := HB.out.next HW.out
      rcases hbr2 with hbr2 | ⟨rb2, ro2, rfl, _, hbB2, hcells2⟩
      · subst hbr2; simp at hy
      obtain ⟨ya, yc, d0, d1, d2, d3, hsl⟩ := hcells j _ hy
      obtain ⟨ya2, yc2, e0, e1, e2, e3, hsl2⟩ := hcells2 j _ hy
      dsimp only at d0 d1 d2 d3 hsl e0 e1 e2 e3 hsl2
      have g1 : (0 : Int) ≤ (j : Int) := by omega
      have g2 : (j : Int) < (bs.length : Int) := by omega
      have hne : (yx != yx) = false := by simp
      clear hcells hcells2 hy
      have hu0 : ∀ u : After wr.heap.size wr, u.world.cell? ⟨rb, ro + j * 4, none⟩ = some (.int .i64 yx) := fun u => cell_low u.below d0
      have hu1 : ∀ u : After wr.heap.size wr, u.world.cell? ⟨rb, ro + j * 4 + 1, none⟩ = some (.int .i64 ys) := fun u => cell_low u.below d1
      have hu2 : ∀ u : After wr.heap.size wr, u.world.cell? ⟨rb, ro + j * 4 + 1 + 1, none⟩ = some (.int .i64 yv) := fun u => cell_low u.below d2
      have hu3 : ∀ u : After wr.heap.size wr, u.world.cell? ⟨rb, ro + j * 4 + 1 + 2, none⟩ = some (.slice ya (flen yk) yc) := fun u => cell_low u.below d3
      have hu4 : ∀ u : After wr.heap.size wr, u.world.cell? ⟨rb2, ro2 + j * 4, none⟩ = some (.int .i64 yx) := fun u => cell_low u.below e0
      have hu5 : ∀ u : After wr.heap.size wr, u.world.cell? ⟨rb2, ro2 + j * 4 + 1, none⟩ = some (.int .i64 ys) := fun u => cell_low u.below e1
      have hu6 : ∀ u : After wr.heap.size wr, u.world.cell? ⟨rb2, ro2 + j * 4 + 1 + 1, none⟩ = some (.int .i64 yv) := fun u => cell_low u.below e2
      have hu7 : ∀ u : After wr.heap.size wr, u.world.cell? ⟨rb2, ro2 + j * 4 + 1 + 2, none⟩ = some (.slice ya2 (flen yk) yc2) := fun u => cell_low u.below e3
      have HCALL : Hid (∀ u : After wr.heap.size wr, Calls Try.prog 18 #[.agg #[.int .i64 ys, .int .i64 yv, .slice ya (flen yk) yc], .agg #[.int .i64 ys, .int .i64 yv, .slice ya2 (flen yk) yc2]] u.world fun e w' => e = .returned (.bool true) ∧ Below u.world.heap.size u.world w') := fun u =>
        laTerm_same (fsz yk) ys yv ya ya2 yc yc2 yk u.world (hsl.next u.below) (hsl2.next u.below) (Nat.le_refl _) (by omega)
      clear hsl hsl2
      go_wp2_with fail
      refine wp_region_after wr.heap.size (by kernel_rfl) (by kernel_rfl) ?_
      repeat (go_big_quiet_step ((go_at_call 18; exact Calls.after (After.below ‹_›).size (HCALL.out _))))
      refine wpQuiet_nil ?_
      rintro u ⟨⟨_, hu⟩, rfl⟩
      have HW2 := Lib.hid (below_next HW.out hu)
      clear hu hu0 hu1 hu2 hu3 hu4 hu5 hu6 hu7 d0 d1 d2 d3 e0 e1 e2 e3
      go_wp2_with fail
      go_roundw
      case rel => exact ⟨j + 1, by go_num, by omega, HW2⟩
      case measure => simp [intOf]; omega
    · go_wp2_with fail
      go_ret
      exact ⟨rfl, HW.out⟩
end Go.Proofs.Ytlaaihnokoeliaa

/-! LB2: A bind of a row, its cells. -/
namespace Go.Proofs.Ytlaaihnokoeliaa
open Go.RowKit Go.Deep

theorem bsl_at {w : World} {lo B : Nat} {A : Option Addr} {bs : List Bd} {j : Nat} (h : BSl w lo B A bs) (hj : j < bs.length) :
    ∃ rb ro x s v k a c, A = some ⟨rb, ro, none⟩ ∧ bs[j]? = some (x, s, v, k) ∧ w.cell? ⟨rb, ro + j * 4, none⟩ = some (.int .i64 x) ∧ w.cell? ⟨rb, ro + j * 4 + 1, none⟩ = some (.int .i64 s) ∧ w.cell? ⟨rb, ro + j * 4 + 1 + 1, none⟩ = some (.int .i64 v) ∧ w.cell? ⟨rb, ro + j * 4 + 1 + 2, none⟩ = some (.slice a (flen k) c) ∧ Sl w lo B a k := by
  obtain ⟨y, hy⟩ : ∃ y, bs[j]? = some y := ⟨bs[j], List.getElem?_eq_getElem hj⟩
  obtain ⟨x, s, v, k⟩ := y
  rcases h with rfl | ⟨rb, ro, e, _, _, hc⟩
  · simp at hy
  · obtain ⟨a, c, c0, c1, c2, c3, hl⟩ := hc j _ hy
    exact ⟨rb, ro, x, s, v, k, a, c, e, hy, c0, c1, c2, c3, hl⟩
end Go.Proofs.Ytlaaihnokoeliaa

/-! WL: - The size of a node; TermSize. -/
namespace Go.Proofs.Ytlaaihnokoeliaa
open Go.RowKit Go.Deep
set_option maxRecDepth 100000 in
set_option maxHeartbeats 1000000 in
theorem iTermSize_any (s v : Int) (a : Option Addr) (c : Nat) (k : Fo) (w : World) (hl : Sl w 0 w.heap.size a k) :
    Calls Try.prog 13 #[.agg #[.int .i64 s, .int .i64 v, .slice a (flen k) c]] w fun e w' => e = .returned (.int .i64 (if okW s v k 16 = true then 1 + fsz k else -1)) ∧ Below w.heap.size w w' := by
  cases hok : okW s v k 16 with
  | false =>
    have HOK := Lib.hid hok
    clear hok
    go_enter Try.func13, Try.ntmps13
    go_wp2_with fail
    with_reducible refine (nodeOf_any s v a c k 16 _ ?_ (by omega) (by omega)).mono ?_
    · exact (hl.below ((Below.refl _ _).alloc (Nat.le_refl _) _)).mono (Nat.le_refl _) (by simp)
    rintro e w2 ⟨nv, he, hb, hyes⟩
    rw [HOK.out] at he
    subst he
    clear hyes
    go_wp2_with fail
    go_ret
    exact ⟨rfl, ((Below.refl _ _).alloc (Nat.le_refl _) _).trans (hb.mono (by simp))⟩
  | true =>
    have HOK := Lib.hid hok
    have hsz := ((okW_iff _ _ _ _).1 hok).2.2
    clear hok
    go_enter Try.func13, Try.ntmps13
    go_wp2_with fail
    with_reducible refine (nodeOf_any s v a c k 16 _ ?_ (by omega) (by omega)).mono ?_
    · exact (hl.below ((Below.refl _ _).alloc (Nat.le_refl _) _)).mono (Nat.le_refl _) (by simp)
    rintro e w2 ⟨nv, he, hb, hyes⟩
    rw [HOK.out] at he
    subst he
    have hn := hyes HOK.out
    have HB := Lib.hid (((Below.refl _ _).alloc (Nat.le_refl _) _).trans (hb.mono (by simp)))
    clear hyes hb
    rcases hn with ⟨hs', rfl, rfl⟩ | ⟨hs', a2, c2, rfl, hn2⟩
    · go_wp2_with fail
      refine upon_method 96 (by kernel_rfl) (by kernel_rfl) ?_
      go_simp
      with_reducible refine (varSize_any v _).mono ?_
      rintro e w3 ⟨rfl, rfl⟩
      go_wp2_with fail
      go_ret
      exact ⟨rfl, HB.out⟩
    · have HN2 := Lib.hid hn2
      clear hn2
      go_wp2_with fail
      refine upon_method 112 (by kernel_rfl) (by kernel_rfl) ?_
      go_simp
      with_reducible refine (symSize_any (fsz k) s a2 c2 k _ ?_ (Nat.le_refl _) (by omega)).mono ?_
      · exact HN2.out.mono (Nat.zero_le _) (Nat.le_refl _)
      rintro e w3 ⟨rfl, hb3⟩
      go_wp2_with fail
      go_ret
      exact ⟨by simp, HB.out.trans (hb3.mono HB.out.size)⟩

end Go.Proofs.Ytlaaihnokoeliaa

/-! C2: - A row of nodes, copied, with another node in the midst. -/
namespace Go.Proofs.Ytlaaihnokoeliaa
open Go.RowKit Go.Deep
attribute [local go_sem ↓] Go.wp_at_zero Go.wp_at_succ

theorem Try.infoN : ∃ i, Try.prog.info? 57 = some i ∧ i.zero = some .nilIface ∧ i.size = 1 ∧ i.bytes = 16 := by
  obtain ⟨i, hi, hz⟩ := Option.map_eq_some_iff.1 Try.infoNode
  simp only [Prod.mk.injEq] at hz
  exact ⟨i, hi, hz.1, hz.2.1, hz.2.2⟩

theorem node_one {w : World} {lo B : Nat} {val : Value} {s v : Int} {k : Fo} (h : NodeIs w lo B val s v k) : val.oneCell' = true := by
  rcases h with ⟨_, _, rfl⟩ | ⟨_, _, _, rfl, _⟩ <;> rfl
/-- What the cells of a row of nodes hold. -/
theorem nrow_cells {w : World} {lo B : Nat} : ∀ (k : Fo) (b o : Nat), NRow w lo B k b o → ∃ xs : List Value, xs.length = flen k ∧ (∀ u ∈ xs, u.oneCell' = true) ∧
    ∀ j u, xs[j]? = some u → w.cell? ⟨b, o + j, none⟩ = some u ∧ ∃ x y s v kk, fdrop j k = .node x y (s, v) kk (fdrop (j + 1) k) ∧ NodeIs w lo B u s v kk
  | .nil, _, _, _ => ⟨[], rfl, by simp, by simp⟩
  | .node x y (s, v) kk r, b, o, ⟨_, _, ⟨val, hc, hn⟩, hr⟩ => by
    obtain ⟨xs, hl, h1, h2⟩ := nrow_cells r b (o + 1) hr
    have hn' : NodeIs w lo B val s v kk := hn
    refine ⟨val :: xs, by simp [flen, hl], ?_, ?_⟩
    · intro u hu
      rcases List.mem_cons.1 hu with rfl | hu
      · exact node_one hn'
      · exact h1 u hu
    · intro j u hu
      cases j with
      | zero =>
        simp only [List.getElem?_cons_zero, Option.some.injEq] at hu
        subst hu
        exact ⟨hc, x, y, s, v, kk, rfl, hn'⟩
      | succ j =>
        simp only [List.getElem?_cons_succ] at hu
        obtain ⟨hc', e⟩ := h2 j u hu
        exact ⟨by rw [show o + (j + 1) = o + 1 + j from by omega]; exact hc', e⟩

/-- Copied, and the i-th is another. -/
theorem nrow_put {w w5 : World} {i g : Nat} {k : Fo} {xs : List Value} {n C : Nat} {val : Value} {x : Int × Int × Fo} (hb : Below w.heap.size w w5) (hxl : xs.length = flen k)
    (hall : ∀ j u, xs[j]? = some u → ∃ x y s v kk, fdrop j k = .node x y (s, v) kk (fdrop (j + 1) k) ∧ NodeIs w 0 w.heap.size u s v kk)
    (hown : w5.ownsRow w.heap.size 57 1 (.slice (some ⟨g, 0, none⟩) n C) n xs) (hval : NodeIs w 0 w.heap.size val x.1 x.2.1 x.2.2) :
    NRow (w5.setCell ⟨g, i, none⟩ val) 0 w5.heap.size (fset k i x) g 0 := by
  have hcells := hown.cells (g := g) rfl
  have ha : ∀ n, (⟨g, 0, none⟩ : Addr).add n = ⟨g, 0 + n, none⟩ := fun n => by unfold Addr.add; split <;> simp_all
  obtain ⟨hg, hglt⟩ := hown.lt g rfl
  have hsame : Same 0 w.heap.size w (w5.setCell ⟨g, i, none⟩ val) := Same.setCell (fun b _ hb' => hb.block b hb') (.inr hg) _
  refine nrow_of_all _ g 0 (Nat.zero_le _) hglt fun j hj => ?_
  rw [flen_set] at hj
  obtain ⟨u, hu⟩ : ∃ u, xs[j]? = some u := ⟨_, List.getElem?_eq_getElem (by omega)⟩
  obtain ⟨x1, y1, s1, v1, k1, e1, hn1⟩ := hall j u hu
  have hcu := hcells j u hu
  rw [ha] at hcu
  by_cases hij : i = j
  · subst hij
    obtain ⟨b', o', e'⟩ := fset_at k i x hj
    exact ⟨b', o', _, _, _, e', val, by rw [Nat.zero_add] at hcu ⊢; exact World.cell?_setCell_same _ _ _ hcu, (hval.same hsame).mono (Nat.le_refl _) hb.size⟩
  · obtain ⟨r', e'⟩ := fset_far k i j x hij e1
    obtain ⟨x2, y2, s2, v2, k2, e2⟩ := fdrop_succ j (fset k i x) (by rw [flen_set]; exact hj)
    rw [e'] at e2
    simp only [BT.node.injEq, Prod.mk.injEq] at e2
    obtain ⟨rfl, rfl, ⟨rfl, rfl⟩, rfl, hr'⟩ := e2
    refine ⟨x1, y1, s1, v1, k1, by rw [e', hr'], u, ?_, (hn1.same hsame).mono (Nat.le_refl _) hb.size⟩
    rw [World.cell?_setCell_other _ _ _ _ (by intro h; have := congrArg Addr.off h; simp at this; omega)]
    exact hcu
end Go.Proofs.Ytlaaihnokoeliaa

/-! C3: - nodePut: another node put to a place; the nodes on the way are made anew. -/
namespace Go.Proofs.Ytlaaihnokoeliaa
open Go.RowKit Go.Deep
attribute [local go_sem ↓] Go.wp_at_zero Go.wp_at_succ

def NpPost (s v : Int) (k : Fo) (place : List Int) (x : Int × Int × Fo) (w : World) (e : Ending) (w' : World) : Prop :=
  ∃ nv t, e = .returned (.tuple #[nv, .bool t]) ∧ Below w.heap.size w w' ∧ ((∃ s' v' k', fput s v k place x = some (s', v', k') ∧ t = true ∧ NodeIs w' 0 w'.heap.size nv s' v' k') ∨ (fput s v k place x = none ∧ t = false))

/-- A place from its n-th number on. -/
theorem cut_from {pA : Option Addr} {pC n : Nat} {place : List Int} (hn : n ≤ place.length) (hc : place.length ≤ pC) : ∃ A', (∀ w : World, (Instr.slice 42 (.slice pA place.length pC) (some (.int .i64 (n : Int))) none none).run Try.prog w = .ok (.slice A' (place.length - n) (pC - n)) w) ∧
    ∀ {w : World} {lo B : Nat}, ISl w lo B pA place → ISc w lo B A' (pC - n) (place.drop n) := by
  obtain ⟨ti, hti, htz, hts, htb⟩ := Try.infoI
  have hsz : ∀ w : World, (sizeOf (Try.prog.elem 42)).run Try.prog w = .ok 1 w := fun w => by
    have he : Try.prog.elem 42 = 3 := by kernel_rfl
    rw [he]
    simp [sizeOf, typeInfo, hti, hts]
  have hel : Try.prog.underlying 42 = some (.slice (Try.prog.elem 42)) := by kernel_rfl
  have hrun : ∀ w : World, (Instr.slice 42 (.slice pA place.length pC) (some (.int .i64 (n : Int))) none none).run Try.prog w = .ok (sliced pA n place.length pC 1) w := fun w => by
    rw [run_slice_l (P := Try.prog) w 42 pA place.length pC hel .i64 (n : Int) (by omega) (by omega), hsz]
    simp [Result.andThen]
  refine ⟨if pC = n then pA else pA.map (·.add (n * 1)), fun w => by rw [hrun w]; rfl, fun {w lo B} h => ⟨?_, by simp; omega⟩⟩
  split
  · exact .inl (List.drop_eq_nil_of_le (by omega))
  · rcases h with rfl | ⟨b, o, rfl, h1, h2, h3⟩
    · exact .inl (by simp)
    · refine .inr ⟨b, o + n, ?_, h1, h2, fun j x hx => ?_⟩
      · have ha : (⟨b, o, none⟩ : Addr).add n = ⟨b, o + n, none⟩ := by unfold Addr.add; split <;> simp_all
        simp only [Option.map_some, Nat.mul_one, ha]
      · rw [List.getElem?_drop] at hx
        rw [show o + n + j = o + (n + j) from by omega]
        exact h3 (n + j) x hx
/-- A place's first n numbers. -/
theorem cut_to {pA : Option Addr} {pC n : Nat} {place : List Int} (hn : n ≤ place.length) (hc : place.length ≤ pC) : (∀ w : World, (Instr.slice 42 (.slice pA place.length pC) none (some (.int .i64 (n : Int))) none).run Try.prog w = .ok (.slice pA n pC) w) ∧
    ∀ {w : World} {lo B : Nat}, ISl w lo B pA place → ISc w lo B pA pC (place.take n) := by
  obtain ⟨ti, hti, htz, hts, htb⟩ := Try.infoI
  have hsz : ∀ w : World, (sizeOf (Try.prog.elem 42)).run Try.prog w = .ok 1 w := fun w => by
    have he : Try.prog.elem 42 = 3 := by kernel_rfl
    rw [he]
    simp [sizeOf, typeInfo, hti, hts]
  have hel : Try.prog.underlying 42 = some (.slice (Try.prog.elem 42)) := by kernel_rfl
  refine ⟨fun w => ?_, fun {w lo B} h => ⟨?_, by simp; omega⟩⟩
  · rw [run_slice_h (P := Try.prog) w 42 pA place.length pC hel .i64 (n : Int) (by omega) (by omega), hsz]
    cases pA <;> simp [Result.andThen, sliced, Addr.add]
  · rcases h with rfl | ⟨b, o, rfl, h1, h2, h3⟩
    · exact .inl (by simp)
    · refine .inr ⟨b, o, rfl, h1, h2, fun j x hx => ?_⟩
      rw [List.getElem?_take] at hx
      split at hx
      · exact h3 j x hx
      · cases hx

end Go.Proofs.Ytlaaihnokoeliaa

/-! SOk: - The program's SubstOk; DrawSubstOk; the first binds of a row. -/
namespace Go.Proofs.Ytlaaihnokoeliaa
open Go.RowKit Go.Deep

set_option maxRecDepth 100000 in
theorem iSubstOk_any (bs : List Bd) (A : Option Addr) (C : Nat) (w : World) (hb : BSl w 0 w.heap.size A bs) (hl : bs.length ≤ 9223372036854775807) :
    Calls Try.prog 14 #[.slice A bs.length C] w fun e w' => e = .returned (.bool (sok 16 bs)) ∧ Below w.heap.size w w' := by
  have HB := Lib.hid hb
  clear hb
  go_enter Try.func14, Try.ntmps14
  go_wp2_with fail
  with_reducible refine (substOf_any bs A C 16 _ HB.out hl (by omega) (by omega)).mono ?_
  rintro e w1 ⟨hb1, hcase⟩
  have HB1 := Lib.hid hb1
  clear hb1
  rcases hcase with ⟨hs, b, rfl, _, _⟩ | ⟨hs, rfl⟩
  · have HS := Lib.hid hs
    clear hs
    go_wp2_with fail
    go_ret
    exact ⟨by rw [HS.out]; rfl, HB1.out⟩
  · have HS := Lib.hid hs
    clear hs
    go_wp2_with fail
    go_ret
    exact ⟨by rw [HS.out]; rfl, HB1.out⟩

theorem sokFrom_take {room : Int} : ∀ (bs : List Bd) (last : Int) (n : Nat), sokFrom room last bs = true → sokFrom room last (bs.take n) = true
  | [], _, _, _ => by simp [sokFrom]
  | _ :: _, _, 0, _ => by simp [sokFrom]
  | x :: r, last, n + 1, h => by
    simp only [sokFrom, Bool.and_eq_true, List.take_succ_cons] at h ⊢
    exact ⟨h.1, h.2.1, h.2.2.1, sokFrom_take r x.1 n h.2.2.2⟩
theorem BSl.take {w : World} {lo B : Nat} {A : Option Addr} {bs : List Bd} (h : BSl w lo B A bs) (n : Nat) : BSl w lo B A (bs.take n) := by
  rcases h with rfl | ⟨b, o, e, h1, h2, h3⟩
  · exact .inl (by simp)
  · refine .inr ⟨b, o, e, h1, h2, fun i x hx => h3 i x ?_⟩
    rw [List.getElem?_take] at hx
    split at hx
    · exact hx
    · cases hx
theorem cutB_to {A : Option Addr} {L C n : Nat} (hn : n ≤ L) (hc : L ≤ C) (w : World) : (Instr.slice 28 (.slice A L C) none (some (.int .i64 (n : Int))) none).run Try.prog w = .ok (.slice A n C) w := by
  obtain ⟨ti, hti, htz, hts, htb⟩ := Try.infoBind
  have hsz : ∀ w : World, (sizeOf (Try.prog.elem 28)).run Try.prog w = .ok 4 w := fun w => by
    have he : Try.prog.elem 28 = 41 := by kernel_rfl
    rw [he]
    simp [sizeOf, typeInfo, hti, hts]
  have hel : Try.prog.underlying 28 = some (.slice (Try.prog.elem 28)) := by kernel_rfl
  rw [run_slice_h (P := Try.prog) w 28 A L C hel .i64 (n : Int) (by omega) (by omega), hsz]
  cases A <;> simp [Result.andThen, sliced, Addr.add]
theorem BOwn.cap {w : World} {base : Nat} {bs : List Bd} {A : Option Addr} {C : Nat} (h : BOwn w base bs A C) : bs.length ≤ C := by
  obtain ⟨xs, hown, _⟩ := h
  rcases hown.2 with ⟨_, h2⟩ | ⟨g, cap, cur, h3, _, _, h6, _⟩
  · omega
  · simp only [Value.slice.injEq] at h3
    omega

def DsoPost (w : World) (e : Ending) (w' : World) : Prop :=
  ∃ bs A C, e = .returned (.slice A (List.length bs) C) ∧ bs.length ≤ 21 ∧ bs.length ≤ C ∧ Below w.heap.size w w' ∧ BSl w' w.heap.size w'.heap.size A bs

end Go.Proofs.Ytlaaihnokoeliaa

/-! FrameO: What every row's closing text needs. -/
namespace Go.Proofs.Ytlaaihnokoeliaa
theorem Try.own : ownKnob Try.prog.godebug = none := by kernel_rfl
theorem Try.laidOut : laidOutB Try.prog = true := by kernel_rfl
end Go.Proofs.Ytlaaihnokoeliaa

/-! Frame: A slice of bytes that came in, as the walks take it. -/
namespace Go.Proofs.Ytlaaihnokoeliaa
open Go.ChangeShapes Go.WideShapes Go.ChangeAt Go.RowKit

/-- A slice of bytes: it is nil; or it leads to a row of cap cells. -/
def IsRow (w : World) (a : Option Addr) (len cap : Nat) (zs : List Int) : Prop :=
  (a = none ∧ len = 0 ∧ cap = 0 ∧ zs = []) ∨
  ∃ x, a = some x ∧ len ≤ cap ∧ cap ≤ maxLen ∧ zs.length = cap ∧ (∀ i, i < zs.length → w.cell? (x.add i) = some (.int .u8 (zs.getD i 0))) ∧ ∀ n ∈ zs, (Lit.int .u8 n).wf = true

theorem bytes_of_row {w : World} {a : Option Addr} {len cap : Nat} {zs : List Int} (h : IsRow w a len cap zs) : Bytes w a len ∧ len ≤ cap := by
  rcases h with ⟨_, h1, h2, _⟩ | ⟨x, rfl, h1, _, h2, h3, h4⟩
  · exact ⟨.inl h1, by omega⟩
  · refine ⟨?_, h1⟩
    by_cases hl : len = 0
    · exact .inl hl
    · obtain ⟨b, o, spot⟩ := x
      have c0 := h3 0 (by omega)
      have hs : spot = none := by simpa [Addr.add] using World.cell?_spot c0
      subst hs
      have ha : ∀ n, (⟨b, o, none⟩ : Addr).add n = ⟨b, o + n, none⟩ := fun n => by unfold Addr.add; split <;> simp_all
      rw [ha] at c0
      refine .inr ⟨b, o, rfl, World.block_lt_of_cell? _ _ c0, fun i hi => ?_⟩
      have ci := h3 i (by omega)
      rw [ha] at ci
      have hm : zs.getD i 0 ∈ zs := by
        rw [List.getD_eq_getElem?_getD, List.getElem?_eq_getElem (by omega)]
        exact List.getElem_mem _
      have hb := bounds_u8 (h4 _ hm)
      obtain ⟨n, hn⟩ := Int.eq_ofNat_of_zero_le hb.1
      exact ⟨n, by omega, by rw [ci, hn]⟩

/-- Out of the reading of an argument. -/
theorem row_of_trod {H : Type} {enc : TypeId × Value → H} {W : World} {a : Option Addr} {len cap : Nat} {d : DataW H} {p : List MemPlace} (h : DataW.Trod enc Try.prog W 0 (fun _ => true) true 22 (.slice a len cap) d p) : ∃ zs, IsRow W a len cap zs := by
  obtain ⟨fuel, hf⟩ := h
  rcases open_ints Try.underlying22 Try.underlying5 (by kernel_rfl) hf with ⟨hcs, _⟩ | ⟨x, l, c, zs, hcs, _, hl, hm, hz, _, hcell, hwz⟩
  · simp [Value.cells] at hcs
    obtain ⟨rfl, rfl, rfl⟩ := hcs
    exact ⟨[], .inl ⟨rfl, rfl, rfl, rfl⟩⟩
  · simp [Value.cells] at hcs
    obtain ⟨rfl, rfl, rfl⟩ := hcs
    exact ⟨zs, .inr ⟨_, rfl, hl, hm, by simpa using hz, hcell, hwz⟩⟩

end Go.Proofs.Ytlaaihnokoeliaa

/-! PL0: Variables named in the order in which they come, as plain data. -/
namespace Go.Proofs.Ytlaaihnokoeliaa
open Go.RowKit Go.Deep

/-- One more variable named. -/
def nm1 (bs : List Bd) (x : Int) : List Bd := match sv bs x with
  | some _ => bs
  | none => ladd bs (x, 0, (bs.length : Int), .nil)
/-- Variables named in the order in which they come. -/
def nmL : List Bd → List Int → List Bd
  | bs, [] => bs
  | bs, x :: r => nmL (nm1 bs x) r
theorem nmL_app : ∀ (xs ys : List Int) (bs : List Bd), nmL bs (xs ++ ys) = nmL (nmL bs xs) ys
  | [], _, _ => rfl
  | x :: r, ys, bs => by simp only [List.cons_append, nmL]; exact nmL_app r ys _
theorem nm1_some {bs : List Bd} {x : Int} {t : Int × Int × Fo} (h : sv bs x = some t) : nm1 bs x = bs := by unfold nm1; rw [h]
theorem nm1_none {bs : List Bd} {x : Int} (h : sv bs x = none) : nm1 bs x = ladd bs (x, 0, (bs.length : Int), .nil) := by unfold nm1; rw [h]
theorem nm1_ext (bs : List Bd) (x : Int) : Ext bs (nm1 bs x) := by
  cases h : sv bs x with
  | some t => rw [nm1_some h]; exact fun _ _ h => h
  | none => rw [nm1_none h]; exact ext_ladd (b := (x, 0, (bs.length : Int), .nil)) h
theorem nmL_ext : ∀ (xs : List Int) (bs : List Bd), Ext bs (nmL bs xs)
  | [], _ => fun _ _ h => h
  | x :: r, bs => fun y t h => nmL_ext r _ y t (nm1_ext bs x y t h)
theorem nm1_dom (bs : List Bd) (x y : Int) : (sv (nm1 bs x) y).isSome = true ↔ (sv bs y).isSome = true ∨ y = x := by
  cases h : sv bs x with
  | some t =>
    rw [nm1_some h]
    exact ⟨.inl, fun h2 => h2.elim id fun e => by rw [e, h]; rfl⟩
  | none =>
    rw [nm1_none h, sv_ladd (b := (x, 0, (bs.length : Int), .nil)) h]
    dsimp only
    split
    · rename_i e; simp [e]
    · rename_i e; exact ⟨.inl, fun h2 => h2.elim id fun e2 => absurd e2.symm e⟩
theorem nmL_dom : ∀ (xs : List Int) (bs : List Bd) (y : Int), (sv (nmL bs xs) y).isSome = true ↔ (sv bs y).isSome = true ∨ y ∈ xs
  | [], bs, y => by simp [nmL]
  | x :: r, bs, y => by simp only [nmL]; rw [nmL_dom r, nm1_dom, List.mem_cons, or_assoc]
theorem nm1_asc {bs : List Bd} (x : Int) (h : Asc bs) : Asc (nm1 bs x) := by
  cases hs : sv bs x with
  | some t => rw [nm1_some hs]; exact h
  | none => rw [nm1_none hs]; exact asc_ladd h hs
theorem nmL_asc : ∀ (xs : List Int) (bs : List Bd), Asc bs → Asc (nmL bs xs)
  | [], _, h => h
  | x :: r, _, h => nmL_asc r _ (nm1_asc x h)
theorem nm1_len (bs : List Bd) (x : Int) : bs.length ≤ (nm1 bs x).length ∧ (nm1 bs x).length ≤ bs.length + 1 := by
  cases hs : sv bs x with
  | some t => rw [nm1_some hs]; omega
  | none => rw [nm1_none hs, ladd_len]; omega
theorem nmL_len : ∀ (xs : List Int) (bs : List Bd), bs.length ≤ (nmL bs xs).length ∧ (nmL bs xs).length ≤ bs.length + xs.length
  | [], bs => by simp [nmL]
  | x :: r, bs => by
    have h1 := nm1_len bs x
    have h2 := nmL_len r (nm1 bs x)
    simp only [nmL, List.length_cons]; omega
/-- Each name is a number below how many there are; no two are the same. -/
def Nmd (bs : List Bd) : Prop := (∀ x t, sv bs x = some t → t.1 = 0 ∧ t.2.2 = .nil ∧ 0 ≤ t.2.1 ∧ t.2.1 < bs.length) ∧ ∀ x y t u, sv bs x = some t → sv bs y = some u → t.2.1 = u.2.1 → x = y
theorem Nmd.nil : Nmd [] := ⟨fun _ _ h => by simp [sv] at h, fun _ _ _ _ h => by simp [sv] at h⟩
theorem nm1_nmd {bs : List Bd} (x : Int) (h : Nmd bs) : Nmd (nm1 bs x) := by
  cases hs : sv bs x with
  | some t => rw [nm1_some hs]; exact h
  | none =>
    rw [nm1_none hs]
    refine ⟨fun y t ht => ?_, fun y z t u ht hu he => ?_⟩
    · rw [sv_ladd (b := (x, 0, (bs.length : Int), .nil)) hs] at ht
      rw [ladd_len]
      split at ht
      · obtain rfl := Option.some.inj ht; exact ⟨rfl, rfl, by simp, by dsimp only; omega⟩
      · obtain ⟨a1, a2, a3, a4⟩ := h.1 y t ht; exact ⟨a1, a2, a3, by omega⟩
    · rw [sv_ladd (b := (x, 0, (bs.length : Int), .nil)) hs] at ht hu
      split at ht
      · rename_i e1
        obtain rfl := Option.some.inj ht
        split at hu
        · rename_i e2; exact e1.symm.trans e2
        · have := (h.1 z u hu).2.2.2; dsimp only at he; omega
      · split at hu
        · obtain rfl := Option.some.inj hu
          have := (h.1 y t ht).2.2.2; dsimp only at he; omega
        · exact h.2 y z t u ht hu he
theorem nmL_nmd : ∀ (xs : List Int) (bs : List Bd), Nmd bs → Nmd (nmL bs xs)
  | [], _, h => h
  | x :: r, _, h => nmL_nmd r _ (nm1_nmd x h)
/-- How a variable is named. -/
def nmOf (bs : List Bd) (x : Int) : Int := (tsub (sv bs) 0 x .nil).2.1
theorem nmOf_some {bs : List Bd} {x : Int} {t : Int × Int × Fo} (h : sv bs x = some t) : nmOf bs x = t.2.1 := by unfold nmOf; rw [tsub_var rfl h]

/-- The names of a term. -/
def nms (s v : Int) (k : Fo) : List Bd := nmL [] (fvs s v k)
theorem nms_in {s v : Int} {k : Fo} (h : okW s v k 16 = true) : Asc (nms s v k) ∧ Nmd (nms s v k) ∧ (∀ x, (sv (nms s v k) x).isSome = true ↔ x ∈ fvs s v k) ∧ (nms s v k).map (·.1) = tvR s v k ∧ (nms s v k).length ≤ 12 := by
  have h1 : Asc (nms s v k) := nmL_asc _ _ List.Pairwise.nil
  have h3 : ∀ x, (sv (nms s v k) x).isSome = true ↔ x ∈ fvs s v k := fun x => by unfold nms; rw [nmL_dom]; simp [sv]
  have h4 : (nms s v k).map (·.1) = tvR s v k := by
    unfold tvR
    rw [if_pos h]
    refine strict_ext _ _ (map_asc h1) (among_strict _ _) fun x => ?_
    rw [← sv_some, h3 x, among_mem]
    exact ⟨fun hx => by have := fvs_in h x hx; exact ⟨hx, by omega, by omega⟩, fun hx => hx.1⟩
  refine ⟨h1, nmL_nmd _ _ Nmd.nil, h3, h4, ?_⟩
  have h5 := congrArg List.length h4
  rw [List.length_map] at h5
  rw [h5]
  unfold tvR
  rw [if_pos h]
  exact among_len _ _
theorem nms_bof {s v : Int} {k : Fo} (h : okW s v k 16 = true) : Bof (nms s v k) 0 := fun x t ht => by
  obtain ⟨_, h2, _, _, h5⟩ := nms_in h
  obtain ⟨a1, a2, a3, a4⟩ := h2.1 x t ht
  refine ⟨(okN_iff _ _ _).2 ⟨?_, fun _ => ⟨a3, by omega⟩, fun hne => absurd a1 hne⟩, ?_, ?_⟩
  · rw [a1, a2]; simp [flen, ar]
  · rw [a2]; rfl
  · rw [a2]; simp [fsz]
theorem nms_sok {s v : Int} {k : Fo} (h : okW s v k 16 = true) : sok 16 (nms s v k) = true := by
  obtain ⟨h1, _, h3, _, _⟩ := nms_in h
  exact sok_of h1 (fun x hx => fvs_in h x ((h3 x).1 hx)) (fun x t ht => ⟨(nms_bof h x t ht).1, (nms_bof h x t ht).2.1, by have := (nms_bof h x t ht).2.2; omega⟩)
/-- The answer of TermPlain. -/
def plR (s v : Int) (k : Fo) : (Int × Int × Fo) × List Bd := if okW s v k 16 = true then (tsub (sv (nms s v k)) s v k, nms s v k) else ((0, 0, .nil), [])

/-- A row in which variables stand for variables has the same form. -/
theorem fsub_form {σ : Int → Option (Int × Int × Fo)} (h : ∀ x t, σ x = some t → t.1 = 0 ∧ t.2.2 = .nil) : ∀ k : Fo, fok k = true → fsz (fsub σ k) = fsz k ∧ ∀ i, fpl (fsub σ k) i = fpl k i
  | .nil, _ => ⟨rfl, fun _ => rfl⟩
  | .node x y p k r, hk => by
    simp only [fok, Bool.and_eq_true] at hk
    obtain ⟨r1, r2⟩ := fsub_form h r hk.2
    obtain ⟨k1, k2⟩ := fsub_form h k hk.1.2
    simp only [fsub]
    by_cases e : p.1 = 0
    · have hn : k = .nil := kids_none (v := p.2) (by rw [← e]; exact hk.1.1)
      subst hn
      rw [if_pos e]
      cases hs : σ p.2 with
      | none => exact ⟨by simp only [fsz, r1], fun i => by simp only [fpl, r2]⟩
      | some t =>
        have ht := (h _ _ hs).2
        dsimp only
        rw [ht]
        exact ⟨by simp only [fsz, r1], fun i => by simp only [fpl, r2]⟩
    · rw [if_neg e]
      exact ⟨by simp only [fsz, k1, r1], fun i => by simp only [fpl, k2, r2]⟩
theorem tsub_form {σ : Int → Option (Int × Int × Fo)} (h : ∀ x t, σ x = some t → t.1 = 0 ∧ t.2.2 = .nil) {s v : Int} {k : Fo} (h1 : okN s v (flen k) = true) (h2 : fok k = true) : fsz (tsub σ s v k).2.2 = fsz k ∧ places (tsub σ s v k).2.2 = places k := by
  by_cases e : s = 0
  · subst e
    have hn := kids_none h1
    subst hn
    rw [tsub0]
    cases hs : σ v with
    | none => exact ⟨rfl, rfl⟩
    | some t =>
      have ht := (h _ _ hs).2
      simp only [Option.getD]
      rw [ht]; exact ⟨rfl, rfl⟩
  · rw [tsub_sym e]
    obtain ⟨a, b⟩ := fsub_form h k h2
    exact ⟨a, by unfold places; rw [b]⟩
theorem plR_cases {s v : Int} {k : Fo} {s' v' : Int} {k' : Fo} {bs : List Bd} (h : plR s v k = ((s', v', k'), bs)) :
    (okW s v k 16 = false ∧ s' = 0 ∧ v' = 0 ∧ k' = .nil ∧ bs = []) ∨ (okW s v k 16 = true ∧ bs = nms s v k ∧ tsub (sv (nms s v k)) s v k = (s', v', k') ∧ okW s' v' k' 16 = true ∧ fsz k' = fsz k ∧ places k' = places k) := by
  unfold plR at h
  split at h
  · rename_i hok
    simp only [Prod.mk.injEq] at h
    obtain ⟨h1, h2⟩ := h
    obtain ⟨o1, o2, o3⟩ := (okW_iff _ _ _ _).1 hok
    obtain ⟨_, hn, _, _, _⟩ := nms_in hok
    have hf := tsub_form (σ := sv (nms s v k)) (fun x t ht => ⟨(hn.1 x t ht).1, (hn.1 x t ht).2.1⟩) o1 o2
    have ht := tsub_ok (nms_sok hok) hok
    rw [h1] at hf ht
    dsimp only at hf ht
    exact .inr ⟨hok, h2.symm, h1, (okW_iff _ _ _ _).2 ⟨ht.1, ht.2.1, by have := hf.1; omega⟩, hf.1, hf.2⟩
  · rename_i hok
    simp only [Prod.mk.injEq] at h
    exact .inl ⟨by simpa using hok, h.1.1.symm, h.1.2.1.symm, h.1.2.2.symm, h.2.symm⟩
theorem plR_small {s v : Int} {k : Fo} {s' v' : Int} {k' : Fo} {bs : List Bd} (h : plR s v k = ((s', v', k'), bs)) : fsz k' ≤ 15 ∧ bs.length ≤ 12 ∧ ∀ x ∈ bs, fsz x.2.2.2 ≤ 1000000 := by
  rcases plR_cases h with ⟨_, _, _, rfl, rfl⟩ | ⟨hok, rfl, _, ho, _, _⟩
  · exact ⟨by simp [fsz], by simp, fun x hx => by cases hx⟩
  · have h1 := ((okW_iff _ _ _ _).1 ho).2.2
    obtain ⟨ha, _, _, _, h5⟩ := nms_in hok
    exact ⟨by omega, h5, fun x hx => by have := (nms_bof hok x.1 x.2 (sv_mem ha hx)).2.2; omega⟩

/-- The variables of what comes of names. -/
theorem fvl_names {σ : Int → Option (Int × Int × Fo)} : ∀ k : Fo, (∀ x ∈ fvl k, ∃ t, σ x = some t ∧ t.1 = 0) → fvl (fsub σ k) = (fvl k).map fun x => (tsub σ 0 x .nil).2.1
  | .nil, _ => rfl
  | .node x y p k r, h => by
    simp only [fvl, List.mem_append] at h
    have hr := fvl_names r fun z hz => h z (.inr hz)
    rw [fsub_sign]
    by_cases e : p.1 = 0
    · obtain ⟨t, ht, h0⟩ := h p.2 (.inl (by rw [if_pos e]; simp))
      rw [tsub_var e ht]
      simp only [fvl, if_pos h0, if_pos e, hr, List.map_append, List.map_cons, List.map_nil]
      rw [tsub_var rfl ht]
    · rw [tsub_sym e]
      simp only [fvl, if_neg e, hr, List.map_append]
      rw [fvl_names k fun z hz => h z (.inl (by rw [if_neg e]; exact hz))]
theorem fvs_names {bs : List Bd} (hn : Nmd bs) {s v : Int} {k : Fo} (h : ∀ x ∈ fvs s v k, (sv bs x).isSome = true) {s' v' : Int} {k' : Fo} (ht : tsub (sv bs) s v k = (s', v', k')) : fvs s' v' k' = (fvs s v k).map (nmOf bs) := by
  unfold fvs at h
  have hx : ∀ x, (sv bs x).isSome = true → ∃ t, sv bs x = some t ∧ t.1 = 0 := fun x hx => by
    obtain ⟨t, ht⟩ := Option.isSome_iff_exists.1 hx
    exact ⟨t, ht, (hn.1 x t ht).1⟩
  by_cases e : s = 0
  · rw [if_pos e] at h
    obtain ⟨t, h1, h0⟩ := hx v (h v (by simp))
    rw [tsub_var e h1] at ht
    subst ht
    dsimp only at h0
    unfold fvs
    rw [if_pos h0, if_pos e, List.map_cons, List.map_nil, nmOf_some h1]
  · rw [if_neg e] at h
    rw [tsub_sym e] at ht
    simp only [Prod.mk.injEq] at ht
    obtain ⟨rfl, rfl, rfl⟩ := ht
    unfold fvs
    rw [if_neg e, if_neg e]
    exact fvl_names k fun x hxx => hx x (h x hxx)
/-- Named anew, names stay; there are as many. -/
theorem nms_anew (B : List Bd) : ∀ (xs : List Int) (bs cs : List Bd), Ext (nmL bs xs) B → Nmd B → cs.length = bs.length → Nmd bs → (∀ x t, sv bs x = some t → sv cs t.2.1 = some (0, t.2.1, .nil)) → (∀ m, (sv cs m).isSome = true → 0 ≤ m ∧ m < bs.length) →
    (nmL cs (xs.map (nmOf B))).length = (nmL bs xs).length ∧ ∀ x t, sv (nmL bs xs) x = some t → sv (nmL cs (xs.map (nmOf B))) t.2.1 = some (0, t.2.1, .nil)
  | [], bs, cs, _, _, hl, _, hv, _ => ⟨hl, hv⟩
  | x :: r, bs, cs, hB, hNB, hl, hN, hv, hd => by
    simp only [List.map_cons, nmL]
    simp only [nmL] at hB
    cases hs : sv bs x with
    | some t =>
      have hx := hB x t (nmL_ext r _ x t (nm1_ext bs x x t hs))
      have h1 := hv x t hs
      rw [nmOf_some hx, nm1_some h1, nm1_some hs]
      rw [nm1_some hs] at hB
      exact nms_anew B r bs cs hB hNB hl hN hv hd
    | none =>
      have hx0 : sv (nm1 bs x) x = some (0, (bs.length : Int), .nil) := by rw [nm1_none hs, sv_ladd (b := (x, 0, (bs.length : Int), .nil)) hs]; simp
      have hx := hB x _ (nmL_ext r _ x _ hx0)
      have h1 : sv cs (bs.length : Int) = none := by
        cases h : sv cs (bs.length : Int) with
        | none => rfl
        | some u => have := (hd (bs.length : Int) (by rw [h]; rfl)).2; omega
      rw [nmOf_some hx]
      dsimp only
      have hc : nm1 cs (bs.length : Int) = ladd cs ((bs.length : Int), 0, (bs.length : Int), .nil) := by rw [nm1_none h1, hl]
      have hb : nm1 bs x = ladd bs (x, 0, (bs.length : Int), .nil) := nm1_none hs
      refine nms_anew B r (nm1 bs x) (nm1 cs (bs.length : Int)) hB hNB ?_ (nm1_nmd x hN) (fun y t ht => ?_) (fun m hm => ?_)
      · rw [hc, hb, ladd_len, ladd_len, hl]
      · rw [hb, sv_ladd (b := (x, 0, (bs.length : Int), .nil)) hs] at ht
        rw [hc, sv_ladd (b := ((bs.length : Int), 0, (bs.length : Int), .nil)) h1]
        split at ht
        · obtain rfl := Option.some.inj ht; dsimp only; rw [if_pos rfl]
        · have h4 := (hN.1 y t ht).2.2.2
          dsimp only
          rw [if_neg (by omega)]
          exact hv y t ht
      · rw [hc, sv_ladd (b := ((bs.length : Int), 0, (bs.length : Int), .nil)) h1] at hm
        rw [hb, ladd_len]
        split at hm
        · rename_i e; dsimp only at e; omega
        · have := hd m hm; omega
theorem fsub_self {σ : Int → Option (Int × Int × Fo)} : ∀ k : Fo, fok k = true → (∀ x ∈ fvl k, σ x = some (0, x, .nil)) → fsub σ k = k
  | .nil, _, _ => rfl
  | .node x y p k r, hk, h => by
    simp only [fok, Bool.and_eq_true] at hk
    simp only [fvl, List.mem_append] at h
    have hr := fsub_self r hk.2 fun z hz => h z (.inr hz)
    rw [fsub_sign, hr]
    by_cases e : p.1 = 0
    · have hn : k = .nil := kids_none (v := p.2) (by rw [← e]; exact hk.1.1)
      have h0 := h p.2 (.inl (by rw [if_pos e]; simp))
      rw [tsub_var e h0, hn]
      have : p = (0, p.2) := Prod.ext e rfl
      rw [this]
    · rw [tsub_sym e, fsub_self k hk.1.2 fun z hz => h z (.inl (by rw [if_neg e]; exact hz))]
theorem tsub_self {σ : Int → Option (Int × Int × Fo)} {s v : Int} {k : Fo} (h1 : okN s v (flen k) = true) (h2 : fok k = true) (h : ∀ x ∈ fvs s v k, σ x = some (0, x, .nil)) : tsub σ s v k = (s, v, k) := by
  unfold fvs at h
  by_cases e : s = 0
  · subst e
    rw [if_pos rfl] at h
    rw [tsub_var rfl (h v (by simp)), kids_none h1]
  · rw [if_neg e] at h
    rw [tsub_sym e, fsub_self k h2 h]
/-- Named anew twice is named anew once. -/
theorem plain_twice {s v : Int} {k : Fo} {s' v' : Int} {k' : Fo} {bs : List Bd} (h : plR s v k = ((s', v', k'), bs)) (hok : okW s v k 16 = true) : plR s' v' k' = ((s', v', k'), nms s' v' k') ∧ (nms s' v' k').length = (nms s v k).length := by
  rcases plR_cases h with ⟨h0, _⟩ | ⟨_, rfl, ht, ho, _, _⟩
  · rw [hok] at h0; cases h0
  obtain ⟨o1, o2, _⟩ := (okW_iff _ _ _ _).1 ho
  obtain ⟨_, hn, hd, _, _⟩ := nms_in hok
  have hf := fvs_names hn (fun x hx => (hd x).2 hx) ht
  have hA := nms_anew (nms s v k) (fvs s v k) [] [] (fun _ _ h => h) hn rfl Nmd.nil (fun _ _ h => by simp [sv] at h) (fun _ h => by simp [sv] at h)
  have hE : nms s' v' k' = nmL [] ((fvs s v k).map (nmOf (nms s v k))) := by unfold nms; rw [hf]; rfl
  refine ⟨?_, by rw [hE]; exact hA.1⟩
  unfold plR
  rw [if_pos ho]
  refine Prod.ext ?_ rfl
  refine tsub_self o1 o2 fun m hm => ?_
  rw [hf] at hm
  obtain ⟨x, hx, rfl⟩ := List.mem_map.1 hm
  obtain ⟨t, hxt⟩ := Option.isSome_iff_exists.1 ((hd x).2 hx)
  rw [nmOf_some hxt, hE]
  exact hA.2 x t hxt
/-- A plain term is the term but for names. -/
theorem plain_back {s v : Int} {k : Fo} {s' v' : Int} {k' : Fo} {bs : List Bd} (h : plR s v k = ((s', v', k'), bs)) (hok : okW s v k 16 = true) : sdR bs s v k = (s', v', k', true) ∧ (∃ b1, maR s v k s' v' k' = (b1, true)) ∧ ∃ b2, maR s' v' k' s v k = (b2, true) := by
  rcases plR_cases h with ⟨h0, _⟩ | ⟨_, rfl, ht, ho, _, _⟩
  · rw [hok] at h0; cases h0
  obtain ⟨p1, p2, p3⟩ := (okW_iff _ _ _ _).1 ho
  obtain ⟨o1, o2, _⟩ := (okW_iff _ _ _ _).1 hok
  obtain ⟨_, hn, hd, _, _⟩ := nms_in hok
  obtain ⟨b1, hb1, _⟩ := ma_made hok ho ht
  refine ⟨sdR_of (nms_sok hok) hok ht (by omega), ⟨b1, hb1⟩, ?_⟩
  let τ : Int → Option (Int × Int × Fo) := fun m => ((nms s v k).find? fun b => decide (b.2.2.1 = m)).map fun b => (0, b.1, .nil)
  have hτ : ∀ x t, sv (nms s v k) x = some t → τ t.2.1 = some (0, x, .nil) := fun x t hx => by
    have hm := mem_sv hx
    cases hf : (nms s v k).find? fun b => decide (b.2.2.1 = t.2.1) with
    | none =>
      have := List.find?_eq_none.1 hf _ hm
      simp at this
    | some b =>
      have h1 := List.find?_some hf
      have h2 := List.mem_of_find?_eq_some hf
      simp only [decide_eq_true_eq] at h1
      have h3 := sv_mem (nms_in hok).1 h2
      have h4 := hn.2 b.1 x b.2 t h3 hx h1
      show Option.map _ ((nms s v k).find? fun b => decide (b.2.2.1 = t.2.1)) = _
      rw [hf, ← h4]; rfl
  have hc := tsub_comp (σ := sv (nms s v k)) (τ := τ) (s := s) (v := v) (k := k) fun x hx => (hd x).2 hx
  rw [ht] at hc
  dsimp only at hc
  have hs : tsub (comp (sv (nms s v k)) τ) s v k = (s, v, k) := tsub_self o1 o2 fun x hx => by
    obtain ⟨t, hxt⟩ := Option.isSome_iff_exists.1 ((hd x).2 hx)
    obtain ⟨a1, a2, _, _⟩ := hn.1 x t hxt
    rw [comp_some hxt]
    rw [tsub_var a1 (hτ x t hxt)]
  rw [hs] at hc
  obtain ⟨b2, hb2, _⟩ := ma_made ho hok hc
  exact ⟨b2, hb2⟩
end Go.Proofs.Ytlaaihnokoeliaa
