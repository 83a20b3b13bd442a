/- Several texts in one: V3, C2, C3. -/
import Derived.Test.YtkmfnhoeigoajaaKSub7
import Derived.Test.YtkmfnhoeigoajaaKSub12
import Derived.Shelf.Sort.Plain
import Derived.Shelf.Slices.CompactI
import Derived.Shelf.Slices.In.SortNone
import Derived.Ground.NamesProg
import Derived.Ground.Names2Prog
import Derived.Sort.OwnSortedInts
import Derived.Lib.OwnBridge
import Derived.Test.YtkmfnhoeigoajaaKSub11
import Derived.Lib.SliceRun
import Derived.Deep.RegionHeld3

/-! V3: slices.Sort and slices.Compact on numbers of the call's own; impl.TermVars. -/
namespace Go.Proofs.Ytkmfnhoeigoajaa
open Go.RowKit Go.Deep Go.Sort

/-- Sorted. -/
def srt (xs : List Int) : List Int := xs.mergeSort fun x y => decide (x ≤ y)
theorem srt_len (xs : List Int) : (srt xs).length = xs.length := List.length_mergeSort _

theorem iown_some {w : World} {base : Nat} {xs : List Int} {A : Option Addr} {C : Nat} (h : IOwn w base xs A C) (hx : 0 < xs.length) :
    ∃ g cur, A = some ⟨g, 0, none⟩ ∧ base ≤ g ∧ g < w.heap.size ∧ xs.length ≤ C ∧ C ≤ maxLen ∧ cur.size = C * 1 ∧ w.heap[g]? = some (.cells cur 3 (0, 0)) ∧ Holds (Value.int .i64) w g 0 xs.toArray := by
  rcases h.2 with ⟨_, h0⟩ | ⟨g, cap, cur, hv, hb, hg, hn, hm, hs, ht⟩
  · omega
  · simp only [Value.slice.injEq] at hv
    obtain ⟨rfl, _, rfl⟩ := hv
    have hlt : g < w.heap.size := by
      rcases Nat.lt_or_ge g w.heap.size with h' | h'
      · exact h'
      · rw [Array.getElem?_eq_none h'] at hg; cases hg
    exact ⟨g, cur, rfl, hb, hlt, hn, hm, hs, hg, holds_of_blockI hg (by rw [Nat.mul_one] at ht; exact ht)⟩

theorem sort_any (base : Nat) (xs : List Int) (A : Option Addr) (C : Nat) (w : World) (h : IOwn w base xs A C) (hl : xs.length ≤ 2000) (hb : base ≤ w.heap.size) :
    Calls Try.prog 37 #[.slice A xs.length C] w fun e w' => e = .returned (.tuple #[]) ∧ w'.ownsRow base 3 1 (.slice A xs.length C) xs.length ((srt xs).map (Value.int .i64)) ∧ Below base w w' := by
  rcases Nat.eq_zero_or_pos xs.length with h0 | h0
  · have hx := List.eq_nil_of_length_eq_zero h0
    subst hx
    refine (Any.slices_Sort_int_none Try.lays189 A C w).mono ?_
    rintro e w' ⟨rfl, rfl⟩
    exact ⟨rfl, by simpa [srt, IOwn] using h, Below.refl _ _⟩
  · obtain ⟨g, cur, rfl, hbg, hgl, hc, hm, hs, hg, hH⟩ := iown_some h h0
    refine (Any.slices_Sort_int Try.lays189 g 0 C xs w hH hgl (by omega)).mono ?_
    rintro e w' ⟨rfl, n, os, rfl⟩
    exact ⟨rfl, ownsRow_sortedI (ss := xs) (ts := srt xs) (srt_len xs) hbg hg hc hm hs, (Below.refl _ _).grown (grownBy_sortedI _) hb (fun k hk => by simp at hk; omega)⟩

theorem compact_any (base : Nat) (zs : List Int) (A : Option Addr) (C : Nat) (w : World) (h : IOwn w base zs A C) (hl : zs.length ≤ 2000) (hb : base ≤ w.heap.size) :
    Calls Try.prog 38 #[.slice A zs.length C] w fun e w' => ∃ A' C', e = .returned (.slice A' (Lib.compact zs).length C') ∧ IOwn w' base (Lib.compact zs) A' C' ∧ Below base w w' := by
  rcases Nat.eq_zero_or_pos zs.length with h0 | h0
  · have hx := List.eq_nil_of_length_eq_zero h0
    subst hx
    refine (Any.slices_Compact_int_empty Try.laysNm220 A C w).mono ?_
    rintro e w' ⟨rfl, rfl⟩
    exact ⟨A, C, by simp [Lib.compact, Lib.compactUpTo], by simpa [Lib.compact, Lib.compactUpTo, IOwn] using h, Below.refl _ _⟩
  · obtain ⟨g, cur, rfl, hbg, hgl, hc, hm, hs, hg, hH⟩ := iown_some h h0
    refine (Any.slices_Compact_int Try.laysNm220 g 0 C zs w hH (by omega) hc).mono ?_
    rintro e w' ⟨rfl, q, rfl⟩
    have hle := Lib.compact_length_le zs
    have h1 := Lib.ownsRow_putRow (q := q) (ys := Lib.compact zs ++ List.replicate (zs.length - (Lib.compact zs).length) 0) (k := (Lib.compact zs).length) h (by simp; omega) hle
    refine ⟨_, _, rfl, ?_, Lib.below_putRow (Below.refl _ _) hbg⟩
    unfold IOwn
    rw [List.take_left' rfl] at h1
    exact h1

def tvR (s v : Int) (k : Fo) : List Int := if okW s v k 16 = true then among (fvs s v k) 12 else []
theorem among_len (xs : List Int) (n : Nat) : (among xs n).length ≤ n := by
  refine Nat.le_trans (List.length_filter_le _ _) ?_
  simp
theorem tvR_len (s v : Int) (k : Fo) : (tvR s v k).length ≤ 12 := by
  unfold tvR
  split
  · exact among_len _ _
  · simp
def TvPost (s v : Int) (k : Fo) (w : World) (e : Ending) (w' : World) : Prop :=
  ∃ A C xs, xs = tvR s v k ∧ e = .returned (.slice A (List.length xs) C) ∧ Below w.heap.size w w' ∧ IOwn w' w.heap.size xs A C

set_option maxRecDepth 100000 in
set_option maxHeartbeats 1000000 in
theorem iTermVars_any (s v : Int) (a : Option Addr) (c : Nat) (k : Fo) (w : World) (hl : Sl w 0 w.heap.size a k) :
    Calls Try.prog 17 #[.agg #[.int .i64 s, .int .i64 v, .slice a (flen k) c]] w (TvPost s v k w) := by
  have HL := Lib.hid hl
  clear hl
  have hb0 : Below w.heap.size w (w.alloc (.cells #[.int .i64 s, .int .i64 v, .slice a (flen k) c] 26)) := (Below.refl _ _).alloc (Nat.le_refl _) _
  have HB0 := Lib.hid hb0
  clear hb0
  go_enter Try.func17, Try.ntmps17
  go_wp2_with fail
  with_reducible refine (nodeOf_any s v a c k 16 _ ?_ (by omega) (by omega)).mono ?_
  · exact (HL.out.below HB0.out).mono (Nat.le_refl _) HB0.out.size
  rintro e w2 ⟨nv, rfl, hb, hyes⟩
  have hs2 := hb.size
  simp at hs2
  have HB2 := Lib.hid (HB0.out.trans (hb.mono HB0.out.size))
  clear hb
  cases hok : okW s v k 16 with
  | false =>
    have HR : Hid (tvR s v k = []) := by unfold Hid tvR; rw [hok]; rfl
    clear hok hyes
    go_wp2_with fail
    go_ret
    exact ⟨none, 0, [], HR.out.symm, rfl, HB2.out, World.ownsRow_nil _ _ _ _⟩
  | true =>
    have hsz := ((okW_iff _ _ _ _).1 hok).2.2
    have HN := Lib.hid ((hyes hok).mono (lo' := 0) (Nat.zero_le _) (Nat.le_refl _))
    have HR : Hid (tvR s v k = Lib.compact (srt (fvs s v k))) := by unfold Hid tvR srt; rw [hok, compact_among _ (fvs_in hok)]; rfl
    have HNIL : Hid (IOwn w2 w2.heap.size [] none 0) := World.ownsRow_nil _ _ _ _
    clear hok hyes
    obtain ⟨ty, vv, rfl⟩ : ∃ ty vv, nv = .iface ty vv := by
      rcases HN.out with ⟨_, _, rfl⟩ | ⟨_, _, _, rfl, _⟩
      · exact ⟨_, _, rfl⟩
      · exact ⟨_, _, rfl⟩
    have hfs := fvs_sz s v k
    have HCV : Hid (Calls Try.prog 36 #[.slice none 0 0, .iface ty vv] w2 (AvPost w2.heap.size [] s v k w2)) := addVars_any w2.heap.size (fsz k) s v k _ [] none 0 _ (Nat.le_refl _) HN.out HNIL.out (Nat.le_refl _) (by omega) (by simp; omega)
    go_wp2_with fail
    with_reducible refine HCV.out.mono ?_
    rintro e w3 ⟨ys, A3, C3, hys, rfl, hio3, hb3⟩
    rw [List.nil_append] at hys
    subst hys
    have hs3 := hb3.size
    have HIO3 := Lib.hid hio3
    have HB3 := Lib.hid (HB2.out.trans (hb3.mono (by omega)))
    clear hio3 hb3
    go_wp2_with fail
    with_reducible refine (sort_any w2.heap.size (fvs s v k) A3 C3 _ HIO3.out (by omega) (by omega)).mono ?_
    rintro e w4 ⟨rfl, hown4, hb4⟩
    have hs4 := hb4.size
    have HIO4 : Hid (IOwn w4 w2.heap.size (srt (fvs s v k)) A3 C3) := by unfold Hid IOwn; rw [srt_len]; exact hown4
    have HB4 := Lib.hid (HB3.out.trans (hb4.mono (by omega)))
    have HCALL := Lib.hid (compact_any w2.heap.size (srt (fvs s v k)) A3 C3 w4 HIO4.out (by rw [srt_len]; omega) (by omega))
    rw [srt_len] at HCALL
    clear hown4 hb4
    go_wp2_with fail
    with_reducible refine HCALL.out.mono ?_
    rintro e w5 ⟨A5, C5, rfl, hio5, hb5⟩
    have HIO5 := Lib.hid hio5
    have HB5 := Lib.hid (HB4.out.trans (hb5.mono (by omega)))
    clear hio5 hb5
    go_wp2_with fail
    go_ret
    exact ⟨A5, C5, _, HR.out.symm, rfl, HB5.out, HIO5.out.base (by omega)⟩
end Go.Proofs.Ytkmfnhoeigoajaa

/-! C2: A row of nodes, copied, with another node in the midst. -/
namespace Go.Proofs.Ytkmfnhoeigoajaa
open Go.RowKit Go.Deep
attribute [local go_sem ↓] Go.wp_at_zero Go.wp_at_succ

theorem Try.infoN : ∃ i, Try.prog.info? 57 = some i ∧ i.zero = some .nilIface ∧ i.size = 1 ∧ i.bytes = 16 := by
  obtain ⟨i, hi, hz⟩ := Option.map_eq_some_iff.1 Try.infoNode
  simp only [Prod.mk.injEq] at hz
  exact ⟨i, hi, hz.1, hz.2.1, hz.2.2⟩

theorem node_one {w : World} {lo B : Nat} {val : Value} {s v : Int} {k : Fo} (h : NodeIs w lo B val s v k) : val.oneCell' = true := by
  rcases h with ⟨_, _, rfl⟩ | ⟨_, _, _, rfl, _⟩ <;> rfl
/-- What the cells of a row of nodes hold. -/
theorem nrow_cells {w : World} {lo B : Nat} : ∀ (k : Fo) (b o : Nat), NRow w lo B k b o → ∃ xs : List Value, xs.length = flen k ∧ (∀ u ∈ xs, u.oneCell' = true) ∧
    ∀ j u, xs[j]? = some u → w.cell? ⟨b, o + j, none⟩ = some u ∧ ∃ x y s v kk, fdrop j k = .node x y (s, v) kk (fdrop (j + 1) k) ∧ NodeIs w lo B u s v kk
  | .nil, _, _, _ => ⟨[], rfl, by simp, by simp⟩
  | .node x y (s, v) kk r, b, o, ⟨_, _, ⟨val, hc, hn⟩, hr⟩ => by
    obtain ⟨xs, hl, h1, h2⟩ := nrow_cells r b (o + 1) hr
    have hn' : NodeIs w lo B val s v kk := hn
    refine ⟨val :: xs, by simp [flen, hl], ?_, ?_⟩
    · intro u hu
      rcases List.mem_cons.1 hu with rfl | hu
      · exact node_one hn'
      · exact h1 u hu
    · intro j u hu
      cases j with
      | zero =>
        simp only [List.getElem?_cons_zero, Option.some.injEq] at hu
        subst hu
        exact ⟨hc, x, y, s, v, kk, rfl, hn'⟩
      | succ j =>
        simp only [List.getElem?_cons_succ] at hu
        obtain ⟨hc', e⟩ := h2 j u hu
        exact ⟨by rw [show o + (j + 1) = o + 1 + j from by omega]; exact hc', e⟩

set_option maxRecDepth 100000 in
set_option maxHeartbeats 1000000 in
theorem cloneNodes_any (b o n c : Nat) (xs : List Value) (w : World) (hlen : xs.length = n) (hn : n ≤ 1000) (h1 : ∀ u ∈ xs, u.oneCell' = true) (hc : ∀ j u, xs[j]? = some u → w.cell? ⟨b, o + j, none⟩ = some u) (hb : b < w.heap.size) :
    Calls Try.prog 59 #[.slice (some ⟨b, o, none⟩) n c] w fun e w' => ∃ A C, e = .returned (.slice A n C) ∧ w'.ownsRow w.heap.size 57 1 (.slice A n C) n xs ∧ Below w.heap.size w w' := by
  obtain ⟨ti, hti, htz, hts, htb⟩ := Try.infoN
  have HTI : Hid (Try.prog.info? 57 = some ti ∧ ti.zero = some .nilIface ∧ ti.size = 1 ∧ ti.bytes = 16) := ⟨hti, htz, hts, htb⟩
  have HO1 : Hid ((w.alloc (.cells #[] 57)).ownsRow w.heap.size 57 1 (.slice (some ⟨w.heap.size, 0, none⟩) 0 0) 0 []) := World.ownsRow_made w #[] 0 (Nat.le_refl _) (Nat.zero_le _) rfl
  have HSRC : Hid (Src (w.alloc (.cells #[] 57)) 1 (some ⟨b, o, none⟩) n xs) := ⟨by omega, .inr ⟨_, rfl, fun j u hu => by
    rw [show (⟨b, o, none⟩ : Addr).add j = ⟨b, o + j, none⟩ from by unfold Addr.add; split <;> simp_all, World.cell?_alloc_lt _ _ _ hb]
    exact hc j u hu⟩⟩
  have HX := Lib.hid h1
  have q22 : ∀ (w : World) (a : Option Addr) (n c n' c' : Nat), (binOp .eql 89 (.slice a n c) (.slice none n' c')).run Try.prog w = .ok (.bool a.isNone) w := fun w a n c n' c' => Lib.run_eql_slice_nil w _ _ a n c n' c' Try.underlying89
  clear hti htz hts htb hc h1
  go_enter Try.func59, Try.ntmps59
  go_wp2_with (at_builtin; refine wpList_append_src _ rfl _ _ 89 rfl w.heap.size 57 ti _ 1 16 Try.underlying89 HTI.out.1 HTI.out.2.1 HTI.out.2.2.1 HTI.out.2.2.2 rfl (by omega) (.slice (some ⟨w.heap.size, 0, none⟩) 0 0) 0 [] rfl HO1.out (some ⟨b, o, none⟩) n c xs rfl HSRC.out HX.out (by unfold maxLen; omega) (by omega) (by simp) ?_; intro A1 C1 w1 hown1 hgrow1 hat1)
  go_wp2_with fail
  go_ret
  refine ⟨A1, C1, by simp, by simpa using hown1, pl_low hgrow1⟩

/-- Copied, and the i-th is another. -/
theorem nrow_put {w w5 : World} {i g : Nat} {k : Fo} {xs : List Value} {n C : Nat} {val : Value} {x : Int × Int × Fo} (hb : Below w.heap.size w w5) (hxl : xs.length = flen k)
    (hall : ∀ j u, xs[j]? = some u → ∃ x y s v kk, fdrop j k = .node x y (s, v) kk (fdrop (j + 1) k) ∧ NodeIs w 0 w.heap.size u s v kk)
    (hown : w5.ownsRow w.heap.size 57 1 (.slice (some ⟨g, 0, none⟩) n C) n xs) (hval : NodeIs w 0 w.heap.size val x.1 x.2.1 x.2.2) :
    NRow (w5.setCell ⟨g, i, none⟩ val) 0 w5.heap.size (fset k i x) g 0 := by
  have hcells := hown.cells (g := g) rfl
  have ha : ∀ n, (⟨g, 0, none⟩ : Addr).add n = ⟨g, 0 + n, none⟩ := fun n => by unfold Addr.add; split <;> simp_all
  obtain ⟨hg, hglt⟩ := hown.lt g rfl
  have hsame : Same 0 w.heap.size w (w5.setCell ⟨g, i, none⟩ val) := Same.setCell (fun b _ hb' => hb.block b hb') (.inr hg) _
  refine nrow_of_all _ g 0 (Nat.zero_le _) hglt fun j hj => ?_
  rw [flen_set] at hj
  obtain ⟨u, hu⟩ : ∃ u, xs[j]? = some u := ⟨_, List.getElem?_eq_getElem (by omega)⟩
  obtain ⟨x1, y1, s1, v1, k1, e1, hn1⟩ := hall j u hu
  have hcu := hcells j u hu
  rw [ha] at hcu
  by_cases hij : i = j
  · subst hij
    obtain ⟨b', o', e'⟩ := fset_at k i x hj
    exact ⟨b', o', _, _, _, e', val, by rw [Nat.zero_add] at hcu ⊢; exact World.cell?_setCell_same _ _ _ hcu, (hval.same hsame).mono (Nat.le_refl _) hb.size⟩
  · obtain ⟨r', e'⟩ := fset_far k i j x hij e1
    obtain ⟨x2, y2, s2, v2, k2, e2⟩ := fdrop_succ j (fset k i x) (by rw [flen_set]; exact hj)
    rw [e'] at e2
    simp only [BT.node.injEq, Prod.mk.injEq] at e2
    obtain ⟨rfl, rfl, ⟨rfl, rfl⟩, rfl, hr'⟩ := e2
    refine ⟨x1, y1, s1, v1, k1, by rw [e', hr'], u, ?_, (hn1.same hsame).mono (Nat.le_refl _) hb.size⟩
    rw [World.cell?_setCell_other _ _ _ _ (by intro h; have := congrArg Addr.off h; simp at this; omega)]
    exact hcu
end Go.Proofs.Ytkmfnhoeigoajaa

/-! C3: nodePut: another node put to a place; the nodes on the way are made anew. -/
namespace Go.Proofs.Ytkmfnhoeigoajaa
open Go.RowKit Go.Deep
attribute [local go_sem ↓] Go.wp_at_zero Go.wp_at_succ

def NpPost (s v : Int) (k : Fo) (place : List Int) (x : Int × Int × Fo) (w : World) (e : Ending) (w' : World) : Prop :=
  ∃ nv t, e = .returned (.tuple #[nv, .bool t]) ∧ Below w.heap.size w w' ∧ ((∃ s' v' k', fput s v k place x = some (s', v', k') ∧ t = true ∧ NodeIs w' 0 w'.heap.size nv s' v' k') ∨ (fput s v k place x = none ∧ t = false))

/-- A place from its n-th number on. -/
theorem cut_from {pA : Option Addr} {pC n : Nat} {place : List Int} (hn : n ≤ place.length) (hc : place.length ≤ pC) : ∃ A', (∀ w : World, (Instr.slice 35 (.slice pA place.length pC) (some (.int .i64 (n : Int))) none none).run Try.prog w = .ok (.slice A' (place.length - n) (pC - n)) w) ∧
    ∀ {w : World} {lo B : Nat}, ISl w lo B pA place → ISc w lo B A' (pC - n) (place.drop n) := by
  obtain ⟨ti, hti, htz, hts, htb⟩ := Try.infoI
  have hsz : ∀ w : World, (sizeOf (Try.prog.elem 35)).run Try.prog w = .ok 1 w := fun w => by
    have he : Try.prog.elem 35 = 3 := by kernel_rfl
    rw [he]
    simp [sizeOf, typeInfo, hti, hts]
  have hel : Try.prog.underlying 35 = some (.slice (Try.prog.elem 35)) := by kernel_rfl
  have hrun : ∀ w : World, (Instr.slice 35 (.slice pA place.length pC) (some (.int .i64 (n : Int))) none none).run Try.prog w = .ok (sliced pA n place.length pC 1) w := fun w => by
    rw [run_slice_l (P := Try.prog) w 35 pA place.length pC hel .i64 (n : Int) (by omega) (by omega), hsz]
    simp [Result.andThen]
  refine ⟨if pC = n then pA else pA.map (·.add (n * 1)), fun w => by rw [hrun w]; rfl, fun {w lo B} h => ⟨?_, by simp; omega⟩⟩
  split
  · exact .inl (List.drop_eq_nil_of_le (by omega))
  · rcases h with rfl | ⟨b, o, rfl, h1, h2, h3⟩
    · exact .inl (by simp)
    · refine .inr ⟨b, o + n, ?_, h1, h2, fun j x hx => ?_⟩
      · have ha : (⟨b, o, none⟩ : Addr).add n = ⟨b, o + n, none⟩ := by unfold Addr.add; split <;> simp_all
        simp only [Option.map_some, Nat.mul_one, ha]
      · rw [List.getElem?_drop] at hx
        rw [show o + n + j = o + (n + j) from by omega]
        exact h3 (n + j) x hx
/-- A place's first n numbers. -/
theorem cut_to {pA : Option Addr} {pC n : Nat} {place : List Int} (hn : n ≤ place.length) (hc : place.length ≤ pC) : (∀ w : World, (Instr.slice 35 (.slice pA place.length pC) none (some (.int .i64 (n : Int))) none).run Try.prog w = .ok (.slice pA n pC) w) ∧
    ∀ {w : World} {lo B : Nat}, ISl w lo B pA place → ISc w lo B pA pC (place.take n) := by
  obtain ⟨ti, hti, htz, hts, htb⟩ := Try.infoI
  have hsz : ∀ w : World, (sizeOf (Try.prog.elem 35)).run Try.prog w = .ok 1 w := fun w => by
    have he : Try.prog.elem 35 = 3 := by kernel_rfl
    rw [he]
    simp [sizeOf, typeInfo, hti, hts]
  have hel : Try.prog.underlying 35 = some (.slice (Try.prog.elem 35)) := by kernel_rfl
  refine ⟨fun w => ?_, fun {w lo B} h => ⟨?_, by simp; omega⟩⟩
  · rw [run_slice_h (P := Try.prog) w 35 pA place.length pC hel .i64 (n : Int) (by omega) (by omega), hsz]
    cases pA <;> simp [Result.andThen, sliced, Addr.add]
  · rcases h with rfl | ⟨b, o, rfl, h1, h2, h3⟩
    · exact .inl (by simp)
    · refine .inr ⟨b, o, rfl, h1, h2, fun j x hx => ?_⟩
      rw [List.getElem?_take] at hx
      split at hx
      · exact h3 j x hx
      · cases hx

set_option maxRecDepth 100000 in
set_option maxHeartbeats 1000000 in
theorem nodePut_any (x : Int × Int × Fo) : ∀ (place : List Int) (s v : Int) (k : Fo) (nv sn : Value) (pA : Option Addr) (pC : Nat) (w : World), NodeIs w 0 w.heap.size nv s v k → NodeIs w 0 w.heap.size sn x.1 x.2.1 x.2.2 → ISc w 0 w.heap.size pA pC place → place.length ≤ 1048576 → fsz k ≤ 1000 →
    Calls Try.prog 44 #[nv, .slice pA place.length pC, sn] w (NpPost s v k place x w) := by
  intro place
  induction place with
  | nil =>
    intro s v k nv sn pA pC w hn hs hp hpl hsz
    have HS := Lib.hid hs
    have HN := Lib.hid hn
    clear hs hn hp
    obtain ⟨ty, vv, rfl⟩ : ∃ ty vv, sn = .iface ty vv := by
      rcases HS.out with ⟨_, _, rfl⟩ | ⟨_, _, _, rfl, _⟩
      · exact ⟨_, _, rfl⟩
      · exact ⟨_, _, rfl⟩
    go_enter Try.func44, Try.ntmps44
    go_wp2_with fail
    go_ret2
    exact ⟨_, _, rfl, Below.refl _ _, .inl ⟨_, _, _, rfl, rfl, HS.out⟩⟩
  | cons i ps ih =>
    intro s v k nv sn pA pC w hn hs hp hpl hsz
    have IH := Lib.hid ih
    have HS := Lib.hid hs
    have HP := Lib.hid hp
    clear hs hp ih
    obtain ⟨ty, vv, rfl⟩ : ∃ ty vv, sn = .iface ty vv := by
      rcases HS.out with ⟨_, _, rfl⟩ | ⟨_, _, _, rfl, _⟩
      · exact ⟨_, _, rfl⟩
      · exact ⟨_, _, rfl⟩
    obtain ⟨b, o, rfl, _, hbB, hc⟩ := isl_get HP.out.1 (show 0 < (i :: ps).length by simp)
    simp only [List.getElem_cons_zero, Nat.add_zero] at hc
    have hta := assert_var
    have htb := assert_sym
    have hpc := HP.out.2
    simp at hpc
    have hlen : ((i :: ps).length : Int) = (ps.length : Int) + 1 := by simp
    simp only [List.length_cons] at hpl ⊢
    rcases hn with ⟨rfl, rfl, rfl⟩ | ⟨hs0, a, c, rfl, hn⟩
    · have HE : Hid (fput 0 v .nil (i :: ps) x = none) := fput_out (by simp [flen])
      go_enter Try.func44, Try.ntmps44
      go_wp2_with fail
      go_ret2
      exact ⟨_, _, rfl, Below.refl _ _, .inr ⟨HE.out, rfl⟩⟩
    · have HN := Lib.hid hn
      clear hn
      have hfl := flen_le_sz k
      by_cases hi0 : i < 0
      · have HE : Hid (fput s v k (i :: ps) x = none) := fput_out (by omega)
        go_enter Try.func44, Try.ntmps44
        go_wp2_with fail
        go_ret2
        exact ⟨_, _, rfl, (Below.refl _ _).alloc (Nat.le_refl _) _, .inr ⟨HE.out, rfl⟩⟩
      by_cases hi1 : (flen k : Int) ≤ i
      · have HE : Hid (fput s v k (i :: ps) x = none) := fput_out (by omega)
        go_enter Try.func44, Try.ntmps44
        go_wp2_with fail
        go_ret2
        exact ⟨_, _, rfl, (Below.refl _ _).alloc (Nat.le_refl _) _, .inr ⟨HE.out, rfl⟩⟩
      obtain ⟨q, rfl⟩ : ∃ q : Nat, i = q := ⟨i.toNat, by omega⟩
      have hq : q < flen k := by omega
      obtain ⟨bk, ok, rfl⟩ : ∃ bk ok, a = some ⟨bk, ok, none⟩ := by
        rcases HN.out with rfl | ⟨b, o, rfl, _⟩
        · simp [flen] at hq
        · exact ⟨_, _, rfl⟩
      have hrow : NRow w 0 w.heap.size k bk ok := by
        rcases HN.out with rfl | ⟨b, o, e, h⟩
        · simp [flen] at hq
        · cases e; exact h
      obtain ⟨s2, v2, kk, val, ⟨x2, y2, hd⟩, _, hbB2, hk0, hnk⟩ := nrow_at hrow hq
      obtain ⟨ty2, vv2, rfl⟩ : ∃ ty vv, val = .iface ty vv := by
        rcases hnk with ⟨_, _, rfl⟩ | ⟨_, _, _, rfl, _⟩
        · exact ⟨_, _, rfl⟩
        · exact ⟨_, _, rfl⟩
      have hkk := fsz_kid hd
      have hb1 : Below w.heap.size w (w.alloc (.cells #[.int .i64 s, .slice (some ⟨bk, ok, none⟩) (flen k) c] 92)).drew := ((Below.refl _ _).alloc (Nat.le_refl _) _).drew
      have HD := Lib.hid hd
      have HROW := Lib.hid hrow
      have HB1 := Lib.hid hb1
      have hs1 := hb1.size
      have HNK1 := Lib.hid ((hnk.below hb1).mono (Nat.le_refl _) hs1)
      have HS1 := Lib.hid ((HS.out.below hb1).mono (Nat.le_refl _) hs1)
      obtain ⟨A', hcut, hcutI⟩ := cut_from (pA := some ⟨b, o, none⟩) (pC := pC) (n := 1) (place := (q : Int) :: ps) (by simp) HP.out.2
      have hsl : ∀ w : World, (Instr.slice 35 (.slice (some ⟨b, o, none⟩) (ps.length + 1) pC) (some (.int .i64 1)) none none).run Try.prog w = .ok (.slice A' ps.length (pC - 1)) w := fun w => hcut w
      have HP1 : Hid (ISc (w.alloc (.cells #[.int .i64 s, .slice (some ⟨bk, ok, none⟩) (flen k) c] 92)).drew 0 (w.alloc (.cells #[.int .i64 s, .slice (some ⟨bk, ok, none⟩) (flen k) c] 92)).drew.heap.size A' (pC - 1) ps) := ((hcutI HP.out.1).same (Same.of_below hb1)).mono (Nat.le_refl _) hs1
      clear hcut hcutI
      have hz0 : (w.alloc (.cells #[.int .i64 s, .slice (some ⟨bk, ok, none⟩) (flen k) c] 92)).cell? ⟨bk, ok + q, none⟩ = some (.iface ty2 vv2) := by rw [World.cell?_alloc_lt _ _ _ hbB2]; exact hk0
      have hz1 : (w.alloc (.cells #[.int .i64 s, .slice (some ⟨bk, ok, none⟩) (flen k) c] 92)).cell? ⟨w.heap.size, 1, none⟩ = some (.slice (some ⟨bk, ok, none⟩) (flen k) c) := by rw [World.cell?_alloc_at _ _ _ _ (by simp)]; rfl
      have hz2 : (w.alloc (.cells #[.int .i64 s, .slice (some ⟨bk, ok, none⟩) (flen k) c] 92)).cell? ⟨w.heap.size, 0, none⟩ = some (.int .i64 s) := by rw [World.cell?_alloc_at _ _ _ _ (by simp)]; rfl
      have HZ2 := Lib.hid hz2
      clear hz2
      have HPL : Hid (ps.length ≤ 1048576) := by unfold Hid; omega
      have HKS : Hid (fsz kk ≤ 1000) := by unfold Hid; omega
      have g1 : (0 : Int) ≤ (q : Int) := by omega
      have g2 : (q : Int) < (flen k : Int) := by omega
      clear hnk hd hrow hb1 hk0
      go_enter Try.func44, Try.ntmps44
      go_wp2_with fail
      go_region_held3 (fun w' => w'.cell? ⟨bk, ok + q, none⟩ = some (.iface ty2 vv2) ∧ w'.cell? ⟨w.heap.size, 1, none⟩ = some (.slice (some ⟨bk, ok, none⟩) (flen k) c))
        (first
          | exact ⟨hy0, hy1⟩
          | go_keep)
        ((go_at_call 44; refine (IH.out s2 v2 kk (.iface ty2 vv2) (.iface ty vv) A' (pC - 1) (w.alloc (.cells #[.int .i64 s, .slice (some ⟨bk, ok, none⟩) (flen k) c] 92)).drew HNK1.out HS1.out HP1.out HPL.out HKS.out).mono ?_; rintro e w3 ⟨nv3, t3, rfl, hb3, hcase3⟩; have hy0 : w3.cell? ⟨bk, ok + q, none⟩ = some (.iface ty2 vv2) := cell_low (bl_undrew hb3) hz0; have hy1 : w3.cell? ⟨w.heap.size, 1, none⟩ = some (.slice (some ⟨bk, ok, none⟩) (flen k) c) := cell_low (bl_undrew hb3) hz1))
      have hb3' := bl_undrew hb3
      have hs3 := hb3'.size
      simp at hs3
      have hy2 : w3.cell? ⟨w.heap.size, 0, none⟩ = some (.int .i64 s) := cell_low hb3' HZ2.out
      have HW3 : Hid (Below w.heap.size w w3) := ((Below.refl _ _).alloc (Nat.le_refl _) _).trans (hb3'.mono (by simp))
      clear hb3 hb3' hz0 hz1 hy0
      rcases hcase3 with ⟨s', v', k', hf, rfl, hn'⟩ | ⟨hf, rfl⟩
      · obtain ⟨ty3, vv3, rfl⟩ : ∃ ty vv, nv3 = .iface ty vv := by
          rcases hn' with ⟨_, _, rfl⟩ | ⟨_, _, _, rfl, _⟩
          · exact ⟨_, _, rfl⟩
          · exact ⟨_, _, rfl⟩
        have HE : Hid (fput s v k ((q : Int) :: ps) x = some (s, v, fset k q (s', v', k'))) := fput_step hq HD.out hf
        obtain ⟨xs, hxl, hx1, hxc⟩ := nrow_cells k bk ok (HROW.out.below HW3.out)
        have HX1 := Lib.hid hx1
        have HXC : Hid (∀ j u, xs[j]? = some u → w3.cell? ⟨bk, ok + j, none⟩ = some u) := fun j u hu => (hxc j u hu).1
        have HXN : Hid (∀ j u, xs[j]? = some u → ∃ x y s v kk, fdrop j k = .node x y (s, v) kk (fdrop (j + 1) k) ∧ NodeIs w3 0 w3.heap.size u s v kk) := fun j u hu => by
          obtain ⟨x, y, s, v, kk, e, hn⟩ := (hxc j u hu).2
          exact ⟨x, y, s, v, kk, e, hn.mono (Nat.le_refl _) (by omega)⟩
        have HXL := Lib.hid hxl
        have HN' := Lib.hid hn'
        clear hx1 hxc hxl hn' hf
        go_wp2_with fail
        with_reducible refine (cloneNodes_any bk ok (flen k) c xs _ HXL.out (by omega) HX1.out HXC.out (by omega)).mono ?_
        rintro e w4 ⟨A4, C4, rfl, hown4, hb4⟩
        obtain ⟨g, cap, hv4, hbg, hgl⟩ := hown4.form (by omega)
        simp only [Value.slice.injEq] at hv4
        obtain ⟨rfl, _, rfl⟩ := hv4
        have hs4 := hb4.size
        obtain ⟨u4, hu4⟩ : ∃ u, xs[q]? = some u := ⟨_, List.getElem?_eq_getElem (by rw [HXL.out]; exact hq)⟩
        have hgc : w4.cell? ⟨g, q, none⟩ = some u4 := by rw [hown4.cellAt q (by omega)]; exact hu4
        have hgf : w4.frozen? ⟨g, q, none⟩ = false := hown4.frozenAt q
        have hy3 := cell_low hb4 hy2
        have HROW4 : Hid (NRow (w4.setCell ⟨g, q, none⟩ (.iface ty3 vv3)) 0 w4.heap.size (fset k q (s', v', k')) g 0) := nrow_put hb4 HXL.out HXN.out hown4 HN'.out
        have HW4 : Hid (Below w.heap.size w (w4.setCell ⟨g, q, none⟩ (.iface ty3 vv3))) := (HW3.out.trans (hb4.mono (by omega))).setCell (by simp; omega) _
        clear hown4 hb4 hu4 hy1 hy2
        have hy4 : (w4.setCell ⟨g, q, none⟩ (.iface ty3 vv3)).cell? ⟨w.heap.size, 0, none⟩ = some (.int .i64 s) := by
          rw [World.cell?_setCell_other _ _ _ _ (by intro h; have := congrArg Addr.block h; simp at this; omega)]
          exact hy3
        go_wp2_with fail
        go_ret2
        exact ⟨_, _, rfl, HW4.out, .inl ⟨s, v, fset k q (s', v', k'), HE.out, rfl, .inr ⟨hs0, some ⟨g, 0, none⟩, C4, by rw [flen_set]; rfl, .inr ⟨g, 0, rfl, by rw [World.size_setCell]; exact HROW4.out⟩⟩⟩⟩
      · have HE : Hid (fput s v k ((q : Int) :: ps) x = none) := fput_none HD.out hf
        clear hf
        go_wp2_with fail
        go_ret2
        exact ⟨_, _, rfl, HW3.out, .inr ⟨HE.out, rfl⟩⟩
end Go.Proofs.Ytkmfnhoeigoajaa
