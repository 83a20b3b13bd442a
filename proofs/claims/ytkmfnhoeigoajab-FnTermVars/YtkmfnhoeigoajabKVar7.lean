/- Several texts in one: C2, C3, C4. -/
import Derived.Test.YtkmfnhoeigoajabKVar6
import Derived.Lib.SliceRun
import Derived.Deep.RegionHeld3

/-! C2: A row of nodes, copied, with another node in the midst. -/
namespace Go.Proofs.Ytkmfnhoeigoajab
open Go.RowKit Go.Deep
attribute [local go_sem ↓] Go.wp_at_zero Go.wp_at_succ

theorem Try.infoN : ∃ i, Try.prog.info? 60 = some i ∧ i.zero = some .nilIface ∧ i.size = 1 ∧ i.bytes = 16 := by
  obtain ⟨i, hi, hz⟩ := Option.map_eq_some_iff.1 Try.infoNode
  simp only [Prod.mk.injEq] at hz
  exact ⟨i, hi, hz.1, hz.2.1, hz.2.2⟩

theorem node_one {w : World} {lo B : Nat} {val : Value} {s v : Int} {k : Fo} (h : NodeIs w lo B val s v k) : val.oneCell' = true := by
  rcases h with ⟨_, _, rfl⟩ | ⟨_, _, _, rfl, _⟩ <;> rfl
/-- What the cells of a row of nodes hold. -/
theorem nrow_cells {w : World} {lo B : Nat} : ∀ (k : Fo) (b o : Nat), NRow w lo B k b o → ∃ xs : List Value, xs.length = flen k ∧ (∀ u ∈ xs, u.oneCell' = true) ∧
    ∀ j u, xs[j]? = some u → w.cell? ⟨b, o + j, none⟩ = some u ∧ ∃ x y s v kk, fdrop j k = .node x y (s, v) kk (fdrop (j + 1) k) ∧ NodeIs w lo B u s v kk
  | .nil, _, _, _ => ⟨[], rfl, by simp, by simp⟩
  | .node x y (s, v) kk r, b, o, ⟨_, _, ⟨val, hc, hn⟩, hr⟩ => by
    obtain ⟨xs, hl, h1, h2⟩ := nrow_cells r b (o + 1) hr
    have hn' : NodeIs w lo B val s v kk := hn
    refine ⟨val :: xs, by simp [flen, hl], ?_, ?_⟩
    · intro u hu
      rcases List.mem_cons.1 hu with rfl | hu
      · exact node_one hn'
      · exact h1 u hu
    · intro j u hu
      cases j with
      | zero =>
        simp only [List.getElem?_cons_zero, Option.some.injEq] at hu
        subst hu
        exact ⟨hc, x, y, s, v, kk, rfl, hn'⟩
      | succ j =>
        simp only [List.getElem?_cons_succ] at hu
        obtain ⟨hc', e⟩ := h2 j u hu
        exact ⟨by rw [show o + (j + 1) = o + 1 + j from by omega]; exact hc', e⟩

set_option maxRecDepth 100000 in
set_option maxHeartbeats 1000000 in
theorem cloneNodes_any (b o n c : Nat) (xs : List Value) (w : World) (hlen : xs.length = n) (hn : n ≤ 1000) (h1 : ∀ u ∈ xs, u.oneCell' = true) (hc : ∀ j u, xs[j]? = some u → w.cell? ⟨b, o + j, none⟩ = some u) (hb : b < w.heap.size) :
    Calls Try.prog 61 #[.slice (some ⟨b, o, none⟩) n c] w fun e w' => ∃ A C, e = .returned (.slice A n C) ∧ w'.ownsRow w.heap.size 60 1 (.slice A n C) n xs ∧ Below w.heap.size w w' := by
  obtain ⟨ti, hti, htz, hts, htb⟩ := Try.infoN
  have HTI : Hid (Try.prog.info? 60 = some ti ∧ ti.zero = some .nilIface ∧ ti.size = 1 ∧ ti.bytes = 16) := ⟨hti, htz, hts, htb⟩
  have HO1 : Hid ((w.alloc (.cells #[] 60)).ownsRow w.heap.size 60 1 (.slice (some ⟨w.heap.size, 0, none⟩) 0 0) 0 []) := World.ownsRow_made w #[] 0 (Nat.le_refl _) (Nat.zero_le _) rfl
  have HSRC : Hid (Src (w.alloc (.cells #[] 60)) 1 (some ⟨b, o, none⟩) n xs) := ⟨by omega, .inr ⟨_, rfl, fun j u hu => by
    rw [show (⟨b, o, none⟩ : Addr).add j = ⟨b, o + j, none⟩ from by unfold Addr.add; split <;> simp_all, World.cell?_alloc_lt _ _ _ hb]
    exact hc j u hu⟩⟩
  have HX := Lib.hid h1
  have q22 : ∀ (w : World) (a : Option Addr) (n c n' c' : Nat), (binOp .eql 86 (.slice a n c) (.slice none n' c')).run Try.prog w = .ok (.bool a.isNone) w := fun w a n c n' c' => Lib.run_eql_slice_nil w _ _ a n c n' c' Try.underlying86
  clear hti htz hts htb hc h1
  go_enter Try.func61, Try.ntmps61
  go_wp2_with (at_builtin; refine wpList_append_src _ rfl _ _ 86 rfl w.heap.size 60 ti _ 1 16 Try.underlying86 HTI.out.1 HTI.out.2.1 HTI.out.2.2.1 HTI.out.2.2.2 rfl (by omega) (.slice (some ⟨w.heap.size, 0, none⟩) 0 0) 0 [] rfl HO1.out (some ⟨b, o, none⟩) n c xs rfl HSRC.out HX.out (by unfold maxLen; omega) (by omega) (by simp) ?_; intro A1 C1 w1 hown1 hgrow1 hat1)
  go_wp2_with fail
  go_ret
  refine ⟨A1, C1, by simp, by simpa using hown1, pl_low hgrow1⟩

/-- Copied, and the i-th is another. -/
theorem nrow_put {w w5 : World} {i g : Nat} {k : Fo} {xs : List Value} {n C : Nat} {val : Value} {x : Int × Int × Fo} (hb : Below w.heap.size w w5) (hxl : xs.length = flen k)
    (hall : ∀ j u, xs[j]? = some u → ∃ x y s v kk, fdrop j k = .node x y (s, v) kk (fdrop (j + 1) k) ∧ NodeIs w 0 w.heap.size u s v kk)
    (hown : w5.ownsRow w.heap.size 60 1 (.slice (some ⟨g, 0, none⟩) n C) n xs) (hval : NodeIs w 0 w.heap.size val x.1 x.2.1 x.2.2) :
    NRow (w5.setCell ⟨g, i, none⟩ val) 0 w5.heap.size (fset k i x) g 0 := by
  have hcells := hown.cells (g := g) rfl
  have ha : ∀ n, (⟨g, 0, none⟩ : Addr).add n = ⟨g, 0 + n, none⟩ := fun n => by unfold Addr.add; split <;> simp_all
  obtain ⟨hg, hglt⟩ := hown.lt g rfl
  have hsame : Same 0 w.heap.size w (w5.setCell ⟨g, i, none⟩ val) := Same.setCell (fun b _ hb' => hb.block b hb') (.inr hg) _
  refine nrow_of_all _ g 0 (Nat.zero_le _) hglt fun j hj => ?_
  rw [flen_set] at hj
  obtain ⟨u, hu⟩ : ∃ u, xs[j]? = some u := ⟨_, List.getElem?_eq_getElem (by omega)⟩
  obtain ⟨x1, y1, s1, v1, k1, e1, hn1⟩ := hall j u hu
  have hcu := hcells j u hu
  rw [ha] at hcu
  by_cases hij : i = j
  · subst hij
    obtain ⟨b', o', e'⟩ := fset_at k i x hj
    exact ⟨b', o', _, _, _, e', val, by rw [Nat.zero_add] at hcu ⊢; exact World.cell?_setCell_same _ _ _ hcu, (hval.same hsame).mono (Nat.le_refl _) hb.size⟩
  · obtain ⟨r', e'⟩ := fset_far k i j x hij e1
    obtain ⟨x2, y2, s2, v2, k2, e2⟩ := fdrop_succ j (fset k i x) (by rw [flen_set]; exact hj)
    rw [e'] at e2
    simp only [BT.node.injEq, Prod.mk.injEq] at e2
    obtain ⟨rfl, rfl, ⟨rfl, rfl⟩, rfl, hr'⟩ := e2
    refine ⟨x1, y1, s1, v1, k1, by rw [e', hr'], u, ?_, (hn1.same hsame).mono (Nat.le_refl _) hb.size⟩
    rw [World.cell?_setCell_other _ _ _ _ (by intro h; have := congrArg Addr.off h; simp at this; omega)]
    exact hcu
end Go.Proofs.Ytkmfnhoeigoajab

/-! C3: nodePut: another node put to a place; the nodes on the way are made anew. -/
namespace Go.Proofs.Ytkmfnhoeigoajab
open Go.RowKit Go.Deep
attribute [local go_sem ↓] Go.wp_at_zero Go.wp_at_succ

def NpPost (s v : Int) (k : Fo) (place : List Int) (x : Int × Int × Fo) (w : World) (e : Ending) (w' : World) : Prop :=
  ∃ nv t, e = .returned (.tuple #[nv, .bool t]) ∧ Below w.heap.size w w' ∧ ((∃ s' v' k', fput s v k place x = some (s', v', k') ∧ t = true ∧ NodeIs w' 0 w'.heap.size nv s' v' k') ∨ (fput s v k place x = none ∧ t = false))

/-- A place from its n-th number on. -/
theorem cut_from {pA : Option Addr} {pC n : Nat} {place : List Int} (hn : n ≤ place.length) (hc : place.length ≤ pC) : ∃ A', (∀ w : World, (Instr.slice 26 (.slice pA place.length pC) (some (.int .i64 (n : Int))) none none).run Try.prog w = .ok (.slice A' (place.length - n) (pC - n)) w) ∧
    ∀ {w : World} {lo B : Nat}, ISl w lo B pA place → ISc w lo B A' (pC - n) (place.drop n) := by
  obtain ⟨ti, hti, htz, hts, htb⟩ := Try.infoI
  have hsz : ∀ w : World, (sizeOf (Try.prog.elem 26)).run Try.prog w = .ok 1 w := fun w => by
    have he : Try.prog.elem 26 = 3 := by kernel_rfl
    rw [he]
    simp [sizeOf, typeInfo, hti, hts]
  have hel : Try.prog.underlying 26 = some (.slice (Try.prog.elem 26)) := by kernel_rfl
  have hrun : ∀ w : World, (Instr.slice 26 (.slice pA place.length pC) (some (.int .i64 (n : Int))) none none).run Try.prog w = .ok (sliced pA n place.length pC 1) w := fun w => by
    rw [run_slice_l (P := Try.prog) w 26 pA place.length pC hel .i64 (n : Int) (by omega) (by omega), hsz]
    simp [Result.andThen]
  refine ⟨if pC = n then pA else pA.map (·.add (n * 1)), fun w => by rw [hrun w]; rfl, fun {w lo B} h => ⟨?_, by simp; omega⟩⟩
  split
  · exact .inl (List.drop_eq_nil_of_le (by omega))
  · rcases h with rfl | ⟨b, o, rfl, h1, h2, h3⟩
    · exact .inl (by simp)
    · refine .inr ⟨b, o + n, ?_, h1, h2, fun j x hx => ?_⟩
      · have ha : (⟨b, o, none⟩ : Addr).add n = ⟨b, o + n, none⟩ := by unfold Addr.add; split <;> simp_all
        simp only [Option.map_some, Nat.mul_one, ha]
      · rw [List.getElem?_drop] at hx
        rw [show o + n + j = o + (n + j) from by omega]
        exact h3 (n + j) x hx
/-- A place's first n numbers. -/
theorem cut_to {pA : Option Addr} {pC n : Nat} {place : List Int} (hn : n ≤ place.length) (hc : place.length ≤ pC) : (∀ w : World, (Instr.slice 26 (.slice pA place.length pC) none (some (.int .i64 (n : Int))) none).run Try.prog w = .ok (.slice pA n pC) w) ∧
    ∀ {w : World} {lo B : Nat}, ISl w lo B pA place → ISc w lo B pA pC (place.take n) := by
  obtain ⟨ti, hti, htz, hts, htb⟩ := Try.infoI
  have hsz : ∀ w : World, (sizeOf (Try.prog.elem 26)).run Try.prog w = .ok 1 w := fun w => by
    have he : Try.prog.elem 26 = 3 := by kernel_rfl
    rw [he]
    simp [sizeOf, typeInfo, hti, hts]
  have hel : Try.prog.underlying 26 = some (.slice (Try.prog.elem 26)) := by kernel_rfl
  refine ⟨fun w => ?_, fun {w lo B} h => ⟨?_, by simp; omega⟩⟩
  · rw [run_slice_h (P := Try.prog) w 26 pA place.length pC hel .i64 (n : Int) (by omega) (by omega), hsz]
    cases pA <;> simp [Result.andThen, sliced, Addr.add]
  · rcases h with rfl | ⟨b, o, rfl, h1, h2, h3⟩
    · exact .inl (by simp)
    · refine .inr ⟨b, o, rfl, h1, h2, fun j x hx => ?_⟩
      rw [List.getElem?_take] at hx
      split at hx
      · exact h3 j x hx
      · cases hx

set_option maxRecDepth 100000 in
set_option maxHeartbeats 1000000 in
theorem nodePut_any (x : Int × Int × Fo) : ∀ (place : List Int) (s v : Int) (k : Fo) (nv sn : Value) (pA : Option Addr) (pC : Nat) (w : World), NodeIs w 0 w.heap.size nv s v k → NodeIs w 0 w.heap.size sn x.1 x.2.1 x.2.2 → ISc w 0 w.heap.size pA pC place → place.length ≤ 1048576 → fsz k ≤ 1000 →
    Calls Try.prog 40 #[nv, .slice pA place.length pC, sn] w (NpPost s v k place x w) := by
  intro place
  induction place with
  | nil =>
    intro s v k nv sn pA pC w hn hs hp hpl hsz
    have HS := Lib.hid hs
    have HN := Lib.hid hn
    clear hs hn hp
    obtain ⟨ty, vv, rfl⟩ : ∃ ty vv, sn = .iface ty vv := by
      rcases HS.out with ⟨_, _, rfl⟩ | ⟨_, _, _, rfl, _⟩
      · exact ⟨_, _, rfl⟩
      · exact ⟨_, _, rfl⟩
    go_enter Try.func40, Try.ntmps40
    go_wp2_with fail
    go_ret2
    exact ⟨_, _, rfl, Below.refl _ _, .inl ⟨_, _, _, rfl, rfl, HS.out⟩⟩
  | cons i ps ih =>
    intro s v k nv sn pA pC w hn hs hp hpl hsz
    have IH := Lib.hid ih
    have HS := Lib.hid hs
    have HP := Lib.hid hp
    clear hs hp ih
    obtain ⟨ty, vv, rfl⟩ : ∃ ty vv, sn = .iface ty vv := by
      rcases HS.out with ⟨_, _, rfl⟩ | ⟨_, _, _, rfl, _⟩
      · exact ⟨_, _, rfl⟩
      · exact ⟨_, _, rfl⟩
    obtain ⟨b, o, rfl, _, hbB, hc⟩ := isl_get HP.out.1 (show 0 < (i :: ps).length by simp)
    simp only [List.getElem_cons_zero, Nat.add_zero] at hc
    have hta := assert_var
    have htb := assert_sym
    have hpc := HP.out.2
    simp at hpc
    have hlen : ((i :: ps).length : Int) = (ps.length : Int) + 1 := by simp
    simp only [List.length_cons] at hpl ⊢
    rcases hn with ⟨rfl, rfl, rfl⟩ | ⟨hs0, a, c, rfl, hn⟩
    · have HE : Hid (fput 0 v .nil (i :: ps) x = none) := fput_out (by simp [flen])
      go_enter Try.func40, Try.ntmps40
      go_wp2_with fail
      go_ret2
      exact ⟨_, _, rfl, Below.refl _ _, .inr ⟨HE.out, rfl⟩⟩
    · have HN := Lib.hid hn
      clear hn
      have hfl := flen_le_sz k
      by_cases hi0 : i < 0
      · have HE : Hid (fput s v k (i :: ps) x = none) := fput_out (by omega)
        go_enter Try.func40, Try.ntmps40
        go_wp2_with fail
        go_ret2
        exact ⟨_, _, rfl, (Below.refl _ _).alloc (Nat.le_refl _) _, .inr ⟨HE.out, rfl⟩⟩
      by_cases hi1 : (flen k : Int) ≤ i
      · have HE : Hid (fput s v k (i :: ps) x = none) := fput_out (by omega)
        go_enter Try.func40, Try.ntmps40
        go_wp2_with fail
        go_ret2
        exact ⟨_, _, rfl, (Below.refl _ _).alloc (Nat.le_refl _) _, .inr ⟨HE.out, rfl⟩⟩
      obtain ⟨q, rfl⟩ : ∃ q : Nat, i = q := ⟨i.toNat, by omega⟩
      have hq : q < flen k := by omega
      obtain ⟨bk, ok, rfl⟩ : ∃ bk ok, a = some ⟨bk, ok, none⟩ := by
        rcases HN.out with rfl | ⟨b, o, rfl, _⟩
        · simp [flen] at hq
        · exact ⟨_, _, rfl⟩
      have hrow : NRow w 0 w.heap.size k bk ok := by
        rcases HN.out with rfl | ⟨b, o, e, h⟩
        · simp [flen] at hq
        · cases e; exact h
      obtain ⟨s2, v2, kk, val, ⟨x2, y2, hd⟩, _, hbB2, hk0, hnk⟩ := nrow_at hrow hq
      obtain ⟨ty2, vv2, rfl⟩ : ∃ ty vv, val = .iface ty vv := by
        rcases hnk with ⟨_, _, rfl⟩ | ⟨_, _, _, rfl, _⟩
        · exact ⟨_, _, rfl⟩
        · exact ⟨_, _, rfl⟩
      have hkk := fsz_kid hd
      have hb1 : Below w.heap.size w (w.alloc (.cells #[.int .i64 s, .slice (some ⟨bk, ok, none⟩) (flen k) c] 88)).drew := ((Below.refl _ _).alloc (Nat.le_refl _) _).drew
      have HD := Lib.hid hd
      have HROW := Lib.hid hrow
      have HB1 := Lib.hid hb1
      have hs1 := hb1.size
      have HNK1 := Lib.hid ((hnk.below hb1).mono (Nat.le_refl _) hs1)
      have HS1 := Lib.hid ((HS.out.below hb1).mono (Nat.le_refl _) hs1)
      obtain ⟨A', hcut, hcutI⟩ := cut_from (pA := some ⟨b, o, none⟩) (pC := pC) (n := 1) (place := (q : Int) :: ps) (by simp) HP.out.2
      have hsl : ∀ w : World, (Instr.slice 26 (.slice (some ⟨b, o, none⟩) (ps.length + 1) pC) (some (.int .i64 1)) none none).run Try.prog w = .ok (.slice A' ps.length (pC - 1)) w := fun w => hcut w
      have HP1 : Hid (ISc (w.alloc (.cells #[.int .i64 s, .slice (some ⟨bk, ok, none⟩) (flen k) c] 88)).drew 0 (w.alloc (.cells #[.int .i64 s, .slice (some ⟨bk, ok, none⟩) (flen k) c] 88)).drew.heap.size A' (pC - 1) ps) := ((hcutI HP.out.1).same (Same.of_below hb1)).mono (Nat.le_refl _) hs1
      clear hcut hcutI
      have hz0 : (w.alloc (.cells #[.int .i64 s, .slice (some ⟨bk, ok, none⟩) (flen k) c] 88)).cell? ⟨bk, ok + q, none⟩ = some (.iface ty2 vv2) := by rw [World.cell?_alloc_lt _ _ _ hbB2]; exact hk0
      have hz1 : (w.alloc (.cells #[.int .i64 s, .slice (some ⟨bk, ok, none⟩) (flen k) c] 88)).cell? ⟨w.heap.size, 1, none⟩ = some (.slice (some ⟨bk, ok, none⟩) (flen k) c) := by rw [World.cell?_alloc_at _ _ _ _ (by simp)]; rfl
      have hz2 : (w.alloc (.cells #[.int .i64 s, .slice (some ⟨bk, ok, none⟩) (flen k) c] 88)).cell? ⟨w.heap.size, 0, none⟩ = some (.int .i64 s) := by rw [World.cell?_alloc_at _ _ _ _ (by simp)]; rfl
      have HZ2 := Lib.hid hz2
      clear hz2
      have HPL : Hid (ps.length ≤ 1048576) := by unfold Hid; omega
      have HKS : Hid (fsz kk ≤ 1000) := by unfold Hid; omega
      have g1 : (0 : Int) ≤ (q : Int) := by omega
      have g2 : (q : Int) < (flen k : Int) := by omega
      clear hnk hd hrow hb1 hk0
      go_enter Try.func40, Try.ntmps40
      go_wp2_with fail
      go_region_held3 (fun w' => w'.cell? ⟨bk, ok + q, none⟩ = some (.iface ty2 vv2) ∧ w'.cell? ⟨w.heap.size, 1, none⟩ = some (.slice (some ⟨bk, ok, none⟩) (flen k) c))
        (first
          | exact ⟨hy0, hy1⟩
          | go_keep)
        ((go_at_call 40; refine (IH.out s2 v2 kk (.iface ty2 vv2) (.iface ty vv) A' (pC - 1) (w.alloc (.cells #[.int .i64 s, .slice (some ⟨bk, ok, none⟩) (flen k) c] 88)).drew HNK1.out HS1.out HP1.out HPL.out HKS.out).mono ?_; rintro e w3 ⟨nv3, t3, rfl, hb3, hcase3⟩; have hy0 : w3.cell? ⟨bk, ok + q, none⟩ = some (.iface ty2 vv2) := cell_low (bl_undrew hb3) hz0; have hy1 : w3.cell? ⟨w.heap.size, 1, none⟩ = some (.slice (some ⟨bk, ok, none⟩) (flen k) c) := cell_low (bl_undrew hb3) hz1))
      have hb3' := bl_undrew hb3
      have hs3 := hb3'.size
      simp at hs3
      have hy2 : w3.cell? ⟨w.heap.size, 0, none⟩ = some (.int .i64 s) := cell_low hb3' HZ2.out
      have HW3 : Hid (Below w.heap.size w w3) := ((Below.refl _ _).alloc (Nat.le_refl _) _).trans (hb3'.mono (by simp))
      clear hb3 hb3' hz0 hz1 hy0
      rcases hcase3 with ⟨s', v', k', hf, rfl, hn'⟩ | ⟨hf, rfl⟩
      · obtain ⟨ty3, vv3, rfl⟩ : ∃ ty vv, nv3 = .iface ty vv := by
          rcases hn' with ⟨_, _, rfl⟩ | ⟨_, _, _, rfl, _⟩
          · exact ⟨_, _, rfl⟩
          · exact ⟨_, _, rfl⟩
        have HE : Hid (fput s v k ((q : Int) :: ps) x = some (s, v, fset k q (s', v', k'))) := fput_step hq HD.out hf
        obtain ⟨xs, hxl, hx1, hxc⟩ := nrow_cells k bk ok (HROW.out.below HW3.out)
        have HX1 := Lib.hid hx1
        have HXC : Hid (∀ j u, xs[j]? = some u → w3.cell? ⟨bk, ok + j, none⟩ = some u) := fun j u hu => (hxc j u hu).1
        have HXN : Hid (∀ j u, xs[j]? = some u → ∃ x y s v kk, fdrop j k = .node x y (s, v) kk (fdrop (j + 1) k) ∧ NodeIs w3 0 w3.heap.size u s v kk) := fun j u hu => by
          obtain ⟨x, y, s, v, kk, e, hn⟩ := (hxc j u hu).2
          exact ⟨x, y, s, v, kk, e, hn.mono (Nat.le_refl _) (by omega)⟩
        have HXL := Lib.hid hxl
        have HN' := Lib.hid hn'
        clear hx1 hxc hxl hn' hf
        go_wp2_with fail
        with_reducible refine (cloneNodes_any bk ok (flen k) c xs _ HXL.out (by omega) HX1.out HXC.out (by omega)).mono ?_
        rintro e w4 ⟨A4, C4, rfl, hown4, hb4⟩
        obtain ⟨g, cap, hv4, hbg, hgl⟩ := hown4.form (by omega)
        simp only [Value.slice.injEq] at hv4
        obtain ⟨rfl, _, rfl⟩ := hv4
        have hs4 := hb4.size
        obtain ⟨u4, hu4⟩ : ∃ u, xs[q]? = some u := ⟨_, List.getElem?_eq_getElem (by rw [HXL.out]; exact hq)⟩
        have hgc : w4.cell? ⟨g, q, none⟩ = some u4 := by rw [hown4.cellAt q (by omega)]; exact hu4
        have hgf : w4.frozen? ⟨g, q, none⟩ = false := hown4.frozenAt q
        have hy3 := cell_low hb4 hy2
        have HROW4 : Hid (NRow (w4.setCell ⟨g, q, none⟩ (.iface ty3 vv3)) 0 w4.heap.size (fset k q (s', v', k')) g 0) := nrow_put hb4 HXL.out HXN.out hown4 HN'.out
        have HW4 : Hid (Below w.heap.size w (w4.setCell ⟨g, q, none⟩ (.iface ty3 vv3))) := (HW3.out.trans (hb4.mono (by omega))).setCell (by simp; omega) _
        clear hown4 hb4 hu4 hy1 hy2
        have hy4 : (w4.setCell ⟨g, q, none⟩ (.iface ty3 vv3)).cell? ⟨w.heap.size, 0, none⟩ = some (.int .i64 s) := by
          rw [World.cell?_setCell_other _ _ _ _ (by intro h; have := congrArg Addr.block h; simp at this; omega)]
          exact hy3
        go_wp2_with fail
        go_ret2
        exact ⟨_, _, rfl, HW4.out, .inl ⟨s, v, fset k q (s', v', k'), HE.out, rfl, .inr ⟨hs0, some ⟨g, 0, none⟩, C4, by rw [flen_set]; rfl, .inr ⟨g, 0, rfl, by rw [World.size_setCell]; exact HROW4.out⟩⟩⟩⟩
      · have HE : Hid (fput s v k ((q : Int) :: ps) x = none) := fput_none HD.out hf
        clear hf
        go_wp2_with fail
        go_ret2
        exact ⟨_, _, rfl, HW3.out, .inr ⟨HE.out, rfl⟩⟩
end Go.Proofs.Ytkmfnhoeigoajab

/-! C4: impl.TermPut: a term with another put to a place, made anew. -/
namespace Go.Proofs.Ytkmfnhoeigoajab
open Go.RowKit Go.Deep
attribute [local go_sem ↓] Go.wp_at_zero Go.wp_at_succ

def PutPost (s v : Int) (k : Fo) (place : List Int) (x : Int × Int × Fo) (w : World) (e : Ending) (w' : World) : Prop :=
  ∃ a c s' v' k' t, putR s v k place x = (s', v', k', t) ∧ e = .returned (.tuple #[.agg #[.int .i64 s', .int .i64 v', .slice a (flen k') c], .bool t]) ∧ Below w.heap.size w w' ∧ Sl w' w.heap.size w'.heap.size a k'

theorem put_end {w w1 : World} {s v s' v' : Int} {k k' : Fo} {t : Bool} {place : List Int} {x : Int × Int × Fo} {a : Option Addr} {c : Nat} (hr : putR s v k place x = (s', v', k', t)) (hb : Below w.heap.size w w1) (hl : Sl w1 (w.heap.size + 3) w1.heap.size a k') (p q r : Value) :
    PutPost s v k place x w (.returned (.tuple #[.agg #[.int .i64 s', .int .i64 v', .slice a (flen k') c], .bool t])) (((w1.setCell ⟨w.heap.size + 1 + 1, 0, none⟩ p).setCell ⟨w.heap.size + 1 + 1, 1, none⟩ q).setCell ⟨w.heap.size + 1 + 1, 2, none⟩ r) := by
  refine ⟨a, c, s', v', k', t, hr, rfl, ((hb.setCell (by simp; omega) _).setCell (by simp; omega) _).setCell (by simp; omega) _, ?_⟩
  have hs : Same (w.heap.size + 3) w1.heap.size w1 (((w1.setCell ⟨w.heap.size + 1 + 1, 0, none⟩ p).setCell ⟨w.heap.size + 1 + 1, 1, none⟩ q).setCell ⟨w.heap.size + 1 + 1, 2, none⟩ r) :=
    (((Same.setCell (fun _ _ _ => rfl) (.inl (by simp)) _).setCell (.inl (by simp)) _).setCell (.inl (by simp)) _)
  exact (hl.same hs).mono (by omega) (by simp)

/-- The cells that hold the answer, behind two boxes. -/
theorem put_cells {w w1 : World} {o o' : Obj} (hb : Below (w.heap.size + 3) (((w.alloc o).alloc o').alloc (.cells #[.int .i64 0, .int .i64 0, .slice none 0 0] 25)) w1) :
    w1.cell? ⟨w.heap.size + 1 + 1, 0, none⟩ = some (.int .i64 0) ∧ w1.cell? ⟨w.heap.size + 1 + 1, 1, none⟩ = some (.int .i64 0) ∧ w1.cell? ⟨w.heap.size + 1 + 1, 2, none⟩ = some (.slice none 0 0) ∧
      w1.frozen? ⟨w.heap.size + 1 + 1, 0, none⟩ = false ∧ w1.frozen? ⟨w.heap.size + 1 + 1, 1, none⟩ = false ∧ w1.frozen? ⟨w.heap.size + 1 + 1, 2, none⟩ = false := by
  refine ⟨?_, ?_, ?_, ?_, ?_, ?_⟩
  · rw [hb.cell (by simp), World.cell?_alloc_at _ _ _ _ (by simp)]; rfl
  · rw [hb.cell (by simp), World.cell?_alloc_at _ _ _ _ (by simp)]; rfl
  · rw [hb.cell (by simp), World.cell?_alloc_at _ _ _ _ (by simp)]; rfl
  · rw [hb.frozen (by simp), World.frozen?_alloc_at _ _ _ _ (by simp)]
  · rw [hb.frozen (by simp), World.frozen?_alloc_at _ _ _ _ (by simp)]
  · rw [hb.frozen (by simp), World.frozen?_alloc_at _ _ _ _ (by simp)]
/-- The cells of the second box. -/
theorem put_box {w w1 : World} {o Z : Obj} {x y z : Value} (hb : Below (w.heap.size + 3) (((w.alloc o).alloc (.cells #[x, y, z] 25)).alloc Z) w1) :
    w1.cell? ⟨w.heap.size + 1, 0, none⟩ = some x ∧ w1.cell? ⟨w.heap.size + 1, 1, none⟩ = some y ∧ w1.cell? ⟨w.heap.size + 1, 2, none⟩ = some z := by
  refine ⟨?_, ?_, ?_⟩
  · rw [hb.cell (by simp), World.cell?_alloc_lt _ _ _ (by simp), World.cell?_alloc_at _ _ _ _ (by simp)]; rfl
  · rw [hb.cell (by simp), World.cell?_alloc_lt _ _ _ (by simp), World.cell?_alloc_at _ _ _ _ (by simp)]; rfl
  · rw [hb.cell (by simp), World.cell?_alloc_lt _ _ _ (by simp), World.cell?_alloc_at _ _ _ _ (by simp)]; rfl

set_option maxRecDepth 100000 in
set_option maxHeartbeats 1000000 in
theorem iTermPut_any (s v : Int) (a : Option Addr) (c : Nat) (k : Fo) (pA : Option Addr) (pC : Nat) (place : List Int) (s2 v2 : Int) (a2 : Option Addr) (c2 : Nat) (k2 : Fo) (w : World) (hl : Sl w 0 w.heap.size a k) (hp : ISc w 0 w.heap.size pA pC place) (hpl : place.length ≤ 1048576) (hl2 : Sl w 0 w.heap.size a2 k2) :
    Calls Try.prog 11 #[.agg #[.int .i64 s, .int .i64 v, .slice a (flen k) c], .slice pA place.length pC, .agg #[.int .i64 s2, .int .i64 v2, .slice a2 (flen k2) c2]] w (PutPost s v k place (s2, v2, k2) w) := by
  have HL := Lib.hid hl
  have HL2 := Lib.hid hl2
  have HP := Lib.hid hp
  clear hl hl2 hp
  have hb0 : Below w.heap.size w (((w.alloc (.cells #[.int .i64 s, .int .i64 v, .slice a (flen k) c] 25)).alloc (.cells #[.int .i64 s2, .int .i64 v2, .slice a2 (flen k2) c2] 25)).alloc (.cells #[.int .i64 0, .int .i64 0, .slice none 0 0] 25)) := (((Below.refl _ _).alloc (Nat.le_refl _) _).alloc (by simp) _).alloc (by simp; omega) _
  have HB0 := Lib.hid hb0
  clear hb0
  go_enter Try.func11, Try.ntmps11
  go_wp2_with fail
  with_reducible refine (nodeOf_any s v a c k 16 _ ?_ (by omega) (by omega)).mono ?_
  · exact (HL.out.below HB0.out).mono (Nat.le_refl _) HB0.out.size
  rintro e w2 ⟨nv, rfl, hb, hyes⟩
  have hs2 := hb.size
  simp at hs2
  have hb' := hb.mono (show w.heap.size + 3 ≤ _ by simp)
  obtain ⟨hc0, hc1, hc2⟩ := put_box hb'
  have HB2' := Lib.hid hb'
  have HB2 := Lib.hid (HB0.out.trans (hb.mono HB0.out.size))
  have HN : Hid (okW s v k 16 = true → NodeIs w2 0 w2.heap.size nv s v k) := fun h => (hyes h).mono (lo' := 0) (Nat.zero_le _) (Nat.le_refl _)
  clear hyes hb hb'
  go_wp2_with fail
  with_reducible refine (nodeOf_any s2 v2 a2 c2 k2 16 _ ?_ (by omega) (by omega)).mono ?_
  · exact (HL2.out.below HB2.out).mono (Nat.le_refl _) HB2.out.size
  rintro e w3 ⟨nv2, rfl, hb3, hyes2⟩
  have hs3 := hb3.size
  have hb3' := HB2'.out.trans (hb3.mono (show w.heap.size + 3 ≤ _ by omega))
  obtain ⟨hr0, hr1, hr2, hq0, hq1, hq2⟩ := put_cells hb3'
  have HB3' := Lib.hid hb3'
  have HB3 := Lib.hid (HB2.out.trans (hb3.mono (by omega)))
  have HN2 : Hid (okW s2 v2 k2 16 = true → NodeIs w3 0 w3.heap.size nv2 s2 v2 k2) := fun h => (hyes2 h).mono (lo' := 0) (Nat.zero_le _) (Nat.le_refl _)
  have HN1 : Hid (okW s v k 16 = true → NodeIs w3 0 w3.heap.size nv s v k) := fun h => ((HN.out h).below hb3).mono (Nat.le_refl _) hs3
  clear hyes2 hb3 hb3' HN hc0 hc1 hc2
  cases hok : okW s v k 16 with
  | false =>
    have HR : Hid (putR s v k place (s2, v2, k2) = (0, 0, .nil, false)) := by unfold Hid putR; rw [hok]; simp
    clear hok
    go_wp2_with fail
    refine bodyPost_ret (v := .tuple #[.agg #[.int .i64 0, .int .i64 0, .slice none 0 0], .bool false]) ?_ rfl (put_end (k' := .nil) HR.out HB3.out (.inl rfl) _ _ _)
    simp [results, Try.results11, go_sem, hr0, hr1, hr2]
  | true =>
    cases hok2 : okW s2 v2 k2 16 with
    | false =>
      have HR : Hid (putR s v k place (s2, v2, k2) = (0, 0, .nil, false)) := by unfold Hid putR; simp [hok2]
      clear hok hok2
      go_wp2_with fail
      refine bodyPost_ret (v := .tuple #[.agg #[.int .i64 0, .int .i64 0, .slice none 0 0], .bool false]) ?_ rfl (put_end (k' := .nil) HR.out HB3.out (.inl rfl) _ _ _)
      simp [results, Try.results11, go_sem, hr0, hr1, hr2]
    | true =>
      have HNA := Lib.hid (HN1.out hok)
      have HNB := Lib.hid (HN2.out hok2)
      have HOK := Lib.hid hok
      have HOK2 := Lib.hid hok2
      have hsz := ((okW_iff _ _ _ _).1 hok).2.2
      have hsz2 := ((okW_iff _ _ _ _).1 hok2).2.2
      clear hok hok2 HN1 HN2 hr0 hr1 hr2 hq0 hq1 hq2
      obtain ⟨ty, vv, rfl⟩ : ∃ ty vv, nv = .iface ty vv := by
        rcases HNA.out with ⟨_, _, rfl⟩ | ⟨_, _, _, rfl, _⟩
        · exact ⟨_, _, rfl⟩
        · exact ⟨_, _, rfl⟩
      obtain ⟨ty2, vv2, rfl⟩ : ∃ ty vv, nv2 = .iface ty vv := by
        rcases HNB.out with ⟨_, _, rfl⟩ | ⟨_, _, _, rfl, _⟩
        · exact ⟨_, _, rfl⟩
        · exact ⟨_, _, rfl⟩
      go_wp2_with fail
      with_reducible refine (nodePut_any (s2, v2, k2) place s v k _ _ pA pC _ HNA.out HNB.out ?_ hpl (by omega)).mono ?_
      · exact (HP.out.same (Same.of_below HB3.out)).mono (Nat.le_refl _) HB3.out.size
      rintro e w4 ⟨nv', t4, rfl, hb4, hcase⟩
      have hs4 := hb4.size
      have HB4' := Lib.hid (HB3'.out.trans (hb4.mono (by omega)))
      have HB4 := Lib.hid (HB3.out.trans (hb4.mono (by omega)))
      clear hb4
      rcases hcase with ⟨s', v', k', hf, rfl, hn'⟩ | ⟨hf, rfl⟩
      · have h1 := (okW_iff _ _ _ _).1 HOK.out
        have h2 := (okW_iff _ _ _ _).1 HOK2.out
        have hfo := fput_ok place s v k _ h1.1 h1.2.1 h2.1 h2.2.1 hf
        have hfs : fsz k' ≤ 1000 := by
          have hth := fput_there place s v k (s2, v2, k2)
          rw [hf] at hth
          obtain ⟨⟨s0, v0, k0⟩, h0⟩ := Option.isSome_iff_exists.1 hth.symm
          have := fput_sz place s v k _ hf h0
          dsimp only at this
          omega
        by_cases hbig : 1 + fsz k' ≤ 16
        · have e1 : decide ((16 : Int) < 1 + (fsz k' : Int)) = false := decide_eq_false (by omega)
          have HR : Hid (putR s v k place (s2, v2, k2) = (s', v', k', true)) := putR_some HOK.out HOK2.out hf hbig
          clear h1 h2 hf
          rcases hn' with ⟨rfl, rfl, rfl⟩ | ⟨hs', a5, c5, rfl, hn2⟩
          · clear hfo e1
            go_wp2_with fail
            refine upon_method 114 (by kernel_rfl) (by kernel_rfl) ?_
            go_simp
            with_reducible refine (varSize_any v' _).mono ?_
            rintro e w5 ⟨rfl, rfl⟩
            go_wp2_with fail
            refine upon_method 115 (by kernel_rfl) (by kernel_rfl) ?_
            go_simp
            with_reducible refine (varTerm_any v' _).mono ?_
            rintro e w6 ⟨a6, c6, rfl, hb6, hl6⟩
            have hs6 := hb6.size
            obtain ⟨hr0, hr1, hr2, hq0, hq1, hq2⟩ := put_cells (HB4'.out.trans (hb6.mono (by omega)))
            have HB6 := Lib.hid (HB4.out.trans (hb6.mono (by omega)))
            have HL6 := Lib.hid (hl6.mono (lo' := w.heap.size + 3) (by omega) (Nat.le_refl _))
            clear hb6 hl6
            go_wp2_with fail
            refine bodyPost_ret (v := .tuple #[.agg #[.int .i64 0, .int .i64 v', .slice a6 (flen .nil) c6], .bool true]) ?_ rfl (put_end HR.out HB6.out HL6.out _ _ _)
            simp [results, Try.results11, go_sem, hr0, hr1, hr2]
          · have hv0 : v' = 0 := ((okN_iff _ _ _).1 hfo.1).2.2 hs'
            subst hv0
            have HKK := Lib.hid hfo.2
            have HNS := Lib.hid hn2
            clear hn2 hfo
            go_wp2_with fail
            refine upon_method 103 (by kernel_rfl) (by kernel_rfl) ?_
            go_simp
            with_reducible refine (symSize_any (fsz k') s' a5 c5 k' _ HNS.out (Nat.le_refl _) (by omega)).mono ?_
            rintro e w5 ⟨rfl, hb5⟩
            have hs5 := hb5.size
            have HNS5 := Lib.hid ((HNS.out.below hb5).mono (lo' := 0) (Nat.le_refl _) hs5)
            have HB5' := Lib.hid (HB4'.out.trans (hb5.mono (by omega)))
            have HB5 := Lib.hid (HB4.out.trans (hb5.mono (by omega)))
            clear hb5
            go_wp2_with fail
            refine upon_method 104 (by kernel_rfl) (by kernel_rfl) ?_
            go_simp
            with_reducible refine (symTerm_any (fsz k') s' a5 c5 k' _ HNS5.out HKK.out (Nat.le_refl _) (by omega)).mono ?_
            rintro e w6 ⟨a6, c6, rfl, hb6, hl6⟩
            have hs6 := hb6.size
            obtain ⟨hr0, hr1, hr2, hq0, hq1, hq2⟩ := put_cells (HB5'.out.trans (hb6.mono (by omega)))
            have HB6 := Lib.hid (HB5.out.trans (hb6.mono (by omega)))
            have HL6 := Lib.hid (hl6.mono (lo' := w.heap.size + 3) (by omega) (Nat.le_refl _))
            clear hb6 hl6
            go_wp2_with fail
            refine bodyPost_ret (v := .tuple #[.agg #[.int .i64 s', .int .i64 0, .slice a6 (flen k') c6], .bool true]) ?_ rfl (put_end HR.out HB6.out HL6.out _ _ _)
            simp [results, Try.results11, go_sem, hr0, hr1, hr2]
        · have e1 : decide ((16 : Int) < 1 + (fsz k' : Int)) = true := decide_eq_true (by omega)
          have HR : Hid (putR s v k place (s2, v2, k2) = (0, 0, .nil, false)) := by unfold Hid putR; rw [if_pos ⟨HOK.out, HOK2.out⟩, hf]; dsimp only; rw [if_neg hbig]
          clear h1 h2 hf hfo
          rcases hn' with ⟨rfl, rfl, rfl⟩ | ⟨hs', a5, c5, rfl, hn2⟩
          · simp [fsz] at hbig
          · have HNS := Lib.hid hn2
            clear hn2
            go_wp2_with fail
            refine upon_method 103 (by kernel_rfl) (by kernel_rfl) ?_
            go_simp
            with_reducible refine (symSize_any (fsz k') s' a5 c5 k' _ HNS.out (Nat.le_refl _) (by omega)).mono ?_
            rintro e w5 ⟨rfl, hb5⟩
            have hs5 := hb5.size
            obtain ⟨hr0, hr1, hr2, hq0, hq1, hq2⟩ := put_cells (HB4'.out.trans (hb5.mono (by omega)))
            have HB5 := Lib.hid (HB4.out.trans (hb5.mono (by omega)))
            clear hb5
            go_wp2_with fail
            refine bodyPost_ret (v := .tuple #[.agg #[.int .i64 0, .int .i64 0, .slice none 0 0], .bool false]) ?_ rfl (put_end (k' := .nil) HR.out HB5.out (.inl rfl) _ _ _)
            simp [results, Try.results11, go_sem, hr0, hr1, hr2]
      · have HR : Hid (putR s v k place (s2, v2, k2) = (0, 0, .nil, false)) := by unfold Hid putR; rw [if_pos ⟨HOK.out, HOK2.out⟩, hf]
        obtain ⟨hr0, hr1, hr2, hq0, hq1, hq2⟩ := put_cells HB4'.out
        clear hf
        go_wp2_with fail
        refine bodyPost_ret (v := .tuple #[.agg #[.int .i64 0, .int .i64 0, .slice none 0 0], .bool false]) ?_ rfl (put_end (k' := .nil) HR.out HB4.out (.inl rfl) _ _ _)
        simp [results, Try.results11, go_sem, hr0, hr1, hr2]
end Go.Proofs.Ytkmfnhoeigoajab
