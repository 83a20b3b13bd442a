/- nodePut: another node put to a place; the nodes on the way are made anew. -/
import Derived.Test.YtebalmemncldlabC2
import Derived.Deep.RegionHeld3
namespace Go.Proofs.Ytebalmemncldlab
open Go.RowKit Go.Deep
attribute [local go_sem ↓] Go.wp_at_zero Go.wp_at_succ

def NpPost (s v : Int) (k : Fo) (place : List Int) (x : Int × Int × Fo) (w : World) (e : Ending) (w' : World) : Prop :=
  ∃ nv t, e = .returned (.tuple #[nv, .bool t]) ∧ Below w.heap.size w w' ∧ ((∃ s' v' k', fput s v k place x = some (s', v', k') ∧ t = true ∧ NodeIs w' 0 w'.heap.size nv s' v' k') ∨ (fput s v k place x = none ∧ t = false))

/-- A place from its n-th number on. -/
theorem cut_from {pA : Option Addr} {pC n : Nat} {place : List Int} (hn : n ≤ place.length) (hc : place.length ≤ pC) : ∃ A', (∀ w : World, (Instr.slice 33 (.slice pA place.length pC) (some (.int .i64 (n : Int))) none none).run Try.prog w = .ok (.slice A' (place.length - n) (pC - n)) w) ∧
    ∀ {w : World} {lo B : Nat}, ISl w lo B pA place → ISc w lo B A' (pC - n) (place.drop n) := by
  obtain ⟨ti, hti, htz, hts, htb⟩ := Try.infoI
  have hsz : ∀ w : World, (sizeOf (Try.prog.elem 33)).run Try.prog w = .ok 1 w := fun w => by
    have he : Try.prog.elem 33 = 3 := by kernel_rfl
    rw [he]
    simp [sizeOf, typeInfo, hti, hts]
  have hel : Try.prog.underlying 33 = some (.slice (Try.prog.elem 33)) := by kernel_rfl
  have hrun : ∀ w : World, (Instr.slice 33 (.slice pA place.length pC) (some (.int .i64 (n : Int))) none none).run Try.prog w = .ok (sliced pA n place.length pC 1) w := fun w => by
    rw [run_slice_l (P := Try.prog) w 33 pA place.length pC hel .i64 (n : Int) (by omega) (by omega), hsz]
    simp [Result.andThen]
  refine ⟨if pC = n then pA else pA.map (·.add (n * 1)), fun w => by rw [hrun w]; rfl, fun {w lo B} h => ⟨?_, by simp; omega⟩⟩
  split
  · exact .inl (List.drop_eq_nil_of_le (by omega))
  · rcases h with rfl | ⟨b, o, rfl, h1, h2, h3⟩
    · exact .inl (by simp)
    · refine .inr ⟨b, o + n, ?_, h1, h2, fun j x hx => ?_⟩
      · have ha : (⟨b, o, none⟩ : Addr).add n = ⟨b, o + n, none⟩ := by unfold Addr.add; split <;> simp_all
        simp only [Option.map_some, Nat.mul_one, ha]
      · rw [List.getElem?_drop] at hx
        rw [show o + n + j = o + (n + j) from by omega]
        exact h3 (n + j) x hx
/-- A place's first n numbers. -/
theorem cut_to {pA : Option Addr} {pC n : Nat} {place : List Int} (hn : n ≤ place.length) (hc : place.length ≤ pC) : (∀ w : World, (Instr.slice 33 (.slice pA place.length pC) none (some (.int .i64 (n : Int))) none).run Try.prog w = .ok (.slice pA n pC) w) ∧
    ∀ {w : World} {lo B : Nat}, ISl w lo B pA place → ISc w lo B pA pC (place.take n) := by
  obtain ⟨ti, hti, htz, hts, htb⟩ := Try.infoI
  have hsz : ∀ w : World, (sizeOf (Try.prog.elem 33)).run Try.prog w = .ok 1 w := fun w => by
    have he : Try.prog.elem 33 = 3 := by kernel_rfl
    rw [he]
    simp [sizeOf, typeInfo, hti, hts]
  have hel : Try.prog.underlying 33 = some (.slice (Try.prog.elem 33)) := by kernel_rfl
  refine ⟨fun w => ?_, fun {w lo B} h => ⟨?_, by simp; omega⟩⟩
  · rw [run_slice_h (P := Try.prog) w 33 pA place.length pC hel .i64 (n : Int) (by omega) (by omega), hsz]
    cases pA <;> simp [Result.andThen, sliced, Addr.add]
  · rcases h with rfl | ⟨b, o, rfl, h1, h2, h3⟩
    · exact .inl (by simp)
    · refine .inr ⟨b, o, rfl, h1, h2, fun j x hx => ?_⟩
      rw [List.getElem?_take] at hx
      split at hx
      · exact h3 j x hx
      · cases hx

set_option maxRecDepth 100000 in
set_option maxHeartbeats 1000000 in
theorem nodePut_any (x : Int × Int × Fo) : ∀ (place : List Int) (s v : Int) (k : Fo) (nv sn : Value) (pA : Option Addr) (pC : Nat) (w : World), NodeIs w 0 w.heap.size nv s v k → NodeIs w 0 w.heap.size sn x.1 x.2.1 x.2.2 → ISc w 0 w.heap.size pA pC place → place.length ≤ 1048576 → fsz k ≤ 1000 →
    Calls Try.prog 68 #[nv, .slice pA place.length pC, sn] w (NpPost s v k place x w) := by
  intro place
  induction place with
  | nil =>
    intro s v k nv sn pA pC w hn hs hp hpl hsz
    have HS := Lib.hid hs
    have HN := Lib.hid hn
    clear hs hn hp
    obtain ⟨ty, vv, rfl⟩ : ∃ ty vv, sn = .iface ty vv := by
      rcases HS.out with ⟨_, _, rfl⟩ | ⟨_, _, _, rfl, _⟩
      · exact ⟨_, _, rfl⟩
      · exact ⟨_, _, rfl⟩
    go_enter Try.func68, Try.ntmps68
    go_wp2_with fail
    go_ret2
    exact ⟨_, _, rfl, Below.refl _ _, .inl ⟨_, _, _, rfl, rfl, HS.out⟩⟩
  | cons i ps ih =>
    intro s v k nv sn pA pC w hn hs hp hpl hsz
    have IH := Lib.hid ih
    have HS := Lib.hid hs
    have HP := Lib.hid hp
    clear hs hp ih
    obtain ⟨ty, vv, rfl⟩ : ∃ ty vv, sn = .iface ty vv := by
      rcases HS.out with ⟨_, _, rfl⟩ | ⟨_, _, _, rfl, _⟩
      · exact ⟨_, _, rfl⟩
      · exact ⟨_, _, rfl⟩
    obtain ⟨b, o, rfl, _, hbB, hc⟩ := isl_get HP.out.1 (show 0 < (i :: ps).length by simp)
    simp only [List.getElem_cons_zero, Nat.add_zero] at hc
    have hta := assert_var
    have htb := assert_sym
    have hpc := HP.out.2
    simp at hpc
    have hlen : ((i :: ps).length : Int) = (ps.length : Int) + 1 := by simp
    simp only [List.length_cons] at hpl ⊢
    rcases hn with ⟨rfl, rfl, rfl⟩ | ⟨hs0, a, c, rfl, hn⟩
    · have HE : Hid (fput 0 v .nil (i :: ps) x = none) := fput_out (by simp [flen])
      go_enter Try.func68, Try.ntmps68
      go_wp2_with fail
      go_ret2
      exact ⟨_, _, rfl, Below.refl _ _, .inr ⟨HE.out, rfl⟩⟩
    · have HN := Lib.hid hn
      clear hn
      have hfl := flen_le_sz k
      by_cases hi0 : i < 0
      · have HE : Hid (fput s v k (i :: ps) x = none) := fput_out (by omega)
        go_enter Try.func68, Try.ntmps68
        go_wp2_with fail
        go_ret2
        exact ⟨_, _, rfl, (Below.refl _ _).alloc (Nat.le_refl _) _, .inr ⟨HE.out, rfl⟩⟩
      by_cases hi1 : (flen k : Int) ≤ i
      · have HE : Hid (fput s v k (i :: ps) x = none) := fput_out (by omega)
        go_enter Try.func68, Try.ntmps68
        go_wp2_with fail
        go_ret2
        exact ⟨_, _, rfl, (Below.refl _ _).alloc (Nat.le_refl _) _, .inr ⟨HE.out, rfl⟩⟩
      obtain ⟨q, rfl⟩ : ∃ q : Nat, i = q := ⟨i.toNat, by omega⟩
      have hq : q < flen k := by omega
      obtain ⟨bk, ok, rfl⟩ : ∃ bk ok, a = some ⟨bk, ok, none⟩ := by
        rcases HN.out with rfl | ⟨b, o, rfl, _⟩
        · simp [flen] at hq
        · exact ⟨_, _, rfl⟩
      have hrow : NRow w 0 w.heap.size k bk ok := by
        rcases HN.out with rfl | ⟨b, o, e, h⟩
        · simp [flen] at hq
        · cases e; exact h
      obtain ⟨s2, v2, kk, val, ⟨x2, y2, hd⟩, _, hbB2, hk0, hnk⟩ := nrow_at hrow hq
      obtain ⟨ty2, vv2, rfl⟩ : ∃ ty vv, val = .iface ty vv := by
        rcases hnk with ⟨_, _, rfl⟩ | ⟨_, _, _, rfl, _⟩
        · exact ⟨_, _, rfl⟩
        · exact ⟨_, _, rfl⟩
      have hkk := fsz_kid hd
      have hb1 : Below w.heap.size w (w.alloc (.cells #[.int .i64 s, .slice (some ⟨bk, ok, none⟩) (flen k) c] 109)).drew := ((Below.refl _ _).alloc (Nat.le_refl _) _).drew
      have HD := Lib.hid hd
      have HROW := Lib.hid hrow
      have HB1 := Lib.hid hb1
      have hs1 := hb1.size
      have HNK1 := Lib.hid ((hnk.below hb1).mono (Nat.le_refl _) hs1)
      have HS1 := Lib.hid ((HS.out.below hb1).mono (Nat.le_refl _) hs1)
      obtain ⟨A', hcut, hcutI⟩ := cut_from (pA := some ⟨b, o, none⟩) (pC := pC) (n := 1) (place := (q : Int) :: ps) (by simp) HP.out.2
      have hsl : ∀ w : World, (Instr.slice 33 (.slice (some ⟨b, o, none⟩) (ps.length + 1) pC) (some (.int .i64 1)) none none).run Try.prog w = .ok (.slice A' ps.length (pC - 1)) w := fun w => hcut w
      have HP1 : Hid (ISc (w.alloc (.cells #[.int .i64 s, .slice (some ⟨bk, ok, none⟩) (flen k) c] 109)).drew 0 (w.alloc (.cells #[.int .i64 s, .slice (some ⟨bk, ok, none⟩) (flen k) c] 109)).drew.heap.size A' (pC - 1) ps) := ((hcutI HP.out.1).same (Same.of_below hb1)).mono (Nat.le_refl _) hs1
      clear hcut hcutI
      have hz0 : (w.alloc (.cells #[.int .i64 s, .slice (some ⟨bk, ok, none⟩) (flen k) c] 109)).cell? ⟨bk, ok + q, none⟩ = some (.iface ty2 vv2) := by rw [World.cell?_alloc_lt _ _ _ hbB2]; exact hk0
      have hz1 : (w.alloc (.cells #[.int .i64 s, .slice (some ⟨bk, ok, none⟩) (flen k) c] 109)).cell? ⟨w.heap.size, 1, none⟩ = some (.slice (some ⟨bk, ok, none⟩) (flen k) c) := by rw [World.cell?_alloc_at _ _ _ _ (by simp)]; rfl
      have hz2 : (w.alloc (.cells #[.int .i64 s, .slice (some ⟨bk, ok, none⟩) (flen k) c] 109)).cell? ⟨w.heap.size, 0, none⟩ = some (.int .i64 s) := by rw [World.cell?_alloc_at _ _ _ _ (by simp)]; rfl
      have HZ2 := Lib.hid hz2
      clear hz2
      have HPL : Hid (ps.length ≤ 1048576) := by unfold Hid; omega
      have HKS : Hid (fsz kk ≤ 1000) := by unfold Hid; omega
      have g1 : (0 : Int) ≤ (q : Int) := by omega
      have g2 : (q : Int) < (flen k : Int) := by omega
      clear hnk hd hrow hb1 hk0
      go_enter Try.func68, Try.ntmps68
      go_wp2_with fail
      go_region_held3 (fun w' => w'.cell? ⟨bk, ok + q, none⟩ = some (.iface ty2 vv2) ∧ w'.cell? ⟨w.heap.size, 1, none⟩ = some (.slice (some ⟨bk, ok, none⟩) (flen k) c))
        (first
          | exact ⟨hy0, hy1⟩
          | go_keep)
        ((go_at_call 68; refine (IH.out s2 v2 kk (.iface ty2 vv2) (.iface ty vv) A' (pC - 1) (w.alloc (.cells #[.int .i64 s, .slice (some ⟨bk, ok, none⟩) (flen k) c] 109)).drew HNK1.out HS1.out HP1.out HPL.out HKS.out).mono ?_; rintro e w3 ⟨nv3, t3, rfl, hb3, hcase3⟩; have hy0 : w3.cell? ⟨bk, ok + q, none⟩ = some (.iface ty2 vv2) := cell_low (bl_undrew hb3) hz0; have hy1 : w3.cell? ⟨w.heap.size, 1, none⟩ = some (.slice (some ⟨bk, ok, none⟩) (flen k) c) := cell_low (bl_undrew hb3) hz1))
      have hb3' := bl_undrew hb3
      have hs3 := hb3'.size
      simp at hs3
      have hy2 : w3.cell? ⟨w.heap.size, 0, none⟩ = some (.int .i64 s) := cell_low hb3' HZ2.out
      have HW3 : Hid (Below w.heap.size w w3) := ((Below.refl _ _).alloc (Nat.le_refl _) _).trans (hb3'.mono (by simp))
      clear hb3 hb3' hz0 hz1 hy0
      rcases hcase3 with ⟨s', v', k', hf, rfl, hn'⟩ | ⟨hf, rfl⟩
      · obtain ⟨ty3, vv3, rfl⟩ : ∃ ty vv, nv3 = .iface ty vv := by
          rcases hn' with ⟨_, _, rfl⟩ | ⟨_, _, _, rfl, _⟩
          · exact ⟨_, _, rfl⟩
          · exact ⟨_, _, rfl⟩
        have HE : Hid (fput s v k ((q : Int) :: ps) x = some (s, v, fset k q (s', v', k'))) := fput_step hq HD.out hf
        obtain ⟨xs, hxl, hx1, hxc⟩ := nrow_cells k bk ok (HROW.out.below HW3.out)
        have HX1 := Lib.hid hx1
        have HXC : Hid (∀ j u, xs[j]? = some u → w3.cell? ⟨bk, ok + j, none⟩ = some u) := fun j u hu => (hxc j u hu).1
        have HXN : Hid (∀ j u, xs[j]? = some u → ∃ x y s v kk, fdrop j k = .node x y (s, v) kk (fdrop (j + 1) k) ∧ NodeIs w3 0 w3.heap.size u s v kk) := fun j u hu => by
          obtain ⟨x, y, s, v, kk, e, hn⟩ := (hxc j u hu).2
          exact ⟨x, y, s, v, kk, e, hn.mono (Nat.le_refl _) (by omega)⟩
        have HXL := Lib.hid hxl
        have HN' := Lib.hid hn'
        clear hx1 hxc hxl hn' hf
        go_wp2_with fail
        with_reducible refine (cloneNodes_any bk ok (flen k) c xs _ HXL.out (by omega) HX1.out HXC.out (by omega)).mono ?_
        rintro e w4 ⟨A4, C4, rfl, hown4, hb4⟩
        obtain ⟨g, cap, hv4, hbg, hgl⟩ := hown4.form (by omega)
        simp only [Value.slice.injEq] at hv4
        obtain ⟨rfl, _, rfl⟩ := hv4
        have hs4 := hb4.size
        obtain ⟨u4, hu4⟩ : ∃ u, xs[q]? = some u := ⟨_, List.getElem?_eq_getElem (by rw [HXL.out]; exact hq)⟩
        have hgc : w4.cell? ⟨g, q, none⟩ = some u4 := by rw [hown4.cellAt q (by omega)]; exact hu4
        have hgf : w4.frozen? ⟨g, q, none⟩ = false := hown4.frozenAt q
        have hy3 := cell_low hb4 hy2
        have HROW4 : Hid (NRow (w4.setCell ⟨g, q, none⟩ (.iface ty3 vv3)) 0 w4.heap.size (fset k q (s', v', k')) g 0) := nrow_put hb4 HXL.out HXN.out hown4 HN'.out
        have HW4 : Hid (Below w.heap.size w (w4.setCell ⟨g, q, none⟩ (.iface ty3 vv3))) := (HW3.out.trans (hb4.mono (by omega))).setCell (by simp; omega) _
        clear hown4 hb4 hu4 hy1 hy2
        have hy4 : (w4.setCell ⟨g, q, none⟩ (.iface ty3 vv3)).cell? ⟨w.heap.size, 0, none⟩ = some (.int .i64 s) := by
          rw [World.cell?_setCell_other _ _ _ _ (by intro h; have := congrArg Addr.block h; simp at this; omega)]
          exact hy3
        go_wp2_with fail
        go_ret2
        exact ⟨_, _, rfl, HW4.out, .inl ⟨s, v, fset k q (s', v', k'), HE.out, rfl, .inr ⟨hs0, some ⟨g, 0, none⟩, C4, by rw [flen_set]; rfl, .inr ⟨g, 0, rfl, by rw [World.size_setCell]; exact HROW4.out⟩⟩⟩⟩
      · have HE : Hid (fput s v k ((q : Int) :: ps) x = none) := fput_none HD.out hf
        clear hf
        go_wp2_with fail
        go_ret2
        exact ⟨_, _, rfl, HW3.out, .inr ⟨HE.out, rfl⟩⟩
end Go.Proofs.Ytebalmemncldlab
