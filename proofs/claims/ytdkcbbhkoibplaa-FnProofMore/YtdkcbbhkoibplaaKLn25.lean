/- Several texts in one: DPE, LP1. -/
import Derived.Test.YtdkcbbhkoibplaaKLn24
import Derived.Test.YtdkcbbhkoibplaaKLn23
import Derived.Test.YtdkcbbhkoibplaaKLn6

/-! DPE: DrawProofEnd: equations, a term, links; drawn. -/
namespace Go.Proofs.Ytdkcbbhkoibplaa
open Go.RowKit Go.Deep

def DpPost (w : World) (e : Ending) (w' : World) : Prop :=
  ∃ es A C s v a c k ls A2 C2, e = .returned (.tuple #[.slice A (List.length es) C, .agg #[.int .i64 s, .int .i64 v, .slice a (flen k) c], .slice A2 (List.length ls) C2]) ∧ es.length ≤ 3 ∧ OkZ s v k ∧ 1 + fsz k ≤ 7 ∧ ls.length ≤ 5 ∧ ls.length ≤ C2 ∧ SmallLs ls ∧ Below w.heap.size w w' ∧ ESl w' 0 w'.heap.size A es ∧ Sl w' 0 w'.heap.size a k ∧ LSl w' 0 w'.heap.size A2 ls
theorem dp_end {w u : World} {es : List Eqd} {A : Option Addr} {C : Nat} {s v : Int} {a : Option Addr} {c : Nat} {k : Fo} {ls : List Lk} {A2 : Option Addr} {C2 : Nat} (hlow : Below (w.heap.size + 1) (w.alloc (.cells #[.int .i64 0, .int .i64 0, .slice none 0 0] 35)) u) (hel : es.length ≤ 3) (hok : OkZ s v k) (hz : 1 + fsz k ≤ 7) (hl5 : ls.length ≤ 5) (hc : ls.length ≤ C2) (hsm : SmallLs ls)
    (he : ESl u (w.heap.size + 1) u.heap.size A es) (hl : Sl u (w.heap.size + 1) u.heap.size a k) (hls : LSl u (w.heap.size + 1) u.heap.size A2 ls) (x y z : Value) :
    DpPost w (.returned (.tuple #[.slice A es.length C, .agg #[.int .i64 s, .int .i64 v, .slice a (flen k) c], .slice A2 ls.length C2])) (((u.setCell ⟨w.heap.size, 0, none⟩ x).setCell ⟨w.heap.size, 1, none⟩ y).setCell ⟨w.heap.size, 2, none⟩ z).drew := by
  have h0 : Same (w.heap.size + 1) u.heap.size u (((u.setCell ⟨w.heap.size, 0, none⟩ x).setCell ⟨w.heap.size, 1, none⟩ y).setCell ⟨w.heap.size, 2, none⟩ z) := by
    iterate 3 refine Same.setCell ?_ (.inl (by dsimp only; omega)) _
    exact fun _ _ _ => rfl
  have hb' : Below w.heap.size w u := ((Below.refl _ _).alloc (Nat.le_refl _) (.cells #[.int .i64 0, .int .i64 0, .slice none 0 0] 35)).trans (hlow.mono (by omega))
  have hb2 : Below w.heap.size w (((u.setCell ⟨w.heap.size, 0, none⟩ x).setCell ⟨w.heap.size, 1, none⟩ y).setCell ⟨w.heap.size, 2, none⟩ z) := ((hb'.setCell (Nat.le_refl _) _).setCell (Nat.le_refl _) _).setCell (Nat.le_refl _) _
  have hs3 : (((u.setCell ⟨w.heap.size, 0, none⟩ x).setCell ⟨w.heap.size, 1, none⟩ y).setCell ⟨w.heap.size, 2, none⟩ z).heap.size = u.heap.size := by simp
  generalize ((u.setCell ⟨w.heap.size, 0, none⟩ x).setCell ⟨w.heap.size, 1, none⟩ y).setCell ⟨w.heap.size, 2, none⟩ z = X at h0 hb2 hs3 ⊢
  have hd : Below X.heap.size X X.drew := (Below.refl _ _).drew
  have hs : Same (w.heap.size + 1) u.heap.size u X.drew := fun b q1 q2 => (hd.block b (by omega)).trans (h0 b q1 q2)
  have hle : u.heap.size ≤ X.drew.heap.size := by have := hd.size; omega
  exact ⟨es, A, C, s, v, a, c, k, ls, A2, C2, rfl, hel, hok, hz, hl5, hc, hsm, hb2.drew, (he.same hs).mono (Nat.zero_le _) hle, (hl.same hs).mono (Nat.zero_le _) hle, (hls.same hs).mono (Nat.zero_le _) hle⟩

set_option maxRecDepth 100000 in
set_option maxHeartbeats 4000000 in
theorem DrawProofEnd_any (a0 : Option Addr) (len cap : Nat) (w : World) (hby : Bytes w a0 len) (hlen : len ≤ cap) :
    Calls Try.prog 37 #[.slice a0 len cap] w (DpPost w) := by
  have HBY := Lib.hid hby
  clear hby
  go_enter Try.func37, Try.ntmps37
  go_wp2_with fail
  with_reducible refine (l6Open_any a0 len cap _ (HBY.out.alloc _) hlen).mono ?_
  rintro e w1 ⟨rfl, hb1, hrd⟩
  have hs1 := hb1.size
  simp at hs1
  simp only [World.size_alloc] at hrd
  have HRD := Lib.hid hrd
  have HB1 : Hid (Below (w.heap.size + 1) (w.alloc (.cells #[.int .i64 0, .int .i64 0, .slice none 0 0] 35)) w1) := hb1.mono (by simp)
  clear hb1 hrd
  simp only [World.size_alloc]
  obtain ⟨br, hbrE⟩ : ∃ br, w.heap.size + 1 = br := ⟨_, rfl⟩
  rw [hbrE]
  rw [hbrE] at HRD
  have HBR : Hid (br = w.heap.size + 1) := hbrE.symm
  clear hbrE
  have hlt1 := HRD.out.lt
  go_wp2_with fail
  have hany := l71Any_any 3 br 0 _ HRD.out (by omega) (by omega) (by omega)
  rw [show ((3 : Nat) : Int) = 3 from rfl] at hany
  with_reducible refine hany.mono ?_
  rintro e w2 ⟨es, A, C, p2, rfl, he1, hel, _, hp2, hp2', ha2, hes⟩
  clear hany
  have HLOW2 : Hid (Below (w.heap.size + 1) (w.alloc (.cells #[.int .i64 0, .int .i64 0, .slice none 0 0] 35)) w2) := adv_low HB1.out (by have := HBR.out; omega) (by omega) ha2
  have HRD2 := Lib.hid (ha2.rd HRD.out)
  have HES2 : Hid (ESl w2 (br + 1) w2.heap.size A es) := hes.mono (by omega) (Nat.le_refl _)
  have hs2 := ha2.size
  clear ha2 hes HB1 HRD
  go_wp2_with fail
  with_reducible refine (l71Links_any br p2 es A C _ HRD2.out (by omega) HES2.out (by omega)).mono ?_
  rintro e w3 ⟨s, v, a, c, k, ls, A2, C2, sn, vn, an, cn, kn, p3, rfl, hok, hz, hl5, hcap, hsm, hp3, hp3', ha3, hl, hls, hln⟩
  have HOK := Lib.hid hok
  have HSM := Lib.hid hsm
  have hs3 := ha3.size
  have hlow : Below w3.heap.size w3 ((w3.alloc (.cells #[.int .i64 s, .int .i64 v, .slice a (flen k) c] 35)).alloc (.cells #[.int .i64 sn, .int .i64 vn, .slice an (flen kn) cn] 35)) := ((Below.refl _ _).alloc (Nat.le_refl _) _).alloc (by simp) _
  have HLOW3 : Hid (Below (w.heap.size + 1) (w.alloc (.cells #[.int .i64 0, .int .i64 0, .slice none 0 0] 35)) ((w3.alloc (.cells #[.int .i64 s, .int .i64 v, .slice a (flen k) c] 35)).alloc (.cells #[.int .i64 sn, .int .i64 vn, .slice an (flen kn) cn] 35))) := (adv_low HLOW2.out (by have := HBR.out; omega) (by omega) ha3).trans (hlow.mono (by omega))
  have HRD3 : Hid (Rd ((w3.alloc (.cells #[.int .i64 s, .int .i64 v, .slice a (flen k) c] 35)).alloc (.cells #[.int .i64 sn, .int .i64 vn, .slice an (flen kn) cn] 35)) br p3) := ((ha3.rd HRD2.out).alloc _).alloc _
  have HES3 : Hid (ESl ((w3.alloc (.cells #[.int .i64 s, .int .i64 v, .slice a (flen k) c] 35)).alloc (.cells #[.int .i64 sn, .int .i64 vn, .slice an (flen kn) cn] 35)) (br + 1) w3.heap.size A es) := (((HES2.out.same (ha3.same (Nat.le_refl _) (.inl (by omega)))).mono (Nat.le_refl _) hs3)).same (Same.of_below hlow)
  have HL3 : Hid (Sl ((w3.alloc (.cells #[.int .i64 s, .int .i64 v, .slice a (flen k) c] 35)).alloc (.cells #[.int .i64 sn, .int .i64 vn, .slice an (flen kn) cn] 35)) (br + 1) w3.heap.size a k) := (hl.mono (by omega) (Nat.le_refl _)).same (Same.of_below hlow)
  have HLS3 : Hid (LSl ((w3.alloc (.cells #[.int .i64 s, .int .i64 v, .slice a (flen k) c] 35)).alloc (.cells #[.int .i64 sn, .int .i64 vn, .slice an (flen kn) cn] 35)) (br + 1) w3.heap.size A2 ls) := (hls.mono (by omega) (Nat.le_refl _)).same (Same.of_below hlow)
  have HC3 : Hid (∀ i x, #[Value.int .i64 s, .int .i64 v, .slice a (flen k) c][i]? = some x → ((w3.alloc (.cells #[.int .i64 s, .int .i64 v, .slice a (flen k) c] 35)).alloc (.cells #[.int .i64 sn, .int .i64 vn, .slice an (flen kn) cn] 35)).cell? ⟨w3.heap.size, i, none⟩ = some x) := fun i x hx => by
    rw [World.cell?_alloc_lt _ _ _ (by simp), World.cell?_alloc_at _ _ _ _ (by simp)]; exact hx
  clear ha3 hl hls hln hok hsm HRD2 HES2 HLOW2 hlow
  go_wp2_with fail
  with_reducible refine (pick_any 10 br p3 _ HRD3.out (by omega) (by omega) (by omega)).mono ?_
  rintro e w5 ⟨y, rfl, hy, hb5⟩
  have ha5 : Adv ((w3.alloc (.cells #[.int .i64 s, .int .i64 v, .slice a (flen k) c] 35)).alloc (.cells #[.int .i64 sn, .int .i64 vn, .slice an (flen kn) cn] 35)) br (p3 + 1) w5 := hb5
  have hs5 := ha5.size
  simp at hs5
  have HLOW5 : Hid (Below (w.heap.size + 1) (w.alloc (.cells #[.int .i64 0, .int .i64 0, .slice none 0 0] 35)) w5) := adv_low HLOW3.out (by have := HBR.out; omega) (by simp; omega) ha5
  have HES5 : Hid (ESl w5 (w.heap.size + 1) w5.heap.size A es) := (HES3.out.same (ha5.same (by simp; omega) (.inl (by omega)))).mono (by have := HBR.out; omega) (by omega)
  have HL5 : Hid (Sl w5 (w.heap.size + 1) w5.heap.size a k) := (HL3.out.same (ha5.same (by simp; omega) (.inl (by omega)))).mono (by have := HBR.out; omega) (by omega)
  have HLS5 : Hid (LSl w5 (w.heap.size + 1) w5.heap.size A2 ls) := (HLS3.out.same (ha5.same (by simp; omega) (.inl (by omega)))).mono (by have := HBR.out; omega) (by omega)
  have c0 := ha5.cell (HC3.out 0 _ rfl) (by dsimp only; omega)
  have c1 := ha5.cell (HC3.out 1 _ rfl) (by dsimp only; omega)
  have c2 := ha5.cell (HC3.out 2 _ rfl) (by dsimp only; omega)
  obtain ⟨r0, r1, r2⟩ : w5.cell? ⟨w.heap.size, 0, none⟩ = some (.int .i64 0) ∧ w5.cell? ⟨w.heap.size, 1, none⟩ = some (.int .i64 0) ∧ w5.cell? ⟨w.heap.size, 2, none⟩ = some (.slice none 0 0) := by
    have h1 : ∀ i, w5.cell? ⟨w.heap.size, i, none⟩ = #[Value.int .i64 0, .int .i64 0, .slice none 0 0][i]? := fun i => by rw [HLOW5.out.cell (by simp), World.cell?_alloc_at _ _ _ _ (by simp)]
    exact ⟨h1 0, h1 1, h1 2⟩
  have hfz : ∀ i, w5.frozen? ⟨w.heap.size, i, none⟩ = false := fun i => by rw [HLOW5.out.frozen (by simp), World.frozen?_alloc_at _ _ _ _ (by simp)]
  have f0 := hfz 0
  have f1 := hfz 1
  have f2 := hfz 2
  have hb3 : w.heap.size + 1 < w3.heap.size := by have := HBR.out; omega
  clear hb5 ha5 hfz HRD3 HES3 HL3 HLS3 HLOW3 HC3 hy
  by_cases y0 : y = 0
  · subst y0
    by_cases hl0 : 0 < ls.length
    · have hg : (0 : Int) < (ls.length : Int) := by omega
      obtain ⟨A3, hrun, hcut⟩ := cutL_from (A := A2) (n := 1) (show 1 ≤ ls.length by omega) hcap
      rw [show ((1 : Nat) : Int) = 1 from rfl] at hrun
      have HLS6 : Hid (LSl w5 (w.heap.size + 1) w5.heap.size A3 (ls.drop 1)) := hcut HLS5.out
      have HSM6 : Hid (SmallLs (ls.drop 1)) := fun x hx => HSM.out x (List.mem_of_mem_drop hx)
      have hend : ∀ x y z, _ := fun x y z => dp_end (C := C) (c := c) (C2 := C2 - 1) HLOW5.out hel HOK.out hz (by rw [List.length_drop]; omega) (by rw [List.length_drop]; omega) HSM6.out HES5.out HL5.out HLS6.out x y z
      rw [List.length_drop] at hend
      have HEND := Lib.hid hend
      clear hend hcut
      have HAT := Lib.hid (cl3_at c0 c1 c2)
      have HN0 : Hid (∀ q, q ∈ (cl3 w3.heap.size s v (.slice a (flen k) c)) → q.1.block ≠ w.heap.size) := cl3_blk (by omega)
      haveI : Nonempty (SeenD (cl3 w3.heap.size s v (.slice a (flen k) c))) := ⟨⟨_, HAT.out⟩⟩
      have hu0 : ∀ u : SeenD (cl3 w3.heap.size s v (.slice a (flen k) c)), u.world.cell? ⟨w3.heap.size, 0, none⟩ = some (.int .i64 s) := fun u => u.at_ (_, _) (by simp [cl3])
      have hu1 : ∀ u : SeenD (cl3 w3.heap.size s v (.slice a (flen k) c)), u.world.cell? ⟨w3.heap.size, 1, none⟩ = some (.int .i64 v) := fun u => u.at_ (_, _) (by simp [cl3])
      have hu2 : ∀ u : SeenD (cl3 w3.heap.size s v (.slice a (flen k) c)), u.world.cell? ⟨w3.heap.size, 2, none⟩ = some (.slice a (flen k) c) := fun u => u.at_ (_, _) (by simp [cl3])
      clear c0 c1 c2
      go_wp2_with fail
      refine wp_region_mix (fun w' => ∃ u : SeenD (cl3 w3.heap.size s v (.slice a (flen k) c)), w' = u.world) [] [(0, 0), (1, 0), (2, 0), (3, 0), (4, 1), (5, 1)] (by kernel_rfl) (by kernel_rfl) (seenD_drew HAT.out) ?_
      iterate 4
        refine mix_see rfl (fun K hK => ?_)
        go_simp
        refine hK _ ?_
        clear hK K
      clear hu0 hu1 hu2
      iterate 2
        refine mix_hold rfl (fun K hK => ?_)
        go_simp
        refine hK _ _ (seenD_drew (storeD HAT.out HN0.out _ _ _)) ?_
        clear hK K
      refine mix_end ?_
      go_wp2_with fail
      refine bodyPost_ret (v := .tuple #[.slice A es.length C, .agg #[.int .i64 s, .int .i64 v, .slice a (flen k) c], .slice A3 (ls.length - 1) (C2 - 1)]) ?_ rfl (HEND.out _ _ _)
      simp [results, Try.results37, go_sem, r0, r1, r2]
    · have hg : decide ((ls.length : Int) > 0) = false := decide_eq_false (by omega)
      have HAT := Lib.hid (cl3_at c0 c1 c2)
      have HN0 : Hid (∀ q, q ∈ (cl3 w3.heap.size s v (.slice a (flen k) c)) → q.1.block ≠ w.heap.size) := cl3_blk (by omega)
      haveI : Nonempty (SeenD (cl3 w3.heap.size s v (.slice a (flen k) c))) := ⟨⟨_, HAT.out⟩⟩
      have hu0 : ∀ u : SeenD (cl3 w3.heap.size s v (.slice a (flen k) c)), u.world.cell? ⟨w3.heap.size, 0, none⟩ = some (.int .i64 s) := fun u => u.at_ (_, _) (by simp [cl3])
      have hu1 : ∀ u : SeenD (cl3 w3.heap.size s v (.slice a (flen k) c)), u.world.cell? ⟨w3.heap.size, 1, none⟩ = some (.int .i64 v) := fun u => u.at_ (_, _) (by simp [cl3])
      have hu2 : ∀ u : SeenD (cl3 w3.heap.size s v (.slice a (flen k) c)), u.world.cell? ⟨w3.heap.size, 2, none⟩ = some (.slice a (flen k) c) := fun u => u.at_ (_, _) (by simp [cl3])
      clear c0 c1 c2
      go_wp2_with fail
      refine wp_region_mix (fun w' => ∃ u : SeenD (cl3 w3.heap.size s v (.slice a (flen k) c)), w' = u.world) [] [(0, 0), (1, 0), (2, 0), (3, 0), (4, 1), (5, 1)] (by kernel_rfl) (by kernel_rfl) (seenD_drew HAT.out) ?_
      iterate 4
        refine mix_see rfl (fun K hK => ?_)
        go_simp
        refine hK _ ?_
        clear hK K
      clear hu0 hu1 hu2
      iterate 2
        refine mix_hold rfl (fun K hK => ?_)
        go_simp
        refine hK _ _ (seenD_drew (storeD HAT.out HN0.out _ _ _)) ?_
        clear hK K
      refine mix_end ?_
      go_wp2_with fail
      refine bodyPost_ret (v := .tuple #[.slice A es.length C, .agg #[.int .i64 s, .int .i64 v, .slice a (flen k) c], .slice A2 ls.length C2]) ?_ rfl (dp_end HLOW5.out hel HOK.out hz hl5 hcap HSM.out HES5.out HL5.out HLS5.out _ _ _)
      simp [results, Try.results37, go_sem, r0, r1, r2]
  have d0 : ((y : Int) == 0) = false := by have h : (y : Int) ≠ 0 := by omega
                                           simpa using h
  have HAT := Lib.hid (cl3_at c0 c1 c2)
  have HN0 : Hid (∀ q, q ∈ (cl3 w3.heap.size s v (.slice a (flen k) c)) → q.1.block ≠ w.heap.size) := cl3_blk (by omega)
  haveI : Nonempty (SeenD (cl3 w3.heap.size s v (.slice a (flen k) c))) := ⟨⟨_, HAT.out⟩⟩
  have hu0 : ∀ u : SeenD (cl3 w3.heap.size s v (.slice a (flen k) c)), u.world.cell? ⟨w3.heap.size, 0, none⟩ = some (.int .i64 s) := fun u => u.at_ (_, _) (by simp [cl3])
  have hu1 : ∀ u : SeenD (cl3 w3.heap.size s v (.slice a (flen k) c)), u.world.cell? ⟨w3.heap.size, 1, none⟩ = some (.int .i64 v) := fun u => u.at_ (_, _) (by simp [cl3])
  have hu2 : ∀ u : SeenD (cl3 w3.heap.size s v (.slice a (flen k) c)), u.world.cell? ⟨w3.heap.size, 2, none⟩ = some (.slice a (flen k) c) := fun u => u.at_ (_, _) (by simp [cl3])
  clear c0 c1 c2
  go_wp2_with fail
  refine wp_region_mix (fun w' => ∃ u : SeenD (cl3 w3.heap.size s v (.slice a (flen k) c)), w' = u.world) [] [(0, 0), (1, 0), (2, 0), (3, 0), (4, 1), (5, 1)] (by kernel_rfl) (by kernel_rfl) (seenD_drew HAT.out) ?_
  iterate 4
    refine mix_see rfl (fun K hK => ?_)
    go_simp
    refine hK _ ?_
    clear hK K
  clear hu0 hu1 hu2
  iterate 2
    refine mix_hold rfl (fun K hK => ?_)
    go_simp
    refine hK _ _ (seenD_drew (storeD HAT.out HN0.out _ _ _)) ?_
    clear hK K
  refine mix_end ?_
  go_wp2_with fail
  refine bodyPost_ret (v := .tuple #[.slice A es.length C, .agg #[.int .i64 s, .int .i64 v, .slice a (flen k) c], .slice A2 ls.length C2]) ?_ rfl (dp_end HLOW5.out hel HOK.out hz hl5 hcap HSM.out HES5.out HL5.out HLS5.out _ _ _)
  simp [results, Try.results37, go_sem, r0, r1, r2]
end Go.Proofs.Ytdkcbbhkoibplaa

/-! LP1: A link taken back; a link elsewhere. Plain lemmas. -/
namespace Go.Proofs.Ytdkcbbhkoibplaa
open Go.RowKit Go.Deep

theorem ans_true {r : Option Tm3} {t : Tm3} (h : ansR r = (t, true)) : r = some t := by
  rcases ansR_cases h with ⟨h, _⟩ | ⟨_, h⟩
  · cases h
  · exact h
theorem lk1_parts {es : List Eqd} {t x : Tm3} {eq : Int} {back : Bool} {pl : List Int} {bs : List Bd} (h : lk1 es t (eq, back, pl, bs) = some x) : ∃ i e, eq = (i : Nat) ∧ es[i]? = some e ∧ sok 64 bs = true ∧ lkAt t pl (put3 (sv bs) (sidesR e back).1) (put3 (sv bs) (sidesR e back).2) = some x := by
  unfold lk1 at h
  dsimp only at h
  split at h
  · rename_i hc
    obtain ⟨e, he, h⟩ := Option.bind_eq_some_iff.1 h
    exact ⟨eq.toNat, e, by omega, he, hc.1, h⟩
  · cases h
end Go.Proofs.Ytdkcbbhkoibplaa
