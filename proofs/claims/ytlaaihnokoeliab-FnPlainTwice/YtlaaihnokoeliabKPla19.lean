/- Several texts in one: PLs, PL1, V5d, DTp, B3, LSu, LB2, FrameO, Frame. -/
import Derived.Test.YtlaaihnokoeliabKPla18
import Derived.Test.YtlaaihnokoeliabKPla17
import Derived.Test.YtlaaihnokoeliabKPla12
import Derived.Test.YtlaaihnokoeliabKPla11
import Derived.Test.YtlaaihnokoeliabKPla4
import Derived.Test.YtlaaihnokoeliabKPla1
import Derived.Test.YtlaaihnokoeliabKPla15
import Derived.Test.YtlaaihnokoeliabRows
import Derived.WalkKit
import Derived.ProofKit
import Derived.OpenShut
import Derived.ShutString
import Derived.ChangeOld
import Derived.Below
import Derived.Test.YtlaaihnokoeliabKPla2

/-! PLs: The specification's l2Names and TermPlain. -/
namespace Go.Proofs.Ytlaaihnokoeliab
open Go.RowKit Go.Deep

def LnPost (lo : Nat) (bs : List Bd) (s v : Int) (k : Fo) (w : World) (e : Ending) (w' : World) : Prop :=
  ∃ A C, e = .returned (.slice A (List.length (nmL bs (fvs s v k))) C) ∧ Below w.heap.size w w' ∧ BSl w' lo w'.heap.size A (nmL bs (fvs s v k))
/-- No term has kids. -/
def Nils (bs : List Bd) : Prop := ∀ x ∈ bs, x.2.2.2 = .nil
theorem nm1_nils {bs : List Bd} (x : Int) (h : Nils bs) : Nils (nm1 bs x) := by
  cases hs : sv bs x with
  | some t => rw [nm1_some hs]; exact h
  | none =>
    rw [nm1_none hs]
    intro y hy
    rcases ladd_mem.1 hy with rfl | hy
    · rfl
    · exact h y hy
theorem nmL_nils : ∀ (xs : List Int) (bs : List Bd), Nils bs → Nils (nmL bs xs)
  | [], _, h => h
  | x :: r, _, h => nmL_nils r _ (nm1_nils x h)
theorem BRow.bsl_lo {w wr : World} {base lo : Nat} {bs : List Bd} {A : Option Addr} {C : Nat} (h : BRow w base bs A C wr) (hn : Nils bs) (hlo : lo ≤ base) : BSl wr lo wr.heap.size A bs := by
  obtain ⟨xs, hown, hxl, hall⟩ := h.own
  rcases Nat.eq_zero_or_pos bs.length with h0 | h0
  · exact .inl (List.eq_nil_of_length_eq_zero h0)
  · obtain ⟨g, cap, hv, hb, hlt⟩ := hown.form h0
    have hA : A = some ⟨g, 0, none⟩ := by simp only [Value.slice.injEq] at hv; exact hv.1
    subst hA
    refine .inr ⟨g, 0, rfl, by omega, hlt, fun i x hx => ?_⟩
    have hi := (List.getElem?_eq_some_iff.1 hx).1
    obtain ⟨a', c', c0, c1, c2, c3, hl⟩ := hall i x hx
    refine ⟨a', c', ?_, ?_, ?_, ?_, .inl (hn x (List.mem_of_getElem? hx))⟩
    · rw [Nat.zero_add, hown.cellAt _ (by omega)]; exact c0
    · rw [Nat.zero_add, hown.cellAt _ (by omega)]; exact c1
    · rw [Nat.zero_add, hown.cellAt _ (by omega)]; exact c2
    · rw [Nat.zero_add, hown.cellAt _ (by omega)]; exact c3
theorem BSl.go {w w2 : World} {lo : Nat} {a : Option Addr} {bs : List Bd} (h : BSl w lo w.heap.size a bs) (hb : Below w.heap.size w w2) : BSl w2 lo w2.heap.size a bs := (h.below hb).mono (Nat.le_refl _) hb.size
theorem one_box {w wr : World} {x y z : Value} {T : TypeId} (h : Below (w.heap.size + 1) (w.alloc (.cells #[x, y, z] T)) wr) :
    wr.cell? ⟨w.heap.size, 0, none⟩ = some x ∧ wr.cell? ⟨w.heap.size, 1, none⟩ = some y ∧ wr.cell? ⟨w.heap.size, 2, none⟩ = some z := by
  refine ⟨?_, ?_, ?_⟩
  · rw [h.cell (by simp), World.cell?_alloc_at _ _ _ _ (by simp)]; rfl
  · rw [h.cell (by simp), World.cell?_alloc_at _ _ _ _ (by simp)]; rfl
  · rw [h.cell (by simp), World.cell?_alloc_at _ _ _ _ (by simp)]; rfl
theorem fvl_dropN {j x y : Nat} {s v : Int} {k kk : Fo} (h : fdrop j k = .node x y (s, v) kk (fdrop (j + 1) k)) : fvl (fdrop j k) = fvs s v kk ++ fvl (fdrop (j + 1) k) := by
  rw [h]; rfl

set_option maxRecDepth 100000 in
set_option maxHeartbeats 4000000 in
theorem l2Names_any (lo N : Nat) : ∀ (bs : List Bd) (A : Option Addr) (C : Nat) (s v : Int) (a : Option Addr) (c : Nat) (k : Fo) (w : World), BSl w lo w.heap.size A bs → Nils bs → lo ≤ w.heap.size → Sl w 0 w.heap.size a k → okN s v (flen k) = true → fok k = true → fsz k ≤ N → N ≤ 100 → bs.length + (1 + fsz k) ≤ 1000 →
    Calls Try.prog 33 #[.slice A bs.length C, .agg #[.int .i64 s, .int .i64 v, .slice a (flen k) c], .int .i64 0] w (LnPost lo bs s v k w) := by
  induction N using Nat.strongRecOn with
  | _ N ih =>
    intro bs A C s v a c k w hbs hnil hlo hl hok hfk hN hN2 hbl
    have hfl := flen_le_sz k
    have IH := Lib.hid ih
    have HFK := Lib.hid hfk
    have HOK := Lib.hid hok
    have HBS0 := Lib.hid hbs
    have hb0 : Below w.heap.size w (w.alloc (.cells #[.int .i64 s, .int .i64 v, .slice a (flen k) c] 25)) := (Below.refl _ _).alloc (Nat.le_refl _) _
    have HB0 := Lib.hid hb0
    have HBS := Lib.hid (hbs.go hb0)
    have HNIL := Lib.hid hnil
    have HSL := Lib.hid hl
    have HBX : Hid (Below (w.heap.size + 1) (w.alloc (.cells #[.int .i64 s, .int .i64 v, .slice a (flen k) c] 25)) (w.alloc (.cells #[.int .i64 s, .int .i64 v, .slice a (flen k) c] 25))) := Below.refl _ _
    clear ih hfk hok hbs hb0 hl hnil
    by_cases hs0 : s = 0
    · subst hs0
      have hk0 := kids_none HOK.out
      subst hk0
      have HFV : Hid (nmL bs (fvs 0 v .nil) = nm1 bs v) := rfl
      go_enter Try.func33, Try.ntmps33
      go_wp2_with fail
      go_loopw [7] (fun i wr => ∃ j : Nat, i = .int .i64 j ∧ j ≤ bs.length ∧ Hid (sv bs v = sv (bs.drop j) v) ∧ Hid (Below (w.heap.size + 1) (w.alloc (.cells #[.int .i64 0, .int .i64 v, .slice a (flen .nil) c] 25)) wr)) (fun i _ => bs.length - (intOf i).toNat)
      case atStart => exact ⟨0, rfl, Nat.zero_le _, by simp [Hid], HBX⟩
      case round =>
        clear HBX
        obtain ⟨j, rfl, hj, HS, HBL⟩ := hrel
        have hsr := HBL.out.size
        simp at hsr
        obtain ⟨hx0, hx1, hx2⟩ := one_box HBL.out
        have HBW := Lib.hid (HB0.out.trans (HBL.out.mono (show w.heap.size ≤ w.heap.size + 1 by omega)))
        by_cases hlt : j < bs.length
        · obtain ⟨y, hy⟩ : ∃ y, bs[j]? = some y := ⟨bs[j], List.getElem?_eq_getElem hlt⟩
          obtain ⟨yx, ys, yv, yk⟩ := y
          have hbr := HBS0.out.next HBW.out
          rcases hbr with hbr | ⟨rb, ro, rfl, _, hbB, hcells⟩
          · subst hbr; simp at hy
          obtain ⟨ya, yc, d0, _, _, _, _⟩ := hcells j _ hy
          dsimp only at d0
          have HD := Lib.hid (drop_bd hy)
          have g1 : (0 : Int) ≤ (j : Int) := by omega
          have g2 : (j : Int) < (bs.length : Int) := by omega
          clear hcells hy
          have hu0 : ∀ u : After wr.heap.size wr, u.world.cell? ⟨rb, ro + j * 4, none⟩ = some (.int .i64 yx) := fun u => cell_low u.below d0
          have hu1 : ∀ u : After wr.heap.size wr, u.world.cell? ⟨w.heap.size, 1, none⟩ = some (.int .i64 v) := fun u => cell_low u.below hx1
          by_cases hx : yx = v
          · subst hx
            have hxe : (yx == yx) = true := by simp
            have HT : Hid (sv bs yx = some (ys, yv, yk)) := by rw [Hid, HS.out, HD.out]; simp only [sv]; rw [if_pos trivial]
            clear HS HD
            go_wp2_with fail
            refine wp_region_after wr.heap.size (by kernel_rfl) (by kernel_rfl) ?_
            repeat (go_big_quiet_step (fail))
            refine wpQuiet_nil ?_
            rintro wq ⟨⟨_, hu⟩, rfl⟩
            have HP : Hid (LnPost lo bs 0 yx .nil w (.returned (.slice (some ⟨rb, ro, none⟩) bs.length C)) wq) := by
              have h1 := below_next HBW.out hu
              refine ⟨some ⟨rb, ro, none⟩, C, ?_, h1, ?_⟩
              · rw [HFV.out, nm1_some HT.out]
              · rw [HFV.out, nm1_some HT.out]; exact HBS0.out.go h1
            clear hu hu0 hu1 d0 hx0 hx1 hx2
            go_wp2_with fail
            go_ret
            exact HP.out
          · have hxe : (yx == v) = false := by simpa using hx
            have HN : Hid (sv bs v = sv (bs.drop (j + 1)) v) := by rw [Hid, HS.out, HD.out]; simp only [sv]; rw [if_neg hx]
            clear HS HD
            go_wp2_with fail
            refine wp_region_after wr.heap.size (by kernel_rfl) (by kernel_rfl) ?_
            repeat (go_big_quiet_step (fail))
            refine wpQuiet_nil ?_
            rintro wq ⟨⟨_, hu⟩, rfl⟩
            have HBL2 := Lib.hid (HBL.out.trans (hu.mono hsr))
            clear hu hu0 hu1 d0 hx0 hx1 hx2
            go_wp2_with fail
            go_roundw
            case rel => exact ⟨j + 1, by go_num, by omega, HN, HBL2⟩
            case measure => simp [intOf]; omega
        · have HT : Hid (sv bs v = none) := by rw [Hid, HS.out, List.drop_eq_nil_of_le (by omega)]; rfl
          have HC : Hid (Calls Try.prog 59 #[.slice A bs.length C, .agg #[.int .i64 v, .int .i64 0, .int .i64 (bs.length : Int), .slice none 0 0]] wr (AddPost bs (v, 0, (bs.length : Int), .nil) wr)) := l2Add_any bs A C v 0 (bs.length : Int) none 0 .nil _ (HBS0.out.next HBW.out) (by omega) (.inl rfl)
          clear HS
          go_wp2_with fail
          with_reducible refine HC.out.mono ?_
          rintro e w3 ⟨A3, C3, rfl, hrow⟩
          have HP : Hid (LnPost lo bs 0 v .nil w (.returned (.slice A3 (ladd bs (v, 0, (bs.length : Int), .nil)).length C3)) w3) := by
            refine ⟨A3, C3, ?_, below_next HBW.out hrow.low, ?_⟩
            · rw [HFV.out, nm1_none HT.out]
            · rw [HFV.out, nm1_none HT.out]; exact hrow.bsl_lo (by have := nm1_nils v HNIL.out; rw [nm1_none HT.out] at this; exact this) (by omega)
          clear hrow hx0 hx1 hx2
          go_wp2_with fail
          go_ret
          exact HP.out
    · have hse : (s == 0) = false := by simpa using hs0
      have HFV : Hid (fvs s v k = fvl k) := by unfold Hid fvs; rw [if_neg hs0]
      go_enter Try.func33, Try.ntmps33
      go_wp2_with fail
      go_loopw [0, 8] (fun o i wr => ∃ (j : Nat) (b1 : List Bd) (A1 : Option Addr) (C1 : Nat), o = .slice A1 b1.length C1 ∧ i = .int .i64 j ∧ j ≤ flen k ∧ Hid (nmL bs (fvl k) = nmL b1 (fvl (fdrop j k))) ∧ Hid (b1.length + fsz (fdrop j k) ≤ bs.length + fsz k) ∧ Hid (Nils b1) ∧ Hid (BSl wr lo wr.heap.size A1 b1) ∧ Hid (Below (w.heap.size + 1) (w.alloc (.cells #[.int .i64 s, .int .i64 v, .slice a (flen k) c] 25)) wr)) (fun _ i _ => flen k - (intOf i).toNat)
      case atStart => exact ⟨0, bs, A, C, rfl, rfl, Nat.zero_le _, rfl, Nat.le_refl _, HNIL, HBS, HBX⟩
      case round =>
        clear HBX HBS HNIL
        obtain ⟨j, b1, A1, C1, rfl, rfl, hj, HF, HLN, HNIL, HBS, HBL⟩ := hrel
        have hsr := HBL.out.size
        simp at hsr
        obtain ⟨hx0, hx1, hx2⟩ := one_box HBL.out
        have HBW := Lib.hid (HB0.out.trans (HBL.out.mono (show w.heap.size ≤ w.heap.size + 1 by omega)))
        by_cases hlt : j < flen k
        · have hnr := HSL.out.next HBW.out
          rcases hnr with rfl | ⟨b, o, rfl, hrow⟩
          · simp [flen] at hlt
          obtain ⟨s1, v1, k1, a1, c1, ⟨x, y, hd⟩, _, hbB, q0, q1, q2, hsl⟩ := row_at hrow hlt
          have hk1 := fok_kid HFK.out hd
          have z1 := fsz_kid hd
          have HST := Lib.hid (fvl_dropN hd)
          have hzd := fsz_dropN hd
          have hl1 := HLN.out
          have HZ : Hid (b1.length + (1 + fsz k1) + fsz (fdrop (j + 1) k) ≤ bs.length + fsz k) := by show _ ≤ _; omega
          have HCALL := Lib.hid (IH.out (fsz k1) (by omega) b1 A1 C1 s1 v1 a1 c1 k1 wr HBS.out HNIL.out (by omega) hsl hk1.1 hk1.2 (Nat.le_refl _) (by omega) (by omega))
          have g1 : (0 : Int) ≤ (j : Int) := by omega
          have g2 : (j : Int) < (flen k : Int) := by omega
          clear hd hk1 hrow hzd hl1 hsl
          go_wp2_with fail
          with_reducible refine HCALL.out.mono ?_
          rintro e w2 ⟨A2, C2, rfl, hb2, hs2⟩
          have HF2 : Hid (nmL bs (fvl k) = nmL (nmL b1 (fvs s1 v1 k1)) (fvl (fdrop (j + 1) k))) := by rw [Hid, HF.out, HST.out, nmL_app]
          have HL5 : Hid ((nmL b1 (fvs s1 v1 k1)).length + fsz (fdrop (j + 1) k) ≤ bs.length + fsz k) := by have h1 := (nmL_len (fvs s1 v1 k1) b1).2; have h2 := HZ.out; have h3 := fvs_sz s1 v1 k1; show _ ≤ _; omega
          have HBL2 := Lib.hid (HBL.out.trans (hb2.mono hsr))
          have HS2 := Lib.hid hs2
          have HN5 := Lib.hid (nmL_nils (fvs s1 v1 k1) b1 HNIL.out)
          clear hb2 hs2 HCALL q0 q1 q2 hx0 hx1 hx2
          go_wp2_with fail
          go_roundw
          case rel => exact ⟨j + 1, _, A2, C2, rfl, by go_num, by omega, HF2, HL5, HN5, HS2, HBL2⟩
          case measure => simp [intOf]; omega
        · have HE : Hid (b1 = nmL bs (fvs s v k)) := by rw [Hid, HFV.out, HF.out, fdrop_all (by omega)]; rfl
          have HP : Hid (LnPost lo bs s v k w (.returned (.slice A1 b1.length C1)) wr) := by
            refine ⟨A1, C1, ?_, HBW.out, ?_⟩
            · rw [← HE.out]
            · rw [← HE.out]; exact HBS.out
          go_wp2_with fail
          go_ret
          exact HP.out

set_option maxRecDepth 100000 in
set_option maxHeartbeats 2000000 in
theorem sTermPlain_any (s v : Int) (a : Option Addr) (c : Nat) (k : Fo) (w : World) (hl : Sl w 0 w.heap.size a k) :
    Calls Try.prog 10 #[.agg #[.int .i64 s, .int .i64 v, .slice a (flen k) c]] w (PlnPost s v k w) := by
  have hb0 : Below w.heap.size w ((w.alloc (.cells #[.int .i64 s, .int .i64 v, .slice a (flen k) c] 25)).alloc (.cells #[.int .i64 0, .int .i64 0, .slice none 0 0] 25)) := ((Below.refl _ _).alloc (Nat.le_refl _) _).alloc (by simp) _
  have HL0 := Lib.hid (hl.next hb0)
  have HB0 : Hid (Below (w.heap.size + 2) ((w.alloc (.cells #[.int .i64 s, .int .i64 v, .slice a (flen k) c] 25)).alloc (.cells #[.int .i64 0, .int .i64 0, .slice none 0 0] 25)) ((w.alloc (.cells #[.int .i64 s, .int .i64 v, .slice a (flen k) c] 25)).alloc (.cells #[.int .i64 0, .int .i64 0, .slice none 0 0] 25))) := Below.refl _ _
  have hsz : w.heap.size + 2 ≤ ((w.alloc (.cells #[.int .i64 s, .int .i64 v, .slice a (flen k) c] 25)).alloc (.cells #[.int .i64 0, .int .i64 0, .slice none 0 0] 25)).heap.size := by simp
  clear hb0 hl
  go_enter Try.func10, Try.ntmps10
  go_wp2_with fail
  with_reducible refine (sTermOk_any s v a c k _ HL0.out).mono ?_
  rintro e w1 ⟨rfl, hb1⟩
  have hb1' := HB0.out.trans (hb1.mono hsz)
  have hs1 : w.heap.size + 2 ≤ w1.heap.size := Nat.le_trans hsz hb1.size
  have hbm : Below w1.heap.size w1 (w1.alloc (.cells #[] 68)) := (Below.refl _ _).alloc (Nat.le_refl _) _
  have hb2' := hb1'.trans (hbm.mono hs1)
  have HB2 := Lib.hid hb2'
  have HL2 := Lib.hid ((HL0.out.next hb1).next hbm)
  obtain ⟨hr0, hr1, hr2, hr3, hr4, hr5⟩ := tb_cellsS hb2'
  obtain ⟨_, hf3⟩ := tb_freeS hb2' 0 rfl rfl
  obtain ⟨_, hf4⟩ := tb_freeS hb2' 1 rfl rfl
  obtain ⟨_, hf5⟩ := tb_freeS hb2' 2 rfl rfl
  clear hb1 HB0 hsz HL0 hb1' hbm hb2'
  cases hok : okW s v k 16 with
  | false =>
    have HR := Lib.hid (plR_bad hok)
    clear hok
    go_wp2_with fail
    refine bodyPost_ret (v := .tuple #[.agg #[.int .i64 0, .int .i64 0, .slice none 0 0], .slice (some ⟨w1.heap.size, 0, none⟩) 0 0]) ?_ rfl (pl_end (k' := .nil) (bs := []) HR.out HB2.out (.inl rfl) (.inl rfl) _ _ _)
    simp [results, Try.results10, go_sem, hr3, hr4, hr5]
  | true =>
    have HOK := Lib.hid hok
    obtain ⟨o1, o2, o3⟩ := (okW_iff _ _ _ _).1 hok
    have HO1 := Lib.hid o1
    have HO2 := Lib.hid o2
    have HR := Lib.hid (plR_ok hok)
    have HC : Hid (Calls Try.prog 33 #[.slice (some ⟨w1.heap.size, 0, none⟩) 0 0, .agg #[.int .i64 s, .int .i64 v, .slice a (flen k) c], .int .i64 0] (w1.alloc (.cells #[] 68)) (fun e w' => ∃ A C, e = .returned (.slice A (List.length (nms s v k)) C) ∧ Below (w1.alloc (.cells #[] 68)).heap.size (w1.alloc (.cells #[] 68)) w' ∧ BSl w' (w.heap.size + 2) w'.heap.size A (nms s v k))) := l2Names_any (w.heap.size + 2) (fsz k) [] (some ⟨w1.heap.size, 0, none⟩) 0 s v a c k _ (.inl rfl) (fun _ h => by cases h) (by simp; omega) HL2.out o1 o2 (Nat.le_refl _) (by omega) (by simp; omega)
    clear hok o1 o2 hr3 hr4 hr5 hf3 hf4 hf5
    go_wp2_with fail
    with_reducible refine HC.out.mono ?_
    rintro e w3 ⟨A, C, rfl, hb3, hs3⟩
    have hs3' := hb3.size
    simp at hs3'
    have HB3 := Lib.hid (HB2.out.trans (hb3.mono (by simp; omega)))
    have HS3 : Hid (BSl w3 (w.heap.size + 2) w3.heap.size A (nms s v k)) := hs3
    have HL3 := Lib.hid (HL2.out.next hb3)
    obtain ⟨i1, i2, i3, i4, i5⟩ := nms_in HOK.out
    have HZ : Hid (∀ x t, sv (nms s v k) x = some t → fsz t.2.2 ≤ 1000000) := fun x t ht => by have := (nms_bof HOK.out x t ht).2.2; omega
    obtain ⟨hq0, hq1, hq2, _, _, _⟩ := tb_cellsS HB3.out
    have HPC := Lib.hid (l2Put_any (nms s v k) A C (by omega) HZ.out (fsz k) s v a c k w3 (HS3.out.mono (Nat.zero_le _) (Nat.le_refl _)) HL3.out HO1.out HO2.out (Nat.le_refl _) (by omega))
    clear hb3 hs3 hr0 hr1 hr2 HC i1 i2 i3 i4 i5
    go_wp2_with fail
    with_reducible refine HPC.out.mono ?_
    generalize htt : tsub (sv (nms s v k)) s v k = tt at *
    obtain ⟨s', v', k'⟩ := tt
    rintro e w4 ⟨a4, c4, rfl, hb4, ho4⟩
    dsimp only at ho4
    have hs4 := hb4.size
    have hb4' := HB3.out.trans (hb4.mono (by omega))
    have HBE := Lib.hid hb4'
    obtain ⟨_, _, _, hr3, hr4, hr5⟩ := tb_cellsS hb4'
    obtain ⟨_, hf3⟩ := tb_freeS hb4' 0 rfl rfl
    obtain ⟨_, hf4⟩ := tb_freeS hb4' 1 rfl rfl
    obtain ⟨_, hf5⟩ := tb_freeS hb4' 2 rfl rfl
    have HL4 : Hid (Sl w4 (w.heap.size + 2) w4.heap.size a4 k') := ho4.sl.mono (by omega) (Nat.le_refl _)
    have HS4 := Lib.hid (HS3.out.go hb4)
    clear hb4 hb4' ho4 hq0 hq1 hq2 HPC htt
    go_wp2_with fail
    refine bodyPost_ret (v := .tuple #[.agg #[.int .i64 s', .int .i64 v', .slice a4 (flen k') c4], .slice A (nms s v k).length C]) ?_ rfl (pl_end HR.out HBE.out HL4.out HS4.out _ _ _)
    simp [results, Try.results10, go_sem, hr3, hr4, hr5]
end Go.Proofs.Ytlaaihnokoeliab

/-! PL1: The variables at places, in order; a plain term's are named in order. Plain lemmas. -/
namespace Go.Proofs.Ytlaaihnokoeliab
open Go.RowKit Go.Deep

/-- The variable that stands there. -/
def pvar : Option (Int × Int × Fo) → Option Int
  | some (s, v, _) => if s = 0 then some v else none
  | none => none
theorem fpl_vars (s v : Int) (K : Fo) : ∀ (r : Fo) (i : Nat), fdrop i K = r → fok r = true → (fpl r i).filterMap (fun p => pvar (fat s v K p)) = fvl r
  | .nil, _, _, _ => rfl
  | .node a b (s', v') kk r, i, hd, hk => by
    have hi : i < flen K := by
      have := flen_drop i K
      rw [hd] at this
      simp [flen] at this
      omega
    have hr : fdrop (i + 1) K = r := by
      obtain ⟨_, _, _, _, _, e⟩ := fdrop_succ i K hi
      rw [hd] at e
      simp only [BT.node.injEq] at e
      exact e.2.2.2.2.symm
    simp only [fok, Bool.and_eq_true] at hk
    have ihr := fpl_vars s v K r (i + 1) hr hk.2
    have ihk := fpl_vars s' v' kk kk 0 rfl hk.1.2
    have hst : ∀ q, fat s v K ((i : Int) :: q) = fat s' v' kk q := fun q => fat_step hi hd
    simp only [fpl, List.filterMap_append, ihr, List.map_cons, List.filterMap_cons, List.filterMap_map, Function.comp_def, hst, ihk]
    simp only [fat, pvar, fvl]
    by_cases e : s' = 0
    · subst e
      have hn : kk = .nil := kids_none hk.1.1
      subst hn
      simp [fvl]
    · simp only [if_neg e]
theorem places_vars {s v : Int} {k : Fo} (ho : okN s v (flen k) = true) (hk : fok k = true) : (places k).filterMap (fun p => pvar (fat s v k p)) = fvs s v k := by
  have h := fpl_vars s v k k 0 rfl hk
  have h0 : pvar (fat s v k []) = if s = 0 then some v else none := rfl
  unfold places
  rw [List.filterMap_cons, h0, h]
  unfold fvs
  by_cases e : s = 0
  · subst e
    obtain rfl := kids_none ho
    rfl
  · simp only [if_neg e]
/-- The variables at the first places. -/
def pvs (s v : Int) (k : Fo) (j : Nat) : List Int := ((places k).take j).filterMap fun p => pvar (fat s v k p)
theorem pvs_all {s v : Int} {k : Fo} (ho : okN s v (flen k) = true) (hk : fok k = true) {j : Nat} (hj : (places k).length ≤ j) : pvs s v k j = fvs s v k := by
  unfold pvs; rw [List.take_of_length_le hj]; exact places_vars ho hk
theorem pvs_step {s v : Int} {k : Fo} {j : Nat} {pl : List Int} (h : (places k)[j]? = some pl) : pvs s v k (j + 1) = pvs s v k j ++ (pvar (fat s v k pl)).toList := by
  unfold pvs
  rw [List.take_add_one, h, List.filterMap_append]
  cases hp : pvar (fat s v k pl) <;> simp [hp]
theorem pvs_pre {s v : Int} {k : Fo} (ho : okN s v (flen k) = true) (hk : fok k = true) (j : Nat) : ∃ r, pvs s v k j ++ r = fvs s v k := by
  refine ⟨((places k).drop j).filterMap fun p => pvar (fat s v k p), ?_⟩
  unfold pvs
  rw [← List.filterMap_append, List.take_append_drop]
  exact places_vars ho hk
/-- Names of a plain term stay. -/
theorem plain_stay {s v : Int} {k : Fo} {s' v' : Int} {k' : Fo} {bs : List Bd} (h : plR s v k = ((s', v', k'), bs)) (hok : okW s v k 16 = true) : ∀ x ∈ fvs s' v' k', sv (nms s' v' k') x = some (0, x, .nil) := by
  rcases plR_cases h with ⟨h0, _⟩ | ⟨_, rfl, ht, ho, _, _⟩
  · rw [hok] at h0; cases h0
  obtain ⟨_, hn, hd, _, _⟩ := nms_in hok
  have hf := fvs_names hn (fun x hx => (hd x).2 hx) ht
  have hA := nms_anew (nms s v k) (fvs s v k) [] [] (fun _ _ h => h) hn rfl Nmd.nil (fun _ _ h => by simp [sv] at h) (fun _ h => by simp [sv] at h)
  have hE : nms s' v' k' = nmL [] ((fvs s v k).map (nmOf (nms s v k))) := by unfold nms; rw [hf]; rfl
  intro m hm
  rw [hf] at hm
  obtain ⟨x, hx, rfl⟩ := List.mem_map.1 hm
  obtain ⟨t, hxt⟩ := Option.isSome_iff_exists.1 ((hd x).2 hx)
  rw [nmOf_some hxt, hE]
  exact hA.2 x t hxt
theorem plain_scan {xs ps : List Int} {y : Int} {r : List Int} (h : ∀ x ∈ xs, sv (nmL [] xs) x = some (0, x, .nil)) (hp : ps ++ y :: r = xs) :
    (y < ((nmL [] ps).length : Int) ∧ (nmL [] (ps ++ [y])).length = (nmL [] ps).length) ∨ (y = ((nmL [] ps).length : Int) ∧ (nmL [] (ps ++ [y])).length = (nmL [] ps).length + 1) := by
  have hy : y ∈ xs := by rw [← hp]; simp
  have hE : nmL [] xs = nmL (nm1 (nmL [] ps) y) r := by rw [← hp, nmL_app]; rfl
  have hN := nmL_nmd ps [] Nmd.nil
  have hA : nmL [] (ps ++ [y]) = nm1 (nmL [] ps) y := by rw [nmL_app]; rfl
  rw [hA]
  cases hs : sv (nmL [] ps) y with
  | some t =>
    left
    have h1 := nmL_ext r _ y t (nm1_ext _ y y t hs)
    rw [← hE, h y hy] at h1
    have h2 := (hN.1 y t hs).2.2.2
    obtain rfl := Option.some.inj h1
    exact ⟨h2, by rw [nm1_some hs]⟩
  | none =>
    right
    have hx0 : sv (nm1 (nmL [] ps) y) y = some (0, ((nmL [] ps).length : Int), .nil) := by rw [nm1_none hs, sv_ladd (b := (y, 0, ((nmL [] ps).length : Int), .nil)) hs]; simp
    have h1 := nmL_ext r _ y _ hx0
    rw [← hE, h y hy] at h1
    have h2 := Option.some.inj h1
    simp only [Prod.mk.injEq, true_and, and_true] at h2
    exact ⟨h2, by rw [nm1_none hs, ladd_len]⟩
/-- A step along the places of a plain term. -/
theorem plain_step {s v : Int} {k : Fo} (hok : okW s v k 16 = true) (h : ∀ x ∈ fvs s v k, sv (nms s v k) x = some (0, x, .nil)) {j : Nat} {pl : List Int} (hp : (places k)[j]? = some pl) {s1 v1 : Int} {k1 : Fo} (hf : fat s v k pl = some (s1, v1, k1)) :
    (s1 ≠ 0 ∧ (nmL [] (pvs s v k (j + 1))).length = (nmL [] (pvs s v k j)).length) ∨ (s1 = 0 ∧ v1 < ((nmL [] (pvs s v k j)).length : Int) ∧ (nmL [] (pvs s v k (j + 1))).length = (nmL [] (pvs s v k j)).length) ∨ (s1 = 0 ∧ v1 = ((nmL [] (pvs s v k j)).length : Int) ∧ (nmL [] (pvs s v k (j + 1))).length = (nmL [] (pvs s v k j)).length + 1) := by
  obtain ⟨o1, o2, _⟩ := (okW_iff _ _ _ _).1 hok
  have hst := pvs_step (s := s) (v := v) hp
  rw [hf] at hst
  by_cases e : s1 = 0
  · right
    simp only [pvar, if_pos e, Option.toList] at hst
    obtain ⟨r, hr⟩ := pvs_pre (s := s) (v := v) o1 o2 (j + 1)
    rw [hst, List.append_assoc, List.singleton_append] at hr
    rw [hst]
    rcases plain_scan (xs := fvs s v k) h hr with ⟨a, b⟩ | ⟨a, b⟩
    · exact .inl ⟨e, a, b⟩
    · exact .inr ⟨e, a, b⟩
  · left
    simp only [pvar, if_neg e, Option.toList, List.append_nil] at hst
    exact ⟨e, by rw [hst]⟩
theorem nms_len {s v : Int} {k : Fo} (h : okW s v k 16 = true) : (nms s v k).length = (tvR s v k).length := by
  have := congrArg List.length (nms_in h).2.2.2.1
  rw [List.length_map] at this
  exact this
end Go.Proofs.Ytlaaihnokoeliab

/-! V5d: DrawTermVars. -/
namespace Go.Proofs.Ytlaaihnokoeliab
open Go.RowKit Go.Deep

set_option maxRecDepth 100000 in
set_option maxHeartbeats 1000000 in
theorem DrawTermVars_any (a : Option Addr) (len cap : Nat) (w : World) (hby : Bytes w a len) (hlen : len ≤ cap) :
    Calls Try.prog 32 #[.slice a len cap] w (TermPost 31000 w) := by
  have HBY := Lib.hid hby
  clear hby
  go_enter Try.func32, Try.ntmps32
  go_wp2_with fail
  with_reducible refine (l6Open_any a len cap _ (HBY.out.alloc _) hlen).mono ?_
  rintro e w1 ⟨rfl, hb1, hrd⟩
  have hb1' : Below (w.heap.size + 1) (w.alloc (.cells #[.int .i64 0, .int .i64 0, .slice none 0 0] 25)) w1 := hb1.mono (by simp)
  have hs1 := hb1.size
  simp at hs1
  simp only [World.size_alloc] at hrd
  have hlt1 := hrd.lt
  have HRD := Lib.hid hrd
  have HB1 := Lib.hid hb1'
  clear hb1 hb1' hrd
  simp only [World.size_alloc]
  go_wp2_with fail
  with_reducible refine (pick_any 4 (w.heap.size + 1) 0 _ HRD.out (by omega) (by omega) (by omega)).mono ?_
  rintro e w2 ⟨x, rfl, hx, hb2⟩
  have ha2 : Adv w1 (w.heap.size + 1) (0 + 1) w2 := hb2
  have hs2 := ha2.size
  have HB2 := Lib.hid (adv_low HB1.out (by omega) (by omega) ha2)
  have HRD2 := Lib.hid (ha2.rd HRD.out)
  clear ha2 hb2
  by_cases hx0 : x = 0
  · subst hx0
    go_wp2_with fail
    with_reducible refine (l71Some_any (w.heap.size + 1) (0 + 1) _ HRD2.out (by omega)).mono ?_
    rintro e w4 ⟨s4, v4, a4, c4, k4, p4, rfl, _, hp4, hS4, ha4, hl4⟩
    have hb4 := adv_low HB2.out (by omega) (by omega) ha4
    have HB4 := Lib.hid hb4
    obtain ⟨hr0, hr1, hr2, hf0, hf1, hf2⟩ := res_low hb4
    have HL4 := Lib.hid (hl4.mono (lo' := w.heap.size + 1) (by omega) (Nat.le_refl _))
    clear ha4 hl4 hb4
    go_wp2_with fail
    refine bodyPost_ret (v := .agg #[.int .i64 s4, .int .i64 v4, .slice a4 (flen k4) c4]) ?_ rfl (term_end HB4.out (by omega) HL4.out)
    simp [results, Try.results32, go_sem, hr0, hr1, hr2]
  · have x0 : ((x : Int) == 0) = false := by simpa using hx0
    go_wp2_with fail
    with_reducible refine (l71Term_any 4 4 12 (w.heap.size + 1) (0 + 1) _ (by omega) (by omega) (by omega) (by omega) (by omega) HRD2.out (by decide)).mono ?_
    rintro e w4 ⟨s4, v4, a4, c4, k4, p4, rfl, _, hp4, hS4, ha4, hl4⟩
    have hS4' : 1 + fsz k4 ≤ 31 := by simpa [szN] using hS4
    have hb4 := adv_low HB2.out (by omega) (by omega) ha4
    have HB4 := Lib.hid hb4
    obtain ⟨hr0, hr1, hr2, hf0, hf1, hf2⟩ := res_low hb4
    have HL4 := Lib.hid (hl4.mono (lo' := w.heap.size + 1) (by omega) (Nat.le_refl _))
    clear ha4 hl4 hb4
    go_wp2_with fail
    refine bodyPost_ret (v := .agg #[.int .i64 s4, .int .i64 v4, .slice a4 (flen k4) c4]) ?_ rfl (term_end HB4.out (by omega) HL4.out)
    simp [results, Try.results32, go_sem, hr0, hr1, hr2]
end Go.Proofs.Ytlaaihnokoeliab

/-! DTp: DrawTermPlain. -/
namespace Go.Proofs.Ytlaaihnokoeliab
open Go.RowKit Go.Deep

set_option maxRecDepth 100000 in
set_option maxHeartbeats 1000000 in
theorem DrawTermPlain_any (a : Option Addr) (len cap : Nat) (w : World) (hby : Bytes w a len) (hlen : len ≤ cap) :
    Calls Try.prog 9 #[.slice a len cap] w (TermPost 31000 w) := by
  have HBY := Lib.hid hby
  clear hby
  go_enter Try.func9, Try.ntmps9
  go_wp2_with fail
  with_reducible refine (DrawTermVars_any a len cap _ (HBY.out.alloc _) hlen).mono ?_
  rintro e w4 ⟨s4, v4, a4, c4, k4, rfl, hS4, hb4, hl4⟩
  have hb4' : Below (w.heap.size + 1) (w.alloc (.cells #[.int .i64 0, .int .i64 0, .slice none 0 0] 25)) w4 := hb4.mono (by simp)
  have HB4 := Lib.hid hb4'
  obtain ⟨hr0, hr1, hr2, hf0, hf1, hf2⟩ := res_low hb4'
  have HL4 := Lib.hid (hl4.mono (lo' := w.heap.size + 1) (by simp) (Nat.le_refl _))
  clear hl4 hb4 hb4'
  go_wp2_with fail
  refine bodyPost_ret (v := .agg #[.int .i64 s4, .int .i64 v4, .slice a4 (flen k4) c4]) ?_ rfl (term_end HB4.out hS4 HL4.out)
  simp [results, Try.results9, go_sem, hr0, hr1, hr2]
end Go.Proofs.Ytlaaihnokoeliab

/-! B3: laTerm: what is the same comes out the same. -/
namespace Go.Proofs.Ytlaaihnokoeliab
open Go.RowKit Go.Deep

theorem two_boxes {w wr : World} {x y z x' y' z' : Value} (h : Below (w.heap.size + 2) ((w.alloc (.cells #[x, y, z] 25)).alloc (.cells #[x', y', z'] 25)) wr) :
    wr.cell? ⟨w.heap.size, 2, none⟩ = some z ∧ wr.cell? ⟨w.heap.size + 1, 2, none⟩ = some z' := by
  refine ⟨?_, ?_⟩
  · rw [h.cell (by simp), World.cell?_alloc_lt _ _ _ (by simp), World.cell?_alloc_at _ _ _ _ (by simp)]; rfl
  · rw [h.cell (by simp), World.cell?_alloc_at _ _ _ _ (by simp)]; rfl

set_option maxRecDepth 100000 in
set_option maxHeartbeats 1000000 in
theorem laTerm_same (N : Nat) : ∀ (s v : Int) (a a' : Option Addr) (c c' : Nat) (k : Fo) (w : World), Sl w 0 w.heap.size a k → Sl w 0 w.heap.size a' k → fsz k ≤ N → N ≤ 1000000 →
    Calls Try.prog 12 #[.agg #[.int .i64 s, .int .i64 v, .slice a (flen k) c], .agg #[.int .i64 s, .int .i64 v, .slice a' (flen k) c']] w fun e w' => e = .returned (.bool true) ∧ Below w.heap.size w w' := by
  induction N using Nat.strongRecOn with
  | _ N ih =>
    intro s v a a' c c' k w hl hl' hN hN2
    have hfl := flen_le_sz k
    have IH := Lib.hid ih
    clear ih
    have e0 : (s != s) = false := by simp
    have e1 : (v != v) = false := by simp
    have e2 : ((flen k : Int) != (flen k : Int)) = false := by simp
    have hb0 : Below w.heap.size w ((w.alloc (.cells #[.int .i64 s, .int .i64 v, .slice a (flen k) c] 25)).alloc (.cells #[.int .i64 s, .int .i64 v, .slice a' (flen k) c'] 25)) := ((Below.refl _ _).alloc (Nat.le_refl _) _).alloc (by simp) _
    have HB0 := Lib.hid hb0
    clear hb0
    go_enter Try.func12, Try.ntmps12
    go_wp2_with fail
    go_loopw [5] (fun i wr => ∃ j : Nat, j ≤ flen k ∧ i = .int .i64 j ∧ Below (w.heap.size + 2) ((w.alloc (.cells #[.int .i64 s, .int .i64 v, .slice a (flen k) c] 25)).alloc (.cells #[.int .i64 s, .int .i64 v, .slice a' (flen k) c'] 25)) wr) (fun i _ => flen k - (intOf i).toNat)
    case atStart => exact ⟨0, by omega, rfl, Below.refl _ _⟩
    case round =>
      obtain ⟨j, hj, rfl, hbl⟩ := hrel
      have hsr := hbl.size
      simp at hsr
      obtain ⟨hx2, hy2⟩ := two_boxes hbl
      have hbw := HB0.out.trans (hbl.mono (show w.heap.size ≤ w.heap.size + 2 by omega))
      by_cases hlt : j < flen k
      · rcases hl with rfl | ⟨b, o, rfl, hrow⟩
        · simp [flen] at hlt
        rcases hl' with rfl | ⟨b', o', rfl, hrow'⟩
        · simp [flen] at hlt
        obtain ⟨s1, v1, kk, a1, c1, ⟨x, y, hd⟩, _, hbB, hk0, hk1, hk2, hsl⟩ := row_at (hrow.below hbw) hlt
        obtain ⟨s2, v2, kk2, a2, c2, ⟨x2, y2, hd2⟩, _, hbB', hk3, hk4, hk5, hsl2⟩ := row_at (hrow'.below hbw) hlt
        have hdd := hd.symm.trans hd2
        simp only [BT.node.injEq, Prod.mk.injEq] at hdd
        obtain ⟨_, _, ⟨rfl, rfl⟩, rfl, _⟩ := hdd
        have hkN := fsz_kid hd
        have HS := Lib.hid hsl
        have HS2 := Lib.hid hsl2
        have HBL := Lib.hid hbl
        clear hd hd2 hsl hsl2 hrow hrow' hbl hbw
        have g1 : (0 : Int) ≤ (j : Int) := by omega
        have g2 : (j : Int) < (flen k : Int) := by omega
        have hu0 : ∀ u : After wr.heap.size wr, u.world.cell? ⟨b, o + j * 3, none⟩ = some (.int .i64 s1) := fun u => u.cell (by simp; omega) hk0
        have hu1 : ∀ u : After wr.heap.size wr, u.world.cell? ⟨b, o + j * 3 + 1, none⟩ = some (.int .i64 v1) := fun u => u.cell (by simp; omega) hk1
        have hu2 : ∀ u : After wr.heap.size wr, u.world.cell? ⟨b, o + j * 3 + 2, none⟩ = some (.slice a1 (flen kk) c1) := fun u => u.cell (by simp; omega) hk2
        have hu3 : ∀ u : After wr.heap.size wr, u.world.cell? ⟨b', o' + j * 3, none⟩ = some (.int .i64 s1) := fun u => u.cell (by simp; omega) hk3
        have hu4 : ∀ u : After wr.heap.size wr, u.world.cell? ⟨b', o' + j * 3 + 1, none⟩ = some (.int .i64 v1) := fun u => u.cell (by simp; omega) hk4
        have hu5 : ∀ u : After wr.heap.size wr, u.world.cell? ⟨b', o' + j * 3 + 2, none⟩ = some (.slice a2 (flen kk) c2) := fun u => u.cell (by simp; omega) hk5
        have hu6 : ∀ u : After wr.heap.size wr, u.world.cell? ⟨w.heap.size, 2, none⟩ = some (.slice (some ⟨b, o, none⟩) (flen k) c) := fun u => u.cell (by simp; omega) hx2
        have hu7 : ∀ u : After wr.heap.size wr, u.world.cell? ⟨w.heap.size + 1, 2, none⟩ = some (.slice (some ⟨b', o', none⟩) (flen k) c') := fun u => u.cell (by simp; omega) hy2
        have HCALL : Hid (∀ u : After wr.heap.size wr, Calls Try.prog 12 #[.agg #[.int .i64 s1, .int .i64 v1, .slice a1 (flen kk) c1], .agg #[.int .i64 s1, .int .i64 v1, .slice a2 (flen kk) c2]] u.world fun e w' => e = .returned (.bool true) ∧ Below u.world.heap.size u.world w') := fun u => by
          have hu := u.below
          have hus := hu.size
          refine IH.out (fsz kk) (by omega) s1 v1 a1 a2 c1 c2 kk u.world ?_ ?_ (Nat.le_refl _) (by omega)
          · exact (HS.out.below (hu.mono (by omega))).mono (Nat.le_refl _) (by omega)
          · exact (HS2.out.below (hu.mono (by omega))).mono (Nat.le_refl _) (by omega)
        go_wp2_with fail
        refine wp_region_after wr.heap.size (by kernel_rfl) (by kernel_rfl) ?_
        repeat (go_big_quiet_step ((go_at_call 12; exact Calls.after (After.below ‹_›).size (HCALL.out _))))
        refine wpQuiet_nil ?_
        rintro u ⟨⟨_, hu⟩, rfl⟩
        clear hu0 hu1 hu2 hu3 hu4 hu5 hu6 hu7 hk0 hk1 hk2 hk3 hk4 hk5 hx2 hy2
        have HB2 := Lib.hid (HBL.out.trans (hu.mono hsr))
        clear hu
        go_wp2_with fail
        go_roundw
        case rel => exact ⟨j + 1, by omega, by go_num, HB2.out⟩
        case measure => simp [intOf]; omega
      · have HBW := Lib.hid hbw
        clear hbw hbl
        go_wp2_with fail
        go_ret
        exact ⟨rfl, HBW.out⟩
end Go.Proofs.Ytlaaihnokoeliab

/-! LSu: laSubst on two rows of the same binds. -/
namespace Go.Proofs.Ytlaaihnokoeliab
open Go.RowKit Go.Deep

set_option maxRecDepth 100000 in
set_option maxHeartbeats 2000000 in
theorem laSubst_same (bs : List Bd) (A B : Option Addr) (ca cb : Nat) (w : World) (hA : BSl w 0 w.heap.size A bs) (hB : BSl w 0 w.heap.size B bs) (hl : bs.length ≤ 1000000) (hz : ∀ x ∈ bs, fsz x.2.2.2 ≤ 1000000) :
    Calls Try.prog 13 #[.slice A bs.length ca, .slice B bs.length cb] w fun e w' => e = .returned (.bool true) ∧ Below w.heap.size w w' := by
  have HA := Lib.hid hA
  have HB := Lib.hid hB
  have HZ := Lib.hid hz
  clear hA hB hz
  go_enter Try.func13, Try.ntmps13
  go_wp2_with fail
  go_loopw [5] (fun i wr => ∃ j : Nat, i = .int .i64 j ∧ j ≤ bs.length ∧ Hid (Below w.heap.size w wr)) (fun i _ => bs.length - (intOf i).toNat)
  case atStart => exact ⟨0, rfl, Nat.zero_le _, Below.refl _ _⟩
  case round =>
    obtain ⟨j, rfl, hj, HW⟩ := hrel
    have hws := HW.out.size
    by_cases hlt : j < bs.length
    · obtain ⟨y, hy⟩ : ∃ y, bs[j]? = some y := ⟨bs[j], List.getElem?_eq_getElem hlt⟩
      obtain ⟨yx, ys, yv, yk⟩ := y
      have hyz := HZ.out _ (List.mem_of_getElem? hy)
      dsimp only at hyz
      have hbr := HA.out.next HW.out
      rcases hbr with hbr | ⟨rb, ro, rfl, _, hbB, hcells⟩
      · subst hbr; simp at hy
      have hbr2 := HB.out.next HW.out
      rcases hbr2 with hbr2 | ⟨rb2, ro2, rfl, _, hbB2, hcells2⟩
      · subst hbr2; simp at hy
      obtain ⟨ya, yc, d0, d1, d2, d3, hsl⟩ := hcells j _ hy
      obtain ⟨ya2, yc2, e0, e1, e2, e3, hsl2⟩ := hcells2 j _ hy
      dsimp only at d0 d1 d2 d3 hsl e0 e1 e2 e3 hsl2
      have g1 : (0 : Int) ≤ (j : Int) := by omega
      have g2 : (j : Int) < (bs.length : Int) := by omega
      have hne : (yx != yx) = false := by simp
      clear hcells hcells2 hy
      have hu0 : ∀ u : After wr.heap.size wr, u.world.cell? ⟨rb, ro + j * 4, none⟩ = some (.int .i64 yx) := fun u => cell_low u.below d0
      have hu1 : ∀ u : After wr.heap.size wr, u.world.cell? ⟨rb, ro + j * 4 + 1, none⟩ = some (.int .i64 ys) := fun u => cell_low u.below d1
      have hu2 : ∀ u : After wr.heap.size wr, u.world.cell? ⟨rb, ro + j * 4 + 1 + 1, none⟩ = some (.int .i64 yv) := fun u => cell_low u.below d2
      have hu3 : ∀ u : After wr.heap.size wr, u.world.cell? ⟨rb, ro + j * 4 + 1 + 2, none⟩ = some (.slice ya (flen yk) yc) := fun u => cell_low u.below d3
      have hu4 : ∀ u : After wr.heap.size wr, u.world.cell? ⟨rb2, ro2 + j * 4, none⟩ = some (.int .i64 yx) := fun u => cell_low u.below e0
      have hu5 : ∀ u : After wr.heap.size wr, u.world.cell? ⟨rb2, ro2 + j * 4 + 1, none⟩ = some (.int .i64 ys) := fun u => cell_low u.below e1
      have hu6 : ∀ u : After wr.heap.size wr, u.world.cell? ⟨rb2, ro2 + j * 4 + 1 + 1, none⟩ = some (.int .i64 yv) := fun u => cell_low u.below e2
      have hu7 : ∀ u : After wr.heap.size wr, u.world.cell? ⟨rb2, ro2 + j * 4 + 1 + 2, none⟩ = some (.slice ya2 (flen yk) yc2) := fun u => cell_low u.below e3
      have HCALL : Hid (∀ u : After wr.heap.size wr, Calls Try.prog 12 #[.agg #[.int .i64 ys, .int .i64 yv, .slice ya (flen yk) yc], .agg #[.int .i64 ys, .int .i64 yv, .slice ya2 (flen yk) yc2]] u.world fun e w' => e = .returned (.bool true) ∧ Below u.world.heap.size u.world w') := fun u =>
        laTerm_same (fsz yk) ys yv ya ya2 yc yc2 yk u.world (hsl.next u.below) (hsl2.next u.below) (Nat.le_refl _) (by omega)
      clear hsl hsl2
      go_wp2_with fail
      refine wp_region_after wr.heap.size (by kernel_rfl) (by kernel_rfl) ?_
      repeat (go_big_quiet_step ((go_at_call 12; exact Calls.after (After.below ‹_›).size (HCALL.out _))))
      refine wpQuiet_nil ?_
      rintro u ⟨⟨_, hu⟩, rfl⟩
      have HW2 := Lib.hid (below_next HW.out hu)
      clear hu hu0 hu1 hu2 hu3 hu4 hu5 hu6 hu7 d0 d1 d2 d3 e0 e1 e2 e3
      go_wp2_with fail
      go_roundw
      case rel => exact ⟨j + 1, by go_num, by omega, HW2⟩
      case measure => simp [intOf]; omega
    · go_wp2_with fail
      go_ret
      exact ⟨rfl, HW.out⟩
end Go.Proofs.Ytlaaihnokoeliab

/-! LB2: A bind of a row, its cells. -/
namespace Go.Proofs.Ytlaaihnokoeliab
open Go.RowKit Go.Deep

theorem bsl_at {w : World} {lo B : Nat} {A : Option Addr} {bs : List Bd} {j : Nat} (h : BSl w lo B A bs) (hj : j < bs.length) :
    ∃ rb ro x s v k a c, A = some ⟨rb, ro, none⟩ ∧ bs[j]? = some (x, s, v, k) ∧ w.cell? ⟨rb, ro + j * 4, none⟩ = some (.int .i64 x) ∧ w.cell? ⟨rb, ro + j * 4 + 1, none⟩ = some (.int .i64 s) ∧ w.cell? ⟨rb, ro + j * 4 + 1 + 1, none⟩ = some (.int .i64 v) ∧ w.cell? ⟨rb, ro + j * 4 + 1 + 2, none⟩ = some (.slice a (flen k) c) ∧ Sl w lo B a k := by
  obtain ⟨y, hy⟩ : ∃ y, bs[j]? = some y := ⟨bs[j], List.getElem?_eq_getElem hj⟩
  obtain ⟨x, s, v, k⟩ := y
  rcases h with rfl | ⟨rb, ro, e, _, _, hc⟩
  · simp at hy
  · obtain ⟨a, c, c0, c1, c2, c3, hl⟩ := hc j _ hy
    exact ⟨rb, ro, x, s, v, k, a, c, e, hy, c0, c1, c2, c3, hl⟩
end Go.Proofs.Ytlaaihnokoeliab

/-! FrameO: What every row's closing text needs. -/
namespace Go.Proofs.Ytlaaihnokoeliab
theorem Try.own : ownKnob Try.prog.godebug = none := by kernel_rfl
theorem Try.laidOut : laidOutB Try.prog = true := by kernel_rfl
end Go.Proofs.Ytlaaihnokoeliab

/-! Frame: A slice of bytes that came in, as the walks take it. -/
namespace Go.Proofs.Ytlaaihnokoeliab
open Go.ChangeShapes Go.WideShapes Go.ChangeAt Go.RowKit

/-- A slice of bytes: it is nil; or it leads to a row of cap cells. -/
def IsRow (w : World) (a : Option Addr) (len cap : Nat) (zs : List Int) : Prop :=
  (a = none ∧ len = 0 ∧ cap = 0 ∧ zs = []) ∨
  ∃ x, a = some x ∧ len ≤ cap ∧ cap ≤ maxLen ∧ zs.length = cap ∧ (∀ i, i < zs.length → w.cell? (x.add i) = some (.int .u8 (zs.getD i 0))) ∧ ∀ n ∈ zs, (Lit.int .u8 n).wf = true

theorem bytes_of_row {w : World} {a : Option Addr} {len cap : Nat} {zs : List Int} (h : IsRow w a len cap zs) : Bytes w a len ∧ len ≤ cap := by
  rcases h with ⟨_, h1, h2, _⟩ | ⟨x, rfl, h1, _, h2, h3, h4⟩
  · exact ⟨.inl h1, by omega⟩
  · refine ⟨?_, h1⟩
    by_cases hl : len = 0
    · exact .inl hl
    · obtain ⟨b, o, spot⟩ := x
      have c0 := h3 0 (by omega)
      have hs : spot = none := by simpa [Addr.add] using World.cell?_spot c0
      subst hs
      have ha : ∀ n, (⟨b, o, none⟩ : Addr).add n = ⟨b, o + n, none⟩ := fun n => by unfold Addr.add; split <;> simp_all
      rw [ha] at c0
      refine .inr ⟨b, o, rfl, World.block_lt_of_cell? _ _ c0, fun i hi => ?_⟩
      have ci := h3 i (by omega)
      rw [ha] at ci
      have hm : zs.getD i 0 ∈ zs := by
        rw [List.getD_eq_getElem?_getD, List.getElem?_eq_getElem (by omega)]
        exact List.getElem_mem _
      have hb := bounds_u8 (h4 _ hm)
      obtain ⟨n, hn⟩ := Int.eq_ofNat_of_zero_le hb.1
      exact ⟨n, by omega, by rw [ci, hn]⟩

/-- Out of the reading of an argument. -/
theorem row_of_trod {H : Type} {enc : TypeId × Value → H} {W : World} {a : Option Addr} {len cap : Nat} {d : DataW H} {p : List MemPlace} (h : DataW.Trod enc Try.prog W 0 (fun _ => true) true 22 (.slice a len cap) d p) : ∃ zs, IsRow W a len cap zs := by
  obtain ⟨fuel, hf⟩ := h
  rcases open_ints Try.underlying22 Try.underlying5 (by kernel_rfl) hf with ⟨hcs, _⟩ | ⟨x, l, c, zs, hcs, _, hl, hm, hz, _, hcell, hwz⟩
  · simp [Value.cells] at hcs
    obtain ⟨rfl, rfl, rfl⟩ := hcs
    exact ⟨[], .inl ⟨rfl, rfl, rfl, rfl⟩⟩
  · simp [Value.cells] at hcs
    obtain ⟨rfl, rfl, rfl⟩ := hcs
    exact ⟨zs, .inr ⟨_, rfl, hl, hm, by simpa using hz, hcell, hwz⟩⟩

end Go.Proofs.Ytlaaihnokoeliab
