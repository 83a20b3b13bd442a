/- Several texts in one: MS, MO. -/
import Derived.Test.YtlaaihnokoeliabKPla16
import Derived.Test.YtlaaihnokoeliabKPla13
import Derived.Test.YtlaaihnokoeliabKPla14
import Derived.Test.YtlaaihnokoeliabKPla15
import Derived.Test.YtlaaihnokoeliabKPla2

/-! MS: The specification's l2Match. -/
namespace Go.Proofs.Ytlaaihnokoeliab
open Go.RowKit Go.Deep

def LmPost (bs : List Bd) (s v : Int) (k : Fo) (s' v' : Int) (k' : Fo) (w : World) (e : Ending) (w' : World) : Prop :=
  ∃ A C b1 t, e = .returned (.tuple #[.slice A (List.length b1) C, .bool t]) ∧ Below w.heap.size w w' ∧ BSl w' 0 w'.heap.size A b1 ∧ ((t = true ∧ tmt bs s v k s' v' k' = some b1) ∨ (t = false ∧ tmt bs s v k s' v' k' = none))

/-- Two boxes of terms, made one behind the other. -/
theorem two_boxesM {w wr : World} {x y z x' y' z' : Value} {T T' : TypeId} (h : Below (w.heap.size + 2) ((w.alloc (.cells #[x, y, z] T)).alloc (.cells #[x', y', z'] T')) wr) :
    wr.cell? ⟨w.heap.size, 0, none⟩ = some x ∧ wr.cell? ⟨w.heap.size, 1, none⟩ = some y ∧ wr.cell? ⟨w.heap.size, 2, none⟩ = some z ∧ wr.cell? ⟨w.heap.size + 1, 0, none⟩ = some x' ∧ wr.cell? ⟨w.heap.size + 1, 1, none⟩ = some y' ∧ wr.cell? ⟨w.heap.size + 1, 2, none⟩ = some z' := by
  refine ⟨?_, ?_, ?_, ?_, ?_, ?_⟩
  · rw [h.cell (by simp), World.cell?_alloc_lt _ _ _ (by simp), World.cell?_alloc_at _ _ _ _ (by simp)]; rfl
  · rw [h.cell (by simp), World.cell?_alloc_lt _ _ _ (by simp), World.cell?_alloc_at _ _ _ _ (by simp)]; rfl
  · rw [h.cell (by simp), World.cell?_alloc_lt _ _ _ (by simp), World.cell?_alloc_at _ _ _ _ (by simp)]; rfl
  · rw [h.cell (by simp), World.cell?_alloc_at _ _ _ _ (by simp)]; rfl
  · rw [h.cell (by simp), World.cell?_alloc_at _ _ _ _ (by simp)]; rfl
  · rw [h.cell (by simp), World.cell?_alloc_at _ _ _ _ (by simp)]; rfl

set_option maxRecDepth 100000 in
set_option maxHeartbeats 4000000 in
theorem l2Match_any (N : Nat) : ∀ (bs : List Bd) (A : Option Addr) (C : Nat) (s v : Int) (a : Option Addr) (c : Nat) (k : Fo) (s' v' : Int) (a' : Option Addr) (c' : Nat) (k' : Fo) (w : World), BSl w 0 w.heap.size A bs → Bof bs 100 → Sl w 0 w.heap.size a k → Sl w 0 w.heap.size a' k' → okN s v (flen k) = true → fok k = true → okN s' v' (flen k') = true → fok k' = true → fsz k' ≤ 100 → fsz k ≤ N → N ≤ 100 → bs.length + (1 + fsz k) ≤ 1000 →
    Calls Try.prog 49 #[.slice A bs.length C, .agg #[.int .i64 s, .int .i64 v, .slice a (flen k) c], .agg #[.int .i64 s', .int .i64 v', .slice a' (flen k') c']] w (LmPost bs s v k s' v' k' w) := by
  induction N using Nat.strongRecOn with
  | _ N ih =>
    intro bs A C s v a c k s' v' a' c' k' w hbs hbo hl hl' hok hfk hok' hfk' hz' hN hN2 hbl
    have hfl := flen_le_sz k
    have IH := Lib.hid ih
    have HFK := Lib.hid hfk
    have HFK' := Lib.hid hfk'
    have HOK := Lib.hid hok
    have HOK' := Lib.hid hok'
    have HBO := Lib.hid hbo
    have HBS0 := Lib.hid hbs
    have hb0 : Below w.heap.size w ((w.alloc (.cells #[.int .i64 s, .int .i64 v, .slice a (flen k) c] 25)).alloc (.cells #[.int .i64 s', .int .i64 v', .slice a' (flen k') c'] 25)) := ((Below.refl _ _).alloc (Nat.le_refl _) _).alloc (by simp) _
    have HB0 := Lib.hid hb0
    have HBS := Lib.hid (hbs.next hb0)
    have HSL := Lib.hid hl
    have HSL' := Lib.hid hl'
    have HBX : Hid (Below (w.heap.size + 2) ((w.alloc (.cells #[.int .i64 s, .int .i64 v, .slice a (flen k) c] 25)).alloc (.cells #[.int .i64 s', .int .i64 v', .slice a' (flen k') c'] 25)) ((w.alloc (.cells #[.int .i64 s, .int .i64 v, .slice a (flen k) c] 25)).alloc (.cells #[.int .i64 s', .int .i64 v', .slice a' (flen k') c'] 25))) := Below.refl _ _
    clear ih hfk hfk' hok hok' hbo hbs hb0 hl hl'
    by_cases hs0 : s = 0
    · subst hs0
      have hk0 := kids_none HOK.out
      subst hk0
      have hv := ((okN_iff _ _ _).1 HOK.out).2.1 rfl
      go_enter Try.func49, Try.ntmps49
      go_wp2_with fail
      go_loopw [8] (fun i wr => ∃ j : Nat, i = .int .i64 j ∧ j ≤ bs.length ∧ Hid (sv bs v = sv (bs.drop j) v) ∧ Hid (Below (w.heap.size + 2) ((w.alloc (.cells #[.int .i64 0, .int .i64 v, .slice a (flen .nil) c] 25)).alloc (.cells #[.int .i64 s', .int .i64 v', .slice a' (flen k') c'] 25)) wr)) (fun i _ => bs.length - (intOf i).toNat)
      case atStart => exact ⟨0, rfl, Nat.zero_le _, by simp [Hid], HBX⟩
      case round =>
        clear HBX
        obtain ⟨j, rfl, hj, HS, HBL⟩ := hrel
        have hsr := HBL.out.size
        simp at hsr
        obtain ⟨hx0, hx1, hx2, hy0, hy1, hy2⟩ := two_boxesM HBL.out
        have HBW := Lib.hid (HB0.out.trans (HBL.out.mono (show w.heap.size ≤ w.heap.size + 2 by omega)))
        by_cases hlt : j < bs.length
        · obtain ⟨y, hy⟩ : ∃ y, bs[j]? = some y := ⟨bs[j], List.getElem?_eq_getElem hlt⟩
          obtain ⟨yx, ys, yv, yk⟩ := y
          have hbr := HBS0.out.next HBW.out
          rcases hbr with hbr | ⟨rb, ro, rfl, _, hbB, hcells⟩
          · subst hbr; simp at hy
          obtain ⟨ya, yc, d0, d1, d2, d3, hsl⟩ := hcells j _ hy
          dsimp only at d0 d1 d2 d3 hsl
          have HYS := Lib.hid hsl
          have HD := Lib.hid (drop_bd hy)
          have g1 : (0 : Int) ≤ (j : Int) := by omega
          have g2 : (j : Int) < (bs.length : Int) := by omega
          clear hcells hy hsl
          have hu0 : ∀ u : After wr.heap.size wr, u.world.cell? ⟨rb, ro + j * 4, none⟩ = some (.int .i64 yx) := fun u => cell_low u.below d0
          have hu1 : ∀ u : After wr.heap.size wr, u.world.cell? ⟨w.heap.size, 1, none⟩ = some (.int .i64 v) := fun u => cell_low u.below hx1
          by_cases hx : yx = v
          · subst hx
            have hxe : (yx == yx) = true := by simp
            have HT : Hid (sv bs yx = some (ys, yv, yk)) := by rw [Hid, HS.out, HD.out]; simp only [sv]; rw [if_pos trivial]
            have hyb := (HBO.out yx _ HT.out).2.2
            dsimp only at hyb
            clear HS HD
            go_wp2_with fail
            refine wp_region_after wr.heap.size (by kernel_rfl) (by kernel_rfl) ?_
            repeat (go_big_quiet_step (fail))
            refine wpQuiet_nil ?_
            rintro wq ⟨⟨_, hu⟩, rfl⟩
            have HUQ := Lib.hid hu
            have e1 := cell_low hu d1
            have e2 := cell_low hu d2
            have e3 := cell_low hu d3
            have f0 := cell_low hu hy0
            have f1 := cell_low hu hy1
            have f2 := cell_low hu hy2
            have HYQ := Lib.hid (HYS.out.next hu)
            have HTQ := Lib.hid (HSL'.out.next (below_next HBW.out hu))
            have HBQ := Lib.hid (HBS0.out.next (below_next HBW.out hu))
            clear hu0 hu1 hu d0 d1 d2 d3 hx0 hx1 hx2 hy0 hy1 hy2
            have hu1 : ∀ u : After wq.heap.size wq, u.world.cell? ⟨rb, ro + j * 4 + 1, none⟩ = some (.int .i64 ys) := fun u => cell_low u.below e1
            have hu2 : ∀ u : After wq.heap.size wq, u.world.cell? ⟨rb, ro + j * 4 + 1 + 1, none⟩ = some (.int .i64 yv) := fun u => cell_low u.below e2
            have hu3 : ∀ u : After wq.heap.size wq, u.world.cell? ⟨rb, ro + j * 4 + 1 + 2, none⟩ = some (.slice ya (flen yk) yc) := fun u => cell_low u.below e3
            have hu4 : ∀ u : After wq.heap.size wq, u.world.cell? ⟨w.heap.size + 1, 0, none⟩ = some (.int .i64 s') := fun u => cell_low u.below f0
            have hu5 : ∀ u : After wq.heap.size wq, u.world.cell? ⟨w.heap.size + 1, 1, none⟩ = some (.int .i64 v') := fun u => cell_low u.below f1
            have hu6 : ∀ u : After wq.heap.size wq, u.world.cell? ⟨w.heap.size + 1, 2, none⟩ = some (.slice a' (flen k') c') := fun u => cell_low u.below f2
            have HCALL : Hid (∀ u : After wq.heap.size wq, Calls Try.prog 73 #[.agg #[.int .i64 ys, .int .i64 yv, .slice ya (flen yk) yc], .agg #[.int .i64 s', .int .i64 v', .slice a' (flen k') c']] u.world fun e w' => e = .returned (.bool (teq ys yv yk s' v' k')) ∧ Below u.world.heap.size u.world w') := fun u =>
              l1Same_any (fsz yk) ys yv ya yc yk s' v' a' c' k' u.world (HYQ.out.next u.below) (HTQ.out.next u.below) (Nat.le_refl _) (by omega)
            go_wp2_with fail
            refine wp_region_after wq.heap.size (by kernel_rfl) (by kernel_rfl) ?_
            repeat (go_big_quiet_step ((go_at_call 73; exact Calls.after (After.below ‹_›).size (HCALL.out _))))
            refine wpQuiet_nil ?_
            rintro u ⟨⟨_, hu⟩, rfl⟩
            have HU2 := Lib.hid hu
            clear hu hu1 hu2 hu3 hu4 hu5 hu6 e1 e2 e3 f0 f1 f2
            go_wp2_with fail
            have HP : Hid (LmPost bs 0 yx .nil s' v' k' w (.returned (.tuple #[.slice (some ⟨rb, ro, none⟩) bs.length C, .bool (teq ys yv yk s' v' k')])) u) := by
              refine ⟨_, C, bs, _, rfl, below_next (below_next HBW.out HUQ.out) HU2.out, HBQ.out.next HU2.out, ?_⟩
              rw [tmt_zero, mtV_found HT.out]
              dsimp only
              cases teq ys yv yk s' v' k' with
              | true => exact .inl ⟨rfl, rfl⟩
              | false => exact .inr ⟨rfl, rfl⟩
            refine bodyPost_ret (v := .tuple #[.slice (some ⟨rb, ro, none⟩) bs.length C, .bool (teq ys yv yk s' v' k')]) ?_ rfl HP.out
            simp [results, Try.results49, go_sem]
          · have hxe : (yx == v) = false := by simpa using hx
            have HN : Hid (sv bs v = sv (bs.drop (j + 1)) v) := by rw [Hid, HS.out, HD.out]; simp only [sv]; rw [if_neg hx]
            clear HS HD
            go_wp2_with fail
            refine wp_region_after wr.heap.size (by kernel_rfl) (by kernel_rfl) ?_
            repeat (go_big_quiet_step (fail))
            refine wpQuiet_nil ?_
            rintro wq ⟨⟨_, hu⟩, rfl⟩
            have HBL2 := Lib.hid (HBL.out.trans (hu.mono hsr))
            clear hu hu0 hu1 d0 d1 d2 d3 hx0 hx1 hx2 hy0 hy1 hy2
            go_wp2_with fail
            go_roundw
            case rel => exact ⟨j + 1, by go_num, by omega, HN, HBL2⟩
            case measure => simp [intOf]; omega
        · have HT : Hid (sv bs v = none) := by rw [Hid, HS.out, List.drop_eq_nil_of_le (by omega)]; rfl
          have hu1 : ∀ u : After wr.heap.size wr, u.world.cell? ⟨w.heap.size, 1, none⟩ = some (.int .i64 v) := fun u => cell_low u.below hx1
          have hu4 : ∀ u : After wr.heap.size wr, u.world.cell? ⟨w.heap.size + 1, 0, none⟩ = some (.int .i64 s') := fun u => cell_low u.below hy0
          have hu5 : ∀ u : After wr.heap.size wr, u.world.cell? ⟨w.heap.size + 1, 1, none⟩ = some (.int .i64 v') := fun u => cell_low u.below hy1
          have hu6 : ∀ u : After wr.heap.size wr, u.world.cell? ⟨w.heap.size + 1, 2, none⟩ = some (.slice a' (flen k') c') := fun u => cell_low u.below hy2
          clear HS hx0 hx1 hx2 hy0 hy1 hy2
          go_wp2_with fail
          refine wp_region_mix (fun w' => ∃ u : After wr.heap.size wr, w' = u.world) [] [(0, 0), (1, 0), (2, 0), (3, 0), (4, 1), (5, 1), (6, 1), (7, 1), (8, 1)] (by kernel_rfl) (by kernel_rfl) ⟨⟨_, (Below.refl _ _).drew⟩, rfl⟩ ?_
          have HBD : Hid (Below wr.heap.size wr wr.drew) := (Below.refl _ _).drew
          generalize wr.drew = wd at *
          iterate 4
            refine mix_see rfl (fun K hK => ?_)
            go_simp
            refine hK _ ?_
            clear hK K
          clear hu1 hu4 hu5 hu6
          refine mix_hold rfl (fun K hK => ?_)
          go_simp
          with_reducible refine (l1Copy_any (fsz k') s' v' a' c' k' _ (HSL'.out.next (below_next HBW.out HBD.out)) (Nat.le_refl _) (by omega)).mono ?_
          rintro e w2 ⟨a2, c2, rfl, hb2, ho2⟩
          have HB2 := Lib.hid (below_next HBD.out hb2)
          have HL2 : Hid (Sl w2 0 w2.heap.size a2 k') := ho2.sl.mono (Nat.zero_le _) (Nat.le_refl _)
          refine hK _ _ ⟨⟨_, HB2.out⟩, rfl⟩ ?_
          clear hK K hb2 ho2
          refine mix_hold rfl (fun K hK => ?_)
          go_simp
          refine hK _ _ ⟨⟨_, HB2.out⟩, rfl⟩ ?_
          clear hK K
          refine mix_hold rfl (fun K hK => ?_)
          go_simp
          with_reducible refine (l2Add_any bs A C v s' v' a2 c2 k' _ (HBS0.out.next (below_next HBW.out HB2.out)) (by omega) HL2.out).mono ?_
          rintro e w3 ⟨A3, C3, rfl, hrow⟩
          have HB3 := Lib.hid (below_next HB2.out hrow.low)
          have HR3 := Lib.hid hrow.bsl
          refine hK _ _ ⟨⟨_, HB3.out⟩, rfl⟩ ?_
          clear hK K hrow
          iterate 2
            refine mix_hold rfl (fun K hK => ?_)
            go_simp
            refine hK _ _ ⟨⟨_, HB3.out⟩, rfl⟩ ?_
            clear hK K
          refine mix_end ?_
          go_wp2_with fail
          have HP : Hid (LmPost bs 0 v .nil s' v' k' w (.returned (.tuple #[.slice A3 (ladd bs (v, s', v', k')).length C3, .bool true])) w3) :=
            ⟨_, C3, _, _, rfl, below_next HBW.out HB3.out, HR3.out, .inl ⟨rfl, by rw [tmt_zero, mtV_none HT.out]⟩⟩
          refine bodyPost_ret (v := .tuple #[.slice A3 (ladd bs (v, s', v', k')).length C3, .bool true]) ?_ rfl HP.out
          simp [results, Try.results49, go_sem]
    · have hse : (s == 0) = false := by simpa using hs0
      by_cases hss : s = s'
      case neg =>
        have hne : (s != s') = true := by simp [hss]
        have HP : Hid (LmPost bs s v k s' v' k' w (.returned (.tuple #[.slice A bs.length C, .bool false])) ((w.alloc (.cells #[.int .i64 s, .int .i64 v, .slice a (flen k) c] 25)).alloc (.cells #[.int .i64 s', .int .i64 v', .slice a' (flen k') c'] 25))) :=
          ⟨A, C, bs, false, rfl, HB0.out, HBS.out, .inr ⟨rfl, tmt_other hs0 hss⟩⟩
        clear HBX
        go_enter Try.func49, Try.ntmps49
        go_wp2_with fail
        refine bodyPost_ret (v := .tuple #[.slice A bs.length C, .bool false]) ?_ rfl HP.out
        simp [results, Try.results49, go_sem]
      subst hss
      have hne : (s != s) = false := by simp
      have HFL := Lib.hid (flen_same HOK.out HOK'.out)
      have HTS := Lib.hid (tmt_sym (bs := bs) (v := v) (v' := v') (k := k) (k' := k') hs0)
      go_enter Try.func49, Try.ntmps49
      go_wp2_with fail
      go_loopw [0, 9] (fun o i wr => ∃ (j : Nat) (b1 : List Bd) (A1 : Option Addr) (C1 : Nat), o = .slice A1 b1.length C1 ∧ i = .int .i64 j ∧ j ≤ flen k ∧ Hid (fmt bs k k' = fmt b1 (fdrop j k) (fdrop j k')) ∧ Hid (Bof b1 100) ∧ Hid (b1.length + fsz (fdrop j k) ≤ bs.length + fsz k) ∧ Hid (BSl wr 0 wr.heap.size A1 b1) ∧ Hid (Below (w.heap.size + 2) ((w.alloc (.cells #[.int .i64 s, .int .i64 v, .slice a (flen k) c] 25)).alloc (.cells #[.int .i64 s, .int .i64 v', .slice a' (flen k') c'] 25)) wr)) (fun _ i _ => flen k - (intOf i).toNat)
      case atStart => exact ⟨0, bs, A, C, rfl, rfl, Nat.zero_le _, rfl, HBO, Nat.le_refl _, HBS, HBX⟩
      case round =>
        clear HBX HBS HBO
        obtain ⟨j, b1, A1, C1, rfl, rfl, hj, HF, HBO, HLN, HBS, HBL⟩ := hrel
        have hsr := HBL.out.size
        simp at hsr
        obtain ⟨hx0, hx1, hx2, hy0, hy1, hy2⟩ := two_boxesM HBL.out
        have HBW := Lib.hid (HB0.out.trans (HBL.out.mono (show w.heap.size ≤ w.heap.size + 2 by omega)))
        by_cases hlt : j < flen k
        · have hlt' : j < flen k' := by rw [← HFL.out]; exact hlt
          have hnr := HSL.out.next HBW.out
          rcases hnr with rfl | ⟨b, o, rfl, hrow⟩
          · simp [flen] at hlt
          have hnr' := HSL'.out.next HBW.out
          rcases hnr' with rfl | ⟨b', o', rfl, hrow'⟩
          · simp [flen] at hlt'
          obtain ⟨s1, v1, k1, a1, c1, ⟨x, y, hd⟩, _, hbB, q0, q1, q2, hsl⟩ := row_at hrow hlt
          obtain ⟨s2, v2, k2, a2, c2, ⟨x2, y2, hd'⟩, _, hbB', q3, q4, q5, hsl2⟩ := row_at hrow' hlt'
          have hk1 := fok_kid HFK.out hd
          have hk2 := fok_kid HFK'.out hd'
          have z1 := fsz_kid hd
          have z2 := fsz_kid hd'
          have HST := Lib.hid (fmt_step (bs := b1) hd hd')
          have hzd := fsz_dropN hd
          have hl1 := HLN.out
          have HZ : Hid (b1.length + (1 + fsz k1) + fsz (fdrop (j + 1) k) ≤ bs.length + fsz k) := by show _ ≤ _; omega
          have HCALL : Hid (∀ u : After wr.heap.size wr, Calls Try.prog 49 #[.slice A1 b1.length C1, .agg #[.int .i64 s1, .int .i64 v1, .slice a1 (flen k1) c1], .agg #[.int .i64 s2, .int .i64 v2, .slice a2 (flen k2) c2]] u.world (LmPost b1 s1 v1 k1 s2 v2 k2 u.world)) := fun u =>
            IH.out (fsz k1) (by omega) b1 A1 C1 s1 v1 a1 c1 k1 s2 v2 a2 c2 k2 u.world (HBS.out.next u.below) HBO.out (hsl.next u.below) (hsl2.next u.below) hk1.1 hk1.2 hk2.1 hk2.2 (by omega) (Nat.le_refl _) (by omega) (by omega)
          have HOF : Hid (∀ b2, tmt b1 s1 v1 k1 s2 v2 k2 = some b2 → Bof b2 100) := fun b2 h => tmt_of h HBO.out hk2.1 hk2.2 (by omega)
          have g1 : (0 : Int) ≤ (j : Int) := by omega
          have g2 : (j : Int) < (flen k : Int) := by omega
          have g3 : (j : Int) < (flen k' : Int) := by omega
          clear hd hd' hk1 hk2 hrow hrow' hzd hl1 hsl hsl2
          have hu0 : ∀ u : After wr.heap.size wr, u.world.cell? ⟨b, o + j * 3, none⟩ = some (.int .i64 s1) := fun u => cell_low u.below q0
          have hu1 : ∀ u : After wr.heap.size wr, u.world.cell? ⟨b, o + j * 3 + 1, none⟩ = some (.int .i64 v1) := fun u => cell_low u.below q1
          have hu2 : ∀ u : After wr.heap.size wr, u.world.cell? ⟨b, o + j * 3 + 2, none⟩ = some (.slice a1 (flen k1) c1) := fun u => cell_low u.below q2
          have hu3 : ∀ u : After wr.heap.size wr, u.world.cell? ⟨b', o' + j * 3, none⟩ = some (.int .i64 s2) := fun u => cell_low u.below q3
          have hu4 : ∀ u : After wr.heap.size wr, u.world.cell? ⟨b', o' + j * 3 + 1, none⟩ = some (.int .i64 v2) := fun u => cell_low u.below q4
          have hu5 : ∀ u : After wr.heap.size wr, u.world.cell? ⟨b', o' + j * 3 + 2, none⟩ = some (.slice a2 (flen k2) c2) := fun u => cell_low u.below q5
          have hu6 : ∀ u : After wr.heap.size wr, u.world.cell? ⟨w.heap.size, 2, none⟩ = some (.slice (some ⟨b, o, none⟩) (flen k) c) := fun u => cell_low u.below hx2
          have hu7 : ∀ u : After wr.heap.size wr, u.world.cell? ⟨w.heap.size + 1, 2, none⟩ = some (.slice (some ⟨b', o', none⟩) (flen k') c') := fun u => cell_low u.below hy2
          go_wp2_with fail
          refine wp_region_mix (fun w' => ∃ u : After wr.heap.size wr, w' = u.world) [] [(0, 0), (1, 0), (2, 0), (3, 0), (4, 0), (5, 0), (6, 0), (7, 0), (8, 0), (9, 0), (10, 0), (11, 1), (12, 0), (13, 0), (14, 0), (15, 1), (16, 1)] (by kernel_rfl) (by kernel_rfl) ⟨⟨_, (Below.refl _ _).drew⟩, rfl⟩ ?_
          have HBD : Hid (Below wr.heap.size wr wr.drew) := (Below.refl _ _).drew
          generalize wr.drew = wd at *
          iterate 11
            refine mix_see rfl (fun K hK => ?_)
            go_simp
            refine hK _ ?_
            clear hK K
          clear hu0 hu1 hu2 hu3 hu4 hu5 hu6 hu7 q0 q1 q2 q3 q4 q5 hx0 hx1 hx2 hy0 hy1 hy2
          refine mix_hold rfl (fun K hK => ?_)
          go_simp
          with_reducible refine (HCALL.out ⟨wd, HBD.out⟩).mono ?_
          rintro e w2 ⟨A2, C2, b2, t2, rfl, hb2, hs2, hcase⟩
          have HB2 := Lib.hid (below_next HBD.out hb2)
          have HS2 := Lib.hid hs2
          refine hK _ _ ⟨⟨_, HB2.out⟩, rfl⟩ ?_
          clear hK K hb2 hs2 HCALL
          iterate 3
            refine mix_see rfl (fun K hK => ?_)
            go_simp
            refine hK _ ?_
            clear hK K
          iterate 2
            refine mix_hold rfl (fun K hK => ?_)
            go_simp
            refine hK _ _ ⟨⟨_, HB2.out⟩, rfl⟩ ?_
            clear hK K
          refine mix_end ?_
          rcases hcase with ⟨rfl, ht⟩ | ⟨rfl, ht⟩
          · have HF2 : Hid (fmt bs k k' = fmt b2 (fdrop (j + 1) k) (fdrop (j + 1) k')) := by rw [Hid, HF.out, HST.out, ht]; rfl
            have HB5 := Lib.hid (HOF.out b2 ht)
            have HL5 : Hid (b2.length + fsz (fdrop (j + 1) k) ≤ bs.length + fsz k) := by have h1 := tmt_blen ht; have h2 := HZ.out; show _ ≤ _; omega
            have HBL2 := Lib.hid (HBL.out.trans (HB2.out.mono hsr))
            clear ht
            go_wp2_with fail
            go_roundw
            case rel => exact ⟨j + 1, b2, A2, C2, rfl, by go_num, by omega, HF2, HB5, HL5, HS2, HBL2⟩
            case measure => simp [intOf]; omega
          · have HP : Hid (LmPost bs s v k s v' k' w (.returned (.tuple #[.slice A1 b1.length C1, .bool false])) w2) :=
              ⟨A1, C1, b1, false, rfl, below_next HBW.out HB2.out, HBS.out.next HB2.out, .inr ⟨rfl, by rw [HTS.out, HF.out, HST.out, ht]; rfl⟩⟩
            clear ht
            go_wp2_with fail
            refine bodyPost_ret (v := .tuple #[.slice A1 b1.length C1, .bool false]) ?_ rfl HP.out
            simp [results, Try.results49, go_sem]
        · have HP : Hid (LmPost bs s v k s v' k' w (.returned (.tuple #[.slice A1 b1.length C1, .bool true])) wr) :=
            ⟨A1, C1, b1, true, rfl, HBW.out, HBS.out, .inl ⟨rfl, by rw [HTS.out, HF.out, fdrop_all (by omega), fdrop_all (k := k') (by have := HFL.out; omega)]; rfl⟩⟩
          go_wp2_with fail
          refine bodyPost_ret (v := .tuple #[.slice A1 b1.length C1, .bool true]) ?_ rfl HP.out
          simp [results, Try.results49, go_sem]
end Go.Proofs.Ytlaaihnokoeliab

/-! MO: MatchOf of the program and of the specification. -/
namespace Go.Proofs.Ytlaaihnokoeliab
open Go.RowKit Go.Deep Go.Maps

def MaPost (s v : Int) (k : Fo) (s' v' : Int) (k' : Fo) (w : World) (e : Ending) (w' : World) : Prop :=
  ∃ A C bs t, maR s v k s' v' k' = (bs, t) ∧ e = .returned (.tuple #[.slice A (List.length bs) C, .bool t]) ∧ Below w.heap.size w w' ∧ BSl w' 0 w'.heap.size A bs
theorem ma_none {s v : Int} {k : Fo} {s' v' : Int} {k' : Fo} {w w' : World} {A : Option Addr} {C : Nat} (h : maR s v k s' v' k' = ([], false)) (hb : Below w.heap.size w w') : MaPost s v k s' v' k' w (.returned (.tuple #[.slice A 0 C, .bool false])) w' :=
  ⟨A, C, [], false, h, rfl, hb, .inl rfl⟩
theorem fits_of {bs : List Bd} (ha : Asc bs) (hb : Bof bs 15) : fits 16 bs = true := by
  unfold fits
  rw [List.all_eq_true]
  intro x hx
  have := (hb x.1 x.2 (sv_mem ha hx)).2.2
  simp only [decide_eq_true_eq]
  omega
theorem maR_bad {s v : Int} {k : Fo} {s' v' : Int} {k' : Fo} (h : ¬ (okW s v k 16 = true ∧ okW s' v' k' 16 = true)) : maR s v k s' v' k' = ([], false) := by unfold maR; rw [if_neg h]
theorem Bof.mono {bs : List Bd} {M M' : Nat} (h : Bof bs M) (hM : M ≤ M') : Bof bs M' := fun x t ht => ⟨(h x t ht).1, (h x t ht).2.1, Nat.le_trans (h x t ht).2.2 hM⟩

set_option maxRecDepth 100000 in
set_option maxHeartbeats 2000000 in
theorem iMatchOf_any (s v : Int) (a : Option Addr) (c : Nat) (k : Fo) (s' v' : Int) (a' : Option Addr) (c' : Nat) (k' : Fo) (w : World) (hl : Sl w 0 w.heap.size a k) (hl' : Sl w 0 w.heap.size a' k') :
    Calls Try.prog 16 #[.agg #[.int .i64 s, .int .i64 v, .slice a (flen k) c], .agg #[.int .i64 s', .int .i64 v', .slice a' (flen k') c']] w (MaPost s v k s' v' k' w) := by
  have hb0 : Below w.heap.size w ((w.alloc (.cells #[.int .i64 s, .int .i64 v, .slice a (flen k) c] 25)).alloc (.cells #[.int .i64 s', .int .i64 v', .slice a' (flen k') c'] 25)) := ((Below.refl _ _).alloc (Nat.le_refl _) _).alloc (by simp) _
  have HL0 := Lib.hid (hl.next hb0)
  have HL0' := Lib.hid (hl'.next hb0)
  have HW0 := Lib.hid hb0
  have HB0 : Hid (Below (w.heap.size + 2) ((w.alloc (.cells #[.int .i64 s, .int .i64 v, .slice a (flen k) c] 25)).alloc (.cells #[.int .i64 s', .int .i64 v', .slice a' (flen k') c'] 25)) ((w.alloc (.cells #[.int .i64 s, .int .i64 v, .slice a (flen k) c] 25)).alloc (.cells #[.int .i64 s', .int .i64 v', .slice a' (flen k') c'] 25))) := Below.refl _ _
  have hsz : w.heap.size + 2 ≤ ((w.alloc (.cells #[.int .i64 s, .int .i64 v, .slice a (flen k) c] 25)).alloc (.cells #[.int .i64 s', .int .i64 v', .slice a' (flen k') c'] 25)).heap.size := by simp
  have hmm := @run_makeMap Try.prog
  clear hb0 hl hl'
  go_enter Try.func16, Try.ntmps16
  go_wp2_with fail
  with_reducible refine (nodeOf_any s v a c k 16 _ HL0.out (by omega) (by omega)).mono ?_
  rintro e w1 ⟨nv, rfl, hb1, hyes1⟩
  have hb1' := HB0.out.trans (hb1.mono hsz)
  obtain ⟨_, _, _, hr3, hr4, hr5⟩ := two_boxesM hb1'
  have HW1 := Lib.hid (below_next HW0.out hb1)
  have HL1' := Lib.hid (HL0'.out.next hb1)
  have HY1 := Lib.hid hyes1
  clear hb1 hb1' hyes1 HB0 hsz HL0 HL0' HW0
  go_wp2_with fail
  with_reducible refine (nodeOf_any s' v' a' c' k' 16 _ HL1'.out (by omega) (by omega)).mono ?_
  rintro e w2 ⟨nv', rfl, hb2, hyes2⟩
  have HW2 := Lib.hid (below_next HW1.out hb2)
  have HB2 := Lib.hid hb2
  have HY2 := Lib.hid hyes2
  clear hb2 hyes2 hr3 hr4 hr5
  by_cases hok : okW s v k 16 = true
  case neg =>
    have hf : okW s v k 16 = false := by simpa using hok
    have HP : Hid (MaPost s v k s' v' k' w (.returned (.tuple #[.slice none 0 0, .bool false])) w2) := ma_none (maR_bad fun h => hok h.1) HW2.out
    rw [hf]
    clear hok hf
    generalize okW s' v' k' 16 = okk
    cases okk with
    | true =>
      go_wp2_with fail
      refine bodyPost_ret (v := .tuple #[.slice none 0 0, .bool false]) ?_ rfl HP.out
      simp [results, Try.results16, go_sem]
    | false =>
      go_wp2_with fail
      refine bodyPost_ret (v := .tuple #[.slice none 0 0, .bool false]) ?_ rfl HP.out
      simp [results, Try.results16, go_sem]
  by_cases hok' : okW s' v' k' 16 = true
  case neg =>
    have hf : okW s' v' k' 16 = false := by simpa using hok'
    have HP : Hid (MaPost s v k s' v' k' w (.returned (.tuple #[.slice none 0 0, .bool false])) w2) := ma_none (maR_bad fun h => hok' h.2) HW2.out
    rw [hf, hok]
    clear hok hf hok'
    go_wp2_with fail
    refine bodyPost_ret (v := .tuple #[.slice none 0 0, .bool false]) ?_ rfl HP.out
    simp [results, Try.results16, go_sem]
  obtain ⟨o1, o2, o3⟩ := (okW_iff _ _ _ _).1 hok
  obtain ⟨p1, p2, p3⟩ := (okW_iff _ _ _ _).1 hok'
  have hbm : Below w2.heap.size w2 (w2.alloc (.map #[] 0)) := (Below.refl _ _).alloc (Nat.le_refl _) _
  have HN1 : Hid (Nj (w2.alloc (.map #[] 0)) nv s v k) := by
    have h1 := (HY1.out hok).mono (lo' := 0) (Nat.zero_le _) (Nat.le_refl _)
    have h2 := (h1.below HB2.out).mono (lo' := 0) (Nat.le_refl _) HB2.out.size
    exact ⟨(h2.below hbm).mono (Nat.le_refl _) hbm.size, o1, o2, by omega⟩
  have HN2 : Hid (Nj (w2.alloc (.map #[] 0)) nv' s' v' k') := by
    have h2 := (HY2.out hok').mono (lo' := 0) (Nat.zero_le _) (Nat.le_refl _)
    exact ⟨(h2.below hbm).mono (Nat.le_refl _) hbm.size, p1, p2, by omega⟩
  have HMS := Lib.hid (MapIs.start w2)
  have HOK := Lib.hid hok
  have HOK' := Lib.hid hok'
  have HO1 := Lib.hid p1
  have HO2 := Lib.hid p2
  have HWM := Lib.hid (below_next HW2.out hbm)
  have hws := HW2.out.size
  have HCM := Lib.hid (match_any (base := w2.heap.size) (b := w2.heap.size) (Nat.le_refl _) 1000 HMS.out (Bof.nil _) (by simp) HN1.out HN2.out (by simp; omega) (by omega))
  rw [hok, hok']
  clear hok hok' o1 o2 p1 p2 hbm HY1 HY2
  go_wp2_with fail
  with_reducible refine HCM.out.mono ?_
  rintro e w3 ⟨hkp, hcase⟩
  have HW3 := Lib.hid (HWM.out.trans (hkp.low.mono hws))
  clear hkp HN1 HN2 HMS HCM
  rcases hcase with ⟨bs, ht, rfl, hm3⟩ | ⟨ht, rfl⟩
  · have HR := Lib.hid (maR_of HOK.out HOK'.out ht)
    obtain ⟨i1, i2, i3, i4, i5⟩ := maR_in HR.out
    have HFIT := Lib.hid (fits_of i1 i2)
    have HC := Lib.hid (binds_any bs w2.heap.size 16 w3 hm3 i1 i4 (i2.mono (by omega)))
    clear ht hm3 i1 i2 i3 i4 i5
    go_wp2_with fail
    with_reducible refine HC.out.mono ?_
    rintro e w4 ⟨hb4, hc4⟩
    rcases hc4 with ⟨_, A, C, rfl, ho⟩ | ⟨hno, _⟩
    · have HP : Hid (MaPost s v k s' v' k' w (.returned (.tuple #[.slice A bs.length C, .bool true])) w4) := ⟨A, C, bs, true, HR.out, rfl, below_next HW3.out hb4, ho.bsl.mono (Nat.zero_le _) (Nat.le_refl _)⟩
      clear hb4 ho
      go_wp2_with fail
      refine bodyPost_ret (v := .tuple #[.slice A bs.length C, .bool true]) ?_ rfl HP.out
      simp [results, Try.results16, go_sem]
    · rw [HFIT.out] at hno; cases hno
  · have HP : Hid (MaPost s v k s' v' k' w (.returned (.tuple #[.slice none 0 0, .bool false])) w3) := ma_none (maR_no ht) HW3.out
    clear ht
    go_wp2_with fail
    refine bodyPost_ret (v := .tuple #[.slice none 0 0, .bool false]) ?_ rfl HP.out
    simp [results, Try.results16, go_sem]

set_option maxRecDepth 100000 in
set_option maxHeartbeats 2000000 in
theorem sMatchOf_any (s v : Int) (a : Option Addr) (c : Nat) (k : Fo) (s' v' : Int) (a' : Option Addr) (c' : Nat) (k' : Fo) (w : World) (hl : Sl w 0 w.heap.size a k) (hl' : Sl w 0 w.heap.size a' k') :
    Calls Try.prog 24 #[.agg #[.int .i64 s, .int .i64 v, .slice a (flen k) c], .agg #[.int .i64 s', .int .i64 v', .slice a' (flen k') c']] w (MaPost s v k s' v' k' w) := by
  have hb0 : Below w.heap.size w ((w.alloc (.cells #[.int .i64 s, .int .i64 v, .slice a (flen k) c] 25)).alloc (.cells #[.int .i64 s', .int .i64 v', .slice a' (flen k') c'] 25)) := ((Below.refl _ _).alloc (Nat.le_refl _) _).alloc (by simp) _
  have HL0 := Lib.hid (hl.next hb0)
  have HL0' := Lib.hid (hl'.next hb0)
  have HW0 := Lib.hid hb0
  have HB0 : Hid (Below (w.heap.size + 2) ((w.alloc (.cells #[.int .i64 s, .int .i64 v, .slice a (flen k) c] 25)).alloc (.cells #[.int .i64 s', .int .i64 v', .slice a' (flen k') c'] 25)) ((w.alloc (.cells #[.int .i64 s, .int .i64 v, .slice a (flen k) c] 25)).alloc (.cells #[.int .i64 s', .int .i64 v', .slice a' (flen k') c'] 25))) := Below.refl _ _
  have hsz : w.heap.size + 2 ≤ ((w.alloc (.cells #[.int .i64 s, .int .i64 v, .slice a (flen k) c] 25)).alloc (.cells #[.int .i64 s', .int .i64 v', .slice a' (flen k') c'] 25)).heap.size := by simp
  clear hb0 hl hl'
  go_enter Try.func24, Try.ntmps24
  go_wp2_with fail
  with_reducible refine (sTermOk_any s v a c k _ HL0.out).mono ?_
  rintro e w1 ⟨rfl, hb1⟩
  have hb1' := HB0.out.trans (hb1.mono hsz)
  obtain ⟨hr0, hr1, hr2, hr3, hr4, hr5⟩ := two_boxesM hb1'
  have HW1 := Lib.hid (below_next HW0.out hb1)
  have HL1 := Lib.hid (HL0.out.next hb1)
  have HL1' := Lib.hid (HL0'.out.next hb1)
  have HB1 := Lib.hid hb1'
  have hsz1 : w.heap.size + 2 ≤ w1.heap.size := Nat.le_trans hsz hb1.size
  clear hb1 hb1' HB0 hsz HL0 HL0' HW0
  by_cases hok : okW s v k 16 = true
  case neg =>
    have hf : okW s v k 16 = false := by simpa using hok
    have HP : Hid (MaPost s v k s' v' k' w (.returned (.tuple #[.slice (some ⟨w1.heap.size, 0, none⟩) 0 0, .bool false])) (w1.alloc (.cells #[] 68))) := ma_none (maR_bad fun h => hok h.1) (below_next HW1.out (box_low _ _))
    rw [hf]
    clear hok hf
    go_wp2_with fail
    refine bodyPost_ret (v := .tuple #[.slice (some ⟨w1.heap.size, 0, none⟩) 0 0, .bool false]) ?_ rfl HP.out
    simp [results, Try.results24, go_sem]
  rw [hok]
  go_wp2_with fail
  with_reducible refine (sTermOk_any s' v' a' c' k' _ HL1'.out).mono ?_
  rintro e w2 ⟨rfl, hb2⟩
  have HW2 := Lib.hid (below_next HW1.out hb2)
  have hb2' := HB1.out.trans (hb2.mono hsz1)
  have HL2 := Lib.hid (HL1.out.next hb2)
  have HL2' := Lib.hid (HL1'.out.next hb2)
  clear hr0 hr1 hr2 hr3 hr4 hr5 hb2 HL1 HL1' HB1
  by_cases hok' : okW s' v' k' 16 = true
  case neg =>
    have hf : okW s' v' k' 16 = false := by simpa using hok'
    have HP : Hid (MaPost s v k s' v' k' w (.returned (.tuple #[.slice (some ⟨w2.heap.size, 0, none⟩) 0 0, .bool false])) (w2.alloc (.cells #[] 68))) := ma_none (maR_bad fun h => hok' h.2) (below_next HW2.out (box_low _ _))
    rw [hf]
    clear hok hf hok' hb2'
    go_wp2_with fail
    refine bodyPost_ret (v := .tuple #[.slice (some ⟨w2.heap.size, 0, none⟩) 0 0, .bool false]) ?_ rfl HP.out
    simp [results, Try.results24, go_sem]
  obtain ⟨o1, o2, o3⟩ := (okW_iff _ _ _ _).1 hok
  obtain ⟨p1, p2, p3⟩ := (okW_iff _ _ _ _).1 hok'
  have hbm : Below w2.heap.size w2 (w2.alloc (.cells #[] 68)) := (Below.refl _ _).alloc (Nat.le_refl _) _
  have hb3' := hb2'.trans (hbm.mono (show w.heap.size + 2 ≤ w2.heap.size by have := hb2'.size; simp at this; omega))
  obtain ⟨hr0, hr1, hr2, hr3, hr4, hr5⟩ := two_boxesM hb3'
  have HOK := Lib.hid hok
  have HOK' := Lib.hid hok'
  have HWM := Lib.hid (below_next HW2.out hbm)
  have HC : Hid (Calls Try.prog 49 #[.slice (some ⟨w2.heap.size, 0, none⟩) 0 0, .agg #[.int .i64 s, .int .i64 v, .slice a (flen k) c], .agg #[.int .i64 s', .int .i64 v', .slice a' (flen k') c']] (w2.alloc (.cells #[] 68)) (LmPost [] s v k s' v' k' (w2.alloc (.cells #[] 68)))) := (l2Match_any (fsz k) [] (some ⟨w2.heap.size, 0, none⟩) 0 s v a c k s' v' a' c' k' (w2.alloc (.cells #[] 68)) (.inl rfl) (Bof.nil _) (HL2.out.next hbm) (HL2'.out.next hbm) o1 o2 p1 p2 (by omega) (Nat.le_refl _) (by omega) (by simp; omega))
  rw [hok']
  clear hok hok' o1 o2 p1 p2 hbm hb2' hb3'
  go_wp2_with fail
  with_reducible refine HC.out.mono ?_
  rintro e w3 ⟨A, C, b1, t, rfl, hb3, hs3, hcase⟩
  have HW3 := Lib.hid (below_next HWM.out hb3)
  have HS3 := Lib.hid hs3
  clear hb3 hs3 hr0 hr1 hr2 hr3 hr4 hr5 HC
  rcases hcase with ⟨rfl, ht⟩ | ⟨rfl, ht⟩
  · have HP : Hid (MaPost s v k s' v' k' w (.returned (.tuple #[.slice A b1.length C, .bool true])) w3) := ⟨A, C, b1, true, maR_of HOK.out HOK'.out ht, rfl, HW3.out, HS3.out⟩
    clear ht
    go_wp2_with fail
    refine bodyPost_ret (v := .tuple #[.slice A b1.length C, .bool true]) ?_ rfl HP.out
    simp [results, Try.results24, go_sem]
  · have HP : Hid (MaPost s v k s' v' k' w (.returned (.tuple #[.slice (some ⟨w3.heap.size, 0, none⟩) 0 0, .bool false])) (w3.alloc (.cells #[] 68))) := ma_none (maR_no ht) (below_next HW3.out (box_low _ _))
    clear ht
    go_wp2_with fail
    refine bodyPost_ret (v := .tuple #[.slice (some ⟨w3.heap.size, 0, none⟩) 0 0, .bool false]) ?_ rfl HP.out
    simp [results, Try.results24, go_sem]
end Go.Proofs.Ytlaaihnokoeliab
