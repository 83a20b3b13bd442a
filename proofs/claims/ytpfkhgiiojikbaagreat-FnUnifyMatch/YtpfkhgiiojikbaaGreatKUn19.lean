/- Several texts in one: MS, UI, SP3. -/
import Derived.Test.YtpfkhgiiojikbaaGreatKUn18
import Derived.Test.YtpfkhgiiojikbaaGreatKUn15
import Derived.Test.YtpfkhgiiojikbaaGreatKUn16
import Derived.Test.YtpfkhgiiojikbaaGreatKUn17
import Derived.Test.YtpfkhgiiojikbaaGreatKUn2
import Derived.Test.YtpfkhgiiojikbaaGreatKUn11

/-! MS: The specification's l2Match. -/
namespace Go.Proofs.YtpfkhgiiojikbaaGreat
open Go.RowKit Go.Deep

def LmPost (bs : List Bd) (s v : Int) (k : Fo) (s' v' : Int) (k' : Fo) (w : World) (e : Ending) (w' : World) : Prop :=
  ∃ A C b1 t, e = .returned (.tuple #[.slice A (List.length b1) C, .bool t]) ∧ Below w.heap.size w w' ∧ BSl w' 0 w'.heap.size A b1 ∧ ((t = true ∧ tmt bs s v k s' v' k' = some b1) ∨ (t = false ∧ tmt bs s v k s' v' k' = none))

/-- Two boxes of terms, made one behind the other. -/
theorem two_boxesM {w wr : World} {x y z x' y' z' : Value} {T T' : TypeId} (h : Below (w.heap.size + 2) ((w.alloc (.cells #[x, y, z] T)).alloc (.cells #[x', y', z'] T')) wr) :
    wr.cell? ⟨w.heap.size, 0, none⟩ = some x ∧ wr.cell? ⟨w.heap.size, 1, none⟩ = some y ∧ wr.cell? ⟨w.heap.size, 2, none⟩ = some z ∧ wr.cell? ⟨w.heap.size + 1, 0, none⟩ = some x' ∧ wr.cell? ⟨w.heap.size + 1, 1, none⟩ = some y' ∧ wr.cell? ⟨w.heap.size + 1, 2, none⟩ = some z' := by
  refine ⟨?_, ?_, ?_, ?_, ?_, ?_⟩
  · rw [h.cell (by simp), World.cell?_alloc_lt _ _ _ (by simp), World.cell?_alloc_at _ _ _ _ (by simp)]; rfl
  · rw [h.cell (by simp), World.cell?_alloc_lt _ _ _ (by simp), World.cell?_alloc_at _ _ _ _ (by simp)]; rfl
  · rw [h.cell (by simp), World.cell?_alloc_lt _ _ _ (by simp), World.cell?_alloc_at _ _ _ _ (by simp)]; rfl
  · rw [h.cell (by simp), World.cell?_alloc_at _ _ _ _ (by simp)]; rfl
  · rw [h.cell (by simp), World.cell?_alloc_at _ _ _ _ (by simp)]; rfl
  · rw [h.cell (by simp), World.cell?_alloc_at _ _ _ _ (by simp)]; rfl

set_option maxRecDepth 100000 in
set_option maxHeartbeats 4000000 in
theorem l2Match_any (N : Nat) : ∀ (bs : List Bd) (A : Option Addr) (C : Nat) (s v : Int) (a : Option Addr) (c : Nat) (k : Fo) (s' v' : Int) (a' : Option Addr) (c' : Nat) (k' : Fo) (w : World), BSl w 0 w.heap.size A bs → Bof bs 100 → Sl w 0 w.heap.size a k → Sl w 0 w.heap.size a' k' → okN s v (flen k) = true → fok k = true → okN s' v' (flen k') = true → fok k' = true → fsz k' ≤ 100 → fsz k ≤ N → N ≤ 100 → bs.length + (1 + fsz k) ≤ 1000 →
    Calls Tryz.prog 39 #[.slice A bs.length C, .agg #[.int .i64 s, .int .i64 v, .slice a (flen k) c], .agg #[.int .i64 s', .int .i64 v', .slice a' (flen k') c']] w (LmPost bs s v k s' v' k' w) := by
  induction N using Nat.strongRecOn with
  | _ N ih =>
    intro bs A C s v a c k s' v' a' c' k' w hbs hbo hl hl' hok hfk hok' hfk' hz' hN hN2 hbl
    have hfl := flen_le_sz k
    have IH := Lib.hid ih
    have HFK := Lib.hid hfk
    have HFK' := Lib.hid hfk'
    have HOK := Lib.hid hok
    have HOK' := Lib.hid hok'
    have HBO := Lib.hid hbo
    have HBS0 := Lib.hid hbs
    have hb0 : Below w.heap.size w ((w.alloc (.cells #[.int .i64 s, .int .i64 v, .slice a (flen k) c] 25)).alloc (.cells #[.int .i64 s', .int .i64 v', .slice a' (flen k') c'] 25)) := ((Below.refl _ _).alloc (Nat.le_refl _) _).alloc (by simp) _
    have HB0 := Lib.hid hb0
    have HBS := Lib.hid (hbs.next hb0)
    have HSL := Lib.hid hl
    have HSL' := Lib.hid hl'
    have HBX : Hid (Below (w.heap.size + 2) ((w.alloc (.cells #[.int .i64 s, .int .i64 v, .slice a (flen k) c] 25)).alloc (.cells #[.int .i64 s', .int .i64 v', .slice a' (flen k') c'] 25)) ((w.alloc (.cells #[.int .i64 s, .int .i64 v, .slice a (flen k) c] 25)).alloc (.cells #[.int .i64 s', .int .i64 v', .slice a' (flen k') c'] 25))) := Below.refl _ _
    clear ih hfk hfk' hok hok' hbo hbs hb0 hl hl'
    by_cases hs0 : s = 0
    · subst hs0
      have hk0 := kids_none HOK.out
      subst hk0
      have hv := ((okN_iff _ _ _).1 HOK.out).2.1 rfl
      go_enter Tryz.func39, Tryz.ntmps39
      go_wp2_with fail
      go_loopw [8] (fun i wr => ∃ j : Nat, i = .int .i64 j ∧ j ≤ bs.length ∧ Hid (sv bs v = sv (bs.drop j) v) ∧ Hid (Below (w.heap.size + 2) ((w.alloc (.cells #[.int .i64 0, .int .i64 v, .slice a (flen .nil) c] 25)).alloc (.cells #[.int .i64 s', .int .i64 v', .slice a' (flen k') c'] 25)) wr)) (fun i _ => bs.length - (intOf i).toNat)
      case atStart => exact ⟨0, rfl, Nat.zero_le _, by simp [Hid], HBX⟩
      case round =>
        clear HBX
        obtain ⟨j, rfl, hj, HS, HBL⟩ := hrel
        have hsr := HBL.out.size
        simp at hsr
        obtain ⟨hx0, hx1, hx2, hy0, hy1, hy2⟩ := two_boxesM HBL.out
        have HBW := Lib.hid (HB0.out.trans (HBL.out.mono (show w.heap.size ≤ w.heap.size + 2 by omega)))
        by_cases hlt : j < bs.length
        · obtain ⟨y, hy⟩ : ∃ y, bs[j]? = some y := ⟨bs[j], List.getElem?_eq_getElem hlt⟩
          obtain ⟨yx, ys, yv, yk⟩ := y
          have hbr := HBS0.out.next HBW.out
          rcases hbr with hbr | ⟨rb, ro, rfl, _, hbB, hcells⟩
          · subst hbr; simp at hy
          obtain ⟨ya, yc, d0, d1, d2, d3, hsl⟩ := hcells j _ hy
          dsimp only at d0 d1 d2 d3 hsl
          have HYS := Lib.hid hsl
          have HD := Lib.hid (drop_bd hy)
          have g1 : (0 : Int) ≤ (j : Int) := by omega
          have g2 : (j : Int) < (bs.length : Int) := by omega
          clear hcells hy hsl
          have hu0 : ∀ u : After wr.heap.size wr, u.world.cell? ⟨rb, ro + j * 4, none⟩ = some (.int .i64 yx) := fun u => cell_low u.below d0
          have hu1 : ∀ u : After wr.heap.size wr, u.world.cell? ⟨w.heap.size, 1, none⟩ = some (.int .i64 v) := fun u => cell_low u.below hx1
          by_cases hx : yx = v
          · subst hx
            have hxe : (yx == yx) = true := by simp
            have HT : Hid (sv bs yx = some (ys, yv, yk)) := by rw [Hid, HS.out, HD.out]; simp only [sv]; rw [if_pos trivial]
            have hyb := (HBO.out yx _ HT.out).2.2
            dsimp only at hyb
            clear HS HD
            go_wp2_with fail
            refine wp_region_after wr.heap.size (by kernel_rfl) (by kernel_rfl) ?_
            repeat (go_big_quiet_step (fail))
            refine wpQuiet_nil ?_
            rintro wq ⟨⟨_, hu⟩, rfl⟩
            have HUQ := Lib.hid hu
            have e1 := cell_low hu d1
            have e2 := cell_low hu d2
            have e3 := cell_low hu d3
            have f0 := cell_low hu hy0
            have f1 := cell_low hu hy1
            have f2 := cell_low hu hy2
            have HYQ := Lib.hid (HYS.out.next hu)
            have HTQ := Lib.hid (HSL'.out.next (below_next HBW.out hu))
            have HBQ := Lib.hid (HBS0.out.next (below_next HBW.out hu))
            clear hu0 hu1 hu d0 d1 d2 d3 hx0 hx1 hx2 hy0 hy1 hy2
            have hu1 : ∀ u : After wq.heap.size wq, u.world.cell? ⟨rb, ro + j * 4 + 1, none⟩ = some (.int .i64 ys) := fun u => cell_low u.below e1
            have hu2 : ∀ u : After wq.heap.size wq, u.world.cell? ⟨rb, ro + j * 4 + 1 + 1, none⟩ = some (.int .i64 yv) := fun u => cell_low u.below e2
            have hu3 : ∀ u : After wq.heap.size wq, u.world.cell? ⟨rb, ro + j * 4 + 1 + 2, none⟩ = some (.slice ya (flen yk) yc) := fun u => cell_low u.below e3
            have hu4 : ∀ u : After wq.heap.size wq, u.world.cell? ⟨w.heap.size + 1, 0, none⟩ = some (.int .i64 s') := fun u => cell_low u.below f0
            have hu5 : ∀ u : After wq.heap.size wq, u.world.cell? ⟨w.heap.size + 1, 1, none⟩ = some (.int .i64 v') := fun u => cell_low u.below f1
            have hu6 : ∀ u : After wq.heap.size wq, u.world.cell? ⟨w.heap.size + 1, 2, none⟩ = some (.slice a' (flen k') c') := fun u => cell_low u.below f2
            have HCALL : Hid (∀ u : After wq.heap.size wq, Calls Tryz.prog 47 #[.agg #[.int .i64 ys, .int .i64 yv, .slice ya (flen yk) yc], .agg #[.int .i64 s', .int .i64 v', .slice a' (flen k') c']] u.world fun e w' => e = .returned (.bool (teq ys yv yk s' v' k')) ∧ Below u.world.heap.size u.world w') := fun u =>
              l1Same_any (fsz yk) ys yv ya yc yk s' v' a' c' k' u.world (HYQ.out.next u.below) (HTQ.out.next u.below) (Nat.le_refl _) (by omega)
            go_wp2_with fail
            refine wp_region_after wq.heap.size (by kernel_rfl) (by kernel_rfl) ?_
            repeat (go_big_quiet_step ((go_at_call 47; exact Calls.after (After.below ‹_›).size (HCALL.out _))))
            refine wpQuiet_nil ?_
            rintro u ⟨⟨_, hu⟩, rfl⟩
            have HU2 := Lib.hid hu
            clear hu hu1 hu2 hu3 hu4 hu5 hu6 e1 e2 e3 f0 f1 f2
            go_wp2_with fail
            have HP : Hid (LmPost bs 0 yx .nil s' v' k' w (.returned (.tuple #[.slice (some ⟨rb, ro, none⟩) bs.length C, .bool (teq ys yv yk s' v' k')])) u) := by
              refine ⟨_, C, bs, _, rfl, below_next (below_next HBW.out HUQ.out) HU2.out, HBQ.out.next HU2.out, ?_⟩
              rw [tmt_zero, mtV_found HT.out]
              dsimp only
              cases teq ys yv yk s' v' k' with
              | true => exact .inl ⟨rfl, rfl⟩
              | false => exact .inr ⟨rfl, rfl⟩
            refine bodyPost_ret (v := .tuple #[.slice (some ⟨rb, ro, none⟩) bs.length C, .bool (teq ys yv yk s' v' k')]) ?_ rfl HP.out
            simp [results, Tryz.results39, go_sem]
          · have hxe : (yx == v) = false := by simpa using hx
            have HN : Hid (sv bs v = sv (bs.drop (j + 1)) v) := by rw [Hid, HS.out, HD.out]; simp only [sv]; rw [if_neg hx]
            clear HS HD
            go_wp2_with fail
            refine wp_region_after wr.heap.size (by kernel_rfl) (by kernel_rfl) ?_
            repeat (go_big_quiet_step (fail))
            refine wpQuiet_nil ?_
            rintro wq ⟨⟨_, hu⟩, rfl⟩
            have HBL2 := Lib.hid (HBL.out.trans (hu.mono hsr))
            clear hu hu0 hu1 d0 d1 d2 d3 hx0 hx1 hx2 hy0 hy1 hy2
            go_wp2_with fail
            go_roundw
            case rel => exact ⟨j + 1, by go_num, by omega, HN, HBL2⟩
            case measure => simp [intOf]; omega
        · have HT : Hid (sv bs v = none) := by rw [Hid, HS.out, List.drop_eq_nil_of_le (by omega)]; rfl
          have hu1 : ∀ u : After wr.heap.size wr, u.world.cell? ⟨w.heap.size, 1, none⟩ = some (.int .i64 v) := fun u => cell_low u.below hx1
          have hu4 : ∀ u : After wr.heap.size wr, u.world.cell? ⟨w.heap.size + 1, 0, none⟩ = some (.int .i64 s') := fun u => cell_low u.below hy0
          have hu5 : ∀ u : After wr.heap.size wr, u.world.cell? ⟨w.heap.size + 1, 1, none⟩ = some (.int .i64 v') := fun u => cell_low u.below hy1
          have hu6 : ∀ u : After wr.heap.size wr, u.world.cell? ⟨w.heap.size + 1, 2, none⟩ = some (.slice a' (flen k') c') := fun u => cell_low u.below hy2
          clear HS hx0 hx1 hx2 hy0 hy1 hy2
          go_wp2_with fail
          refine wp_region_mix (fun w' => ∃ u : After wr.heap.size wr, w' = u.world) [] [(0, 0), (1, 0), (2, 0), (3, 0), (4, 1), (5, 1), (6, 1), (7, 1), (8, 1)] (by kernel_rfl) (by kernel_rfl) ⟨⟨_, (Below.refl _ _).drew⟩, rfl⟩ ?_
          have HBD : Hid (Below wr.heap.size wr wr.drew) := (Below.refl _ _).drew
          generalize wr.drew = wd at *
          iterate 4
            refine mix_see rfl (fun K hK => ?_)
            go_simp
            refine hK _ ?_
            clear hK K
          clear hu1 hu4 hu5 hu6
          refine mix_hold rfl (fun K hK => ?_)
          go_simp
          with_reducible refine (l1Copy_any (fsz k') s' v' a' c' k' _ (HSL'.out.next (below_next HBW.out HBD.out)) (Nat.le_refl _) (by omega)).mono ?_
          rintro e w2 ⟨a2, c2, rfl, hb2, ho2⟩
          have HB2 := Lib.hid (below_next HBD.out hb2)
          have HL2 : Hid (Sl w2 0 w2.heap.size a2 k') := ho2.sl.mono (Nat.zero_le _) (Nat.le_refl _)
          refine hK _ _ ⟨⟨_, HB2.out⟩, rfl⟩ ?_
          clear hK K hb2 ho2
          refine mix_hold rfl (fun K hK => ?_)
          go_simp
          refine hK _ _ ⟨⟨_, HB2.out⟩, rfl⟩ ?_
          clear hK K
          refine mix_hold rfl (fun K hK => ?_)
          go_simp
          with_reducible refine (l2Add_any bs A C v s' v' a2 c2 k' _ (HBS0.out.next (below_next HBW.out HB2.out)) (by omega) HL2.out).mono ?_
          rintro e w3 ⟨A3, C3, rfl, hrow⟩
          have HB3 := Lib.hid (below_next HB2.out hrow.low)
          have HR3 := Lib.hid hrow.bsl
          refine hK _ _ ⟨⟨_, HB3.out⟩, rfl⟩ ?_
          clear hK K hrow
          iterate 2
            refine mix_hold rfl (fun K hK => ?_)
            go_simp
            refine hK _ _ ⟨⟨_, HB3.out⟩, rfl⟩ ?_
            clear hK K
          refine mix_end ?_
          go_wp2_with fail
          have HP : Hid (LmPost bs 0 v .nil s' v' k' w (.returned (.tuple #[.slice A3 (ladd bs (v, s', v', k')).length C3, .bool true])) w3) :=
            ⟨_, C3, _, _, rfl, below_next HBW.out HB3.out, HR3.out, .inl ⟨rfl, by rw [tmt_zero, mtV_none HT.out]⟩⟩
          refine bodyPost_ret (v := .tuple #[.slice A3 (ladd bs (v, s', v', k')).length C3, .bool true]) ?_ rfl HP.out
          simp [results, Tryz.results39, go_sem]
    · have hse : (s == 0) = false := by simpa using hs0
      by_cases hss : s = s'
      case neg =>
        have hne : (s != s') = true := by simp [hss]
        have HP : Hid (LmPost bs s v k s' v' k' w (.returned (.tuple #[.slice A bs.length C, .bool false])) ((w.alloc (.cells #[.int .i64 s, .int .i64 v, .slice a (flen k) c] 25)).alloc (.cells #[.int .i64 s', .int .i64 v', .slice a' (flen k') c'] 25))) :=
          ⟨A, C, bs, false, rfl, HB0.out, HBS.out, .inr ⟨rfl, tmt_other hs0 hss⟩⟩
        clear HBX
        go_enter Tryz.func39, Tryz.ntmps39
        go_wp2_with fail
        refine bodyPost_ret (v := .tuple #[.slice A bs.length C, .bool false]) ?_ rfl HP.out
        simp [results, Tryz.results39, go_sem]
      subst hss
      have hne : (s != s) = false := by simp
      have HFL := Lib.hid (flen_same HOK.out HOK'.out)
      have HTS := Lib.hid (tmt_sym (bs := bs) (v := v) (v' := v') (k := k) (k' := k') hs0)
      go_enter Tryz.func39, Tryz.ntmps39
      go_wp2_with fail
      go_loopw [0, 9] (fun o i wr => ∃ (j : Nat) (b1 : List Bd) (A1 : Option Addr) (C1 : Nat), o = .slice A1 b1.length C1 ∧ i = .int .i64 j ∧ j ≤ flen k ∧ Hid (fmt bs k k' = fmt b1 (fdrop j k) (fdrop j k')) ∧ Hid (Bof b1 100) ∧ Hid (b1.length + fsz (fdrop j k) ≤ bs.length + fsz k) ∧ Hid (BSl wr 0 wr.heap.size A1 b1) ∧ Hid (Below (w.heap.size + 2) ((w.alloc (.cells #[.int .i64 s, .int .i64 v, .slice a (flen k) c] 25)).alloc (.cells #[.int .i64 s, .int .i64 v', .slice a' (flen k') c'] 25)) wr)) (fun _ i _ => flen k - (intOf i).toNat)
      case atStart => exact ⟨0, bs, A, C, rfl, rfl, Nat.zero_le _, rfl, HBO, Nat.le_refl _, HBS, HBX⟩
      case round =>
        clear HBX HBS HBO
        obtain ⟨j, b1, A1, C1, rfl, rfl, hj, HF, HBO, HLN, HBS, HBL⟩ := hrel
        have hsr := HBL.out.size
        simp at hsr
        obtain ⟨hx0, hx1, hx2, hy0, hy1, hy2⟩ := two_boxesM HBL.out
        have HBW := Lib.hid (HB0.out.trans (HBL.out.mono (show w.heap.size ≤ w.heap.size + 2 by omega)))
        by_cases hlt : j < flen k
        · have hlt' : j < flen k' := by rw [← HFL.out]; exact hlt
          have hnr := HSL.out.next HBW.out
          rcases hnr with rfl | ⟨b, o, rfl, hrow⟩
          · simp [flen] at hlt
          have hnr' := HSL'.out.next HBW.out
          rcases hnr' with rfl | ⟨b', o', rfl, hrow'⟩
          · simp [flen] at hlt'
          obtain ⟨s1, v1, k1, a1, c1, ⟨x, y, hd⟩, _, hbB, q0, q1, q2, hsl⟩ := row_at hrow hlt
          obtain ⟨s2, v2, k2, a2, c2, ⟨x2, y2, hd'⟩, _, hbB', q3, q4, q5, hsl2⟩ := row_at hrow' hlt'
          have hk1 := fok_kid HFK.out hd
          have hk2 := fok_kid HFK'.out hd'
          have z1 := fsz_kid hd
          have z2 := fsz_kid hd'
          have HST := Lib.hid (fmt_step (bs := b1) hd hd')
          have hzd := fsz_dropN hd
          have hl1 := HLN.out
          have HZ : Hid (b1.length + (1 + fsz k1) + fsz (fdrop (j + 1) k) ≤ bs.length + fsz k) := by show _ ≤ _; omega
          have HCALL : Hid (∀ u : After wr.heap.size wr, Calls Tryz.prog 39 #[.slice A1 b1.length C1, .agg #[.int .i64 s1, .int .i64 v1, .slice a1 (flen k1) c1], .agg #[.int .i64 s2, .int .i64 v2, .slice a2 (flen k2) c2]] u.world (LmPost b1 s1 v1 k1 s2 v2 k2 u.world)) := fun u =>
            IH.out (fsz k1) (by omega) b1 A1 C1 s1 v1 a1 c1 k1 s2 v2 a2 c2 k2 u.world (HBS.out.next u.below) HBO.out (hsl.next u.below) (hsl2.next u.below) hk1.1 hk1.2 hk2.1 hk2.2 (by omega) (Nat.le_refl _) (by omega) (by omega)
          have HOF : Hid (∀ b2, tmt b1 s1 v1 k1 s2 v2 k2 = some b2 → Bof b2 100) := fun b2 h => tmt_of h HBO.out hk2.1 hk2.2 (by omega)
          have g1 : (0 : Int) ≤ (j : Int) := by omega
          have g2 : (j : Int) < (flen k : Int) := by omega
          have g3 : (j : Int) < (flen k' : Int) := by omega
          clear hd hd' hk1 hk2 hrow hrow' hzd hl1 hsl hsl2
          have hu0 : ∀ u : After wr.heap.size wr, u.world.cell? ⟨b, o + j * 3, none⟩ = some (.int .i64 s1) := fun u => cell_low u.below q0
          have hu1 : ∀ u : After wr.heap.size wr, u.world.cell? ⟨b, o + j * 3 + 1, none⟩ = some (.int .i64 v1) := fun u => cell_low u.below q1
          have hu2 : ∀ u : After wr.heap.size wr, u.world.cell? ⟨b, o + j * 3 + 2, none⟩ = some (.slice a1 (flen k1) c1) := fun u => cell_low u.below q2
          have hu3 : ∀ u : After wr.heap.size wr, u.world.cell? ⟨b', o' + j * 3, none⟩ = some (.int .i64 s2) := fun u => cell_low u.below q3
          have hu4 : ∀ u : After wr.heap.size wr, u.world.cell? ⟨b', o' + j * 3 + 1, none⟩ = some (.int .i64 v2) := fun u => cell_low u.below q4
          have hu5 : ∀ u : After wr.heap.size wr, u.world.cell? ⟨b', o' + j * 3 + 2, none⟩ = some (.slice a2 (flen k2) c2) := fun u => cell_low u.below q5
          have hu6 : ∀ u : After wr.heap.size wr, u.world.cell? ⟨w.heap.size, 2, none⟩ = some (.slice (some ⟨b, o, none⟩) (flen k) c) := fun u => cell_low u.below hx2
          have hu7 : ∀ u : After wr.heap.size wr, u.world.cell? ⟨w.heap.size + 1, 2, none⟩ = some (.slice (some ⟨b', o', none⟩) (flen k') c') := fun u => cell_low u.below hy2
          go_wp2_with fail
          refine wp_region_mix (fun w' => ∃ u : After wr.heap.size wr, w' = u.world) [] [(0, 0), (1, 0), (2, 0), (3, 0), (4, 0), (5, 0), (6, 0), (7, 0), (8, 0), (9, 0), (10, 0), (11, 1), (12, 0), (13, 0), (14, 0), (15, 1), (16, 1)] (by kernel_rfl) (by kernel_rfl) ⟨⟨_, (Below.refl _ _).drew⟩, rfl⟩ ?_
          have HBD : Hid (Below wr.heap.size wr wr.drew) := (Below.refl _ _).drew
          generalize wr.drew = wd at *
          iterate 11
            refine mix_see rfl (fun K hK => ?_)
            go_simp
            refine hK _ ?_
            clear hK K
          clear hu0 hu1 hu2 hu3 hu4 hu5 hu6 hu7 q0 q1 q2 q3 q4 q5 hx0 hx1 hx2 hy0 hy1 hy2
          refine mix_hold rfl (fun K hK => ?_)
          go_simp
          with_reducible refine (HCALL.out ⟨wd, HBD.out⟩).mono ?_
          rintro e w2 ⟨A2, C2, b2, t2, rfl, hb2, hs2, hcase⟩
          have HB2 := Lib.hid (below_next HBD.out hb2)
          have HS2 := Lib.hid hs2
          refine hK _ _ ⟨⟨_, HB2.out⟩, rfl⟩ ?_
          clear hK K hb2 hs2 HCALL
          iterate 3
            refine mix_see rfl (fun K hK => ?_)
            go_simp
            refine hK _ ?_
            clear hK K
          iterate 2
            refine mix_hold rfl (fun K hK => ?_)
            go_simp
            refine hK _ _ ⟨⟨_, HB2.out⟩, rfl⟩ ?_
            clear hK K
          refine mix_end ?_
          rcases hcase with ⟨rfl, ht⟩ | ⟨rfl, ht⟩
          · have HF2 : Hid (fmt bs k k' = fmt b2 (fdrop (j + 1) k) (fdrop (j + 1) k')) := by rw [Hid, HF.out, HST.out, ht]; rfl
            have HB5 := Lib.hid (HOF.out b2 ht)
            have HL5 : Hid (b2.length + fsz (fdrop (j + 1) k) ≤ bs.length + fsz k) := by have h1 := tmt_blen ht; have h2 := HZ.out; show _ ≤ _; omega
            have HBL2 := Lib.hid (HBL.out.trans (HB2.out.mono hsr))
            clear ht
            go_wp2_with fail
            go_roundw
            case rel => exact ⟨j + 1, b2, A2, C2, rfl, by go_num, by omega, HF2, HB5, HL5, HS2, HBL2⟩
            case measure => simp [intOf]; omega
          · have HP : Hid (LmPost bs s v k s v' k' w (.returned (.tuple #[.slice A1 b1.length C1, .bool false])) w2) :=
              ⟨A1, C1, b1, false, rfl, below_next HBW.out HB2.out, HBS.out.next HB2.out, .inr ⟨rfl, by rw [HTS.out, HF.out, HST.out, ht]; rfl⟩⟩
            clear ht
            go_wp2_with fail
            refine bodyPost_ret (v := .tuple #[.slice A1 b1.length C1, .bool false]) ?_ rfl HP.out
            simp [results, Tryz.results39, go_sem]
        · have HP : Hid (LmPost bs s v k s v' k' w (.returned (.tuple #[.slice A1 b1.length C1, .bool true])) wr) :=
            ⟨A1, C1, b1, true, rfl, HBW.out, HBS.out, .inl ⟨rfl, by rw [HTS.out, HF.out, fdrop_all (by omega), fdrop_all (k := k') (by have := HFL.out; omega)]; rfl⟩⟩
          go_wp2_with fail
          refine bodyPost_ret (v := .tuple #[.slice A1 b1.length C1, .bool true]) ?_ rfl HP.out
          simp [results, Tryz.results39, go_sem]
end Go.Proofs.YtpfkhgiiojikbaaGreat

/-! UI: UnifyOf of the program. -/
namespace Go.Proofs.YtpfkhgiiojikbaaGreat
open Go.RowKit Go.Deep Go.Maps

def UoPost (lim : Nat) (a b : T3) (w : World) (e : Ending) (w' : World) : Prop :=
  Below w.heap.size w w' ∧ ((∃ g bs, uniR lim a b = some bs ∧ e = .returned (.tuple #[.map (some g), .bool true]) ∧ MapIs w' g bs ∧ w.heap.size ≤ g) ∨ (uniR lim a b = none ∧ e = .returned (.tuple #[.map none, .bool false])))
set_option maxRecDepth 100000 in
set_option maxHeartbeats 2000000 in
theorem unifierOf_any (lim : Nat) (hlim : lim ≤ 64) (s v : Int) (k : Fo) (nv : Value) (s' v' : Int) (k' : Fo) (nv' : Value) (w : World) (hn : NodeIs w 0 w.heap.size nv s v k) (hn' : NodeIs w 0 w.heap.size nv' s' v' k') (h1 : okT (s, v, k)) (h2 : okT (s', v', k')) (hz : sz (s, v, k) ≤ 16) (hz' : sz (s', v', k') ≤ 16) :
    Calls Tryz.prog 28 #[nv, nv', .int .i64 (lim : Int)] w (UoPost lim (s, v, k) (s', v', k') w) := by
  have hbm : Below w.heap.size w (w.alloc (.map #[] 0)) := (Below.refl _ _).alloc (Nat.le_refl _) _
  have HN1 : Hid (NodeIs (w.alloc (.map #[] 0)) 0 (w.alloc (.map #[] 0)).heap.size nv s v k) := (hn.below hbm).mono (Nat.le_refl _) hbm.size
  have HN2 : Hid (NodeIs (w.alloc (.map #[] 0)) 0 (w.alloc (.map #[] 0)).heap.size nv' s' v' k') := (hn'.below hbm).mono (Nat.le_refl _) hbm.size
  have hmm := @run_makeMap Tryz.prog
  have HC := Lib.hid (unify_any (base := w.heap.size) (b := w.heap.size) (Nat.le_refl _) hlim 600 (Nat.le_refl _) (MapIs.start w) (Wb.nil lim) (by simp) HN1.out HN2.out h1 h2 (Un.start hlim h1 hz) (Un.start hlim h2 hz'))
  have HWB : Hid (∀ bs, unT lim 600 [] (s, v, k) (s', v', k') = some bs → Wb lim bs) := fun bs h => (unT_wb _ _ _ _ _ (Wb.nil lim) h1 h2 h).1
  have HO := Lib.hid h1.1
  have HO2 := Lib.hid h1.2
  have HOT := Lib.hid (show okN s v (flen k) = true ∧ fok k = true from h1)
  dsimp only at HO HO2
  simp only [sz] at hz hz'
  have HUR : Hid (∀ bs, unT lim 600 [] (s, v, k) (s', v', k') = some bs → sz (ap (sv bs) (s, v, k)) ≤ lim → uniR lim (s, v, k) (s', v', k') = some bs) := fun bs h1 h2 => uniR_some.2 ⟨h1, h2⟩
  have HUN : Hid ((∀ bs, unT lim 600 [] (s, v, k) (s', v', k') = some bs → ¬ sz (ap (sv bs) (s, v, k)) ≤ lim) → uniR lim (s, v, k) (s', v', k') = none) := uniR_none.2
  have HBM := Lib.hid hbm
  clear hn hn' hbm h1 h2
  go_enter Tryz.func28, Tryz.ntmps28
  go_wp2_with fail
  with_reducible refine HC.out.mono ?_
  rintro e w1 ⟨hk1, hcase⟩
  have HK1 := Lib.hid hk1
  have HW1 : Hid (Below w.heap.size w w1) := HBM.out.trans hk1.low
  have hs1 := hk1.low.size
  simp at hs1
  clear hk1 HC
  rcases hcase with ⟨bs, hu, rfl, hm⟩ | ⟨hu, rfl⟩
  · have HU := Lib.hid hu
    have HM := Lib.hid hm
    have hwb := HWB.out bs hu
    have HN1b : Hid (NodeIs w1 0 w1.heap.size nv s v k) := (HN1.out.keep HK1.out.cell).mono (Nat.le_refl _) (by simp; omega)
    have HCA := Lib.hid (apply_any bs w.heap.size s v k nv w1 HN1b.out HM.out HO.out HO2.out (by omega))
    have HRS := Lib.hid (HUR.out bs hu)
    have HRN : Hid (¬ sz (ap (sv bs) (s, v, k)) ≤ lim → uniR lim (s, v, k) (s', v', k') = none) := fun h => HUN.out fun b2 hb2 => by rw [hu] at hb2; obtain rfl := Option.some.inj hb2; exact h
    have hzz := ap_szB (fun x u hu => Nat.le_trans (hwb.small x u hu) hlim) (a := (s, v, k)) HOT.out
    have hEA : tsub (sv bs) s v k = ap (sv bs) (s, v, k) := rfl
    have HEA := Lib.hid hEA
    clear hEA hu hm HUR HUN HWB hwb HN1 HN2
    generalize ap (sv bs) (s, v, k) = q at *
    go_wp2_with fail
    with_reducible refine HCA.out.mono ?_
    rw [HEA.out]
    rintro e w2 ⟨n2, rfl, hb2, hn2⟩
    have HN2 := Lib.hid hn2
    have HW2 := Lib.hid (HW1.out.trans (hb2.mono (by omega)))
    have HM2 := Lib.hid (HM.out.below hb2)
    have hqz : fsz q.2.2 ≤ 100000 := by simp only [sz] at hzz; omega
    clear hb2 hn2 HCA HM HN1b
    by_cases hbig : sz q ≤ lim
    · have eb : decide ((lim : Int) < 1 + ((fsz q.2.2 : Nat) : Int)) = false := decide_eq_false (by simp only [sz] at hbig; omega)
      have HR := Lib.hid (HRS.out hbig)
      clear hbig HRS HRN hzz
      go_wp2_with (refine wpList_size _ rfl _ rfl n2 q.1 q.2.1 q.2.2 rfl HN2.out hqz ?_; intro w3 hb3; have HB3 := Lib.hid hb3; clear hb3)
      refine bodyPost_ret (v := .tuple #[.map (some w.heap.size), .bool true]) ?_ rfl ⟨HW2.out.trans (HB3.out.mono HW2.out.size), .inl ⟨_, bs, HR.out, rfl, HM2.out.below HB3.out, Nat.le_refl _⟩⟩
      simp [results, Tryz.results28, go_sem]
    · have eb : decide ((lim : Int) < 1 + ((fsz q.2.2 : Nat) : Int)) = true := decide_eq_true (by simp only [sz] at hbig; omega)
      have HR := Lib.hid (HRN.out hbig)
      clear hbig HRS HRN hzz
      go_wp2_with (refine wpList_size _ rfl _ rfl n2 q.1 q.2.1 q.2.2 rfl HN2.out hqz ?_; intro w3 hb3; have HB3 := Lib.hid hb3; clear hb3)
      refine bodyPost_ret (v := .tuple #[.map none, .bool false]) ?_ rfl ⟨HW2.out.trans (HB3.out.mono HW2.out.size), .inr ⟨HR.out, rfl⟩⟩
      simp [results, Tryz.results28, go_sem]
  · have HR := Lib.hid (HUN.out fun bs h => by rw [hu] at h; cases h)
    clear hu
    go_wp2_with fail
    refine bodyPost_ret (v := .tuple #[.map none, .bool false]) ?_ rfl ⟨HW1.out, .inr ⟨HR.out, rfl⟩⟩
    simp [results, Tryz.results28, go_sem]

def UfPost (s v : Int) (k : Fo) (s' v' : Int) (k' : Fo) (w : World) (e : Ending) (w' : World) : Prop :=
  ∃ A C bs t, unR s v k s' v' k' = (bs, t) ∧ e = .returned (.tuple #[.slice A (List.length bs) C, .bool t]) ∧ Below w.heap.size w w' ∧ BSl w' 0 w'.heap.size A bs
theorem uf_none {s v : Int} {k : Fo} {s' v' : Int} {k' : Fo} {w w' : World} {A : Option Addr} {C : Nat} (h : unR s v k s' v' k' = ([], false)) (hb : Below w.heap.size w w') : UfPost s v k s' v' k' w (.returned (.tuple #[.slice A 0 C, .bool false])) w' :=
  ⟨A, C, [], false, h, rfl, hb, .inl rfl⟩
theorem Wb.fits {bs : List Bd} (h : Wb 16 bs) : fits 16 bs = true := by
  unfold Proofs.YtpfkhgiiojikbaaGreat.fits
  rw [List.all_eq_true]
  intro x hx
  have := h.small _ _ (sv_mem h.asc hx)
  simp only [sz] at this
  simp only [decide_eq_true_eq]
  omega

set_option maxRecDepth 100000 in
set_option maxHeartbeats 2000000 in
theorem iUnifyOf_any (s v : Int) (a : Option Addr) (c : Nat) (k : Fo) (s' v' : Int) (a' : Option Addr) (c' : Nat) (k' : Fo) (w : World) (hl : Sl w 0 w.heap.size a k) (hl' : Sl w 0 w.heap.size a' k') :
    Calls Tryz.prog 7 #[.agg #[.int .i64 s, .int .i64 v, .slice a (flen k) c], .agg #[.int .i64 s', .int .i64 v', .slice a' (flen k') c']] w (UfPost s v k s' v' k' w) := by
  have hb0 : Below w.heap.size w ((w.alloc (.cells #[.int .i64 s, .int .i64 v, .slice a (flen k) c] 25)).alloc (.cells #[.int .i64 s', .int .i64 v', .slice a' (flen k') c'] 25)) := ((Below.refl _ _).alloc (Nat.le_refl _) _).alloc (by simp) _
  have HL0 := Lib.hid (hl.next hb0)
  have HL0' := Lib.hid (hl'.next hb0)
  have HW0 := Lib.hid hb0
  have HB0 : Hid (Below (w.heap.size + 2) ((w.alloc (.cells #[.int .i64 s, .int .i64 v, .slice a (flen k) c] 25)).alloc (.cells #[.int .i64 s', .int .i64 v', .slice a' (flen k') c'] 25)) ((w.alloc (.cells #[.int .i64 s, .int .i64 v, .slice a (flen k) c] 25)).alloc (.cells #[.int .i64 s', .int .i64 v', .slice a' (flen k') c'] 25))) := Below.refl _ _
  have hsz : w.heap.size + 2 ≤ ((w.alloc (.cells #[.int .i64 s, .int .i64 v, .slice a (flen k) c] 25)).alloc (.cells #[.int .i64 s', .int .i64 v', .slice a' (flen k') c'] 25)).heap.size := by simp
  clear hb0 hl hl'
  go_enter Tryz.func7, Tryz.ntmps7
  go_wp2_with fail
  with_reducible refine (nodeOf_any s v a c k 16 _ HL0.out (by omega) (by omega)).mono ?_
  rintro e w1 ⟨nv, rfl, hb1, hyes1⟩
  have hb1' := HB0.out.trans (hb1.mono hsz)
  obtain ⟨_, _, _, hr3, hr4, hr5⟩ := two_boxesM hb1'
  have HW1 := Lib.hid (below_next HW0.out hb1)
  have HL1' := Lib.hid (HL0'.out.next hb1)
  have HY1 := Lib.hid hyes1
  clear hb1 hb1' hyes1 HB0 hsz HL0 HL0' HW0
  go_wp2_with fail
  with_reducible refine (nodeOf_any s' v' a' c' k' 16 _ HL1'.out (by omega) (by omega)).mono ?_
  rintro e w2 ⟨nv', rfl, hb2, hyes2⟩
  have HW2 := Lib.hid (below_next HW1.out hb2)
  have HB2 := Lib.hid hb2
  have HY2 := Lib.hid hyes2
  clear hb2 hyes2 hr3 hr4 hr5
  by_cases hok : okW s v k 16 = true
  case neg =>
    have hf : okW s v k 16 = false := by simpa using hok
    have HP : Hid (UfPost s v k s' v' k' w (.returned (.tuple #[.slice none 0 0, .bool false])) w2) := uf_none (unR_bad fun h => hok h.1) HW2.out
    rw [hf]
    clear hok hf
    generalize okW s' v' k' 16 = okk
    cases okk with
    | true =>
      go_wp2_with fail
      refine bodyPost_ret (v := .tuple #[.slice none 0 0, .bool false]) ?_ rfl HP.out
      simp [results, Tryz.results7, go_sem]
    | false =>
      go_wp2_with fail
      refine bodyPost_ret (v := .tuple #[.slice none 0 0, .bool false]) ?_ rfl HP.out
      simp [results, Tryz.results7, go_sem]
  by_cases hok' : okW s' v' k' 16 = true
  case neg =>
    have hf : okW s' v' k' 16 = false := by simpa using hok'
    have HP : Hid (UfPost s v k s' v' k' w (.returned (.tuple #[.slice none 0 0, .bool false])) w2) := uf_none (unR_bad fun h => hok' h.2) HW2.out
    rw [hf, hok]
    clear hok hf hok'
    go_wp2_with fail
    refine bodyPost_ret (v := .tuple #[.slice none 0 0, .bool false]) ?_ rfl HP.out
    simp [results, Tryz.results7, go_sem]
  have HN1 : Hid (NodeIs w2 0 w2.heap.size nv s v k) := by
    have h1 := (HY1.out hok).mono (lo' := 0) (Nat.zero_le _) (Nat.le_refl _)
    exact (h1.below HB2.out).mono (lo' := 0) (Nat.le_refl _) HB2.out.size
  have HN2 : Hid (NodeIs w2 0 w2.heap.size nv' s' v' k') := (HY2.out hok').mono (lo' := 0) (Nat.zero_le _) (Nat.le_refl _)
  have HOK := Lib.hid hok
  have HOK' := Lib.hid hok'
  have HCM : Hid (Calls Tryz.prog 28 #[nv, nv', .int .i64 16] w2 (UoPost 16 (s, v, k) (s', v', k') w2)) := unifierOf_any 16 (by omega) s v k nv s' v' k' nv' w2 HN1.out HN2.out (okT_w hok) (okT_w hok') (sz_w hok) (sz_w hok')
  rw [hok, hok']
  clear hok hok' HY1 HY2
  go_wp2_with fail
  with_reducible refine HCM.out.mono ?_
  rintro e w3 ⟨hb3, hcase⟩
  have HW3 := Lib.hid (below_next HW2.out hb3)
  clear hb3 HN1 HN2 HCM
  rcases hcase with ⟨g, bs, hu, rfl, hm3, _⟩ | ⟨hu, rfl⟩
  · have HR := Lib.hid (unR_some HOK.out HOK'.out hu)
    have hwb := uniR_wb (okT_w HOK.out) (okT_w HOK'.out) hu
    have HFIT := Lib.hid hwb.fits
    have HC := Lib.hid (binds_any bs g 16 w3 hm3 hwb.asc (fun x hx => by
      obtain ⟨t, ht⟩ := Option.isSome_iff_exists.1 hx
      exact hwb.rng x t ht) (fun x t ht => by have := hwb.bof x t ht; exact ⟨this.1, this.2.1, by omega⟩))
    clear hu hm3 hwb
    go_wp2_with fail
    with_reducible refine HC.out.mono ?_
    rintro e w4 ⟨hb4, hc4⟩
    rcases hc4 with ⟨_, A, C, rfl, ho⟩ | ⟨hno, _⟩
    · have HP : Hid (UfPost s v k s' v' k' w (.returned (.tuple #[.slice A bs.length C, .bool true])) w4) := ⟨A, C, bs, true, HR.out, rfl, below_next HW3.out hb4, ho.bsl.mono (Nat.zero_le _) (Nat.le_refl _)⟩
      clear hb4 ho
      go_wp2_with fail
      refine bodyPost_ret (v := .tuple #[.slice A bs.length C, .bool true]) ?_ rfl HP.out
      simp [results, Tryz.results7, go_sem]
    · rw [HFIT.out] at hno; cases hno
  · have HP : Hid (UfPost s v k s' v' k' w (.returned (.tuple #[.slice none 0 0, .bool false])) w3) := uf_none (unR_none hu) HW3.out
    clear hu
    go_wp2_with fail
    refine bodyPost_ret (v := .tuple #[.slice none 0 0, .bool false]) ?_ rfl HP.out
    simp [results, Tryz.results7, go_sem]
end Go.Proofs.YtpfkhgiiojikbaaGreat

/-! SP3: The specification's l2Put: what variables stand for put in. -/
namespace Go.Proofs.YtpfkhgiiojikbaaGreat
open Go.RowKit Go.Deep
attribute [local go_sem ↓] Go.wp_at_zero Go.wp_at_succ

theorem cpS_start (σ : Int → Option (Int × Int × Fo)) (w : World) (s : Int) (a : Option Addr) (c : Nat) (k : Fo) : CpAt w s 0 a c (fsub σ k) 0 none 0 (((w.alloc (.cells #[.int .i64 s, .int .i64 0, .slice a (flen k) c] 25)).alloc (.cells #[.int .i64 0, .int .i64 0, .slice none 0 0] 25)).alloc (.cells #[.int .i64 s, .int .i64 0, .slice none 0 0] 25)) := by
  have h := CpAt.start w s 0 a c (fsub σ k)
  rw [fsub_len] at h
  exact h

theorem put_end0 {w w1 w2 : World} {s' v' : Int} {k' : Fo} {a : Option Addr} {c : Nat} {Y Z : Obj} (hb1 : Below ((w.alloc Y).alloc Z).heap.size ((w.alloc Y).alloc Z) w1) (hb : Below w1.heap.size w1 w2) (ho : Own w2 w1.heap.size k' (flen k') a c) (p q r : Value) :
    CopyPost s' v' k' w (.returned (.agg #[.int .i64 s', .int .i64 v', .slice a (flen k') c])) (((w2.setCell ⟨w.heap.size + 1, 0, none⟩ p).setCell ⟨w.heap.size + 1, 1, none⟩ q).setCell ⟨w.heap.size + 1, 2, none⟩ r) := by
  have h1 := hb1.size
  simp at h1
  have h2 := hb.size
  have hb2 : Below w.heap.size w w2 := ((((Below.refl _ _).alloc (Nat.le_refl _) Y).alloc (by simp) Z).trans (hb1.mono (by simp; omega))).trans (hb.mono (by omega))
  refine ⟨a, c, rfl, ((hb2.setCell (by simp) _).setCell (by simp) _).setCell (by simp) _, ?_⟩
  exact (((ho.store (by simp; omega) p).store (by simp; omega) q).store (by simp; omega) r).low (Below.refl _ _) (by omega)

set_option maxRecDepth 100000 in
set_option maxHeartbeats 1000000 in
theorem l2Put_any (bs : List Bd) (A0 : Option Addr) (C0 : Nat) (hbl : bs.length ≤ 9223372036854775807) (hbz : ∀ x t, sv bs x = some t → fsz t.2.2 ≤ 1000000) (N : Nat) : ∀ (s v : Int) (a : Option Addr) (c : Nat) (k : Fo) (w : World), BSl w 0 w.heap.size A0 bs → Sl w 0 w.heap.size a k → okN s v (flen k) = true → fok k = true → fsz k ≤ N → N ≤ 1000 →
    Calls Tryz.prog 26 #[.slice A0 bs.length C0, .agg #[.int .i64 s, .int .i64 v, .slice a (flen k) c]] w (CopyPost (tsub (sv bs) s v k).1 (tsub (sv bs) s v k).2.1 (tsub (sv bs) s v k).2.2 w) := by
  induction N using Nat.strongRecOn with
  | _ N ih =>
    intro s v a c k w hbs hl hok hfk hN hN2
    have hfl := flen_le_sz k
    have IH := Lib.hid ih
    have HFK := Lib.hid hfk
    have HBS := Lib.hid hbs
    have HBZ := Lib.hid hbz
    clear ih hfk hbs hbz
    by_cases hs0 : s = 0
    · subst hs0
      have hk0 : k = .nil := by
        have h1 := ((okN_iff _ _ _).1 hok).1
        cases k with
        | nil => rfl
        | node _ _ _ _ r => simp [flen, ar] at h1; omega
      subst hk0
      have hb0 : Below w.heap.size w ((w.alloc (.cells #[.int .i64 0, .int .i64 v, .slice a (flen .nil) c] 25)).alloc (.cells #[.int .i64 0, .int .i64 0, .slice none 0 0] 25)) := ((Below.refl _ _).alloc (Nat.le_refl _) _).alloc (by simp) _
      have HB1 : Hid (BSl ((w.alloc (.cells #[.int .i64 0, .int .i64 v, .slice a (flen .nil) c] 25)).alloc (.cells #[.int .i64 0, .int .i64 0, .slice none 0 0] 25)) 0 ((w.alloc (.cells #[.int .i64 0, .int .i64 v, .slice a (flen .nil) c] 25)).alloc (.cells #[.int .i64 0, .int .i64 0, .slice none 0 0] 25)).heap.size A0 bs) := (HBS.out.below hb0).mono (Nat.le_refl _) hb0.size
      have HZ : Hid (fsz (tsub (sv bs) 0 v .nil).2.2 ≤ 1000000) := by
        rw [Hid, tsub, if_pos rfl]
        cases h : sv bs v with
        | none => simp [fsz]
        | some t => exact HBZ.out v t h
      clear hb0 hok hl
      go_enter Tryz.func26, Tryz.ntmps26
      go_wp2_with fail
      with_reducible refine (l2Of_any bs A0 C0 v _ HB1.out hbl).mono ?_
      rintro e w1 ⟨a1, c1, rfl, hb1, hl1⟩
      generalize tsub (sv bs) 0 v .nil = tt at *
      obtain ⟨s', v', k'⟩ := tt
      dsimp only at hl1 HZ ⊢
      have HB2 := Lib.hid hb1
      have HL1 := Lib.hid hl1
      clear hb1 hl1
      go_wp2_with fail
      with_reducible refine (l1Copy_any (fsz k') s' v' a1 c1 k' _ HL1.out (Nat.le_refl _) HZ.out).mono ?_
      rintro e w2 ⟨a2, c2, rfl, hb2, ho2⟩
      have hs1 := HB2.out.size
      simp at hs1
      have hbx := (HB2.out.mono (show w.heap.size + 2 ≤ _ by simp)).trans (hb2.mono (show w.heap.size + 2 ≤ w1.heap.size by omega))
      obtain ⟨_, _, _, hr0, hr1, hr2⟩ := tb_cellsS hbx
      obtain ⟨_, hf0⟩ := tb_freeS hbx 0 rfl rfl
      obtain ⟨_, hf1⟩ := tb_freeS hbx 1 rfl rfl
      obtain ⟨_, hf2⟩ := tb_freeS hbx 2 rfl rfl
      clear hbx
      have HE := Lib.hid (fun p q r => put_end0 (s' := s') (v' := v') (k' := k') (c := c2) HB2.out hb2 ho2 p q r)
      clear hb2 ho2
      go_wp2_with fail
      refine bodyPost_ret (v := .agg #[.int .i64 s', .int .i64 v', .slice a2 (flen k') c2]) ?_ rfl (HE.out _ _ _)
      simp [results, Tryz.results26, go_sem, hr0, hr1, hr2]
    have hv0 : v = 0 := ((okN_iff _ _ _).1 hok).2.2 hs0
    subst hv0
    have HTT : Hid (tsub (sv bs) s 0 k = (s, 0, fsub (sv bs) k)) := by unfold Hid tsub; rw [if_neg hs0]
    have hse : (s == 0) = false := by simpa using hs0
    have hfl2 := fsub_len (sv bs) k
    rw [HTT.out]
    dsimp only
    clear hok
    have HST := Lib.hid (cpS_start (sv bs) w s a c k)
    go_enter Tryz.func26, Tryz.ntmps26
    go_wp2_with fail
    go_loopw [6] (fun i wr => ∃ (j : Nat) (A : Option Addr) (C : Nat), j ≤ flen k ∧ i = .int .i64 j ∧ CpAt w s 0 a c (fsub (sv bs) k) j A C wr) (fun i _ => flen k - (intOf i).toNat)
    case atStart => exact ⟨0, none, 0, Nat.zero_le _, rfl, HST.out⟩
    case round =>
      clear HST
      obtain ⟨j, A, C, hj, rfl, hat⟩ := hrel
      obtain ⟨hr0, hr1, hr2, hq0, hq1, hq2, hb0⟩ := hat.res
      rw [hfl2] at hb0
      have ho0 := hat.out0
      have ho1 := hat.out1
      have ho2 := hat.out2
      have hof := hat.free
      have hsz := hat.size
      by_cases hlt : j < flen k
      · clear hr0 hr1 hr2 hq0 hq1 hq2
        rcases hl with rfl | ⟨b, o, rfl, hrow⟩
        · simp [flen] at hlt
        have hbw := hat.low
        obtain ⟨s', v', kk, a', c', ⟨x, y, hd⟩, _, hbB, hk0, hk1, hk2, hsl⟩ := row_at (hrow.below hbw) hlt
        have hkN := Lib.hid (fsz_kid hd)
        have HD := Lib.hid (fsub_at (sv bs) j k hd)
        have HKID := Lib.hid (fok_kid HFK.out hd)
        have HBR : Hid (BSl wr.drew 0 wr.drew.heap.size A0 bs) := (HBS.out.below hbw.drew).mono (Nat.le_refl _) hbw.drew.size
        have HS := Lib.hid hsl
        have HROW := Lib.hid hrow
        have HAT := Lib.hid hat
        clear hd hsl hrow hat hbw
        have g1 : (0 : Int) ≤ (j : Int) := by omega
        have g2 : (j : Int) < (flen k : Int) := by omega
        obtain ⟨ti, hti, htz, hts, htb⟩ := Tryz.infoTerm
        obtain ⟨xs, hown, hall⟩ := HAT.out.own
        have HTI := Lib.hid hti
        have HTZ := Lib.hid htz
        have HTS := Lib.hid hts
        have HTB := Lib.hid htb
        have HOWN := Lib.hid hown
        have HALL := Lib.hid hall
        have HLT : Hid (∀ g, (Value.slice A j C).ownBlock = some g → w.heap.size + 3 ≤ g) := fun g hg => (hown.lt g hg).1
        clear hti htz hts htb hown hall
        have hu0 : ∀ u : After (w.heap.size + 3) wr, u.world.cell? ⟨w.heap.size + 1 + 1, 2, none⟩ = some (.slice A j C) := fun u => u.cell (by simp) ho2
        have hu1 : ∀ u : After (w.heap.size + 3) wr, u.world.cell? ⟨w.heap.size, 2, none⟩ = some (.slice (some ⟨b, o, none⟩) (flen k) c) := fun u => u.cell (by simp) hb0
        have hu2 : ∀ u : After (w.heap.size + 3) wr, u.world.cell? ⟨b, o + j * 3, none⟩ = some (.int .i64 s') := fun u => u.cell (by simp; omega) hk0
        have hu3 : ∀ u : After (w.heap.size + 3) wr, u.world.cell? ⟨b, o + j * 3 + 1, none⟩ = some (.int .i64 v') := fun u => u.cell (by simp; omega) hk1
        have hu4 : ∀ u : After (w.heap.size + 3) wr, u.world.cell? ⟨b, o + j * 3 + 2, none⟩ = some (.slice a' (flen kk) c') := fun u => u.cell (by simp; omega) hk2
        go_wp2_with fail
        refine wp_region_mix (fun w' => ∃ u : After (w.heap.size + 3) wr, w' = u.world) [11, 12] [(0, 0), (1, 0), (2, 0), (3, 0), (4, 0), (5, 0), (6, 0), (7, 0), (8, 1), (9, 1), (10, 1), (11, 2), (12, 2)] (by kernel_rfl) (by kernel_rfl) ⟨⟨_, (Below.refl _ _).drew⟩, rfl⟩ ?_
        iterate 8
          refine mix_see rfl (fun K hK => ?_)
          go_simp
          refine hK _ ?_
          clear hK K
        clear hu0 hu1 hu2 hu3 hu4
        refine mix_hold rfl (fun K hK => ?_)
        go_simp
        with_reducible refine (IH.out (fsz kk) (by have := hkN.out; omega) s' v' a' c' kk _ HBR.out ?_ HKID.out.1 HKID.out.2 (Nat.le_refl _) ?_).mono ?_
        · exact (HS.out.below (Below.refl _ _).drew).mono (Nat.le_refl _) (by simp; omega)
        · have := hkN.out; omega
        generalize tsub (sv bs) s' v' kk = tt at *
        obtain ⟨s3, v3, k3⟩ := tt
        dsimp only at HD
        rintro e w2 ⟨a2, c2, rfl, hb2', hown2⟩
        dsimp only at hown2
        have hb2 : Below wr.heap.size wr w2 := bl_undrew hb2'
        have HL2 : Hid (Sl w2 wr.heap.size w2.heap.size a2 k3) := hown2.sl
        have hs2 := hb2.size
        refine hK _ _ ⟨⟨_, hb2.mono (by omega)⟩, rfl⟩ ?_
        clear hK K hb2' hown2
        refine mix_hold rfl (fun K hK => ?_)
        go_simp
        refine hK _ _ ⟨⟨_, (hb2.mono (by omega)).alloc (by omega) _⟩, rfl⟩ ?_
        clear hK K
        refine mix_hold rfl (fun K hK => ?_)
        refine step_append_lies _ (by rfl) _ _ _ (by rfl) (w.heap.size + 3) 25 ti _ 3 40 Tryz.underlying23 HTI.out HTZ.out HTS.out HTB.out rfl (by omega) (.slice A j C) j xs (by rfl) (own_low ((Below.refl _ _).alloc (Nat.le_refl _) _) (own_low hb2 HOWN.out)) ⟨w2.heap.size, 0, none⟩ 1 1 [.int .i64 s3, .int .i64 v3, .slice a2 (flen k3) c2] (by rfl) (by rfl) (World.news_of_block (heap_alloc_new _ _)) (by simp [Value.oneCell']) (by omega) (by unfold maxLen; omega) (by omega) (by simp; omega) (w2.heap.size + 1) (by simp) ?_
        intro g cap w3 hown3 hgrow hatg hg3
        have hlow : Below (w.heap.size + 3) wr w3 := ((hb2.mono (by omega)).alloc (by omega) _).grown hgrow (by simp; omega) HLT.out
        have hz2 : w3.cell? ⟨w.heap.size + 1 + 1, 2, none⟩ = some (.slice A j C) := by rw [hlow.cell (by simp)]; exact ho2
        have hz3 : w3.frozen? ⟨w.heap.size + 1 + 1, 2, none⟩ = false := by rw [hlow.frozen (by simp)]; exact hof
        have HSTEP := Lib.hid (HAT.out.step hb2 HL2.out HD.out HOWN.out HALL.out hown3 hgrow hatg)
        refine hK _ _ ⟨⟨_, hlow⟩, rfl⟩ ?_
        clear hK K hown3 hgrow hatg
        refine mix_late rfl (fun K hK => ?_)
        go_simp
        refine hK _ _ ?_
        clear hK K
        refine mix_late rfl (fun K hK => ?_)
        go_simp
        refine hK _ _ ?_
        clear hK K
        refine mix_end ?_
        clear hz2 hz3 hlow hb0 ho0 ho1 ho2 hof hk0 hk1 hk2
        go_wp2_with fail
        go_roundw
        case rel => exact ⟨j + 1, _, _, by omega, by go_num, HSTEP.out⟩
        case measure => simp [intOf]; omega
      · have hjk : j = flen k := by omega
        subst hjk
        have HDN : Hid (∀ x y z, CopyPost s 0 (fsub (sv bs) k) w (.returned (.agg #[.int .i64 s, .int .i64 0, .slice A (flen k) C])) (((wr.setCell ⟨w.heap.size + 1, 0, none⟩ x).setCell ⟨w.heap.size + 1, 1, none⟩ y).setCell ⟨w.heap.size + 1, 2, none⟩ z)) := fun x y z => by
          rw [← hfl2] at hat ⊢
          exact hat.done x y z
        clear hat
        go_wp2_with fail
        refine bodyPost_ret (v := .agg #[.int .i64 s, .int .i64 0, .slice A (flen k) C]) ?_ rfl (HDN.out _ _ _)
        simp [results, Tryz.results26, go_sem, hr0, hr1, hr2]
end Go.Proofs.YtpfkhgiiojikbaaGreat
