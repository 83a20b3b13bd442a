/- Several texts in one: MA0, MS, AD2. -/
import Derived.Test.YtdkcbbhkoibplaaKLk10
import Derived.Test.YtdkcbbhkoibplaaKLk17
import Derived.Test.YtdkcbbhkoibplaaKLk23
import Derived.Test.YtdkcbbhkoibplaaKLk5

/-! MA0: Matching, plain: steps of a row. -/
namespace Go.Proofs.Ytdkcbbhkoibplaa
open Go.RowKit Go.Deep

theorem flen_same {s v v' : Int} {k k' : Fo} (h : okN s v (flen k) = true) (h' : okN s v' (flen k') = true) : flen k = flen k' := by
  have h1 := ((okN_iff _ _ _).1 h).1
  have h2 := ((okN_iff _ _ _).1 h').1
  omega
theorem tmt_sym {bs : List Bd} {s v v' : Int} {k k' : Fo} (hs : s ≠ 0) : tmt bs s v k s v' k' = fmt bs k k' := by unfold tmt; rw [if_neg hs, if_pos rfl]
theorem tmt_other {bs : List Bd} {s v s' v' : Int} {k k' : Fo} (hs : s ≠ 0) (hne : s ≠ s') : tmt bs s v k s' v' k' = none := by unfold tmt; rw [if_neg hs, if_neg hne]
theorem fsz_dropN {j x y : Nat} {p : Int × Int} {k kk r : Fo} (h : fdrop j k = .node x y p kk r) : fsz (fdrop j k) = fsz kk + fsz r + 1 := by rw [h]; rfl

theorem mtV_found {bs : List Bd} {x : Int} {u t : Int × Int × Fo} (h : sv bs x = some u) : mtV bs x t = if teq u.1 u.2.1 u.2.2 t.1 t.2.1 t.2.2 = true then some bs else none := by unfold mtV; rw [h]
theorem mtV_none {bs : List Bd} {x : Int} {t : Int × Int × Fo} (h : sv bs x = none) : mtV bs x t = some (ladd bs (x, t)) := by unfold mtV; rw [h]
theorem tmt_zero {bs : List Bd} {v s' v' : Int} {k k' : Fo} : tmt bs 0 v k s' v' k' = mtV bs v (s', v', k') := by unfold tmt; rw [if_pos rfl]
end Go.Proofs.Ytdkcbbhkoibplaa

/-! MS: The specification's l2Match. -/
namespace Go.Proofs.Ytdkcbbhkoibplaa
open Go.RowKit Go.Deep

def LmPost (bs : List Bd) (s v : Int) (k : Fo) (s' v' : Int) (k' : Fo) (w : World) (e : Ending) (w' : World) : Prop :=
  ∃ A C b1 t, e = .returned (.tuple #[.slice A (List.length b1) C, .bool t]) ∧ Below w.heap.size w w' ∧ BSl w' 0 w'.heap.size A b1 ∧ ((t = true ∧ tmt bs s v k s' v' k' = some b1) ∨ (t = false ∧ tmt bs s v k s' v' k' = none))

/-- Two boxes of terms, made one behind the other. -/
theorem two_boxesM {w wr : World} {x y z x' y' z' : Value} {T T' : TypeId} (h : Below (w.heap.size + 2) ((w.alloc (.cells #[x, y, z] T)).alloc (.cells #[x', y', z'] T')) wr) :
    wr.cell? ⟨w.heap.size, 0, none⟩ = some x ∧ wr.cell? ⟨w.heap.size, 1, none⟩ = some y ∧ wr.cell? ⟨w.heap.size, 2, none⟩ = some z ∧ wr.cell? ⟨w.heap.size + 1, 0, none⟩ = some x' ∧ wr.cell? ⟨w.heap.size + 1, 1, none⟩ = some y' ∧ wr.cell? ⟨w.heap.size + 1, 2, none⟩ = some z' := by
  refine ⟨?_, ?_, ?_, ?_, ?_, ?_⟩
  · rw [h.cell (by simp), World.cell?_alloc_lt _ _ _ (by simp), World.cell?_alloc_at _ _ _ _ (by simp)]; rfl
  · rw [h.cell (by simp), World.cell?_alloc_lt _ _ _ (by simp), World.cell?_alloc_at _ _ _ _ (by simp)]; rfl
  · rw [h.cell (by simp), World.cell?_alloc_lt _ _ _ (by simp), World.cell?_alloc_at _ _ _ _ (by simp)]; rfl
  · rw [h.cell (by simp), World.cell?_alloc_at _ _ _ _ (by simp)]; rfl
  · rw [h.cell (by simp), World.cell?_alloc_at _ _ _ _ (by simp)]; rfl
  · rw [h.cell (by simp), World.cell?_alloc_at _ _ _ _ (by simp)]; rfl

set_option maxRecDepth 100000 in
set_option maxHeartbeats 4000000 in
theorem l2Match_any (N : Nat) : ∀ (bs : List Bd) (A : Option Addr) (C : Nat) (s v : Int) (a : Option Addr) (c : Nat) (k : Fo) (s' v' : Int) (a' : Option Addr) (c' : Nat) (k' : Fo) (w : World), BSl w 0 w.heap.size A bs → Bof bs 100 → Sl w 0 w.heap.size a k → Sl w 0 w.heap.size a' k' → okN s v (flen k) = true → fok k = true → okN s' v' (flen k') = true → fok k' = true → fsz k' ≤ 100 → fsz k ≤ N → N ≤ 100 → bs.length + (1 + fsz k) ≤ 1000 →
    Calls Try.prog 93 #[.slice A bs.length C, .agg #[.int .i64 s, .int .i64 v, .slice a (flen k) c], .agg #[.int .i64 s', .int .i64 v', .slice a' (flen k') c']] w (LmPost bs s v k s' v' k' w) := by
  induction N using Nat.strongRecOn with
  | _ N ih =>
    intro bs A C s v a c k s' v' a' c' k' w hbs hbo hl hl' hok hfk hok' hfk' hz' hN hN2 hbl
    have hfl := flen_le_sz k
    have IH := Lib.hid ih
    have HFK := Lib.hid hfk
    have HFK' := Lib.hid hfk'
    have HOK := Lib.hid hok
    have HOK' := Lib.hid hok'
    have HBO := Lib.hid hbo
    have HBS0 := Lib.hid hbs
    have hb0 : Below w.heap.size w ((w.alloc (.cells #[.int .i64 s, .int .i64 v, .slice a (flen k) c] 35)).alloc (.cells #[.int .i64 s', .int .i64 v', .slice a' (flen k') c'] 35)) := ((Below.refl _ _).alloc (Nat.le_refl _) _).alloc (by simp) _
    have HB0 := Lib.hid hb0
    have HBS := Lib.hid (hbs.next hb0)
    have HSL := Lib.hid hl
    have HSL' := Lib.hid hl'
    have HBX : Hid (Below (w.heap.size + 2) ((w.alloc (.cells #[.int .i64 s, .int .i64 v, .slice a (flen k) c] 35)).alloc (.cells #[.int .i64 s', .int .i64 v', .slice a' (flen k') c'] 35)) ((w.alloc (.cells #[.int .i64 s, .int .i64 v, .slice a (flen k) c] 35)).alloc (.cells #[.int .i64 s', .int .i64 v', .slice a' (flen k') c'] 35))) := Below.refl _ _
    clear ih hfk hfk' hok hok' hbo hbs hb0 hl hl'
    by_cases hs0 : s = 0
    · subst hs0
      have hk0 := kids_none HOK.out
      subst hk0
      have hv := ((okN_iff _ _ _).1 HOK.out).2.1 rfl
      go_enter Try.func93, Try.ntmps93
      go_wp2_with fail
      go_loopw [8] (fun i wr => ∃ j : Nat, i = .int .i64 j ∧ j ≤ bs.length ∧ Hid (sv bs v = sv (bs.drop j) v) ∧ Hid (Below (w.heap.size + 2) ((w.alloc (.cells #[.int .i64 0, .int .i64 v, .slice a (flen .nil) c] 35)).alloc (.cells #[.int .i64 s', .int .i64 v', .slice a' (flen k') c'] 35)) wr)) (fun i _ => bs.length - (intOf i).toNat)
      case atStart => exact ⟨0, rfl, Nat.zero_le _, by simp [Hid], HBX⟩
      case round =>
        clear HBX
        obtain ⟨j, rfl, hj, HS, HBL⟩ := hrel
        have hsr := HBL.out.size
        simp at hsr
        obtain ⟨hx0, hx1, hx2, hy0, hy1, hy2⟩ := two_boxesM HBL.out
        have HBW := Lib.hid (HB0.out.trans (HBL.out.mono (show w.heap.size ≤ w.heap.size + 2 by omega)))
        by_cases hlt : j < bs.length
        · obtain ⟨y, hy⟩ : ∃ y, bs[j]? = some y := ⟨bs[j], List.getElem?_eq_getElem hlt⟩
          obtain ⟨yx, ys, yv, yk⟩ := y
          have hbr := HBS0.out.next HBW.out
          rcases hbr with hbr | ⟨rb, ro, rfl, _, hbB, hcells⟩
          · subst hbr; simp at hy
          obtain ⟨ya, yc, d0, d1, d2, d3, hsl⟩ := hcells j _ hy
          dsimp only at d0 d1 d2 d3 hsl
          have HYS := Lib.hid hsl
          have HD := Lib.hid (drop_bd hy)
          have g1 : (0 : Int) ≤ (j : Int) := by omega
          have g2 : (j : Int) < (bs.length : Int) := by omega
          clear hcells hy hsl
          have hu0 : ∀ u : After wr.heap.size wr, u.world.cell? ⟨rb, ro + j * 4, none⟩ = some (.int .i64 yx) := fun u => cell_low u.below d0
          have hu1 : ∀ u : After wr.heap.size wr, u.world.cell? ⟨w.heap.size, 1, none⟩ = some (.int .i64 v) := fun u => cell_low u.below hx1
          by_cases hx : yx = v
          · subst hx
            have hxe : (yx == yx) = true := by simp
            have HT : Hid (sv bs yx = some (ys, yv, yk)) := by rw [Hid, HS.out, HD.out]; simp only [sv]; rw [if_pos trivial]
            have hyb := (HBO.out yx _ HT.out).2.2
            dsimp only at hyb
            clear HS HD
            go_wp2_with fail
            refine wp_region_after wr.heap.size (by kernel_rfl) (by kernel_rfl) ?_
            repeat (go_big_quiet_step (fail))
            refine wpQuiet_nil ?_
            rintro wq ⟨⟨_, hu⟩, rfl⟩
            have HUQ := Lib.hid hu
            have e1 := cell_low hu d1
            have e2 := cell_low hu d2
            have e3 := cell_low hu d3
            have f0 := cell_low hu hy0
            have f1 := cell_low hu hy1
            have f2 := cell_low hu hy2
            have HYQ := Lib.hid (HYS.out.next hu)
            have HTQ := Lib.hid (HSL'.out.next (below_next HBW.out hu))
            have HBQ := Lib.hid (HBS0.out.next (below_next HBW.out hu))
            clear hu0 hu1 hu d0 d1 d2 d3 hx0 hx1 hx2 hy0 hy1 hy2
            have hu1 : ∀ u : After wq.heap.size wq, u.world.cell? ⟨rb, ro + j * 4 + 1, none⟩ = some (.int .i64 ys) := fun u => cell_low u.below e1
            have hu2 : ∀ u : After wq.heap.size wq, u.world.cell? ⟨rb, ro + j * 4 + 1 + 1, none⟩ = some (.int .i64 yv) := fun u => cell_low u.below e2
            have hu3 : ∀ u : After wq.heap.size wq, u.world.cell? ⟨rb, ro + j * 4 + 1 + 2, none⟩ = some (.slice ya (flen yk) yc) := fun u => cell_low u.below e3
            have hu4 : ∀ u : After wq.heap.size wq, u.world.cell? ⟨w.heap.size + 1, 0, none⟩ = some (.int .i64 s') := fun u => cell_low u.below f0
            have hu5 : ∀ u : After wq.heap.size wq, u.world.cell? ⟨w.heap.size + 1, 1, none⟩ = some (.int .i64 v') := fun u => cell_low u.below f1
            have hu6 : ∀ u : After wq.heap.size wq, u.world.cell? ⟨w.heap.size + 1, 2, none⟩ = some (.slice a' (flen k') c') := fun u => cell_low u.below f2
            have HCALL : Hid (∀ u : After wq.heap.size wq, Calls Try.prog 51 #[.agg #[.int .i64 ys, .int .i64 yv, .slice ya (flen yk) yc], .agg #[.int .i64 s', .int .i64 v', .slice a' (flen k') c']] u.world fun e w' => e = .returned (.bool (teq ys yv yk s' v' k')) ∧ Below u.world.heap.size u.world w') := fun u =>
              l1Same_any (fsz yk) ys yv ya yc yk s' v' a' c' k' u.world (HYQ.out.next u.below) (HTQ.out.next u.below) (Nat.le_refl _) (by omega)
            go_wp2_with fail
            refine wp_region_after wq.heap.size (by kernel_rfl) (by kernel_rfl) ?_
            repeat (go_big_quiet_step ((go_at_call 51; exact Calls.after (After.below ‹_›).size (HCALL.out _))))
            refine wpQuiet_nil ?_
            rintro u ⟨⟨_, hu⟩, rfl⟩
            have HU2 := Lib.hid hu
            clear hu hu1 hu2 hu3 hu4 hu5 hu6 e1 e2 e3 f0 f1 f2
            go_wp2_with fail
            have HP : Hid (LmPost bs 0 yx .nil s' v' k' w (.returned (.tuple #[.slice (some ⟨rb, ro, none⟩) bs.length C, .bool (teq ys yv yk s' v' k')])) u) := by
              refine ⟨_, C, bs, _, rfl, below_next (below_next HBW.out HUQ.out) HU2.out, HBQ.out.next HU2.out, ?_⟩
              rw [tmt_zero, mtV_found HT.out]
              dsimp only
              cases teq ys yv yk s' v' k' with
              | true => exact .inl ⟨rfl, rfl⟩
              | false => exact .inr ⟨rfl, rfl⟩
            refine bodyPost_ret (v := .tuple #[.slice (some ⟨rb, ro, none⟩) bs.length C, .bool (teq ys yv yk s' v' k')]) ?_ rfl HP.out
            simp [results, Try.results93, go_sem]
          · have hxe : (yx == v) = false := by simpa using hx
            have HN : Hid (sv bs v = sv (bs.drop (j + 1)) v) := by rw [Hid, HS.out, HD.out]; simp only [sv]; rw [if_neg hx]
            clear HS HD
            go_wp2_with fail
            refine wp_region_after wr.heap.size (by kernel_rfl) (by kernel_rfl) ?_
            repeat (go_big_quiet_step (fail))
            refine wpQuiet_nil ?_
            rintro wq ⟨⟨_, hu⟩, rfl⟩
            have HBL2 := Lib.hid (HBL.out.trans (hu.mono hsr))
            clear hu hu0 hu1 d0 d1 d2 d3 hx0 hx1 hx2 hy0 hy1 hy2
            go_wp2_with fail
            go_roundw
            case rel => exact ⟨j + 1, by go_num, by omega, HN, HBL2⟩
            case measure => simp [intOf]; omega
        · have HT : Hid (sv bs v = none) := by rw [Hid, HS.out, List.drop_eq_nil_of_le (by omega)]; rfl
          have hu1 : ∀ u : After wr.heap.size wr, u.world.cell? ⟨w.heap.size, 1, none⟩ = some (.int .i64 v) := fun u => cell_low u.below hx1
          have hu4 : ∀ u : After wr.heap.size wr, u.world.cell? ⟨w.heap.size + 1, 0, none⟩ = some (.int .i64 s') := fun u => cell_low u.below hy0
          have hu5 : ∀ u : After wr.heap.size wr, u.world.cell? ⟨w.heap.size + 1, 1, none⟩ = some (.int .i64 v') := fun u => cell_low u.below hy1
          have hu6 : ∀ u : After wr.heap.size wr, u.world.cell? ⟨w.heap.size + 1, 2, none⟩ = some (.slice a' (flen k') c') := fun u => cell_low u.below hy2
          clear HS hx0 hx1 hx2 hy0 hy1 hy2
          go_wp2_with fail
          refine wp_region_mix (fun w' => ∃ u : After wr.heap.size wr, w' = u.world) [] [(0, 0), (1, 0), (2, 0), (3, 0), (4, 1), (5, 1), (6, 1), (7, 1), (8, 1)] (by kernel_rfl) (by kernel_rfl) ⟨⟨_, (Below.refl _ _).drew⟩, rfl⟩ ?_
          have HBD : Hid (Below wr.heap.size wr wr.drew) := (Below.refl _ _).drew
          generalize wr.drew = wd at *
          iterate 4
            refine mix_see rfl (fun K hK => ?_)
            go_simp
            refine hK _ ?_
            clear hK K
          clear hu1 hu4 hu5 hu6
          refine mix_hold rfl (fun K hK => ?_)
          go_simp
          with_reducible refine (l1Copy_any (fsz k') s' v' a' c' k' _ (HSL'.out.next (below_next HBW.out HBD.out)) (Nat.le_refl _) (by omega)).mono ?_
          rintro e w2 ⟨a2, c2, rfl, hb2, ho2⟩
          have HB2 := Lib.hid (below_next HBD.out hb2)
          have HL2 : Hid (Sl w2 0 w2.heap.size a2 k') := ho2.sl.mono (Nat.zero_le _) (Nat.le_refl _)
          refine hK _ _ ⟨⟨_, HB2.out⟩, rfl⟩ ?_
          clear hK K hb2 ho2
          refine mix_hold rfl (fun K hK => ?_)
          go_simp
          refine hK _ _ ⟨⟨_, HB2.out⟩, rfl⟩ ?_
          clear hK K
          refine mix_hold rfl (fun K hK => ?_)
          go_simp
          with_reducible refine (l2Add_any bs A C v s' v' a2 c2 k' _ (HBS0.out.next (below_next HBW.out HB2.out)) (by omega) HL2.out).mono ?_
          rintro e w3 ⟨A3, C3, rfl, hrow⟩
          have HB3 := Lib.hid (below_next HB2.out hrow.low)
          have HR3 := Lib.hid hrow.bsl
          refine hK _ _ ⟨⟨_, HB3.out⟩, rfl⟩ ?_
          clear hK K hrow
          iterate 2
            refine mix_hold rfl (fun K hK => ?_)
            go_simp
            refine hK _ _ ⟨⟨_, HB3.out⟩, rfl⟩ ?_
            clear hK K
          refine mix_end ?_
          go_wp2_with fail
          have HP : Hid (LmPost bs 0 v .nil s' v' k' w (.returned (.tuple #[.slice A3 (ladd bs (v, s', v', k')).length C3, .bool true])) w3) :=
            ⟨_, C3, _, _, rfl, below_next HBW.out HB3.out, HR3.out, .inl ⟨rfl, by rw [tmt_zero, mtV_none HT.out]⟩⟩
          refine bodyPost_ret (v := .tuple #[.slice A3 (ladd bs (v, s', v', k')).length C3, .bool true]) ?_ rfl HP.out
          simp [results, Try.results93, go_sem]
    · have hse : (s == 0) = false := by simpa using hs0
      by_cases hss : s = s'
      case neg =>
        have hne : (s != s') = true := by simp [hss]
        have HP : Hid (LmPost bs s v k s' v' k' w (.returned (.tuple #[.slice A bs.length C, .bool false])) ((w.alloc (.cells #[.int .i64 s, .int .i64 v, .slice a (flen k) c] 35)).alloc (.cells #[.int .i64 s', .int .i64 v', .slice a' (flen k') c'] 35))) :=
          ⟨A, C, bs, false, rfl, HB0.out, HBS.out, .inr ⟨rfl, tmt_other hs0 hss⟩⟩
        clear HBX
        go_enter Try.func93, Try.ntmps93
        go_wp2_with fail
        refine bodyPost_ret (v := .tuple #[.slice A bs.length C, .bool false]) ?_ rfl HP.out
        simp [results, Try.results93, go_sem]
      subst hss
      have hne : (s != s) = false := by simp
      have HFL := Lib.hid (flen_same HOK.out HOK'.out)
      have HTS := Lib.hid (tmt_sym (bs := bs) (v := v) (v' := v') (k := k) (k' := k') hs0)
      go_enter Try.func93, Try.ntmps93
      go_wp2_with fail
      go_loopw [0, 9] (fun o i wr => ∃ (j : Nat) (b1 : List Bd) (A1 : Option Addr) (C1 : Nat), o = .slice A1 b1.length C1 ∧ i = .int .i64 j ∧ j ≤ flen k ∧ Hid (fmt bs k k' = fmt b1 (fdrop j k) (fdrop j k')) ∧ Hid (Bof b1 100) ∧ Hid (b1.length + fsz (fdrop j k) ≤ bs.length + fsz k) ∧ Hid (BSl wr 0 wr.heap.size A1 b1) ∧ Hid (Below (w.heap.size + 2) ((w.alloc (.cells #[.int .i64 s, .int .i64 v, .slice a (flen k) c] 35)).alloc (.cells #[.int .i64 s, .int .i64 v', .slice a' (flen k') c'] 35)) wr)) (fun _ i _ => flen k - (intOf i).toNat)
      case atStart => exact ⟨0, bs, A, C, rfl, rfl, Nat.zero_le _, rfl, HBO, Nat.le_refl _, HBS, HBX⟩
      case round =>
        clear HBX HBS HBO
        obtain ⟨j, b1, A1, C1, rfl, rfl, hj, HF, HBO, HLN, HBS, HBL⟩ := hrel
        have hsr := HBL.out.size
        simp at hsr
        obtain ⟨hx0, hx1, hx2, hy0, hy1, hy2⟩ := two_boxesM HBL.out
        have HBW := Lib.hid (HB0.out.trans (HBL.out.mono (show w.heap.size ≤ w.heap.size + 2 by omega)))
        by_cases hlt : j < flen k
        · have hlt' : j < flen k' := by rw [← HFL.out]; exact hlt
          have hnr := HSL.out.next HBW.out
          rcases hnr with rfl | ⟨b, o, rfl, hrow⟩
          · simp [flen] at hlt
          have hnr' := HSL'.out.next HBW.out
          rcases hnr' with rfl | ⟨b', o', rfl, hrow'⟩
          · simp [flen] at hlt'
          obtain ⟨s1, v1, k1, a1, c1, ⟨x, y, hd⟩, _, hbB, q0, q1, q2, hsl⟩ := row_at hrow hlt
          obtain ⟨s2, v2, k2, a2, c2, ⟨x2, y2, hd'⟩, _, hbB', q3, q4, q5, hsl2⟩ := row_at hrow' hlt'
          have hk1 := fok_kid HFK.out hd
          have hk2 := fok_kid HFK'.out hd'
          have z1 := fsz_kid hd
          have z2 := fsz_kid hd'
          have HST := Lib.hid (fmt_step (bs := b1) hd hd')
          have hzd := fsz_dropN hd
          have hl1 := HLN.out
          have HZ : Hid (b1.length + (1 + fsz k1) + fsz (fdrop (j + 1) k) ≤ bs.length + fsz k) := by show _ ≤ _; omega
          have HCALL : Hid (∀ u : After wr.heap.size wr, Calls Try.prog 93 #[.slice A1 b1.length C1, .agg #[.int .i64 s1, .int .i64 v1, .slice a1 (flen k1) c1], .agg #[.int .i64 s2, .int .i64 v2, .slice a2 (flen k2) c2]] u.world (LmPost b1 s1 v1 k1 s2 v2 k2 u.world)) := fun u =>
            IH.out (fsz k1) (by omega) b1 A1 C1 s1 v1 a1 c1 k1 s2 v2 a2 c2 k2 u.world (HBS.out.next u.below) HBO.out (hsl.next u.below) (hsl2.next u.below) hk1.1 hk1.2 hk2.1 hk2.2 (by omega) (Nat.le_refl _) (by omega) (by omega)
          have HOF : Hid (∀ b2, tmt b1 s1 v1 k1 s2 v2 k2 = some b2 → Bof b2 100) := fun b2 h => tmt_of h HBO.out hk2.1 hk2.2 (by omega)
          have g1 : (0 : Int) ≤ (j : Int) := by omega
          have g2 : (j : Int) < (flen k : Int) := by omega
          have g3 : (j : Int) < (flen k' : Int) := by omega
          clear hd hd' hk1 hk2 hrow hrow' hzd hl1 hsl hsl2
          have hu0 : ∀ u : After wr.heap.size wr, u.world.cell? ⟨b, o + j * 3, none⟩ = some (.int .i64 s1) := fun u => cell_low u.below q0
          have hu1 : ∀ u : After wr.heap.size wr, u.world.cell? ⟨b, o + j * 3 + 1, none⟩ = some (.int .i64 v1) := fun u => cell_low u.below q1
          have hu2 : ∀ u : After wr.heap.size wr, u.world.cell? ⟨b, o + j * 3 + 2, none⟩ = some (.slice a1 (flen k1) c1) := fun u => cell_low u.below q2
          have hu3 : ∀ u : After wr.heap.size wr, u.world.cell? ⟨b', o' + j * 3, none⟩ = some (.int .i64 s2) := fun u => cell_low u.below q3
          have hu4 : ∀ u : After wr.heap.size wr, u.world.cell? ⟨b', o' + j * 3 + 1, none⟩ = some (.int .i64 v2) := fun u => cell_low u.below q4
          have hu5 : ∀ u : After wr.heap.size wr, u.world.cell? ⟨b', o' + j * 3 + 2, none⟩ = some (.slice a2 (flen k2) c2) := fun u => cell_low u.below q5
          have hu6 : ∀ u : After wr.heap.size wr, u.world.cell? ⟨w.heap.size, 2, none⟩ = some (.slice (some ⟨b, o, none⟩) (flen k) c) := fun u => cell_low u.below hx2
          have hu7 : ∀ u : After wr.heap.size wr, u.world.cell? ⟨w.heap.size + 1, 2, none⟩ = some (.slice (some ⟨b', o', none⟩) (flen k') c') := fun u => cell_low u.below hy2
          go_wp2_with fail
          refine wp_region_mix (fun w' => ∃ u : After wr.heap.size wr, w' = u.world) [] [(0, 0), (1, 0), (2, 0), (3, 0), (4, 0), (5, 0), (6, 0), (7, 0), (8, 0), (9, 0), (10, 0), (11, 1), (12, 0), (13, 0), (14, 0), (15, 1), (16, 1)] (by kernel_rfl) (by kernel_rfl) ⟨⟨_, (Below.refl _ _).drew⟩, rfl⟩ ?_
          have HBD : Hid (Below wr.heap.size wr wr.drew) := (Below.refl _ _).drew
          generalize wr.drew = wd at *
          iterate 11
            refine mix_see rfl (fun K hK => ?_)
            go_simp
            refine hK _ ?_
            clear hK K
          clear hu0 hu1 hu2 hu3 hu4 hu5 hu6 hu7 q0 q1 q2 q3 q4 q5 hx0 hx1 hx2 hy0 hy1 hy2
          refine mix_hold rfl (fun K hK => ?_)
          go_simp
          with_reducible refine (HCALL.out ⟨wd, HBD.out⟩).mono ?_
          rintro e w2 ⟨A2, C2, b2, t2, rfl, hb2, hs2, hcase⟩
          have HB2 := Lib.hid (below_next HBD.out hb2)
          have HS2 := Lib.hid hs2
          refine hK _ _ ⟨⟨_, HB2.out⟩, rfl⟩ ?_
          clear hK K hb2 hs2 HCALL
          iterate 3
            refine mix_see rfl (fun K hK => ?_)
            go_simp
            refine hK _ ?_
            clear hK K
          iterate 2
            refine mix_hold rfl (fun K hK => ?_)
            go_simp
            refine hK _ _ ⟨⟨_, HB2.out⟩, rfl⟩ ?_
            clear hK K
          refine mix_end ?_
          rcases hcase with ⟨rfl, ht⟩ | ⟨rfl, ht⟩
          · have HF2 : Hid (fmt bs k k' = fmt b2 (fdrop (j + 1) k) (fdrop (j + 1) k')) := by rw [Hid, HF.out, HST.out, ht]; rfl
            have HB5 := Lib.hid (HOF.out b2 ht)
            have HL5 : Hid (b2.length + fsz (fdrop (j + 1) k) ≤ bs.length + fsz k) := by have h1 := tmt_blen ht; have h2 := HZ.out; show _ ≤ _; omega
            have HBL2 := Lib.hid (HBL.out.trans (HB2.out.mono hsr))
            clear ht
            go_wp2_with fail
            go_roundw
            case rel => exact ⟨j + 1, b2, A2, C2, rfl, by go_num, by omega, HF2, HB5, HL5, HS2, HBL2⟩
            case measure => simp [intOf]; omega
          · have HP : Hid (LmPost bs s v k s v' k' w (.returned (.tuple #[.slice A1 b1.length C1, .bool false])) w2) :=
              ⟨A1, C1, b1, false, rfl, below_next HBW.out HB2.out, HBS.out.next HB2.out, .inr ⟨rfl, by rw [HTS.out, HF.out, HST.out, ht]; rfl⟩⟩
            clear ht
            go_wp2_with fail
            refine bodyPost_ret (v := .tuple #[.slice A1 b1.length C1, .bool false]) ?_ rfl HP.out
            simp [results, Try.results93, go_sem]
        · have HP : Hid (LmPost bs s v k s v' k' w (.returned (.tuple #[.slice A1 b1.length C1, .bool true])) wr) :=
            ⟨A1, C1, b1, true, rfl, HBW.out, HBS.out, .inl ⟨rfl, by rw [HTS.out, HF.out, fdrop_all (by omega), fdrop_all (k := k') (by have := HFL.out; omega)]; rfl⟩⟩
          go_wp2_with fail
          refine bodyPost_ret (v := .tuple #[.slice A1 b1.length C1, .bool true]) ?_ rfl HP.out
          simp [results, Try.results93, go_sem]
end Go.Proofs.Ytdkcbbhkoibplaa

/-! AD2: l2Add of the specification, its terms in blocks from lo on (out of AD by program). -/
namespace Go.Proofs.Ytdkcbbhkoibplaa
open Go.RowKit Go.Deep

/-- The values of a row of binds; their terms lie in w. -/
def BValL (lo : Nat) (w : World) (bs : List Bd) (xs : List Value) : Prop := xs.length = bs.length * 4 ∧ ∀ (i : Nat) (x : Bd), bs[i]? = some x → ∃ a' c', xs[i * 4]? = some (.int .i64 x.1) ∧ xs[i * 4 + 1]? = some (.int .i64 x.2.1) ∧ xs[i * 4 + 2]? = some (.int .i64 x.2.2.1) ∧ xs[i * 4 + 3]? = some (.slice a' (flen x.2.2.2) c') ∧ Sl w lo w.heap.size a' x.2.2.2
theorem BValL.snoc {lo : Nat} {w : World} {bs : List Bd} {xs : List Value} {x s v : Int} {k : Fo} {a : Option Addr} {c : Nat} (h : BValL lo w bs xs) (hl : Sl w lo w.heap.size a k) : BValL lo w (bs ++ [(x, s, v, k)]) (xs ++ [.int .i64 x, .int .i64 s, .int .i64 v, .slice a (flen k) c]) := by
  obtain ⟨hxl, hall⟩ := h
  refine ⟨by simp [hxl]; omega, fun i y hy => ?_⟩
  by_cases hi : i < bs.length
  · rw [List.getElem?_append_left hi] at hy
    obtain ⟨a', c', c0, c1, c2, c3, hsl⟩ := hall i y hy
    exact ⟨a', c', by rw [List.getElem?_append_left (by omega)]; exact c0, by rw [List.getElem?_append_left (by omega)]; exact c1, by rw [List.getElem?_append_left (by omega)]; exact c2, by rw [List.getElem?_append_left (by omega)]; exact c3, hsl⟩
  · have hi' : i = bs.length := by have := (List.getElem?_eq_some_iff.1 hy).1; simp at this; omega
    subst hi'
    simp at hy
    subst hy
    refine ⟨a, c, ?_, ?_, ?_, ?_, hl⟩
    · rw [List.getElem?_append_right (by omega), hxl]; simp
    · rw [List.getElem?_append_right (by omega), hxl, show bs.length * 4 + 1 - bs.length * 4 = 1 from by omega]; rfl
    · rw [List.getElem?_append_right (by omega), hxl, show bs.length * 4 + 2 - bs.length * 4 = 2 from by omega]; rfl
    · rw [List.getElem?_append_right (by omega), hxl, show bs.length * 4 + 3 - bs.length * 4 = 3 from by omega]; rfl

/-- A row of binds of one's own, made from base on, behind w; its terms lie in w. -/
structure BRowL (lo : Nat) (w : World) (base : Nat) (bs : List Bd) (A : Option Addr) (C : Nat) (wr : World) : Prop where
  low : Below w.heap.size w wr
  hb : w.heap.size ≤ base
  size : base ≤ wr.heap.size
  own : ∃ xs, wr.ownsRow base 131 4 (.slice A bs.length C) bs.length xs ∧ BValL lo w bs xs
theorem BRowL.bsl {lo : Nat} {w wr : World} {base : Nat} {bs : List Bd} {A : Option Addr} {C : Nat} (h : BRowL lo w base bs A C wr) (hlo : lo ≤ w.heap.size) : BSl wr lo wr.heap.size A bs := by
  obtain ⟨xs, hown, hxl, hall⟩ := h.own
  rcases Nat.eq_zero_or_pos bs.length with h0 | h0
  · exact .inl (List.eq_nil_of_length_eq_zero h0)
  · obtain ⟨g, cap, hv, hb, hlt⟩ := hown.form h0
    have hA : A = some ⟨g, 0, none⟩ := by simp only [Value.slice.injEq] at hv; exact hv.1
    subst hA
    refine .inr ⟨g, 0, rfl, by have := h.hb; omega, hlt, fun i x hx => ?_⟩
    have hi := (List.getElem?_eq_some_iff.1 hx).1
    obtain ⟨a', c', c0, c1, c2, c3, hl⟩ := hall i x hx
    refine ⟨a', c', ?_, ?_, ?_, ?_, hl.low h.low⟩
    · rw [Nat.zero_add, hown.cellAt _ (by omega)]; exact c0
    · rw [Nat.zero_add, hown.cellAt _ (by omega)]; exact c1
    · rw [Nat.zero_add, hown.cellAt _ (by omega)]; exact c2
    · rw [Nat.zero_add, hown.cellAt _ (by omega)]; exact c3
theorem BRowL.next {lo : Nat} {w wr w2 : World} {base : Nat} {bs : List Bd} {A : Option Addr} {C : Nat} (h : BRowL lo w base bs A C wr) (hb : Below wr.heap.size wr w2) : BRowL lo w base bs A C w2 := by
  obtain ⟨xs, hown, hv⟩ := h.own
  exact ⟨below_next h.low hb, h.hb, Nat.le_trans h.size hb.size, xs, own_low hb hown, hv⟩
theorem BRowL.start (lo : Nat) (w : World) (base : Nat) (hb : w.heap.size ≤ base) {wr : World} (hl : Below w.heap.size w wr) (hs : base ≤ wr.heap.size) : BRowL lo w base [] (some ⟨wr.heap.size, 0, none⟩) 0 (wr.alloc (.cells #[] 131)) :=
  ⟨below_next hl (box_low _ _), hb, by simp; omega, [], ⟨rfl, .inr ⟨wr.heap.size, 0, #[], rfl, hs, heap_alloc_new _ _, Nat.le_refl _, by decide, rfl, rfl⟩⟩, rfl, fun i x hx => by simp at hx⟩
theorem BRowL.app {lo : Nat} {w wr w3 : World} {base : Nat} {bs : List Bd} {A : Option Addr} {C g cap : Nat} {x s v : Int} {k : Fo} {a : Option Addr} {c : Nat} {blk : Obj} {xs : List Value} (h : BRowL lo w base bs A C wr) (hown : wr.ownsRow base 131 4 (.slice A bs.length C) bs.length xs) (hv : BValL lo w bs xs) (hl : Sl w lo w.heap.size a k)
    (hown3 : w3.ownsRow base 131 4 (.slice (some ⟨g, 0, none⟩) (bs.length + 1) cap) (bs.length + 1) (xs ++ [.int .i64 x, .int .i64 s, .int .i64 v, .slice a (flen k) c])) (hgrow : (wr.alloc blk).grownBy w3 (Value.slice A bs.length C).ownBlock) : BRowL lo w base (bs ++ [(x, s, v, k)]) (some ⟨g, 0, none⟩) cap w3 := by
  have hl' : (bs ++ [(x, s, v, k)]).length = bs.length + 1 := by simp
  have hs := h.size
  have hb := h.hb
  have hlow : Below base wr w3 := ((Below.refl base wr).alloc hs blk).grown hgrow (by simp; omega) (fun q hq => (hown.lt q hq).1)
  exact ⟨h.low.trans (hlow.mono hb), hb, Nat.le_trans hs hlow.size, _, by rw [hl']; exact hown3, hv.snoc hl⟩
theorem BRowL.below {lo : Nat} {w wr w3 : World} {base : Nat} {bs : List Bd} {A : Option Addr} {C : Nat} {blk : Obj} {xs : List Value} (h : BRowL lo w base bs A C wr) (hown : wr.ownsRow base 131 4 (.slice A bs.length C) bs.length xs) (hgrow : (wr.alloc blk).grownBy w3 (Value.slice A bs.length C).ownBlock) : Below base wr w3 :=
  ((Below.refl base wr).alloc h.size blk).grown hgrow (by have := h.size; simp; omega) (fun q hq => (hown.lt q hq).1)

def AddPostL (lo : Nat) (bs : List Bd) (b : Bd) (w : World) (e : Ending) (w' : World) : Prop :=
  ∃ A C, e = .returned (.slice A (List.length (ladd bs b)) C) ∧ BRowL lo w (w.heap.size + 1) (ladd bs b) A C w'

set_option maxRecDepth 100000 in
set_option maxHeartbeats 4000000 in
theorem l2Add_lo (lo : Nat) (bs : List Bd) (A : Option Addr) (C : Nat) (x s v : Int) (a : Option Addr) (c : Nat) (k : Fo) (w : World) (hb : BSl w lo w.heap.size A bs) (hl : bs.length ≤ 100000) (hk : Sl w lo w.heap.size a k) :
    Calls Try.prog 95 #[.slice A bs.length C, .agg #[.int .i64 x, .int .i64 s, .int .i64 v, .slice a (flen k) c]] w (AddPostL lo bs (x, s, v, k) w) := by
  obtain ⟨ti, hti, htz, hts, htb⟩ := Try.infoBind
  have HTI : Hid (Try.prog.info? 131 = some ti ∧ ti.zero = some (.agg #[.int .i64 0, .int .i64 0, .int .i64 0, .slice none 0 0]) ∧ ti.size = 4 ∧ ti.bytes = 48) := ⟨hti, htz, hts, htb⟩
  have HB := Lib.hid hb
  have HK := Lib.hid hk
  clear hti htz hts htb hb hk
  have HBX0 : Hid (Below (w.heap.size + 1) (w.alloc (.cells #[.int .i64 x, .int .i64 s, .int .i64 v, .slice a (flen k) c] 131)) ((w.alloc (.cells #[.int .i64 x, .int .i64 s, .int .i64 v, .slice a (flen k) c] 131)).alloc (.cells #[] 131))) := (Below.refl _ _).alloc (by simp) _
  have HR0 : Hid (BRowL lo w (w.heap.size + 1) [] (some ⟨w.heap.size + 1, 0, none⟩) 0 ((w.alloc (.cells #[.int .i64 x, .int .i64 s, .int .i64 v, .slice a (flen k) c] 131)).alloc (.cells #[] 131))) := by
    have h := BRowL.start lo w (w.heap.size + 1) (by omega) (box_low w (.cells #[.int .i64 x, .int .i64 s, .int .i64 v, .slice a (flen k) c] 131)) (by simp)
    rw [Hid]
    simpa using h
  have hbox : ∀ wr : World, Below (w.heap.size + 1) (w.alloc (.cells #[.int .i64 x, .int .i64 s, .int .i64 v, .slice a (flen k) c] 131)) wr → wr.cell? ⟨w.heap.size, 0, none⟩ = some (.int .i64 x) ∧ wr.cell? ⟨w.heap.size, 1, none⟩ = some (.int .i64 s) ∧ wr.cell? ⟨w.heap.size, 2, none⟩ = some (.int .i64 v) ∧ wr.cell? ⟨w.heap.size, 3, none⟩ = some (.slice a (flen k) c) := fun wr h => by
    refine ⟨?_, ?_, ?_, ?_⟩
    · rw [h.cell (by simp), World.cell?_alloc_at _ _ _ _ (by simp)]; rfl
    · rw [h.cell (by simp), World.cell?_alloc_at _ _ _ _ (by simp)]; rfl
    · rw [h.cell (by simp), World.cell?_alloc_at _ _ _ _ (by simp)]; rfl
    · rw [h.cell (by simp), World.cell?_alloc_at _ _ _ _ (by simp)]; rfl
  have HBOX := Lib.hid hbox
  clear hbox
  go_enter Try.func95, Try.ntmps95
  go_wp2_with fail
  go_loopw [5, 6, 7] (fun o d i wr => ∃ (j : Nat) (out : List Bd) (A' : Option Addr) (C' : Nat) (dn : Bool), o = .slice A' out.length C' ∧ d = .bool dn ∧ i = .int .i64 j ∧ j ≤ bs.length ∧ out.length ≤ j + 1 ∧ Hid (ladd bs (x, s, v, k) = out ++ (if dn = true then bs.drop j else ladd (bs.drop j) (x, s, v, k))) ∧ Hid (BRowL lo w (w.heap.size + 1) out A' C' wr) ∧ Hid (Below (w.heap.size + 1) (w.alloc (.cells #[.int .i64 x, .int .i64 s, .int .i64 v, .slice a (flen k) c] 131)) wr)) (fun _ _ i _ => bs.length - (intOf i).toNat)
  case atStart => exact ⟨0, [], _, _, false, rfl, rfl, rfl, Nat.zero_le _, by simp, by simp [Hid], HR0, HBX0⟩
  case round =>
    clear HR0 HBX0
    obtain ⟨j, out, A', C', dn, rfl, rfl, rfl, hj, hol, HE, HR, HBX⟩ := hrel
    obtain ⟨b0, b1, b2, b3⟩ := HBOX.out _ HBX.out
    have hws := HR.out.size
    have hbs := HR.out.low
    by_cases hlt : j < bs.length
    · obtain ⟨y, hy⟩ : ∃ y, bs[j]? = some y := ⟨bs[j], List.getElem?_eq_getElem hlt⟩
      obtain ⟨yx, ys, yv, yk⟩ := y
      have hbr := HB.out
      rcases hbr with hbr | ⟨rb, ro, rfl, _, hbB, hcells⟩
      · subst hbr; simp at hy
      obtain ⟨ya, yc, d0, d1, d2, d3, hsl⟩ := hcells j _ hy
      dsimp only at d0 d1 d2 d3 hsl
      have HYS := Lib.hid hsl
      have HD := Lib.hid (drop_bd2 hy)
      have hc0 := cell_low hbs d0
      have hc1 := cell_low hbs d1
      have hc2 := cell_low hbs d2
      have hc3 := cell_low hbs d3
      have g1 : (0 : Int) ≤ (j : Int) := by omega
      have g2 : (j : Int) < (bs.length : Int) := by omega
      clear hcells hy d0 d1 d2 d3 hsl
      have hu0 : ∀ u : After wr.heap.size wr, u.world.cell? ⟨rb, ro + j * 4, none⟩ = some (.int .i64 yx) := fun u => cell_low u.below hc0
      have hu1 : ∀ u : After wr.heap.size wr, u.world.cell? ⟨w.heap.size, 0, none⟩ = some (.int .i64 x) := fun u => cell_low u.below b0
      cases dn with
      | true =>
        have HE2 : Hid (ladd bs (x, s, v, k) = (out ++ [(yx, ys, yv, yk)]) ++ (if true = true then bs.drop (j + 1) else ladd (bs.drop (j + 1)) (x, s, v, k))) := by rw [Hid, HE.out, if_pos rfl, if_pos rfl, HD.out]; simp
        clear HE HD
        go_wp2_with fail
        refine wp_region_after wr.heap.size (by kernel_rfl) (by kernel_rfl) ?_
        repeat (go_big_quiet_step (fail))
        refine wpQuiet_nil ?_
        rintro wq ⟨⟨_, hu⟩, rfl⟩
        have HRq := Lib.hid (HR.out.next hu)
        have HBXq := Lib.hid (HBX.out.trans (hu.mono hws))
        have hws2 := HRq.out.size
        have e0 := cell_low hu b0
        have e1 := cell_low hu b1
        have e2 := cell_low hu b2
        have e3 := cell_low hu b3
        have f0 := cell_low hu hc0
        have f1 := cell_low hu hc1
        have f2 := cell_low hu hc2
        have f3 := cell_low hu hc3
        clear hu0 hu1 hu HR HBX b0 b1 b2 b3 hc0 hc1 hc2 hc3
        obtain ⟨xs, hown, hv⟩ := HRq.out.own
        have HOWN := Lib.hid hown
        have HV := Lib.hid hv
        clear hown hv
        go_wp2_with (at_builtin; refine wpList_append_lies _ rfl _ _ 41 rfl (w.heap.size + 1) 131 ti _ 4 48 Try.underlying41 HTI.out.1 HTI.out.2.1 HTI.out.2.2.1 HTI.out.2.2.2 rfl (by omega) (.slice A' out.length C') out.length xs rfl (HOWN.out.alloc _) ⟨wq.heap.size, 0, none⟩ 1 1 [.int .i64 yx, .int .i64 ys, .int .i64 yv, .slice ya (flen yk) yc] rfl rfl (World.news_of_block (heap_alloc_new _ _)) (by simp [Value.oneCell']) (by omega) (by unfold maxLen; omega) (by omega) (by simp; omega) (wq.heap.size + 1) (by simp) ?_; intro g3 cap3 w3 hown3 hgrow3 hat3 hg3; have HX3 := Lib.hid (BRowL.app HRq.out HOWN.out HV.out HYS.out hown3 hgrow3); have HLB3 := Lib.hid (BRowL.below HRq.out HOWN.out hgrow3); clear hown3 hgrow3 hat3 hg3)
        have hl2' : (out ++ [(yx, ys, yv, yk)]).length = out.length + 1 := by simp
        have HBX3 := Lib.hid (HBXq.out.trans HLB3.out)
        go_roundw
        case rel => exact ⟨j + 1, out ++ [(yx, ys, yv, yk)], some ⟨g3, 0, none⟩, cap3, true, by rw [hl2'], rfl, by go_num, by omega, by omega, HE2, HX3, HBX3⟩
        case measure => simp [intOf]; omega
      | false =>
        by_cases hgt : x < yx
        · have HE2 : Hid (ladd bs (x, s, v, k) = (out ++ [(x, s, v, k)] ++ [(yx, ys, yv, yk)]) ++ (if true = true then bs.drop (j + 1) else ladd (bs.drop (j + 1)) (x, s, v, k))) := by
            rw [Hid, HE.out, if_neg (by simp), if_pos rfl, HD.out]; simp only [ladd]; rw [if_pos hgt]; simp
          have gg : decide (yx > x) = true := decide_eq_true hgt
          have HOJ : Hid (out.length = j) := by have h := congrArg List.length HE.out; rw [ladd_len, List.length_append, if_neg (by simp), ladd_len, List.length_drop] at h; show out.length = j; omega
          clear HE HD
          go_wp2_with fail
          refine wp_region_after wr.heap.size (by kernel_rfl) (by kernel_rfl) ?_
          repeat (go_big_quiet_step (fail))
          refine wpQuiet_nil ?_
          rintro wq ⟨⟨_, hu⟩, rfl⟩
          have HRq := Lib.hid (HR.out.next hu)
          have HBXq := Lib.hid (HBX.out.trans (hu.mono hws))
          have hws2 := HRq.out.size
          have e0 := cell_low hu b0
          have e1 := cell_low hu b1
          have e2 := cell_low hu b2
          have e3 := cell_low hu b3
          have f0 := cell_low hu hc0
          have f1 := cell_low hu hc1
          have f2 := cell_low hu hc2
          have f3 := cell_low hu hc3
          clear hu0 hu1 hu HR HBX b0 b1 b2 b3 hc0 hc1 hc2 hc3
          obtain ⟨xs, hown, hv⟩ := HRq.out.own
          have HOWN := Lib.hid hown
          have HV := Lib.hid hv
          clear hown hv
          go_wp2_with (first | (at_builtin; refine wpList_append_lies _ rfl _ _ 41 rfl (w.heap.size + 1) 131 ti _ 4 48 Try.underlying41 HTI.out.1 HTI.out.2.1 HTI.out.2.2.1 HTI.out.2.2.2 rfl (by omega) (.slice A' out.length C') out.length xs rfl (HOWN.out.alloc _) ⟨wq.heap.size, 0, none⟩ 1 1 [.int .i64 x, .int .i64 s, .int .i64 v, .slice a (flen k) c] rfl rfl (World.news_of_block (heap_alloc_new _ _)) (by simp [Value.oneCell']) (by omega) (by unfold maxLen; omega) (by omega) (by simp; omega) (wq.heap.size + 1) (by simp) ?_; intro g3 cap3 w3 hown3 hgrow3 hat3 hg3; have HX3 := Lib.hid (BRowL.app HRq.out HOWN.out HV.out HK.out hown3 hgrow3); have HLB3 := Lib.hid (BRowL.below HRq.out HOWN.out hgrow3); have k0 : w3.cell? ⟨rb, ro + j * 4, none⟩ = some (.int .i64 yx) := (by rw [HLB3.out.cell (by simp; omega)]; exact f0); have k1 : w3.cell? ⟨rb, ro + j * 4 + 1, none⟩ = some (.int .i64 ys) := (by rw [HLB3.out.cell (by simp; omega)]; exact f1); have k2 : w3.cell? ⟨rb, ro + j * 4 + 1 + 1, none⟩ = some (.int .i64 yv) := (by rw [HLB3.out.cell (by simp; omega)]; exact f2); have k3 : w3.cell? ⟨rb, ro + j * 4 + 1 + 2, none⟩ = some (.slice ya (flen yk) yc) := (by rw [HLB3.out.cell (by simp; omega)]; exact f3); have hl2' : (out ++ [(x, s, v, k)]).length = out.length + 1 := (by simp); have HBX3 := Lib.hid (HBXq.out.trans HLB3.out); have hws3 := HX3.out.size; obtain ⟨xs3, hown9, hv9⟩ := HX3.out.own; have HOWN3 := Lib.hid hown9; have HV3 := Lib.hid hv9; clear hown9 hv9 hown3 hgrow3 hat3 hg3 f0 f1 f2 f3 e0 e1 e2 e3) | (at_builtin; refine wpList_append_lies _ rfl _ _ 41 rfl (w.heap.size + 1) 131 ti _ 4 48 Try.underlying41 HTI.out.1 HTI.out.2.1 HTI.out.2.2.1 HTI.out.2.2.2 rfl (by omega) (.slice (some ⟨g3, 0, none⟩) (out.length + 1) cap3) (out.length + 1) xs3 rfl (by have h9 := HOWN3.out.alloc (.cells #[.int .i64 yx, .int .i64 ys, .int .i64 yv, .slice ya (flen yk) yc] 131); rw [hl2'] at h9; exact h9) ⟨w3.heap.size, 0, none⟩ 1 1 [.int .i64 yx, .int .i64 ys, .int .i64 yv, .slice ya (flen yk) yc] rfl rfl (World.news_of_block (heap_alloc_new _ _)) (by simp [Value.oneCell']) (by omega) (by unfold maxLen; omega) (by omega) (by simp; omega) (w3.heap.size + 1) (by simp) ?_; intro g5 cap5 w5 hown5 hgrow5 hat5 hg5; have HX5 := Lib.hid (BRowL.app HX3.out HOWN3.out HV3.out HYS.out (by rw [hl2']; exact hown5) (by rw [hl2']; exact hgrow5)); have HLB5 := Lib.hid (BRowL.below HX3.out HOWN3.out (by rw [hl2']; exact hgrow5)); clear hown5 hgrow5 hat5 hg5))
          have hl5' : (out ++ [(x, s, v, k)] ++ [(yx, ys, yv, yk)]).length = out.length + 1 + 1 := by simp
          have HBX5 := Lib.hid (HBX3.out.trans HLB5.out)
          go_roundw
          case rel => exact ⟨j + 1, out ++ [(x, s, v, k)] ++ [(yx, ys, yv, yk)], some ⟨g5, 0, none⟩, cap5, true, by rw [hl5'], rfl, by go_num, by omega, by rw [hl5']; have := HOJ.out; omega, HE2, HX5, HBX5⟩
          case measure => simp [intOf]; omega
        · have HE2 : Hid (ladd bs (x, s, v, k) = (out ++ [(yx, ys, yv, yk)]) ++ (if false = true then bs.drop (j + 1) else ladd (bs.drop (j + 1)) (x, s, v, k))) := by
            rw [Hid, HE.out, if_neg (by simp), if_neg (by simp), HD.out]; simp only [ladd]; rw [if_neg hgt]; simp
          have gg : decide (yx > x) = false := decide_eq_false hgt
          clear HE HD
          go_wp2_with fail
          refine wp_region_after wr.heap.size (by kernel_rfl) (by kernel_rfl) ?_
          repeat (go_big_quiet_step (fail))
          refine wpQuiet_nil ?_
          rintro wq ⟨⟨_, hu⟩, rfl⟩
          have HRq := Lib.hid (HR.out.next hu)
          have HBXq := Lib.hid (HBX.out.trans (hu.mono hws))
          have hws2 := HRq.out.size
          have e0 := cell_low hu b0
          have e1 := cell_low hu b1
          have e2 := cell_low hu b2
          have e3 := cell_low hu b3
          have f0 := cell_low hu hc0
          have f1 := cell_low hu hc1
          have f2 := cell_low hu hc2
          have f3 := cell_low hu hc3
          clear hu0 hu1 hu HR HBX b0 b1 b2 b3 hc0 hc1 hc2 hc3
          obtain ⟨xs, hown, hv⟩ := HRq.out.own
          have HOWN := Lib.hid hown
          have HV := Lib.hid hv
          clear hown hv
          go_wp2_with (at_builtin; refine wpList_append_lies _ rfl _ _ 41 rfl (w.heap.size + 1) 131 ti _ 4 48 Try.underlying41 HTI.out.1 HTI.out.2.1 HTI.out.2.2.1 HTI.out.2.2.2 rfl (by omega) (.slice A' out.length C') out.length xs rfl (HOWN.out.alloc _) ⟨wq.heap.size, 0, none⟩ 1 1 [.int .i64 yx, .int .i64 ys, .int .i64 yv, .slice ya (flen yk) yc] rfl rfl (World.news_of_block (heap_alloc_new _ _)) (by simp [Value.oneCell']) (by omega) (by unfold maxLen; omega) (by omega) (by simp; omega) (wq.heap.size + 1) (by simp) ?_; intro g3 cap3 w3 hown3 hgrow3 hat3 hg3; have HX3 := Lib.hid (BRowL.app HRq.out HOWN.out HV.out HYS.out hown3 hgrow3); have HLB3 := Lib.hid (BRowL.below HRq.out HOWN.out hgrow3); clear hown3 hgrow3 hat3 hg3)
          have hl2' : (out ++ [(yx, ys, yv, yk)]).length = out.length + 1 := by simp
          have HBX3 := Lib.hid (HBXq.out.trans HLB3.out)
          go_roundw
          case rel => exact ⟨j + 1, out ++ [(yx, ys, yv, yk)], some ⟨g3, 0, none⟩, cap3, false, by rw [hl2'], rfl, by go_num, by omega, by omega, HE2, HX3, HBX3⟩
          case measure => simp [intOf]; omega
    · obtain ⟨xs, hown, hv⟩ := HR.out.own
      have HOWN := Lib.hid hown
      have HV := Lib.hid hv
      clear hown hv
      cases dn with
      | true =>
        have HF : Hid (out = ladd bs (x, s, v, k)) := by rw [Hid, HE.out, if_pos rfl, List.drop_eq_nil_of_le (by omega)]; simp
        go_wp2_with fail
        go_ret
        refine ⟨A', C', ?_, ?_⟩
        · rw [← HF.out]; rfl
        · rw [← HF.out]; exact HR.out
      | false =>
        have HF : Hid (out ++ [(x, s, v, k)] = ladd bs (x, s, v, k)) := by rw [Hid, HE.out, if_neg (by simp), ladd_end (by omega)]
        go_wp2_with (at_builtin; refine wpList_append_lies _ rfl _ _ 41 rfl (w.heap.size + 1) 131 ti _ 4 48 Try.underlying41 HTI.out.1 HTI.out.2.1 HTI.out.2.2.1 HTI.out.2.2.2 rfl (by omega) (.slice A' out.length C') out.length xs rfl (HOWN.out.alloc _) ⟨wr.heap.size, 0, none⟩ 1 1 [.int .i64 x, .int .i64 s, .int .i64 v, .slice a (flen k) c] rfl rfl (World.news_of_block (heap_alloc_new _ _)) (by simp [Value.oneCell']) (by omega) (by unfold maxLen; omega) (by omega) (by simp; omega) (wr.heap.size + 1) (by simp) ?_; intro g cap w3 hown3 hgrow3 hat3 hg3; have HX3 := Lib.hid (BRowL.app HR.out HOWN.out HV.out HK.out hown3 hgrow3); have HLB3 := Lib.hid (BRowL.below HR.out HOWN.out hgrow3); clear hown3 hgrow3 hat3 hg3)
        go_wp2_with fail
        go_ret
        have hl2' : (out ++ [(x, s, v, k)]).length = out.length + 1 := by simp
        refine ⟨some ⟨g, 0, none⟩, cap, ?_, ?_⟩
        · rw [← HF.out, hl2']; rfl
        · rw [← HF.out]; exact HX3.out
end Go.Proofs.Ytdkcbbhkoibplaa
