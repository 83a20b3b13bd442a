/- Several texts in one: MS2. -/
import Derived.Test.YtdkcbbhkoibplaaKLn17

/-! MS2: l2Match of the specification, its terms in blocks from lo on (out of MS by program). -/
namespace Go.Proofs.Ytdkcbbhkoibplaa
open Go.RowKit Go.Deep

theorem BSl.lo {w w2 : World} {lo : Nat} {A : Option Addr} {bs : List Bd} (h : BSl w lo w.heap.size A bs) (hb : Below w.heap.size w w2) : BSl w2 lo w2.heap.size A bs := (h.same (Same.of_below hb)).mono (Nat.le_refl _) hb.size
/-- A row of binds within its capacity. -/
def BSc (w : World) (lo B : Nat) (A : Option Addr) (C : Nat) (bs : List Bd) : Prop := BSl w lo B A bs ∧ bs.length ≤ C
theorem BSc.lo {w w2 : World} {lo : Nat} {A : Option Addr} {C : Nat} {bs : List Bd} (h : BSc w lo w.heap.size A C bs) (hb : Below w.heap.size w w2) : BSc w2 lo w2.heap.size A C bs := ⟨h.1.lo hb, h.2⟩
theorem BSc.same {w w' : World} {lo B : Nat} {A : Option Addr} {C : Nat} {bs : List Bd} (h : BSc w lo B A C bs) (hs : Same lo B w w') : BSc w' lo B A C bs := ⟨h.1.same hs, h.2⟩
theorem BSc.mono {w : World} {lo lo' B B' : Nat} {A : Option Addr} {C : Nat} {bs : List Bd} (h : BSc w lo B A C bs) (h1 : lo' ≤ lo) (h2 : B ≤ B') : BSc w lo' B' A C bs := ⟨h.1.mono h1 h2, h.2⟩
theorem BRowL.bsc {lo : Nat} {w wr : World} {base : Nat} {bs : List Bd} {A : Option Addr} {C : Nat} (h : BRowL lo w base bs A C wr) (hlo : lo ≤ w.heap.size) : BSc wr lo wr.heap.size A C bs := by
  refine ⟨h.bsl hlo, ?_⟩
  obtain ⟨xs, hown, _⟩ := h.own
  rcases hown.2 with ⟨hv, h0⟩ | ⟨g, cap, cur, hv, _, _, h1, _⟩
  · omega
  · simp only [Value.slice.injEq] at hv
    omega
def LmPostL (lo : Nat) (bs : List Bd) (s v : Int) (k : Fo) (s' v' : Int) (k' : Fo) (w : World) (e : Ending) (w' : World) : Prop :=
  ∃ A C b1 t, e = .returned (.tuple #[.slice A (List.length b1) C, .bool t]) ∧ Below w.heap.size w w' ∧ BSc w' lo w'.heap.size A C b1 ∧ ((t = true ∧ tmt bs s v k s' v' k' = some b1) ∨ (t = false ∧ tmt bs s v k s' v' k' = none))

set_option maxRecDepth 100000 in
set_option maxHeartbeats 4000000 in
theorem l2Match_lo (lo N : Nat) : ∀ (bs : List Bd) (A : Option Addr) (C : Nat) (s v : Int) (a : Option Addr) (c : Nat) (k : Fo) (s' v' : Int) (a' : Option Addr) (c' : Nat) (k' : Fo) (w : World), BSc w lo w.heap.size A C bs → lo ≤ w.heap.size → Bof bs 100 → Sl w 0 w.heap.size a k → Sl w 0 w.heap.size a' k' → okN s v (flen k) = true → fok k = true → okN s' v' (flen k') = true → fok k' = true → fsz k' ≤ 100 → fsz k ≤ N → N ≤ 100 → bs.length + (1 + fsz k) ≤ 1000 →
    Calls Try.prog 93 #[.slice A bs.length C, .agg #[.int .i64 s, .int .i64 v, .slice a (flen k) c], .agg #[.int .i64 s', .int .i64 v', .slice a' (flen k') c']] w (LmPostL lo bs s v k s' v' k' w) := by
  induction N using Nat.strongRecOn with
  | _ N ih =>
    intro bs A C s v a c k s' v' a' c' k' w hbs hlo hbo hl hl' hok hfk hok' hfk' hz' hN hN2 hbl
    have hfl := flen_le_sz k
    have IH := Lib.hid ih
    have HFK := Lib.hid hfk
    have HFK' := Lib.hid hfk'
    have HOK := Lib.hid hok
    have HOK' := Lib.hid hok'
    have HBO := Lib.hid hbo
    have HBS0 := Lib.hid hbs
    have hb0 : Below w.heap.size w ((w.alloc (.cells #[.int .i64 s, .int .i64 v, .slice a (flen k) c] 35)).alloc (.cells #[.int .i64 s', .int .i64 v', .slice a' (flen k') c'] 35)) := ((Below.refl _ _).alloc (Nat.le_refl _) _).alloc (by simp) _
    have HB0 := Lib.hid hb0
    have HBS := Lib.hid (hbs.lo hb0)
    have HSL := Lib.hid hl
    have HSL' := Lib.hid hl'
    have HBX : Hid (Below (w.heap.size + 2) ((w.alloc (.cells #[.int .i64 s, .int .i64 v, .slice a (flen k) c] 35)).alloc (.cells #[.int .i64 s', .int .i64 v', .slice a' (flen k') c'] 35)) ((w.alloc (.cells #[.int .i64 s, .int .i64 v, .slice a (flen k) c] 35)).alloc (.cells #[.int .i64 s', .int .i64 v', .slice a' (flen k') c'] 35))) := Below.refl _ _
    clear ih hfk hfk' hok hok' hbo hbs hb0 hl hl'
    by_cases hs0 : s = 0
    · subst hs0
      have hk0 := kids_none HOK.out
      subst hk0
      have hv := ((okN_iff _ _ _).1 HOK.out).2.1 rfl
      go_enter Try.func93, Try.ntmps93
      go_wp2_with fail
      go_loopw [8] (fun i wr => ∃ j : Nat, i = .int .i64 j ∧ j ≤ bs.length ∧ Hid (sv bs v = sv (bs.drop j) v) ∧ Hid (Below (w.heap.size + 2) ((w.alloc (.cells #[.int .i64 0, .int .i64 v, .slice a (flen .nil) c] 35)).alloc (.cells #[.int .i64 s', .int .i64 v', .slice a' (flen k') c'] 35)) wr)) (fun i _ => bs.length - (intOf i).toNat)
      case atStart => exact ⟨0, rfl, Nat.zero_le _, by simp [Hid], HBX⟩
      case round =>
        clear HBX
        obtain ⟨j, rfl, hj, HS, HBL⟩ := hrel
        have hsr := HBL.out.size
        simp at hsr
        obtain ⟨hx0, hx1, hx2, hy0, hy1, hy2⟩ := two_boxesM HBL.out
        have HBW := Lib.hid (HB0.out.trans (HBL.out.mono (show w.heap.size ≤ w.heap.size + 2 by omega)))
        by_cases hlt : j < bs.length
        · obtain ⟨y, hy⟩ : ∃ y, bs[j]? = some y := ⟨bs[j], List.getElem?_eq_getElem hlt⟩
          obtain ⟨yx, ys, yv, yk⟩ := y
          have hbr := (HBS0.out.lo HBW.out).1
          rcases hbr with hbr | ⟨rb, ro, rfl, _, hbB, hcells⟩
          · subst hbr; simp at hy
          obtain ⟨ya, yc, d0, d1, d2, d3, hsl⟩ := hcells j _ hy
          dsimp only at d0 d1 d2 d3 hsl
          have HYS := Lib.hid hsl
          have HD := Lib.hid (drop_bd hy)
          have g1 : (0 : Int) ≤ (j : Int) := by omega
          have g2 : (j : Int) < (bs.length : Int) := by omega
          clear hcells hy hsl
          have hu0 : ∀ u : After wr.heap.size wr, u.world.cell? ⟨rb, ro + j * 4, none⟩ = some (.int .i64 yx) := fun u => cell_low u.below d0
          have hu1 : ∀ u : After wr.heap.size wr, u.world.cell? ⟨w.heap.size, 1, none⟩ = some (.int .i64 v) := fun u => cell_low u.below hx1
          by_cases hx : yx = v
          · subst hx
            have hxe : (yx == yx) = true := by simp
            have HT : Hid (sv bs yx = some (ys, yv, yk)) := by rw [Hid, HS.out, HD.out]; simp only [sv]; rw [if_pos trivial]
            have hyb := (HBO.out yx _ HT.out).2.2
            dsimp only at hyb
            clear HS HD
            go_wp2_with fail
            refine wp_region_after wr.heap.size (by kernel_rfl) (by kernel_rfl) ?_
            repeat (go_big_quiet_step (fail))
            refine wpQuiet_nil ?_
            rintro wq ⟨⟨_, hu⟩, rfl⟩
            have HUQ := Lib.hid hu
            have e1 := cell_low hu d1
            have e2 := cell_low hu d2
            have e3 := cell_low hu d3
            have f0 := cell_low hu hy0
            have f1 := cell_low hu hy1
            have f2 := cell_low hu hy2
            have HYQ := Lib.hid (HYS.out.next hu)
            have HTQ := Lib.hid (HSL'.out.next (below_next HBW.out hu))
            have HBQ := Lib.hid (HBS0.out.lo (below_next HBW.out hu))
            clear hu0 hu1 hu d0 d1 d2 d3 hx0 hx1 hx2 hy0 hy1 hy2
            have hu1 : ∀ u : After wq.heap.size wq, u.world.cell? ⟨rb, ro + j * 4 + 1, none⟩ = some (.int .i64 ys) := fun u => cell_low u.below e1
            have hu2 : ∀ u : After wq.heap.size wq, u.world.cell? ⟨rb, ro + j * 4 + 1 + 1, none⟩ = some (.int .i64 yv) := fun u => cell_low u.below e2
            have hu3 : ∀ u : After wq.heap.size wq, u.world.cell? ⟨rb, ro + j * 4 + 1 + 2, none⟩ = some (.slice ya (flen yk) yc) := fun u => cell_low u.below e3
            have hu4 : ∀ u : After wq.heap.size wq, u.world.cell? ⟨w.heap.size + 1, 0, none⟩ = some (.int .i64 s') := fun u => cell_low u.below f0
            have hu5 : ∀ u : After wq.heap.size wq, u.world.cell? ⟨w.heap.size + 1, 1, none⟩ = some (.int .i64 v') := fun u => cell_low u.below f1
            have hu6 : ∀ u : After wq.heap.size wq, u.world.cell? ⟨w.heap.size + 1, 2, none⟩ = some (.slice a' (flen k') c') := fun u => cell_low u.below f2
            have HCALL : Hid (∀ u : After wq.heap.size wq, Calls Try.prog 51 #[.agg #[.int .i64 ys, .int .i64 yv, .slice ya (flen yk) yc], .agg #[.int .i64 s', .int .i64 v', .slice a' (flen k') c']] u.world fun e w' => e = .returned (.bool (teq ys yv yk s' v' k')) ∧ Below u.world.heap.size u.world w') := fun u =>
              l1Same_any (fsz yk) ys yv ya yc yk s' v' a' c' k' u.world (HYQ.out.next u.below) (HTQ.out.next u.below) (Nat.le_refl _) (by omega)
            go_wp2_with fail
            refine wp_region_after wq.heap.size (by kernel_rfl) (by kernel_rfl) ?_
            repeat (go_big_quiet_step ((go_at_call 51; exact Calls.after (After.below ‹_›).size (HCALL.out _))))
            refine wpQuiet_nil ?_
            rintro u ⟨⟨_, hu⟩, rfl⟩
            have HU2 := Lib.hid hu
            clear hu hu1 hu2 hu3 hu4 hu5 hu6 e1 e2 e3 f0 f1 f2
            go_wp2_with fail
            have HP : Hid (LmPostL lo bs 0 yx .nil s' v' k' w (.returned (.tuple #[.slice (some ⟨rb, ro, none⟩) bs.length C, .bool (teq ys yv yk s' v' k')])) u) := by
              refine ⟨_, C, bs, _, rfl, below_next (below_next HBW.out HUQ.out) HU2.out, HBQ.out.lo HU2.out, ?_⟩
              rw [tmt_zero, mtV_found HT.out]
              dsimp only
              cases teq ys yv yk s' v' k' with
              | true => exact .inl ⟨rfl, rfl⟩
              | false => exact .inr ⟨rfl, rfl⟩
            refine bodyPost_ret (v := .tuple #[.slice (some ⟨rb, ro, none⟩) bs.length C, .bool (teq ys yv yk s' v' k')]) ?_ rfl HP.out
            simp [results, Try.results93, go_sem]
          · have hxe : (yx == v) = false := by simpa using hx
            have HN : Hid (sv bs v = sv (bs.drop (j + 1)) v) := by rw [Hid, HS.out, HD.out]; simp only [sv]; rw [if_neg hx]
            clear HS HD
            go_wp2_with fail
            refine wp_region_after wr.heap.size (by kernel_rfl) (by kernel_rfl) ?_
            repeat (go_big_quiet_step (fail))
            refine wpQuiet_nil ?_
            rintro wq ⟨⟨_, hu⟩, rfl⟩
            have HBL2 := Lib.hid (HBL.out.trans (hu.mono hsr))
            clear hu hu0 hu1 d0 d1 d2 d3 hx0 hx1 hx2 hy0 hy1 hy2
            go_wp2_with fail
            go_roundw
            case rel => exact ⟨j + 1, by go_num, by omega, HN, HBL2⟩
            case measure => simp [intOf]; omega
        · have HT : Hid (sv bs v = none) := by rw [Hid, HS.out, List.drop_eq_nil_of_le (by omega)]; rfl
          have hu1 : ∀ u : After wr.heap.size wr, u.world.cell? ⟨w.heap.size, 1, none⟩ = some (.int .i64 v) := fun u => cell_low u.below hx1
          have hu4 : ∀ u : After wr.heap.size wr, u.world.cell? ⟨w.heap.size + 1, 0, none⟩ = some (.int .i64 s') := fun u => cell_low u.below hy0
          have hu5 : ∀ u : After wr.heap.size wr, u.world.cell? ⟨w.heap.size + 1, 1, none⟩ = some (.int .i64 v') := fun u => cell_low u.below hy1
          have hu6 : ∀ u : After wr.heap.size wr, u.world.cell? ⟨w.heap.size + 1, 2, none⟩ = some (.slice a' (flen k') c') := fun u => cell_low u.below hy2
          clear HS hx0 hx1 hx2 hy0 hy1 hy2
          go_wp2_with fail
          refine wp_region_mix (fun w' => ∃ u : After wr.heap.size wr, w' = u.world) [] [(0, 0), (1, 0), (2, 0), (3, 0), (4, 1), (5, 1), (6, 1), (7, 1), (8, 1)] (by kernel_rfl) (by kernel_rfl) ⟨⟨_, (Below.refl _ _).drew⟩, rfl⟩ ?_
          have HBD : Hid (Below wr.heap.size wr wr.drew) := (Below.refl _ _).drew
          generalize wr.drew = wd at *
          iterate 4
            refine mix_see rfl (fun K hK => ?_)
            go_simp
            refine hK _ ?_
            clear hK K
          clear hu1 hu4 hu5 hu6
          refine mix_hold rfl (fun K hK => ?_)
          go_simp
          with_reducible refine (l1Copy_any (fsz k') s' v' a' c' k' _ (HSL'.out.next (below_next HBW.out HBD.out)) (Nat.le_refl _) (by omega)).mono ?_
          rintro e w2 ⟨a2, c2, rfl, hb2, ho2⟩
          have HB2 := Lib.hid (below_next HBD.out hb2)
          have HL2 : Hid (Sl w2 lo w2.heap.size a2 k') := ho2.sl.mono (by have h1 := HBW.out.size; have h2 := HBD.out.size; omega) (Nat.le_refl _)
          refine hK _ _ ⟨⟨_, HB2.out⟩, rfl⟩ ?_
          clear hK K hb2 ho2
          refine mix_hold rfl (fun K hK => ?_)
          go_simp
          refine hK _ _ ⟨⟨_, HB2.out⟩, rfl⟩ ?_
          clear hK K
          refine mix_hold rfl (fun K hK => ?_)
          go_simp
          have hba := (HBS0.out.lo (below_next HBW.out HB2.out)).1
          with_reducible refine (l2Add_lo lo bs A C v s' v' a2 c2 k' _ hba (by omega) HL2.out).mono ?_
          rintro e w3 ⟨A3, C3, rfl, hrow⟩
          have HB3 := Lib.hid (below_next HB2.out hrow.low)
          have HR3 := Lib.hid (hrow.bsc (by have h1 := HBW.out.size; have h2 := HB2.out.size; omega))
          refine hK _ _ ⟨⟨_, HB3.out⟩, rfl⟩ ?_
          clear hK K hrow hba
          iterate 2
            refine mix_hold rfl (fun K hK => ?_)
            go_simp
            refine hK _ _ ⟨⟨_, HB3.out⟩, rfl⟩ ?_
            clear hK K
          refine mix_end ?_
          go_wp2_with fail
          have HP : Hid (LmPostL lo bs 0 v .nil s' v' k' w (.returned (.tuple #[.slice A3 (ladd bs (v, s', v', k')).length C3, .bool true])) w3) :=
            ⟨_, C3, _, _, rfl, below_next HBW.out HB3.out, HR3.out, .inl ⟨rfl, by rw [tmt_zero, mtV_none HT.out]⟩⟩
          refine bodyPost_ret (v := .tuple #[.slice A3 (ladd bs (v, s', v', k')).length C3, .bool true]) ?_ rfl HP.out
          simp [results, Try.results93, go_sem]
    · have hse : (s == 0) = false := by simpa using hs0
      by_cases hss : s = s'
      case neg =>
        have hne : (s != s') = true := by simp [hss]
        have HP : Hid (LmPostL lo bs s v k s' v' k' w (.returned (.tuple #[.slice A bs.length C, .bool false])) ((w.alloc (.cells #[.int .i64 s, .int .i64 v, .slice a (flen k) c] 35)).alloc (.cells #[.int .i64 s', .int .i64 v', .slice a' (flen k') c'] 35))) :=
          ⟨A, C, bs, false, rfl, HB0.out, HBS.out, .inr ⟨rfl, tmt_other hs0 hss⟩⟩
        clear HBX
        go_enter Try.func93, Try.ntmps93
        go_wp2_with fail
        refine bodyPost_ret (v := .tuple #[.slice A bs.length C, .bool false]) ?_ rfl HP.out
        simp [results, Try.results93, go_sem]
      subst hss
      have hne : (s != s) = false := by simp
      have HFL := Lib.hid (flen_same HOK.out HOK'.out)
      have HTS := Lib.hid (tmt_sym (bs := bs) (v := v) (v' := v') (k := k) (k' := k') hs0)
      go_enter Try.func93, Try.ntmps93
      go_wp2_with fail
      go_loopw [0, 9] (fun o i wr => ∃ (j : Nat) (b1 : List Bd) (A1 : Option Addr) (C1 : Nat), o = .slice A1 b1.length C1 ∧ i = .int .i64 j ∧ j ≤ flen k ∧ Hid (fmt bs k k' = fmt b1 (fdrop j k) (fdrop j k')) ∧ Hid (Bof b1 100) ∧ Hid (b1.length + fsz (fdrop j k) ≤ bs.length + fsz k) ∧ Hid (BSc wr lo wr.heap.size A1 C1 b1) ∧ Hid (Below (w.heap.size + 2) ((w.alloc (.cells #[.int .i64 s, .int .i64 v, .slice a (flen k) c] 35)).alloc (.cells #[.int .i64 s, .int .i64 v', .slice a' (flen k') c'] 35)) wr)) (fun _ i _ => flen k - (intOf i).toNat)
      case atStart => exact ⟨0, bs, A, C, rfl, rfl, Nat.zero_le _, rfl, HBO, Nat.le_refl _, HBS, HBX⟩
      case round =>
        clear HBX HBS HBO
        obtain ⟨j, b1, A1, C1, rfl, rfl, hj, HF, HBO, HLN, HBS, HBL⟩ := hrel
        have hsr := HBL.out.size
        simp at hsr
        obtain ⟨hx0, hx1, hx2, hy0, hy1, hy2⟩ := two_boxesM HBL.out
        have HBW := Lib.hid (HB0.out.trans (HBL.out.mono (show w.heap.size ≤ w.heap.size + 2 by omega)))
        by_cases hlt : j < flen k
        · have hlt' : j < flen k' := by rw [← HFL.out]; exact hlt
          have hnr := HSL.out.next HBW.out
          rcases hnr with rfl | ⟨b, o, rfl, hrow⟩
          · simp [flen] at hlt
          have hnr' := HSL'.out.next HBW.out
          rcases hnr' with rfl | ⟨b', o', rfl, hrow'⟩
          · simp [flen] at hlt'
          obtain ⟨s1, v1, k1, a1, c1, ⟨x, y, hd⟩, _, hbB, q0, q1, q2, hsl⟩ := row_at hrow hlt
          obtain ⟨s2, v2, k2, a2, c2, ⟨x2, y2, hd'⟩, _, hbB', q3, q4, q5, hsl2⟩ := row_at hrow' hlt'
          have hk1 := fok_kid HFK.out hd
          have hk2 := fok_kid HFK'.out hd'
          have z1 := fsz_kid hd
          have z2 := fsz_kid hd'
          have HST := Lib.hid (fmt_step (bs := b1) hd hd')
          have hzd := fsz_dropN hd
          have hl1 := HLN.out
          have HZ : Hid (b1.length + (1 + fsz k1) + fsz (fdrop (j + 1) k) ≤ bs.length + fsz k) := by show _ ≤ _; omega
          have HCALL : Hid (∀ u : After wr.heap.size wr, Calls Try.prog 93 #[.slice A1 b1.length C1, .agg #[.int .i64 s1, .int .i64 v1, .slice a1 (flen k1) c1], .agg #[.int .i64 s2, .int .i64 v2, .slice a2 (flen k2) c2]] u.world (LmPostL lo b1 s1 v1 k1 s2 v2 k2 u.world)) := fun u =>
            IH.out (fsz k1) (by omega) b1 A1 C1 s1 v1 a1 c1 k1 s2 v2 a2 c2 k2 u.world (HBS.out.lo u.below) (by have h1 := u.below.size; have h2 := HBW.out.size; omega) HBO.out (hsl.next u.below) (hsl2.next u.below) hk1.1 hk1.2 hk2.1 hk2.2 (by omega) (Nat.le_refl _) (by omega) (by omega)
          have HOF : Hid (∀ b2, tmt b1 s1 v1 k1 s2 v2 k2 = some b2 → Bof b2 100) := fun b2 h => tmt_of h HBO.out hk2.1 hk2.2 (by omega)
          have g1 : (0 : Int) ≤ (j : Int) := by omega
          have g2 : (j : Int) < (flen k : Int) := by omega
          have g3 : (j : Int) < (flen k' : Int) := by omega
          clear hd hd' hk1 hk2 hrow hrow' hzd hl1 hsl hsl2
          have hu0 : ∀ u : After wr.heap.size wr, u.world.cell? ⟨b, o + j * 3, none⟩ = some (.int .i64 s1) := fun u => cell_low u.below q0
          have hu1 : ∀ u : After wr.heap.size wr, u.world.cell? ⟨b, o + j * 3 + 1, none⟩ = some (.int .i64 v1) := fun u => cell_low u.below q1
          have hu2 : ∀ u : After wr.heap.size wr, u.world.cell? ⟨b, o + j * 3 + 2, none⟩ = some (.slice a1 (flen k1) c1) := fun u => cell_low u.below q2
          have hu3 : ∀ u : After wr.heap.size wr, u.world.cell? ⟨b', o' + j * 3, none⟩ = some (.int .i64 s2) := fun u => cell_low u.below q3
          have hu4 : ∀ u : After wr.heap.size wr, u.world.cell? ⟨b', o' + j * 3 + 1, none⟩ = some (.int .i64 v2) := fun u => cell_low u.below q4
          have hu5 : ∀ u : After wr.heap.size wr, u.world.cell? ⟨b', o' + j * 3 + 2, none⟩ = some (.slice a2 (flen k2) c2) := fun u => cell_low u.below q5
          have hu6 : ∀ u : After wr.heap.size wr, u.world.cell? ⟨w.heap.size, 2, none⟩ = some (.slice (some ⟨b, o, none⟩) (flen k) c) := fun u => cell_low u.below hx2
          have hu7 : ∀ u : After wr.heap.size wr, u.world.cell? ⟨w.heap.size + 1, 2, none⟩ = some (.slice (some ⟨b', o', none⟩) (flen k') c') := fun u => cell_low u.below hy2
          go_wp2_with fail
          refine wp_region_mix (fun w' => ∃ u : After wr.heap.size wr, w' = u.world) [] [(0, 0), (1, 0), (2, 0), (3, 0), (4, 0), (5, 0), (6, 0), (7, 0), (8, 0), (9, 0), (10, 0), (11, 1), (12, 0), (13, 0), (14, 0), (15, 1), (16, 1)] (by kernel_rfl) (by kernel_rfl) ⟨⟨_, (Below.refl _ _).drew⟩, rfl⟩ ?_
          have HBD : Hid (Below wr.heap.size wr wr.drew) := (Below.refl _ _).drew
          generalize wr.drew = wd at *
          iterate 11
            refine mix_see rfl (fun K hK => ?_)
            go_simp
            refine hK _ ?_
            clear hK K
          clear hu0 hu1 hu2 hu3 hu4 hu5 hu6 hu7 q0 q1 q2 q3 q4 q5 hx0 hx1 hx2 hy0 hy1 hy2
          refine mix_hold rfl (fun K hK => ?_)
          go_simp
          with_reducible refine (HCALL.out ⟨wd, HBD.out⟩).mono ?_
          rintro e w2 ⟨A2, C2, b2, t2, rfl, hb2, hs2, hcase⟩
          have HB2 := Lib.hid (below_next HBD.out hb2)
          have HS2 := Lib.hid hs2
          refine hK _ _ ⟨⟨_, HB2.out⟩, rfl⟩ ?_
          clear hK K hb2 hs2 HCALL
          iterate 3
            refine mix_see rfl (fun K hK => ?_)
            go_simp
            refine hK _ ?_
            clear hK K
          iterate 2
            refine mix_hold rfl (fun K hK => ?_)
            go_simp
            refine hK _ _ ⟨⟨_, HB2.out⟩, rfl⟩ ?_
            clear hK K
          refine mix_end ?_
          rcases hcase with ⟨rfl, ht⟩ | ⟨rfl, ht⟩
          · have HF2 : Hid (fmt bs k k' = fmt b2 (fdrop (j + 1) k) (fdrop (j + 1) k')) := by rw [Hid, HF.out, HST.out, ht]; rfl
            have HB5 := Lib.hid (HOF.out b2 ht)
            have HL5 : Hid (b2.length + fsz (fdrop (j + 1) k) ≤ bs.length + fsz k) := by have h1 := tmt_blen ht; have h2 := HZ.out; show _ ≤ _; omega
            have HBL2 := Lib.hid (HBL.out.trans (HB2.out.mono hsr))
            clear ht
            go_wp2_with fail
            go_roundw
            case rel => exact ⟨j + 1, b2, A2, C2, rfl, by go_num, by omega, HF2, HB5, HL5, HS2, HBL2⟩
            case measure => simp [intOf]; omega
          · have HP : Hid (LmPostL lo bs s v k s v' k' w (.returned (.tuple #[.slice A1 b1.length C1, .bool false])) w2) :=
              ⟨A1, C1, b1, false, rfl, below_next HBW.out HB2.out, HBS.out.lo HB2.out, .inr ⟨rfl, by rw [HTS.out, HF.out, HST.out, ht]; rfl⟩⟩
            clear ht
            go_wp2_with fail
            refine bodyPost_ret (v := .tuple #[.slice A1 b1.length C1, .bool false]) ?_ rfl HP.out
            simp [results, Try.results93, go_sem]
        · have HP : Hid (LmPostL lo bs s v k s v' k' w (.returned (.tuple #[.slice A1 b1.length C1, .bool true])) wr) :=
            ⟨A1, C1, b1, true, rfl, HBW.out, HBS.out, .inl ⟨rfl, by rw [HTS.out, HF.out, fdrop_all (by omega), fdrop_all (k := k') (by have := HFL.out; omega)]; rfl⟩⟩
          go_wp2_with fail
          refine bodyPost_ret (v := .tuple #[.slice A1 b1.length C1, .bool true]) ?_ rfl HP.out
          simp [results, Try.results93, go_sem]
end Go.Proofs.Ytdkcbbhkoibplaa
