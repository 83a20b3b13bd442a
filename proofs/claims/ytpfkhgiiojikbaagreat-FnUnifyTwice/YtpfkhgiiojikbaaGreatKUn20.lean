/- Several texts in one: LB2, TH, V2, SB. -/
import Derived.Test.YtpfkhgiiojikbaaGreatKUn15
import Derived.Test.YtpfkhgiiojikbaaGreatKUn18
import Derived.Test.YtpfkhgiiojikbaaGreatKUn19
import Derived.Test.YtpfkhgiiojikbaaGreatKUn13
import Derived.Test.YtpfkhgiiojikbaaGreatKUn7
import Derived.Test.YtpfkhgiiojikbaaGreatKUn16
import Derived.Test.YtpfkhgiiojikbaaGreatKUn2

/-! LB2: A bind of a row, its cells. -/
namespace Go.Proofs.YtpfkhgiiojikbaaGreat
open Go.RowKit Go.Deep

theorem bsl_at {w : World} {lo B : Nat} {A : Option Addr} {bs : List Bd} {j : Nat} (h : BSl w lo B A bs) (hj : j < bs.length) :
    ∃ rb ro x s v k a c, A = some ⟨rb, ro, none⟩ ∧ bs[j]? = some (x, s, v, k) ∧ w.cell? ⟨rb, ro + j * 4, none⟩ = some (.int .i64 x) ∧ w.cell? ⟨rb, ro + j * 4 + 1, none⟩ = some (.int .i64 s) ∧ w.cell? ⟨rb, ro + j * 4 + 1 + 1, none⟩ = some (.int .i64 v) ∧ w.cell? ⟨rb, ro + j * 4 + 1 + 2, none⟩ = some (.slice a (flen k) c) ∧ Sl w lo B a k := by
  obtain ⟨y, hy⟩ : ∃ y, bs[j]? = some y := ⟨bs[j], List.getElem?_eq_getElem hj⟩
  obtain ⟨x, s, v, k⟩ := y
  rcases h with rfl | ⟨rb, ro, e, _, _, hc⟩
  · simp at hy
  · obtain ⟨a, c, c0, c1, c2, c3, hl⟩ := hc j _ hy
    exact ⟨rb, ro, x, s, v, k, a, c, e, hy, c0, c1, c2, c3, hl⟩
end Go.Proofs.YtpfkhgiiojikbaaGreat

/-! TH: The specification's l2Then: what variables stand for, if others are put into that. -/
namespace Go.Proofs.YtpfkhgiiojikbaaGreat
open Go.RowKit Go.Deep
attribute [local go_sem ↓] Go.wp_at_zero Go.wp_at_succ

def LtPost (bs us : List Bd) (w : World) (e : Ending) (w' : World) : Prop :=
  ∃ A C, e = .returned (.slice A (List.length (thL bs us)) C) ∧ Below w.heap.size w w' ∧ BSl w' 0 w'.heap.size A (thL bs us)
theorem sv_take {bs : List Bd} {m : Nat} {y : Bd} (hy : bs[m]? = some y) (x : Int) : (sv (bs.take (m + 1)) x).isSome = ((sv (bs.take m) x).isSome || (y.1 == x)) := by
  have ht : bs.take (m + 1) = bs.take m ++ [y] := by rw [List.take_add_one, hy]; rfl
  rw [ht]
  generalize bs.take m = l
  induction l with
  | nil => simp only [List.nil_append, sv]; by_cases e : y.1 = x <;> simp [e]
  | cons z r ih =>
    simp only [List.cons_append, sv]
    by_cases e : z.1 = x
    · simp [e]
    · rw [if_neg e, if_neg e, ih]

set_option maxRecDepth 100000 in
set_option maxHeartbeats 4000000 in
theorem l2Then_any (bs us : List Bd) (A B : Option Addr) (C D : Nat) (w : World) (hb : BSl w 0 w.heap.size A bs) (hu : BSl w 0 w.heap.size B us) (hbl : bs.length ≤ 1000) (hul : us.length ≤ 1000) (hbo : ∀ x ∈ bs, okN x.2.1 x.2.2.1 (flen x.2.2.2) = true ∧ fok x.2.2.2 = true ∧ fsz x.2.2.2 ≤ 1000) (huz : ∀ x ∈ us, fsz x.2.2.2 ≤ 1000000) (huv : ∀ x t, sv us x = some t → fsz t.2.2 ≤ 1000000) :
    Calls Tryz.prog 66 #[.slice A bs.length C, .slice B us.length D] w (LtPost bs us w) := by
  have HB := Lib.hid hb
  have HU := Lib.hid hu
  have HBO := Lib.hid hbo
  have HUZ := Lib.hid huz
  have HUV := Lib.hid huv
  have HS0 : Hid (BSl (w.alloc (.cells #[] 39)) 0 (w.alloc (.cells #[] 39)).heap.size (some ⟨w.heap.size, 0, none⟩) []) := .inl rfl
  have HW0 : Hid (Below w.heap.size w (w.alloc (.cells #[] 39))) := (Below.refl _ _).alloc (Nat.le_refl _) _
  clear hb hu hbo huz huv
  go_enter Tryz.func66, Tryz.ntmps66
  go_wp2_with fail
  go_loopw [5, 6] (fun o i wr => ∃ (j : Nat) (out : List Bd) (A1 : Option Addr) (C1 : Nat), o = .slice A1 out.length C1 ∧ i = .int .i64 j ∧ j ≤ bs.length ∧ Hid (out.length = j) ∧ Hid (th1 us bs [] = th1 us (bs.drop j) out) ∧ Hid (BSl wr 0 wr.heap.size A1 out) ∧ Hid (Below w.heap.size w wr)) (fun _ i _ => bs.length - (intOf i).toNat)
  case atStart => exact ⟨0, [], _, 0, rfl, rfl, Nat.zero_le _, rfl, by simp [Hid], HS0, HW0⟩
  case round =>
    clear HS0 HW0
    obtain ⟨j, out, A1, C1, rfl, rfl, hj, HOL, HTH, HOS, HBW⟩ := hrel
    by_cases hlt : j < bs.length
    · obtain ⟨rb, ro, x, s, v, k, a, c, hA, hy, d0, d1, d2, d3, hsl⟩ := bsl_at (HB.out.next HBW.out) hlt
      subst hA
      have hko := HBO.out _ (List.mem_of_getElem? hy)
      dsimp only at hko
      have HKO := Lib.hid hko
      have hk3 := hko.2.2
      have HSL := Lib.hid hsl
      have HD := Lib.hid (drop_bd hy)
      have g1 : (0 : Int) ≤ (j : Int) := by omega
      have g2 : (j : Int) < (bs.length : Int) := by omega
      clear hko hsl hy
      have hu0 : ∀ u : After wr.heap.size wr, u.world.cell? ⟨rb, ro + j * 4, none⟩ = some (.int .i64 x) := fun u => cell_low u.below d0
      have hu1 : ∀ u : After wr.heap.size wr, u.world.cell? ⟨rb, ro + j * 4 + 1, none⟩ = some (.int .i64 s) := fun u => cell_low u.below d1
      have hu2 : ∀ u : After wr.heap.size wr, u.world.cell? ⟨rb, ro + j * 4 + 1 + 1, none⟩ = some (.int .i64 v) := fun u => cell_low u.below d2
      have hu3 : ∀ u : After wr.heap.size wr, u.world.cell? ⟨rb, ro + j * 4 + 1 + 2, none⟩ = some (.slice a (flen k) c) := fun u => cell_low u.below d3
      clear d0 d1 d2 d3
      go_wp2_with fail
      refine wp_region_mix (fun w' => ∃ u : After wr.heap.size wr, w' = u.world) [] [(0, 0), (1, 0), (2, 0), (3, 0), (4, 0), (5, 0), (6, 0), (7, 0), (8, 0), (9, 0), (10, 0), (11, 0), (12, 1), (13, 0), (14, 1), (15, 1)] (by kernel_rfl) (by kernel_rfl) ⟨⟨_, (Below.refl _ _).drew⟩, rfl⟩ ?_
      have HBD : Hid (Below wr.heap.size wr wr.drew) := (Below.refl _ _).drew
      generalize wr.drew = wd at *
      iterate 12
        refine mix_see rfl (fun K hK => ?_)
        go_simp
        refine hK _ ?_
        clear hK K
      clear hu0 hu1 hu2 hu3
      refine mix_hold rfl (fun K hK => ?_)
      go_simp
      with_reducible refine (l2Put_any us B D (by omega) HUV.out (fsz k) s v a c k _ (HU.out.next (below_next HBW.out HBD.out)) (HSL.out.next HBD.out) HKO.out.1 HKO.out.2.1 (Nat.le_refl _) (by omega)).mono ?_
      have HT : Hid (th1 us bs [] = th1 us (bs.drop (j + 1)) (ladd out (x, tsub (sv us) s v k))) := by rw [Hid, HTH.out, HD.out]; rfl
      generalize tsub (sv us) s v k = tt at *
      obtain ⟨s3, v3, k3⟩ := tt
      rintro e w2 ⟨a2, c2, rfl, hb2, ho2⟩
      dsimp only at ho2
      have HB2 := Lib.hid (below_next HBD.out hb2)
      have HL2 : Hid (Sl w2 0 w2.heap.size a2 k3) := ho2.sl.mono (Nat.zero_le _) (Nat.le_refl _)
      refine hK _ _ ⟨⟨_, HB2.out⟩, rfl⟩ ?_
      clear hK K hb2 ho2
      refine mix_see rfl (fun K hK => ?_)
      go_simp
      refine hK _ ?_
      clear hK K
      refine mix_hold rfl (fun K hK => ?_)
      go_simp
      with_reducible refine (l2Add_any out A1 C1 x s3 v3 a2 c2 k3 _ (HOS.out.next HB2.out) (by have := HOL.out; omega) HL2.out).mono ?_
      rintro e w3 ⟨A3, C3, rfl, hrow⟩
      have HB3 := Lib.hid (below_next HB2.out hrow.low)
      have HR3 := Lib.hid hrow.bsl
      refine hK _ _ ⟨⟨_, HB3.out⟩, rfl⟩ ?_
      clear hK K hrow
      refine mix_hold rfl (fun K hK => ?_)
      go_simp
      refine hK _ _ ⟨⟨_, HB3.out⟩, rfl⟩ ?_
      clear hK K
      refine mix_end ?_
      have HW3 := Lib.hid (below_next HBW.out HB3.out)
      have HOL2 : Hid ((ladd out (x, s3, v3, k3)).length = j + 1) := by rw [Hid, ladd_len, HOL.out]
      go_wp2_with fail
      go_roundw
      case rel => exact ⟨j + 1, _, A3, C3, rfl, by go_num, by omega, HOL2, HT, HR3, HW3⟩
      case measure => simp [intOf]; omega
    · have HT1 : Hid (th1 us bs [] = out) := by rw [Hid, HTH.out, List.drop_eq_nil_of_le (by omega)]; rfl
      have HST : Hid (thL bs us = th2 bs (us.drop 0) out) := by unfold Hid thL; rw [HT1.out, List.drop_zero]
      clear HTH
      go_wp2_with fail
      go_loopw [5, 7] (fun o i wr2 => ∃ (m : Nat) (out2 : List Bd) (A2 : Option Addr) (C2 : Nat), o = .slice A2 out2.length C2 ∧ i = .int .i64 m ∧ m ≤ us.length ∧ Hid (out2.length ≤ 1000 + m) ∧ Hid (thL bs us = th2 bs (us.drop m) out2) ∧ Hid (BSl wr2 0 wr2.heap.size A2 out2) ∧ Hid (Below w.heap.size w wr2)) (fun _ i _ => us.length - (intOf i).toNat)
      case atStart => exact ⟨0, out, A1, C1, rfl, rfl, Nat.zero_le _, by have := HOL.out; show _ ≤ _; omega, HST, HOS, HBW⟩
      case round =>
        clear HST HOS HBW HOL HT1
        obtain ⟨m, out2, A2, C2, rfl, rfl, hm, HOL2, HST2, HOS2, HBW2⟩ := hrel
        obtain ⟨wr2, rfl⟩ : ∃ z, z = wr := ⟨_, rfl⟩
        by_cases hlt2 : m < us.length
        · obtain ⟨rb, ro, x, s, v, k, a, c, hA, hy, d0, d1, d2, d3, hsl⟩ := bsl_at (HU.out.next HBW2.out) hlt2
          subst hA
          have hkz := HUZ.out _ (List.mem_of_getElem? hy)
          dsimp only at hkz
          have HSL := Lib.hid hsl
          have HDR := Lib.hid (drop_bd hy)
          have g1 : (0 : Int) ≤ (m : Int) := by omega
          have g2 : (m : Int) < (us.length : Int) := by omega
          have HD0 := Lib.hid d0
          have HD1 := Lib.hid d1
          have HD2 := Lib.hid d2
          have HD3 := Lib.hid d3
          clear hsl hy d0 d1 d2 d3
          go_wp2_with fail
          go_loopw [8, 9] (fun t i wq => ∃ m2 : Nat, t = .bool (sv (bs.take m2) x).isSome ∧ i = .int .i64 m2 ∧ m2 ≤ bs.length ∧ Hid (Below wr2.heap.size wr2 wq)) (fun _ i _ => bs.length - (intOf i).toNat)
          case atStart => exact ⟨0, rfl, rfl, Nat.zero_le _, Below.refl _ _⟩
          case round =>
            obtain ⟨m2, rfl, rfl, hm2, HQ⟩ := hrel
            obtain ⟨wq, rfl⟩ : ∃ z, z = wr := ⟨_, rfl⟩
            by_cases hlt3 : m2 < bs.length
            · obtain ⟨qb, qo, y, ys, yv, yk, ya, yc, hA, hy, e0, e1, e2, e3, _⟩ := bsl_at (HB.out.next (below_next HBW2.out HQ.out)) hlt3
              subst hA
              have HTK := Lib.hid (sv_take hy x)
              have g3 : (0 : Int) ≤ (m2 : Int) := by omega
              have g4 : (m2 : Int) < (bs.length : Int) := by omega
              have hu0 : ∀ u : After wq.heap.size wq, u.world.cell? ⟨qb, qo + m2 * 4, none⟩ = some (.int .i64 y) := fun u => cell_low u.below e0
              have hu1 : ∀ u : After wq.heap.size wq, u.world.cell? ⟨rb, ro + m * 4, none⟩ = some (.int .i64 x) := fun u => cell_low u.below (cell_low HQ.out HD0.out)
              clear hy e0 e1 e2 e3
              cases ht : (sv (bs.take m2) x).isSome with
              | true =>
                rw [ht] at HTK
                go_wp2_with fail
                refine wp_region_after wq.heap.size (by kernel_rfl) (by kernel_rfl) ?_
                repeat (go_big_quiet_step (fail))
                refine wpQuiet_nil ?_
                rintro wz ⟨⟨_, hu⟩, rfl⟩
                have HQ2 := Lib.hid (below_next HQ.out hu)
                clear hu hu0 hu1
                go_wp2_with fail
                go_roundw
                case rel => exact ⟨m2 + 1, by rw [HTK.out]; rfl, by go_num, by omega, HQ2⟩
                case measure => simp [intOf]; omega
              | false =>
                rw [ht] at HTK
                go_wp2_with fail
                refine wp_region_after wq.heap.size (by kernel_rfl) (by kernel_rfl) ?_
                repeat (go_big_quiet_step (fail))
                refine wpQuiet_nil ?_
                rintro wz ⟨⟨_, hu⟩, rfl⟩
                have HQ2 := Lib.hid (below_next HQ.out hu)
                clear hu hu0 hu1
                go_wp2_with fail
                go_roundw
                case rel => exact ⟨m2 + 1, by rw [HTK.out]; rfl, by go_num, by omega, HQ2⟩
                case measure => simp [intOf]; omega
            · have hal : bs.take m2 = bs := List.take_of_length_le (by omega)
              rw [hal]
              cases hT : (sv bs x).isSome with
              | true =>
                have HST3 : Hid (thL bs us = th2 bs (us.drop (m + 1)) out2) := by rw [Hid, HST2.out, HDR.out]; simp only [th2]; rw [if_pos hT]
                have HBW3 := Lib.hid (below_next HBW2.out HQ.out)
                have HOS3 := Lib.hid (HOS2.out.next HQ.out)
                clear hT
                go_wp2_with fail
                go_roundw
                case rel => exact ⟨m + 1, out2, A2, C2, rfl, by go_num, by omega, by have := HOL2.out; show _ ≤ _; omega, HST3, HOS3, HBW3⟩
                case measure => simp [intOf]; omega
              | false =>
                have HST3 : Hid (thL bs us = th2 bs (us.drop (m + 1)) (ladd out2 (x, s, v, k))) := by rw [Hid, HST2.out, HDR.out]; simp only [th2]; rw [if_neg (by rw [hT]; simp)]
                have HBW3 := Lib.hid (below_next HBW2.out HQ.out)
                have HOS3 := Lib.hid (HOS2.out.next HQ.out)
                have HSL3 := Lib.hid (HSL.out.next HQ.out)
                have d0 := cell_low HQ.out HD0.out
                have d1 := cell_low HQ.out HD1.out
                have d2 := cell_low HQ.out HD2.out
                have d3 := cell_low HQ.out HD3.out
                clear hT
                have hu0 : ∀ u : After wq.heap.size wq, u.world.cell? ⟨rb, ro + m * 4, none⟩ = some (.int .i64 x) := fun u => cell_low u.below d0
                have hu1 : ∀ u : After wq.heap.size wq, u.world.cell? ⟨rb, ro + m * 4 + 1, none⟩ = some (.int .i64 s) := fun u => cell_low u.below d1
                have hu2 : ∀ u : After wq.heap.size wq, u.world.cell? ⟨rb, ro + m * 4 + 1 + 1, none⟩ = some (.int .i64 v) := fun u => cell_low u.below d2
                have hu3 : ∀ u : After wq.heap.size wq, u.world.cell? ⟨rb, ro + m * 4 + 1 + 2, none⟩ = some (.slice a (flen k) c) := fun u => cell_low u.below d3
                clear d0 d1 d2 d3 HD0 HD1 HD2 HD3
                go_wp2_with fail
                refine wp_region_mix (fun w' => ∃ u : After wq.heap.size wq, w' = u.world) [] [(0, 0), (1, 0), (2, 0), (3, 0), (4, 0), (5, 0), (6, 0), (7, 0), (8, 0), (9, 0), (10, 0), (11, 1), (12, 0), (13, 1), (14, 1)] (by kernel_rfl) (by kernel_rfl) ⟨⟨_, (Below.refl _ _).drew⟩, rfl⟩ ?_
                have HBD : Hid (Below wq.heap.size wq wq.drew) := (Below.refl _ _).drew
                generalize wq.drew = wd at *
                iterate 11
                  refine mix_see rfl (fun K hK => ?_)
                  go_simp
                  refine hK _ ?_
                  clear hK K
                clear hu0 hu1 hu2 hu3
                refine mix_hold rfl (fun K hK => ?_)
                go_simp
                with_reducible refine (l1Copy_any (fsz k) s v a c k _ (HSL3.out.next HBD.out) (Nat.le_refl _) hkz).mono ?_
                rintro e w2 ⟨a2, c2, rfl, hb2, ho2⟩
                have HB2 := Lib.hid (below_next HBD.out hb2)
                have HL2 : Hid (Sl w2 0 w2.heap.size a2 k) := ho2.sl.mono (Nat.zero_le _) (Nat.le_refl _)
                refine hK _ _ ⟨⟨_, HB2.out⟩, rfl⟩ ?_
                clear hK K hb2 ho2
                refine mix_see rfl (fun K hK => ?_)
                go_simp
                refine hK _ ?_
                clear hK K
                refine mix_hold rfl (fun K hK => ?_)
                go_simp
                with_reducible refine (l2Add_any out2 A2 C2 x s v a2 c2 k _ (HOS3.out.next HB2.out) (by have := HOL2.out; omega) HL2.out).mono ?_
                rintro e w3 ⟨A3, C3, rfl, hrow⟩
                have HB3 := Lib.hid (below_next HB2.out hrow.low)
                have HR3 := Lib.hid hrow.bsl
                refine hK _ _ ⟨⟨_, HB3.out⟩, rfl⟩ ?_
                clear hK K hrow
                refine mix_hold rfl (fun K hK => ?_)
                go_simp
                refine hK _ _ ⟨⟨_, HB3.out⟩, rfl⟩ ?_
                clear hK K
                refine mix_end ?_
                have HW4 := Lib.hid (below_next HBW3.out HB3.out)
                have HOL4 : Hid ((ladd out2 (x, s, v, k)).length ≤ 1000 + (m + 1)) := by have := HOL2.out; rw [Hid, ladd_len]; omega
                go_wp2_with fail
                go_roundw
                case rel => exact ⟨m + 1, _, A3, C3, rfl, by go_num, by omega, HOL4, HST3, HR3, HW4⟩
                case measure => simp [intOf]; omega
        · have HE : Hid (thL bs us = out2) := by rw [Hid, HST2.out, List.drop_eq_nil_of_le (by omega)]; rfl
          go_wp2_with fail
          go_ret
          exact ⟨A2, C2, by rw [HE.out]; rfl, HBW2.out, by rw [HE.out]; exact HOS2.out⟩
end Go.Proofs.YtpfkhgiiojikbaaGreat

/-! V2: l1Has: whether a variable is in a term. -/
namespace Go.Proofs.YtpfkhgiiojikbaaGreat
open Go.RowKit Go.Deep

theorem one_box {w wr : World} {x y z : Value} (h : Below (w.heap.size + 1) (w.alloc (.cells #[x, y, z] 25)) wr) : wr.cell? ⟨w.heap.size, 2, none⟩ = some z := by
  rw [h.cell (by simp), World.cell?_alloc_at _ _ _ _ (by simp)]; rfl

theorem fvl_drop {x : Int} {j : Nat} {k : Fo} {a b : Nat} {s v : Int} {kk r : Fo} (h : fdrop j k = .node a b (s, v) kk r) : x ∈ fvl (fdrop j k) ↔ x ∈ fvs s v kk ∨ x ∈ fvl r := by
  rw [h]
  simp only [fvl, fvs, List.mem_append]

set_option maxRecDepth 100000 in
set_option maxHeartbeats 1000000 in
theorem l1Has_any (N : Nat) : ∀ (s v : Int) (a : Option Addr) (c : Nat) (k : Fo) (x : Int) (w : World), Sl w 0 w.heap.size a k → fsz k ≤ N → N ≤ 1000000 →
    Calls Tryz.prog 65 #[.agg #[.int .i64 s, .int .i64 v, .slice a (flen k) c], .int .i64 x] w fun e w' => e = .returned (.bool (decide (x ∈ fvs s v k))) ∧ Below w.heap.size w w' := by
  induction N using Nat.strongRecOn with
  | _ N ih =>
    intro s v a c k x w hl hN hN2
    have hfl := flen_le_sz k
    have IH := Lib.hid ih
    clear ih
    by_cases hs : s = 0
    · subst hs
      have HE : Hid ((v == x) = decide (x ∈ fvs 0 v k)) := by
        unfold Hid
        by_cases h : v = x
        · subst h; simp [fvs]
        · have : x ≠ v := fun e => h e.symm
          simp [fvs, h, this]
      go_enter Tryz.func65, Tryz.ntmps65
      go_wp2_with fail
      go_ret
      exact ⟨by rw [← HE.out]; rfl, (Below.refl _ _).alloc (Nat.le_refl _) _⟩
    · have gs : (s == 0) = false := by simpa using hs
      have hb0 : Below w.heap.size w (w.alloc (.cells #[.int .i64 s, .int .i64 v, .slice a (flen k) c] 25)) := (Below.refl _ _).alloc (Nat.le_refl _) _
      have HB0 := Lib.hid hb0
      have HV : Hid (fvs s v k = fvl k) := by unfold Hid fvs; rw [if_neg hs]
      clear hb0
      go_enter Tryz.func65, Tryz.ntmps65
      go_wp2_with fail
      go_loopw [5] (fun i wr => ∃ j : Nat, j ≤ flen k ∧ i = .int .i64 j ∧ Hid (x ∈ fvl k ↔ x ∈ fvl (fdrop j k)) ∧ Below (w.heap.size + 1) (w.alloc (.cells #[.int .i64 s, .int .i64 v, .slice a (flen k) c] 25)) wr) (fun i _ => flen k - (intOf i).toNat)
      case atStart => exact ⟨0, by omega, rfl, Iff.rfl, Below.refl _ _⟩
      case round =>
        obtain ⟨j, hj, rfl, hq, hbl⟩ := hrel
        have hsr := hbl.size
        simp at hsr
        have hx2 := one_box hbl
        have hbw := HB0.out.trans (hbl.mono (show w.heap.size ≤ w.heap.size + 1 by omega))
        by_cases hlt : j < flen k
        · rcases hl with rfl | ⟨b, o, rfl, hrow⟩
          · simp [flen] at hlt
          obtain ⟨s1, v1, kk, a1, c1, ⟨x1, y1, hd⟩, _, hbB, hk0, hk1, hk2, hsl⟩ := row_at (hrow.below hbw) hlt
          have hkN := fsz_kid hd
          have HQ : Hid (x ∈ fvl k ↔ x ∈ fvs s1 v1 kk ∨ x ∈ fvl (fdrop (j + 1) k)) := hq.out.trans (fvl_drop hd)
          have HS := Lib.hid hsl
          have HBL := Lib.hid hbl
          clear hd hsl hrow hbl hbw hq
          have g1 : (0 : Int) ≤ (j : Int) := by omega
          have g2 : (j : Int) < (flen k : Int) := by omega
          have HS1 := Lib.hid (HS.out.mono (lo' := 0) (Nat.le_refl _) (show w.heap.size ≤ wr.heap.size by omega))
          cases hin : decide (x ∈ fvs s1 v1 kk) with
          | true =>
            have HE : Hid (decide (x ∈ fvs s v k) = true) := by
              unfold Hid
              rw [HV.out]
              exact decide_eq_true (HQ.out.2 (.inl (of_decide_eq_true hin)))
            have HIN := Lib.hid hin
            clear hin
            go_wp2_with fail
            with_reducible refine (IH.out (fsz kk) (by omega) s1 v1 a1 c1 kk x _ HS1.out (Nat.le_refl _) (by omega)).mono ?_
            rw [HIN.out]
            rintro e u ⟨rfl, hu⟩
            clear hk0 hk1 hk2 hx2
            have HB2 := Lib.hid (HBL.out.trans (hu.mono hsr))
            clear hu
            go_wp2_with fail
            go_ret
            exact ⟨by rw [HE.out]; rfl, HB0.out.trans (HB2.out.mono (by omega))⟩
          | false =>
            have HE : Hid (x ∈ fvl k ↔ x ∈ fvl (fdrop (j + 1) k)) := by
              have := of_decide_eq_false hin
              unfold Hid
              rw [HQ.out]
              simp [this]
            have HIN := Lib.hid hin
            clear hin
            go_wp2_with fail
            with_reducible refine (IH.out (fsz kk) (by omega) s1 v1 a1 c1 kk x _ HS1.out (Nat.le_refl _) (by omega)).mono ?_
            rw [HIN.out]
            rintro e u ⟨rfl, hu⟩
            clear hk0 hk1 hk2 hx2
            have HB2 := Lib.hid (HBL.out.trans (hu.mono hsr))
            clear hu
            go_wp2_with fail
            go_roundw
            case rel => exact ⟨j + 1, by omega, by go_num, HE, HB2.out⟩
            case measure => simp [intOf]; omega
        · have HE : Hid (decide (x ∈ fvs s v k) = false) := by
            unfold Hid
            rw [HV.out]
            refine decide_eq_false fun h => ?_
            have := hq.out.1 h
            rw [fdrop_all (by omega)] at this
            simp [fvl] at this
          have HBW := Lib.hid hbw
          clear hbw hbl hq
          go_wp2_with fail
          go_ret
          exact ⟨by rw [HE.out]; rfl, HBW.out⟩
end Go.Proofs.YtpfkhgiiojikbaaGreat

/-! SB: The specification's l2Big and l2Bind. -/
namespace Go.Proofs.YtpfkhgiiojikbaaGreat
open Go.RowKit Go.Deep

set_option maxRecDepth 100000 in
set_option maxHeartbeats 400000 in
theorem l2Big_any (s v : Int) (a : Option Addr) (c : Nat) (k : Fo) (w : World) (hl : Sl w 0 w.heap.size a k) (ho : okT (s, v, k)) (r : Bool) (hr : decide (64 < sz (s, v, k)) = r) :
    Calls Tryz.prog 64 #[.agg #[.int .i64 s, .int .i64 v, .slice a (flen k) c]] w fun e w' => e = .returned (.bool r) ∧ Below w.heap.size w w' := by
  have hb : Below w.heap.size w (w.alloc (.cells #[.int .i64 s, .int .i64 v, .slice a (flen k) c] 25)) := box_low _ _
  have HB := Lib.hid hb
  have HC := Lib.hid (l1Count_any 64 s v a c k 64 (w.alloc (.cells #[.int .i64 s, .int .i64 v, .slice a (flen k) c] 25)) (hl.next hb) (by omega) (by omega) (by omega))
  have HE : Hid (decide (cntT s v k 64 > 64) = r) := by
    have h1 := cntT_okW s v k 64
    have h2 : okW s v k 64 = decide (sz (s, v, k) ≤ 64) := by
      rw [Bool.eq_iff_iff, okW_iff, decide_eq_true_eq]
      constructor
      · intro h; simp only [sz]; omega
      · intro h; exact ⟨ho.1, ho.2, by simp only [sz] at h; omega⟩
    rw [Hid, ← hr, Bool.eq_iff_iff]
    rw [h2, Bool.eq_iff_iff] at h1
    simp only [decide_eq_true_eq] at h1 ⊢
    omega
  have hc0 : (w.alloc (.cells #[.int .i64 s, .int .i64 v, .slice a (flen k) c] 25)).cell? ⟨w.heap.size, 0, none⟩ = some (.int .i64 s) := by rw [World.cell?_alloc_at _ _ _ _ (by simp)]; rfl
  have hc1 : (w.alloc (.cells #[.int .i64 s, .int .i64 v, .slice a (flen k) c] 25)).cell? ⟨w.heap.size, 1, none⟩ = some (.int .i64 v) := by rw [World.cell?_alloc_at _ _ _ _ (by simp)]; rfl
  have hc2 : (w.alloc (.cells #[.int .i64 s, .int .i64 v, .slice a (flen k) c] 25)).cell? ⟨w.heap.size, 2, none⟩ = some (.slice a (flen k) c) := by rw [World.cell?_alloc_at _ _ _ _ (by simp)]; rfl
  clear hl hb ho hr
  go_enter Tryz.func64, Tryz.ntmps64
  go_wp2_with fail
  with_reducible refine HC.out.mono ?_
  rintro e w1 ⟨rfl, hb1⟩
  have HB1 := Lib.hid (below_next HB.out hb1)
  have he := HE.out
  clear hb1 HC hc0 hc1 hc2
  generalize cntT s v k 64 = n at *
  go_wp2_with fail
  go_ret
  exact ⟨rfl, HB1.out⟩

def LbPost (r : Option (List Bd)) (w : World) (e : Ending) (w' : World) : Prop :=
  ∃ A C l cd, e = .returned (.tuple #[.slice A (List.length l) C, .int .i64 cd]) ∧ Below w.heap.size w w' ∧ BSl w' 0 w'.heap.size A l ∧ ((cd = 0 ∧ r = some l) ∨ (0 < cd ∧ r = none))
theorem bsl_one {w : World} {x s v : Int} {a : Option Addr} {c : Nat} {k : Fo} (hl : Sl w 0 w.heap.size a k) : BSl (w.alloc (.cells #[.int .i64 x, .int .i64 s, .int .i64 v, .slice a (flen k) c] 39)) 0 (w.alloc (.cells #[.int .i64 x, .int .i64 s, .int .i64 v, .slice a (flen k) c] 39)).heap.size (some ⟨w.heap.size, 0, none⟩) [(x, s, v, k)] := by
  refine .inr ⟨w.heap.size, 0, rfl, Nat.zero_le _, by simp, fun i y hy => ?_⟩
  cases i with
  | succ i => simp at hy
  | zero =>
    simp only [List.getElem?_cons_zero, Option.some.injEq] at hy
    subst hy
    refine ⟨a, c, ?_, ?_, ?_, ?_, hl.next (box_low _ _)⟩
    · rw [World.cell?_alloc_at _ _ _ _ (by simp)]; rfl
    · rw [World.cell?_alloc_at _ _ _ _ (by simp)]; rfl
    · rw [World.cell?_alloc_at _ _ _ _ (by simp)]; rfl
    · rw [World.cell?_alloc_at _ _ _ _ (by simp)]; rfl
theorem unB_ok {lim : Nat} {bs : List Bd} {v : Int} {t : T3} (hw : Wb lim bs) (ht : okT t) : ∀ x ∈ thL bs [(v, t)], okT x.2 := fun x hx => by
  have hs := sv_mem (thL_asc hw.asc (asc_one v t)) hx
  rw [thL_sv hw.asc (asc_one v t)] at hs
  have hone : ∀ x u, sv [(v, t)] x = some u → okT u := fun x u hu => by
    rw [sv_one] at hu
    split at hu
    · obtain rfl := Option.some.inj hu; exact ht
    · cases hu
  cases hb : sv bs x.1 with
  | some u => rw [thS_some hb] at hs; rw [← Option.some.inj hs]; exact ap_ok hone (hw.ok _ _ hb)
  | none => rw [thS_none hb] at hs; exact hone _ _ hs

set_option maxRecDepth 100000 in
set_option maxHeartbeats 2000000 in
theorem l2Bind_any (bs : List Bd) (A : Option Addr) (C : Nat) (x s v : Int) (a : Option Addr) (c : Nat) (k : Fo) (w : World) (hb : BSl w 0 w.heap.size A bs) (hw : Wb 64 bs) (hl : Sl w 0 w.heap.size a k) (ht : okT (s, v, k)) (hz : sz (s, v, k) ≤ 1000) :
    Calls Tryz.prog 48 #[.slice A bs.length C, .int .i64 x, .agg #[.int .i64 s, .int .i64 v, .slice a (flen k) c]] w (LbPost (unB 64 bs x (s, v, k)) w) := by
  have hbx : Below w.heap.size w (w.alloc (.cells #[.int .i64 s, .int .i64 v, .slice a (flen k) c] 25)) := box_low _ _
  have HB := Lib.hid (hb.next hbx)
  have HL := Lib.hid (hl.next hbx)
  have HBX := Lib.hid hbx
  have HT : Hid (Tb w.heap.size s v a c k (w.alloc (.cells #[.int .i64 s, .int .i64 v, .slice a (flen k) c] 25))) := Tb.new hl
  have HW := Lib.hid hw
  have HOT : Hid (okT (s, v, k)) := ht
  have hlen := hw.len
  have hkz : fsz k ≤ 1000 := by simp only [sz] at hz; omega
  have HTH := Lib.hid (unB_ok (v := x) hw ht)
  have HTL : Hid ((thL bs [(x, s, v, k)]).length ≤ 20) := by have := thL_len bs [(x, s, v, k)]; simp only [List.length_cons, List.length_nil] at this; show _ ≤ _; omega
  have HBO : Hid (∀ y ∈ bs, okN y.2.1 y.2.2.1 (flen y.2.2.2) = true ∧ fok y.2.2.2 = true ∧ fsz y.2.2.2 ≤ 1000) := fun y hy => by
    have hs := sv_mem hw.asc hy
    have h1 := hw.ok _ _ hs
    have h2 := hw.small _ _ hs
    simp only [sz] at h2
    exact ⟨h1.1, h1.2, by omega⟩
  have HOC : Hid (x ∈ vr (s, v, k) → unB 64 bs x (s, v, k) = none) := unB_occ
  have HBG : Hid (64 < sz (s, v, k) → unB 64 bs x (s, v, k) = none) := unB_big
  have HFT : Hid (x ∉ vr (s, v, k) → ¬ 64 < sz (s, v, k) → (∀ y ∈ thL bs [(x, s, v, k)], ¬ 64 < sz y.2) → unB 64 bs x (s, v, k) = some (thL bs [(x, s, v, k)])) := fun h1 h2 h3 => by
    unfold unB
    rw [if_neg (fun hc => hc.elim h1 h2), if_pos fun y hy => Nat.le_of_not_lt (h3 y hy)]
  have HOV : Hid (∀ y ∈ thL bs [(x, s, v, k)], 64 < sz y.2 → unB 64 bs x (s, v, k) = none) := fun y hy hz => by
    unfold unB
    split
    · rfl
    · rw [if_neg fun hall => by have := hall y hy; omega]
  clear hb hw hl hbx ht
  generalize unB 64 bs x (s, v, k) = R at *
  go_enter Tryz.func48, Tryz.ntmps48
  obtain ⟨q0, q1, q2⟩ : (w.alloc (.cells #[.int .i64 s, .int .i64 v, .slice a (flen k) c] 25)).cell? ⟨w.heap.size, 0, none⟩ = some (.int .i64 s) ∧ (w.alloc (.cells #[.int .i64 s, .int .i64 v, .slice a (flen k) c] 25)).cell? ⟨w.heap.size, 1, none⟩ = some (.int .i64 v) ∧ (w.alloc (.cells #[.int .i64 s, .int .i64 v, .slice a (flen k) c] 25)).cell? ⟨w.heap.size, 2, none⟩ = some (.slice a (flen k) c) := ⟨HT.out.c0, HT.out.c1, HT.out.c2⟩
  go_wp2_with fail
  generalize hg : decide (64 < sz (s, v, k)) = rb
  with_reducible refine (l2Big_any s v a c k _ HL.out HOT.out rb hg).mono ?_
  rintro e w1 ⟨rfl, hb1⟩
  have HB1 := Lib.hid (HB.out.next hb1)
  have HT1 := Lib.hid (HT.out.next hb1)
  have HBW1 := Lib.hid (below_next HBX.out hb1)
  clear hb1 q0 q1 q2 HB HL HT HBX
  cases rb with
  | true =>
    have HR := Lib.hid (HBG.out (of_decide_eq_true hg))
    clear hg HBG HOC HFT HOV
    go_wp2_with fail
    refine bodyPost_ret (v := .tuple #[.slice A bs.length C, .int .i64 2]) ?_ rfl ⟨A, C, bs, 2, rfl, HBW1.out, HB1.out, .inr ⟨by omega, HR.out⟩⟩
    simp [results, Tryz.results48, go_sem]
  | false =>
    have HNB := Lib.hid (of_decide_eq_false hg)
    clear hg HBG
    obtain ⟨q0, q1, q2⟩ : w1.cell? ⟨w.heap.size, 0, none⟩ = some (.int .i64 s) ∧ w1.cell? ⟨w.heap.size, 1, none⟩ = some (.int .i64 v) ∧ w1.cell? ⟨w.heap.size, 2, none⟩ = some (.slice a (flen k) c) := ⟨HT1.out.c0, HT1.out.c1, HT1.out.c2⟩
    go_wp2_with fail
    with_reducible refine (l1Has_any (fsz k) s v a c k x _ HT1.out.sl (Nat.le_refl _) (by omega)).mono ?_
    rintro e w2 ⟨rfl, hb2⟩
    have HB2 := Lib.hid (HB1.out.next hb2)
    have HT2 := Lib.hid (HT1.out.next hb2)
    have HBW2 := Lib.hid (below_next HBW1.out hb2)
    clear hb2 q0 q1 q2 HB1 HT1 HBW1
    by_cases hocc : x ∈ fvs s v k
    · have ho : decide (x ∈ fvs s v k) = true := decide_eq_true hocc
      have HR := Lib.hid (HOC.out hocc)
      rw [ho]
      clear hocc ho HOC HFT HOV
      go_wp2_with fail
      refine bodyPost_ret (v := .tuple #[.slice A bs.length C, .int .i64 1]) ?_ rfl ⟨A, C, bs, 1, rfl, HBW2.out, HB2.out, .inr ⟨by omega, HR.out⟩⟩
      simp [results, Tryz.results48, go_sem]
    have ho : decide (x ∈ fvs s v k) = false := decide_eq_false hocc
    have HNO : Hid (x ∉ vr (s, v, k)) := hocc
    rw [ho]
    clear hocc ho HOC
    obtain ⟨q0, q1, q2⟩ : w2.cell? ⟨w.heap.size, 0, none⟩ = some (.int .i64 s) ∧ w2.cell? ⟨w.heap.size, 1, none⟩ = some (.int .i64 v) ∧ w2.cell? ⟨w.heap.size, 2, none⟩ = some (.slice a (flen k) c) := ⟨HT2.out.c0, HT2.out.c1, HT2.out.c2⟩
    have HB3 := Lib.hid (HB2.out.next (box_low w2 (.cells #[.int .i64 x, .int .i64 s, .int .i64 v, .slice a (flen k) c] 39)))
    have HU3 := Lib.hid (bsl_one (x := x) (s := s) (v := v) (c := c) HT2.out.sl)
    have HBW3 := Lib.hid (below_next HBW2.out (box_low w2 (.cells #[.int .i64 x, .int .i64 s, .int .i64 v, .slice a (flen k) c] 39)))
    have HC : Hid (Calls Tryz.prog 66 #[.slice A bs.length C, .slice (some ⟨w2.heap.size, 0, none⟩) 1 1] (w2.alloc (.cells #[.int .i64 x, .int .i64 s, .int .i64 v, .slice a (flen k) c] 39)) (LtPost bs [(x, s, v, k)] (w2.alloc (.cells #[.int .i64 x, .int .i64 s, .int .i64 v, .slice a (flen k) c] 39)))) :=
      l2Then_any bs [(x, s, v, k)] A (some ⟨w2.heap.size, 0, none⟩) C 1 _ HB3.out HU3.out (by omega) (by simp) HBO.out (fun y hy => by simp only [List.mem_singleton] at hy; subst hy; dsimp only; omega) (fun y t ht => by
        rw [sv_one] at ht
        split at ht
        · obtain rfl := Option.some.inj ht; dsimp only; omega
        · cases ht)
    go_wp2_with fail
    with_reducible refine HC.out.mono ?_
    rintro e w4 ⟨A4, C4, rfl, hb4, hs4⟩
    have HB4 := Lib.hid (HB3.out.next hb4)
    have HS4 := Lib.hid hs4
    have HBW4 := Lib.hid (below_next HBW3.out hb4)
    clear hb4 hs4 HC q0 q1 q2 HB2 HT2 HBW2 HB3 HU3 HBW3
    generalize thL bs [(x, s, v, k)] = out at *
    go_wp2_with fail
    go_loopw [9] (fun i wr => ∃ j : Nat, i = .int .i64 j ∧ j ≤ out.length ∧ Hid (∀ y ∈ out.take j, ¬ 64 < sz y.2) ∧ Hid (Below w4.heap.size w4 wr)) (fun i _ => out.length - (intOf i).toNat)
    case atStart => exact ⟨0, rfl, Nat.zero_le _, fun y hy => by simp at hy, Below.refl _ _⟩
    case round =>
      obtain ⟨j, rfl, hj, HS, HWR⟩ := hrel
      have htl : out.length ≤ 20 := HTL.out
      by_cases hlt : j < out.length
      · obtain ⟨rb, ro, y, s1, v1, k1, a1, c1, hA, hy, d0, d1, d2, d3, hsl⟩ := bsl_at (HS4.out.next HWR.out) hlt
        subst hA
        have hm := List.mem_of_getElem? hy
        have hoy := HTH.out _ hm
        have g1 : (0 : Int) ≤ (j : Int) := by omega
        have g2 : (j : Int) < (out.length : Int) := by omega
        have HTK : Hid (out.take (j + 1) = out.take j ++ [(y, s1, v1, k1)]) := by rw [Hid, List.take_add_one, hy]; rfl
        have HM := Lib.hid hm
        generalize hg : decide (64 < sz (s1, v1, k1)) = rc
        have HCB := Lib.hid (l2Big_any s1 v1 a1 c1 k1 _ hsl hoy rc hg)
        clear hsl hy hm hoy
        go_wp2_with fail
        with_reducible refine HCB.out.mono ?_
        rintro e w5 ⟨rfl, hb5⟩
        have HW5 := Lib.hid (below_next HWR.out hb5)
        clear hb5 HCB d0 d1 d2 d3
        cases rc with
        | true =>
          have HR := Lib.hid (HOV.out _ HM.out (of_decide_eq_true hg))
          clear hg HFT HOV
          go_wp2_with fail
          refine bodyPost_ret (v := .tuple #[.slice A bs.length C, .int .i64 2]) ?_ rfl ⟨A, C, bs, 2, rfl, below_next HBW4.out HW5.out, HB4.out.next HW5.out, .inr ⟨by omega, HR.out⟩⟩
          simp [results, Tryz.results48, go_sem]
        | false =>
          have HN : Hid (∀ y ∈ out.take (j + 1), ¬ 64 < sz y.2) := fun z hz => by
            rw [HTK.out, List.mem_append, List.mem_singleton] at hz
            rcases hz with hz | rfl
            · exact HS.out z hz
            · exact of_decide_eq_false hg
          clear hg
          go_wp2_with fail
          go_roundw
          case rel => exact ⟨j + 1, by go_num, by omega, HN, HW5⟩
          case measure => simp [intOf]; omega
      · have HR : Hid (R = some out) := HFT.out HNO.out HNB.out (by have := HS.out; rw [List.take_of_length_le (by omega)] at this; exact this)
        go_wp2_with fail
        refine bodyPost_ret (v := .tuple #[.slice A4 out.length C4, .int .i64 0]) ?_ rfl ⟨A4, C4, out, 0, rfl, below_next HBW4.out HWR.out, HS4.out.next HWR.out, .inl ⟨rfl, HR.out⟩⟩
        simp [results, Tryz.results48, go_sem]
end Go.Proofs.YtpfkhgiiojikbaaGreat
