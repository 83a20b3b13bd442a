/- Several texts in one: TH, THs, THi, S8, DSt, TL, S9. -/
import Derived.Test.YtpfkhgiiojikbaaKThen14
import Derived.Test.YtpfkhgiiojikbaaKThen12
import Derived.Test.YtpfkhgiiojikbaaKThen13

/-! TH: The specification's l2Then: what variables stand for, if others are put into that. -/
namespace Go.Proofs.Ytpfkhgiiojikbaa
open Go.RowKit Go.Deep
attribute [local go_sem ↓] Go.wp_at_zero Go.wp_at_succ

def LtPost (bs us : List Bd) (w : World) (e : Ending) (w' : World) : Prop :=
  ∃ A C, e = .returned (.slice A (List.length (thL bs us)) C) ∧ Below w.heap.size w w' ∧ BSl w' 0 w'.heap.size A (thL bs us)
theorem sv_take {bs : List Bd} {m : Nat} {y : Bd} (hy : bs[m]? = some y) (x : Int) : (sv (bs.take (m + 1)) x).isSome = ((sv (bs.take m) x).isSome || (y.1 == x)) := by
  have ht : bs.take (m + 1) = bs.take m ++ [y] := by rw [List.take_add_one, hy]; rfl
  rw [ht]
  generalize bs.take m = l
  induction l with
  | nil => simp only [List.nil_append, sv]; by_cases e : y.1 = x <;> simp [e]
  | cons z r ih =>
    simp only [List.cons_append, sv]
    by_cases e : z.1 = x
    · simp [e]
    · rw [if_neg e, if_neg e, ih]

set_option maxRecDepth 100000 in
set_option maxHeartbeats 4000000 in
theorem l2Then_any (bs us : List Bd) (A B : Option Addr) (C D : Nat) (w : World) (hb : BSl w 0 w.heap.size A bs) (hu : BSl w 0 w.heap.size B us) (hbl : bs.length ≤ 1000) (hul : us.length ≤ 1000) (hbo : ∀ x ∈ bs, okN x.2.1 x.2.2.1 (flen x.2.2.2) = true ∧ fok x.2.2.2 = true ∧ fsz x.2.2.2 ≤ 1000) (huz : ∀ x ∈ us, fsz x.2.2.2 ≤ 1000000) (huv : ∀ x t, sv us x = some t → fsz t.2.2 ≤ 1000000) :
    Calls Try.prog 45 #[.slice A bs.length C, .slice B us.length D] w (LtPost bs us w) := by
  have HB := Lib.hid hb
  have HU := Lib.hid hu
  have HBO := Lib.hid hbo
  have HUZ := Lib.hid huz
  have HUV := Lib.hid huv
  have HS0 : Hid (BSl (w.alloc (.cells #[] 75)) 0 (w.alloc (.cells #[] 75)).heap.size (some ⟨w.heap.size, 0, none⟩) []) := .inl rfl
  have HW0 : Hid (Below w.heap.size w (w.alloc (.cells #[] 75))) := (Below.refl _ _).alloc (Nat.le_refl _) _
  clear hb hu hbo huz huv
  go_enter Try.func45, Try.ntmps45
  go_wp2_with fail
  go_loopw [5, 6] (fun o i wr => ∃ (j : Nat) (out : List Bd) (A1 : Option Addr) (C1 : Nat), o = .slice A1 out.length C1 ∧ i = .int .i64 j ∧ j ≤ bs.length ∧ Hid (out.length = j) ∧ Hid (th1 us bs [] = th1 us (bs.drop j) out) ∧ Hid (BSl wr 0 wr.heap.size A1 out) ∧ Hid (Below w.heap.size w wr)) (fun _ i _ => bs.length - (intOf i).toNat)
  case atStart => exact ⟨0, [], _, 0, rfl, rfl, Nat.zero_le _, rfl, by simp [Hid], HS0, HW0⟩
  case round =>
    clear HS0 HW0
    obtain ⟨j, out, A1, C1, rfl, rfl, hj, HOL, HTH, HOS, HBW⟩ := hrel
    by_cases hlt : j < bs.length
    · obtain ⟨rb, ro, x, s, v, k, a, c, hA, hy, d0, d1, d2, d3, hsl⟩ := bsl_at (HB.out.next HBW.out) hlt
      subst hA
      have hko := HBO.out _ (List.mem_of_getElem? hy)
      dsimp only at hko
      have HKO := Lib.hid hko
      have hk3 := hko.2.2
      have HSL := Lib.hid hsl
      have HD := Lib.hid (drop_bd hy)
      have g1 : (0 : Int) ≤ (j : Int) := by omega
      have g2 : (j : Int) < (bs.length : Int) := by omega
      clear hko hsl hy
      have hu0 : ∀ u : After wr.heap.size wr, u.world.cell? ⟨rb, ro + j * 4, none⟩ = some (.int .i64 x) := fun u => cell_low u.below d0
      have hu1 : ∀ u : After wr.heap.size wr, u.world.cell? ⟨rb, ro + j * 4 + 1, none⟩ = some (.int .i64 s) := fun u => cell_low u.below d1
      have hu2 : ∀ u : After wr.heap.size wr, u.world.cell? ⟨rb, ro + j * 4 + 1 + 1, none⟩ = some (.int .i64 v) := fun u => cell_low u.below d2
      have hu3 : ∀ u : After wr.heap.size wr, u.world.cell? ⟨rb, ro + j * 4 + 1 + 2, none⟩ = some (.slice a (flen k) c) := fun u => cell_low u.below d3
      clear d0 d1 d2 d3
      go_wp2_with fail
      refine wp_region_mix (fun w' => ∃ u : After wr.heap.size wr, w' = u.world) [] [(0, 0), (1, 0), (2, 0), (3, 0), (4, 0), (5, 0), (6, 0), (7, 0), (8, 0), (9, 0), (10, 0), (11, 0), (12, 1), (13, 0), (14, 1), (15, 1)] (by kernel_rfl) (by kernel_rfl) ⟨⟨_, (Below.refl _ _).drew⟩, rfl⟩ ?_
      have HBD : Hid (Below wr.heap.size wr wr.drew) := (Below.refl _ _).drew
      generalize wr.drew = wd at *
      iterate 12
        refine mix_see rfl (fun K hK => ?_)
        go_simp
        refine hK _ ?_
        clear hK K
      clear hu0 hu1 hu2 hu3
      refine mix_hold rfl (fun K hK => ?_)
      go_simp
      with_reducible refine (l2Put_any us B D (by omega) HUV.out (fsz k) s v a c k _ (HU.out.next (below_next HBW.out HBD.out)) (HSL.out.next HBD.out) HKO.out.1 HKO.out.2.1 (Nat.le_refl _) (by omega)).mono ?_
      have HT : Hid (th1 us bs [] = th1 us (bs.drop (j + 1)) (ladd out (x, tsub (sv us) s v k))) := by rw [Hid, HTH.out, HD.out]; rfl
      generalize tsub (sv us) s v k = tt at *
      obtain ⟨s3, v3, k3⟩ := tt
      rintro e w2 ⟨a2, c2, rfl, hb2, ho2⟩
      dsimp only at ho2
      have HB2 := Lib.hid (below_next HBD.out hb2)
      have HL2 : Hid (Sl w2 0 w2.heap.size a2 k3) := ho2.sl.mono (Nat.zero_le _) (Nat.le_refl _)
      refine hK _ _ ⟨⟨_, HB2.out⟩, rfl⟩ ?_
      clear hK K hb2 ho2
      refine mix_see rfl (fun K hK => ?_)
      go_simp
      refine hK _ ?_
      clear hK K
      refine mix_hold rfl (fun K hK => ?_)
      go_simp
      with_reducible refine (l2Add_any out A1 C1 x s3 v3 a2 c2 k3 _ (HOS.out.next HB2.out) (by have := HOL.out; omega) HL2.out).mono ?_
      rintro e w3 ⟨A3, C3, rfl, hrow⟩
      have HB3 := Lib.hid (below_next HB2.out hrow.low)
      have HR3 := Lib.hid hrow.bsl
      refine hK _ _ ⟨⟨_, HB3.out⟩, rfl⟩ ?_
      clear hK K hrow
      refine mix_hold rfl (fun K hK => ?_)
      go_simp
      refine hK _ _ ⟨⟨_, HB3.out⟩, rfl⟩ ?_
      clear hK K
      refine mix_end ?_
      have HW3 := Lib.hid (below_next HBW.out HB3.out)
      have HOL2 : Hid ((ladd out (x, s3, v3, k3)).length = j + 1) := by rw [Hid, ladd_len, HOL.out]
      go_wp2_with fail
      go_roundw
      case rel => exact ⟨j + 1, _, A3, C3, rfl, by go_num, by omega, HOL2, HT, HR3, HW3⟩
      case measure => simp [intOf]; omega
    · have HT1 : Hid (th1 us bs [] = out) := by rw [Hid, HTH.out, List.drop_eq_nil_of_le (by omega)]; rfl
      have HST : Hid (thL bs us = th2 bs (us.drop 0) out) := by unfold Hid thL; rw [HT1.out, List.drop_zero]
      clear HTH
      go_wp2_with fail
      go_loopw [5, 7] (fun o i wr2 => ∃ (m : Nat) (out2 : List Bd) (A2 : Option Addr) (C2 : Nat), o = .slice A2 out2.length C2 ∧ i = .int .i64 m ∧ m ≤ us.length ∧ Hid (out2.length ≤ 1000 + m) ∧ Hid (thL bs us = th2 bs (us.drop m) out2) ∧ Hid (BSl wr2 0 wr2.heap.size A2 out2) ∧ Hid (Below w.heap.size w wr2)) (fun _ i _ => us.length - (intOf i).toNat)
      case atStart => exact ⟨0, out, A1, C1, rfl, rfl, Nat.zero_le _, by have := HOL.out; show _ ≤ _; omega, HST, HOS, HBW⟩
      case round =>
        clear HST HOS HBW HOL HT1
        obtain ⟨m, out2, A2, C2, rfl, rfl, hm, HOL2, HST2, HOS2, HBW2⟩ := hrel
        obtain ⟨wr2, rfl⟩ : ∃ z, z = wr := ⟨_, rfl⟩
        by_cases hlt2 : m < us.length
        · obtain ⟨rb, ro, x, s, v, k, a, c, hA, hy, d0, d1, d2, d3, hsl⟩ := bsl_at (HU.out.next HBW2.out) hlt2
          subst hA
          have hkz := HUZ.out _ (List.mem_of_getElem? hy)
          dsimp only at hkz
          have HSL := Lib.hid hsl
          have HDR := Lib.hid (drop_bd hy)
          have g1 : (0 : Int) ≤ (m : Int) := by omega
          have g2 : (m : Int) < (us.length : Int) := by omega
          have HD0 := Lib.hid d0
          have HD1 := Lib.hid d1
          have HD2 := Lib.hid d2
          have HD3 := Lib.hid d3
          clear hsl hy d0 d1 d2 d3
          go_wp2_with fail
          go_loopw [8, 9] (fun t i wq => ∃ m2 : Nat, t = .bool (sv (bs.take m2) x).isSome ∧ i = .int .i64 m2 ∧ m2 ≤ bs.length ∧ Hid (Below wr2.heap.size wr2 wq)) (fun _ i _ => bs.length - (intOf i).toNat)
          case atStart => exact ⟨0, rfl, rfl, Nat.zero_le _, Below.refl _ _⟩
          case round =>
            obtain ⟨m2, rfl, rfl, hm2, HQ⟩ := hrel
            obtain ⟨wq, rfl⟩ : ∃ z, z = wr := ⟨_, rfl⟩
            by_cases hlt3 : m2 < bs.length
            · obtain ⟨qb, qo, y, ys, yv, yk, ya, yc, hA, hy, e0, e1, e2, e3, _⟩ := bsl_at (HB.out.next (below_next HBW2.out HQ.out)) hlt3
              subst hA
              have HTK := Lib.hid (sv_take hy x)
              have g3 : (0 : Int) ≤ (m2 : Int) := by omega
              have g4 : (m2 : Int) < (bs.length : Int) := by omega
              have hu0 : ∀ u : After wq.heap.size wq, u.world.cell? ⟨qb, qo + m2 * 4, none⟩ = some (.int .i64 y) := fun u => cell_low u.below e0
              have hu1 : ∀ u : After wq.heap.size wq, u.world.cell? ⟨rb, ro + m * 4, none⟩ = some (.int .i64 x) := fun u => cell_low u.below (cell_low HQ.out HD0.out)
              clear hy e0 e1 e2 e3
              cases ht : (sv (bs.take m2) x).isSome with
              | true =>
                rw [ht] at HTK
                go_wp2_with fail
                refine wp_region_after wq.heap.size (by kernel_rfl) (by kernel_rfl) ?_
                repeat (go_big_quiet_step (fail))
                refine wpQuiet_nil ?_
                rintro wz ⟨⟨_, hu⟩, rfl⟩
                have HQ2 := Lib.hid (below_next HQ.out hu)
                clear hu hu0 hu1
                go_wp2_with fail
                go_roundw
                case rel => exact ⟨m2 + 1, by rw [HTK.out]; rfl, by go_num, by omega, HQ2⟩
                case measure => simp [intOf]; omega
              | false =>
                rw [ht] at HTK
                go_wp2_with fail
                refine wp_region_after wq.heap.size (by kernel_rfl) (by kernel_rfl) ?_
                repeat (go_big_quiet_step (fail))
                refine wpQuiet_nil ?_
                rintro wz ⟨⟨_, hu⟩, rfl⟩
                have HQ2 := Lib.hid (below_next HQ.out hu)
                clear hu hu0 hu1
                go_wp2_with fail
                go_roundw
                case rel => exact ⟨m2 + 1, by rw [HTK.out]; rfl, by go_num, by omega, HQ2⟩
                case measure => simp [intOf]; omega
            · have hal : bs.take m2 = bs := List.take_of_length_le (by omega)
              rw [hal]
              cases hT : (sv bs x).isSome with
              | true =>
                have HST3 : Hid (thL bs us = th2 bs (us.drop (m + 1)) out2) := by rw [Hid, HST2.out, HDR.out]; simp only [th2]; rw [if_pos hT]
                have HBW3 := Lib.hid (below_next HBW2.out HQ.out)
                have HOS3 := Lib.hid (HOS2.out.next HQ.out)
                clear hT
                go_wp2_with fail
                go_roundw
                case rel => exact ⟨m + 1, out2, A2, C2, rfl, by go_num, by omega, by have := HOL2.out; show _ ≤ _; omega, HST3, HOS3, HBW3⟩
                case measure => simp [intOf]; omega
              | false =>
                have HST3 : Hid (thL bs us = th2 bs (us.drop (m + 1)) (ladd out2 (x, s, v, k))) := by rw [Hid, HST2.out, HDR.out]; simp only [th2]; rw [if_neg (by rw [hT]; simp)]
                have HBW3 := Lib.hid (below_next HBW2.out HQ.out)
                have HOS3 := Lib.hid (HOS2.out.next HQ.out)
                have HSL3 := Lib.hid (HSL.out.next HQ.out)
                have d0 := cell_low HQ.out HD0.out
                have d1 := cell_low HQ.out HD1.out
                have d2 := cell_low HQ.out HD2.out
                have d3 := cell_low HQ.out HD3.out
                clear hT
                have hu0 : ∀ u : After wq.heap.size wq, u.world.cell? ⟨rb, ro + m * 4, none⟩ = some (.int .i64 x) := fun u => cell_low u.below d0
                have hu1 : ∀ u : After wq.heap.size wq, u.world.cell? ⟨rb, ro + m * 4 + 1, none⟩ = some (.int .i64 s) := fun u => cell_low u.below d1
                have hu2 : ∀ u : After wq.heap.size wq, u.world.cell? ⟨rb, ro + m * 4 + 1 + 1, none⟩ = some (.int .i64 v) := fun u => cell_low u.below d2
                have hu3 : ∀ u : After wq.heap.size wq, u.world.cell? ⟨rb, ro + m * 4 + 1 + 2, none⟩ = some (.slice a (flen k) c) := fun u => cell_low u.below d3
                clear d0 d1 d2 d3 HD0 HD1 HD2 HD3
                go_wp2_with fail
                refine wp_region_mix (fun w' => ∃ u : After wq.heap.size wq, w' = u.world) [] [(0, 0), (1, 0), (2, 0), (3, 0), (4, 0), (5, 0), (6, 0), (7, 0), (8, 0), (9, 0), (10, 0), (11, 1), (12, 0), (13, 1), (14, 1)] (by kernel_rfl) (by kernel_rfl) ⟨⟨_, (Below.refl _ _).drew⟩, rfl⟩ ?_
                have HBD : Hid (Below wq.heap.size wq wq.drew) := (Below.refl _ _).drew
                generalize wq.drew = wd at *
                iterate 11
                  refine mix_see rfl (fun K hK => ?_)
                  go_simp
                  refine hK _ ?_
                  clear hK K
                clear hu0 hu1 hu2 hu3
                refine mix_hold rfl (fun K hK => ?_)
                go_simp
                with_reducible refine (l1Copy_any (fsz k) s v a c k _ (HSL3.out.next HBD.out) (Nat.le_refl _) hkz).mono ?_
                rintro e w2 ⟨a2, c2, rfl, hb2, ho2⟩
                have HB2 := Lib.hid (below_next HBD.out hb2)
                have HL2 : Hid (Sl w2 0 w2.heap.size a2 k) := ho2.sl.mono (Nat.zero_le _) (Nat.le_refl _)
                refine hK _ _ ⟨⟨_, HB2.out⟩, rfl⟩ ?_
                clear hK K hb2 ho2
                refine mix_see rfl (fun K hK => ?_)
                go_simp
                refine hK _ ?_
                clear hK K
                refine mix_hold rfl (fun K hK => ?_)
                go_simp
                with_reducible refine (l2Add_any out2 A2 C2 x s v a2 c2 k _ (HOS3.out.next HB2.out) (by have := HOL2.out; omega) HL2.out).mono ?_
                rintro e w3 ⟨A3, C3, rfl, hrow⟩
                have HB3 := Lib.hid (below_next HB2.out hrow.low)
                have HR3 := Lib.hid hrow.bsl
                refine hK _ _ ⟨⟨_, HB3.out⟩, rfl⟩ ?_
                clear hK K hrow
                refine mix_hold rfl (fun K hK => ?_)
                go_simp
                refine hK _ _ ⟨⟨_, HB3.out⟩, rfl⟩ ?_
                clear hK K
                refine mix_end ?_
                have HW4 := Lib.hid (below_next HBW3.out HB3.out)
                have HOL4 : Hid ((ladd out2 (x, s, v, k)).length ≤ 1000 + (m + 1)) := by have := HOL2.out; rw [Hid, ladd_len]; omega
                go_wp2_with fail
                go_roundw
                case rel => exact ⟨m + 1, _, A3, C3, rfl, by go_num, by omega, HOL4, HST3, HR3, HW4⟩
                case measure => simp [intOf]; omega
        · have HE : Hid (thL bs us = out2) := by rw [Hid, HST2.out, List.drop_eq_nil_of_le (by omega)]; rfl
          go_wp2_with fail
          go_ret
          exact ⟨A2, C2, by rw [HE.out]; rfl, HBW2.out, by rw [HE.out]; exact HOS2.out⟩
end Go.Proofs.Ytpfkhgiiojikbaa

/-! THs: The specification's SubstThen. -/
namespace Go.Proofs.Ytpfkhgiiojikbaa
open Go.RowKit Go.Deep

def StPost (bs us : List Bd) (w : World) (e : Ending) (w' : World) : Prop :=
  ∃ A C l t, thR bs us = (l, t) ∧ e = .returned (.tuple #[.slice A (List.length l) C, .bool t]) ∧ Below w.heap.size w w' ∧ BSl w' 0 w'.heap.size A l
theorem st_none {bs us : List Bd} {w w' : World} {A : Option Addr} {C : Nat} (h : thR bs us = ([], false)) (hb : Below w.heap.size w w') : StPost bs us w (.returned (.tuple #[.slice A 0 C, .bool false])) w' :=
  ⟨A, C, [], false, h, rfl, hb, .inl rfl⟩
theorem thR_bad {bs us : List Bd} (h : ¬ (sok 16 bs = true ∧ sok 16 us = true)) : thR bs us = ([], false) := by unfold thR; rw [if_neg fun h2 => h ⟨h2.1, h2.2.1⟩]
theorem sok_small {bs : List Bd} (h : sok 16 bs = true) : bs.length ≤ 12 := by have := sok_len bs (-1) (by omega) h; omega
theorem sok_z {bs : List Bd} (h : sok 16 bs = true) {x : Bd} (hx : x ∈ bs) : okN x.2.1 x.2.2.1 (flen x.2.2.2) = true ∧ fok x.2.2.2 = true ∧ fsz x.2.2.2 ≤ 15 := by
  have := (okW_iff _ _ _ _).1 ((sok_in h).2 x hx).2.2
  exact ⟨this.1, this.2.1, by omega⟩

set_option maxRecDepth 100000 in
set_option maxHeartbeats 2000000 in
theorem sSubstThen_any (bs us : List Bd) (A B : Option Addr) (C D : Nat) (w : World) (hb : BSl w 0 w.heap.size A bs) (hu : BSl w 0 w.heap.size B us) (hbl : bs.length ≤ 9223372036854775807) (hul : us.length ≤ 9223372036854775807) :
    Calls Try.prog 15 #[.slice A bs.length C, .slice B us.length D] w (StPost bs us w) := by
  have HB := Lib.hid hb
  have HU := Lib.hid hu
  clear hb hu
  go_enter Try.func15, Try.ntmps15
  go_wp2_with fail
  with_reducible refine (sSubstOk_any bs A C _ HB.out hbl).mono ?_
  rintro e w1 ⟨rfl, hb1⟩
  have HB1 := Lib.hid (HB.out.next hb1)
  have HU1 := Lib.hid (HU.out.next hb1)
  have HW1 := Lib.hid hb1
  clear hb1 HB HU
  by_cases hok : sok 16 bs = true
  case neg =>
    have hf : sok 16 bs = false := by simpa using hok
    have HP : Hid (StPost bs us w (.returned (.tuple #[.slice (some ⟨w1.heap.size, 0, none⟩) 0 0, .bool false])) (w1.alloc (.cells #[] 75))) := st_none (thR_bad fun h => hok h.1) (below_next HW1.out (box_low _ _))
    rw [hf]
    clear hok hf
    go_wp2_with fail
    refine bodyPost_ret (v := .tuple #[.slice (some ⟨w1.heap.size, 0, none⟩) 0 0, .bool false]) ?_ rfl HP.out
    simp [results, Try.results15, go_sem]
  have HOK := Lib.hid hok
  rw [hok]
  clear hok
  go_wp2_with fail
  with_reducible refine (sSubstOk_any us B D _ HU1.out hul).mono ?_
  rintro e w2 ⟨rfl, hb2⟩
  have HB2 := Lib.hid (HB1.out.next hb2)
  have HU2 := Lib.hid (HU1.out.next hb2)
  have HW2 := Lib.hid (below_next HW1.out hb2)
  clear hb2 HB1 HU1 HW1
  by_cases hok : sok 16 us = true
  case neg =>
    have hf : sok 16 us = false := by simpa using hok
    have HP : Hid (StPost bs us w (.returned (.tuple #[.slice (some ⟨w2.heap.size, 0, none⟩) 0 0, .bool false])) (w2.alloc (.cells #[] 75))) := st_none (thR_bad fun h => hok h.2) (below_next HW2.out (box_low _ _))
    rw [hf]
    clear hok hf
    go_wp2_with fail
    refine bodyPost_ret (v := .tuple #[.slice (some ⟨w2.heap.size, 0, none⟩) 0 0, .bool false]) ?_ rfl HP.out
    simp [results, Try.results15, go_sem]
  have HOU := Lib.hid hok
  rw [hok]
  clear hok
  have hb12 := sok_small HOK.out
  have hu12 := sok_small HOU.out
  have HC := Lib.hid (l2Then_any bs us A B C D w2 HB2.out HU2.out (by omega) (by omega) (fun x hx => by have := sok_z HOK.out hx; exact ⟨this.1, this.2.1, by omega⟩) (fun x hx => by have := sok_z HOU.out hx; omega) (fun x t ht => by have := (sok_z HOU.out (mem_sv ht)).2.2; dsimp only at this; omega))
  have HLL : Hid ((thL bs us).length ≤ 24) := by have := thL_len bs us; show _ ≤ _; omega
  go_wp2_with fail
  with_reducible refine HC.out.mono ?_
  rintro e w3 ⟨A3, C3, rfl, hb3, hs3⟩
  have HW3 := Lib.hid (below_next HW2.out hb3)
  have HS3 := Lib.hid hs3
  clear hb3 hs3 HC
  go_wp2_with fail
  with_reducible refine (sSubstOk_any (thL bs us) A3 C3 _ HS3.out (by have := HLL.out; omega)).mono ?_
  rintro e w4 ⟨rfl, hb4⟩
  have HW4 := Lib.hid (below_next HW3.out hb4)
  have HS4 := Lib.hid (HS3.out.next hb4)
  clear hb4
  have HR := Lib.hid (th_sok HOK.out HOU.out)
  cases hok : sok 16 (thL bs us) with
  | false =>
    have HP : Hid (StPost bs us w (.returned (.tuple #[.slice (some ⟨w4.heap.size, 0, none⟩) 0 0, .bool false])) (w4.alloc (.cells #[] 75))) := st_none (by unfold thR; rw [if_neg]; rintro ⟨_, _, h⟩; rw [← HR.out, hok] at h; cases h) (below_next HW4.out (box_low _ _))
    clear hok
    go_wp2_with fail
    refine bodyPost_ret (v := .tuple #[.slice (some ⟨w4.heap.size, 0, none⟩) 0 0, .bool false]) ?_ rfl HP.out
    simp [results, Try.results15, go_sem]
  | true =>
    have HP : Hid (StPost bs us w (.returned (.tuple #[.slice A3 (thL bs us).length C3, .bool true])) w4) := ⟨A3, C3, thL bs us, true, by unfold thR; rw [if_pos ⟨HOK.out, HOU.out, by rw [← HR.out, hok]⟩], rfl, HW4.out, HS4.out⟩
    clear hok
    go_wp2_with fail
    refine bodyPost_ret (v := .tuple #[.slice A3 (thL bs us).length C3, .bool true]) ?_ rfl HP.out
    simp [results, Try.results15, go_sem]
end Go.Proofs.Ytpfkhgiiojikbaa

/-! THi: The program's SubstThen. -/
namespace Go.Proofs.Ytpfkhgiiojikbaa
open Go.RowKit Go.Deep Go.Maps

theorem rng_sok {bs : List Bd} (h : sok 16 bs = true) : Rng (sv bs) := fun x t ht => by have := sok_sv h ht; omega
theorem bof_sok {bs : List Bd} (h : sok 16 bs = true) : Bof bs 15 := fun x t ht => by
  have := (okW_iff _ _ _ _).1 (sok_sv h ht).2.2
  exact ⟨this.1, this.2.1, by omega⟩

set_option maxRecDepth 100000 in
set_option maxHeartbeats 2000000 in
theorem iSubstThen_any (bs us : List Bd) (A B : Option Addr) (C D : Nat) (w : World) (hb : BSl w 0 w.heap.size A bs) (hu : BSl w 0 w.heap.size B us) (hbl : bs.length ≤ 9223372036854775807) (hul : us.length ≤ 9223372036854775807) :
    Calls Try.prog 16 #[.slice A bs.length C, .slice B us.length D] w (StPost bs us w) := by
  have HB := Lib.hid hb
  have HU := Lib.hid hu
  clear hb hu
  go_enter Try.func16, Try.ntmps16
  go_wp2_with fail
  with_reducible refine (substOf_any bs A C 16 _ HB.out hbl (by omega) (by omega)).mono ?_
  rintro e w1 ⟨hb1, hcase1⟩
  have HU1 := Lib.hid (HU.out.next hb1)
  have HW1 := Lib.hid hb1
  clear hb1 HB HU
  rcases hcase1 with ⟨hok, b1, rfl, hg1, hm1⟩ | ⟨hok, rfl⟩
  case inr =>
    have HB1 := Lib.hid (thR_bad (bs := bs) (us := us) (fun h => by rw [h.1] at hok; cases hok))
    clear hok
    go_wp2_with fail
    with_reducible refine (substOf_any us B D 16 _ HU1.out hul (by omega) (by omega)).mono ?_
    rintro e w2 ⟨hb2, hcase2⟩
    have HW2 := Lib.hid (below_next HW1.out hb2)
    clear hb2
    have HP : Hid (StPost bs us w (.returned (.tuple #[.slice none 0 0, .bool false])) w2) := st_none HB1.out HW2.out
    rcases hcase2 with ⟨_, b2, rfl, _, _⟩ | ⟨_, rfl⟩
    · go_wp2_with fail
      refine bodyPost_ret (v := .tuple #[.slice none 0 0, .bool false]) ?_ rfl HP.out
      simp [results, Try.results16, go_sem]
    · go_wp2_with fail
      refine bodyPost_ret (v := .tuple #[.slice none 0 0, .bool false]) ?_ rfl HP.out
      simp [results, Try.results16, go_sem]
  have HOK := Lib.hid hok
  have HM1 := Lib.hid hm1
  clear hok hm1
  go_wp2_with fail
  with_reducible refine (substOf_any us B D 16 _ HU1.out hul (by omega) (by omega)).mono ?_
  rintro e w2 ⟨hb2, hcase2⟩
  have HW2 := Lib.hid (below_next HW1.out hb2)
  have HM2 := Lib.hid (HM1.out.below hb2)
  clear hb2 HM1 HU1
  rcases hcase2 with ⟨hok, b2, rfl, hg2, hm2⟩ | ⟨hok, rfl⟩
  case inr =>
    have HP : Hid (StPost bs us w (.returned (.tuple #[.slice none 0 0, .bool false])) w2) := st_none (thR_bad (bs := bs) (us := us) (fun h => by rw [h.2] at hok; cases hok)) HW2.out
    clear hok
    go_wp2_with fail
    refine bodyPost_ret (v := .tuple #[.slice none 0 0, .bool false]) ?_ rfl HP.out
    simp [results, Try.results16, go_sem]
  have HOU := Lib.hid hok
  have HMU := Lib.hid hm2
  clear hok hm2
  have HTH := Lib.hid (th_ok HOK.out HOU.out)
  have HSV := Lib.hid (fun x => thL_sv (bs := bs) (us := us) (sok_in HOK.out).1 (sok_in HOU.out).1 x)
  have HC := Lib.hid (then_any bs us b1 b2 w2 HM2.out HMU.out (rng_sok HOK.out) (rng_sok HOU.out) (fun x t ht => by have := bof_sok HOK.out x t ht; exact ⟨this.1, this.2.1, by omega⟩))
  go_wp2_with fail
  with_reducible refine HC.out.mono ?_
  rintro e w3 ⟨g, rfl, hb3, hf3, _⟩
  have HM3 : Hid (MapIs w3 g (thL bs us)) := hf3.toIs HSV.out
  have HW3 := Lib.hid (below_next HW2.out hb3)
  clear hb3 hf3 HC HM2 HMU
  have HC2 := Lib.hid (binds_any (thL bs us) g 16 w3 HM3.out HTH.out.1 (fun x hx => by
    obtain ⟨t, ht⟩ := Option.isSome_iff_exists.1 hx
    have := HTH.out.2 _ (mem_sv ht); dsimp only at this; omega) (fun x t ht => by
    have := HTH.out.2 _ (mem_sv ht); dsimp only at this; exact ⟨this.2.2.1, this.2.2.2.1, by omega⟩))
  go_wp2_with fail
  with_reducible refine HC2.out.mono ?_
  rintro e w4 ⟨hb4, hcase⟩
  have HW4 := Lib.hid (below_next HW3.out hb4)
  clear hb4 HC2
  rcases hcase with ⟨hf, A4, C4, rfl, hown⟩ | ⟨hf, rfl⟩
  · have HP : Hid (StPost bs us w (.returned (.tuple #[.slice A4 (thL bs us).length C4, .bool true])) w4) :=
      ⟨A4, C4, thL bs us, true, by unfold thR; rw [if_pos ⟨HOK.out, HOU.out, hf⟩], rfl, HW4.out, hown.bsl.mono (Nat.zero_le _) (Nat.le_refl _)⟩
    clear hf hown
    go_wp2_with fail
    refine bodyPost_ret (v := .tuple #[.slice A4 (thL bs us).length C4, .bool true]) ?_ rfl HP.out
    simp [results, Try.results16, go_sem]
  · have HP : Hid (StPost bs us w (.returned (.tuple #[.slice none 0 0, .bool false])) w4) := st_none (by unfold thR; rw [if_neg]; rintro ⟨_, _, h⟩; have h2 : fits 16 (thL bs us) = true := h; rw [hf] at h2; cases h2) HW4.out
    clear hf
    go_wp2_with fail
    refine bodyPost_ret (v := .tuple #[.slice none 0 0, .bool false]) ?_ rfl HP.out
    simp [results, Try.results16, go_sem]
end Go.Proofs.Ytpfkhgiiojikbaa

/-! S8: l71Subst, DrawSubstDo. -/
namespace Go.Proofs.Ytpfkhgiiojikbaa
open Go.RowKit Go.Deep

def SbPost (br p : Nat) (w : World) (e : Ending) (w' : World) : Prop :=
  ∃ bs A C p', e = .returned (.slice A (List.length bs) C) ∧ bs.length ≤ 20 ∧ p ≤ p' ∧ p' ≤ p + 3000 ∧ Adv w br p' w' ∧ BOwn w' w.heap.size bs A C

set_option maxRecDepth 100000 in
set_option maxHeartbeats 2000000 in
theorem l71Subst_any (vn br p : Nat) (w : World) (hr : Rd w br p) (hp : p ≤ 10000000) (hv1 : 1 ≤ vn) (hv2 : vn ≤ 10) :
    Calls Try.prog 42 #[.pointer (some ⟨br, 0, none⟩), .int .i64 (vn : Int)] w (SbPost br p w) := by
  have hlt := hr.lt
  obtain ⟨ti, hti, htz, hts, htb⟩ := Try.infoBind
  have HTI : Hid (Try.prog.info? 75 = some ti ∧ ti.zero = some (.agg #[.int .i64 0, .int .i64 0, .int .i64 0, .slice none 0 0]) ∧ ti.size = 4 ∧ ti.bytes = 48) := ⟨hti, htz, hts, htb⟩
  have HA0 : Hid (Adv w br p (w.alloc (.cells #[] 75))) := Adv.start hr ((Below.refl _ _).alloc (Nat.le_refl _) _)
  have HO0 : Hid (BOwn (w.alloc (.cells #[] 75)) w.heap.size [] (some ⟨w.heap.size, 0, none⟩) 0) := ⟨[], ⟨rfl, .inr ⟨w.heap.size, 0, #[], rfl, Nat.le_refl _, heap_alloc_new _ _, Nat.le_refl _, by decide, rfl, rfl⟩⟩, fun i x hx => by simp at hx⟩
  have HR := Lib.hid hr
  have hpk : pkN 3 ≤ 100 := by decide
  have hsk : szN 3 ≤ 500 := by decide
  clear hr hti htz hts htb
  go_enter Try.func42, Try.ntmps42
  go_wp2_with fail
  go_loopw [5, 6] (fun t i wr => ∃ (n : Nat) (bs : List Bd) (A : Option Addr) (C p' : Nat), t = .slice A bs.length C ∧ i = .int .i64 n ∧ n ≤ vn ∧ bs.length ≤ n ∧ Hid (BOwn wr w.heap.size bs A C) ∧ Hid (Adv w br p' wr) ∧ p ≤ p' ∧ p' ≤ p + n * 101 ∧ Hid (∀ (i : Nat) (x : Bd), bs[i]? = some x → 1 + fsz x.2.2.2 ≤ 500)) (fun _ i _ => vn - (intOf i).toNat)
  case atStart => exact ⟨0, [], _, _, p, rfl, rfl, Nat.zero_le _, Nat.le_refl _, HO0, HA0, Nat.le_refl _, by omega, fun i x hx => by simp at hx⟩
  case round =>
    clear HO0 HA0
    obtain ⟨n, bs, A, C, p', rfl, rfl, hn, hbl, HO, HA, hp1, hp2, HSZ⟩ := hrel
    by_cases hnv : n < vn
    · have g1 : (n : Int) < (vn : Int) := by omega
      go_wp2_with fail
      with_reducible refine (pick_any 3 br p' _ (HA.out.rd HR.out) (by omega) (by omega) (by omega)).mono ?_
      rintro e w1 ⟨y, rfl, hy, hb1⟩
      have ha1 : Adv wr br (p' + 1) w1 := hb1
      have HA1 := Lib.hid (HA.out.trans ha1)
      have HO1 := Lib.hid (HO.out.adv ha1 hlt)
      clear hb1 ha1 hy HO HA
      by_cases hy0 : y = 0
      · subst hy0
        go_wp2_with fail
        go_roundw
        case rel => exact ⟨n + 1, bs, A, C, p' + 1, rfl, by go_num, by omega, by omega, HO1, HA1, by omega, by omega, HSZ⟩
        case measure => simp [intOf]; omega
      · have y0 : (0 : Int) < (y : Int) := by omega
        go_wp2_with fail
        with_reducible refine (l71Term_any 3 3 (vn : Int) br (p' + 1) _ (by omega) (by omega) (by omega) (by omega) (by omega) (HA1.out.rd HR.out) (by omega)).mono ?_
        rintro e w2 ⟨s, v, a2, c2, k, p2, rfl, hpp1, hpp2, hS2, ha2, hl2⟩
        obtain ⟨xs, hown, hall⟩ := HO1.out
        have hs1 := HA1.out.size
        have hs2 := ha2.size
        have HOWN2 : Hid (w2.ownsRow w.heap.size 75 4 (.slice A bs.length C) bs.length xs) := own_block hown fun g hg => by
          have h1 := hown.lt g hg
          exact ha2.same (lo := g) (B := g + 1) (by omega) (by omega) g (Nat.le_refl _) (by omega)
        have HAP := Lib.hid (fun g cap w3 => BOwn.append (w0 := w) (w2 := w2) (br := br) (p := p2) (k := k) (a2 := a2) (x := (n : Int)) (g := g) (cap := cap) (w3 := w3) (blk := .cells #[.int .i64 (n : Int), .int .i64 s, .int .i64 v, .slice a2 (flen k) c2] 75) (s := s) (v := v) (c2 := c2) hown hall)
        have HA2 := Lib.hid ha2
        have HL2 := Lib.hid hl2
        have HA02 := Lib.hid (HA1.out.trans ha2)
        clear hown hall ha2 hl2 HO1
        go_wp2_with (at_builtin; refine wpList_append_lies _ rfl _ _ 23 rfl w.heap.size 75 ti _ 4 48 Try.underlying23 HTI.out.1 HTI.out.2.1 HTI.out.2.2.1 HTI.out.2.2.2 rfl (by omega) (.slice A bs.length C) bs.length xs rfl (HOWN2.out.alloc _) ⟨w2.heap.size, 0, none⟩ 1 1 [.int .i64 (n : Int), .int .i64 s, .int .i64 v, .slice a2 (flen k) c2] rfl rfl (World.news_of_block (heap_alloc_new _ _)) (by simp [Value.oneCell']) (by omega) (by unfold maxLen; omega) (by omega) (by simp; omega) (w2.heap.size + 1) (by simp) ?_; intro g cap w3 hown3 hgrow3 hat3 hg3; have HX3 := Lib.hid (HAP.out g cap w3 hown3 HA2.out hlt HL2.out hs1 hgrow3 hat3 HA02.out (Nat.le_refl _)); clear hown3 hgrow3 hat3 hg3)
        go_roundw
        case rel =>
          have hl2' : (bs ++ [((n : Int), s, v, k)]).length = bs.length + 1 := by simp
          refine ⟨n + 1, bs ++ [((n : Int), s, v, k)], some ⟨g, 0, none⟩, cap, p2, by rw [hl2'], by go_num, by omega, by omega, HX3.out.1, HX3.out.2, by omega, by omega, ?_⟩
          intro i x hx
          by_cases hi : i < bs.length
          · rw [List.getElem?_append_left hi] at hx; exact HSZ.out i x hx
          · have hi' : i = bs.length := by have := (List.getElem?_eq_some_iff.1 hx).1; omega
            subst hi'
            simp at hx
            subst hx
            show 1 + fsz k ≤ 500
            omega
        case measure => simp [intOf]; omega
    · go_wp2_with fail
      with_reducible refine (pick_any 24 br p' _ (HA.out.rd HR.out) (by omega) (by omega) (by omega)).mono ?_
      rintro e w1 ⟨y, rfl, hy, hb1⟩
      have ha1 : Adv wr br (p' + 1) w1 := hb1
      have HA1 := Lib.hid (HA.out.trans ha1)
      have HO1 := Lib.hid (HO.out.adv ha1 hlt)
      clear hb1 ha1 hy HO HA
      by_cases hy0 : y = 0
      · subst hy0
        go_wp2_with fail
        with_reducible refine (pick_any 14 br (p' + 1) _ (HA1.out.rd HR.out) (by omega) (by omega) (by omega)).mono ?_
        rintro e w2 ⟨z, rfl, hz, hb2⟩
        have ha2 : Adv w1 br (p' + 1 + 1) w2 := hb2
        have HA2 := Lib.hid (HA1.out.trans ha2)
        have HO2 := Lib.hid (HO1.out.adv ha2 hlt)
        have hz14 : z < 14 := by omega
        clear hb2 ha2 hz HO1 HA1
        go_wp2_with fail
        with_reducible refine (l71Of_any 1 none 0 0 _).mono ?_
        rintro e w3 ⟨rfl, hb3⟩
        have ha3 : Adv w2 br (p' + 1 + 1) w3 := Adv.start (HA2.out.rd HR.out) hb3
        obtain ⟨xs, hown, hall⟩ := HO2.out
        have hs2 := HA2.out.size
        have hs3 := ha3.size
        have HOWN2 : Hid (w3.ownsRow w.heap.size 75 4 (.slice A bs.length C) bs.length xs) := own_block hown fun g hg => by
          have h1 := hown.lt g hg
          exact ha3.same (lo := g) (B := g + 1) (by omega) (by omega) g (Nat.le_refl _) (by omega)
        have HAP := Lib.hid (fun g cap w4 => BOwn.append (w0 := w) (w2 := w3) (br := br) (p := p' + 1 + 1) (x := (z : Int) - 1) (g := g) (cap := cap) (w3 := w4) (blk := .cells #[.int .i64 ((z : Int) - 1), .int .i64 1, .int .i64 0, .slice none 0 0] 75) (s := 1) (v := 0) (k := .nil) (a2 := none) (c2 := 0) hown hall)
        have HA3 := Lib.hid ha3
        have HA03 := Lib.hid (HA2.out.trans ha3)
        clear hown hall ha3 hb3 HO2
        go_wp2_with (at_builtin; refine wpList_append_lies _ rfl _ _ 23 rfl w.heap.size 75 ti _ 4 48 Try.underlying23 HTI.out.1 HTI.out.2.1 HTI.out.2.2.1 HTI.out.2.2.2 rfl (by omega) (.slice A bs.length C) bs.length xs rfl (HOWN2.out.alloc _) ⟨w3.heap.size, 0, none⟩ 1 1 [.int .i64 ((z : Int) - 1), .int .i64 1, .int .i64 0, .slice none 0 0] rfl rfl (World.news_of_block (heap_alloc_new _ _)) (by simp [Value.oneCell']) (by omega) (by unfold maxLen; omega) (by omega) (by simp; omega) (w3.heap.size + 1) (by simp) ?_; intro g cap w4 hown4 hgrow4 hat4 hg4; have HX4 := Lib.hid (HAP.out g cap w4 hown4 HA3.out hlt (.inl rfl) hs2 hgrow4 hat4 HA03.out (Nat.le_refl _)); clear hown4 hgrow4 hat4 hg4)
        go_ret
        have hl2' : (bs ++ [((z : Int) - 1, (1 : Int), (0 : Int), (.nil : Fo))]).length = bs.length + 1 := by simp
        exact ⟨_, some ⟨g, 0, none⟩, cap, p' + 1 + 1, by rw [hl2']; rfl, by omega, by omega, by omega, HX4.out.2, HX4.out.1⟩
      have y0 : ((y : Int) == 0) = false := by simpa using hy0
      by_cases hy1 : y = 1
      · subst hy1
        cases bs with
        | nil =>
          go_wp2_with fail
          go_ret
          exact ⟨[], A, C, p' + 1, rfl, by simp, by omega, by omega, HA1.out, HO1.out⟩
        | cons x r =>
          obtain ⟨xv, s, v, k⟩ := x
          have hpos : (0 : Int) < ((((xv, s, v, k) : Bd) :: r).length : Int) := by simp
          obtain ⟨g, hAE, hg1, hg2⟩ : ∃ g, A = some ⟨g, 0, none⟩ ∧ w.heap.size ≤ g ∧ g < w1.heap.size := by
            obtain ⟨xs, hown, _⟩ := HO1.out
            obtain ⟨g, cap, hv, hb, hlt2⟩ := hown.form (by simp)
            simp only [Value.slice.injEq] at hv
            obtain ⟨rfl, _⟩ := hv
            exact ⟨g, rfl, hb, hlt2⟩
          subst hAE
          have hcells : ∀ {w' : World}, BOwn w' w.heap.size ((xv, s, v, k) :: r) (some ⟨g, 0, none⟩) C → ∃ a' c', w'.cell? ⟨g, 1, none⟩ = some (.int .i64 s) ∧ w'.cell? ⟨g, 2, none⟩ = some (.int .i64 v) ∧ w'.cell? ⟨g, 3, none⟩ = some (.slice a' (flen k) c') ∧ Sl w' 0 w'.heap.size a' k := fun {w'} h => by
            rcases h.bsl with h | ⟨g', o, hA, hb, hlt', hrow⟩
            · cases h
            · cases hA
              obtain ⟨a', c', _, d1, d2, d3, hl⟩ := hrow 0 _ rfl
              exact ⟨a', c', d1, d2, d3, hl.mono (Nat.zero_le _) (Nat.le_refl _)⟩
          obtain ⟨a', c', hc1, hc2, hc3, hsl⟩ := hcells HO1.out
          have hsk2 := HSZ.out 0 _ rfl
          simp only at hsk2
          go_wp2_with fail
          with_reducible refine (l71Bad_any s v a' c' k br (p' + 1) 500 _ hsl (HA1.out.rd HR.out) (by omega) (by omega) (by omega)).mono ?_
          rintro e w2 ⟨s2, v2, a2, c2, k2, p2, rfl, hq1, hq2, hS2, ha2, hl2⟩
          clear hc1 hc2 hc3 hsl
          have HS0 := Lib.hid (HO1.out.set0 (s' := s2) (v' := v2) (c2 := c2) ha2 hlt hl2)
          have HA2 := Lib.hid (HA1.out.trans ha2)
          obtain ⟨a'', c'', hc1, hc2, hc3, _⟩ := hcells (HO1.out.adv ha2 hlt)
          have hf1 : w2.frozen? ⟨g, 1, none⟩ = false := by obtain ⟨xs, hown, _⟩ := HO1.out.adv ha2 hlt; exact hown.frozenAt 1
          have hf2 : (w2.setCell ⟨g, 1, none⟩ (.int .i64 s2)).frozen? ⟨g, 2, none⟩ = false := by obtain ⟨xs, hown, _⟩ := HO1.out.adv ha2 hlt; exact (hown.stored 1 _).1.frozenAt 2
          have hf3 : ((w2.setCell ⟨g, 1, none⟩ (.int .i64 s2)).setCell ⟨g, 2, none⟩ (.int .i64 v2)).frozen? ⟨g, 3, none⟩ = false := by obtain ⟨xs, hown, _⟩ := HO1.out.adv ha2 hlt; exact ((hown.stored 1 _).1.stored 2 _).1.frozenAt 3
          have hd2 : (w2.setCell ⟨g, 1, none⟩ (.int .i64 s2)).cell? ⟨g, 2, none⟩ = some (.int .i64 v) := by
            rw [World.cell?_setCell_other _ _ _ _ (by simp)]; exact hc2
          have hd3 : ((w2.setCell ⟨g, 1, none⟩ (.int .i64 s2)).setCell ⟨g, 2, none⟩ (.int .i64 v2)).cell? ⟨g, 3, none⟩ = some (.slice a'' (flen k) c'') := by
            rw [World.cell?_setCell_other _ _ _ _ (by simp), World.cell?_setCell_other _ _ _ _ (by simp)]; exact hc3
          have HE : Hid (Adv w br p2 (((w2.setCell ⟨g, 1, none⟩ (.int .i64 s2)).setCell ⟨g, 2, none⟩ (.int .i64 v2)).setCell ⟨g, 3, none⟩ (.slice a2 (flen k2) c2))) := ((HA2.out.setCell hg1 _).setCell hg1 _).setCell hg1 _
          clear ha2 hl2
          go_wp2_with fail
          go_ret
          exact ⟨(xv, s2, v2, k2) :: r, some ⟨g, 0, none⟩, C, p2, rfl, by simp at hbl ⊢; omega, by omega, by omega, HE.out, HS0.out⟩
      · have y1 : ((y : Int) == 1) = false := by simp; omega
        go_wp2_with fail
        go_ret
        exact ⟨bs, A, C, p' + 1, rfl, by omega, by omega, by omega, HA1.out, HO1.out⟩
end Go.Proofs.Ytpfkhgiiojikbaa

/-! DSt: DrawSubstThen. -/
namespace Go.Proofs.Ytpfkhgiiojikbaa
open Go.RowKit Go.Deep

def DstPost (w : World) (e : Ending) (w' : World) : Prop :=
  ∃ bs A C us B D, e = .returned (.tuple #[.slice A (List.length bs) C, .slice B (List.length us) D]) ∧ bs.length ≤ 20 ∧ us.length ≤ 20 ∧ Below w.heap.size w w' ∧ BSl w' w.heap.size w'.heap.size A bs ∧ BSl w' w.heap.size w'.heap.size B us

set_option maxRecDepth 100000 in
set_option maxHeartbeats 1000000 in
theorem DrawSubstThen_any (a : Option Addr) (len cap : Nat) (w : World) (hby : Bytes w a len) (hlen : len ≤ cap) :
    Calls Try.prog 13 #[.slice a len cap] w (DstPost w) := by
  have HBY := Lib.hid hby
  clear hby
  go_enter Try.func13, Try.ntmps13
  go_wp2_with fail
  with_reducible refine (l6Open_any a len cap _ HBY.out hlen).mono ?_
  rintro e w1 ⟨rfl, hb1, hrd⟩
  have hs1 := hb1.size
  have hlt1 := hrd.lt
  have HRD := Lib.hid hrd
  have HB1 := Lib.hid hb1
  clear hb1 hrd
  have HC : Hid (Calls Try.prog 42 #[.pointer (some ⟨w.heap.size, 0, none⟩), .int .i64 3] w1 (SbPost w.heap.size 0 w1)) := l71Subst_any 3 w.heap.size 0 _ HRD.out (by omega) (by omega) (by omega)
  go_wp2_with fail
  with_reducible refine HC.out.mono ?_
  rintro e w2 ⟨bs, A, C, p2, rfl, hbl, _, hp2, ha2, ho2⟩
  have hs2 := ha2.size
  have HR2 := Lib.hid (ha2.rd HRD.out)
  have HA2 := Lib.hid ha2
  have HO2 := Lib.hid ho2.bsl
  clear ha2 ho2 HC
  have HC : Hid (Calls Try.prog 42 #[.pointer (some ⟨w.heap.size, 0, none⟩), .int .i64 3] w2 (SbPost w.heap.size p2 w2)) := l71Subst_any 3 w.heap.size p2 _ HR2.out (by omega) (by omega) (by omega)
  go_wp2_with fail
  with_reducible refine HC.out.mono ?_
  rintro e w3 ⟨us, B, D, p3, rfl, hul, _, hp3, ha3, ho3⟩
  have hs3 := ha3.size
  have HP : Hid (DstPost w (.returned (.tuple #[.slice A bs.length C, .slice B us.length D])) w3) := by
    refine ⟨bs, A, C, us, B, D, rfl, hbl, hul, ?_, ?_, ho3.bsl.mono (by omega) (Nat.le_refl _)⟩
    · exact adv_low (adv_low HB1.out (Nat.le_refl _) (by omega) HA2.out) (Nat.le_refl _) (by omega) ha3
    · exact (HO2.out.same (ha3.same (by omega) (.inl (by omega)))).mono (by omega) hs3
  clear ha3 ho3 HC
  go_wp2_with fail
  refine bodyPost_ret (v := .tuple #[.slice A bs.length C, .slice B us.length D]) ?_ rfl HP.out
  simp [results, Try.results13, go_sem]
end Go.Proofs.Ytpfkhgiiojikbaa

/-! TL: What the laws of SubstThen want of its answers. Plain lemmas. -/
namespace Go.Proofs.Ytpfkhgiiojikbaa
open Go.RowKit Go.Deep
theorem thR_small {bs us l : List Bd} {t : Bool} (h : thR bs us = (l, t)) : l.length ≤ 100 ∧ ∀ x ∈ l, fsz x.2.2.2 ≤ 1000000 := by
  rcases thR_cases h with ⟨_, rfl⟩ | ⟨_, _, _, _, hs⟩
  · exact ⟨Nat.zero_le _, fun x hx => by cases hx⟩
  · have h1 := sok_in hs
    have h2 := asc_len l (-1) (by omega) h1.1 fun x hx => ⟨(h1.2 x hx).1, (h1.2 x hx).2.1⟩
    refine ⟨by omega, fun x hx => ?_⟩
    have := (okW_iff _ _ _ _).1 (h1.2 x hx).2.2
    omega
theorem thR_sok {bs us l : List Bd} (h : thR bs us = (l, true)) : sok 16 l = true := by
  rcases thR_cases h with ⟨h, _⟩ | ⟨_, _, _, _, hs⟩
  · cases h
  · exact hs
end Go.Proofs.Ytpfkhgiiojikbaa

/-! S9: DrawSubstDo. -/
namespace Go.Proofs.Ytpfkhgiiojikbaa
open Go.RowKit Go.Deep

def DsdPost (w : World) (e : Ending) (w' : World) : Prop :=
  ∃ bs A C s v a c k, e = .returned (.tuple #[.slice A (List.length bs) C, .agg #[.int .i64 s, .int .i64 v, .slice a (flen k) c]]) ∧ bs.length ≤ 20 ∧ 1 + fsz k ≤ 31000 ∧ Below w.heap.size w w' ∧ BSl w' w.heap.size w'.heap.size A bs ∧ Sl w' w.heap.size w'.heap.size a k

theorem dsd_end {w w1 : World} {o : Obj} {s v : Int} {a A : Option Addr} {c C : Nat} {k : Fo} {bs : List Bd} (hb : Below (w.heap.size + 1) (w.alloc o) w1) (hS : 1 + fsz k ≤ 31000) (hpl : bs.length ≤ 20) (hl : Sl w1 (w.heap.size + 1) w1.heap.size a k) (hi : BSl w1 (w.heap.size + 1) w1.heap.size A bs) (x y z : Value) :
    DsdPost w (.returned (.tuple #[.slice A bs.length C, .agg #[.int .i64 s, .int .i64 v, .slice a (flen k) c]])) (((w1.setCell ⟨w.heap.size, 0, none⟩ x).setCell ⟨w.heap.size, 1, none⟩ y).setCell ⟨w.heap.size, 2, none⟩ z) := by
  have hs : Same (w.heap.size + 1) w1.heap.size w1 (((w1.setCell ⟨w.heap.size, 0, none⟩ x).setCell ⟨w.heap.size, 1, none⟩ y).setCell ⟨w.heap.size, 2, none⟩ z) :=
    (((Same.setCell (fun _ _ _ => rfl) (.inl (by simp)) _).setCell (.inl (by simp)) _).setCell (.inl (by simp)) _)
  have hb' : Below w.heap.size w w1 := ((Below.refl _ _).alloc (Nat.le_refl _) o).trans (hb.mono (by omega))
  exact ⟨bs, A, C, s, v, a, c, k, rfl, hpl, hS, ((hb'.setCell (Nat.le_refl _) _).setCell (Nat.le_refl _) _).setCell (Nat.le_refl _) _, (hi.same hs).mono (by omega) (by simp), (hl.same hs).mono (by omega) (by simp)⟩

set_option maxRecDepth 100000 in
set_option maxHeartbeats 1000000 in
theorem DrawSubstDo_any (a : Option Addr) (len cap : Nat) (w : World) (hby : Bytes w a len) (hlen : len ≤ cap) :
    Calls Try.prog 14 #[.slice a len cap] w (DsdPost w) := by
  have HBY := Lib.hid hby
  clear hby
  go_enter Try.func14, Try.ntmps14
  go_wp2_with fail
  with_reducible refine (l6Open_any a len cap _ (HBY.out.alloc _) hlen).mono ?_
  rintro e w1 ⟨rfl, hb1, hrd⟩
  have hs1 := hb1.size
  simp at hs1
  simp only [World.size_alloc] at hrd
  have hlt1 := hrd.lt
  have HRD := Lib.hid hrd
  have HB1 : Hid (Below (w.heap.size + 1) (w.alloc (.cells #[.int .i64 0, .int .i64 0, .slice none 0 0] 28)) w1) := hb1.mono (by simp)
  clear hb1 hrd
  simp only [World.size_alloc]
  have HC : Hid (Calls Try.prog 42 #[.pointer (some ⟨w.heap.size + 1, 0, none⟩), .int .i64 3] w1 (SbPost (w.heap.size + 1) 0 w1)) := l71Subst_any 3 (w.heap.size + 1) 0 _ HRD.out (by omega) (by omega) (by omega)
  go_wp2_with fail
  with_reducible refine HC.out.mono ?_
  rintro e w2 ⟨bs, A, C, p2, rfl, hbl, _, hp2, ha2, ho2⟩
  have hs2 := ha2.size
  have HB2 := Lib.hid (adv_low HB1.out (by omega) (by omega) ha2)
  have HR2 := Lib.hid (ha2.rd HRD.out)
  have HI2 := Lib.hid ho2.bsl
  clear ha2 ho2
  go_wp2_with fail
  with_reducible refine (l71Some_any (w.heap.size + 1) p2 _ HR2.out (by omega)).mono ?_
  rintro e w3 ⟨s, v, a2, c2, k, p3, rfl, _, hp3, hS3, ha3, hl3⟩
  have hs3 := ha3.size
  have hb3 := adv_low HB2.out (by omega) (by omega) ha3
  obtain ⟨hr0, hr1, hr2, hf0, hf1, hf2⟩ := res_low hb3
  have HB3 := Lib.hid hb3
  have HL3 := Lib.hid (hl3.mono (lo' := w.heap.size + 1) (by omega) (Nat.le_refl _))
  have HI3 : Hid (BSl w3 (w.heap.size + 1) w3.heap.size A bs) := (HI2.out.same (ha3.same (Nat.le_refl _) (.inl (by omega)))).mono (by omega) hs3
  clear ha3 hl3 hb3
  go_wp2_with fail
  refine bodyPost_ret (v := .tuple #[.slice A bs.length C, .agg #[.int .i64 s, .int .i64 v, .slice a2 (flen k) c2]]) ?_ rfl (dsd_end HB3.out hS3 hbl HL3.out HI3.out _ _ _)
  simp [results, Try.results14, go_sem, hr0, hr1, hr2]
end Go.Proofs.Ytpfkhgiiojikbaa
