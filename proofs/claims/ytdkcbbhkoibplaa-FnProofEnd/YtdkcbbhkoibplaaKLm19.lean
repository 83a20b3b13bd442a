/- Several texts in one: SP3, ML0, TH0, LB2, TH, RGs, MU, FB, SZ, SHm, TI, UN0, UN1, UB, UN2, UR, V2, SB, BG, SP5. -/
import Derived.Test.YtdkcbbhkoibplaaKLm18
import Derived.Test.YtdkcbbhkoibplaaKLm8
import Derived.Test.YtdkcbbhkoibplaaKLm9
import Derived.Test.YtdkcbbhkoibplaaKLm15
import Derived.Test.YtdkcbbhkoibplaaKLm4
import Derived.Test.YtdkcbbhkoibplaaKLm5
import Derived.Maps.RangeWalk
import Derived.Test.YtdkcbbhkoibplaaKLm6
import Derived.Test.YtdkcbbhkoibplaaKLm7
import Derived.Test.YtdkcbbhkoibplaaKLm3
import Derived.Test.YtdkcbbhkoibplaaProg
import Derived.Shelf.Lay
import Derived.Shelf.LaySoft
import Derived.Shelf.SlGeneric
import Derived.Ground.SlmcProg
import Derived.Shelf.SlMaps.Clone
import Derived.Test.YtdkcbbhkoibplaaKLm13
import Derived.Test.YtdkcbbhkoibplaaKLm2

/-! SP3: The specification's l2Put: what variables stand for put in. -/
namespace Go.Proofs.Ytdkcbbhkoibplaa
open Go.RowKit Go.Deep
attribute [local go_sem ↓] Go.wp_at_zero Go.wp_at_succ

theorem cpS_start (σ : Int → Option (Int × Int × Fo)) (w : World) (s : Int) (a : Option Addr) (c : Nat) (k : Fo) : CpAt w s 0 a c (fsub σ k) 0 none 0 (((w.alloc (.cells #[.int .i64 s, .int .i64 0, .slice a (flen k) c] 35)).alloc (.cells #[.int .i64 0, .int .i64 0, .slice none 0 0] 35)).alloc (.cells #[.int .i64 s, .int .i64 0, .slice none 0 0] 35)) := by
  have h := CpAt.start w s 0 a c (fsub σ k)
  rw [fsub_len] at h
  exact h

theorem put_end0 {w w1 w2 : World} {s' v' : Int} {k' : Fo} {a : Option Addr} {c : Nat} {Y Z : Obj} (hb1 : Below ((w.alloc Y).alloc Z).heap.size ((w.alloc Y).alloc Z) w1) (hb : Below w1.heap.size w1 w2) (ho : Own w2 w1.heap.size k' (flen k') a c) (p q r : Value) :
    CopyPost s' v' k' w (.returned (.agg #[.int .i64 s', .int .i64 v', .slice a (flen k') c])) (((w2.setCell ⟨w.heap.size + 1, 0, none⟩ p).setCell ⟨w.heap.size + 1, 1, none⟩ q).setCell ⟨w.heap.size + 1, 2, none⟩ r) := by
  have h1 := hb1.size
  simp at h1
  have h2 := hb.size
  have hb2 : Below w.heap.size w w2 := ((((Below.refl _ _).alloc (Nat.le_refl _) Y).alloc (by simp) Z).trans (hb1.mono (by simp; omega))).trans (hb.mono (by omega))
  refine ⟨a, c, rfl, ((hb2.setCell (by simp) _).setCell (by simp) _).setCell (by simp) _, ?_⟩
  exact (((ho.store (by simp; omega) p).store (by simp; omega) q).store (by simp; omega) r).low (Below.refl _ _) (by omega)

set_option maxRecDepth 100000 in
set_option maxHeartbeats 1000000 in
theorem l2Put_any (bs : List Bd) (A0 : Option Addr) (C0 : Nat) (hbl : bs.length ≤ 9223372036854775807) (hbz : ∀ x t, sv bs x = some t → fsz t.2.2 ≤ 1000000) (N : Nat) : ∀ (s v : Int) (a : Option Addr) (c : Nat) (k : Fo) (w : World), BSl w 0 w.heap.size A0 bs → Sl w 0 w.heap.size a k → okN s v (flen k) = true → fok k = true → fsz k ≤ N → N ≤ 1000 →
    Calls Try.prog 52 #[.slice A0 bs.length C0, .agg #[.int .i64 s, .int .i64 v, .slice a (flen k) c]] w (CopyPost (tsub (sv bs) s v k).1 (tsub (sv bs) s v k).2.1 (tsub (sv bs) s v k).2.2 w) := by
  induction N using Nat.strongRecOn with
  | _ N ih =>
    intro s v a c k w hbs hl hok hfk hN hN2
    have hfl := flen_le_sz k
    have IH := Lib.hid ih
    have HFK := Lib.hid hfk
    have HBS := Lib.hid hbs
    have HBZ := Lib.hid hbz
    clear ih hfk hbs hbz
    by_cases hs0 : s = 0
    · subst hs0
      have hk0 : k = .nil := by
        have h1 := ((okN_iff _ _ _).1 hok).1
        cases k with
        | nil => rfl
        | node _ _ _ _ r => simp [flen, ar] at h1; omega
      subst hk0
      have hb0 : Below w.heap.size w ((w.alloc (.cells #[.int .i64 0, .int .i64 v, .slice a (flen .nil) c] 35)).alloc (.cells #[.int .i64 0, .int .i64 0, .slice none 0 0] 35)) := ((Below.refl _ _).alloc (Nat.le_refl _) _).alloc (by simp) _
      have HB1 : Hid (BSl ((w.alloc (.cells #[.int .i64 0, .int .i64 v, .slice a (flen .nil) c] 35)).alloc (.cells #[.int .i64 0, .int .i64 0, .slice none 0 0] 35)) 0 ((w.alloc (.cells #[.int .i64 0, .int .i64 v, .slice a (flen .nil) c] 35)).alloc (.cells #[.int .i64 0, .int .i64 0, .slice none 0 0] 35)).heap.size A0 bs) := (HBS.out.below hb0).mono (Nat.le_refl _) hb0.size
      have HZ : Hid (fsz (tsub (sv bs) 0 v .nil).2.2 ≤ 1000000) := by
        rw [Hid, tsub, if_pos rfl]
        cases h : sv bs v with
        | none => simp [fsz]
        | some t => exact HBZ.out v t h
      clear hb0 hok hl
      go_enter Try.func52, Try.ntmps52
      go_wp2_with fail
      with_reducible refine (l2Of_any bs A0 C0 v _ HB1.out hbl).mono ?_
      rintro e w1 ⟨a1, c1, rfl, hb1, hl1⟩
      generalize tsub (sv bs) 0 v .nil = tt at *
      obtain ⟨s', v', k'⟩ := tt
      dsimp only at hl1 HZ ⊢
      have HB2 := Lib.hid hb1
      have HL1 := Lib.hid hl1
      clear hb1 hl1
      go_wp2_with fail
      with_reducible refine (l1Copy_any (fsz k') s' v' a1 c1 k' _ HL1.out (Nat.le_refl _) HZ.out).mono ?_
      rintro e w2 ⟨a2, c2, rfl, hb2, ho2⟩
      have hs1 := HB2.out.size
      simp at hs1
      have hbx := (HB2.out.mono (show w.heap.size + 2 ≤ _ by simp)).trans (hb2.mono (show w.heap.size + 2 ≤ w1.heap.size by omega))
      obtain ⟨_, _, _, hr0, hr1, hr2⟩ := tb_cellsS hbx
      obtain ⟨_, hf0⟩ := tb_freeS hbx 0 rfl rfl
      obtain ⟨_, hf1⟩ := tb_freeS hbx 1 rfl rfl
      obtain ⟨_, hf2⟩ := tb_freeS hbx 2 rfl rfl
      clear hbx
      have HE := Lib.hid (fun p q r => put_end0 (s' := s') (v' := v') (k' := k') (c := c2) HB2.out hb2 ho2 p q r)
      clear hb2 ho2
      go_wp2_with fail
      refine bodyPost_ret (v := .agg #[.int .i64 s', .int .i64 v', .slice a2 (flen k') c2]) ?_ rfl (HE.out _ _ _)
      simp [results, Try.results52, go_sem, hr0, hr1, hr2]
    have hv0 : v = 0 := ((okN_iff _ _ _).1 hok).2.2 hs0
    subst hv0
    have HTT : Hid (tsub (sv bs) s 0 k = (s, 0, fsub (sv bs) k)) := by unfold Hid tsub; rw [if_neg hs0]
    have hse : (s == 0) = false := by simpa using hs0
    have hfl2 := fsub_len (sv bs) k
    rw [HTT.out]
    dsimp only
    clear hok
    have HST := Lib.hid (cpS_start (sv bs) w s a c k)
    go_enter Try.func52, Try.ntmps52
    go_wp2_with fail
    go_loopw [6] (fun i wr => ∃ (j : Nat) (A : Option Addr) (C : Nat), j ≤ flen k ∧ i = .int .i64 j ∧ CpAt w s 0 a c (fsub (sv bs) k) j A C wr) (fun i _ => flen k - (intOf i).toNat)
    case atStart => exact ⟨0, none, 0, Nat.zero_le _, rfl, HST.out⟩
    case round =>
      clear HST
      obtain ⟨j, A, C, hj, rfl, hat⟩ := hrel
      obtain ⟨hr0, hr1, hr2, hq0, hq1, hq2, hb0⟩ := hat.res
      rw [hfl2] at hb0
      have ho0 := hat.out0
      have ho1 := hat.out1
      have ho2 := hat.out2
      have hof := hat.free
      have hsz := hat.size
      by_cases hlt : j < flen k
      · clear hr0 hr1 hr2 hq0 hq1 hq2
        rcases hl with rfl | ⟨b, o, rfl, hrow⟩
        · simp [flen] at hlt
        have hbw := hat.low
        obtain ⟨s', v', kk, a', c', ⟨x, y, hd⟩, _, hbB, hk0, hk1, hk2, hsl⟩ := row_at (hrow.below hbw) hlt
        have hkN := Lib.hid (fsz_kid hd)
        have HD := Lib.hid (fsub_at (sv bs) j k hd)
        have HKID := Lib.hid (fok_kid HFK.out hd)
        have HBR : Hid (BSl wr.drew 0 wr.drew.heap.size A0 bs) := (HBS.out.below hbw.drew).mono (Nat.le_refl _) hbw.drew.size
        have HS := Lib.hid hsl
        have HROW := Lib.hid hrow
        have HAT := Lib.hid hat
        clear hd hsl hrow hat hbw
        have g1 : (0 : Int) ≤ (j : Int) := by omega
        have g2 : (j : Int) < (flen k : Int) := by omega
        obtain ⟨ti, hti, htz, hts, htb⟩ := Try.infoTerm
        obtain ⟨xs, hown, hall⟩ := HAT.out.own
        have HTI := Lib.hid hti
        have HTZ := Lib.hid htz
        have HTS := Lib.hid hts
        have HTB := Lib.hid htb
        have HOWN := Lib.hid hown
        have HALL := Lib.hid hall
        have HLT : Hid (∀ g, (Value.slice A j C).ownBlock = some g → w.heap.size + 3 ≤ g) := fun g hg => (hown.lt g hg).1
        clear hti htz hts htb hown hall
        have hu0 : ∀ u : After (w.heap.size + 3) wr, u.world.cell? ⟨w.heap.size + 1 + 1, 2, none⟩ = some (.slice A j C) := fun u => u.cell (by simp) ho2
        have hu1 : ∀ u : After (w.heap.size + 3) wr, u.world.cell? ⟨w.heap.size, 2, none⟩ = some (.slice (some ⟨b, o, none⟩) (flen k) c) := fun u => u.cell (by simp) hb0
        have hu2 : ∀ u : After (w.heap.size + 3) wr, u.world.cell? ⟨b, o + j * 3, none⟩ = some (.int .i64 s') := fun u => u.cell (by simp; omega) hk0
        have hu3 : ∀ u : After (w.heap.size + 3) wr, u.world.cell? ⟨b, o + j * 3 + 1, none⟩ = some (.int .i64 v') := fun u => u.cell (by simp; omega) hk1
        have hu4 : ∀ u : After (w.heap.size + 3) wr, u.world.cell? ⟨b, o + j * 3 + 2, none⟩ = some (.slice a' (flen kk) c') := fun u => u.cell (by simp; omega) hk2
        go_wp2_with fail
        refine wp_region_mix (fun w' => ∃ u : After (w.heap.size + 3) wr, w' = u.world) [11, 12] [(0, 0), (1, 0), (2, 0), (3, 0), (4, 0), (5, 0), (6, 0), (7, 0), (8, 1), (9, 1), (10, 1), (11, 2), (12, 2)] (by kernel_rfl) (by kernel_rfl) ⟨⟨_, (Below.refl _ _).drew⟩, rfl⟩ ?_
        iterate 8
          refine mix_see rfl (fun K hK => ?_)
          go_simp
          refine hK _ ?_
          clear hK K
        clear hu0 hu1 hu2 hu3 hu4
        refine mix_hold rfl (fun K hK => ?_)
        go_simp
        with_reducible refine (IH.out (fsz kk) (by have := hkN.out; omega) s' v' a' c' kk _ HBR.out ?_ HKID.out.1 HKID.out.2 (Nat.le_refl _) ?_).mono ?_
        · exact (HS.out.below (Below.refl _ _).drew).mono (Nat.le_refl _) (by simp; omega)
        · have := hkN.out; omega
        generalize tsub (sv bs) s' v' kk = tt at *
        obtain ⟨s3, v3, k3⟩ := tt
        dsimp only at HD
        rintro e w2 ⟨a2, c2, rfl, hb2', hown2⟩
        dsimp only at hown2
        have hb2 : Below wr.heap.size wr w2 := bl_undrew hb2'
        have HL2 : Hid (Sl w2 wr.heap.size w2.heap.size a2 k3) := hown2.sl
        have hs2 := hb2.size
        refine hK _ _ ⟨⟨_, hb2.mono (by omega)⟩, rfl⟩ ?_
        clear hK K hb2' hown2
        refine mix_hold rfl (fun K hK => ?_)
        go_simp
        refine hK _ _ ⟨⟨_, (hb2.mono (by omega)).alloc (by omega) _⟩, rfl⟩ ?_
        clear hK K
        refine mix_hold rfl (fun K hK => ?_)
        refine step_append_lies _ (by rfl) _ _ _ (by rfl) (w.heap.size + 3) 35 ti _ 3 40 Try.underlying33 HTI.out HTZ.out HTS.out HTB.out rfl (by omega) (.slice A j C) j xs (by rfl) (own_low ((Below.refl _ _).alloc (Nat.le_refl _) _) (own_low hb2 HOWN.out)) ⟨w2.heap.size, 0, none⟩ 1 1 [.int .i64 s3, .int .i64 v3, .slice a2 (flen k3) c2] (by rfl) (by rfl) (World.news_of_block (heap_alloc_new _ _)) (by simp [Value.oneCell']) (by omega) (by unfold maxLen; omega) (by omega) (by simp; omega) (w2.heap.size + 1) (by simp) ?_
        intro g cap w3 hown3 hgrow hatg hg3
        have hlow : Below (w.heap.size + 3) wr w3 := ((hb2.mono (by omega)).alloc (by omega) _).grown hgrow (by simp; omega) HLT.out
        have hz2 : w3.cell? ⟨w.heap.size + 1 + 1, 2, none⟩ = some (.slice A j C) := by rw [hlow.cell (by simp)]; exact ho2
        have hz3 : w3.frozen? ⟨w.heap.size + 1 + 1, 2, none⟩ = false := by rw [hlow.frozen (by simp)]; exact hof
        have HSTEP := Lib.hid (HAT.out.step hb2 HL2.out HD.out HOWN.out HALL.out hown3 hgrow hatg)
        refine hK _ _ ⟨⟨_, hlow⟩, rfl⟩ ?_
        clear hK K hown3 hgrow hatg
        refine mix_late rfl (fun K hK => ?_)
        go_simp
        refine hK _ _ ?_
        clear hK K
        refine mix_late rfl (fun K hK => ?_)
        go_simp
        refine hK _ _ ?_
        clear hK K
        refine mix_end ?_
        clear hz2 hz3 hlow hb0 ho0 ho1 ho2 hof hk0 hk1 hk2
        go_wp2_with fail
        go_roundw
        case rel => exact ⟨j + 1, _, _, by omega, by go_num, HSTEP.out⟩
        case measure => simp [intOf]; omega
      · have hjk : j = flen k := by omega
        subst hjk
        have HDN : Hid (∀ x y z, CopyPost s 0 (fsub (sv bs) k) w (.returned (.agg #[.int .i64 s, .int .i64 0, .slice A (flen k) C])) (((wr.setCell ⟨w.heap.size + 1, 0, none⟩ x).setCell ⟨w.heap.size + 1, 1, none⟩ y).setCell ⟨w.heap.size + 1, 2, none⟩ z)) := fun x y z => by
          rw [← hfl2] at hat ⊢
          exact hat.done x y z
        clear hat
        go_wp2_with fail
        refine bodyPost_ret (v := .agg #[.int .i64 s, .int .i64 0, .slice A (flen k) C]) ?_ rfl (HDN.out _ _ _)
        simp [results, Try.results52, go_sem, hr0, hr1, hr2]
end Go.Proofs.Ytdkcbbhkoibplaa

/-! UN0: What makes two terms the same: plain. Definitions and plain lemmas. -/
namespace Go.Proofs.Ytdkcbbhkoibplaa
open Go.RowKit Go.Deep

abbrev T3 := Int × Int × Fo
def ap (σ : Int → Option T3) (t : T3) : T3 := tsub σ t.1 t.2.1 t.2.2
def sz (t : T3) : Nat := 1 + fsz t.2.2
end Go.Proofs.Ytdkcbbhkoibplaa

/-! V2: l1Has: whether a variable is in a term. -/
namespace Go.Proofs.Ytdkcbbhkoibplaa
open Go.RowKit Go.Deep

theorem one_box {w wr : World} {x y z : Value} (h : Below (w.heap.size + 1) (w.alloc (.cells #[x, y, z] 35)) wr) : wr.cell? ⟨w.heap.size, 2, none⟩ = some z := by
  rw [h.cell (by simp), World.cell?_alloc_at _ _ _ _ (by simp)]; rfl

theorem fvl_drop {x : Int} {j : Nat} {k : Fo} {a b : Nat} {s v : Int} {kk r : Fo} (h : fdrop j k = .node a b (s, v) kk r) : x ∈ fvl (fdrop j k) ↔ x ∈ fvs s v kk ∨ x ∈ fvl r := by
  rw [h]
  simp only [fvl, fvs, List.mem_append]

set_option maxRecDepth 100000 in
set_option maxHeartbeats 1000000 in
theorem l1Has_any (N : Nat) : ∀ (s v : Int) (a : Option Addr) (c : Nat) (k : Fo) (x : Int) (w : World), Sl w 0 w.heap.size a k → fsz k ≤ N → N ≤ 1000000 →
    Calls Try.prog 94 #[.agg #[.int .i64 s, .int .i64 v, .slice a (flen k) c], .int .i64 x] w fun e w' => e = .returned (.bool (decide (x ∈ fvs s v k))) ∧ Below w.heap.size w w' := by
  induction N using Nat.strongRecOn with
  | _ N ih =>
    intro s v a c k x w hl hN hN2
    have hfl := flen_le_sz k
    have IH := Lib.hid ih
    clear ih
    by_cases hs : s = 0
    · subst hs
      have HE : Hid ((v == x) = decide (x ∈ fvs 0 v k)) := by
        unfold Hid
        by_cases h : v = x
        · subst h; simp [fvs]
        · have : x ≠ v := fun e => h e.symm
          simp [fvs, h, this]
      go_enter Try.func94, Try.ntmps94
      go_wp2_with fail
      go_ret
      exact ⟨by rw [← HE.out]; rfl, (Below.refl _ _).alloc (Nat.le_refl _) _⟩
    · have gs : (s == 0) = false := by simpa using hs
      have hb0 : Below w.heap.size w (w.alloc (.cells #[.int .i64 s, .int .i64 v, .slice a (flen k) c] 35)) := (Below.refl _ _).alloc (Nat.le_refl _) _
      have HB0 := Lib.hid hb0
      have HV : Hid (fvs s v k = fvl k) := by unfold Hid fvs; rw [if_neg hs]
      clear hb0
      go_enter Try.func94, Try.ntmps94
      go_wp2_with fail
      go_loopw [5] (fun i wr => ∃ j : Nat, j ≤ flen k ∧ i = .int .i64 j ∧ Hid (x ∈ fvl k ↔ x ∈ fvl (fdrop j k)) ∧ Below (w.heap.size + 1) (w.alloc (.cells #[.int .i64 s, .int .i64 v, .slice a (flen k) c] 35)) wr) (fun i _ => flen k - (intOf i).toNat)
      case atStart => exact ⟨0, by omega, rfl, Iff.rfl, Below.refl _ _⟩
      case round =>
        obtain ⟨j, hj, rfl, hq, hbl⟩ := hrel
        have hsr := hbl.size
        simp at hsr
        have hx2 := one_box hbl
        have hbw := HB0.out.trans (hbl.mono (show w.heap.size ≤ w.heap.size + 1 by omega))
        by_cases hlt : j < flen k
        · rcases hl with rfl | ⟨b, o, rfl, hrow⟩
          · simp [flen] at hlt
          obtain ⟨s1, v1, kk, a1, c1, ⟨x1, y1, hd⟩, _, hbB, hk0, hk1, hk2, hsl⟩ := row_at (hrow.below hbw) hlt
          have hkN := fsz_kid hd
          have HQ : Hid (x ∈ fvl k ↔ x ∈ fvs s1 v1 kk ∨ x ∈ fvl (fdrop (j + 1) k)) := hq.out.trans (fvl_drop hd)
          have HS := Lib.hid hsl
          have HBL := Lib.hid hbl
          clear hd hsl hrow hbl hbw hq
          have g1 : (0 : Int) ≤ (j : Int) := by omega
          have g2 : (j : Int) < (flen k : Int) := by omega
          have HS1 := Lib.hid (HS.out.mono (lo' := 0) (Nat.le_refl _) (show w.heap.size ≤ wr.heap.size by omega))
          cases hin : decide (x ∈ fvs s1 v1 kk) with
          | true =>
            have HE : Hid (decide (x ∈ fvs s v k) = true) := by
              unfold Hid
              rw [HV.out]
              exact decide_eq_true (HQ.out.2 (.inl (of_decide_eq_true hin)))
            have HIN := Lib.hid hin
            clear hin
            go_wp2_with fail
            with_reducible refine (IH.out (fsz kk) (by omega) s1 v1 a1 c1 kk x _ HS1.out (Nat.le_refl _) (by omega)).mono ?_
            rw [HIN.out]
            rintro e u ⟨rfl, hu⟩
            clear hk0 hk1 hk2 hx2
            have HB2 := Lib.hid (HBL.out.trans (hu.mono hsr))
            clear hu
            go_wp2_with fail
            go_ret
            exact ⟨by rw [HE.out]; rfl, HB0.out.trans (HB2.out.mono (by omega))⟩
          | false =>
            have HE : Hid (x ∈ fvl k ↔ x ∈ fvl (fdrop (j + 1) k)) := by
              have := of_decide_eq_false hin
              unfold Hid
              rw [HQ.out]
              simp [this]
            have HIN := Lib.hid hin
            clear hin
            go_wp2_with fail
            with_reducible refine (IH.out (fsz kk) (by omega) s1 v1 a1 c1 kk x _ HS1.out (Nat.le_refl _) (by omega)).mono ?_
            rw [HIN.out]
            rintro e u ⟨rfl, hu⟩
            clear hk0 hk1 hk2 hx2
            have HB2 := Lib.hid (HBL.out.trans (hu.mono hsr))
            clear hu
            go_wp2_with fail
            go_roundw
            case rel => exact ⟨j + 1, by omega, by go_num, HE, HB2.out⟩
            case measure => simp [intOf]; omega
        · have HE : Hid (decide (x ∈ fvs s v k) = false) := by
            unfold Hid
            rw [HV.out]
            refine decide_eq_false fun h => ?_
            have := hq.out.1 h
            rw [fdrop_all (by omega)] at this
            simp [fvl] at this
          have HBW := Lib.hid hbw
          clear hbw hbl hq
          go_wp2_with fail
          go_ret
          exact ⟨by rw [HE.out]; rfl, HBW.out⟩
end Go.Proofs.Ytdkcbbhkoibplaa

/-! BG: l2Big at any term. -/
namespace Go.Proofs.Ytdkcbbhkoibplaa
open Go.RowKit Go.Deep

set_option maxRecDepth 100000 in
set_option maxHeartbeats 400000 in
theorem l2BigG_any (s v : Int) (a : Option Addr) (c : Nat) (k : Fo) (w : World) (hl : Sl w 0 w.heap.size a k) :
    Calls Try.prog 46 #[.agg #[.int .i64 s, .int .i64 v, .slice a (flen k) c]] w fun e w' => e = .returned (.bool (!okW s v k 64)) ∧ Below w.heap.size w w' := by
  have hb : Below w.heap.size w (w.alloc (.cells #[.int .i64 s, .int .i64 v, .slice a (flen k) c] 35)) := box_low _ _
  have HB := Lib.hid hb
  have HC := Lib.hid (l1Count_any 64 s v a c k 64 (w.alloc (.cells #[.int .i64 s, .int .i64 v, .slice a (flen k) c] 35)) (hl.next hb) (by omega) (by omega) (by omega))
  have HE : Hid (decide (cntT s v k 64 > 64) = !okW s v k 64) := by
    have h1 := cntT_okW s v k 64
    rw [Hid, ← h1]
    by_cases h : cntT s v k 64 ≤ 64
    · rw [decide_eq_true h, decide_eq_false (by omega)]; rfl
    · rw [decide_eq_false h, decide_eq_true (by omega)]; rfl
  have hc0 : (w.alloc (.cells #[.int .i64 s, .int .i64 v, .slice a (flen k) c] 35)).cell? ⟨w.heap.size, 0, none⟩ = some (.int .i64 s) := by rw [World.cell?_alloc_at _ _ _ _ (by simp)]; rfl
  have hc1 : (w.alloc (.cells #[.int .i64 s, .int .i64 v, .slice a (flen k) c] 35)).cell? ⟨w.heap.size, 1, none⟩ = some (.int .i64 v) := by rw [World.cell?_alloc_at _ _ _ _ (by simp)]; rfl
  have hc2 : (w.alloc (.cells #[.int .i64 s, .int .i64 v, .slice a (flen k) c] 35)).cell? ⟨w.heap.size, 2, none⟩ = some (.slice a (flen k) c) := by rw [World.cell?_alloc_at _ _ _ _ (by simp)]; rfl
  clear hl hb
  go_enter Try.func46, Try.ntmps46
  go_wp2_with fail
  with_reducible refine HC.out.mono ?_
  rintro e w1 ⟨rfl, hb1⟩
  have HB1 := Lib.hid (below_next HB.out hb1)
  have he := HE.out
  clear hb1 HC hc0 hc1 hc2
  generalize cntT s v k 64 = n at *
  go_wp2_with fail
  go_ret
  exact ⟨rfl, HB1.out⟩
end Go.Proofs.Ytdkcbbhkoibplaa

/-! SP5: l11Subst. -/
namespace Go.Proofs.Ytdkcbbhkoibplaa
open Go.RowKit Go.Deep

set_option maxRecDepth 100000 in
set_option maxHeartbeats 2000000 in
theorem l11Subst_any (bs : List Bd) (A : Option Addr) (C : Nat) (w : World) (hb : BSl w 0 w.heap.size A bs) (hl : bs.length ≤ 9223372036854775807) :
    Calls Try.prog 48 #[.slice A bs.length C] w fun e w' => e = .returned (.bool (sok 64 bs)) ∧ Below w.heap.size w w' := by
  have HB := Lib.hid hb
  clear hb
  by_cases hbig : 12 < bs.length
  · have HF : Hid (sok 64 bs = false) := by
      cases h : sok 64 bs with
      | false => exact rfl
      | true => have := sok_len bs (-1) (by omega) h; omega
    go_enter Try.func48, Try.ntmps48
    go_wp2_with fail
    go_ret
    exact ⟨by rw [HF.out]; rfl, Below.refl _ _⟩
  go_enter Try.func48, Try.ntmps48
  go_wp2_with fail
  go_loopw [3] (fun i wr => ∃ (j : Nat) (last : Int), i = .int .i64 j ∧ j ≤ bs.length ∧ Hid (j = 0 → last = -1) ∧ Hid (∀ n, j = n + 1 → ∃ y, bs[n]? = some y ∧ y.1 = last ∧ 0 ≤ last) ∧ Hid (sok 64 bs = sokFrom 64 last (bs.drop j)) ∧ Hid (Below w.heap.size w wr)) (fun i _ => bs.length - (intOf i).toNat)
  case atStart => exact ⟨0, -1, rfl, Nat.zero_le _, fun _ => rfl, fun n hn => by omega, rfl, Below.refl _ _⟩
  case round =>
    obtain ⟨j, last, rfl, hj, HJ0, HJ1, HS, HLW⟩ := hrel
    have hws := HLW.out.size
    by_cases hlt : j < bs.length
    · obtain ⟨x, hx⟩ : ∃ x, bs[j]? = some x := ⟨bs[j], List.getElem?_eq_getElem hlt⟩
      obtain ⟨xv, s, v, k⟩ := x
      have hbr := HB.out.below HLW.out
      rcases hbr with hbr | ⟨b, o, rfl, _, hbB, hcells⟩
      · subst hbr; simp at hx
      obtain ⟨a', c', c0, c1, c2, c3, hsl⟩ := hcells j _ hx
      dsimp only at c0 c1 c2 c3 hsl
      have HD := Lib.hid (drop_bd2 hx)
      have HX := Lib.hid hx
      have g1 : (0 : Int) ≤ (j : Int) := by omega
      have g2 : (j : Int) < (bs.length : Int) := by omega
      have hu0 : ∀ u : After wr.heap.size wr, u.world.cell? ⟨b, o + j * 4, none⟩ = some (.int .i64 xv) := fun u => u.cell (by simp; omega) c0
      have hu1 : ∀ u : After wr.heap.size wr, u.world.cell? ⟨b, o + j * 4 + 1, none⟩ = some (.int .i64 s) := fun u => u.cell (by simp; omega) c1
      have hu2 : ∀ u : After wr.heap.size wr, u.world.cell? ⟨b, o + j * 4 + 1 + 1, none⟩ = some (.int .i64 v) := fun u => u.cell (by simp; omega) c2
      have hu3 : ∀ u : After wr.heap.size wr, u.world.cell? ⟨b, o + j * 4 + 1 + 2, none⟩ = some (.slice a' (flen k) c') := fun u => u.cell (by simp; omega) c3
      have HCALL : Hid (∀ u : After wr.heap.size wr, Calls Try.prog 46 #[.agg #[.int .i64 s, .int .i64 v, .slice a' (flen k) c']] u.world fun e w' => e = .returned (.bool (!okW s v k 64)) ∧ Below u.world.heap.size u.world w') := fun u => by
        have hu := u.below
        exact l2BigG_any s v a' c' k u.world ((hsl.below (hu.mono hws)).mono (Nat.le_refl _) (Nat.le_trans hws hu.size))
      by_cases hin : 0 ≤ xv ∧ xv ≤ 11
      · have hid : decide (0 ≤ xv ∧ xv ≤ (11 : Int)) = true := by simpa using hin
        cases hok : okW s v k 64 with
        | false =>
          rw [hok, Bool.not_false] at HCALL
          have HF : Hid (sok 64 bs = false) := by rw [Hid, HS.out, HD.out]; simp only [sokFrom, hok, Bool.false_and]
          clear hok hcells hx c0 c1 c2 c3 hsl HJ0 HJ1 HD HX hin
          go_wp2_with fail
          refine wp_region_after wr.heap.size (by kernel_rfl) (by kernel_rfl) ?_
          repeat (go_big_quiet_step ((first | (go_at_call 47; exact Calls.after_same (l6In_is hid)) | (go_at_call 46; exact Calls.after (After.below ‹_›).size (HCALL.out _)))))
          refine wpQuiet_nil ?_
          rintro w3 ⟨⟨_, hu⟩, rfl⟩
          have HL3 := Lib.hid (HLW.out.trans (hu.mono hws))
          clear hu0 hu1 hu2 hu3 hu
          go_wp2_with fail
          go_ret
          exact ⟨by rw [HF.out]; rfl, HL3.out⟩
        | true =>
          rw [hok, Bool.not_true] at HCALL
          by_cases hj0 : j = 0
          · subst hj0
            obtain rfl := HJ0.out rfl
            have k0 : ∀ u : After wr.heap.size wr, u.world.cell? ⟨b, o, none⟩ = some (.int .i64 xv) := fun u => hu0 u
            have k1 : ∀ u : After wr.heap.size wr, u.world.cell? ⟨b, o + 1, none⟩ = some (.int .i64 s) := fun u => hu1 u
            have k2 : ∀ u : After wr.heap.size wr, u.world.cell? ⟨b, o + 2, none⟩ = some (.int .i64 v) := fun u => hu2 u
            have k3 : ∀ u : After wr.heap.size wr, u.world.cell? ⟨b, o + 3, none⟩ = some (.slice a' (flen k) c') := fun u => hu3 u
            have k4 : ∀ u : After wr.heap.size wr, u.world.cell? ⟨b, o + 1 + 1, none⟩ = some (.int .i64 v) := fun u => hu2 u
            have k5 : ∀ u : After wr.heap.size wr, u.world.cell? ⟨b, o + 1 + 2, none⟩ = some (.slice a' (flen k) c') := fun u => hu3 u
            have hl0 : 0 < bs.length := hlt
            have HT : Hid (sok 64 bs = sokFrom 64 xv (bs.drop (0 + 1))) := by
              rw [Hid, HS.out, HD.out]
              simp only [sokFrom, hok]
              rw [decide_eq_true (show (-1 : Int) < xv by omega), decide_eq_true (show xv < 12 by omega)]; simp
            clear hok hcells hx c0 c1 c2 c3 hsl HJ0 HJ1 HD hu0 hu1 hu2 hu3
            go_wp2_with fail
            refine wp_region_after wr.heap.size (by kernel_rfl) (by kernel_rfl) ?_
            repeat (go_big_quiet_step ((first | (go_at_call 47; exact Calls.after_same (l6In_is hid)) | (go_at_call 46; exact Calls.after (After.below ‹_›).size (HCALL.out _)))))
            refine wpQuiet_nil ?_
            rintro w3 ⟨⟨_, hu⟩, rfl⟩
            have HL3 := Lib.hid (HLW.out.trans (hu.mono hws))
            clear k0 k1 k2 k3 k4 k5 hu
            go_wp2_with fail
            go_roundw
            case rel => exact ⟨0 + 1, xv, by go_num, by omega, fun h => by omega, fun n hn => ⟨(xv, s, v, k), (by rw [show n = 0 from by omega]; exact HX.out), rfl, hin.1⟩, HT, HL3⟩
            case measure => simp [intOf]; omega
          · obtain ⟨n, rfl⟩ : ∃ n, j = n + 1 := ⟨j - 1, by omega⟩
            obtain ⟨⟨yv, ys, yt, yk⟩, hy, rfl, hl0⟩ := HJ1.out n rfl
            obtain ⟨_, _, p0, _, _, _, _⟩ := hcells n _ hy
            dsimp only at p0 hl0
            have hu4 : ∀ u : After wr.heap.size wr, u.world.cell? ⟨b, o + n * 4, none⟩ = some (.int .i64 yv) := fun u => u.cell (by simp; omega) p0
            have g3 : (0 : Int) ≤ (n : Int) := by omega
            have g4 : (n : Int) < (bs.length : Int) := by omega
            have gi : ((n + 1 : Nat) : Int) - 1 = (n : Int) := by omega
            by_cases hge : xv ≤ yv
            · have HF : Hid (sok 64 bs = false) := by
                rw [Hid, HS.out, HD.out]; simp only [sokFrom]; rw [decide_eq_false (show ¬ yv < xv by omega)]; simp
              clear hok hcells hx c0 c1 c2 c3 hsl HJ0 HJ1 HD p0 hy
              go_wp2_with fail
              refine wp_region_after wr.heap.size (by kernel_rfl) (by kernel_rfl) ?_
              repeat (go_big_quiet_step ((first | (go_at_call 47; exact Calls.after_same (l6In_is hid)) | (go_at_call 46; exact Calls.after (After.below ‹_›).size (HCALL.out _)))))
              refine wpQuiet_nil ?_
              rintro w3 ⟨⟨_, hu⟩, rfl⟩
              have HL3 := Lib.hid (HLW.out.trans (hu.mono hws))
              clear hu0 hu1 hu2 hu3 hu4 hu
              go_wp2_with fail
              go_ret
              exact ⟨by rw [HF.out]; rfl, HL3.out⟩
            · have HT : Hid (sok 64 bs = sokFrom 64 xv (bs.drop (n + 1 + 1))) := by
                rw [Hid, HS.out, HD.out]
                simp only [sokFrom, hok]
                rw [decide_eq_true (show yv < xv by omega), decide_eq_true (show xv < 12 by omega)]; simp
              clear hok hcells hx c0 c1 c2 c3 hsl HJ0 HJ1 HD p0 hy
              go_wp2_with fail
              refine wp_region_after wr.heap.size (by kernel_rfl) (by kernel_rfl) ?_
              repeat (go_big_quiet_step ((first | (go_at_call 47; exact Calls.after_same (l6In_is hid)) | (go_at_call 46; exact Calls.after (After.below ‹_›).size (HCALL.out _)))))
              refine wpQuiet_nil ?_
              rintro w3 ⟨⟨_, hu⟩, rfl⟩
              have HL3 := Lib.hid (HLW.out.trans (hu.mono hws))
              clear hu0 hu1 hu2 hu3 hu4 hu
              go_wp2_with fail
              go_roundw
              case rel => exact ⟨n + 1 + 1, xv, by go_num, by omega, fun h => by omega, fun m hm => ⟨(xv, s, v, k), (by rw [show m = n + 1 from by omega]; exact HX.out), rfl, hin.1⟩, HT, HL3⟩
              case measure => simp [intOf]; omega
      · have hid : decide (0 ≤ xv ∧ xv ≤ (11 : Int)) = false := by simpa using hin
        have HF : Hid (sok 64 bs = false) := by
          rw [Hid, HS.out, HD.out]
          simp only [sokFrom]
          by_cases hx0 : 0 ≤ xv
          · rw [decide_eq_false (show ¬ xv < 12 by omega)]; simp
          · have : ¬ last < xv := by
              rcases j with _ | n
              · have := HJ0.out rfl; omega
              · obtain ⟨_, _, _, h0⟩ := HJ1.out n rfl; omega
            rw [decide_eq_false this]; simp
        clear hcells hx c0 c1 c2 c3 hsl HJ0 HJ1 HD HX hin
        go_wp2_with fail
        refine wp_region_after wr.heap.size (by kernel_rfl) (by kernel_rfl) ?_
        repeat (go_big_quiet_step ((first | (go_at_call 47; exact Calls.after_same (l6In_is hid)) | (go_at_call 46; exact Calls.after (After.below ‹_›).size (HCALL.out _)))))
        refine wpQuiet_nil ?_
        rintro w3 ⟨⟨_, hu⟩, rfl⟩
        have HL3 := Lib.hid (HLW.out.trans (hu.mono hws))
        clear hu0 hu1 hu2 hu3 hu
        go_wp2_with fail
        go_ret
        exact ⟨by rw [HF.out]; rfl, HL3.out⟩
    · have HE : Hid (sok 64 bs = true) := by rw [Hid, HS.out, List.drop_eq_nil_of_le (by omega)]; rfl
      go_wp2_with fail
      go_ret
      exact ⟨by rw [HE.out]; rfl, HLW.out⟩
end Go.Proofs.Ytdkcbbhkoibplaa
