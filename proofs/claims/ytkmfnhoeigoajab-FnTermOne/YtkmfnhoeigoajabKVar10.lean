/- Several texts in one: WI, WJ0, WK0, B2, V0, V2, IS. -/
import Derived.Test.YtkmfnhoeigoajabKVar4
import Derived.Test.YtkmfnhoeigoajabKVar8
import Derived.Test.YtkmfnhoeigoajabKVar9
import Derived.Lib.SlicesCompact
import Derived.Test.YtkmfnhoeigoajabKVar5

/-! WI: l71Bad. -/
namespace Go.Proofs.Ytkmfnhoeigoajab
open Go.RowKit Go.Deep
attribute [local go_sem ↓] Go.wp_at_zero Go.wp_at_succ

theorem l1Count_n (N : Nat) (s v : Int) (a : Option Addr) (c : Nat) (k : Fo) (most : Int) (w : World) (n : Nat) (hn : flen k = n) (hl : Sl w 0 w.heap.size a k) (h1 : -1000 ≤ most) (h2 : most ≤ 1000) (h3 : most ≤ N) :
    Calls Try.prog 47 #[.agg #[.int .i64 s, .int .i64 v, .slice a n c], .int .i64 most] w fun e w' => e = .returned (.int .i64 (cntT s v k most)) ∧ Below w.heap.size w w' := by
  subst hn
  exact l1Count_any N s v a c k most w hl h1 h2 h3

/-- What holds at the head of the loop that doubles. -/
def BadLoop (w : World) (br p S j : Nat) (wr : World) : Prop :=
  ∃ s v A C k, BadAt w br p s v A (flen k) C wr ∧ Sl wr (w.heap.size + 2) wr.heap.size A k ∧ fsz k + 2 ≤ (S + 1) * 2 ^ j
theorem bad_size {n S j : Nat} (h : n + 2 ≤ (S + 1) * 2 ^ j) (hj : j ≤ 8) (hS : 1 ≤ S) : 1 + n ≤ 1000 * S := by
  have h2 : 2 ^ j ≤ 2 ^ 8 := Nat.pow_le_pow_right (by omega) hj
  have h3 : (S + 1) * 2 ^ j ≤ (S + 1) * 256 := Nat.mul_le_mul (Nat.le_refl _) h2
  omega

set_option maxRecDepth 100000 in
set_option maxHeartbeats 1000000 in
theorem l71Bad_any (s v : Int) (a : Option Addr) (c : Nat) (k : Fo) (br p S : Nat) (w : World) (hl : Sl w 0 w.heap.size a k) (hr : Rd w br p) (hp : p ≤ 100000000) (hS : 1 + fsz k ≤ S) (hS2 : S ≤ 1000) :
    Calls Try.prog 57 #[.pointer (some ⟨br, 0, none⟩), .agg #[.int .i64 s, .int .i64 v, .slice a (flen k) c]] w (DrawnPost br p 2 (1000 * S) w) := by
  have hlt := hr.lt
  have hfl := flen_le_sz k
  have HR := Lib.hid hr
  clear hr
  go_enter Try.func57, Try.ntmps57
  go_wp2_with fail
  with_reducible refine (l1Copy_any (fsz k) s v a c k _ ?_ (Nat.le_refl _) ?_).mono ?_
  · exact (hl.below (((Below.refl _ _).alloc (Nat.le_refl _) _).alloc (by simp) _)).mono (Nat.le_refl _) (by simp; omega)
  · omega
  rintro e w1 ⟨a1, c1, rfl, hb1, hown1⟩
  have hat := (BadAt.start HR.out s v a (flen k) c).more hlt hb1
  have ht0 := hat.t0
  have ht1 := hat.t1
  have ht2 := hat.t2
  have hf0 := hat.f0
  have hf1 := hat.f1
  have hf2 := hat.f2
  have HAT := Lib.hid (((hat.set0 hlt s).set1 hlt v).set2 hlt (A' := a1) (n' := flen k) (C' := c1))
  have HOWN : Hid (Own w1 (w.heap.size + 2) k (flen k) a1 c1) := hown1.low (Below.refl _ _) (by simp)
  clear hb1 hown1 hat
  go_wp2_with fail
  with_reducible refine (pick_any 6 br p _ HAT.out.rd (by omega) (by omega) (by omega)).mono ?_
  rintro e w2 ⟨x, rfl, hx, hb2⟩
  have ha2 : Adv _ br (p + 1) w2 := hb2
  have HAT2 := Lib.hid (HAT.out.call hlt ha2)
  have HOWN2 := Lib.hid ((((HOWN.out.store (by simp) (.int .i64 s) (q := ⟨w.heap.size, 0, none⟩)).store (by simp) (.int .i64 v) (q := ⟨w.heap.size, 1, none⟩)).store (by simp) (.slice a1 (flen k) c1) (q := ⟨w.heap.size, 2, none⟩)).adv ha2 (by omega))
  clear ht0 ht1 ht2 hf0 hf1 hf2 hb2 ha2 HAT HOWN
  by_cases hx0 : x = 0
  · subst hx0
    go_wp2_with fail
    with_reducible refine (pick_any 8 br (p + 1) _ HAT2.out.rd (by omega) (by omega) (by omega)).mono ?_
    rintro e w3 ⟨y, rfl, hy, hb3⟩
    have ha3 : Adv w2 br (p + 1 + 1) w3 := hb3
    have HAT3 := Lib.hid (HAT2.out.call hlt ha3)
    have HOWN3 := Lib.hid (HOWN2.out.adv ha3 (by omega))
    clear hb3 ha3
    have ht0 := HAT3.out.t0
    have ht1 := HAT3.out.t1
    have ht2 := HAT3.out.t2
    have hf0 := HAT3.out.f0
    have hf1 := HAT3.out.f1
    have hf2 := HAT3.out.f2
    have hr0 := HAT3.out.r0
    have hr1 := HAT3.out.r1
    have hr2 := HAT3.out.r2
    have hg0 := HAT3.out.g0
    have hg1 := HAT3.out.g1
    have hg2 := HAT3.out.g2
    have hy8 : (y : Int) < 8 := by omega
    go_wp2_with fail
    refine bodyPost_ret (v := .agg #[.int .i64 ((y : Int) - 1), .int .i64 v, .slice a1 (flen k) c1]) ?_ rfl ((HAT3.out.set0 hlt _).done (by omega) (by omega) (by omega) (HOWN3.out.store (by simp) _).sl)
    simp [results, Try.results57, go_sem, hr0, hr1, hr2]
  have x0 : ((x : Int) == 0) = false := by simpa using hx0
  by_cases hx1 : x = 1
  · subst hx1
    go_wp2_with fail
    with_reducible refine (pick_any 3 br (p + 1) _ (HAT2.out.rd.alloc _) (by omega) (by omega) (by omega)).mono ?_
    rintro e w3 ⟨y, rfl, hy, hb3⟩
    have ha3 : Adv (w2.alloc (.cells #[.int .i64 (-1), .int .i64 12, .int .i64 1] 3)) br (p + 1 + 1) w3 := hb3
    have hsz2 := HAT2.out.size
    have HAT3 := Lib.hid ((HAT2.out.more hlt ((Below.refl _ _).alloc (Nat.le_refl _) _)).call hlt ha3)
    have HOWN3 := Lib.hid ((HOWN2.out.low ((Below.refl _ _).alloc (Nat.le_refl _) _) (Nat.le_refl _)).adv ha3 (by omega))
    have hc0 := ha3.cell (q := ⟨w2.heap.size, 0, none⟩) (v := .int .i64 (-1)) (by simp) (by simp; omega)
    have hc1 := ha3.cell (q := ⟨w2.heap.size, 1, none⟩) (v := .int .i64 12) (by simp) (by simp; omega)
    have hc2 := ha3.cell (q := ⟨w2.heap.size, 2, none⟩) (v := .int .i64 1) (by simp) (by simp; omega)
    clear hb3 ha3
    have ht0 := HAT3.out.t0
    have ht1 := HAT3.out.t1
    have ht2 := HAT3.out.t2
    have hf0 := HAT3.out.f0
    have hf1 := HAT3.out.f1
    have hf2 := HAT3.out.f2
    have hr0 := HAT3.out.r0
    have hr1 := HAT3.out.r1
    have hr2 := HAT3.out.r2
    have hg0 := HAT3.out.g0
    have hg1 := HAT3.out.g1
    have hg2 := HAT3.out.g2
    have hy3 : y = 0 ∨ y = 1 ∨ y = 2 := by omega
    rcases hy3 with rfl | rfl | rfl
    · go_wp2_with fail
      refine bodyPost_ret (v := .agg #[.int .i64 s, .int .i64 (-1), .slice a1 (flen k) c1]) ?_ rfl ((HAT3.out.set1 hlt _).done (by omega) (by omega) (by omega) (HOWN3.out.store (by simp) _).sl)
      simp [results, Try.results57, go_sem, hr0, hr1, hr2]
    · go_wp2_with fail
      refine bodyPost_ret (v := .agg #[.int .i64 s, .int .i64 12, .slice a1 (flen k) c1]) ?_ rfl ((HAT3.out.set1 hlt _).done (by omega) (by omega) (by omega) (HOWN3.out.store (by simp) _).sl)
      simp [results, Try.results57, go_sem, hr0, hr1, hr2]
    · go_wp2_with fail
      refine bodyPost_ret (v := .agg #[.int .i64 s, .int .i64 1, .slice a1 (flen k) c1]) ?_ rfl ((HAT3.out.set1 hlt _).done (by omega) (by omega) (by omega) (HOWN3.out.store (by simp) _).sl)
      simp [results, Try.results57, go_sem, hr0, hr1, hr2]
  have x1 : ((x : Int) == 1) = false := by simp; omega
  by_cases hx2 : x = 2
  · subst hx2
    have ht2 := HAT2.out.t2
    have hf2 := HAT2.out.f2
    have hsz2 := HAT2.out.size
    have hu0 : ∀ u : After (w.heap.size + 2) w2, u.world.cell? ⟨w.heap.size, 2, none⟩ = some (.slice a1 (flen k) c1) := fun u => u.cell (by simp) ht2
    obtain ⟨ti, hti, htz, hts, htb⟩ := Try.infoTerm
    obtain ⟨xs, hown, hall⟩ := HOWN2.out
    have HTI := Lib.hid hti
    have HTZ := Lib.hid htz
    have HTS := Lib.hid hts
    have HTB := Lib.hid htb
    have HOWN := Lib.hid hown
    have HALL := Lib.hid hall
    have HLT : Hid (∀ g, (Value.slice a1 (flen k) c1).ownBlock = some g → w.heap.size + 2 ≤ g) := fun g hg => (hown.lt g hg).1
    clear hti htz hts htb hown hall
    go_wp2_with fail
    refine wp_region_mix (fun w' => ∃ u : After (w.heap.size + 2) w2, w' = u.world) [5, 6] [(0, 0), (1, 0), (2, 1), (3, 1), (4, 1), (5, 2), (6, 2)] (by kernel_rfl) (by kernel_rfl) ⟨⟨_, (Below.refl _ _).drew⟩, rfl⟩ ?_
    iterate 2
      refine mix_see rfl (fun K hK => ?_)
      go_simp
      refine hK _ ?_
      clear hK K
    clear hu0
    refine mix_hold rfl (fun K hK => ?_)
    go_simp
    with_reducible refine (l71Of_any 1 none 0 0 _).mono ?_
    rintro e w3 ⟨rfl, hb3'⟩
    have hb3 : Below w2.heap.size w2 w3 := bl_undrew hb3'
    have hs3 := hb3.size
    refine hK _ _ ⟨⟨_, hb3.mono (by omega)⟩, rfl⟩ ?_
    clear hK K hb3'
    refine mix_hold rfl (fun K hK => ?_)
    go_simp
    refine hK _ _ ⟨⟨_, (hb3.mono (by omega)).alloc (by omega) _⟩, rfl⟩ ?_
    clear hK K
    refine mix_hold rfl (fun K hK => ?_)
    refine step_append_lies _ (by rfl) _ _ _ (by rfl) (w.heap.size + 2) 25 ti _ 3 40 Try.underlying23 HTI.out HTZ.out HTS.out HTB.out rfl (by omega) (.slice a1 (flen k) c1) (flen k) xs (by rfl) (own_low ((Below.refl _ _).alloc (Nat.le_refl _) _) (own_low hb3 HOWN.out)) ⟨w3.heap.size, 0, none⟩ 1 1 [.int .i64 1, .int .i64 0, .slice none (flen .nil) 0] (by rfl) (by rfl) (World.news_of_block (heap_alloc_new _ _)) (by simp [Value.oneCell']) (by omega) (by unfold maxLen; omega) (by omega) (by simp; omega) (w3.heap.size + 1) (by simp) ?_
    intro g cap w4 hown4 hgrow hatg hg4
    have hlow : Below (w.heap.size + 2) w2 w4 := ((hb3.mono (by omega)).alloc (by omega) _).grown hgrow (by simp; omega) HLT.out
    have hz2 : w4.cell? ⟨w.heap.size, 2, none⟩ = some (.slice a1 (flen k) c1) := by rw [hlow.cell (by simp)]; exact ht2
    have hz3 : w4.frozen? ⟨w.heap.size, 2, none⟩ = false := by rw [hlow.frozen (by simp)]; exact hf2
    have hown5 : Own w4 (w.heap.size + 2) (fsnoc k (1, 0)) (flen k + 1) (some ⟨g, 0, none⟩) cap := by
      refine Own.append (k := fsnoc k (1, 0)) (kk := .nil) ⟨xs, HOWN.out, hown4, fun i hi => ?_⟩ hb3 (.inl rfl) (by omega) (fdrop_snoc_end (1, 0) k) hgrow hatg
      obtain ⟨x, y, s', v', kk, a', c', L, H, e, h0, h1, h2, hs, hL, hH, hg⟩ := HALL.out i hi
      exact ⟨x, y, s', v', kk, a', c', L, H, fdrop_snoc _ i k e, h0, h1, h2, hs, hL, hH, hg⟩
    have hat4 : BadAt w br (p + 1) s v a1 (flen k) c1 w4 := HAT2.out.keep hlt hlow (by have := hgrow.size; simp at this; omega)
    have HOWN5 := Lib.hid hown5
    have HAT4 := Lib.hid (hat4.set2 hlt (A' := some ⟨g, 0, none⟩) (n' := flen k + 1) (C' := cap))
    refine hK _ _ ⟨⟨_, hlow⟩, rfl⟩ ?_
    clear hK K hown4 hgrow hatg hown5
    refine mix_late rfl (fun K hK => ?_)
    go_simp
    refine hK _ _ ?_
    clear hK K
    refine mix_late rfl (fun K hK => ?_)
    go_simp
    refine hK _ _ ?_
    clear hK K
    refine mix_end ?_
    clear hz2 hz3 ht2 hf2
    have ht0 := HAT4.out.t0
    have ht1 := HAT4.out.t1
    have ht2 := HAT4.out.t2
    have hf0 := HAT4.out.f0
    have hf1 := HAT4.out.f1
    have hf2 := HAT4.out.f2
    have hr0 := HAT4.out.r0
    have hr1 := HAT4.out.r1
    have hr2 := HAT4.out.r2
    have hg0 := HAT4.out.g0
    have hg1 := HAT4.out.g1
    have hg2 := HAT4.out.g2
    have hkl := flen_snoc (1, 0) k
    have HKL := Lib.hid hkl
    have hks := fsz_snoc (1, 0) k
    have HKS := Lib.hid hks
    clear hkl hks
    go_wp2_with fail
    refine bodyPost_ret (v := .agg #[.int .i64 s, .int .i64 v, .slice (some ⟨g, 0, none⟩) (flen (fsnoc k (1, 0))) cap]) ?_ rfl (BadAt.done (k := fsnoc k (1, 0)) (by rw [HKL.out]; exact HAT4.out) (by omega) (by omega) (by rw [HKS.out]; omega) (Own.sl (by rw [HKL.out]; exact HOWN5.out.store (by simp) _)))
    rw [HKL.out]
    simp [results, Try.results57, go_sem, hr0, hr1, hr2]
  have x2 : ((x : Int) == 2) = false := by simp; omega
  by_cases hx3 : x = 3
  · subst hx3
    have HST : Hid (BadLoop w br (p + 1) S 0 w2) := ⟨s, v, a1, c1, k, HAT2.out, HOWN2.out.sl, by omega⟩
    clear HAT2 HOWN2
    go_wp2_with fail
    go_loopw [5] (fun i wr => ∃ j : Nat, j ≤ 8 ∧ i = .int .i64 j ∧ BadLoop w br (p + 1) S j wr) (fun i _ => 8 - (intOf i).toNat)
    case atStart => exact ⟨0, by omega, rfl, HST.out⟩
    case round =>
      clear HST
      obtain ⟨j, hj, rfl, s1, v1, A1, C1, k1, hat, hsl, hbd⟩ := hrel
      have ht0 := hat.t0
      have ht1 := hat.t1
      have ht2 := hat.t2
      have hf0 := hat.f0
      have hf1 := hat.f1
      have hf2 := hat.f2
      have hr0 := hat.r0
      have hr1 := hat.r1
      have hr2 := hat.r2
      have hg0 := hat.g0
      have hg1 := hat.g1
      have hg2 := hat.g2
      have hsz1 := hat.size
      by_cases hlt8 : j < 8
      · have HAT1 := Lib.hid hat
        have HL1 := Lib.hid (kid2 (T := 25) (s := s1) (v := v1) (c := C1) (s' := s1) (v' := v1) (c' := C1) hsl hsl hsz1)
        have HBD := Lib.hid hbd
        clear hat hsl hbd
        go_wp2_with fail
        with_reducible refine (l71Of_any 4 _ 2 2 _).mono ?_
        rintro e w3 ⟨rfl, hb3⟩
        have hat3 := (HAT1.out.more hlt ((Below.refl _ _).alloc (Nat.le_refl _) _)).more hlt hb3
        have hl3 := HL1.out.low hb3
        have hs3 := hat3.size
        have hat4 := ((hat3.set0 hlt 4).set1 hlt 0).set2 hlt (A' := some ⟨wr.heap.size, 0, none⟩) (n' := flen (.node 0 0 (s1, v1) k1 (.node 0 0 (s1, v1) k1 .nil))) (C' := 2)
        have hl4 := ((hl3.store (q := ⟨w.heap.size, 0, none⟩) (by simp) (.int .i64 4)).store (q := ⟨w.heap.size, 1, none⟩) (by simp) (.int .i64 0)).store (q := ⟨w.heap.size, 2, none⟩) (by simp) (.slice (some ⟨wr.heap.size, 0, none⟩) 2 2)
        have hbd4 : fsz (.node 0 0 (s1, v1) k1 (.node 0 0 (s1, v1) k1 .nil)) + 2 ≤ (S + 1) * 2 ^ (j + 1) := by
          have := HBD.out
          rw [Nat.pow_succ, ← Nat.mul_assoc]
          simp only [fsz]
          omega
        clear ht0 ht1 ht2 hf0 hf1 hf2 hr0 hr1 hr2 hg0 hg1 hg2
        have ht0 := hat3.t0
        have ht1 := hat3.t1
        have ht2 := hat3.t2
        have hf0 := hat3.f0
        have hf1 := hat3.f1
        have hf2 := hat3.f2
        have HAT4 := Lib.hid hat4
        have HL4 := Lib.hid hl4
        have HBD4 := Lib.hid hbd4
        clear hat3 hl3 hat4 hl4 hbd4 hb3
        go_wp2_with fail
        with_reducible refine (l1Count_n 60 4 0 (some ⟨wr.heap.size, 0, none⟩) 2 (.node 0 0 (s1, v1) k1 (.node 0 0 (s1, v1) k1 .nil)) 60 _ 2 rfl ?_ ?_ ?_ ?_).mono ?_
        · exact HL4.out.mono (Nat.zero_le _) (by simp)
        · omega
        · omega
        · omega
        rintro e w4 ⟨rfl, hb4⟩
        have hat5 := HAT4.out.more hlt hb4
        have hl5 := (HL4.out.mono (Nat.le_refl _) (show _ ≤ _ by simp)).low hb4
        clear ht0 ht1 ht2 hf0 hf1 hf2
        by_cases hcnt : 60 < cntT 4 0 (.node 0 0 (s1, v1) k1 (.node 0 0 (s1, v1) k1 .nil)) 60
        · have ht0 := hat5.t0
          have ht1 := hat5.t1
          have ht2 := hat5.t2
          have hf0 := hat5.f0
          have hf1 := hat5.f1
          have hf2 := hat5.f2
          have hr0 := hat5.r0
          have hr1 := hat5.r1
          have hr2 := hat5.r2
          have hg0 := hat5.g0
          have hg1 := hat5.g1
          have hg2 := hat5.g2
          have HAT5 := Lib.hid hat5
          have HL5 := Lib.hid hl5
          clear hat5 hl5 hb4
          go_wp2_with fail
          refine bodyPost_ret (v := .agg #[.int .i64 4, .int .i64 0, .slice (some ⟨wr.heap.size, 0, none⟩) 2 2]) ?_ rfl (HAT5.out.done (by omega) (by omega) (bad_size HBD4.out (by omega) (by omega)) HL5.out)
          simp [results, Try.results57, go_sem, hr0, hr1, hr2, flen]
        · have HREL : Hid (BadLoop w br (p + 1) S (j + 1) w4) := ⟨4, 0, _, 2, _, hat5, hl5, HBD4.out⟩
          clear hat5 hl5 hb4
          go_wp2_with fail
          go_roundw
          case rel => exact ⟨j + 1, by omega, by go_num, HREL.out⟩
          case measure => simp [intOf]; omega
      · have HAT1 := Lib.hid hat
        have HL1 := Lib.hid hsl
        have HBD := Lib.hid hbd
        clear hat hsl hbd
        go_wp2_with fail
        refine bodyPost_ret (v := .agg #[.int .i64 s1, .int .i64 v1, .slice A1 (flen k1) C1]) ?_ rfl (HAT1.out.done (by omega) (by omega) (bad_size HBD.out (by omega) (by omega)) HL1.out)
        simp [results, Try.results57, go_sem, hr0, hr1, hr2]
  have x3 : ((x : Int) == 3) = false := by simp; omega
  have ht0 := HAT2.out.t0
  have ht1 := HAT2.out.t1
  have ht2 := HAT2.out.t2
  have hf0 := HAT2.out.f0
  have hf1 := HAT2.out.f1
  have hf2 := HAT2.out.f2
  have hr0 := HAT2.out.r0
  have hr1 := HAT2.out.r1
  have hr2 := HAT2.out.r2
  have hg0 := HAT2.out.g0
  have hg1 := HAT2.out.g1
  have hg2 := HAT2.out.g2
  cases hk : k with
  | nil =>
    subst hk
    go_wp2_with fail
    refine bodyPost_ret (v := .agg #[.int .i64 s, .int .i64 v, .slice a1 (flen .nil) c1]) ?_ rfl (HAT2.out.done (by omega) (by omega) (by omega) HOWN2.out.sl)
    simp [results, Try.results57, go_sem, hr0, hr1, hr2]
  | node x' y' pk kk r =>
    subst hk
    have hpos : 0 < flen (.node x' y' pk kk r) := by simp [flen]
    obtain ⟨g, rfl, hgb, hgl, ⟨u0, hu0⟩, ⟨u1, hu1⟩, ⟨u2, hu2⟩, hz0, hz1, hz2⟩ := own_first HOWN2.out hpos
    have hne : g ≠ w.heap.size := by omega
    have hne1 : g ≠ w.heap.size + 1 := by omega
    have HSL := Lib.hid (own_put0 HOWN2.out 3 0)
    have HATF := Lib.hid (((HAT2.out.far hlt (q := ⟨g, 0, none⟩) hgb (.int .i64 3)).far hlt (q := ⟨g, 1, none⟩) hgb (.int .i64 0)).far hlt (q := ⟨g, 2, none⟩) hgb (.slice none 0 0))
    have hn : flen (.node x' y' pk kk r) = flen r + 1 := rfl
    have HN := Lib.hid hn
    clear hn
    have hS1 : 1 + fsz (BT.node 0 0 ((3 : Int), (0 : Int)) BT.nil r) ≤ 1000 * S := by
      have h3 : fsz (BT.node 0 0 ((3 : Int), (0 : Int)) BT.nil r) = fsz r + 1 := by simp [fsz]
      have h4 : fsz r + 1 ≤ fsz (.node x' y' pk kk r) := by simp only [fsz]; omega
      omega
    have hq0 := HATF.out.r0
    have hq1 := HATF.out.r1
    have hq2 := HATF.out.r2
    go_wp2_with fail
    refine bodyPost_ret (v := .agg #[.int .i64 s, .int .i64 v, .slice (some ⟨g, 0, none⟩) (flen (.node 0 0 (3, 0) .nil r)) c1]) ?_ rfl (BadAt.done (k := .node 0 0 (3, 0) .nil r) HATF.out (by omega) (by omega) hS1 (by simpa using HSL.out))
    simp [results, Try.results57, go_sem, hq0, hq1, hq2, flen]
end Go.Proofs.Ytkmfnhoeigoajab

/-! WJ0: What the drawn functions of one term end with. -/
namespace Go.Proofs.Ytkmfnhoeigoajab
open Go.RowKit Go.Deep

/-- A term of at most that size is handed back, in new memory. -/
def TermPost (S : Nat) (w : World) (e : Ending) (w' : World) : Prop :=
  ∃ s v a c k, e = .returned (.agg #[.int .i64 s, .int .i64 v, .slice a (flen k) c]) ∧ 1 + fsz k ≤ S ∧ Below w.heap.size w w' ∧ Sl w' w.heap.size w'.heap.size a k

theorem adv_low {w w1 w2 : World} {n br p : Nat} (hb : Below n w w1) (h1 : n ≤ br) (h2 : n ≤ w1.heap.size) (ha : Adv w1 br p w2) : Below n w w2 :=
  (hb.setCell (p := ⟨br, 1, none⟩) (by simpa using h1) (.int .i64 p)).trans (Below.mono ha h2)

/-- The result's cells, laid at the call's head, in a later world. -/
theorem res_low {w w2 : World} {x y z : Value} {T : TypeId} (hb : Below (w.heap.size + 1) (w.alloc (.cells #[x, y, z] T)) w2) :
    w2.cell? ⟨w.heap.size, 0, none⟩ = some x ∧ w2.cell? ⟨w.heap.size, 1, none⟩ = some y ∧ w2.cell? ⟨w.heap.size, 2, none⟩ = some z ∧
      w2.frozen? ⟨w.heap.size, 0, none⟩ = false ∧ w2.frozen? ⟨w.heap.size, 1, none⟩ = false ∧ w2.frozen? ⟨w.heap.size, 2, none⟩ = false := by
  refine ⟨?_, ?_, ?_, ?_, ?_, ?_⟩
  iterate 3
    · rw [hb.cell (by simp)]; simp
  iterate 3
    · rw [hb.frozen (by simp)]; simp
theorem term_end {w w2 : World} {S : Nat} {s v : Int} {a : Option Addr} {c : Nat} {k : Fo} {o : Obj} {x y z : Value} (hb : Below (w.heap.size + 1) (w.alloc o) w2) (hS : 1 + fsz k ≤ S) (hl : Sl w2 (w.heap.size + 1) w2.heap.size a k) :
    TermPost S w (.returned (.agg #[.int .i64 s, .int .i64 v, .slice a (flen k) c])) (((w2.setCell ⟨w.heap.size, 0, none⟩ x).setCell ⟨w.heap.size, 1, none⟩ y).setCell ⟨w.heap.size, 2, none⟩ z) := by
  refine ⟨s, v, a, c, k, rfl, hS, (((after_top hb).setCell (by simp) _).setCell (by simp) _).setCell (by simp) _, ?_⟩
  exact (((hl.store (q := ⟨w.heap.size, 0, none⟩) (by simp) x).store (q := ⟨w.heap.size, 1, none⟩) (by simp) y).store (q := ⟨w.heap.size, 2, none⟩) (by simp) z).mono (by omega) (by simp)

theorem Bytes.alloc {w : World} {a : Option Addr} {len : Nat} (h : Bytes w a len) (o : Obj) : Bytes (w.alloc o) a len := by
  rcases h with h | ⟨b, o', e, hb, h⟩
  · exact .inl h
  · refine .inr ⟨b, o', e, by simp; omega, fun i hi => ?_⟩
    obtain ⟨x, hx, hc⟩ := h i hi
    exact ⟨x, hx, by rw [World.cell?_alloc_lt _ _ _ hb]; exact hc⟩
end Go.Proofs.Ytkmfnhoeigoajab

/-! WK0: l71Some. -/
namespace Go.Proofs.Ytkmfnhoeigoajab
open Go.RowKit Go.Deep

set_option maxRecDepth 100000 in
set_option maxHeartbeats 1000000 in
theorem l71Some_any (br p : Nat) (w : World) (hr : Rd w br p) (hp : p ≤ 10000000) :
    Calls Try.prog 35 #[.pointer (some ⟨br, 0, none⟩)] w (DrawnPost br p 100 31000 w) := by
  have hlt := hr.lt
  have hr' := hr.alloc (.cells #[.int .i64 0, .int .i64 0, .slice none 0 0] 25)
  have HA0 := Lib.hid (Adv.start hr' (Below.refl _ _))
  have HR0 := Lib.hid hr'
  clear hr hr'
  go_enter Try.func35, Try.ntmps35
  go_wp2_with fail
  with_reducible refine (pick_any 2 br p _ HR0.out (by omega) (by omega) (by omega)).mono ?_
  rintro e w1 ⟨x, rfl, hx, hb1⟩
  have ha1 := HA0.out.trans hb1
  have hx2 : x < 2 := by omega
  have HR1 := Lib.hid (Adv.rd hb1 HR0.out)
  have HA1 := Lib.hid ha1
  clear hb1 ha1 hx
  have hs1 := HA1.out.size
  simp at hs1
  have hpb : Hid (p + 1 + pkN 4 ≤ 100000000) := by
    have h93 : pkN 4 = 93 := by decide
    unfold Hid
    omega
  go_wp2_with fail
  with_reducible refine (l71Term_any 4 (3 + x) 3 br (p + 1) _ (by omega) (by omega) (by omega) (by omega) (by omega) HR1.out hpb.out).mono ?_
  rintro e w2 ⟨s, v, a2, c2, k, p2, rfl, hp1, hp2, hS2, ha2, hl2⟩
  have hp2' : p2 ≤ p + 1 + 93 := by simpa [pkN] using hp2
  have hS2' : 1 + fsz k ≤ 31 := by simpa [szN] using hS2
  have HR2 := Lib.hid (ha2.rd HR1.out)
  have HA2 := Lib.hid (HA1.out.trans ha2)
  have hs2 := ha2.size
  have HL2 := Lib.hid (hl2.mono (lo' := w.heap.size + 1) (by omega) (Nat.le_refl _))
  clear ha2 hl2 hp2 hS2
  go_wp2_with fail
  with_reducible refine (pick_any 14 br p2 _ (HR2.out.alloc _) (by omega) (by omega) (by omega)).mono ?_
  rintro e w3 ⟨y, rfl, hy, hb3⟩
  have ha3 : Adv (w2.alloc (.cells #[.int .i64 s, .int .i64 v, .slice a2 (flen k) c2] 25)) br (p2 + 1) w3 := hb3
  have hs3 := ha3.size
  simp at hs3
  have hlt2 : br < w2.heap.size := HR2.out.lt
  have HA3 := Lib.hid ((HA2.out.alloc (.cells #[.int .i64 s, .int .i64 v, .slice a2 (flen k) c2] 25)).trans ha3)
  have HR3 := Lib.hid (ha3.rd (HR2.out.alloc _))
  have HL3 := Lib.hid ((HL2.out.low ((Below.refl _ _).alloc (Nat.le_refl _) _)).adv ha3 (by omega))
  have hc0 := ha3.cell (q := ⟨w2.heap.size, 0, none⟩) (v := .int .i64 s) (by simp) (by simp; omega)
  have hc1 := ha3.cell (q := ⟨w2.heap.size, 1, none⟩) (v := .int .i64 v) (by simp) (by simp; omega)
  have hc2 := ha3.cell (q := ⟨w2.heap.size, 2, none⟩) (v := .slice a2 (flen k) c2) (by simp) (by simp; omega)
  clear ha3 hb3 hy
  by_cases hy0 : y = 0
  · subst hy0
    go_wp2_with fail
    with_reducible refine (l71Bad_any s v a2 c2 k br (p2 + 1) 31 _ (HL3.out.mono (Nat.zero_le _) (Nat.le_refl _)) HR3.out (by omega) (by omega) (by omega)).mono ?_
    rintro e w4 ⟨s4, v4, a4, c4, k4, p4, rfl, hp3, hp4, hS4, ha4, hl4⟩
    have ha5 := HA3.out.trans ha4
    obtain ⟨hr0, hr1, hr2, hf0, hf1, hf2⟩ := res_cells ha5 hlt
    have HA5 := Lib.hid ha5
    have HL4 := Lib.hid (hl4.mono (lo' := w.heap.size + 1) (by omega) (Nat.le_refl _))
    clear ha4 hl4 ha5 hc0 hc1 hc2
    go_wp2_with fail
    refine bodyPost_ret (v := .agg #[.int .i64 s4, .int .i64 v4, .slice a4 (flen k4) c4]) ?_ rfl (drawn_end HA5.out hlt (by omega) (by omega) (by omega) HL4.out)
    simp [results, Try.results35, go_sem, hr0, hr1, hr2]
  · have y0 : ((y : Int) == 0) = false := by simpa using hy0
    obtain ⟨hr0, hr1, hr2, hf0, hf1, hf2⟩ := res_cells HA3.out hlt
    go_wp2_with fail
    refine bodyPost_ret (v := .agg #[.int .i64 s, .int .i64 v, .slice a2 (flen k) c2]) ?_ rfl (drawn_end HA3.out hlt (by omega) (by omega) (by omega) HL3.out)
    simp [results, Try.results35, go_sem, hr0, hr1, hr2]
end Go.Proofs.Ytkmfnhoeigoajab

/-! B2: spec.TermAt. -/
namespace Go.Proofs.Ytkmfnhoeigoajab
open Go.RowKit Go.Deep

set_option maxRecDepth 100000 in
set_option maxHeartbeats 1000000 in
theorem sTermAt_any (s v : Int) (a : Option Addr) (c : Nat) (k : Fo) (pA : Option Addr) (pC : Nat) (place : List Int) (w : World) (hl : Sl w 0 w.heap.size a k) (hp : ISl w 0 w.heap.size pA place) (hpl : place.length ≤ 1048576) :
    Calls Try.prog 25 #[.agg #[.int .i64 s, .int .i64 v, .slice a (flen k) c], .slice pA place.length pC] w (AtPost s v k place w) := by
  have HL := Lib.hid hl
  have HP := Lib.hid hp
  clear hl hp
  have hb0 : Below w.heap.size w ((w.alloc (.cells #[.int .i64 s, .int .i64 v, .slice a (flen k) c] 25)).alloc (.cells #[.int .i64 0, .int .i64 0, .slice none 0 0] 25)) := ((Below.refl _ _).alloc (Nat.le_refl _) _).alloc (by simp) _
  have HB0 := Lib.hid hb0
  clear hb0
  go_enter Try.func25, Try.ntmps25
  go_wp2_with fail
  with_reducible refine (sTermOk_any s v a c k _ ?_).mono ?_
  · exact (HL.out.below HB0.out).mono (Nat.le_refl _) HB0.out.size
  rintro e w2 ⟨rfl, hb⟩
  have hb' := hb.mono (show w.heap.size + 2 ≤ _ by simp)
  have hs2 := hb.size
  simp at hs2
  obtain ⟨hc0, hc1, hc2⟩ := box_cells (w := w) ⟨w2, ((Below.refl _ _).alloc (by simp) _).trans (hb.mono (by simp))⟩
  dsimp only at hc0 hc1 hc2
  obtain ⟨hr0, hr1, hr2, hq0, hq1, hq2⟩ := at_cells hb'
  have HB2' := Lib.hid hb'
  have HB2 := Lib.hid (HB0.out.trans (hb.mono HB0.out.size))
  clear hb hb'
  cases hok : okW s v k 16 with
  | false =>
    have HR : Hid (atR s v k place = (0, 0, .nil, false)) := by unfold Hid atR; rw [hok]; rfl
    clear hok
    go_wp2_with fail
    refine bodyPost_ret (v := .tuple #[.agg #[.int .i64 0, .int .i64 0, .slice none 0 0], .bool false]) ?_ rfl (at_end (k' := .nil) HR.out HB2.out (.inl rfl) _ _ _)
    simp [results, Try.results25, go_sem, hr0, hr1, hr2]
  | true =>
    have HOK := Lib.hid hok
    have hsz := ((okW_iff _ _ _ _).1 hok).2.2
    clear hok
    have HL2 := Lib.hid ((HL.out.below HB2.out).mono (lo' := 0) (Nat.le_refl _) HB2.out.size)
    clear hr0 hr1 hr2 hq0 hq1 hq2
    go_wp2_with fail
    with_reducible refine (l1At_any s v a c k pA pC place _ HL2.out ?_ hpl (by omega)).mono ?_
    · exact (HP.out.below HB2.out).mono (Nat.le_refl _) HB2.out.size
    rintro e w3 ⟨hb3, hcase⟩
    have hs3 := hb3.size
    have HB3' := Lib.hid (HB2'.out.trans (hb3.mono (by omega)))
    have HB3 := Lib.hid (HB2.out.trans (hb3.mono (by omega)))
    clear hc0 hc1 hc2
    rcases hcase with ⟨s', v', k', a3, c3, hf, rfl, hl3⟩ | ⟨hf, rfl⟩
    · have HR : Hid (atR s v k place = (s', v', k', true)) := by unfold Hid atR; rw [HOK.out, hf]; rfl
      have hfo := fat_ok place s v k ((okW_iff _ _ _ _).1 HOK.out).1 ((okW_iff _ _ _ _).1 HOK.out).2.1 hf
      have hk' := hfo.2.2
      have HL3 := Lib.hid (hl3.below hb3)
      clear hl3 hb3 hf hfo
      go_wp2_with fail
      with_reducible refine (l1Copy_any (fsz k') s' v' a3 c3 k' _ ?_ (Nat.le_refl _) (by omega)).mono ?_
      · exact (HL3.out.below ((Below.refl _ _).alloc (by omega) _)).mono (Nat.le_refl _) (by simp; omega)
      rintro e w4 ⟨a4, c4, rfl, hb4, hown4⟩
      have hb4' : Below w3.heap.size w3 w4 := ((Below.refl _ _).alloc (Nat.le_refl _) _).trans (hb4.mono (by simp))
      have hs4 := hb4.size
      simp at hs4
      obtain ⟨hr0, hr1, hr2, hq0, hq1, hq2⟩ := at_cells (HB3'.out.trans (hb4'.mono (by omega)))
      have HB4 := Lib.hid (HB3.out.trans (hb4'.mono (by omega)))
      have HL4 := Lib.hid (hown4.sl.mono (lo' := w.heap.size + 2) (by simp; omega) (Nat.le_refl _))
      clear hb4 hb4' hown4
      go_wp2_with fail
      refine bodyPost_ret (v := .tuple #[.agg #[.int .i64 s', .int .i64 v', .slice a4 (flen k') c4], .bool true]) ?_ rfl (at_end HR.out HB4.out HL4.out _ _ _)
      simp [results, Try.results25, go_sem, hr0, hr1, hr2]
    · have HR : Hid (atR s v k place = (0, 0, .nil, false)) := by unfold Hid atR; rw [HOK.out, hf]; rfl
      have hb4 := HB3.out.alloc HB3.out.size (.cells #[.int .i64 0, .int .i64 0, .slice none 0 0] 25)
      obtain ⟨hr0, hr1, hr2, hq0, hq1, hq2⟩ := at_cells (HB3'.out.alloc (by omega) (.cells #[.int .i64 0, .int .i64 0, .slice none 0 0] 25))
      have HB4 := Lib.hid hb4
      clear hb3 hf hb4
      go_wp2_with fail
      refine bodyPost_ret (v := .tuple #[.agg #[.int .i64 0, .int .i64 0, .slice none 0 0], .bool false]) ?_ rfl (at_end (k' := .nil) HR.out HB4.out (.inl rfl) _ _ _)
      simp [results, Try.results25, go_sem, hr0, hr1, hr2]
end Go.Proofs.Ytkmfnhoeigoajab

/-! V0: The variables of a term: as they come; sorted, each once. Plain lemmas. -/
namespace Go.Proofs.Ytkmfnhoeigoajab
open Go.RowKit Go.Deep

/-- The variables of terms, as they come. -/
def fvl : Fo → List Int
  | .nil => []
  | .node _ _ p k r => (if p.1 = 0 then [p.2] else fvl k) ++ fvl r
/-- The variables of a term, as they come. -/
def fvs (s v : Int) (k : Fo) : List Int := if s = 0 then [v] else fvl k

theorem fvl_sz : ∀ k : Fo, (fvl k).length ≤ fsz k
  | .nil => Nat.le_refl _
  | .node _ _ p k r => by
    have h1 := fvl_sz k
    have h2 := fvl_sz r
    simp only [fvl, fsz, List.length_append]
    split
    · simp; omega
    · omega
/-- What stands ahead of the j-th has no more variables than room. -/
theorem fvl_ge : ∀ (j : Nat) (k : Fo), (fvl k).length + fsz (fdrop j k) ≤ fsz k + (fvl (fdrop j k)).length
  | 0, k => by simp [fdrop]; omega
  | _ + 1, .nil => by simp only [fdrop]; omega
  | n + 1, .node _ _ p kk r => by
    have h := fvl_ge n r
    have h1 := fvl_sz kk
    simp only [fdrop, fvl, fsz, List.length_append]
    split
    · simp; omega
    · omega
theorem fvs_sz (s v : Int) (k : Fo) : (fvs s v k).length ≤ 1 + fsz k := by
  have := fvl_sz k
  unfold fvs
  split
  · simp
  · omega
theorem fvl_in : ∀ (k : Fo), fok k = true → ∀ x ∈ fvl k, 0 ≤ x ∧ x ≤ 11
  | .nil, _, x, hx => by simp [fvl] at hx
  | .node _ _ p k r, h, x, hx => by
    simp only [fok, Bool.and_eq_true] at h
    simp only [fvl, List.mem_append] at hx
    rcases hx with hx | hx
    · split at hx
      · rename_i hp
        simp only [List.mem_singleton] at hx
        subst hx
        exact ((okN_iff _ _ _).1 h.1.1).2.1 hp
      · exact fvl_in k h.1.2 x hx
    · exact fvl_in r h.2 x hx
theorem fvs_in {s v : Int} {k : Fo} (h : okW s v k 16 = true) : ∀ x ∈ fvs s v k, 0 ≤ x ∧ x ≤ 11 := by
  have h' := (okW_iff _ _ _ _).1 h
  intro x hx
  unfold fvs at hx
  split at hx
  · rename_i hs
    simp only [List.mem_singleton] at hx
    subst hx
    exact ((okN_iff _ _ _).1 h'.1).2.1 hs
  · exact fvl_in k h'.2.1 x hx

theorem strict_ext : ∀ (l1 l2 : List Int), l1.Pairwise (· < ·) → l2.Pairwise (· < ·) → (∀ x, x ∈ l1 ↔ x ∈ l2) → l1 = l2
  | [], [], _, _, _ => rfl
  | [], b :: _, _, _, h => by have := (h b).2 (by simp); simp at this
  | a :: _, [], _, _, h => by have := (h a).1 (by simp); simp at this
  | a :: l1, b :: l2, h1, h2, h => by
    rw [List.pairwise_cons] at h1 h2
    have e : a = b := by
      rcases List.mem_cons.1 ((h a).1 (by simp)) with e | e
      · exact e
      · rcases List.mem_cons.1 ((h b).2 (by simp)) with e' | e'
        · exact e'.symm
        · have := h1.1 b e'; have := h2.1 a e; omega
    subst e
    rw [strict_ext l1 l2 h1.2 h2.2 fun x => ?_]
    constructor
    · intro hx
      rcases List.mem_cons.1 ((h x).1 (by simp [hx])) with e | e
      · have := h1.1 x hx; omega
      · exact e
    · intro hx
      rcases List.mem_cons.1 ((h x).2 (by simp [hx])) with e | e
      · have := h2.1 x hx; omega
      · exact e

/-- Of a sorted row each once, in order, and none is lost. -/
theorem compact_sorted (ys : List Int) (hs : ys.Pairwise (· ≤ ·)) : ∀ m, m ≤ ys.length →
    (Lib.compactUpTo ys.toArray m).Pairwise (· < ·) ∧ (∀ x, x ∈ Lib.compactUpTo ys.toArray m ↔ ∃ j, j < m ∧ ys[j]? = some x) := by
  have hget : ∀ j, j < ys.length → ys[j]? = some (ys.toArray[j]!) := fun j hj => by simp [hj]
  have hle : ∀ i j, i ≤ j → j < ys.length → ys.toArray[i]! ≤ ys.toArray[j]! := fun i j hij hj => by
    rcases Nat.lt_or_ge i j with h | h
    · have := List.pairwise_iff_getElem.1 hs i j (by omega) hj h
      simpa [hj, show i < ys.length by omega] using this
    · have : i = j := by omega
      subst this
      exact Int.le_refl _
  intro m
  induction m with
  | zero => intro _; exact ⟨by simp [Lib.compactUpTo], fun x => by simp [Lib.compactUpTo]⟩
  | succ m ih =>
    intro hm
    obtain ⟨h1, h2⟩ := ih (by omega)
    rw [Lib.compactUpTo_succ]
    by_cases hk : Lib.keeps ys.toArray m = true
    · rw [if_pos hk]
      refine ⟨List.pairwise_append.2 ⟨h1, List.pairwise_singleton _ _, fun a ha b hb => ?_⟩, fun x => ?_⟩
      · simp only [List.mem_singleton] at hb
        subst hb
        obtain ⟨j, hj, hja⟩ := (h2 a).1 ha
        rw [hget j (by omega)] at hja
        have hja' := Option.some.inj hja
        have hne : ys.toArray[m]! ≠ ys.toArray[m - 1]! := by
          simp only [Lib.keeps, decide_eq_true_eq] at hk
          rcases hk with hk | hk
          · omega
          · exact hk
        have a1 := hle j (m - 1) (by omega) (by omega)
        have a2 := hle (m - 1) m (by omega) (by omega)
        rw [← hja']
        omega
      · simp only [List.mem_append, List.mem_singleton]
        constructor
        · rintro (hx | rfl)
          · obtain ⟨j, hj, e⟩ := (h2 x).1 hx
            exact ⟨j, by omega, e⟩
          · exact ⟨m, by omega, hget m (by omega)⟩
        · rintro ⟨j, hj, e⟩
          by_cases hjm : j < m
          · exact .inl ((h2 x).2 ⟨j, hjm, e⟩)
          · have : j = m := by omega
            subst this
            rw [hget j (by omega)] at e
            exact .inr (Option.some.inj e).symm
    · rw [if_neg hk, List.append_nil]
      refine ⟨h1, fun x => ⟨fun hx => ?_, fun hx => ?_⟩⟩
      · obtain ⟨j, hj, e⟩ := (h2 x).1 hx
        exact ⟨j, by omega, e⟩
      · obtain ⟨j, hj, e⟩ := hx
        by_cases hjm : j < m
        · exact (h2 x).2 ⟨j, hjm, e⟩
        · have : j = m := by omega
          subst this
          have hk' : ¬(j = 0 ∨ ys.toArray[j]! ≠ ys.toArray[j - 1]!) := by simpa [Lib.keeps] using hk
          have h0 : j ≠ 0 := fun h => hk' (.inl h)
          have heq : ys.toArray[j]! = ys.toArray[j - 1]! := Classical.byContradiction fun h => hk' (.inr h)
          rw [hget j (by omega), heq, ← hget (j - 1) (by omega)] at e
          exact (h2 x).2 ⟨j - 1, by omega, e⟩

/-- The numbers from 0 to 11 that are in a list. -/
def among (xs : List Int) (n : Nat) : List Int := ((List.range n).map (fun (i : Nat) => (i : Int))).filter (fun x => decide (x ∈ xs))
theorem among_mem (xs : List Int) (n : Nat) (x : Int) : x ∈ among xs n ↔ x ∈ xs ∧ 0 ≤ x ∧ x < n := by
  simp only [among, List.mem_filter, List.mem_map, List.mem_range, decide_eq_true_eq]
  constructor
  · rintro ⟨⟨i, hi, rfl⟩, h⟩
    exact ⟨h, by omega, by omega⟩
  · rintro ⟨h, h0, h1⟩
    exact ⟨⟨x.toNat, by omega, by omega⟩, h⟩
theorem among_strict (xs : List Int) (n : Nat) : (among xs n).Pairwise (· < ·) := by
  refine List.Pairwise.filter _ ?_
  rw [List.pairwise_map]
  refine List.Pairwise.imp ?_ List.pairwise_lt_range
  intro a b h
  omega
theorem among_succ (xs : List Int) (n : Nat) : among xs (n + 1) = among xs n ++ (if (n : Int) ∈ xs then [(n : Int)] else []) := by
  simp only [among, List.range_succ, List.map_append, List.filter_append, List.map_cons, List.map_nil]
  congr 1
  by_cases h : (n : Int) ∈ xs <;> simp [h]
theorem compact_among (xs : List Int) (h : ∀ x ∈ xs, 0 ≤ x ∧ x ≤ 11) : Lib.compact (xs.mergeSort fun x y => decide (x ≤ y)) = among xs 12 := by
  have hs : (xs.mergeSort fun x y => decide (x ≤ y)).Pairwise (· ≤ ·) := by
    have := List.pairwise_mergeSort (le := fun (x y : Int) => decide (x ≤ y)) (fun a b c h1 h2 => by simp only [decide_eq_true_eq] at *; omega) (fun a b => by simp only [Bool.or_eq_true, decide_eq_true_eq]; omega) xs
    exact this.imp (fun h => by simpa using h)
  obtain ⟨h1, h2⟩ := compact_sorted _ hs _ (Nat.le_refl _)
  refine strict_ext _ _ h1 (among_strict xs 12) fun x => ?_
  rw [among_mem]
  have h3 : x ∈ Lib.compact (xs.mergeSort fun x y => decide (x ≤ y)) ↔ x ∈ xs := by
    rw [Lib.compact, h2 x, ← List.mem_mergeSort (le := fun (x y : Int) => decide (x ≤ y)) (l := xs)]
    constructor
    · rintro ⟨j, _, e⟩
      exact List.mem_of_getElem? e
    · intro hx
      obtain ⟨j, hj, e⟩ := List.getElem_of_mem hx
      exact ⟨j, hj, by rw [List.getElem?_eq_getElem hj, e]⟩
  rw [h3]
  constructor
  · intro hx
    have := h x hx
    exact ⟨hx, by omega, by omega⟩
  · exact fun hx => hx.1
end Go.Proofs.Ytkmfnhoeigoajab

/-! V2: l1Has: whether a variable is in a term. -/
namespace Go.Proofs.Ytkmfnhoeigoajab
open Go.RowKit Go.Deep

theorem one_box {w wr : World} {x y z : Value} (h : Below (w.heap.size + 1) (w.alloc (.cells #[x, y, z] 25)) wr) : wr.cell? ⟨w.heap.size, 2, none⟩ = some z := by
  rw [h.cell (by simp), World.cell?_alloc_at _ _ _ _ (by simp)]; rfl

theorem fvl_drop {x : Int} {j : Nat} {k : Fo} {a b : Nat} {s v : Int} {kk r : Fo} (h : fdrop j k = .node a b (s, v) kk r) : x ∈ fvl (fdrop j k) ↔ x ∈ fvs s v kk ∨ x ∈ fvl r := by
  rw [h]
  simp only [fvl, fvs, List.mem_append]

set_option maxRecDepth 100000 in
set_option maxHeartbeats 1000000 in
theorem l1Has_any (N : Nat) : ∀ (s v : Int) (a : Option Addr) (c : Nat) (k : Fo) (x : Int) (w : World), Sl w 0 w.heap.size a k → fsz k ≤ N → N ≤ 1000000 →
    Calls Try.prog 46 #[.agg #[.int .i64 s, .int .i64 v, .slice a (flen k) c], .int .i64 x] w fun e w' => e = .returned (.bool (decide (x ∈ fvs s v k))) ∧ Below w.heap.size w w' := by
  induction N using Nat.strongRecOn with
  | _ N ih =>
    intro s v a c k x w hl hN hN2
    have hfl := flen_le_sz k
    have IH := Lib.hid ih
    clear ih
    by_cases hs : s = 0
    · subst hs
      have HE : Hid ((v == x) = decide (x ∈ fvs 0 v k)) := by
        unfold Hid
        by_cases h : v = x
        · subst h; simp [fvs]
        · have : x ≠ v := fun e => h e.symm
          simp [fvs, h, this]
      go_enter Try.func46, Try.ntmps46
      go_wp2_with fail
      go_ret
      exact ⟨by rw [← HE.out]; rfl, (Below.refl _ _).alloc (Nat.le_refl _) _⟩
    · have gs : (s == 0) = false := by simpa using hs
      have hb0 : Below w.heap.size w (w.alloc (.cells #[.int .i64 s, .int .i64 v, .slice a (flen k) c] 25)) := (Below.refl _ _).alloc (Nat.le_refl _) _
      have HB0 := Lib.hid hb0
      have HV : Hid (fvs s v k = fvl k) := by unfold Hid fvs; rw [if_neg hs]
      clear hb0
      go_enter Try.func46, Try.ntmps46
      go_wp2_with fail
      go_loopw [5] (fun i wr => ∃ j : Nat, j ≤ flen k ∧ i = .int .i64 j ∧ Hid (x ∈ fvl k ↔ x ∈ fvl (fdrop j k)) ∧ Below (w.heap.size + 1) (w.alloc (.cells #[.int .i64 s, .int .i64 v, .slice a (flen k) c] 25)) wr) (fun i _ => flen k - (intOf i).toNat)
      case atStart => exact ⟨0, by omega, rfl, Iff.rfl, Below.refl _ _⟩
      case round =>
        obtain ⟨j, hj, rfl, hq, hbl⟩ := hrel
        have hsr := hbl.size
        simp at hsr
        have hx2 := one_box hbl
        have hbw := HB0.out.trans (hbl.mono (show w.heap.size ≤ w.heap.size + 1 by omega))
        by_cases hlt : j < flen k
        · rcases hl with rfl | ⟨b, o, rfl, hrow⟩
          · simp [flen] at hlt
          obtain ⟨s1, v1, kk, a1, c1, ⟨x1, y1, hd⟩, _, hbB, hk0, hk1, hk2, hsl⟩ := row_at (hrow.below hbw) hlt
          have hkN := fsz_kid hd
          have HQ : Hid (x ∈ fvl k ↔ x ∈ fvs s1 v1 kk ∨ x ∈ fvl (fdrop (j + 1) k)) := hq.out.trans (fvl_drop hd)
          have HS := Lib.hid hsl
          have HBL := Lib.hid hbl
          clear hd hsl hrow hbl hbw hq
          have g1 : (0 : Int) ≤ (j : Int) := by omega
          have g2 : (j : Int) < (flen k : Int) := by omega
          have HS1 := Lib.hid (HS.out.mono (lo' := 0) (Nat.le_refl _) (show w.heap.size ≤ wr.heap.size by omega))
          cases hin : decide (x ∈ fvs s1 v1 kk) with
          | true =>
            have HE : Hid (decide (x ∈ fvs s v k) = true) := by
              unfold Hid
              rw [HV.out]
              exact decide_eq_true (HQ.out.2 (.inl (of_decide_eq_true hin)))
            have HIN := Lib.hid hin
            clear hin
            go_wp2_with fail
            with_reducible refine (IH.out (fsz kk) (by omega) s1 v1 a1 c1 kk x _ HS1.out (Nat.le_refl _) (by omega)).mono ?_
            rw [HIN.out]
            rintro e u ⟨rfl, hu⟩
            clear hk0 hk1 hk2 hx2
            have HB2 := Lib.hid (HBL.out.trans (hu.mono hsr))
            clear hu
            go_wp2_with fail
            go_ret
            exact ⟨by rw [HE.out]; rfl, HB0.out.trans (HB2.out.mono (by omega))⟩
          | false =>
            have HE : Hid (x ∈ fvl k ↔ x ∈ fvl (fdrop (j + 1) k)) := by
              have := of_decide_eq_false hin
              unfold Hid
              rw [HQ.out]
              simp [this]
            have HIN := Lib.hid hin
            clear hin
            go_wp2_with fail
            with_reducible refine (IH.out (fsz kk) (by omega) s1 v1 a1 c1 kk x _ HS1.out (Nat.le_refl _) (by omega)).mono ?_
            rw [HIN.out]
            rintro e u ⟨rfl, hu⟩
            clear hk0 hk1 hk2 hx2
            have HB2 := Lib.hid (HBL.out.trans (hu.mono hsr))
            clear hu
            go_wp2_with fail
            go_roundw
            case rel => exact ⟨j + 1, by omega, by go_num, HE, HB2.out⟩
            case measure => simp [intOf]; omega
        · have HE : Hid (decide (x ∈ fvs s v k) = false) := by
            unfold Hid
            rw [HV.out]
            refine decide_eq_false fun h => ?_
            have := hq.out.1 h
            rw [fdrop_all (by omega)] at this
            simp [fvl] at this
          have HBW := Lib.hid hbw
          clear hbw hbl hq
          go_wp2_with fail
          go_ret
          exact ⟨by rw [HE.out]; rfl, HBW.out⟩
end Go.Proofs.Ytkmfnhoeigoajab

/-! IS: Rows of numbers: what a place of one holds, one of the call's own. -/
namespace Go.Proofs.Ytkmfnhoeigoajab
open Go.RowKit Go.Deep

theorem isl_at {w : World} {lo B : Nat} {a : Option Addr} {xs : List Int} {i : Nat} (h : ISl w lo B a xs) (hi : i < xs.length) :
    ∃ b o, a = some ⟨b, o, none⟩ ∧ lo ≤ b ∧ b < B ∧ w.cell? ⟨b, o + i, none⟩ = some (.int .i64 xs[i]) := by
  rcases h with rfl | ⟨b, o, e, h1, h2, h3⟩
  · simp at hi
  · exact ⟨b, o, e, h1, h2, h3 i _ (List.getElem?_eq_getElem hi)⟩

def IOwn (w : World) (base : Nat) (xs : List Int) (A : Option Addr) (C : Nat) : Prop := w.ownsRow base 3 1 (.slice A xs.length C) xs.length (xs.map (Value.int .i64))

theorem IOwn.base {w : World} {base base' : Nat} {xs : List Int} {A : Option Addr} {C : Nat} (h : IOwn w base xs A C) (hb : base' ≤ base) : IOwn w base' xs A C := own_base hb h
theorem IOwn.sl {w : World} {base : Nat} {xs : List Int} {A : Option Addr} {C : Nat} (h : IOwn w base xs A C) : ISl w base w.heap.size A xs := isl_of_own h
theorem IOwn.low {w w2 : World} {base : Nat} {xs : List Int} {A : Option Addr} {C : Nat} (h : IOwn w base xs A C) (hb : Below w.heap.size w w2) : IOwn w2 base xs A C := own_low hb h
end Go.Proofs.Ytkmfnhoeigoajab
