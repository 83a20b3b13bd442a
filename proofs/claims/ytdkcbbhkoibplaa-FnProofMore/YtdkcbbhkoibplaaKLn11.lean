/- Several texts in one: PF2, RFp, WI, WJ0, WK0, S7, EO, LE2. -/
import Derived.Test.YtdkcbbhkoibplaaKLn5
import Derived.Test.YtdkcbbhkoibplaaKLn4
import Derived.Test.YtdkcbbhkoibplaaKLn3
import Derived.Deep.AppendLies
import Derived.Test.YtdkcbbhkoibplaaKLn7
import Derived.Test.YtdkcbbhkoibplaaKLn10

/-! RFp: Rows of rows: one row written over. -/
namespace Go.Proofs.Ytdkcbbhkoibplaa
open Go.RowKit Go.Deep

theorem own_block {W w2 : World} {base : Nat} {e : TypeId} {size : Nat} {v : Value} {n : Nat} {xs : List Value} (h : W.ownsRow base e size v n xs) (hs : ∀ g, v.ownBlock = some g → w2.heap[g]? = W.heap[g]?) : w2.ownsRow base e size v n xs := by
  refine ⟨h.1, ?_⟩
  rcases h.2 with h2 | ⟨g, cap, cur, h3, h4, h5, h6⟩
  · exact .inl h2
  · exact .inr ⟨g, cap, cur, h3, h4, by rw [hs g (by rw [h3]; rfl)]; exact h5, h6⟩

end Go.Proofs.Ytdkcbbhkoibplaa

/-! WI: l71Bad. -/
namespace Go.Proofs.Ytdkcbbhkoibplaa
open Go.RowKit Go.Deep
attribute [local go_sem ↓] Go.wp_at_zero Go.wp_at_succ

theorem l1Count_n (N : Nat) (s v : Int) (a : Option Addr) (c : Nat) (k : Fo) (most : Int) (w : World) (n : Nat) (hn : flen k = n) (hl : Sl w 0 w.heap.size a k) (h1 : -1000 ≤ most) (h2 : most ≤ 1000) (h3 : most ≤ N) :
    Calls Try.prog 84 #[.agg #[.int .i64 s, .int .i64 v, .slice a n c], .int .i64 most] w fun e w' => e = .returned (.int .i64 (cntT s v k most)) ∧ Below w.heap.size w w' := by
  subst hn
  exact l1Count_any N s v a c k most w hl h1 h2 h3

/-- What holds at the head of the loop that doubles. -/
def BadLoop (w : World) (br p S j : Nat) (wr : World) : Prop :=
  ∃ s v A C k, BadAt w br p s v A (flen k) C wr ∧ Sl wr (w.heap.size + 2) wr.heap.size A k ∧ fsz k + 2 ≤ (S + 1) * 2 ^ j
theorem bad_size {n S j : Nat} (h : n + 2 ≤ (S + 1) * 2 ^ j) (hj : j ≤ 8) (hS : 1 ≤ S) : 1 + n ≤ 1000 * S := by
  have h2 : 2 ^ j ≤ 2 ^ 8 := Nat.pow_le_pow_right (by omega) hj
  have h3 : (S + 1) * 2 ^ j ≤ (S + 1) * 256 := Nat.mul_le_mul (Nat.le_refl _) h2
  omega

set_option maxRecDepth 100000 in
set_option maxHeartbeats 1000000 in
theorem l71Bad_any (s v : Int) (a : Option Addr) (c : Nat) (k : Fo) (br p S : Nat) (w : World) (hl : Sl w 0 w.heap.size a k) (hr : Rd w br p) (hp : p ≤ 100000000) (hS : 1 + fsz k ≤ S) (hS2 : S ≤ 1000) :
    Calls Try.prog 89 #[.pointer (some ⟨br, 0, none⟩), .agg #[.int .i64 s, .int .i64 v, .slice a (flen k) c]] w (DrawnPost br p 2 (1000 * S) w) := by
  have hlt := hr.lt
  have hfl := flen_le_sz k
  have HR := Lib.hid hr
  clear hr
  go_enter Try.func89, Try.ntmps89
  go_wp2_with fail
  with_reducible refine (l1Copy_any (fsz k) s v a c k _ ?_ (Nat.le_refl _) ?_).mono ?_
  · exact (hl.below (((Below.refl _ _).alloc (Nat.le_refl _) _).alloc (by simp) _)).mono (Nat.le_refl _) (by simp; omega)
  · omega
  rintro e w1 ⟨a1, c1, rfl, hb1, hown1⟩
  have hat := (BadAt.start HR.out s v a (flen k) c).more hlt hb1
  have ht0 := hat.t0
  have ht1 := hat.t1
  have ht2 := hat.t2
  have hf0 := hat.f0
  have hf1 := hat.f1
  have hf2 := hat.f2
  have HAT := Lib.hid (((hat.set0 hlt s).set1 hlt v).set2 hlt (A' := a1) (n' := flen k) (C' := c1))
  have HOWN : Hid (Own w1 (w.heap.size + 2) k (flen k) a1 c1) := hown1.low (Below.refl _ _) (by simp)
  clear hb1 hown1 hat
  go_wp2_with fail
  with_reducible refine (pick_any 6 br p _ HAT.out.rd (by omega) (by omega) (by omega)).mono ?_
  rintro e w2 ⟨x, rfl, hx, hb2⟩
  have ha2 : Adv _ br (p + 1) w2 := hb2
  have HAT2 := Lib.hid (HAT.out.call hlt ha2)
  have HOWN2 := Lib.hid ((((HOWN.out.store (by simp) (.int .i64 s) (q := ⟨w.heap.size, 0, none⟩)).store (by simp) (.int .i64 v) (q := ⟨w.heap.size, 1, none⟩)).store (by simp) (.slice a1 (flen k) c1) (q := ⟨w.heap.size, 2, none⟩)).adv ha2 (by omega))
  clear ht0 ht1 ht2 hf0 hf1 hf2 hb2 ha2 HAT HOWN
  by_cases hx0 : x = 0
  · subst hx0
    go_wp2_with fail
    with_reducible refine (pick_any 8 br (p + 1) _ HAT2.out.rd (by omega) (by omega) (by omega)).mono ?_
    rintro e w3 ⟨y, rfl, hy, hb3⟩
    have ha3 : Adv w2 br (p + 1 + 1) w3 := hb3
    have HAT3 := Lib.hid (HAT2.out.call hlt ha3)
    have HOWN3 := Lib.hid (HOWN2.out.adv ha3 (by omega))
    clear hb3 ha3
    have ht0 := HAT3.out.t0
    have ht1 := HAT3.out.t1
    have ht2 := HAT3.out.t2
    have hf0 := HAT3.out.f0
    have hf1 := HAT3.out.f1
    have hf2 := HAT3.out.f2
    have hr0 := HAT3.out.r0
    have hr1 := HAT3.out.r1
    have hr2 := HAT3.out.r2
    have hg0 := HAT3.out.g0
    have hg1 := HAT3.out.g1
    have hg2 := HAT3.out.g2
    have hy8 : (y : Int) < 8 := by omega
    go_wp2_with fail
    refine bodyPost_ret (v := .agg #[.int .i64 ((y : Int) - 1), .int .i64 v, .slice a1 (flen k) c1]) ?_ rfl ((HAT3.out.set0 hlt _).done (by omega) (by omega) (by omega) (HOWN3.out.store (by simp) _).sl)
    simp [results, Try.results89, go_sem, hr0, hr1, hr2]
  have x0 : ((x : Int) == 0) = false := by simpa using hx0
  by_cases hx1 : x = 1
  · subst hx1
    go_wp2_with fail
    with_reducible refine (pick_any 3 br (p + 1) _ (HAT2.out.rd.alloc _) (by omega) (by omega) (by omega)).mono ?_
    rintro e w3 ⟨y, rfl, hy, hb3⟩
    have ha3 : Adv (w2.alloc (.cells #[.int .i64 (-1), .int .i64 12, .int .i64 1] 3)) br (p + 1 + 1) w3 := hb3
    have hsz2 := HAT2.out.size
    have HAT3 := Lib.hid ((HAT2.out.more hlt ((Below.refl _ _).alloc (Nat.le_refl _) _)).call hlt ha3)
    have HOWN3 := Lib.hid ((HOWN2.out.low ((Below.refl _ _).alloc (Nat.le_refl _) _) (Nat.le_refl _)).adv ha3 (by omega))
    have hc0 := ha3.cell (q := ⟨w2.heap.size, 0, none⟩) (v := .int .i64 (-1)) (by simp) (by simp; omega)
    have hc1 := ha3.cell (q := ⟨w2.heap.size, 1, none⟩) (v := .int .i64 12) (by simp) (by simp; omega)
    have hc2 := ha3.cell (q := ⟨w2.heap.size, 2, none⟩) (v := .int .i64 1) (by simp) (by simp; omega)
    clear hb3 ha3
    have ht0 := HAT3.out.t0
    have ht1 := HAT3.out.t1
    have ht2 := HAT3.out.t2
    have hf0 := HAT3.out.f0
    have hf1 := HAT3.out.f1
    have hf2 := HAT3.out.f2
    have hr0 := HAT3.out.r0
    have hr1 := HAT3.out.r1
    have hr2 := HAT3.out.r2
    have hg0 := HAT3.out.g0
    have hg1 := HAT3.out.g1
    have hg2 := HAT3.out.g2
    have hy3 : y = 0 ∨ y = 1 ∨ y = 2 := by omega
    rcases hy3 with rfl | rfl | rfl
    · go_wp2_with fail
      refine bodyPost_ret (v := .agg #[.int .i64 s, .int .i64 (-1), .slice a1 (flen k) c1]) ?_ rfl ((HAT3.out.set1 hlt _).done (by omega) (by omega) (by omega) (HOWN3.out.store (by simp) _).sl)
      simp [results, Try.results89, go_sem, hr0, hr1, hr2]
    · go_wp2_with fail
      refine bodyPost_ret (v := .agg #[.int .i64 s, .int .i64 12, .slice a1 (flen k) c1]) ?_ rfl ((HAT3.out.set1 hlt _).done (by omega) (by omega) (by omega) (HOWN3.out.store (by simp) _).sl)
      simp [results, Try.results89, go_sem, hr0, hr1, hr2]
    · go_wp2_with fail
      refine bodyPost_ret (v := .agg #[.int .i64 s, .int .i64 1, .slice a1 (flen k) c1]) ?_ rfl ((HAT3.out.set1 hlt _).done (by omega) (by omega) (by omega) (HOWN3.out.store (by simp) _).sl)
      simp [results, Try.results89, go_sem, hr0, hr1, hr2]
  have x1 : ((x : Int) == 1) = false := by simp; omega
  by_cases hx2 : x = 2
  · subst hx2
    have ht2 := HAT2.out.t2
    have hf2 := HAT2.out.f2
    have hsz2 := HAT2.out.size
    have hu0 : ∀ u : After (w.heap.size + 2) w2, u.world.cell? ⟨w.heap.size, 2, none⟩ = some (.slice a1 (flen k) c1) := fun u => u.cell (by simp) ht2
    obtain ⟨ti, hti, htz, hts, htb⟩ := Try.infoTerm
    obtain ⟨xs, hown, hall⟩ := HOWN2.out
    have HTI := Lib.hid hti
    have HTZ := Lib.hid htz
    have HTS := Lib.hid hts
    have HTB := Lib.hid htb
    have HOWN := Lib.hid hown
    have HALL := Lib.hid hall
    have HLT : Hid (∀ g, (Value.slice a1 (flen k) c1).ownBlock = some g → w.heap.size + 2 ≤ g) := fun g hg => (hown.lt g hg).1
    clear hti htz hts htb hown hall
    go_wp2_with fail
    refine wp_region_mix (fun w' => ∃ u : After (w.heap.size + 2) w2, w' = u.world) [5, 6] [(0, 0), (1, 0), (2, 1), (3, 1), (4, 1), (5, 2), (6, 2)] (by kernel_rfl) (by kernel_rfl) ⟨⟨_, (Below.refl _ _).drew⟩, rfl⟩ ?_
    iterate 2
      refine mix_see rfl (fun K hK => ?_)
      go_simp
      refine hK _ ?_
      clear hK K
    clear hu0
    refine mix_hold rfl (fun K hK => ?_)
    go_simp
    with_reducible refine (l71Of_any 1 none 0 0 _).mono ?_
    rintro e w3 ⟨rfl, hb3'⟩
    have hb3 : Below w2.heap.size w2 w3 := bl_undrew hb3'
    have hs3 := hb3.size
    refine hK _ _ ⟨⟨_, hb3.mono (by omega)⟩, rfl⟩ ?_
    clear hK K hb3'
    refine mix_hold rfl (fun K hK => ?_)
    go_simp
    refine hK _ _ ⟨⟨_, (hb3.mono (by omega)).alloc (by omega) _⟩, rfl⟩ ?_
    clear hK K
    refine mix_hold rfl (fun K hK => ?_)
    refine step_append_lies _ (by rfl) _ _ _ (by rfl) (w.heap.size + 2) 35 ti _ 3 40 Try.underlying33 HTI.out HTZ.out HTS.out HTB.out rfl (by omega) (.slice a1 (flen k) c1) (flen k) xs (by rfl) (own_low ((Below.refl _ _).alloc (Nat.le_refl _) _) (own_low hb3 HOWN.out)) ⟨w3.heap.size, 0, none⟩ 1 1 [.int .i64 1, .int .i64 0, .slice none (flen .nil) 0] (by rfl) (by rfl) (World.news_of_block (heap_alloc_new _ _)) (by simp [Value.oneCell']) (by omega) (by unfold maxLen; omega) (by omega) (by simp; omega) (w3.heap.size + 1) (by simp) ?_
    intro g cap w4 hown4 hgrow hatg hg4
    have hlow : Below (w.heap.size + 2) w2 w4 := ((hb3.mono (by omega)).alloc (by omega) _).grown hgrow (by simp; omega) HLT.out
    have hz2 : w4.cell? ⟨w.heap.size, 2, none⟩ = some (.slice a1 (flen k) c1) := by rw [hlow.cell (by simp)]; exact ht2
    have hz3 : w4.frozen? ⟨w.heap.size, 2, none⟩ = false := by rw [hlow.frozen (by simp)]; exact hf2
    have hown5 : Own w4 (w.heap.size + 2) (fsnoc k (1, 0)) (flen k + 1) (some ⟨g, 0, none⟩) cap := by
      refine Own.append (k := fsnoc k (1, 0)) (kk := .nil) ⟨xs, HOWN.out, hown4, fun i hi => ?_⟩ hb3 (.inl rfl) (by omega) (fdrop_snoc_end (1, 0) k) hgrow hatg
      obtain ⟨x, y, s', v', kk, a', c', L, H, e, h0, h1, h2, hs, hL, hH, hg⟩ := HALL.out i hi
      exact ⟨x, y, s', v', kk, a', c', L, H, fdrop_snoc _ i k e, h0, h1, h2, hs, hL, hH, hg⟩
    have hat4 : BadAt w br (p + 1) s v a1 (flen k) c1 w4 := HAT2.out.keep hlt hlow (by have := hgrow.size; simp at this; omega)
    have HOWN5 := Lib.hid hown5
    have HAT4 := Lib.hid (hat4.set2 hlt (A' := some ⟨g, 0, none⟩) (n' := flen k + 1) (C' := cap))
    refine hK _ _ ⟨⟨_, hlow⟩, rfl⟩ ?_
    clear hK K hown4 hgrow hatg hown5
    refine mix_late rfl (fun K hK => ?_)
    go_simp
    refine hK _ _ ?_
    clear hK K
    refine mix_late rfl (fun K hK => ?_)
    go_simp
    refine hK _ _ ?_
    clear hK K
    refine mix_end ?_
    clear hz2 hz3 ht2 hf2
    have ht0 := HAT4.out.t0
    have ht1 := HAT4.out.t1
    have ht2 := HAT4.out.t2
    have hf0 := HAT4.out.f0
    have hf1 := HAT4.out.f1
    have hf2 := HAT4.out.f2
    have hr0 := HAT4.out.r0
    have hr1 := HAT4.out.r1
    have hr2 := HAT4.out.r2
    have hg0 := HAT4.out.g0
    have hg1 := HAT4.out.g1
    have hg2 := HAT4.out.g2
    have hkl := flen_snoc (1, 0) k
    have HKL := Lib.hid hkl
    have hks := fsz_snoc (1, 0) k
    have HKS := Lib.hid hks
    clear hkl hks
    go_wp2_with fail
    refine bodyPost_ret (v := .agg #[.int .i64 s, .int .i64 v, .slice (some ⟨g, 0, none⟩) (flen (fsnoc k (1, 0))) cap]) ?_ rfl (BadAt.done (k := fsnoc k (1, 0)) (by rw [HKL.out]; exact HAT4.out) (by omega) (by omega) (by rw [HKS.out]; omega) (Own.sl (by rw [HKL.out]; exact HOWN5.out.store (by simp) _)))
    rw [HKL.out]
    simp [results, Try.results89, go_sem, hr0, hr1, hr2]
  have x2 : ((x : Int) == 2) = false := by simp; omega
  by_cases hx3 : x = 3
  · subst hx3
    have HST : Hid (BadLoop w br (p + 1) S 0 w2) := ⟨s, v, a1, c1, k, HAT2.out, HOWN2.out.sl, by omega⟩
    clear HAT2 HOWN2
    go_wp2_with fail
    go_loopw [5] (fun i wr => ∃ j : Nat, j ≤ 8 ∧ i = .int .i64 j ∧ BadLoop w br (p + 1) S j wr) (fun i _ => 8 - (intOf i).toNat)
    case atStart => exact ⟨0, by omega, rfl, HST.out⟩
    case round =>
      clear HST
      obtain ⟨j, hj, rfl, s1, v1, A1, C1, k1, hat, hsl, hbd⟩ := hrel
      have ht0 := hat.t0
      have ht1 := hat.t1
      have ht2 := hat.t2
      have hf0 := hat.f0
      have hf1 := hat.f1
      have hf2 := hat.f2
      have hr0 := hat.r0
      have hr1 := hat.r1
      have hr2 := hat.r2
      have hg0 := hat.g0
      have hg1 := hat.g1
      have hg2 := hat.g2
      have hsz1 := hat.size
      by_cases hlt8 : j < 8
      · have HAT1 := Lib.hid hat
        have HL1 := Lib.hid (kid2 (T := 35) (s := s1) (v := v1) (c := C1) (s' := s1) (v' := v1) (c' := C1) hsl hsl hsz1)
        have HBD := Lib.hid hbd
        clear hat hsl hbd
        go_wp2_with fail
        with_reducible refine (l71Of_any 4 _ 2 2 _).mono ?_
        rintro e w3 ⟨rfl, hb3⟩
        have hat3 := (HAT1.out.more hlt ((Below.refl _ _).alloc (Nat.le_refl _) _)).more hlt hb3
        have hl3 := HL1.out.low hb3
        have hs3 := hat3.size
        have hat4 := ((hat3.set0 hlt 4).set1 hlt 0).set2 hlt (A' := some ⟨wr.heap.size, 0, none⟩) (n' := flen (.node 0 0 (s1, v1) k1 (.node 0 0 (s1, v1) k1 .nil))) (C' := 2)
        have hl4 := ((hl3.store (q := ⟨w.heap.size, 0, none⟩) (by simp) (.int .i64 4)).store (q := ⟨w.heap.size, 1, none⟩) (by simp) (.int .i64 0)).store (q := ⟨w.heap.size, 2, none⟩) (by simp) (.slice (some ⟨wr.heap.size, 0, none⟩) 2 2)
        have hbd4 : fsz (.node 0 0 (s1, v1) k1 (.node 0 0 (s1, v1) k1 .nil)) + 2 ≤ (S + 1) * 2 ^ (j + 1) := by
          have := HBD.out
          rw [Nat.pow_succ, ← Nat.mul_assoc]
          simp only [fsz]
          omega
        clear ht0 ht1 ht2 hf0 hf1 hf2 hr0 hr1 hr2 hg0 hg1 hg2
        have ht0 := hat3.t0
        have ht1 := hat3.t1
        have ht2 := hat3.t2
        have hf0 := hat3.f0
        have hf1 := hat3.f1
        have hf2 := hat3.f2
        have HAT4 := Lib.hid hat4
        have HL4 := Lib.hid hl4
        have HBD4 := Lib.hid hbd4
        clear hat3 hl3 hat4 hl4 hbd4 hb3
        go_wp2_with fail
        with_reducible refine (l1Count_n 60 4 0 (some ⟨wr.heap.size, 0, none⟩) 2 (.node 0 0 (s1, v1) k1 (.node 0 0 (s1, v1) k1 .nil)) 60 _ 2 rfl ?_ ?_ ?_ ?_).mono ?_
        · exact HL4.out.mono (Nat.zero_le _) (by simp)
        · omega
        · omega
        · omega
        rintro e w4 ⟨rfl, hb4⟩
        have hat5 := HAT4.out.more hlt hb4
        have hl5 := (HL4.out.mono (Nat.le_refl _) (show _ ≤ _ by simp)).low hb4
        clear ht0 ht1 ht2 hf0 hf1 hf2
        by_cases hcnt : 60 < cntT 4 0 (.node 0 0 (s1, v1) k1 (.node 0 0 (s1, v1) k1 .nil)) 60
        · have ht0 := hat5.t0
          have ht1 := hat5.t1
          have ht2 := hat5.t2
          have hf0 := hat5.f0
          have hf1 := hat5.f1
          have hf2 := hat5.f2
          have hr0 := hat5.r0
          have hr1 := hat5.r1
          have hr2 := hat5.r2
          have hg0 := hat5.g0
          have hg1 := hat5.g1
          have hg2 := hat5.g2
          have HAT5 := Lib.hid hat5
          have HL5 := Lib.hid hl5
          clear hat5 hl5 hb4
          go_wp2_with fail
          refine bodyPost_ret (v := .agg #[.int .i64 4, .int .i64 0, .slice (some ⟨wr.heap.size, 0, none⟩) 2 2]) ?_ rfl (HAT5.out.done (by omega) (by omega) (bad_size HBD4.out (by omega) (by omega)) HL5.out)
          simp [results, Try.results89, go_sem, hr0, hr1, hr2, flen]
        · have HREL : Hid (BadLoop w br (p + 1) S (j + 1) w4) := ⟨4, 0, _, 2, _, hat5, hl5, HBD4.out⟩
          clear hat5 hl5 hb4
          go_wp2_with fail
          go_roundw
          case rel => exact ⟨j + 1, by omega, by go_num, HREL.out⟩
          case measure => simp [intOf]; omega
      · have HAT1 := Lib.hid hat
        have HL1 := Lib.hid hsl
        have HBD := Lib.hid hbd
        clear hat hsl hbd
        go_wp2_with fail
        refine bodyPost_ret (v := .agg #[.int .i64 s1, .int .i64 v1, .slice A1 (flen k1) C1]) ?_ rfl (HAT1.out.done (by omega) (by omega) (bad_size HBD.out (by omega) (by omega)) HL1.out)
        simp [results, Try.results89, go_sem, hr0, hr1, hr2]
  have x3 : ((x : Int) == 3) = false := by simp; omega
  have ht0 := HAT2.out.t0
  have ht1 := HAT2.out.t1
  have ht2 := HAT2.out.t2
  have hf0 := HAT2.out.f0
  have hf1 := HAT2.out.f1
  have hf2 := HAT2.out.f2
  have hr0 := HAT2.out.r0
  have hr1 := HAT2.out.r1
  have hr2 := HAT2.out.r2
  have hg0 := HAT2.out.g0
  have hg1 := HAT2.out.g1
  have hg2 := HAT2.out.g2
  cases hk : k with
  | nil =>
    subst hk
    go_wp2_with fail
    refine bodyPost_ret (v := .agg #[.int .i64 s, .int .i64 v, .slice a1 (flen .nil) c1]) ?_ rfl (HAT2.out.done (by omega) (by omega) (by omega) HOWN2.out.sl)
    simp [results, Try.results89, go_sem, hr0, hr1, hr2]
  | node x' y' pk kk r =>
    subst hk
    have hpos : 0 < flen (.node x' y' pk kk r) := by simp [flen]
    obtain ⟨g, rfl, hgb, hgl, ⟨u0, hu0⟩, ⟨u1, hu1⟩, ⟨u2, hu2⟩, hz0, hz1, hz2⟩ := own_first HOWN2.out hpos
    have hne : g ≠ w.heap.size := by omega
    have hne1 : g ≠ w.heap.size + 1 := by omega
    have HSL := Lib.hid (own_put0 HOWN2.out 3 0)
    have HATF := Lib.hid (((HAT2.out.far hlt (q := ⟨g, 0, none⟩) hgb (.int .i64 3)).far hlt (q := ⟨g, 1, none⟩) hgb (.int .i64 0)).far hlt (q := ⟨g, 2, none⟩) hgb (.slice none 0 0))
    have hn : flen (.node x' y' pk kk r) = flen r + 1 := rfl
    have HN := Lib.hid hn
    clear hn
    have hS1 : 1 + fsz (BT.node 0 0 ((3 : Int), (0 : Int)) BT.nil r) ≤ 1000 * S := by
      have h3 : fsz (BT.node 0 0 ((3 : Int), (0 : Int)) BT.nil r) = fsz r + 1 := by simp [fsz]
      have h4 : fsz r + 1 ≤ fsz (.node x' y' pk kk r) := by simp only [fsz]; omega
      omega
    have hq0 := HATF.out.r0
    have hq1 := HATF.out.r1
    have hq2 := HATF.out.r2
    go_wp2_with fail
    refine bodyPost_ret (v := .agg #[.int .i64 s, .int .i64 v, .slice (some ⟨g, 0, none⟩) (flen (.node 0 0 (3, 0) .nil r)) c1]) ?_ rfl (BadAt.done (k := .node 0 0 (3, 0) .nil r) HATF.out (by omega) (by omega) hS1 (by simpa using HSL.out))
    simp [results, Try.results89, go_sem, hq0, hq1, hq2, flen]
end Go.Proofs.Ytdkcbbhkoibplaa

/-! WJ0: What the drawn functions of one term end with. -/
namespace Go.Proofs.Ytdkcbbhkoibplaa
open Go.RowKit Go.Deep

theorem adv_low {w w1 w2 : World} {n br p : Nat} (hb : Below n w w1) (h1 : n ≤ br) (h2 : n ≤ w1.heap.size) (ha : Adv w1 br p w2) : Below n w w2 :=
  (hb.setCell (p := ⟨br, 1, none⟩) (by simpa using h1) (.int .i64 p)).trans (Below.mono ha h2)

theorem Bytes.alloc {w : World} {a : Option Addr} {len : Nat} (h : Bytes w a len) (o : Obj) : Bytes (w.alloc o) a len := by
  rcases h with h | ⟨b, o', e, hb, h⟩
  · exact .inl h
  · refine .inr ⟨b, o', e, by simp; omega, fun i hi => ?_⟩
    obtain ⟨x, hx, hc⟩ := h i hi
    exact ⟨x, hx, by rw [World.cell?_alloc_lt _ _ _ hb]; exact hc⟩
end Go.Proofs.Ytdkcbbhkoibplaa

/-! S7: l71Subst. -/
namespace Go.Proofs.Ytdkcbbhkoibplaa
open Go.RowKit Go.Deep

theorem Try.infoBind : ∃ i, Try.prog.info? 131 = some i ∧ i.zero = some (.agg #[.int .i64 0, .int .i64 0, .int .i64 0, .slice none 0 0]) ∧ i.size = 4 ∧ i.bytes = 48 := by
  have h : (Try.prog.info? 131).map (fun i => (i.zero, i.size, i.bytes)) = some (some (.agg #[.int .i64 0, .int .i64 0, .int .i64 0, .slice none 0 0]), 4, 48) := by kernel_rfl
  obtain ⟨i, hi, hz⟩ := Option.map_eq_some_iff.1 h
  simp only [Prod.mk.injEq] at hz
  exact ⟨i, hi, hz.1, hz.2.1, hz.2.2⟩
end Go.Proofs.Ytdkcbbhkoibplaa

/-! EO: A row of equations of one's own: what is appended, what is written. Plain lemmas. -/
namespace Go.Proofs.Ytdkcbbhkoibplaa
open Go.RowKit Go.Deep

/-- What the six cells of an equation hold. -/
def ECells (xs : List Value) (i : Nat) (x : Eqd) (a1 : Option Addr) (c1 : Nat) (a2 : Option Addr) (c2 : Nat) : Prop :=
  xs[i * 6]? = some (.int .i64 x.1.1) ∧ xs[i * 6 + 1]? = some (.int .i64 x.1.2.1) ∧ xs[i * 6 + 2]? = some (.slice a1 (flen x.1.2.2) c1) ∧ xs[i * 6 + 3]? = some (.int .i64 x.2.1) ∧ xs[i * 6 + 4]? = some (.int .i64 x.2.2.1) ∧ xs[i * 6 + 5]? = some (.slice a2 (flen x.2.2.2) c2)
/-- The slice is a row of equations of the call's own. -/
def EOwn (w : World) (base : Nat) (es : List Eqd) (A : Option Addr) (C : Nat) : Prop :=
  ∃ xs, w.ownsRow base 63 6 (.slice A es.length C) es.length xs ∧ ∀ (i : Nat) (x : Eqd), es[i]? = some x → ∃ a1 c1 a2 c2, ECells xs i x a1 c1 a2 c2 ∧ (∃ L H, Sl w L H a1 x.1.2.2 ∧ base ≤ L ∧ H ≤ w.heap.size ∧ ∀ g, (Value.slice A es.length C).ownBlock = some g → g < L ∨ H ≤ g) ∧ ∃ L H, Sl w L H a2 x.2.2.2 ∧ base ≤ L ∧ H ≤ w.heap.size ∧ ∀ g, (Value.slice A es.length C).ownBlock = some g → g < L ∨ H ≤ g
theorem EOwn.adv {w w2 : World} {base br p : Nat} {es : List Eqd} {A : Option Addr} {C : Nat} (h : EOwn w base es A C) (ha : Adv w br p w2) (hb : br < base) : EOwn w2 base es A C := by
  obtain ⟨xs, hown, hall⟩ := h
  have hs := ha.size
  refine ⟨xs, own_block hown fun g hg => ?_, fun i x hx => ?_⟩
  · have h1 := hown.lt g hg
    exact ha.same (lo := g) (B := g + 1) (by omega) (by omega) g (Nat.le_refl _) (by omega)
  · obtain ⟨a1, c1, a2, c2, hc, ⟨L, H, hl, h1, h2, h3⟩, L', H', hl', h1', h2', h3'⟩ := hall i x hx
    exact ⟨a1, c1, a2, c2, hc, ⟨L, H, hl.same (ha.same h2 (.inl (by omega))), h1, by omega, h3⟩, L', H', hl'.same (ha.same h2' (.inl (by omega))), h1', by omega, h3'⟩
theorem EOwn.esl {w : World} {base : Nat} {es : List Eqd} {A : Option Addr} {C : Nat} (h : EOwn w base es A C) : ESl w base w.heap.size A es := by
  obtain ⟨xs, hown, hall⟩ := h
  rcases Nat.eq_zero_or_pos es.length with h0 | h0
  · exact .inl (List.eq_nil_of_length_eq_zero h0)
  · obtain ⟨g, cap, hv, hb, hlt⟩ := hown.form h0
    have hA : A = some ⟨g, 0, none⟩ := by simp only [Value.slice.injEq] at hv; exact hv.1
    subst hA
    refine .inr ⟨g, 0, rfl, hb, hlt, fun i x hx => ?_⟩
    have hi := (List.getElem?_eq_some_iff.1 hx).1
    obtain ⟨a1, c1, a2, c2, ⟨c0, d1, d2, d3, d4, d5⟩, ⟨L, H, hl, h1, h2, h3⟩, L', H', hl', h1', h2', h3'⟩ := hall i x hx
    refine ⟨a1, c1, a2, c2, ?_, ?_, ?_, ?_, ?_, ?_, hl.mono h1 h2, hl'.mono h1' h2'⟩
    · rw [Nat.zero_add, hown.cellAt _ (by omega)]; exact c0
    · rw [Nat.zero_add, hown.cellAt _ (by omega)]; exact d1
    · rw [Nat.zero_add, hown.cellAt _ (by omega)]; exact d2
    · rw [Nat.zero_add, hown.cellAt _ (by omega)]; exact d3
    · rw [Nat.zero_add, show i * 6 + 3 + 1 = i * 6 + 4 from rfl, hown.cellAt _ (by omega)]; exact d4
    · rw [Nat.zero_add, show i * 6 + 3 + 2 = i * 6 + 5 from rfl, hown.cellAt _ (by omega)]; exact d5
/-- One more equation. w: where the row stood; w2: where the new terms lie too; blk: the block that shows it to append. -/
theorem EOwn.append {w0 w w2 w3 : World} {base br p : Nat} {es : List Eqd} {A : Option Addr} {C g cap : Nat} {blk : Obj} {s v s' v' : Int} {k k' : Fo} {a2 a2' : Option Addr} {c2 c2' : Nat} {xs : List Value} (hown : w.ownsRow base 63 6 (.slice A es.length C) es.length xs)
    (hall : ∀ (i : Nat) (x : Eqd), es[i]? = some x → ∃ a1 c1 a2 c2, ECells xs i x a1 c1 a2 c2 ∧ (∃ L H, Sl w L H a1 x.1.2.2 ∧ base ≤ L ∧ H ≤ w.heap.size ∧ ∀ g, (Value.slice A es.length C).ownBlock = some g → g < L ∨ H ≤ g) ∧ ∃ L H, Sl w L H a2 x.2.2.2 ∧ base ≤ L ∧ H ≤ w.heap.size ∧ ∀ g, (Value.slice A es.length C).ownBlock = some g → g < L ∨ H ≤ g)
    (hown3 : w3.ownsRow base 63 6 (.slice (some ⟨g, 0, none⟩) (es.length + 1) cap) (es.length + 1) (xs ++ [.int .i64 s, .int .i64 v, .slice a2 (flen k) c2, .int .i64 s', .int .i64 v', .slice a2' (flen k') c2'])) (ha : Adv w br p w2) (hbr : br < base) (hl2 : Sl w2 w.heap.size w2.heap.size a2 k) (hl2' : Sl w2 w.heap.size w2.heap.size a2' k') (hbase : base ≤ w.heap.size)
    (hgrow : (w2.alloc blk).grownBy w3 (Value.slice A es.length C).ownBlock) (hatg : (Value.slice A es.length C).ownBlock = some g ∨ g = w2.heap.size + 1) (ha0 : Adv w0 br p w2) (hw0 : w0.heap.size ≤ base) : EOwn w3 base (es ++ [((s, v, k), s', v', k')]) (some ⟨g, 0, none⟩) cap ∧ Adv w0 br p w3 := by
  have hs2 := ha.size
  have hs3 := hgrow.size
  simp at hs3
  have hxl : xs.length = es.length * 6 := hown.1
  have hl : (es ++ [(((s, v, k) : Tm3), s', v', k')]).length = es.length + 1 := by simp
  have hold : ∀ {L H : Nat} {a : Option Addr} {kk : Fo}, Sl w L H a kk → base ≤ L → H ≤ w.heap.size → (∀ g, (Value.slice A es.length C).ownBlock = some g → g < L ∨ H ≤ g) → ∃ L H, Sl w3 L H a kk ∧ base ≤ L ∧ H ≤ w3.heap.size ∧ ∀ g', (Value.slice (some ⟨g, 0, none⟩) (es.length + 1) cap).ownBlock = some g' → g' < L ∨ H ≤ g' := fun {L H a kk} hsl h1 h2 h3 => by
    refine ⟨L, H, hsl.same (fun b hb1 hb2 => ?_), h1, by omega, fun g' hg' => ?_⟩
    · rw [hgrow.block b (by simp; omega) (fun e => by have := h3 b e.symm; omega), Below.heap_alloc _ _ _ (by omega)]
      exact ha.same h2 (.inl (by omega)) b hb1 hb2
    · have : g' = g := by simpa [Value.ownBlock] using hg'.symm
      subst this
      rcases hatg with hg1 | hg1
      · exact h3 _ hg1
      · omega
  have hnew : ∀ {a : Option Addr} {kk : Fo}, Sl w2 w.heap.size w2.heap.size a kk → ∃ L H, Sl w3 L H a kk ∧ base ≤ L ∧ H ≤ w3.heap.size ∧ ∀ g', (Value.slice (some ⟨g, 0, none⟩) (es.length + 1) cap).ownBlock = some g' → g' < L ∨ H ≤ g' := fun {a kk} hsl => by
    refine ⟨w.heap.size, w2.heap.size, hsl.same (fun b hb1 hb2 => ?_), hbase, by omega, fun g' hg' => ?_⟩
    · rw [hgrow.block b (by simp; omega) (fun e => by have := (hown.lt b e.symm).2; omega), Below.heap_alloc _ _ _ (by omega)]
    · have : g' = g := by simpa [Value.ownBlock] using hg'.symm
      subst this
      rcases hatg with hg1 | hg1
      · exact .inl (hown.lt _ hg1).2
      · exact .inr (by omega)
  refine ⟨⟨xs ++ [.int .i64 s, .int .i64 v, .slice a2 (flen k) c2, .int .i64 s', .int .i64 v', .slice a2' (flen k') c2'], by rw [hl]; exact hown3, fun i y hy => ?_⟩, Below.grown (ha0.alloc blk) hgrow (by have := ha0.size; simp; omega) (fun q hq => by have := (hown.lt q hq).1; omega)⟩
  rw [hl]
  by_cases hi : i < es.length
  · rw [List.getElem?_append_left hi] at hy
    obtain ⟨a1, c1, b1, d1, ⟨e0, e1, e2, e3, e4, e5⟩, ⟨L, H, hsl, h1, h2, h3⟩, L', H', hsl', h1', h2', h3'⟩ := hall i y hy
    exact ⟨a1, c1, b1, d1, ⟨by rw [List.getElem?_append_left (by omega)]; exact e0, by rw [List.getElem?_append_left (by omega)]; exact e1, by rw [List.getElem?_append_left (by omega)]; exact e2, by rw [List.getElem?_append_left (by omega)]; exact e3, by rw [List.getElem?_append_left (by omega)]; exact e4, by rw [List.getElem?_append_left (by omega)]; exact e5⟩, hold hsl h1 h2 h3, hold hsl' h1' h2' h3'⟩
  · have hi' : i = es.length := by have := (List.getElem?_eq_some_iff.1 hy).1; omega
    subst hi'
    simp at hy
    subst hy
    refine ⟨a2, c2, a2', c2', ⟨?_, ?_, ?_, ?_, ?_, ?_⟩, hnew hl2, hnew hl2'⟩
    · rw [List.getElem?_append_right (by omega), hxl]; simp
    · rw [List.getElem?_append_right (by omega), hxl, show es.length * 6 + 1 - es.length * 6 = 1 from by omega]; rfl
    · rw [List.getElem?_append_right (by omega), hxl, show es.length * 6 + 2 - es.length * 6 = 2 from by omega]; rfl
    · rw [List.getElem?_append_right (by omega), hxl, show es.length * 6 + 3 - es.length * 6 = 3 from by omega]; rfl
    · rw [List.getElem?_append_right (by omega), hxl, show es.length * 6 + 4 - es.length * 6 = 4 from by omega]; rfl
    · rw [List.getElem?_append_right (by omega), hxl, show es.length * 6 + 5 - es.length * 6 = 5 from by omega]; rfl
theorem Try.infoEq : ∃ i, Try.prog.info? 63 = some i ∧ i.zero = some (.agg #[.int .i64 0, .int .i64 0, .slice none 0 0, .int .i64 0, .int .i64 0, .slice none 0 0]) ∧ i.size = 6 ∧ i.bytes = 80 := by
  have h : (Try.prog.info? 63).map (fun i => (i.zero, i.size, i.bytes)) = some (some (.agg #[.int .i64 0, .int .i64 0, .slice none 0 0, .int .i64 0, .int .i64 0, .slice none 0 0]), 6, 80) := by kernel_rfl
  obtain ⟨i, hi, hz⟩ := Option.map_eq_some_iff.1 h
  simp only [Prod.mk.injEq] at hz
  exact ⟨i, hi, hz.1, hz.2.1, hz.2.2⟩
end Go.Proofs.Ytdkcbbhkoibplaa

/-! LE2: l71Eqs, l71Any: drawn lists of equations. -/
namespace Go.Proofs.Ytdkcbbhkoibplaa
open Go.RowKit Go.Deep

/-- Valid, without marks. -/
def EqZ (x : Eqd) : Prop := okE x = true ∧ Zf x.1.2.2 ∧ Zf x.2.2.2
theorem eqz_of {s v s' v' : Int} {k k' : Fo} (h : OkZ s v k) (hz : fsz k < 16) (h' : OkZ s' v' k') (hz' : fsz k' < 16) : EqZ ((s, v, k), s', v', k') := by
  refine ⟨?_, h.2.2, h'.2.2⟩
  simp only [okE, okT3, Bool.and_eq_true]
  exact ⟨(okW_iff _ _ _ _).2 ⟨h.1, h.2.1, by omega⟩, (okW_iff _ _ _ _).2 ⟨h'.1, h'.2.1, by omega⟩⟩
def EqsPost (most br p : Nat) (w : World) (e : Ending) (w' : World) : Prop :=
  ∃ es A C p', e = .returned (.slice A (List.length es) C) ∧ 1 ≤ es.length ∧ es.length ≤ most ∧ (∀ x ∈ es, EqZ x) ∧ p ≤ p' ∧ p' ≤ p + (most + 1) * 101 ∧ Adv w br p' w' ∧ EOwn w' w.heap.size es A C

set_option maxRecDepth 100000 in
set_option maxHeartbeats 2000000 in
theorem l71Eqs_any (most br p : Nat) (w : World) (hr : Rd w br p) (hp : p ≤ 1000000) (hm1 : 1 ≤ most) (hm2 : most ≤ 10) :
    Calls Try.prog 88 #[.pointer (some ⟨br, 0, none⟩), .int .i64 (most : Int)] w (EqsPost most br p w) := by
  have hlt := hr.lt
  obtain ⟨ti, hti, htz, hts, htb⟩ := Try.infoEq
  have HTI : Hid (Try.prog.info? 63 = some ti ∧ ti.zero = some (.agg #[.int .i64 0, .int .i64 0, .slice none 0 0, .int .i64 0, .int .i64 0, .slice none 0 0]) ∧ ti.size = 6 ∧ ti.bytes = 80) := ⟨hti, htz, hts, htb⟩
  have HA0 : Hid (Adv w br p (w.alloc (.cells #[] 63))) := Adv.start hr ((Below.refl _ _).alloc (Nat.le_refl _) _)
  have HO0 : Hid (EOwn (w.alloc (.cells #[] 63)) w.heap.size [] (some ⟨w.heap.size, 0, none⟩) 0) := ⟨[], ⟨rfl, .inr ⟨w.heap.size, 0, #[], rfl, Nat.le_refl _, heap_alloc_new _ _, Nat.le_refl _, by decide, rfl, rfl⟩⟩, fun i x hx => by simp at hx⟩
  have HR := Lib.hid hr
  clear hr hti htz hts htb
  go_enter Try.func88, Try.ntmps88
  go_wp2_with fail
  with_reducible refine (pick_any (most : Int) br p _ (HA0.out.rd HR.out) (by omega) (by omega) (by omega)).mono ?_
  rintro e w1 ⟨y, rfl, hy, hb⟩
  have ha1 : Adv (w.alloc (.cells #[] 63)) br (p + 1) w1 := hb
  have hy1 : y < most := by omega
  have HA1 := Lib.hid (HA0.out.trans ha1)
  have HO1 := Lib.hid (HO0.out.adv ha1 hlt)
  clear hb ha1 hy HO0 HA0
  go_wp2_with fail
  go_loopw [5, 6] (fun t i wr => ∃ (n : Nat) (es : List Eqd) (A : Option Addr) (C p' : Nat), t = .slice A es.length C ∧ i = .int .i64 n ∧ n + es.length = y + 1 ∧ Hid (EOwn wr w.heap.size es A C) ∧ Hid (Adv w br p' wr) ∧ p + 1 ≤ p' ∧ p' ≤ p + 1 + es.length * 100 ∧ Hid (∀ x ∈ es, EqZ x)) (fun _ i _ => (intOf i).toNat)
  case atStart => exact ⟨y + 1, [], _, _, p + 1, rfl, by go_num, by simp, HO1, HA1, Nat.le_refl _, by simp, fun x hx => by simp at hx⟩
  case round =>
    clear HO1 HA1
    obtain ⟨n, es, A, C, p', rfl, rfl, hn, HO, HA, hp1, hp2, HZ⟩ := hrel
    by_cases hnv : 0 < n
    · have g1 : (0 : Int) < (n : Int) := by omega
      have HR1 := Lib.hid (HA.out.rd HR.out)
      go_wp2_with fail
      with_reducible refine (l71Eq_any br p' _ HR1.out (by omega)).mono ?_
      rintro e w2 ⟨s, v, a2, c2, k, s', v', a2', c2', k', p2, rfl, ok1, z1, ok2, z2, hpp1, hpp2, ha2, hl2, hl2'⟩
      obtain ⟨xs, hown, hall⟩ := HO.out
      have hs1 := HA.out.size
      have hs2 := ha2.size
      have HOWN2 : Hid (w2.ownsRow w.heap.size 63 6 (.slice A es.length C) es.length xs) := own_block hown fun g hg => by
        have h1 := hown.lt g hg
        exact ha2.same (lo := g) (B := g + 1) (by omega) (by omega) g (Nat.le_refl _) (by omega)
      have HAP := Lib.hid (fun g cap w3 => EOwn.append (w0 := w) (w2 := w2) (br := br) (p := p2) (k := k) (a2 := a2) (k' := k') (a2' := a2') (g := g) (cap := cap) (w3 := w3) (blk := .cells #[.int .i64 s, .int .i64 v, .slice a2 (flen k) c2, .int .i64 s', .int .i64 v', .slice a2' (flen k') c2'] 63) (s := s) (v := v) (c2 := c2) (s' := s') (v' := v') (c2' := c2') hown hall)
      have HA2 := Lib.hid ha2
      have HL2 := Lib.hid hl2
      have HL2' := Lib.hid hl2'
      have HA02 := Lib.hid (HA.out.trans ha2)
      have HZ2 : Hid (EqZ ((s, v, k), s', v', k')) := eqz_of ok1 z1 ok2 z2
      clear hown hall ha2 hl2 hl2' HO ok1 z1 ok2 z2
      go_wp2_with (at_builtin; refine wpList_append_lies _ rfl _ _ 38 rfl w.heap.size 63 ti _ 6 80 Try.underlying38 HTI.out.1 HTI.out.2.1 HTI.out.2.2.1 HTI.out.2.2.2 rfl (by omega) (.slice A es.length C) es.length xs rfl (HOWN2.out.alloc _) ⟨w2.heap.size, 0, none⟩ 1 1 [.int .i64 s, .int .i64 v, .slice a2 (flen k) c2, .int .i64 s', .int .i64 v', .slice a2' (flen k') c2'] rfl rfl (World.news_of_block (heap_alloc_new _ _)) (by simp [Value.oneCell']) (by omega) (by unfold maxLen; omega) (by omega) (by simp; omega) (w2.heap.size + 1) (by simp) ?_; intro g cap w3 hown3 hgrow3 hat3 hg3; have HX3 := Lib.hid (HAP.out g cap w3 hown3 HA2.out hlt HL2.out HL2'.out hs1 hgrow3 hat3 HA02.out (Nat.le_refl _)); clear hown3 hgrow3 hat3 hg3)
      go_roundw
      case rel =>
        have hl2' : (es ++ [(((s, v, k) : Tm3), s', v', k')]).length = es.length + 1 := by simp
        refine ⟨n - 1, es ++ [((s, v, k), s', v', k')], some ⟨g, 0, none⟩, cap, p2, by rw [hl2'], by go_num, by omega, HX3.out.1, HX3.out.2, by omega, by omega, ?_⟩
        intro x hx
        rcases List.mem_append.1 hx with hx | hx
        · exact HZ.out x hx
        · simp only [List.mem_singleton] at hx
          subst hx
          exact HZ2.out
      case measure => simp [intOf]; omega
    · obtain rfl : n = 0 := by omega
      go_wp2_with fail
      go_ret
      exact ⟨es, A, C, p', rfl, by omega, by omega, HZ.out, by omega, by omega, HA.out, HO.out⟩

def AnyPost (most br p : Nat) (w : World) (e : Ending) (w' : World) : Prop :=
  ∃ es A C p', e = .returned (.slice A (List.length es) C) ∧ 1 ≤ es.length ∧ es.length ≤ most ∧ (∀ x ∈ es, fsz x.1.2.2 ≤ 31000 ∧ fsz x.2.2.2 ≤ 31000) ∧ p ≤ p' ∧ p' ≤ p + 3000 ∧ Adv w br p' w' ∧ ESl w' w.heap.size w'.heap.size A es

theorem eqz_sz {x : Eqd} (h : EqZ x) : fsz x.1.2.2 ≤ 15 ∧ fsz x.2.2.2 ≤ 15 := by
  obtain ⟨h, _, _⟩ := h
  simp only [okE, okT3, Bool.and_eq_true, okW_iff] at h
  obtain ⟨⟨_, _, h1⟩, _, _, h2⟩ := h
  omega
/-- The first equation's second side is another one. -/
theorem EOwn.set0 {w w2 : World} {base br p : Nat} {x1 : Tm3} {s v s' v' : Int} {k k' : Fo} {r : List Eqd} {g C : Nat} {a2 : Option Addr} {c2 : Nat} (h : EOwn w base ((x1, s, v, k) :: r) (some ⟨g, 0, none⟩) C) (ha : Adv w br p w2) (hbr : br < base) (hl : Sl w2 w.heap.size w2.heap.size a2 k') (hbase : base ≤ w.heap.size) :
    ESl (((w2.setCell ⟨g, 3, none⟩ (.int .i64 s')).setCell ⟨g, 4, none⟩ (.int .i64 v')).setCell ⟨g, 5, none⟩ (.slice a2 (flen k') c2)) base w2.heap.size (some ⟨g, 0, none⟩) ((x1, s', v', k') :: r) := by
  obtain ⟨xs, hown, hall⟩ := h.adv ha hbr
  obtain ⟨xs0, hown0, _⟩ := h
  have hs := ha.size
  have hgl := hown0.lt g rfl
  have h1 := (hown.stored 3 (.int .i64 s')).1
  have h2 := (h1.stored 4 (.int .i64 v')).1
  have h3 := (h2.stored 5 (.slice a2 (flen k') c2)).1
  have hxl : xs.length = (r.length + 1) * 6 := by have := hown.1; simpa using this
  have hS : ∀ {L H : Nat} {a : Option Addr} {kk : Fo}, Sl w2 L H a kk → (g < L ∨ H ≤ g) → Sl (((w2.setCell ⟨g, 3, none⟩ (.int .i64 s')).setCell ⟨g, 4, none⟩ (.int .i64 v')).setCell ⟨g, 5, none⟩ (.slice a2 (flen k') c2)) L H a kk := fun {L H a kk} hsl hg => by
    have h0 : Same L H w2 w2 := fun _ _ _ => rfl
    exact hsl.same (((h0.setCell hg _).setCell hg _).setCell hg _)
  refine .inr ⟨g, 0, rfl, hgl.1, by omega, fun i y hy => ?_⟩
  have hi := (List.getElem?_eq_some_iff.1 hy).1
  simp only [List.length_cons] at hi
  have hc : ∀ m, m < (r.length + 1) * 6 → (((w2.setCell ⟨g, 3, none⟩ (.int .i64 s')).setCell ⟨g, 4, none⟩ (.int .i64 v')).setCell ⟨g, 5, none⟩ (.slice a2 (flen k') c2)).cell? ⟨g, m, none⟩ = (((xs.set 3 (.int .i64 s')).set 4 (.int .i64 v')).set 5 (.slice a2 (flen k') c2))[m]? := fun m hm => h3.cellAt m (by simp; omega)
  cases i with
  | zero =>
    simp at hy
    subst hy
    obtain ⟨a1, c1, b1, d1, ⟨e0, e1, e2, e3, e4, e5⟩, ⟨L, H, hsl, f1, f2, f3⟩, _⟩ := hall 0 _ rfl
    refine ⟨a1, c1, a2, c2, ?_, ?_, ?_, ?_, ?_, ?_, (hS hsl (f3 g rfl)).mono f1 f2, (hS hl (.inl hgl.2)).mono (by omega) (Nat.le_refl _)⟩
    · rw [hc _ (by omega), List.getElem?_set_ne (by omega), List.getElem?_set_ne (by omega), List.getElem?_set_ne (by omega)]; exact e0
    · rw [hc _ (by omega), List.getElem?_set_ne (by omega), List.getElem?_set_ne (by omega), List.getElem?_set_ne (by omega)]; exact e1
    · rw [hc _ (by omega), List.getElem?_set_ne (by omega), List.getElem?_set_ne (by omega), List.getElem?_set_ne (by omega)]; exact e2
    · rw [hc _ (by omega), List.getElem?_set_ne (by omega), List.getElem?_set_ne (by omega)]; exact List.getElem?_set_self (by omega)
    · rw [hc _ (by omega), List.getElem?_set_ne (by omega)]; exact List.getElem?_set_self (by simp; omega)
    · rw [hc _ (by omega)]; exact List.getElem?_set_self (by simp; omega)
  | succ n =>
    obtain ⟨a1, c1, b1, d1, ⟨e0, e1, e2, e3, e4, e5⟩, ⟨L, H, hsl, f1, f2, f3⟩, L', H', hsl', f1', f2', f3'⟩ := hall (n + 1) y (by simpa using hy)
    refine ⟨a1, c1, b1, d1, ?_, ?_, ?_, ?_, ?_, ?_, (hS hsl (f3 g rfl)).mono f1 f2, (hS hsl' (f3' g rfl)).mono f1' f2'⟩
    · rw [hc _ (by omega), List.getElem?_set_ne (by omega), List.getElem?_set_ne (by omega), List.getElem?_set_ne (by omega), Nat.zero_add]; exact e0
    · rw [hc _ (by omega), List.getElem?_set_ne (by omega), List.getElem?_set_ne (by omega), List.getElem?_set_ne (by omega), Nat.zero_add]; exact e1
    · rw [hc _ (by omega), List.getElem?_set_ne (by omega), List.getElem?_set_ne (by omega), List.getElem?_set_ne (by omega), Nat.zero_add]; exact e2
    · rw [hc _ (by omega), List.getElem?_set_ne (by omega), List.getElem?_set_ne (by omega), List.getElem?_set_ne (by omega), Nat.zero_add]; exact e3
    · rw [hc _ (by omega), List.getElem?_set_ne (by omega), List.getElem?_set_ne (by omega), List.getElem?_set_ne (by omega), Nat.zero_add]; exact e4
    · rw [hc _ (by omega), List.getElem?_set_ne (by omega), List.getElem?_set_ne (by omega), List.getElem?_set_ne (by omega), Nat.zero_add]; exact e5
end Go.Proofs.Ytdkcbbhkoibplaa
