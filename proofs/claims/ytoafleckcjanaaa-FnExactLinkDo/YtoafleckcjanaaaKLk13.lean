/- Several texts in one: RFp, WI, WJ0, WK0, S7. -/
import Derived.Test.YtoafleckcjanaaaKLk12
import Derived.Test.YtoafleckcjanaaaKLk6
import Derived.Test.YtoafleckcjanaaaKLk8
import Derived.Deep.AppendLies

/-! RFp: Rows of rows: one row written over. -/
namespace Go.Proofs.Ytoafleckcjanaaa
open Go.RowKit Go.Deep

theorem own_block {W w2 : World} {base : Nat} {e : TypeId} {size : Nat} {v : Value} {n : Nat} {xs : List Value} (h : W.ownsRow base e size v n xs) (hs : ∀ g, v.ownBlock = some g → w2.heap[g]? = W.heap[g]?) : w2.ownsRow base e size v n xs := by
  refine ⟨h.1, ?_⟩
  rcases h.2 with h2 | ⟨g, cap, cur, h3, h4, h5, h6⟩
  · exact .inl h2
  · exact .inr ⟨g, cap, cur, h3, h4, by rw [hs g (by rw [h3]; rfl)]; exact h5, h6⟩

/-- Row j has been written over. -/
theorem RF.mark {w w2 : World} {base : Nat} {cur : List (List Int)} {A : Option Addr} {C : Nat} {xs : List Value} {lo hi : Nat → Nat} {j : Nat} {r r2 : List Int} {a : Option Addr} {c : Nat} (h : RF w base cur A C xs lo hi) (hr : cur[j]? = some r) (hx : xs[j]? = some (Value.slice a r.length c))
    (hl : r2.length = r.length) (hown : IOwn w2 (lo j) r2 a c) (hg : w.grownBy w2 (Value.slice a r.length c).ownBlock) : RF w2 base (cur.set j r2) A C xs lo hi := by
  have hj := (List.getElem?_eq_some_iff.1 hr).1
  obtain ⟨a', c', hx', hw, h1, h2, h3⟩ := h.at_ j r hr
  rw [hx] at hx'
  simp only [Option.some.injEq, Value.slice.injEq] at hx'
  obtain ⟨rfl, _, rfl⟩ := hx'
  have hs := hg.size
  have hb : ∀ g, (Value.slice a r.length c).ownBlock = some g → lo j ≤ g ∧ g < hi j := fun g hgg => ⟨(hw.own.lt g hgg).1, hw.hi g hgg⟩
  refine ⟨?_, fun i k hik hk => h.up i k hik (by rwa [List.length_set] at hk), fun i r' hr' => ?_⟩
  · rw [List.length_set]
    refine own_block h.own fun g hgg => hg.block g (h.own.lt g hgg).2 fun e => ?_
    have := h3 g hgg
    have := hb g e.symm
    omega
  · rw [List.length_set]
    by_cases e : i = j
    · subst e
      rw [List.getElem?_set_self hj] at hr'
      obtain rfl := Option.some.inj hr'
      exact ⟨a, c, by rw [hl]; exact hx, ⟨hown, by rw [hl]; exact hw.hi⟩, h1, by omega, h3⟩
    · rw [List.getElem?_set_ne (fun h => e h.symm)] at hr'
      obtain ⟨a', c', gx, gw, g1, g2, g3⟩ := h.at_ i r' hr'
      refine ⟨a', c', gx, gw.same (fun b hb1 hb2 => hg.block b (by omega) fun eb => ?_), g1, by omega, g3⟩
      have := hb b eb.symm
      have hi' := (List.getElem?_eq_some_iff.1 hr').1
      rcases Nat.lt_or_gt_of_ne e with hij | hij
      · have := h.up i j hij hj; omega
      · have := h.up j i hij hi'; omega
end Go.Proofs.Ytoafleckcjanaaa

/-! WI: l71Bad. -/
namespace Go.Proofs.Ytoafleckcjanaaa
open Go.RowKit Go.Deep
attribute [local go_sem ↓] Go.wp_at_zero Go.wp_at_succ

theorem l1Count_n (N : Nat) (s v : Int) (a : Option Addr) (c : Nat) (k : Fo) (most : Int) (w : World) (n : Nat) (hn : flen k = n) (hl : Sl w 0 w.heap.size a k) (h1 : -1000 ≤ most) (h2 : most ≤ 1000) (h3 : most ≤ N) :
    Calls Try.prog 86 #[.agg #[.int .i64 s, .int .i64 v, .slice a n c], .int .i64 most] w fun e w' => e = .returned (.int .i64 (cntT s v k most)) ∧ Below w.heap.size w w' := by
  subst hn
  exact l1Count_any N s v a c k most w hl h1 h2 h3

/-- What holds at the head of the loop that doubles. -/
def BadLoop (w : World) (br p S j : Nat) (wr : World) : Prop :=
  ∃ s v A C k, BadAt w br p s v A (flen k) C wr ∧ Sl wr (w.heap.size + 2) wr.heap.size A k ∧ fsz k + 2 ≤ (S + 1) * 2 ^ j
theorem bad_size {n S j : Nat} (h : n + 2 ≤ (S + 1) * 2 ^ j) (hj : j ≤ 8) (hS : 1 ≤ S) : 1 + n ≤ 1000 * S := by
  have h2 : 2 ^ j ≤ 2 ^ 8 := Nat.pow_le_pow_right (by omega) hj
  have h3 : (S + 1) * 2 ^ j ≤ (S + 1) * 256 := Nat.mul_le_mul (Nat.le_refl _) h2
  omega

set_option maxRecDepth 100000 in
set_option maxHeartbeats 1000000 in
theorem l71Bad_any (s v : Int) (a : Option Addr) (c : Nat) (k : Fo) (br p S : Nat) (w : World) (hl : Sl w 0 w.heap.size a k) (hr : Rd w br p) (hp : p ≤ 100000000) (hS : 1 + fsz k ≤ S) (hS2 : S ≤ 1000) :
    Calls Try.prog 90 #[.pointer (some ⟨br, 0, none⟩), .agg #[.int .i64 s, .int .i64 v, .slice a (flen k) c]] w (DrawnPost br p 2 (1000 * S) w) := by
  have hlt := hr.lt
  have hfl := flen_le_sz k
  have HR := Lib.hid hr
  clear hr
  go_enter Try.func90, Try.ntmps90
  go_wp2_with fail
  with_reducible refine (l1Copy_any (fsz k) s v a c k _ ?_ (Nat.le_refl _) ?_).mono ?_
  · exact (hl.below (((Below.refl _ _).alloc (Nat.le_refl _) _).alloc (by simp) _)).mono (Nat.le_refl _) (by simp; omega)
  · omega
  rintro e w1 ⟨a1, c1, rfl, hb1, hown1⟩
  have hat := (BadAt.start HR.out s v a (flen k) c).more hlt hb1
  have ht0 := hat.t0
  have ht1 := hat.t1
  have ht2 := hat.t2
  have hf0 := hat.f0
  have hf1 := hat.f1
  have hf2 := hat.f2
  have HAT := Lib.hid (((hat.set0 hlt s).set1 hlt v).set2 hlt (A' := a1) (n' := flen k) (C' := c1))
  have HOWN : Hid (Own w1 (w.heap.size + 2) k (flen k) a1 c1) := hown1.low (Below.refl _ _) (by simp)
  clear hb1 hown1 hat
  go_wp2_with fail
  with_reducible refine (pick_any 6 br p _ HAT.out.rd (by omega) (by omega) (by omega)).mono ?_
  rintro e w2 ⟨x, rfl, hx, hb2⟩
  have ha2 : Adv _ br (p + 1) w2 := hb2
  have HAT2 := Lib.hid (HAT.out.call hlt ha2)
  have HOWN2 := Lib.hid ((((HOWN.out.store (by simp) (.int .i64 s) (q := ⟨w.heap.size, 0, none⟩)).store (by simp) (.int .i64 v) (q := ⟨w.heap.size, 1, none⟩)).store (by simp) (.slice a1 (flen k) c1) (q := ⟨w.heap.size, 2, none⟩)).adv ha2 (by omega))
  clear ht0 ht1 ht2 hf0 hf1 hf2 hb2 ha2 HAT HOWN
  by_cases hx0 : x = 0
  · subst hx0
    go_wp2_with fail
    with_reducible refine (pick_any 8 br (p + 1) _ HAT2.out.rd (by omega) (by omega) (by omega)).mono ?_
    rintro e w3 ⟨y, rfl, hy, hb3⟩
    have ha3 : Adv w2 br (p + 1 + 1) w3 := hb3
    have HAT3 := Lib.hid (HAT2.out.call hlt ha3)
    have HOWN3 := Lib.hid (HOWN2.out.adv ha3 (by omega))
    clear hb3 ha3
    have ht0 := HAT3.out.t0
    have ht1 := HAT3.out.t1
    have ht2 := HAT3.out.t2
    have hf0 := HAT3.out.f0
    have hf1 := HAT3.out.f1
    have hf2 := HAT3.out.f2
    have hr0 := HAT3.out.r0
    have hr1 := HAT3.out.r1
    have hr2 := HAT3.out.r2
    have hg0 := HAT3.out.g0
    have hg1 := HAT3.out.g1
    have hg2 := HAT3.out.g2
    have hy8 : (y : Int) < 8 := by omega
    go_wp2_with fail
    refine bodyPost_ret (v := .agg #[.int .i64 ((y : Int) - 1), .int .i64 v, .slice a1 (flen k) c1]) ?_ rfl ((HAT3.out.set0 hlt _).done (by omega) (by omega) (by omega) (HOWN3.out.store (by simp) _).sl)
    simp [results, Try.results90, go_sem, hr0, hr1, hr2]
  have x0 : ((x : Int) == 0) = false := by simpa using hx0
  by_cases hx1 : x = 1
  · subst hx1
    go_wp2_with fail
    with_reducible refine (pick_any 3 br (p + 1) _ (HAT2.out.rd.alloc _) (by omega) (by omega) (by omega)).mono ?_
    rintro e w3 ⟨y, rfl, hy, hb3⟩
    have ha3 : Adv (w2.alloc (.cells #[.int .i64 (-1), .int .i64 12, .int .i64 1] 3)) br (p + 1 + 1) w3 := hb3
    have hsz2 := HAT2.out.size
    have HAT3 := Lib.hid ((HAT2.out.more hlt ((Below.refl _ _).alloc (Nat.le_refl _) _)).call hlt ha3)
    have HOWN3 := Lib.hid ((HOWN2.out.low ((Below.refl _ _).alloc (Nat.le_refl _) _) (Nat.le_refl _)).adv ha3 (by omega))
    have hc0 := ha3.cell (q := ⟨w2.heap.size, 0, none⟩) (v := .int .i64 (-1)) (by simp) (by simp; omega)
    have hc1 := ha3.cell (q := ⟨w2.heap.size, 1, none⟩) (v := .int .i64 12) (by simp) (by simp; omega)
    have hc2 := ha3.cell (q := ⟨w2.heap.size, 2, none⟩) (v := .int .i64 1) (by simp) (by simp; omega)
    clear hb3 ha3
    have ht0 := HAT3.out.t0
    have ht1 := HAT3.out.t1
    have ht2 := HAT3.out.t2
    have hf0 := HAT3.out.f0
    have hf1 := HAT3.out.f1
    have hf2 := HAT3.out.f2
    have hr0 := HAT3.out.r0
    have hr1 := HAT3.out.r1
    have hr2 := HAT3.out.r2
    have hg0 := HAT3.out.g0
    have hg1 := HAT3.out.g1
    have hg2 := HAT3.out.g2
    have hy3 : y = 0 ∨ y = 1 ∨ y = 2 := by omega
    rcases hy3 with rfl | rfl | rfl
    · go_wp2_with fail
      refine bodyPost_ret (v := .agg #[.int .i64 s, .int .i64 (-1), .slice a1 (flen k) c1]) ?_ rfl ((HAT3.out.set1 hlt _).done (by omega) (by omega) (by omega) (HOWN3.out.store (by simp) _).sl)
      simp [results, Try.results90, go_sem, hr0, hr1, hr2]
    · go_wp2_with fail
      refine bodyPost_ret (v := .agg #[.int .i64 s, .int .i64 12, .slice a1 (flen k) c1]) ?_ rfl ((HAT3.out.set1 hlt _).done (by omega) (by omega) (by omega) (HOWN3.out.store (by simp) _).sl)
      simp [results, Try.results90, go_sem, hr0, hr1, hr2]
    · go_wp2_with fail
      refine bodyPost_ret (v := .agg #[.int .i64 s, .int .i64 1, .slice a1 (flen k) c1]) ?_ rfl ((HAT3.out.set1 hlt _).done (by omega) (by omega) (by omega) (HOWN3.out.store (by simp) _).sl)
      simp [results, Try.results90, go_sem, hr0, hr1, hr2]
  have x1 : ((x : Int) == 1) = false := by simp; omega
  by_cases hx2 : x = 2
  · subst hx2
    have ht2 := HAT2.out.t2
    have hf2 := HAT2.out.f2
    have hsz2 := HAT2.out.size
    have hu0 : ∀ u : After (w.heap.size + 2) w2, u.world.cell? ⟨w.heap.size, 2, none⟩ = some (.slice a1 (flen k) c1) := fun u => u.cell (by simp) ht2
    obtain ⟨ti, hti, htz, hts, htb⟩ := Try.infoTerm
    obtain ⟨xs, hown, hall⟩ := HOWN2.out
    have HTI := Lib.hid hti
    have HTZ := Lib.hid htz
    have HTS := Lib.hid hts
    have HTB := Lib.hid htb
    have HOWN := Lib.hid hown
    have HALL := Lib.hid hall
    have HLT : Hid (∀ g, (Value.slice a1 (flen k) c1).ownBlock = some g → w.heap.size + 2 ≤ g) := fun g hg => (hown.lt g hg).1
    clear hti htz hts htb hown hall
    go_wp2_with fail
    refine wp_region_mix (fun w' => ∃ u : After (w.heap.size + 2) w2, w' = u.world) [5, 6] [(0, 0), (1, 0), (2, 1), (3, 1), (4, 1), (5, 2), (6, 2)] (by kernel_rfl) (by kernel_rfl) ⟨⟨_, (Below.refl _ _).drew⟩, rfl⟩ ?_
    iterate 2
      refine mix_see rfl (fun K hK => ?_)
      go_simp
      refine hK _ ?_
      clear hK K
    clear hu0
    refine mix_hold rfl (fun K hK => ?_)
    go_simp
    with_reducible refine (l71Of_any 1 none 0 0 _).mono ?_
    rintro e w3 ⟨rfl, hb3'⟩
    have hb3 : Below w2.heap.size w2 w3 := bl_undrew hb3'
    have hs3 := hb3.size
    refine hK _ _ ⟨⟨_, hb3.mono (by omega)⟩, rfl⟩ ?_
    clear hK K hb3'
    refine mix_hold rfl (fun K hK => ?_)
    go_simp
    refine hK _ _ ⟨⟨_, (hb3.mono (by omega)).alloc (by omega) _⟩, rfl⟩ ?_
    clear hK K
    refine mix_hold rfl (fun K hK => ?_)
    refine step_append_lies _ (by rfl) _ _ _ (by rfl) (w.heap.size + 2) 35 ti _ 3 40 Try.underlying33 HTI.out HTZ.out HTS.out HTB.out rfl (by omega) (.slice a1 (flen k) c1) (flen k) xs (by rfl) (own_low ((Below.refl _ _).alloc (Nat.le_refl _) _) (own_low hb3 HOWN.out)) ⟨w3.heap.size, 0, none⟩ 1 1 [.int .i64 1, .int .i64 0, .slice none (flen .nil) 0] (by rfl) (by rfl) (World.news_of_block (heap_alloc_new _ _)) (by simp [Value.oneCell']) (by omega) (by unfold maxLen; omega) (by omega) (by simp; omega) (w3.heap.size + 1) (by simp) ?_
    intro g cap w4 hown4 hgrow hatg hg4
    have hlow : Below (w.heap.size + 2) w2 w4 := ((hb3.mono (by omega)).alloc (by omega) _).grown hgrow (by simp; omega) HLT.out
    have hz2 : w4.cell? ⟨w.heap.size, 2, none⟩ = some (.slice a1 (flen k) c1) := by rw [hlow.cell (by simp)]; exact ht2
    have hz3 : w4.frozen? ⟨w.heap.size, 2, none⟩ = false := by rw [hlow.frozen (by simp)]; exact hf2
    have hown5 : Own w4 (w.heap.size + 2) (fsnoc k (1, 0)) (flen k + 1) (some ⟨g, 0, none⟩) cap := by
      refine Own.append (k := fsnoc k (1, 0)) (kk := .nil) ⟨xs, HOWN.out, hown4, fun i hi => ?_⟩ hb3 (.inl rfl) (by omega) (fdrop_snoc_end (1, 0) k) hgrow hatg
      obtain ⟨x, y, s', v', kk, a', c', L, H, e, h0, h1, h2, hs, hL, hH, hg⟩ := HALL.out i hi
      exact ⟨x, y, s', v', kk, a', c', L, H, fdrop_snoc _ i k e, h0, h1, h2, hs, hL, hH, hg⟩
    have hat4 : BadAt w br (p + 1) s v a1 (flen k) c1 w4 := HAT2.out.keep hlt hlow (by have := hgrow.size; simp at this; omega)
    have HOWN5 := Lib.hid hown5
    have HAT4 := Lib.hid (hat4.set2 hlt (A' := some ⟨g, 0, none⟩) (n' := flen k + 1) (C' := cap))
    refine hK _ _ ⟨⟨_, hlow⟩, rfl⟩ ?_
    clear hK K hown4 hgrow hatg hown5
    refine mix_late rfl (fun K hK => ?_)
    go_simp
    refine hK _ _ ?_
    clear hK K
    refine mix_late rfl (fun K hK => ?_)
    go_simp
    refine hK _ _ ?_
    clear hK K
    refine mix_end ?_
    clear hz2 hz3 ht2 hf2
    have ht0 := HAT4.out.t0
    have ht1 := HAT4.out.t1
    have ht2 := HAT4.out.t2
    have hf0 := HAT4.out.f0
    have hf1 := HAT4.out.f1
    have hf2 := HAT4.out.f2
    have hr0 := HAT4.out.r0
    have hr1 := HAT4.out.r1
    have hr2 := HAT4.out.r2
    have hg0 := HAT4.out.g0
    have hg1 := HAT4.out.g1
    have hg2 := HAT4.out.g2
    have hkl := flen_snoc (1, 0) k
    have HKL := Lib.hid hkl
    have hks := fsz_snoc (1, 0) k
    have HKS := Lib.hid hks
    clear hkl hks
    go_wp2_with fail
    refine bodyPost_ret (v := .agg #[.int .i64 s, .int .i64 v, .slice (some ⟨g, 0, none⟩) (flen (fsnoc k (1, 0))) cap]) ?_ rfl (BadAt.done (k := fsnoc k (1, 0)) (by rw [HKL.out]; exact HAT4.out) (by omega) (by omega) (by rw [HKS.out]; omega) (Own.sl (by rw [HKL.out]; exact HOWN5.out.store (by simp) _)))
    rw [HKL.out]
    simp [results, Try.results90, go_sem, hr0, hr1, hr2]
  have x2 : ((x : Int) == 2) = false := by simp; omega
  by_cases hx3 : x = 3
  · subst hx3
    have HST : Hid (BadLoop w br (p + 1) S 0 w2) := ⟨s, v, a1, c1, k, HAT2.out, HOWN2.out.sl, by omega⟩
    clear HAT2 HOWN2
    go_wp2_with fail
    go_loopw [5] (fun i wr => ∃ j : Nat, j ≤ 8 ∧ i = .int .i64 j ∧ BadLoop w br (p + 1) S j wr) (fun i _ => 8 - (intOf i).toNat)
    case atStart => exact ⟨0, by omega, rfl, HST.out⟩
    case round =>
      clear HST
      obtain ⟨j, hj, rfl, s1, v1, A1, C1, k1, hat, hsl, hbd⟩ := hrel
      have ht0 := hat.t0
      have ht1 := hat.t1
      have ht2 := hat.t2
      have hf0 := hat.f0
      have hf1 := hat.f1
      have hf2 := hat.f2
      have hr0 := hat.r0
      have hr1 := hat.r1
      have hr2 := hat.r2
      have hg0 := hat.g0
      have hg1 := hat.g1
      have hg2 := hat.g2
      have hsz1 := hat.size
      by_cases hlt8 : j < 8
      · have HAT1 := Lib.hid hat
        have HL1 := Lib.hid (kid2 (T := 35) (s := s1) (v := v1) (c := C1) (s' := s1) (v' := v1) (c' := C1) hsl hsl hsz1)
        have HBD := Lib.hid hbd
        clear hat hsl hbd
        go_wp2_with fail
        with_reducible refine (l71Of_any 4 _ 2 2 _).mono ?_
        rintro e w3 ⟨rfl, hb3⟩
        have hat3 := (HAT1.out.more hlt ((Below.refl _ _).alloc (Nat.le_refl _) _)).more hlt hb3
        have hl3 := HL1.out.low hb3
        have hs3 := hat3.size
        have hat4 := ((hat3.set0 hlt 4).set1 hlt 0).set2 hlt (A' := some ⟨wr.heap.size, 0, none⟩) (n' := flen (.node 0 0 (s1, v1) k1 (.node 0 0 (s1, v1) k1 .nil))) (C' := 2)
        have hl4 := ((hl3.store (q := ⟨w.heap.size, 0, none⟩) (by simp) (.int .i64 4)).store (q := ⟨w.heap.size, 1, none⟩) (by simp) (.int .i64 0)).store (q := ⟨w.heap.size, 2, none⟩) (by simp) (.slice (some ⟨wr.heap.size, 0, none⟩) 2 2)
        have hbd4 : fsz (.node 0 0 (s1, v1) k1 (.node 0 0 (s1, v1) k1 .nil)) + 2 ≤ (S + 1) * 2 ^ (j + 1) := by
          have := HBD.out
          rw [Nat.pow_succ, ← Nat.mul_assoc]
          simp only [fsz]
          omega
        clear ht0 ht1 ht2 hf0 hf1 hf2 hr0 hr1 hr2 hg0 hg1 hg2
        have ht0 := hat3.t0
        have ht1 := hat3.t1
        have ht2 := hat3.t2
        have hf0 := hat3.f0
        have hf1 := hat3.f1
        have hf2 := hat3.f2
        have HAT4 := Lib.hid hat4
        have HL4 := Lib.hid hl4
        have HBD4 := Lib.hid hbd4
        clear hat3 hl3 hat4 hl4 hbd4 hb3
        go_wp2_with fail
        with_reducible refine (l1Count_n 60 4 0 (some ⟨wr.heap.size, 0, none⟩) 2 (.node 0 0 (s1, v1) k1 (.node 0 0 (s1, v1) k1 .nil)) 60 _ 2 rfl ?_ ?_ ?_ ?_).mono ?_
        · exact HL4.out.mono (Nat.zero_le _) (by simp)
        · omega
        · omega
        · omega
        rintro e w4 ⟨rfl, hb4⟩
        have hat5 := HAT4.out.more hlt hb4
        have hl5 := (HL4.out.mono (Nat.le_refl _) (show _ ≤ _ by simp)).low hb4
        clear ht0 ht1 ht2 hf0 hf1 hf2
        by_cases hcnt : 60 < cntT 4 0 (.node 0 0 (s1, v1) k1 (.node 0 0 (s1, v1) k1 .nil)) 60
        · have ht0 := hat5.t0
          have ht1 := hat5.t1
          have ht2 := hat5.t2
          have hf0 := hat5.f0
          have hf1 := hat5.f1
          have hf2 := hat5.f2
          have hr0 := hat5.r0
          have hr1 := hat5.r1
          have hr2 := hat5.r2
          have hg0 := hat5.g0
          have hg1 := hat5.g1
          have hg2 := hat5.g2
          have HAT5 := Lib.hid hat5
          have HL5 := Lib.hid hl5
          clear hat5 hl5 hb4
          go_wp2_with fail
          refine bodyPost_ret (v := .agg #[.int .i64 4, .int .i64 0, .slice (some ⟨wr.heap.size, 0, none⟩) 2 2]) ?_ rfl (HAT5.out.done (by omega) (by omega) (bad_size HBD4.out (by omega) (by omega)) HL5.out)
          simp [results, Try.results90, go_sem, hr0, hr1, hr2, flen]
        · have HREL : Hid (BadLoop w br (p + 1) S (j + 1) w4) := ⟨4, 0, _, 2, _, hat5, hl5, HBD4.out⟩
          clear hat5 hl5 hb4
          go_wp2_with fail
          go_roundw
          case rel => exact ⟨j + 1, by omega, by go_num, HREL.out⟩
          case measure => simp [intOf]; omega
      · have HAT1 := Lib.hid hat
        have HL1 := Lib.hid hsl
        have HBD := Lib.hid hbd
        clear hat hsl hbd
        go_wp2_with fail
        refine bodyPost_ret (v := .agg #[.int .i64 s1, .int .i64 v1, .slice A1 (flen k1) C1]) ?_ rfl (HAT1.out.done (by omega) (by omega) (bad_size HBD.out (by omega) (by omega)) HL1.out)
        simp [results, Try.results90, go_sem, hr0, hr1, hr2]
  have x3 : ((x : Int) == 3) = false := by simp; omega
  have ht0 := HAT2.out.t0
  have ht1 := HAT2.out.t1
  have ht2 := HAT2.out.t2
  have hf0 := HAT2.out.f0
  have hf1 := HAT2.out.f1
  have hf2 := HAT2.out.f2
  have hr0 := HAT2.out.r0
  have hr1 := HAT2.out.r1
  have hr2 := HAT2.out.r2
  have hg0 := HAT2.out.g0
  have hg1 := HAT2.out.g1
  have hg2 := HAT2.out.g2
  cases hk : k with
  | nil =>
    subst hk
    go_wp2_with fail
    refine bodyPost_ret (v := .agg #[.int .i64 s, .int .i64 v, .slice a1 (flen .nil) c1]) ?_ rfl (HAT2.out.done (by omega) (by omega) (by omega) HOWN2.out.sl)
    simp [results, Try.results90, go_sem, hr0, hr1, hr2]
  | node x' y' pk kk r =>
    subst hk
    have hpos : 0 < flen (.node x' y' pk kk r) := by simp [flen]
    obtain ⟨g, rfl, hgb, hgl, ⟨u0, hu0⟩, ⟨u1, hu1⟩, ⟨u2, hu2⟩, hz0, hz1, hz2⟩ := own_first HOWN2.out hpos
    have hne : g ≠ w.heap.size := by omega
    have hne1 : g ≠ w.heap.size + 1 := by omega
    have HSL := Lib.hid (own_put0 HOWN2.out 3 0)
    have HATF := Lib.hid (((HAT2.out.far hlt (q := ⟨g, 0, none⟩) hgb (.int .i64 3)).far hlt (q := ⟨g, 1, none⟩) hgb (.int .i64 0)).far hlt (q := ⟨g, 2, none⟩) hgb (.slice none 0 0))
    have hn : flen (.node x' y' pk kk r) = flen r + 1 := rfl
    have HN := Lib.hid hn
    clear hn
    have hS1 : 1 + fsz (BT.node 0 0 ((3 : Int), (0 : Int)) BT.nil r) ≤ 1000 * S := by
      have h3 : fsz (BT.node 0 0 ((3 : Int), (0 : Int)) BT.nil r) = fsz r + 1 := by simp [fsz]
      have h4 : fsz r + 1 ≤ fsz (.node x' y' pk kk r) := by simp only [fsz]; omega
      omega
    have hq0 := HATF.out.r0
    have hq1 := HATF.out.r1
    have hq2 := HATF.out.r2
    go_wp2_with fail
    refine bodyPost_ret (v := .agg #[.int .i64 s, .int .i64 v, .slice (some ⟨g, 0, none⟩) (flen (.node 0 0 (3, 0) .nil r)) c1]) ?_ rfl (BadAt.done (k := .node 0 0 (3, 0) .nil r) HATF.out (by omega) (by omega) hS1 (by simpa using HSL.out))
    simp [results, Try.results90, go_sem, hq0, hq1, hq2, flen]
end Go.Proofs.Ytoafleckcjanaaa

/-! WJ0: What the drawn functions of one term end with. -/
namespace Go.Proofs.Ytoafleckcjanaaa
open Go.RowKit Go.Deep

/-- A term of at most that size is handed back, in new memory. -/
def TermPost (S : Nat) (w : World) (e : Ending) (w' : World) : Prop :=
  ∃ s v a c k, e = .returned (.agg #[.int .i64 s, .int .i64 v, .slice a (flen k) c]) ∧ 1 + fsz k ≤ S ∧ Below w.heap.size w w' ∧ Sl w' w.heap.size w'.heap.size a k

theorem adv_low {w w1 w2 : World} {n br p : Nat} (hb : Below n w w1) (h1 : n ≤ br) (h2 : n ≤ w1.heap.size) (ha : Adv w1 br p w2) : Below n w w2 :=
  (hb.setCell (p := ⟨br, 1, none⟩) (by simpa using h1) (.int .i64 p)).trans (Below.mono ha h2)

/-- The result's cells, laid at the call's head, in a later world. -/
theorem res_low {w w2 : World} {x y z : Value} {T : TypeId} (hb : Below (w.heap.size + 1) (w.alloc (.cells #[x, y, z] T)) w2) :
    w2.cell? ⟨w.heap.size, 0, none⟩ = some x ∧ w2.cell? ⟨w.heap.size, 1, none⟩ = some y ∧ w2.cell? ⟨w.heap.size, 2, none⟩ = some z ∧
      w2.frozen? ⟨w.heap.size, 0, none⟩ = false ∧ w2.frozen? ⟨w.heap.size, 1, none⟩ = false ∧ w2.frozen? ⟨w.heap.size, 2, none⟩ = false := by
  refine ⟨?_, ?_, ?_, ?_, ?_, ?_⟩
  iterate 3
    · rw [hb.cell (by simp)]; simp
  iterate 3
    · rw [hb.frozen (by simp)]; simp
theorem term_end {w w2 : World} {S : Nat} {s v : Int} {a : Option Addr} {c : Nat} {k : Fo} {o : Obj} {x y z : Value} (hb : Below (w.heap.size + 1) (w.alloc o) w2) (hS : 1 + fsz k ≤ S) (hl : Sl w2 (w.heap.size + 1) w2.heap.size a k) :
    TermPost S w (.returned (.agg #[.int .i64 s, .int .i64 v, .slice a (flen k) c])) (((w2.setCell ⟨w.heap.size, 0, none⟩ x).setCell ⟨w.heap.size, 1, none⟩ y).setCell ⟨w.heap.size, 2, none⟩ z) := by
  refine ⟨s, v, a, c, k, rfl, hS, (((after_top hb).setCell (by simp) _).setCell (by simp) _).setCell (by simp) _, ?_⟩
  exact (((hl.store (q := ⟨w.heap.size, 0, none⟩) (by simp) x).store (q := ⟨w.heap.size, 1, none⟩) (by simp) y).store (q := ⟨w.heap.size, 2, none⟩) (by simp) z).mono (by omega) (by simp)

theorem Bytes.alloc {w : World} {a : Option Addr} {len : Nat} (h : Bytes w a len) (o : Obj) : Bytes (w.alloc o) a len := by
  rcases h with h | ⟨b, o', e, hb, h⟩
  · exact .inl h
  · refine .inr ⟨b, o', e, by simp; omega, fun i hi => ?_⟩
    obtain ⟨x, hx, hc⟩ := h i hi
    exact ⟨x, hx, by rw [World.cell?_alloc_lt _ _ _ hb]; exact hc⟩
end Go.Proofs.Ytoafleckcjanaaa

/-! WK0: - l71Some. -/
namespace Go.Proofs.Ytoafleckcjanaaa
open Go.RowKit Go.Deep

end Go.Proofs.Ytoafleckcjanaaa

/-! S7: l71Subst. -/
namespace Go.Proofs.Ytoafleckcjanaaa
open Go.RowKit Go.Deep

/-- The slice is a row of binds of the call's own; no term lies in the row's own block. -/
def BOwn (w : World) (base : Nat) (bs : List Bd) (A : Option Addr) (C : Nat) : Prop :=
  ∃ xs, w.ownsRow base 124 4 (.slice A bs.length C) bs.length xs ∧ ∀ (i : Nat) (x : Bd), bs[i]? = some x → ∃ a' c' L H, xs[i * 4]? = some (.int .i64 x.1) ∧ xs[i * 4 + 1]? = some (.int .i64 x.2.1) ∧ xs[i * 4 + 2]? = some (.int .i64 x.2.2.1) ∧ xs[i * 4 + 3]? = some (.slice a' (flen x.2.2.2) c') ∧
    Sl w L H a' x.2.2.2 ∧ base ≤ L ∧ H ≤ w.heap.size ∧ ∀ g, (Value.slice A bs.length C).ownBlock = some g → g < L ∨ H ≤ g
theorem BOwn.adv {w w2 : World} {base br p : Nat} {bs : List Bd} {A : Option Addr} {C : Nat} (h : BOwn w base bs A C) (ha : Adv w br p w2) (hb : br < base) : BOwn w2 base bs A C := by
  obtain ⟨xs, hown, hall⟩ := h
  have hs := ha.size
  refine ⟨xs, own_block hown fun g hg => ?_, fun i x hx => ?_⟩
  · have h1 := hown.lt g hg
    exact ha.same (lo := g) (B := g + 1) (by omega) (by omega) g (Nat.le_refl _) (by omega)
  · obtain ⟨a', c', L, H, c0, c1, c2, c3, hl, h1, h2, h3⟩ := hall i x hx
    exact ⟨a', c', L, H, c0, c1, c2, c3, hl.same (ha.same h2 (.inl (by omega))), h1, by omega, h3⟩
theorem BOwn.bsl {w : World} {base : Nat} {bs : List Bd} {A : Option Addr} {C : Nat} (h : BOwn w base bs A C) : BSl w base w.heap.size A bs := by
  obtain ⟨xs, hown, hall⟩ := h
  rcases Nat.eq_zero_or_pos bs.length with h0 | h0
  · exact .inl (List.eq_nil_of_length_eq_zero h0)
  · obtain ⟨g, cap, hv, hb, hlt⟩ := hown.form h0
    have hA : A = some ⟨g, 0, none⟩ := by simp only [Value.slice.injEq] at hv; exact hv.1
    subst hA
    refine .inr ⟨g, 0, rfl, hb, hlt, fun i x hx => ?_⟩
    have hi := (List.getElem?_eq_some_iff.1 hx).1
    obtain ⟨a', c', L, H, c0, c1, c2, c3, hl, h1, h2, h3⟩ := hall i x hx
    refine ⟨a', c', ?_, ?_, ?_, ?_, hl.mono h1 h2⟩
    · rw [Nat.zero_add, hown.cellAt _ (by omega)]; exact c0
    · rw [Nat.zero_add, hown.cellAt _ (by omega)]; exact c1
    · rw [Nat.zero_add, hown.cellAt _ (by omega)]; exact c2
    · rw [Nat.zero_add, hown.cellAt _ (by omega)]; exact c3
/-- One more bind. w: where the row stood; w2: where the new term lies too; blk: the block that shows it to append. -/
theorem BOwn.append {w0 w w2 w3 : World} {base br p : Nat} {bs : List Bd} {A : Option Addr} {C g cap : Nat} {blk : Obj} {x s v : Int} {k : Fo} {a2 : Option Addr} {c2 : Nat} {xs : List Value} (hown : w.ownsRow base 124 4 (.slice A bs.length C) bs.length xs)
    (hall : ∀ (i : Nat) (x : Bd), bs[i]? = some x → ∃ a' c' L H, xs[i * 4]? = some (.int .i64 x.1) ∧ xs[i * 4 + 1]? = some (.int .i64 x.2.1) ∧ xs[i * 4 + 2]? = some (.int .i64 x.2.2.1) ∧ xs[i * 4 + 3]? = some (.slice a' (flen x.2.2.2) c') ∧
      Sl w L H a' x.2.2.2 ∧ base ≤ L ∧ H ≤ w.heap.size ∧ ∀ g, (Value.slice A bs.length C).ownBlock = some g → g < L ∨ H ≤ g)
    (hown3 : w3.ownsRow base 124 4 (.slice (some ⟨g, 0, none⟩) (bs.length + 1) cap) (bs.length + 1) (xs ++ [.int .i64 x, .int .i64 s, .int .i64 v, .slice a2 (flen k) c2])) (ha : Adv w br p w2) (hbr : br < base) (hl2 : Sl w2 w.heap.size w2.heap.size a2 k) (hbase : base ≤ w.heap.size)
    (hgrow : (w2.alloc blk).grownBy w3 (Value.slice A bs.length C).ownBlock) (hatg : (Value.slice A bs.length C).ownBlock = some g ∨ g = w2.heap.size + 1) (ha0 : Adv w0 br p w2) (hw0 : w0.heap.size ≤ base) : BOwn w3 base (bs ++ [(x, s, v, k)]) (some ⟨g, 0, none⟩) cap ∧ Adv w0 br p w3 := by
  have hs2 := ha.size
  have hs3 := hgrow.size
  simp at hs3
  have hxl : xs.length = bs.length * 4 := hown.1
  have hl : (bs ++ [(x, s, v, k)]).length = bs.length + 1 := by simp
  refine ⟨⟨xs ++ [.int .i64 x, .int .i64 s, .int .i64 v, .slice a2 (flen k) c2], by rw [hl]; exact hown3, fun i y hy => ?_⟩, Below.grown (ha0.alloc blk) hgrow (by have := ha0.size; simp; omega) (fun q hq => by have := (hown.lt q hq).1; omega)⟩
  rw [hl]
  by_cases hi : i < bs.length
  · rw [List.getElem?_append_left hi] at hy
    obtain ⟨a', c', L, H, c0, c1, c2', c3, hsl, h1, h2, h3⟩ := hall i y hy
    refine ⟨a', c', L, H, by rw [List.getElem?_append_left (by omega)]; exact c0, by rw [List.getElem?_append_left (by omega)]; exact c1, by rw [List.getElem?_append_left (by omega)]; exact c2', by rw [List.getElem?_append_left (by omega)]; exact c3, hsl.same (fun b hb1 hb2 => ?_), h1, by omega, fun g' hg' => ?_⟩
    · rw [hgrow.block b (by simp; omega) (fun e => by have := h3 b e.symm; omega), Below.heap_alloc _ _ _ (by omega)]
      exact ha.same h2 (.inl (by omega)) b hb1 hb2
    · have : g' = g := by simpa [Value.ownBlock] using hg'.symm
      subst this
      rcases hatg with hg1 | hg1
      · exact h3 _ hg1
      · omega
  · have hi' : i = bs.length := by have := (List.getElem?_eq_some_iff.1 hy).1; omega
    subst hi'
    simp at hy
    subst hy
    refine ⟨a2, c2, w.heap.size, w2.heap.size, ?_, ?_, ?_, ?_, hl2.same (fun b hb1 hb2 => ?_), hbase, by omega, fun g' hg' => ?_⟩
    · rw [List.getElem?_append_right (by omega), hxl]; simp
    · rw [List.getElem?_append_right (by omega), hxl, show bs.length * 4 + 1 - bs.length * 4 = 1 from by omega]; rfl
    · rw [List.getElem?_append_right (by omega), hxl, show bs.length * 4 + 2 - bs.length * 4 = 2 from by omega]; rfl
    · rw [List.getElem?_append_right (by omega), hxl, show bs.length * 4 + 3 - bs.length * 4 = 3 from by omega]; rfl
    · rw [hgrow.block b (by simp; omega) (fun e => by have := (hown.lt b e.symm).2; omega), Below.heap_alloc _ _ _ (by omega)]
    · have : g' = g := by simpa [Value.ownBlock] using hg'.symm
      subst this
      rcases hatg with hg1 | hg1
      · exact .inl (hown.lt _ hg1).2
      · exact .inr (by omega)

theorem Try.infoBind : ∃ i, Try.prog.info? 124 = some i ∧ i.zero = some (.agg #[.int .i64 0, .int .i64 0, .int .i64 0, .slice none 0 0]) ∧ i.size = 4 ∧ i.bytes = 48 := by
  have h : (Try.prog.info? 124).map (fun i => (i.zero, i.size, i.bytes)) = some (some (.agg #[.int .i64 0, .int .i64 0, .int .i64 0, .slice none 0 0]), 4, 48) := by kernel_rfl
  obtain ⟨i, hi, hz⟩ := Option.map_eq_some_iff.1 h
  simp only [Prod.mk.injEq] at hz
  exact ⟨i, hi, hz.1, hz.2.1, hz.2.2⟩
/-- The first bind's term is another one. -/
theorem BOwn.set0 {w w2 : World} {base br p : Nat} {x s v s' v' : Int} {k k' : Fo} {r : List Bd} {g C : Nat} {a2 : Option Addr} {c2 : Nat} (h : BOwn w base ((x, s, v, k) :: r) (some ⟨g, 0, none⟩) C) (ha : Adv w br p w2) (hbr : br < base) (hl : Sl w2 w.heap.size w2.heap.size a2 k') :
    BOwn (((w2.setCell ⟨g, 1, none⟩ (.int .i64 s')).setCell ⟨g, 2, none⟩ (.int .i64 v')).setCell ⟨g, 3, none⟩ (.slice a2 (flen k') c2)) base ((x, s', v', k') :: r) (some ⟨g, 0, none⟩) C := by
  obtain ⟨xs, hown, hall⟩ := h.adv ha hbr
  obtain ⟨xs0, hown0, _⟩ := h
  have hs := ha.size
  have hgl := hown0.lt g rfl
  have h1 := (hown.stored 1 (.int .i64 s')).1
  have h2 := (h1.stored 2 (.int .i64 v')).1
  have h3 := (h2.stored 3 (.slice a2 (flen k') c2)).1
  have hxl : xs.length = (r.length + 1) * 4 := by have := hown.1; simpa using this
  have hS : ∀ {L H : Nat} {a : Option Addr} {kk : Fo}, Sl w2 L H a kk → (g < L ∨ H ≤ g) → Sl (((w2.setCell ⟨g, 1, none⟩ (.int .i64 s')).setCell ⟨g, 2, none⟩ (.int .i64 v')).setCell ⟨g, 3, none⟩ (.slice a2 (flen k') c2)) L H a kk := fun {L H a kk} hsl hg => by
    have h0 : Same L H w2 w2 := fun _ _ _ => rfl
    exact hsl.same (((h0.setCell hg _).setCell hg _).setCell hg _)
  refine ⟨_, h3, fun i y hy => ?_⟩
  cases i with
  | zero =>
    simp at hy
    subst hy
    refine ⟨a2, c2, w.heap.size, w2.heap.size, ?_, ?_, ?_, ?_, hS hl (.inl hgl.2), Nat.le_of_lt (Nat.lt_of_le_of_lt hgl.1 hgl.2), by simp, fun q hq => ?_⟩
    · obtain ⟨_, _, _, _, c0, _⟩ := hall 0 (x, s, v, k) rfl
      rw [List.getElem?_set_ne (by omega), List.getElem?_set_ne (by omega), List.getElem?_set_ne (by omega)]; exact c0
    · rw [List.getElem?_set_ne (by omega), List.getElem?_set_ne (by omega)]; exact List.getElem?_set_self (by omega)
    · rw [List.getElem?_set_ne (by omega)]; exact List.getElem?_set_self (by simp; omega)
    · exact List.getElem?_set_self (by simp; omega)
    · have : q = g := by simpa [Value.ownBlock] using hq.symm
      omega
  | succ n =>
    obtain ⟨a', c', L, H, c0, c1, c2', c3, hsl, e1, e2, e3⟩ := hall (n + 1) y (by simpa using hy)
    refine ⟨a', c', L, H, ?_, ?_, ?_, ?_, hS hsl (e3 g rfl), e1, by simpa using e2, e3⟩
    · rw [List.getElem?_set_ne (by omega), List.getElem?_set_ne (by omega), List.getElem?_set_ne (by omega)]; exact c0
    · rw [List.getElem?_set_ne (by omega), List.getElem?_set_ne (by omega), List.getElem?_set_ne (by omega)]; exact c1
    · rw [List.getElem?_set_ne (by omega), List.getElem?_set_ne (by omega), List.getElem?_set_ne (by omega)]; exact c2'
    · rw [List.getElem?_set_ne (by omega), List.getElem?_set_ne (by omega), List.getElem?_set_ne (by omega)]; exact c3
end Go.Proofs.Ytoafleckcjanaaa
