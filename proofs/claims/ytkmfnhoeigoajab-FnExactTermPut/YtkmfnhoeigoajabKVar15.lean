/- Several texts in one: A3t, XAt, FrameI. -/
import Derived.Test.YtkmfnhoeigoajabKVar6
import Derived.Test.YtkmfnhoeigoajabKVar14
import Derived.Test.YtkmfnhoeigoajabKVar11
import Derived.Test.YtkmfnhoeigoajabKVar12
import Derived.Test.YtkmfnhoeigoajabKVar10
import Derived.Test.YtkmfnhoeigoajabKVar5
import Derived.WalkKit
import Derived.ProofKit
import Derived.OpenShut

/-! A3t: impl.TermAt: its answer is a tree of one's own. -/
namespace Go.Proofs.Ytkmfnhoeigoajab
open Go.RowKit Go.Deep

def AtPostT (s v : Int) (k : Fo) (place : List Int) (w : World) (e : Ending) (w' : World) : Prop :=
  ∃ a c s' v' k' t, atR s v k place = (s', v', k', t) ∧ e = .returned (.tuple #[.agg #[.int .i64 s', .int .i64 v', .slice a (flen k') c], .bool t]) ∧ Below w.heap.size w w' ∧ TX w' w.heap.size w'.heap.size a k'

theorem at_endT {w w1 : World} {s v s' v' : Int} {k k' : Fo} {t : Bool} {place : List Int} {a : Option Addr} {c : Nat} (hr : atR s v k place = (s', v', k', t)) (hb : Below w.heap.size w w1) (hl : TX w1 (w.heap.size + 2) w1.heap.size a k') (x y z : Value) :
    AtPostT s v k place w (.returned (.tuple #[.agg #[.int .i64 s', .int .i64 v', .slice a (flen k') c], .bool t])) (((w1.setCell ⟨w.heap.size + 1, 0, none⟩ x).setCell ⟨w.heap.size + 1, 1, none⟩ y).setCell ⟨w.heap.size + 1, 2, none⟩ z) := by
  refine ⟨a, c, s', v', k', t, hr, rfl, ((hb.setCell (by simp) _).setCell (by simp) _).setCell (by simp) _, ?_⟩
  have hs : Same (w.heap.size + 2) w1.heap.size w1 (((w1.setCell ⟨w.heap.size + 1, 0, none⟩ x).setCell ⟨w.heap.size + 1, 1, none⟩ y).setCell ⟨w.heap.size + 1, 2, none⟩ z) :=
    (((Same.setCell (fun _ _ _ => rfl) (.inl (by simp)) _).setCell (.inl (by simp)) _).setCell (.inl (by simp)) _)
  exact (hl.same hs).mono (by omega) (by simp)

set_option maxRecDepth 100000 in
set_option maxHeartbeats 1000000 in
theorem iTermAtT_any (s v : Int) (a : Option Addr) (c : Nat) (k : Fo) (pA : Option Addr) (pC : Nat) (place : List Int) (w : World) (hl : Sl w 0 w.heap.size a k) (hp : ISl w 0 w.heap.size pA place) (hpl : place.length ≤ 1048576) :
    Calls Try.prog 20 #[.agg #[.int .i64 s, .int .i64 v, .slice a (flen k) c], .slice pA place.length pC] w (AtPostT s v k place w) := by
  have HL := Lib.hid hl
  have HP := Lib.hid hp
  clear hl hp
  have hb0 : Below w.heap.size w ((w.alloc (.cells #[.int .i64 s, .int .i64 v, .slice a (flen k) c] 25)).alloc (.cells #[.int .i64 0, .int .i64 0, .slice none 0 0] 25)) := ((Below.refl _ _).alloc (Nat.le_refl _) _).alloc (by simp) _
  have HB0 := Lib.hid hb0
  clear hb0
  cases hok : okW s v k 16 with
  | false =>
    have HR : Hid (atR s v k place = (0, 0, .nil, false)) := by unfold Hid atR; rw [hok]; rfl
    have HOK := Lib.hid hok
    clear hok
    go_enter Try.func20, Try.ntmps20
    go_wp2_with fail
    with_reducible refine (nodeOf_any s v a c k 16 _ ?_ (by omega) (by omega)).mono ?_
    · exact (HL.out.below HB0.out).mono (Nat.le_refl _) HB0.out.size
    rintro e w2 ⟨nv, he, hb, hyes⟩
    rw [HOK.out] at he
    subst he
    clear hyes
    have hb' := hb.mono (show w.heap.size + 2 ≤ _ by simp)
    obtain ⟨hr0, hr1, hr2, hq0, hq1, hq2⟩ := at_cells hb'
    have HB := Lib.hid (HB0.out.trans (hb.mono HB0.out.size))
    clear hb hb'
    go_wp2_with fail
    refine bodyPost_ret (v := .tuple #[.agg #[.int .i64 0, .int .i64 0, .slice none 0 0], .bool false]) ?_ rfl (at_endT (k' := .nil) HR.out HB.out ⟨.inl rfl, .inl rfl⟩ _ _ _)
    simp [results, Try.results20, go_sem, hr0, hr1, hr2]
  | true =>
    have HOK := Lib.hid hok
    have hsz := ((okW_iff _ _ _ _).1 hok).2.2
    clear hok
    go_enter Try.func20, Try.ntmps20
    go_wp2_with fail
    with_reducible refine (nodeOf_any s v a c k 16 _ ?_ (by omega) (by omega)).mono ?_
    · exact (HL.out.below HB0.out).mono (Nat.le_refl _) HB0.out.size
    rintro e w2 ⟨nv, he, hb, hyes⟩
    rw [HOK.out] at he
    subst he
    have HN := Lib.hid ((hyes HOK.out).mono (lo' := 0) (Nat.zero_le _) (Nat.le_refl _))
    have hs2 := hb.size
    simp at hs2
    have HB2' := Lib.hid (hb.mono (show w.heap.size + 2 ≤ _ by simp))
    have HB2 := Lib.hid (HB0.out.trans (hb.mono HB0.out.size))
    clear hyes hb
    obtain ⟨ty, vv, rfl⟩ : ∃ ty vv, nv = .iface ty vv := by
      rcases HN.out with ⟨_, _, rfl⟩ | ⟨_, _, _, rfl, _⟩
      · exact ⟨_, _, rfl⟩
      · exact ⟨_, _, rfl⟩
    go_wp2_with fail
    with_reducible refine (nodeAt_any s v k _ pA pC place _ HN.out ?_ hpl).mono ?_
    · exact (HP.out.below HB2.out).mono (Nat.le_refl _) HB2.out.size
    rintro e w3 ⟨hb3, hcase⟩
    have hs3 := hb3.size
    have HB3' := Lib.hid (HB2'.out.trans (hb3.mono (by omega)))
    have HB3 := Lib.hid (HB2.out.trans (hb3.mono (by omega)))
    rcases hcase with ⟨s', v', k', nv', hf, rfl, hn'⟩ | ⟨hf, rfl⟩
    · have HR : Hid (atR s v k place = (s', v', k', true)) := by unfold Hid atR; rw [HOK.out, hf]; rfl
      have hfo := fat_ok place s v k ((okW_iff _ _ _ _).1 HOK.out).1 ((okW_iff _ _ _ _).1 HOK.out).2.1 hf
      have HN' := Lib.hid (hn'.below hb3)
      clear hn' hb3 hf
      rcases HN'.out with ⟨rfl, rfl, rfl⟩ | ⟨hs', a2, c2, rfl, hn2⟩
      · clear HN' hfo
        go_wp2_with fail
        refine upon_method 115 (by kernel_rfl) (by kernel_rfl) ?_
        go_simp
        with_reducible refine (varTermT_any v' _).mono ?_
        rintro e w4 ⟨a4, c4, rfl, hb4, hl4⟩
        have hs4 := hb4.size
        obtain ⟨hr0, hr1, hr2, hq0, hq1, hq2⟩ := at_cells (HB3'.out.trans (hb4.mono (by omega)))
        have HB4 := Lib.hid (HB3.out.trans (hb4.mono (by omega)))
        have HL4 := Lib.hid (hl4.mono (lo' := w.heap.size + 2) (by omega) (Nat.le_refl _))
        clear hb4 hl4
        go_wp2_with fail
        refine bodyPost_ret (v := .tuple #[.agg #[.int .i64 0, .int .i64 v', .slice a4 (flen .nil) c4], .bool true]) ?_ rfl (at_endT HR.out HB4.out HL4.out _ _ _)
        simp [results, Try.results20, go_sem, hr0, hr1, hr2]
      · have hv0 : v' = 0 := ((okN_iff _ _ _).1 hfo.1).2.2 hs'
        subst hv0
        have hk' := hfo.2.2
        have HKK := Lib.hid hfo.2.1
        have HN2 := Lib.hid hn2
        clear HN' hn2 hfo
        go_wp2_with fail
        refine upon_method 104 (by kernel_rfl) (by kernel_rfl) ?_
        go_simp
        with_reducible refine (symTermT_any (fsz k') s' a2 c2 k' _ ?_ HKK.out (Nat.le_refl _) (by omega)).mono ?_
        · exact HN2.out.mono (Nat.le_refl _) hs3
        rintro e w4 ⟨a4, c4, rfl, hb4, hl4⟩
        have hs4 := hb4.size
        obtain ⟨hr0, hr1, hr2, hq0, hq1, hq2⟩ := at_cells (HB3'.out.trans (hb4.mono (by omega)))
        have HB4 := Lib.hid (HB3.out.trans (hb4.mono (by omega)))
        have HL4 := Lib.hid (hl4.mono (lo' := w.heap.size + 2) (by omega) (Nat.le_refl _))
        clear hb4 hl4
        go_wp2_with fail
        refine bodyPost_ret (v := .tuple #[.agg #[.int .i64 s', .int .i64 0, .slice a4 (flen k') c4], .bool true]) ?_ rfl (at_endT HR.out HB4.out HL4.out _ _ _)
        simp [results, Try.results20, go_sem, hr0, hr1, hr2]
    · have HR : Hid (atR s v k place = (0, 0, .nil, false)) := by unfold Hid atR; rw [HOK.out, hf]; rfl
      obtain ⟨hr0, hr1, hr2, hq0, hq1, hq2⟩ := at_cells HB3'.out
      clear hb3 hf
      go_wp2_with fail
      refine bodyPost_ret (v := .tuple #[.agg #[.int .i64 0, .int .i64 0, .slice none 0 0], .bool false]) ?_ rfl (at_endT (k' := .nil) HR.out HB3.out ⟨.inl rfl, .inl rfl⟩ _ _ _)
      simp [results, Try.results20, go_sem, hr0, hr1, hr2]
end Go.Proofs.Ytkmfnhoeigoajab

/-! XAt: For every term and every place, laws.FnExactTermAt answers true and writes nothing that was there. -/
namespace Go.Proofs.Ytkmfnhoeigoajab
open Go.RowKit Go.Deep

theorem toTermT_any {s v : Int} {a : Option Addr} {c : Nat} {k : Fo} {w : World} (hl : Sl w 0 w.heap.size a k) (hN : fsz k ≤ 1048576) :
    Calls Try.prog 26 #[.agg #[.int .i64 s, .int .i64 v, .slice a (flen k) c]] w (ToPostT s v k w) :=
  toTerm_ofT s v a c k w fun w1 hb1 => toTermS_anyT (fsz k) a c k w1 ((hl.below hb1).mono (Nat.le_refl _) hb1.size) (Nat.le_refl _) hN
theorem iown_same {w w2 : World} {base : Nat} {xs : List Int} {A : Option Addr} {C : Nat} (h : IOwn w base xs A C) (hs : ∀ b, base ≤ b → b < w.heap.size → w2.heap[b]? = w.heap[b]?) : IOwn w2 base xs A C := by
  refine ⟨h.1, ?_⟩
  rcases h.2 with h2 | ⟨g, cap, cur, h3, h4, h5, h6⟩
  · exact .inl h2
  · exact .inr ⟨g, cap, cur, h3, h4, by rw [hs g h4 (Array.getElem?_eq_some_iff.1 h5).1]; exact h5, h6⟩
theorem atR_szX {s v : Int} {k : Fo} {place : List Int} {s' v' : Int} {k' : Fo} {t : Bool} (h : atR s v k place = (s', v', k', t)) : fsz k' ≤ 15 := by
  unfold atR at h
  split at h
  · rename_i hok
    have hok' := (okW_iff _ _ _ _).1 hok
    split at h
    · rename_i s2 v2 k2 hf
      simp only [Prod.mk.injEq] at h
      obtain ⟨_, _, rfl, _⟩ := h
      have := (fat_ok place s v k hok'.1 hok'.2.1 hf).2.2
      have := hok'.2.2
      omega
    · simp only [Prod.mk.injEq] at h
      obtain ⟨_, _, rfl, _⟩ := h
      simp [fsz]
  · simp only [Prod.mk.injEq] at h
    obtain ⟨_, _, rfl, _⟩ := h
    simp [fsz]

set_option maxRecDepth 100000 in
set_option maxHeartbeats 2000000 in
theorem exactAt_walk (s v : Int) (a : Option Addr) (c : Nat) (k : Fo) (pA : Option Addr) (pC : Nat) (place : List Int) (w : World) (hl : Sl w 0 w.heap.size a k) (hc : fcap k) (hm : flen k ≤ maxLen) (hp : ISl w 0 w.heap.size pA place) (hpm : place.length ≤ maxLen) :
    Calls Try.prog 6 #[.agg #[.int .i64 s, .int .i64 v, .slice a (flen k) c], .slice pA place.length pC] w fun e w' => e = .returned (.bool true) ∧ Below w.heap.size w w' := by
  have HL : Hid (Sl (w.alloc (.cells #[.int .i64 s, .int .i64 v, .slice a (flen k) c] 45)) 0 w.heap.size a k) := hl.below ((Below.refl _ _).alloc (Nat.le_refl _) _)
  have HP : Hid (ISl (w.alloc (.cells #[.int .i64 s, .int .i64 v, .slice a (flen k) c] 45)) 0 w.heap.size pA place) := hp.below ((Below.refl _ _).alloc (Nat.le_refl _) _)
  have HB0 : Hid (Below (w.heap.size + 1) (w.alloc (.cells #[.int .i64 s, .int .i64 v, .slice a (flen k) c] 45)) (w.alloc (.cells #[.int .i64 s, .int .i64 v, .slice a (flen k) c] 45))) := Below.refl _ _
  have HC := Lib.hid hc
  have HM := Lib.hid hm
  clear hl hc hm hp
  unfold maxLen at hpm
  by_cases hbig : 1048576 < place.length
  · go_enter Try.func6, Try.ntmps6
    go_wp2_with fail
    go_ret
    exact ⟨rfl, box_lowX HB0.out⟩
  clear hpm
  go_enter Try.func6, Try.ntmps6
  go_wp2_with fail
  with_reducible refine (szTerm_any (HL.out.mono (Nat.le_refl _) (by simp)) HC.out HM.out (by omega) (by omega)).mono ?_
  rintro e w1 ⟨rfl, hb1⟩
  have HB1 : Hid (Below (w.heap.size + 1) (w.alloc (.cells #[.int .i64 s, .int .i64 v, .slice a (flen k) c] 45)) w1) := by simpa [Hid] using hb1
  have hs1 := HB1.out.size
  simp at hs1
  clear hb1
  rcases szR_case k 1048576 with hz | hz
  · rw [hz]
    clear hz
    go_wp2_with fail
    go_ret
    exact ⟨rfl, box_lowX HB1.out⟩
  have hN := szR_fit hz
  generalize szR k 1048576 = z at *
  obtain ⟨hc0, hc1, hc2⟩ := box_cells ⟨_, HB1.out⟩
  dsimp only at hc0 hc1 hc2
  go_wp2_with fail
  with_reducible refine (toTerm_any ((HL.out.below (HB1.out.mono (by omega))).mono (Nat.le_refl _) (by omega)) hN).mono ?_
  rintro e w2 ⟨a2, c2, rfl, hb2, hl2⟩
  have hs2 := hb2.size
  have HB2 := Lib.hid (HB1.out.trans (hb2.mono (by omega)))
  clear hc0 hc1 hc2
  go_wp2_with fail
  with_reducible refine (toIntS_any place pA pC _ ((HP.out.below (HB2.out.mono (by omega))).mono (Nat.le_refl _) (by omega)) (by omega)).mono ?_
  rintro e w3 ⟨A3, C3, rfl, hio3, hb3⟩
  have hs3 := hb3.size
  have HB3 := Lib.hid (HB2.out.trans (hb3.mono (by omega)))
  have HT3 := Lib.hid ((hl2.below hb3).mono (lo' := 0) (Nat.zero_le _) hs3)
  have HI3 := Lib.hid (hio3.sl.mono (lo' := 0) (Nat.zero_le _) (Nat.le_refl _))
  clear hb2 hl2 hb3 hio3
  go_wp2_with fail
  with_reducible refine (sTermAt_any s v a2 c2 k A3 C3 place _ HT3.out HI3.out (by omega)).mono ?_
  rintro e w4 ⟨a4, c4, s', v', k', t, hR, rfl, hb4, hl4⟩
  have hs4 := hb4.size
  have HR := Lib.hid hR
  have hk' := atR_szX hR
  have hb4' := hb4.alloc hs4 (.cells #[.int .i64 s', .int .i64 v', .slice a4 (flen k') c4] 25)
  have HB4 := Lib.hid (HB3.out.trans (hb4'.mono (by omega)))
  have HW4 : Hid (Below (w4.heap.size + 1) (w4.alloc (.cells #[.int .i64 s', .int .i64 v', .slice a4 (flen k') c4] 25)) (w4.alloc (.cells #[.int .i64 s', .int .i64 v', .slice a4 (flen k') c4] 25))) := Below.refl _ _
  have HLW : Hid (Sl (w4.alloc (.cells #[.int .i64 s', .int .i64 v', .slice a4 (flen k') c4] 25)) 0 w4.heap.size a4 k') := (hl4.below ((Below.refl _ _).alloc (Nat.le_refl _) _)).mono (Nat.zero_le _) (Nat.le_refl _)
  clear hb4 hb4' hl4 hR
  obtain ⟨hc0, hc1, hc2⟩ := box_cells ⟨_, HB4.out⟩
  dsimp only at hc0 hc1 hc2
  go_wp2_with fail
  with_reducible refine (toTermT_any ((HL.out.below (HB4.out.mono (by omega))).mono (Nat.le_refl _) (by simp; omega)) hN).mono ?_
  rintro e w5 ⟨a5, c5, rfl, hb5, hl5⟩
  have hs5 := hb5.size
  simp at hs5
  have hb5' := hb5.alloc hb5.size (.cells #[.int .i64 s, .int .i64 v, .slice a5 (flen k) c5] 25)
  have HB5 := Lib.hid (HB4.out.trans (hb5'.mono (by simp; omega)))
  have HW5 := Lib.hid (HW4.out.trans (hb5'.mono (by simp)))
  have HX5 : Hid (Below (w5.heap.size + 1) (w5.alloc (.cells #[.int .i64 s, .int .i64 v, .slice a5 (flen k) c5] 25)) (w5.alloc (.cells #[.int .i64 s, .int .i64 v, .slice a5 (flen k) c5] 25))) := Below.refl _ _
  have HSX5 : Hid (SX (w5.alloc (.cells #[.int .i64 s, .int .i64 v, .slice a5 (flen k) c5] 25)) (w4.heap.size + 1) w5.heap.size a5 k) := (hl5.same (Same.of_below ((Below.refl _ _).alloc (Nat.le_refl _) _))).mono (by simp) (Nat.le_refl _)
  clear hb5 hb5' hl5 hc0 hc1 hc2
  go_wp2_with fail
  with_reducible refine (toIntS_any place pA pC _ ((HP.out.below (HB5.out.mono (by omega))).mono (Nat.le_refl _) (by simp; omega)) (by omega)).mono ?_
  rintro e w6 ⟨A6, C6, rfl, hio6, hb6⟩
  have hs6 := hb6.size
  simp at hs6
  have HB6 := Lib.hid (HB5.out.trans (hb6.mono (by simp; omega)))
  have HW6 := Lib.hid (HW5.out.trans (hb6.mono (by simp; omega)))
  have HX6 := Lib.hid (HX5.out.trans (hb6.mono (by simp)))
  have HSX6 := Lib.hid (HSX5.out.same (Same.of_below (hb6.mono (by simp))))
  have HI6 : Hid (IOwn w6 (w5.heap.size + 1) place A6 C6) := by simpa [Hid] using hio6
  have HOB : Hid (∀ g, (Value.slice A6 place.length C6).ownBlock = some g → w5.heap.size + 1 ≤ g ∧ g < w6.heap.size) := fun g hg => HI6.out.lt g hg
  have HI6s := Lib.hid (HI6.out.sl.mono (lo' := 0) (Nat.zero_le _) (Nat.le_refl _))
  have HX6s : Hid (Sl w6 0 w6.heap.size a5 k) := HSX6.out.1.mono (Nat.zero_le _) (by omega)
  clear hb6 hio6
  obtain ⟨hx0, hx1, hx2⟩ := box_cells ⟨_, HX6.out⟩
  dsimp only at hx0 hx1 hx2
  go_wp2_with fail
  with_reducible refine (iTermAtT_any s v a5 c5 k A6 C6 place _ HX6s.out HI6s.out (by omega)).mono ?_
  rintro e w7 ⟨a7, c7, s7, v7, k7, t7, hR7, rfl, hb7, hl7⟩
  rw [HR.out] at hR7
  simp only [Prod.mk.injEq] at hR7
  obtain ⟨rfl, rfl, rfl, rfl⟩ := hR7
  have hs7 := hb7.size
  have hb7' := hb7.alloc hs7 (.cells #[.int .i64 s', .int .i64 v', .slice a7 (flen k') c7] 25)
  have HB7 := Lib.hid (HB6.out.trans (hb7'.mono (by omega)))
  have HW7 := Lib.hid (HW6.out.trans (hb7'.mono (by omega)))
  have HX7 := Lib.hid (HX6.out.trans (hb7'.mono (by omega)))
  have HSX7 := Lib.hid (HSX6.out.same (Same.of_below (hb7'.mono (by omega))))
  have HI7 := Lib.hid (HI6.out.low hb7')
  have HG7 : Hid (Below (w7.heap.size + 1) (w7.alloc (.cells #[.int .i64 s', .int .i64 v', .slice a7 (flen k') c7] 25)) (w7.alloc (.cells #[.int .i64 s', .int .i64 v', .slice a7 (flen k') c7] 25))) := Below.refl _ _
  have HTG7 : Hid (TX (w7.alloc (.cells #[.int .i64 s', .int .i64 v', .slice a7 (flen k') c7] 25)) w6.heap.size w7.heap.size a7 k') := hl7.same (Same.of_below ((Below.refl _ _).alloc (Nat.le_refl _) _))
  have HTG7s : Hid (Sl (w7.alloc (.cells #[.int .i64 s', .int .i64 v', .slice a7 (flen k') c7] 25)) 0 (w7.alloc (.cells #[.int .i64 s', .int .i64 v', .slice a7 (flen k') c7] 25)).heap.size a7 k') := HTG7.out.1.mono (Nat.zero_le _) (by simp)
  clear hb7 hb7' hl7 hx0 hx1 hx2
  obtain ⟨hw0, hw1, hw2⟩ := box_cells ⟨_, HW7.out⟩
  dsimp only at hw0 hw1 hw2
  obtain ⟨hz0, hz1, hz2⟩ := box_cells ⟨_, HG7.out⟩
  dsimp only at hz0 hz1 hz2
  have e0 : (t != t) = false := by simp
  go_wp2_with fail
  with_reducible refine (eqTerm_any (k := k') HTG7s.out ((HLW.out.below (HW7.out.mono (by omega))).mono (Nat.le_refl _) (by simp; omega)) (by omega)).mono ?_
  rintro e w8 ⟨rfl, hb8⟩
  have hs8 := hb8.size
  simp at hs8
  have HB8 := Lib.hid (HB7.out.trans (hb8.mono (by simp; omega)))
  have HW8 := Lib.hid (HW7.out.trans (hb8.mono (by simp; omega)))
  have HX8 := Lib.hid (HX7.out.trans (hb8.mono (by simp; omega)))
  have HSX8 := Lib.hid (HSX7.out.same (Same.of_below (hb8.mono (by simp; omega))))
  have HI8 := Lib.hid (HI7.out.low hb8)
  have HG8 := Lib.hid (HG7.out.trans (hb8.mono (by simp)))
  have HTG8 := Lib.hid (HTG7.out.same (Same.of_below (hb8.mono (by simp))))
  clear hb8 hw0 hw1 hw2 hz0 hz1 hz2
  obtain ⟨hc0, hc1, hc2⟩ := box_cells ⟨_, HB8.out⟩
  dsimp only at hc0 hc1 hc2
  obtain ⟨hx0, hx1, hx2⟩ := box_cells ⟨_, HX8.out⟩
  dsimp only at hx0 hx1 hx2
  have hu0 : ∀ u : After w8.heap.size w8, u.world.cell? ⟨w.heap.size, 0, none⟩ = some (.int .i64 s) := fun u => u.cell (by simp; omega) hc0
  have hu1 : ∀ u : After w8.heap.size w8, u.world.cell? ⟨w.heap.size, 1, none⟩ = some (.int .i64 v) := fun u => u.cell (by simp; omega) hc1
  have hu2 : ∀ u : After w8.heap.size w8, u.world.cell? ⟨w.heap.size, 2, none⟩ = some (.slice a (flen k) c) := fun u => u.cell (by simp; omega) hc2
  have hu3 : ∀ u : After w8.heap.size w8, u.world.cell? ⟨w5.heap.size, 0, none⟩ = some (.int .i64 s) := fun u => u.cell (by simp; omega) hx0
  have hu4 : ∀ u : After w8.heap.size w8, u.world.cell? ⟨w5.heap.size, 1, none⟩ = some (.int .i64 v) := fun u => u.cell (by simp; omega) hx1
  have hu5 : ∀ u : After w8.heap.size w8, u.world.cell? ⟨w5.heap.size, 2, none⟩ = some (.slice a5 (flen k) c5) := fun u => u.cell (by simp; omega) hx2
  have HT8a : Hid (Sl w8 0 w8.heap.size a k) := ((HL.out.below (HB8.out.mono (by omega))).mono (Nat.le_refl _) (by omega))
  have HT8 : Hid (Sl w8.drew 0 w8.drew.heap.size a k) := HT8a.out.below (Below.refl _ _).drew
  go_wp2_with fail
  clear hc0 hc1 hc2 hx0 hx1 hx2
  refine wp_region_mix (fun w' => ∃ u : After w8.heap.size w8, w' = u.world) [] [(0, 0), (1, 0), (2, 1), (3, 1), (4, 1)] (by kernel_rfl) (by kernel_rfl) ⟨⟨_, (Below.refl _ _).drew⟩, rfl⟩ ?_
  iterate 2
    refine mix_see rfl (fun K hK => ?_)
    go_simp
    refine hK _ ?_
    clear hK K
  clear hu0 hu1 hu2 hu3 hu4 hu5
  refine mix_hold rfl (fun K hK => ?_)
  go_simp
  with_reducible refine (toTerm_any (k := k) (c := c) HT8.out hN).mono ?_
  rintro e w9 ⟨a9, c9, rfl, hb9', hl9⟩
  have hb9 : Below w8.heap.size w8 w9 := ⟨hb9'.os, hb9'.tape, hb9'.output, hb9'.size, hb9'.block⟩
  have hs9 := hb9.size
  have HM9 : Hid (Sl w9 0 w9.heap.size a5 k) := (HSX8.out.1.below (hb9.mono (by omega))).mono (Nat.zero_le _) (by omega)
  have HN9 := Lib.hid (hl9.mono (lo' := 0) (Nat.zero_le _) (Nat.le_refl _))
  refine hK _ _ ⟨⟨_, hb9⟩, rfl⟩ ?_
  clear hK K hb9' hl9
  refine mix_hold rfl (fun K hK => ?_)
  go_simp
  with_reducible refine (eqTerm_any (k := k) HM9.out HN9.out hN).mono ?_
  rintro e w10 ⟨rfl, hb10'⟩
  have hb10 := hb9.trans (hb10'.mono hs9)
  refine hK _ _ ⟨⟨_, hb10⟩, rfl⟩ ?_
  clear hK K hb10'
  refine mix_hold rfl (fun K hK => ?_)
  go_simp
  refine hK _ _ ⟨⟨_, hb10⟩, rfl⟩ ?_
  clear hK K
  refine mix_end ?_
  have hs10 := hb10.size
  have HB10 := Lib.hid (HB8.out.trans (hb10.mono (by omega)))
  have HW10 := Lib.hid (HW8.out.trans (hb10.mono (by omega)))
  have HX10 := Lib.hid (HX8.out.trans (hb10.mono (by omega)))
  have HSX10 := Lib.hid (HSX8.out.same (Same.of_below (hb10.mono (by omega))))
  have HI10 := Lib.hid (HI8.out.low hb10)
  have HG10 := Lib.hid (HG8.out.trans (hb10.mono (by omega)))
  have HTG10 := Lib.hid (HTG8.out.same (Same.of_below (hb10.mono (by omega))))
  clear hb9 hb10 HM9 HN9
  go_wp2_with fail
  with_reducible refine (toIntS_any place pA pC _ ((HP.out.below (HB10.out.mono (by omega))).mono (Nat.le_refl _) (by omega)) (by omega)).mono ?_
  rintro e w11 ⟨A11, C11, rfl, hio11, hb11⟩
  have hs11 := hb11.size
  have HI11a := Lib.hid ((HI10.out.low hb11).sl.mono (lo' := 0) (Nat.zero_le _) (Nat.le_refl _))
  have HI11b := Lib.hid (hio11.sl.mono (lo' := 0) (Nat.zero_le _) (Nat.le_refl _))
  go_wp2_with fail
  with_reducible refine (eqIntS_same place A6 A11 C6 C11 _ _ _ HI11a.out HI11b.out rfl rfl (by omega)).mono ?_
  rintro e w12 ⟨rfl, hb12'⟩
  have hb12 := hb11.trans (hb12'.mono hs11)
  have hs12 := hb12.size
  have HB12 := Lib.hid (HB10.out.trans (hb12.mono (by omega)))
  have HW12 := Lib.hid (HW10.out.trans (hb12.mono (by omega)))
  have HX12 := Lib.hid (HX10.out.trans (hb12.mono (by omega)))
  have HSX12 := Lib.hid (HSX10.out.same (Same.of_below (hb12.mono (by omega))))
  have HI12 := Lib.hid (HI10.out.low hb12)
  have HG12 := Lib.hid (HG10.out.trans (hb12.mono (by omega)))
  have HTG12 := Lib.hid (HTG10.out.same (Same.of_below (hb12.mono (by omega))))
  clear hb11 hio11 hb12 hb12'
  obtain ⟨hx0, hx1, hx2⟩ := box_cells ⟨_, HX12.out⟩
  obtain ⟨hz0, hz1, hz2⟩ := box_cells ⟨_, HG12.out⟩
  dsimp only at hx0 hx1 hx2 hz0 hz1 hz2
  have HSX12s := Lib.hid HSX12.out.2
  go_wp2_with fail
  with_reducible refine (markTerm_any s v a5 c5 k (w4.heap.size + 1) w5.heap.size 1 _ HSX12s.out hN (by omega) (by omega) (by omega) (by omega)).mono ?_
  rintro e w13 ⟨rfl, hmk⟩
  have hs13 := hmk.below.size
  have hfar : Same w5.heap.size w12.heap.size w12 w13 := fun b h1 h2 => hmk.far b h1 h2
  have HB13 := Lib.hid (HB12.out.trans (hmk.below.mono (by omega)))
  have HW13 := Lib.hid (HW12.out.trans hmk.below)
  have HI13 : Hid (IOwn w13 (w5.heap.size + 1) place A6 C6) := iown_same HI12.out (fun b h1 h2 => hfar b (by omega) h2)
  have HTG13 := Lib.hid (HTG12.out.same (hfar.mono (by omega) (by omega)))
  have hy0 : w13.cell? ⟨w7.heap.size, 0, none⟩ = some (.int .i64 s') := by rw [hfar.cell (by simp; omega) (by simp; omega)]; exact hz0
  have hy1 : w13.cell? ⟨w7.heap.size, 1, none⟩ = some (.int .i64 v') := by rw [hfar.cell (by simp; omega) (by simp; omega)]; exact hz1
  have hy2 : w13.cell? ⟨w7.heap.size, 2, none⟩ = some (.slice a7 (flen k') c7) := by rw [hfar.cell (by simp; omega) (by simp; omega)]; exact hz2
  clear hmk hfar hx0 hx1 hx2 hz0 hz1 hz2
  go_wp2_with fail
  with_reducible refine (markIntS_any (w5.heap.size + 1) place A6 C6 (1 + 2 * (fsz k : Int)) _ HI13.out (by omega) (by omega) (by omega)).mono ?_
  rintro e w14 ⟨rfl, hown14, hgr⟩
  have hs14 := hgr.size
  have hgs : Same w6.heap.size w13.heap.size w13 w14 := fun b h1 h2 => hgr.block b h2 (fun e => by have := HOB.out b e.symm; omega)
  have hb14 : Below (w5.heap.size + 1) w13 w14 := (Below.refl _ _).grown hgr (by omega) (fun g hg => (HOB.out g hg).1)
  have HB14 := Lib.hid (HB13.out.trans (hb14.mono (by omega)))
  have HW14 := Lib.hid (HW13.out.trans (hb14.mono (by omega)))
  have HTG14 := Lib.hid (HTG13.out.same (hgs.mono (Nat.le_refl _) (by omega)))
  have HTG14s : Hid (Sl w14 0 w14.heap.size a7 k') := HTG14.out.1.mono (Nat.zero_le _) (by omega)
  have hz0 : w14.cell? ⟨w7.heap.size, 0, none⟩ = some (.int .i64 s') := by rw [hgs.cell (by simp; omega) (by simp; omega)]; exact hy0
  have hz1 : w14.cell? ⟨w7.heap.size, 1, none⟩ = some (.int .i64 v') := by rw [hgs.cell (by simp; omega) (by simp; omega)]; exact hy1
  have hz2 : w14.cell? ⟨w7.heap.size, 2, none⟩ = some (.slice a7 (flen k') c7) := by rw [hgs.cell (by simp; omega) (by simp; omega)]; exact hy2
  have e1 : decide (1 + 2 * (fsz k : Int) + (place.length : Int) < 0) = false := decide_eq_false (by omega)
  clear hown14 hgr hgs hb14 hy0 hy1 hy2
  obtain ⟨hw0, hw1, hw2⟩ := box_cells ⟨_, HW14.out⟩
  dsimp only at hw0 hw1 hw2
  go_wp2_with fail
  with_reducible refine (eqTerm_any (k := k') HTG14s.out ((HLW.out.below (HW14.out.mono (by omega))).mono (Nat.le_refl _) (by omega)) (by omega)).mono ?_
  rintro e w15 ⟨rfl, hb15⟩
  have hs15 := hb15.size
  have HB15 := Lib.hid (HB14.out.trans (hb15.mono (by omega)))
  have HW15 := Lib.hid (HW14.out.trans (hb15.mono (by omega)))
  have HTG15 := Lib.hid (HTG14.out.same (Same.of_below (hb15.mono (by omega))))
  have HTG15s := Lib.hid HTG15.out.2
  have hy0 := cell_lowX hb15 hz0
  have hy1 := cell_lowX hb15 hz1
  have hy2 := cell_lowX hb15 hz2
  clear hb15 hz0 hz1 hz2 hw0 hw1 hw2
  go_wp2_with fail
  with_reducible refine (markTermT_any s' v' a7 c7 k' w6.heap.size w7.heap.size 1 _ HTG15s.out (by omega) (by omega) (by omega) (by omega) (by omega)).mono ?_
  rintro e w16 ⟨rfl, hmk, hhd⟩
  have hs16 := hmk.below.size
  have hfar : Same w7.heap.size w15.heap.size w15 w16 := fun b h1 h2 => hmk.far b h1 h2
  have HB16 := Lib.hid (HB15.out.trans (hmk.below.mono (by omega)))
  have HW16 := Lib.hid (HW15.out.trans (hmk.below.mono (by omega)))
  have HHD16 := Lib.hid hhd
  have hz0 : w16.cell? ⟨w7.heap.size, 0, none⟩ = some (.int .i64 s') := by rw [hfar.cell (by simp) (by simp; omega)]; exact hy0
  have hz1 : w16.cell? ⟨w7.heap.size, 1, none⟩ = some (.int .i64 v') := by rw [hfar.cell (by simp) (by simp; omega)]; exact hy1
  have hz2 : w16.cell? ⟨w7.heap.size, 2, none⟩ = some (.slice a7 (flen k') c7) := by rw [hfar.cell (by simp) (by simp; omega)]; exact hy2
  have e2 : decide (1 + 2 * (fsz k' : Int) < 0) = false := decide_eq_false (by omega)
  have e3 : ((1 + 2 * (fsz k' : Int)) != (1 + 2 * (fsz k' : Int))) = false := by simp
  clear hmk hhd hfar hy0 hy1 hy2
  go_wp2_with fail
  with_reducible refine (heldTerm_any s' v' a7 c7 k' w6.heap.size w7.heap.size 1 _ HHD16.out (by omega) (by omega) (by omega) (by omega)).mono ?_
  rintro e w17 ⟨rfl, hb17⟩
  have hs17 := hb17.size
  have HB17 := Lib.hid (HB16.out.trans (hb17.mono (by omega)))
  have HW17 := Lib.hid (HW16.out.trans (hb17.mono (by omega)))
  have HHD17 := Lib.hid (HHD16.out.same (Same.of_below (hb17.mono (by omega))))
  have hy0 := cell_lowX hb17 hz0
  have hy1 := cell_lowX hb17 hz1
  have hy2 := cell_lowX hb17 hz2
  clear hb17 hz0 hz1 hz2
  obtain ⟨hc0, hc1, hc2⟩ := box_cells ⟨_, HB17.out⟩
  dsimp only at hc0 hc1 hc2
  go_wp2_with fail
  with_reducible refine (toTerm_any ((HL.out.below (HB17.out.mono (by omega))).mono (Nat.le_refl _) (by omega)) hN).mono ?_
  rintro e w18 ⟨a18, c18, rfl, hb18, hl18⟩
  have hs18 := hb18.size
  have HB18 := Lib.hid (HB17.out.trans (hb18.mono (by omega)))
  clear hc0 hc1 hc2
  go_wp2_with fail
  with_reducible refine (toIntS_any place pA pC _ ((HP.out.below (HB18.out.mono (by omega))).mono (Nat.le_refl _) (by omega)) (by omega)).mono ?_
  rintro e w19 ⟨A19, C19, rfl, hio19, hb19⟩
  have hs19 := hb19.size
  have HT19 := Lib.hid ((hl18.below hb19).mono (lo' := 0) (Nat.zero_le _) hs19)
  have HI19 := Lib.hid (hio19.sl.mono (lo' := 0) (Nat.zero_le _) (Nat.le_refl _))
  go_wp2_with fail
  with_reducible refine (iTermAt_any s v a18 c18 k A19 C19 place _ HT19.out HI19.out (by omega)).mono ?_
  rintro e w20 ⟨a20, c20, s20, v20, k20, t20, hR20, rfl, hb20, hl20⟩
  rw [HR.out] at hR20
  simp only [Prod.mk.injEq] at hR20
  obtain ⟨rfl, rfl, rfl, rfl⟩ := hR20
  have hs20 := hb20.size
  have hb21 : Below w17.heap.size w17 (w20.alloc (.cells #[.int .i64 s', .int .i64 v', .slice a20 (flen k') c20] 25)) := ((hb18.trans (hb19.mono hs18)).trans (hb20.mono (by omega))).alloc (by omega) _
  have HB20 := Lib.hid (HB17.out.trans (hb21.mono (by omega)))
  have HW20 := Lib.hid (HW17.out.trans (hb21.mono (by omega)))
  have HHD20 := Lib.hid (HHD17.out.same (Same.of_below (hb21.mono (by omega))))
  have hz0 := cell_lowX hb21 hy0
  have hz1 := cell_lowX hb21 hy1
  have hz2 := cell_lowX hb21 hy2
  have HLH : Hid (Sl (w20.alloc (.cells #[.int .i64 s', .int .i64 v', .slice a20 (flen k') c20] 25)) 0 (w20.alloc (.cells #[.int .i64 s', .int .i64 v', .slice a20 (flen k') c20] 25)).heap.size a20 k') := (hl20.below ((Below.refl _ _).alloc (Nat.le_refl _) _)).mono (Nat.zero_le _) (by simp)
  clear hb18 hl18 hio19 hb19 hb20 hl20 hb21 hy0 hy1 hy2
  obtain ⟨hw0, hw1, hw2⟩ := box_cells ⟨_, HW20.out⟩
  dsimp only at hw0 hw1 hw2
  go_wp2_with fail
  with_reducible refine (eqTerm_any (k := k') HLH.out ((HLW.out.below (HW20.out.mono (by omega))).mono (Nat.le_refl _) (by simp; omega)) (by omega)).mono ?_
  rintro e w21 ⟨rfl, hb21⟩
  have hs21 := hb21.size
  simp at hs21
  have HB21 := Lib.hid (HB20.out.trans (hb21.mono (by simp; omega)))
  have HHD21 := Lib.hid (HHD20.out.same (Same.of_below (hb21.mono (by simp; omega))))
  have hy0 := cell_lowX hb21 hz0
  have hy1 := cell_lowX hb21 hz1
  have hy2 := cell_lowX hb21 hz2
  clear hb21 hz0 hz1 hz2 hw0 hw1 hw2
  go_wp2_with fail
  with_reducible refine (heldTerm_any s' v' a7 c7 k' w6.heap.size w7.heap.size 1 _ HHD21.out (by omega) (by omega) (by omega) (by omega)).mono ?_
  rintro e w22 ⟨rfl, hb22⟩
  have HB22 := Lib.hid (HB21.out.trans (hb22.mono (by omega)))
  clear hb22 hy0 hy1 hy2
  go_wp2_with fail
  go_ret
  exact ⟨rfl, box_lowX HB22.out⟩
end Go.Proofs.Ytkmfnhoeigoajab

/-! FrameI: A slice of numbers that came in, as the walks take it. -/
namespace Go.Proofs.Ytkmfnhoeigoajab
open Go.ChangeShapes Go.WideShapes Go.ChangeAt Go.RowKit

/-- Out of the reading of an argument. -/
theorem ints_of_trod {H : Type} {enc : TypeId × Value → H} {W : World} {a : Option Addr} {len cap : Nat} {d : DataW H} {p : List MemPlace} (h : DataW.Trod enc Try.prog W 0 (fun _ => true) true 26 (.slice a len cap) d p) : ∃ xs : List Int, len = xs.length ∧ ISl W 0 W.heap.size a xs ∧ xs.length ≤ maxLen := by
  obtain ⟨fuel, hf⟩ := h
  rcases open_ints Try.underlying26 Try.underlying3 (by kernel_rfl) hf with ⟨hcs, _⟩ | ⟨x, l, c, zs, hcs, _, hl, hm, hz, _, hcell, _⟩
  · simp [Value.cells] at hcs
    obtain ⟨rfl, rfl, rfl⟩ := hcs
    exact ⟨[], rfl, .inl rfl, Nat.zero_le _⟩
  · simp [Value.cells] at hcs
    obtain ⟨rfl, rfl, rfl⟩ := hcs
    have hz' : zs.length = cap := by simpa using hz
    have hl' : (zs.take len).length = len := by rw [List.length_take]; omega
    refine ⟨zs.take len, hl'.symm, ?_, by rw [hl']; omega⟩
    by_cases h0 : len = 0
    · subst h0; exact .inl (by simp)
    · obtain ⟨b, o, spot⟩ := x
      have c0 := hcell 0 (by omega)
      have hs : spot = none := by simpa [Addr.add] using World.cell?_spot c0
      subst hs
      have ha : ∀ n, (⟨b, o, none⟩ : Addr).add n = ⟨b, o + n, none⟩ := fun n => by unfold Addr.add; split <;> simp_all
      rw [ha] at c0
      refine .inr ⟨b, o, rfl, Nat.zero_le _, World.block_lt_of_cell? _ _ c0, fun i x hx => ?_⟩
      rw [List.getElem?_take] at hx
      split at hx
      · have ci := hcell i (by omega)
        rw [ha] at ci
        rw [ci, List.getD_eq_getElem?_getD, hx]
        rfl
      · cases hx
end Go.Proofs.Ytkmfnhoeigoajab
