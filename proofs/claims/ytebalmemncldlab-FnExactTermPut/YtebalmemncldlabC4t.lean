/- impl.TermPut: its answer is a tree of one's own. -/
import Derived.Test.YtebalmemncldlabC4
import Derived.Test.YtebalmemncldlabA2t
namespace Go.Proofs.Ytebalmemncldlab
open Go.RowKit Go.Deep
attribute [local go_sem ↓] Go.wp_at_zero Go.wp_at_succ

def PutPostT (s v : Int) (k : Fo) (place : List Int) (x : Int × Int × Fo) (w : World) (e : Ending) (w' : World) : Prop :=
  ∃ a c s' v' k' t, putR s v k place x = (s', v', k', t) ∧ e = .returned (.tuple #[.agg #[.int .i64 s', .int .i64 v', .slice a (flen k') c], .bool t]) ∧ Below w.heap.size w w' ∧ TX w' w.heap.size w'.heap.size a k'

theorem put_endT {w w1 : World} {s v s' v' : Int} {k k' : Fo} {t : Bool} {place : List Int} {x : Int × Int × Fo} {a : Option Addr} {c : Nat} (hr : putR s v k place x = (s', v', k', t)) (hb : Below w.heap.size w w1) (hl : TX w1 (w.heap.size + 3) w1.heap.size a k') (p q r : Value) :
    PutPostT s v k place x w (.returned (.tuple #[.agg #[.int .i64 s', .int .i64 v', .slice a (flen k') c], .bool t])) (((w1.setCell ⟨w.heap.size + 1 + 1, 0, none⟩ p).setCell ⟨w.heap.size + 1 + 1, 1, none⟩ q).setCell ⟨w.heap.size + 1 + 1, 2, none⟩ r) := by
  refine ⟨a, c, s', v', k', t, hr, rfl, ((hb.setCell (by simp; omega) _).setCell (by simp; omega) _).setCell (by simp; omega) _, ?_⟩
  have hs : Same (w.heap.size + 3) w1.heap.size w1 (((w1.setCell ⟨w.heap.size + 1 + 1, 0, none⟩ p).setCell ⟨w.heap.size + 1 + 1, 1, none⟩ q).setCell ⟨w.heap.size + 1 + 1, 2, none⟩ r) :=
    (((Same.setCell (fun _ _ _ => rfl) (.inl (by simp)) _).setCell (.inl (by simp)) _).setCell (.inl (by simp)) _)
  exact (hl.same hs).mono (by omega) (by simp)

set_option maxRecDepth 100000 in
set_option maxHeartbeats 1000000 in
theorem iTermPutT_any (s v : Int) (a : Option Addr) (c : Nat) (k : Fo) (pA : Option Addr) (pC : Nat) (place : List Int) (s2 v2 : Int) (a2 : Option Addr) (c2 : Nat) (k2 : Fo) (w : World) (hl : Sl w 0 w.heap.size a k) (hp : ISc w 0 w.heap.size pA pC place) (hpl : place.length ≤ 1048576) (hl2 : Sl w 0 w.heap.size a2 k2) :
    Calls Try.prog 40 #[.agg #[.int .i64 s, .int .i64 v, .slice a (flen k) c], .slice pA place.length pC, .agg #[.int .i64 s2, .int .i64 v2, .slice a2 (flen k2) c2]] w (PutPostT s v k place (s2, v2, k2) w) := by
  have HL := Lib.hid hl
  have HL2 := Lib.hid hl2
  have HP := Lib.hid hp
  clear hl hl2 hp
  have hb0 : Below w.heap.size w (((w.alloc (.cells #[.int .i64 s, .int .i64 v, .slice a (flen k) c] 25)).alloc (.cells #[.int .i64 s2, .int .i64 v2, .slice a2 (flen k2) c2] 25)).alloc (.cells #[.int .i64 0, .int .i64 0, .slice none 0 0] 25)) := (((Below.refl _ _).alloc (Nat.le_refl _) _).alloc (by simp) _).alloc (by simp; omega) _
  have HB0 := Lib.hid hb0
  clear hb0
  go_enter Try.func40, Try.ntmps40
  go_wp2_with fail
  with_reducible refine (nodeOf_any s v a c k 16 _ ?_ (by omega) (by omega)).mono ?_
  · exact (HL.out.below HB0.out).mono (Nat.le_refl _) HB0.out.size
  rintro e w2 ⟨nv, rfl, hb, hyes⟩
  have hs2 := hb.size
  simp at hs2
  have hb' := hb.mono (show w.heap.size + 3 ≤ _ by simp)
  obtain ⟨hc0, hc1, hc2⟩ := put_box hb'
  have HB2' := Lib.hid hb'
  have HB2 := Lib.hid (HB0.out.trans (hb.mono HB0.out.size))
  have HN : Hid (okW s v k 16 = true → NodeIs w2 0 w2.heap.size nv s v k) := fun h => (hyes h).mono (lo' := 0) (Nat.zero_le _) (Nat.le_refl _)
  clear hyes hb hb'
  go_wp2_with fail
  with_reducible refine (nodeOf_any s2 v2 a2 c2 k2 16 _ ?_ (by omega) (by omega)).mono ?_
  · exact (HL2.out.below HB2.out).mono (Nat.le_refl _) HB2.out.size
  rintro e w3 ⟨nv2, rfl, hb3, hyes2⟩
  have hs3 := hb3.size
  have hb3' := HB2'.out.trans (hb3.mono (show w.heap.size + 3 ≤ _ by omega))
  obtain ⟨hr0, hr1, hr2, hq0, hq1, hq2⟩ := put_cells hb3'
  have HB3' := Lib.hid hb3'
  have HB3 := Lib.hid (HB2.out.trans (hb3.mono (by omega)))
  have HN2 : Hid (okW s2 v2 k2 16 = true → NodeIs w3 0 w3.heap.size nv2 s2 v2 k2) := fun h => (hyes2 h).mono (lo' := 0) (Nat.zero_le _) (Nat.le_refl _)
  have HN1 : Hid (okW s v k 16 = true → NodeIs w3 0 w3.heap.size nv s v k) := fun h => ((HN.out h).below hb3).mono (Nat.le_refl _) hs3
  clear hyes2 hb3 hb3' HN hc0 hc1 hc2
  cases hok : okW s v k 16 with
  | false =>
    have HR : Hid (putR s v k place (s2, v2, k2) = (0, 0, .nil, false)) := by unfold Hid putR; rw [hok]; simp
    clear hok
    go_wp2_with fail
    refine bodyPost_ret (v := .tuple #[.agg #[.int .i64 0, .int .i64 0, .slice none 0 0], .bool false]) ?_ rfl (put_endT (k' := .nil) HR.out HB3.out ⟨.inl rfl, .inl rfl⟩ _ _ _)
    simp [results, Try.results40, go_sem, hr0, hr1, hr2]
  | true =>
    cases hok2 : okW s2 v2 k2 16 with
    | false =>
      have HR : Hid (putR s v k place (s2, v2, k2) = (0, 0, .nil, false)) := by unfold Hid putR; simp [hok2]
      clear hok hok2
      go_wp2_with fail
      refine bodyPost_ret (v := .tuple #[.agg #[.int .i64 0, .int .i64 0, .slice none 0 0], .bool false]) ?_ rfl (put_endT (k' := .nil) HR.out HB3.out ⟨.inl rfl, .inl rfl⟩ _ _ _)
      simp [results, Try.results40, go_sem, hr0, hr1, hr2]
    | true =>
      have HNA := Lib.hid (HN1.out hok)
      have HNB := Lib.hid (HN2.out hok2)
      have HOK := Lib.hid hok
      have HOK2 := Lib.hid hok2
      have hsz := ((okW_iff _ _ _ _).1 hok).2.2
      have hsz2 := ((okW_iff _ _ _ _).1 hok2).2.2
      clear hok hok2 HN1 HN2 hr0 hr1 hr2 hq0 hq1 hq2
      obtain ⟨ty, vv, rfl⟩ : ∃ ty vv, nv = .iface ty vv := by
        rcases HNA.out with ⟨_, _, rfl⟩ | ⟨_, _, _, rfl, _⟩
        · exact ⟨_, _, rfl⟩
        · exact ⟨_, _, rfl⟩
      obtain ⟨ty2, vv2, rfl⟩ : ∃ ty vv, nv2 = .iface ty vv := by
        rcases HNB.out with ⟨_, _, rfl⟩ | ⟨_, _, _, rfl, _⟩
        · exact ⟨_, _, rfl⟩
        · exact ⟨_, _, rfl⟩
      go_wp2_with fail
      with_reducible refine (nodePut_any (s2, v2, k2) place s v k _ _ pA pC _ HNA.out HNB.out ?_ hpl (by omega)).mono ?_
      · exact (HP.out.same (Same.of_below HB3.out)).mono (Nat.le_refl _) HB3.out.size
      rintro e w4 ⟨nv', t4, rfl, hb4, hcase⟩
      have hs4 := hb4.size
      have HB4' := Lib.hid (HB3'.out.trans (hb4.mono (by omega)))
      have HB4 := Lib.hid (HB3.out.trans (hb4.mono (by omega)))
      clear hb4
      rcases hcase with ⟨s', v', k', hf, rfl, hn'⟩ | ⟨hf, rfl⟩
      · have h1 := (okW_iff _ _ _ _).1 HOK.out
        have h2 := (okW_iff _ _ _ _).1 HOK2.out
        have hfo := fput_ok place s v k _ h1.1 h1.2.1 h2.1 h2.2.1 hf
        have hfs : fsz k' ≤ 1000 := by
          have hth := fput_there place s v k (s2, v2, k2)
          rw [hf] at hth
          obtain ⟨⟨s0, v0, k0⟩, h0⟩ := Option.isSome_iff_exists.1 hth.symm
          have := fput_sz place s v k _ hf h0
          dsimp only at this
          omega
        by_cases hbig : 1 + fsz k' ≤ 16
        · have e1 : decide ((16 : Int) < 1 + (fsz k' : Int)) = false := decide_eq_false (by omega)
          have HR : Hid (putR s v k place (s2, v2, k2) = (s', v', k', true)) := putR_some HOK.out HOK2.out hf hbig
          clear h1 h2 hf
          rcases hn' with ⟨rfl, rfl, rfl⟩ | ⟨hs', a5, c5, rfl, hn2⟩
          · clear hfo e1
            go_wp2_with fail
            refine upon_method 123 (by kernel_rfl) (by kernel_rfl) ?_
            go_simp
            with_reducible refine (varSize_any v' _).mono ?_
            rintro e w5 ⟨rfl, rfl⟩
            go_wp2_with fail
            refine upon_method 124 (by kernel_rfl) (by kernel_rfl) ?_
            go_simp
            with_reducible refine (varTermT_any v' _).mono ?_
            rintro e w6 ⟨a6, c6, rfl, hb6, hl6⟩
            have hs6 := hb6.size
            obtain ⟨hr0, hr1, hr2, hq0, hq1, hq2⟩ := put_cells (HB4'.out.trans (hb6.mono (by omega)))
            have HB6 := Lib.hid (HB4.out.trans (hb6.mono (by omega)))
            have HL6 := Lib.hid (hl6.mono (lo' := w.heap.size + 3) (by omega) (Nat.le_refl _))
            clear hb6 hl6
            go_wp2_with fail
            refine bodyPost_ret (v := .tuple #[.agg #[.int .i64 0, .int .i64 v', .slice a6 (flen .nil) c6], .bool true]) ?_ rfl (put_endT HR.out HB6.out HL6.out _ _ _)
            simp [results, Try.results40, go_sem, hr0, hr1, hr2]
          · have hv0 : v' = 0 := ((okN_iff _ _ _).1 hfo.1).2.2 hs'
            subst hv0
            have HKK := Lib.hid hfo.2
            have HNS := Lib.hid hn2
            clear hn2 hfo
            go_wp2_with fail
            refine upon_method 139 (by kernel_rfl) (by kernel_rfl) ?_
            go_simp
            with_reducible refine (symSize_any (fsz k') s' a5 c5 k' _ HNS.out (Nat.le_refl _) (by omega)).mono ?_
            rintro e w5 ⟨rfl, hb5⟩
            have hs5 := hb5.size
            have HNS5 := Lib.hid ((HNS.out.below hb5).mono (lo' := 0) (Nat.le_refl _) hs5)
            have HB5' := Lib.hid (HB4'.out.trans (hb5.mono (by omega)))
            have HB5 := Lib.hid (HB4.out.trans (hb5.mono (by omega)))
            clear hb5
            go_wp2_with fail
            refine upon_method 140 (by kernel_rfl) (by kernel_rfl) ?_
            go_simp
            with_reducible refine (symTermT_any (fsz k') s' a5 c5 k' _ HNS5.out HKK.out (Nat.le_refl _) (by omega)).mono ?_
            rintro e w6 ⟨a6, c6, rfl, hb6, hl6⟩
            have hs6 := hb6.size
            obtain ⟨hr0, hr1, hr2, hq0, hq1, hq2⟩ := put_cells (HB5'.out.trans (hb6.mono (by omega)))
            have HB6 := Lib.hid (HB5.out.trans (hb6.mono (by omega)))
            have HL6 := Lib.hid (hl6.mono (lo' := w.heap.size + 3) (by omega) (Nat.le_refl _))
            clear hb6 hl6
            go_wp2_with fail
            refine bodyPost_ret (v := .tuple #[.agg #[.int .i64 s', .int .i64 0, .slice a6 (flen k') c6], .bool true]) ?_ rfl (put_endT HR.out HB6.out HL6.out _ _ _)
            simp [results, Try.results40, go_sem, hr0, hr1, hr2]
        · have e1 : decide ((16 : Int) < 1 + (fsz k' : Int)) = true := decide_eq_true (by omega)
          have HR : Hid (putR s v k place (s2, v2, k2) = (0, 0, .nil, false)) := by unfold Hid putR; rw [if_pos ⟨HOK.out, HOK2.out⟩, hf]; dsimp only; rw [if_neg hbig]
          clear h1 h2 hf hfo
          rcases hn' with ⟨rfl, rfl, rfl⟩ | ⟨hs', a5, c5, rfl, hn2⟩
          · simp [fsz] at hbig
          · have HNS := Lib.hid hn2
            clear hn2
            go_wp2_with fail
            refine upon_method 139 (by kernel_rfl) (by kernel_rfl) ?_
            go_simp
            with_reducible refine (symSize_any (fsz k') s' a5 c5 k' _ HNS.out (Nat.le_refl _) (by omega)).mono ?_
            rintro e w5 ⟨rfl, hb5⟩
            have hs5 := hb5.size
            obtain ⟨hr0, hr1, hr2, hq0, hq1, hq2⟩ := put_cells (HB4'.out.trans (hb5.mono (by omega)))
            have HB5 := Lib.hid (HB4.out.trans (hb5.mono (by omega)))
            clear hb5
            go_wp2_with fail
            refine bodyPost_ret (v := .tuple #[.agg #[.int .i64 0, .int .i64 0, .slice none 0 0], .bool false]) ?_ rfl (put_endT (k' := .nil) HR.out HB5.out ⟨.inl rfl, .inl rfl⟩ _ _ _)
            simp [results, Try.results40, go_sem, hr0, hr1, hr2]
      · have HR : Hid (putR s v k place (s2, v2, k2) = (0, 0, .nil, false)) := by unfold Hid putR; rw [if_pos ⟨HOK.out, HOK2.out⟩, hf]
        obtain ⟨hr0, hr1, hr2, hq0, hq1, hq2⟩ := put_cells HB4'.out
        clear hf
        go_wp2_with fail
        refine bodyPost_ret (v := .tuple #[.agg #[.int .i64 0, .int .i64 0, .slice none 0 0], .bool false]) ?_ rfl (put_endT (k' := .nil) HR.out HB4.out ⟨.inl rfl, .inl rfl⟩ _ _ _)
        simp [results, Try.results40, go_sem, hr0, hr1, hr2]
end Go.Proofs.Ytebalmemncldlab
