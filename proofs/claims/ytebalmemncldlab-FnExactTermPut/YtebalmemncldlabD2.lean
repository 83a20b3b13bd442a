/- spec.TermPut. -/
import Derived.Test.YtebalmemncldlabD1
import Derived.Test.YtebalmemncldlabB1
namespace Go.Proofs.Ytebalmemncldlab
open Go.RowKit Go.Deep
attribute [local go_sem ↓] Go.wp_at_zero Go.wp_at_succ

/-- The cells of the first box of three. -/
theorem put_box0 {w w1 : World} {o Z : Obj} {x y z : Value} (hb : Below (w.heap.size + 3) (((w.alloc (.cells #[x, y, z] 25)).alloc o).alloc Z) w1) :
    w1.cell? ⟨w.heap.size, 0, none⟩ = some x ∧ w1.cell? ⟨w.heap.size, 1, none⟩ = some y ∧ w1.cell? ⟨w.heap.size, 2, none⟩ = some z := by
  refine ⟨?_, ?_, ?_⟩
  · rw [hb.cell (by simp), World.cell?_alloc_lt _ _ _ (by first | (simp; done) | (simp; omega)), World.cell?_alloc_lt _ _ _ (by simp), World.cell?_alloc_at _ _ _ _ (by simp)]; rfl
  · rw [hb.cell (by simp), World.cell?_alloc_lt _ _ _ (by first | (simp; done) | (simp; omega)), World.cell?_alloc_lt _ _ _ (by simp), World.cell?_alloc_at _ _ _ _ (by simp)]; rfl
  · rw [hb.cell (by simp), World.cell?_alloc_lt _ _ _ (by first | (simp; done) | (simp; omega)), World.cell?_alloc_lt _ _ _ (by simp), World.cell?_alloc_at _ _ _ _ (by simp)]; rfl

set_option maxRecDepth 100000 in
set_option maxHeartbeats 1000000 in
theorem sTermPut_any (s v : Int) (a : Option Addr) (c : Nat) (k : Fo) (pA : Option Addr) (pC : Nat) (place : List Int) (s2 v2 : Int) (a2 : Option Addr) (c2 : Nat) (k2 : Fo) (w : World) (hl : Sl w 0 w.heap.size a k) (hp : ISc w 0 w.heap.size pA pC place) (hpl : place.length ≤ 1048576) (hl2 : Sl w 0 w.heap.size a2 k2) :
    Calls Try.prog 39 #[.agg #[.int .i64 s, .int .i64 v, .slice a (flen k) c], .slice pA place.length pC, .agg #[.int .i64 s2, .int .i64 v2, .slice a2 (flen k2) c2]] w (PutPost s v k place (s2, v2, k2) w) := by
  have HL := Lib.hid hl
  have HL2 := Lib.hid hl2
  have HP := Lib.hid hp
  clear hl hl2 hp
  have hb0 : Below w.heap.size w (((w.alloc (.cells #[.int .i64 s, .int .i64 v, .slice a (flen k) c] 25)).alloc (.cells #[.int .i64 s2, .int .i64 v2, .slice a2 (flen k2) c2] 25)).alloc (.cells #[.int .i64 0, .int .i64 0, .slice none 0 0] 25)) := (((Below.refl _ _).alloc (Nat.le_refl _) _).alloc (by simp) _).alloc (by simp; omega) _
  have HB0 := Lib.hid hb0
  clear hb0
  go_enter Try.func39, Try.ntmps39
  go_wp2_with fail
  with_reducible refine (sTermOk_any s v a c k _ ?_).mono ?_
  · exact (HL.out.below HB0.out).mono (Nat.le_refl _) HB0.out.size
  rintro e w2 ⟨rfl, hb⟩
  have hs2 := hb.size
  simp at hs2
  have hb' := hb.mono (show w.heap.size + 3 ≤ _ by simp)
  obtain ⟨hc0, hc1, hc2⟩ := put_box hb'
  obtain ⟨hr0, hr1, hr2, hq0, hq1, hq2⟩ := put_cells hb'
  have HB2' := Lib.hid hb'
  have HB2 := Lib.hid (HB0.out.trans (hb.mono HB0.out.size))
  clear hb hb'
  cases hok : okW s v k 16 with
  | false =>
    have HR : Hid (putR s v k place (s2, v2, k2) = (0, 0, .nil, false)) := by unfold Hid putR; rw [hok]; simp
    clear hok
    go_wp2_with fail
    refine bodyPost_ret (v := .tuple #[.agg #[.int .i64 0, .int .i64 0, .slice none 0 0], .bool false]) ?_ rfl (put_end (k' := .nil) HR.out HB2.out (.inl rfl) _ _ _)
    simp [results, Try.results39, go_sem, hr0, hr1, hr2]
  | true =>
    have HOK := Lib.hid hok
    have hsz := ((okW_iff _ _ _ _).1 hok).2.2
    clear hok hr0 hr1 hr2 hq0 hq1 hq2
    go_wp2_with fail
    with_reducible refine (sTermOk_any s2 v2 a2 c2 k2 _ ?_).mono ?_
    · exact (HL2.out.below HB2.out).mono (Nat.le_refl _) HB2.out.size
    rintro e w3 ⟨rfl, hb3⟩
    have hs3 := hb3.size
    have hb3' := HB2'.out.trans (hb3.mono (show w.heap.size + 3 ≤ _ by omega))
    obtain ⟨hr0, hr1, hr2, hq0, hq1, hq2⟩ := put_cells hb3'
    have HB3' := Lib.hid hb3'
    have HB3 := Lib.hid (HB2.out.trans (hb3.mono (by omega)))
    clear hb3 hc0 hc1 hc2
    cases hok2 : okW s2 v2 k2 16 with
    | false =>
      have HR : Hid (putR s v k place (s2, v2, k2) = (0, 0, .nil, false)) := by unfold Hid putR; simp [hok2]
      clear hok2 hb3'
      go_wp2_with fail
      refine bodyPost_ret (v := .tuple #[.agg #[.int .i64 0, .int .i64 0, .slice none 0 0], .bool false]) ?_ rfl (put_end (k' := .nil) HR.out HB3.out (.inl rfl) _ _ _)
      simp [results, Try.results39, go_sem, hr0, hr1, hr2]
    | true =>
      have HOK2 := Lib.hid hok2
      have hsz2 := ((okW_iff _ _ _ _).1 hok2).2.2
      obtain ⟨hd0, hd1, hd2⟩ := put_box0 hb3'
      clear hok2 hr0 hr1 hr2 hq0 hq1 hq2 hb3'
      have HL3 := Lib.hid ((HL.out.below HB3.out).mono (lo' := 0) (Nat.le_refl _) HB3.out.size)
      have HP3 := Lib.hid ((HP.out.same (Same.of_below HB3.out)).mono (lo' := 0) (Nat.le_refl _) HB3.out.size)
      have HP3i := Lib.hid HP3.out.1
      go_wp2_with fail
      with_reducible refine (l1At_any s v a c k pA pC place _ HL3.out HP3i.out hpl (by omega)).mono ?_
      rintro e w4 ⟨hb4, hcase⟩
      have hs4 := hb4.size
      have HB4' := Lib.hid (HB3'.out.trans (hb4.mono (by omega)))
      have HB4 := Lib.hid (HB3.out.trans (hb4.mono (by omega)))
      clear hb4 hd0 hd1 hd2
      rcases hcase with ⟨s4, v4, k4, a4, c4, hf, rfl, _⟩ | ⟨hf, rfl⟩
      · have hth := fput_there place s v k (s2, v2, k2)
        rw [hf] at hth
        obtain ⟨⟨s', v', k'⟩, hput⟩ := Option.isSome_iff_exists.1 hth
        have h1 := (okW_iff _ _ _ _).1 HOK.out
        have h2 := (okW_iff _ _ _ _).1 HOK2.out
        have hfo := fput_ok place s v k _ h1.1 h1.2.1 h2.1 h2.2.1 hput
        have hfs := fput_sz place s v k _ hput hf
        dsimp only at hfs
        have hb5 := HB4'.out.alloc (by omega) (.cells #[.int .i64 s4, .int .i64 v4, .slice a4 (flen k4) c4] 25)
        obtain ⟨hd0, hd1, hd2⟩ := put_box0 hb5
        obtain ⟨hc0, hc1, hc2⟩ := put_box hb5
        have HB5' := Lib.hid hb5
        have HB5 := Lib.hid (HB4.out.alloc HB4.out.size (.cells #[.int .i64 s4, .int .i64 v4, .slice a4 (flen k4) c4] 25))
        have HPUT := Lib.hid hput
        have HFO := Lib.hid hfo
        clear hth h1 h2 hf hb5 hput hfo
        have HL5 := Lib.hid ((HL.out.below HB5.out).mono (lo' := 0) (Nat.le_refl _) HB5.out.size)
        have HM5 := Lib.hid ((HL2.out.below HB5.out).mono (lo' := 0) (Nat.le_refl _) HB5.out.size)
        have HP5 := Lib.hid ((HP.out.same (Same.of_below HB5.out)).mono (lo' := 0) (Nat.le_refl _) HB5.out.size)
        go_wp2_with fail
        with_reducible refine (l1Put_any s2 v2 a2 c2 k2 (by omega) place s v a c k pA pC s' v' k' _ HL5.out HP5.out hpl HM5.out (by omega) HPUT.out).mono ?_
        rintro e w6 ⟨a6, c6, rfl, hb6, hl6⟩
        have hs6 := hb6.size
        simp at hs6
        have hb7 := hb6.alloc hb6.size (.cells #[.int .i64 s', .int .i64 v', .slice a6 (flen k') c6] 25)
        have hb7' := HB5'.out.trans (hb7.mono (show w.heap.size + 3 ≤ _ by simp; omega))
        have HL7 := Lib.hid (hl6.low ((Below.refl _ _).alloc (Nat.le_refl _) (.cells #[.int .i64 s', .int .i64 v', .slice a6 (flen k') c6] 25)))
        have HB7' := Lib.hid hb7'
        have HB7 := Lib.hid (HB5.out.trans (hb7.mono (by simp; omega)))
        clear hb6 hb7 hb7' hl6 hd0 hd1 hd2 hc0 hc1 hc2
        go_wp2_with fail
        with_reducible refine (sTermOk_any s' v' a6 c6 k' _ (HL7.out.mono (Nat.zero_le _) (Nat.le_refl _))).mono ?_
        rintro e w8 ⟨rfl, hb8⟩
        have hs8 := hb8.size
        simp at hs8
        have hb8' := HB7'.out.trans (hb8.mono (show w.heap.size + 3 ≤ _ by simp; omega))
        obtain ⟨hr0, hr1, hr2, hq0, hq1, hq2⟩ := put_cells hb8'
        have HB8 := Lib.hid (HB7.out.trans (hb8.mono (by simp; omega)))
        have HL8 := Lib.hid ((HL7.out.low hb8).mono (lo' := w.heap.size + 3) (by simp; omega) (Nat.le_refl _))
        obtain ⟨he0, he1, he2⟩ := box_cells (w := w6) (x := .int .i64 s') (y := .int .i64 v') (z := .slice a6 (flen k') c6) (T := 25) ⟨w8, by simpa using hb8⟩
        dsimp only at he0 he1 he2
        clear hb8 hb8'
        by_cases hbig : 1 + fsz k' ≤ 16
        · have hok6 : okW s' v' k' 16 = true := (okW_iff _ _ _ _).2 ⟨HFO.out.1, HFO.out.2, by omega⟩
          have HR : Hid (putR s v k place (s2, v2, k2) = (s', v', k', true)) := putR_some HOK.out HOK2.out HPUT.out hbig
          rw [hok6]
          clear hok6
          go_wp2_with fail
          refine bodyPost_ret (v := .tuple #[.agg #[.int .i64 s', .int .i64 v', .slice a6 (flen k') c6], .bool true]) ?_ rfl (put_end HR.out HB8.out HL8.out _ _ _)
          simp [results, Try.results39, go_sem, hr0, hr1, hr2]
        · have hok6 : okW s' v' k' 16 = false := by
            cases h : okW s' v' k' 16 with
            | false => rfl
            | true => have := ((okW_iff _ _ _ _).1 h).2.2; omega
          have HR : Hid (putR s v k place (s2, v2, k2) = (0, 0, .nil, false)) := by unfold Hid putR; rw [if_pos ⟨HOK.out, HOK2.out⟩, HPUT.out]; dsimp only; rw [if_neg hbig]
          rw [hok6]
          clear hok6
          go_wp2_with fail
          refine bodyPost_ret (v := .tuple #[.agg #[.int .i64 0, .int .i64 0, .slice none 0 0], .bool false]) ?_ rfl (put_end (k' := .nil) HR.out HB8.out (.inl rfl) _ _ _)
          simp [results, Try.results39, go_sem, hr0, hr1, hr2]
      · have hth := fput_there place s v k (s2, v2, k2)
        rw [hf] at hth
        have hput : fput s v k place (s2, v2, k2) = none := by
          cases h : fput s v k place (s2, v2, k2) with
          | none => rfl
          | some y => rw [h] at hth; cases hth
        have HR : Hid (putR s v k place (s2, v2, k2) = (0, 0, .nil, false)) := by unfold Hid putR; rw [if_pos ⟨HOK.out, HOK2.out⟩, hput]
        have hb5 := HB4'.out.alloc (by omega) (.cells #[.int .i64 0, .int .i64 0, .slice none 0 0] 25)
        obtain ⟨hr0, hr1, hr2, hq0, hq1, hq2⟩ := put_cells hb5
        have HB5 := Lib.hid (HB4.out.alloc HB4.out.size (.cells #[.int .i64 0, .int .i64 0, .slice none 0 0] 25))
        clear hth hf hput hb5
        go_wp2_with fail
        refine bodyPost_ret (v := .tuple #[.agg #[.int .i64 0, .int .i64 0, .slice none 0 0], .bool false]) ?_ rfl (put_end (k' := .nil) HR.out HB5.out (.inl rfl) _ _ _)
        simp [results, Try.results39, go_sem, hr0, hr1, hr2]
end Go.Proofs.Ytebalmemncldlab
