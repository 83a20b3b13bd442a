/- spec.TermAt. -/
import Derived.Test.YtebalmemncldlabB1
namespace Go.Proofs.Ytebalmemncldlab
open Go.RowKit Go.Deep

set_option maxRecDepth 100000 in
set_option maxHeartbeats 1000000 in
theorem sTermAt_any (s v : Int) (a : Option Addr) (c : Nat) (k : Fo) (pA : Option Addr) (pC : Nat) (place : List Int) (w : World) (hl : Sl w 0 w.heap.size a k) (hp : ISl w 0 w.heap.size pA place) (hpl : place.length ≤ 1048576) :
    Calls Try.prog 36 #[.agg #[.int .i64 s, .int .i64 v, .slice a (flen k) c], .slice pA place.length pC] w (AtPost s v k place w) := by
  have HL := Lib.hid hl
  have HP := Lib.hid hp
  clear hl hp
  have hb0 : Below w.heap.size w ((w.alloc (.cells #[.int .i64 s, .int .i64 v, .slice a (flen k) c] 25)).alloc (.cells #[.int .i64 0, .int .i64 0, .slice none 0 0] 25)) := ((Below.refl _ _).alloc (Nat.le_refl _) _).alloc (by simp) _
  have HB0 := Lib.hid hb0
  clear hb0
  go_enter Try.func36, Try.ntmps36
  go_wp2_with fail
  with_reducible refine (sTermOk_any s v a c k _ ?_).mono ?_
  · exact (HL.out.below HB0.out).mono (Nat.le_refl _) HB0.out.size
  rintro e w2 ⟨rfl, hb⟩
  have hb' := hb.mono (show w.heap.size + 2 ≤ _ by simp)
  have hs2 := hb.size
  simp at hs2
  obtain ⟨hc0, hc1, hc2⟩ := box_cells (w := w) ⟨w2, ((Below.refl _ _).alloc (by simp) _).trans (hb.mono (by simp))⟩
  dsimp only at hc0 hc1 hc2
  obtain ⟨hr0, hr1, hr2, hq0, hq1, hq2⟩ := at_cells hb'
  have HB2' := Lib.hid hb'
  have HB2 := Lib.hid (HB0.out.trans (hb.mono HB0.out.size))
  clear hb hb'
  cases hok : okW s v k 16 with
  | false =>
    have HR : Hid (atR s v k place = (0, 0, .nil, false)) := by unfold Hid atR; rw [hok]; rfl
    clear hok
    go_wp2_with fail
    refine bodyPost_ret (v := .tuple #[.agg #[.int .i64 0, .int .i64 0, .slice none 0 0], .bool false]) ?_ rfl (at_end (k' := .nil) HR.out HB2.out (.inl rfl) _ _ _)
    simp [results, Try.results36, go_sem, hr0, hr1, hr2]
  | true =>
    have HOK := Lib.hid hok
    have hsz := ((okW_iff _ _ _ _).1 hok).2.2
    clear hok
    have HL2 := Lib.hid ((HL.out.below HB2.out).mono (lo' := 0) (Nat.le_refl _) HB2.out.size)
    clear hr0 hr1 hr2 hq0 hq1 hq2
    go_wp2_with fail
    with_reducible refine (l1At_any s v a c k pA pC place _ HL2.out ?_ hpl (by omega)).mono ?_
    · exact (HP.out.below HB2.out).mono (Nat.le_refl _) HB2.out.size
    rintro e w3 ⟨hb3, hcase⟩
    have hs3 := hb3.size
    have HB3' := Lib.hid (HB2'.out.trans (hb3.mono (by omega)))
    have HB3 := Lib.hid (HB2.out.trans (hb3.mono (by omega)))
    clear hc0 hc1 hc2
    rcases hcase with ⟨s', v', k', a3, c3, hf, rfl, hl3⟩ | ⟨hf, rfl⟩
    · have HR : Hid (atR s v k place = (s', v', k', true)) := by unfold Hid atR; rw [HOK.out, hf]; rfl
      have hfo := fat_ok place s v k ((okW_iff _ _ _ _).1 HOK.out).1 ((okW_iff _ _ _ _).1 HOK.out).2.1 hf
      have hk' := hfo.2.2
      have HL3 := Lib.hid (hl3.below hb3)
      clear hl3 hb3 hf hfo
      go_wp2_with fail
      with_reducible refine (l1Copy_any (fsz k') s' v' a3 c3 k' _ ?_ (Nat.le_refl _) (by omega)).mono ?_
      · exact (HL3.out.below ((Below.refl _ _).alloc (by omega) _)).mono (Nat.le_refl _) (by simp; omega)
      rintro e w4 ⟨a4, c4, rfl, hb4, hown4⟩
      have hb4' : Below w3.heap.size w3 w4 := ((Below.refl _ _).alloc (Nat.le_refl _) _).trans (hb4.mono (by simp))
      have hs4 := hb4.size
      simp at hs4
      obtain ⟨hr0, hr1, hr2, hq0, hq1, hq2⟩ := at_cells (HB3'.out.trans (hb4'.mono (by omega)))
      have HB4 := Lib.hid (HB3.out.trans (hb4'.mono (by omega)))
      have HL4 := Lib.hid (hown4.sl.mono (lo' := w.heap.size + 2) (by simp; omega) (Nat.le_refl _))
      clear hb4 hb4' hown4
      go_wp2_with fail
      refine bodyPost_ret (v := .tuple #[.agg #[.int .i64 s', .int .i64 v', .slice a4 (flen k') c4], .bool true]) ?_ rfl (at_end HR.out HB4.out HL4.out _ _ _)
      simp [results, Try.results36, go_sem, hr0, hr1, hr2]
    · have HR : Hid (atR s v k place = (0, 0, .nil, false)) := by unfold Hid atR; rw [HOK.out, hf]; rfl
      have hb4 := HB3.out.alloc HB3.out.size (.cells #[.int .i64 0, .int .i64 0, .slice none 0 0] 25)
      obtain ⟨hr0, hr1, hr2, hq0, hq1, hq2⟩ := at_cells (HB3'.out.alloc (by omega) (.cells #[.int .i64 0, .int .i64 0, .slice none 0 0] 25))
      have HB4 := Lib.hid hb4
      clear hb3 hf hb4
      go_wp2_with fail
      refine bodyPost_ret (v := .tuple #[.agg #[.int .i64 0, .int .i64 0, .slice none 0 0], .bool false]) ?_ rfl (at_end (k' := .nil) HR.out HB4.out (.inl rfl) _ _ _)
      simp [results, Try.results36, go_sem, hr0, hr1, hr2]
end Go.Proofs.Ytebalmemncldlab
