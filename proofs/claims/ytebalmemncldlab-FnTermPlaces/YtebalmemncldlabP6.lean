/- impl.TermPlaces and spec.TermPlaces: of a term the places, of any other value none. -/
import Derived.Test.YtebalmemncldlabP5
import Derived.Test.YtebalmemncldlabP6a
namespace Go.Proofs.Ytebalmemncldlab
open Go.RowKit Go.Deep

set_option maxRecDepth 100000 in
set_option maxHeartbeats 1000000 in
theorem sTermPlaces_any (s v : Int) (a : Option Addr) (c : Nat) (k : Fo) (w : World) (hl : Sl w 0 w.heap.size a k) :
    Calls Try.prog 17 #[.agg #[.int .i64 s, .int .i64 v, .slice a (flen k) c]] w (TpPost s v k w) := by
  have hl1 := (hl.below ((Below.refl _ _).alloc (Nat.le_refl _) (.cells #[.int .i64 s, .int .i64 v, .slice a (flen k) c] 25))).mono (Nat.le_refl _) (show w.heap.size ≤ (w.alloc (.cells #[.int .i64 s, .int .i64 v, .slice a (flen k) c] 25)).heap.size by simp)
  have HL1 := Lib.hid hl1
  clear hl1
  cases hok : okW s v k 16 with
  | false =>
    have HOK := Lib.hid hok
    clear hok
    go_enter Try.func17, Try.ntmps17
    go_wp2_with fail
    with_reducible refine (sTermOk_any s v a c k _ HL1.out).mono ?_
    rw [HOK.out]
    rintro e w2 ⟨rfl, hb⟩
    have HB := Lib.hid (((Below.refl w.heap.size w).alloc (Nat.le_refl _) _).trans (hb.mono (by simp)))
    have hs2 := HB.out.size
    clear hb
    go_wp2_with fail
    go_ret
    exact ⟨_, _, [], rfl, by rw [HOK.out]; rfl, HB.out.alloc hs2 _, .inl rfl⟩
  | true =>
    have hsz := ((okW_iff _ _ _ _).1 hok).2.2
    have HOK := Lib.hid hok
    clear hok
    go_enter Try.func17, Try.ntmps17
    go_wp2_with fail
    with_reducible refine (sTermOk_any s v a c k _ HL1.out).mono ?_
    rw [HOK.out]
    rintro e w2 ⟨rfl, hb⟩
    obtain ⟨hc0, hc1, hc2⟩ := box_cells (w := w) ⟨w2, by simpa using hb⟩
    dsimp only at hc0 hc1 hc2
    have HL2 := Lib.hid (HL1.out.low hb)
    have HB := Lib.hid (((Below.refl w.heap.size w).alloc (Nat.le_refl _) _).trans (hb.mono (by simp)))
    have hs2 := HB.out.size
    clear hb
    go_wp2_with fail
    with_reducible refine (l1Places_any (fsz k) s v a c k none 0 0 [] _ HL2.out isl_nil rfl (Nat.le_refl _) (by omega) (by simp; omega)).mono ?_
    rintro e w3 ⟨A, C, rfl, hb3, hr3⟩
    have HP : Hid (TpPost s v k w (.returned (.slice A (1 + fsz k) C)) w3) :=
      ⟨A, C, places k, by rw [places_len], by rw [HOK.out]; rfl, HB.out.trans (hb3.mono hs2), (by simpa using hr3 : RSl w3 w2.heap.size w3.heap.size A (places k)).mono hs2 (Nat.le_refl _)⟩
    clear hb3 hr3
    go_wp2_with fail
    go_ret
    exact HP.out

set_option maxRecDepth 100000 in
set_option maxHeartbeats 1000000 in
theorem DrawTermPlaces_any (a : Option Addr) (len cap : Nat) (w : World) (hby : Bytes w a len) (hlen : len ≤ cap) :
    Calls Try.prog 14 #[.slice a len cap] w (TermPost 31000 w) := by
  have HBY := Lib.hid hby
  clear hby
  go_enter Try.func14, Try.ntmps14
  go_wp2_with fail
  with_reducible refine (l6Open_any a len cap _ (HBY.out.alloc _) hlen).mono ?_
  rintro e w1 ⟨rfl, hb1, hrd⟩
  have hs1 := hb1.size
  simp at hs1
  simp only [World.size_alloc] at hrd
  have hlt1 := hrd.lt
  have HRD := Lib.hid hrd
  have HB1 : Hid (Below (w.heap.size + 1) (w.alloc (.cells #[.int .i64 0, .int .i64 0, .slice none 0 0] 25)) w1) := hb1.mono (by simp)
  clear hb1 hrd
  simp only [World.size_alloc]
  go_wp2_with fail
  with_reducible refine (l71Some_any (w.heap.size + 1) 0 _ HRD.out (by omega)).mono ?_
  rintro e w2 ⟨s, v, a2, c2, k, p2, rfl, _, hp2, hS2, ha2, hl2⟩
  have hb2 := adv_low HB1.out (by omega) (by omega) ha2
  obtain ⟨hr0, hr1, hr2, hf0, hf1, hf2⟩ := res_low hb2
  have HB2 := Lib.hid hb2
  have HL2 := Lib.hid (hl2.mono (lo' := w.heap.size + 1) (by omega) (Nat.le_refl _))
  clear ha2 hl2 hb2
  go_wp2_with fail
  refine bodyPost_ret (v := .agg #[.int .i64 s, .int .i64 v, .slice a2 (flen k) c2]) ?_ rfl (term_end HB2.out hS2 HL2.out)
  simp [results, Try.results14, go_sem, hr0, hr1, hr2]
end Go.Proofs.Ytebalmemncldlab
