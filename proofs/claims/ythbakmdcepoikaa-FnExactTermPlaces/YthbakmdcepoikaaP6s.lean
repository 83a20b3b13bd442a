/- spec.TermPlaces: of a term the places, of any other value none. -/
import Derived.Test.YthbakmdcepoikaaTP
namespace Go.Proofs.Ythbakmdcepoikaa
open Go.RowKit Go.Deep

set_option maxRecDepth 100000 in
set_option maxHeartbeats 1000000 in
theorem sTermPlaces_any (s v : Int) (a : Option Addr) (c : Nat) (k : Fo) (w : World) (hl : Sl w 0 w.heap.size a k) :
    Calls Try.prog 13 #[.agg #[.int .i64 s, .int .i64 v, .slice a (flen k) c]] w (TpPost s v k w) := by
  have hl1 := (hl.below ((Below.refl _ _).alloc (Nat.le_refl _) (.cells #[.int .i64 s, .int .i64 v, .slice a (flen k) c] 25))).mono (Nat.le_refl _) (show w.heap.size ≤ (w.alloc (.cells #[.int .i64 s, .int .i64 v, .slice a (flen k) c] 25)).heap.size by simp)
  have HL1 := Lib.hid hl1
  clear hl1
  cases hok : okW s v k 16 with
  | false =>
    have HOK := Lib.hid hok
    clear hok
    go_enter Try.func13, Try.ntmps13
    go_wp2_with fail
    with_reducible refine (sTermOk_any s v a c k _ HL1.out).mono ?_
    rw [HOK.out]
    rintro e w2 ⟨rfl, hb⟩
    have HB := Lib.hid (((Below.refl w.heap.size w).alloc (Nat.le_refl _) _).trans (hb.mono (by simp)))
    have hs2 := HB.out.size
    clear hb
    go_wp2_with fail
    go_ret
    exact ⟨_, _, [], rfl, by rw [HOK.out]; rfl, HB.out.alloc hs2 _, .inl rfl⟩
  | true =>
    have hsz := ((okW_iff _ _ _ _).1 hok).2.2
    have HOK := Lib.hid hok
    clear hok
    go_enter Try.func13, Try.ntmps13
    go_wp2_with fail
    with_reducible refine (sTermOk_any s v a c k _ HL1.out).mono ?_
    rw [HOK.out]
    rintro e w2 ⟨rfl, hb⟩
    obtain ⟨hc0, hc1, hc2⟩ := box_cells (w := w) ⟨w2, by simpa using hb⟩
    dsimp only at hc0 hc1 hc2
    have HL2 := Lib.hid (HL1.out.low hb)
    have HB := Lib.hid (((Below.refl w.heap.size w).alloc (Nat.le_refl _) _).trans (hb.mono (by simp)))
    have hs2 := HB.out.size
    clear hb
    go_wp2_with fail
    with_reducible refine (l1Places_any (fsz k) s v a c k none 0 0 [] _ HL2.out isl_nil rfl (Nat.le_refl _) (by omega) (by simp; omega)).mono ?_
    rintro e w3 ⟨A, C, rfl, hb3, hr3⟩
    have HP : Hid (TpPost s v k w (.returned (.slice A (1 + fsz k) C)) w3) :=
      ⟨A, C, places k, by rw [places_len], by rw [HOK.out]; rfl, HB.out.trans (hb3.mono hs2), (by simpa using hr3 : RSl w3 w2.heap.size w3.heap.size A (places k)).mono hs2 (Nat.le_refl _)⟩
    clear hb3 hr3
    go_wp2_with fail
    go_ret
    exact HP.out
end Go.Proofs.Ythbakmdcepoikaa
