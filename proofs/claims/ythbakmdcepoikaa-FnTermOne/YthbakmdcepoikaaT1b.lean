/- TermText of the program. -/
import Derived.Test.YthbakmdcepoikaaT1
namespace Go.Proofs.Ythbakmdcepoikaa
open Go.RowKit Go.Deep

set_option maxRecDepth 100000 in
set_option maxHeartbeats 1000000 in
theorem iTermText_any (s v : Int) (a : Option Addr) (c : Nat) (k : Fo) (w : World) (hl : Sl w 0 w.heap.size a k) :
    Calls Try.prog 7 #[.agg #[.int .i64 s, .int .i64 v, .slice a (flen k) c]] w fun e w' => e = .returned (.string (str (if okW s v k 16 = true then tx s v k else []))) ∧ Below w.heap.size w w' := by
  cases hok : okW s v k 16 with
  | false =>
    have HOK := Lib.hid hok
    clear hok
    go_enter Try.func7, Try.ntmps7
    go_wp2_with fail
    with_reducible refine (nodeOf_any s v a c k 16 _ ?_ (by omega) (by omega)).mono ?_
    · exact (hl.below ((Below.refl _ _).alloc (Nat.le_refl _) _)).mono (Nat.le_refl _) (by simp)
    rintro e w2 ⟨nv, he, hb, hyes⟩
    rw [HOK.out] at he
    subst he
    clear hyes
    go_wp2_with fail
    go_ret
    exact ⟨rfl, ((Below.refl _ _).alloc (Nat.le_refl _) _).trans (hb.mono (by simp))⟩
  | true =>
    have HOK := Lib.hid hok
    obtain ⟨hoN, hof, hsz⟩ := (okW_iff _ _ _ _).1 hok
    clear hok
    go_enter Try.func7, Try.ntmps7
    go_wp2_with fail
    with_reducible refine (nodeOf_any s v a c k 16 _ ?_ (by omega) (by omega)).mono ?_
    · exact (hl.below ((Below.refl _ _).alloc (Nat.le_refl _) _)).mono (Nat.le_refl _) (by simp)
    rintro e w2 ⟨nv, he, hb, hyes⟩
    rw [HOK.out] at he
    subst he
    have hn := hyes HOK.out
    have HB := Lib.hid (((Below.refl _ _).alloc (Nat.le_refl _) _).trans (hb.mono (by simp)))
    clear hyes hb
    rcases hn with ⟨rfl, rfl, rfl⟩ | ⟨hs', a2, c2, rfl, hn2⟩
    · have hv := ((okN_iff _ _ _).1 hoN).2.1 rfl
      go_wp2_with fail
      refine upon_method 64 (by kernel_rfl) (by kernel_rfl) ?_
      go_simp
      with_reducible refine (varText_any v hv.1 (by omega) _).mono ?_
      rintro e w3 ⟨rfl, rfl⟩
      go_wp2_with fail
      go_ret
      exact ⟨by simp [tx_var], HB.out⟩
    · have HN2 := Lib.hid hn2
      have hv0 : v = 0 := ((okN_iff _ _ _).1 hoN).2.2 hs'
      subst hv0
      have HHO := Lib.hid hoN
      have HHF := Lib.hid hof
      have HS := Lib.hid hs'
      clear hn2 hoN hof hs'
      go_wp2_with fail
      refine upon_method 81 (by kernel_rfl) (by kernel_rfl) ?_
      go_simp
      with_reducible refine (symText_any (fsz k) s a2 c2 k _ ?_ HS.out HHO.out HHF.out (Nat.le_refl _) (by omega)).mono ?_
      · exact HN2.out.mono (Nat.zero_le _) (Nat.le_refl _)
      rintro e w3 ⟨rfl, hb3⟩
      go_wp2_with fail
      go_ret
      exact ⟨by simp, HB.out.trans (hb3.mono HB.out.size)⟩
end Go.Proofs.Ythbakmdcepoikaa
