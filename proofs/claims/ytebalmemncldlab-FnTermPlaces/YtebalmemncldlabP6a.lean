/- impl.TermPlaces and spec.TermPlaces: of a term the places, of any other value none. -/
import Derived.Test.YtebalmemncldlabP5a
import Derived.Test.YtebalmemncldlabWK0
namespace Go.Proofs.Ytebalmemncldlab
open Go.RowKit Go.Deep

theorem isl_nil {w : World} {lo B : Nat} {a : Option Addr} : ISl w lo B a [] := Or.inl rfl

def TpPost (s v : Int) (k : Fo) (w : World) (e : Ending) (w' : World) : Prop :=
  ∃ A C rows, e = .returned (.slice A rows.length C) ∧ rows = (if okW s v k 16 = true then places k else []) ∧ Below w.heap.size w w' ∧ RSl w' w.heap.size w'.heap.size A rows

set_option maxRecDepth 100000 in
set_option maxHeartbeats 1000000 in
theorem iTermPlaces_any (s v : Int) (a : Option Addr) (c : Nat) (k : Fo) (w : World) (hl : Sl w 0 w.heap.size a k) :
    Calls Try.prog 15 #[.agg #[.int .i64 s, .int .i64 v, .slice a (flen k) c]] w (TpPost s v k w) := by
  cases hok : okW s v k 16 with
  | false =>
    have HOK := Lib.hid hok
    clear hok
    go_enter Try.func15, Try.ntmps15
    go_wp2_with fail
    with_reducible refine (nodeOf_any s v a c k 16 _ ?_ (by omega) (by omega)).mono ?_
    · exact (hl.below ((Below.refl _ _).alloc (Nat.le_refl _) _)).mono (Nat.le_refl _) (by simp)
    rintro e w2 ⟨nv, he, hb, hyes⟩
    rw [HOK.out] at he
    subst he
    clear hyes
    go_wp2_with fail
    go_ret
    exact ⟨none, 0, [], rfl, by rw [HOK.out]; rfl, ((Below.refl _ _).alloc (Nat.le_refl _) _).trans (hb.mono (by simp)), .inl rfl⟩
  | true =>
    have HOK := Lib.hid hok
    have hsz := ((okW_iff _ _ _ _).1 hok).2.2
    clear hok
    go_enter Try.func15, Try.ntmps15
    go_wp2_with fail
    with_reducible refine (nodeOf_any s v a c k 16 _ ?_ (by omega) (by omega)).mono ?_
    · exact (hl.below ((Below.refl _ _).alloc (Nat.le_refl _) _)).mono (Nat.le_refl _) (by simp)
    rintro e w2 ⟨nv, he, hb, hyes⟩
    rw [HOK.out] at he
    subst he
    have HN := Lib.hid (hyes HOK.out)
    have HB := Lib.hid (((Below.refl _ _).alloc (Nat.le_refl _) _).trans (hb.mono (by simp)))
    have hs2 := HB.out.size
    clear hyes hb
    obtain ⟨ty, vv, rfl⟩ : ∃ ty vv, nv = .iface ty vv := by
      rcases HN.out with ⟨_, _, rfl⟩ | ⟨_, _, _, rfl, _⟩
      · exact ⟨_, _, rfl⟩
      · exact ⟨_, _, rfl⟩
    go_wp2_with fail
    with_reducible refine (placesOf_any (fsz k) s v k _ _ ?_ (Nat.le_refl _) (by omega)).mono ?_
    · exact HN.out.mono (Nat.zero_le _) (Nat.le_refl _)
    rintro e w3 ⟨A, C, rfl, hb3, hr3⟩
    have HP : Hid (TpPost s v k w (.returned (.slice A (places k).length C)) w3) :=
      ⟨A, C, places k, rfl, by rw [HOK.out]; rfl, HB.out.trans (hb3.mono hs2), hr3.mono hs2 (Nat.le_refl _)⟩
    clear hb3 hr3
    go_wp2_with fail
    go_ret
    exact HP.out

end Go.Proofs.Ytebalmemncldlab
