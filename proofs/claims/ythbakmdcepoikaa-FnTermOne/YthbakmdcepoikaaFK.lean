/- The kids of a well-formed term are. -/
import Derived.Test.YthbakmdcepoikaaWB
namespace Go.Proofs.Ythbakmdcepoikaa
open Go.RowKit Go.Deep

theorem fok_kid {i : Nat} {k : Fo} {x y : Nat} {s v : Int} {kk r : Fo} (h : fok k = true) (hd : fdrop i k = .node x y (s, v) kk r) : okN s v (flen kk) = true ∧ fok kk = true := by
  have hf : ∀ (i : Nat) (k : Fo), fok k = true → fok (fdrop i k) = true := by
    intro i
    induction i with
    | zero => intro k h; exact h
    | succ n ih =>
      intro k h
      cases k with
      | nil => rfl
      | node _ _ p kk r => simp only [fok, Bool.and_eq_true] at h; exact ih r h.2
  have h4 := hf i k h
  rw [hd] at h4
  simp only [fok, Bool.and_eq_true] at h4
  exact h4.1
end Go.Proofs.Ythbakmdcepoikaa
