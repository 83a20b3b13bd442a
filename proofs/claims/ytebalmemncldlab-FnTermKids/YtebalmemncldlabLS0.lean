/- A child of a term that is kept is kept. -/
import Derived.Test.YtebalmemncldlabWK0
import Derived.Test.YtebalmemncldlabWL
namespace Go.Proofs.Ytebalmemncldlab
open Go.RowKit Go.Deep

theorem okW_kid2 {s v : Int} {k : Fo} {m : Int} {i x y : Nat} {s' v' : Int} {kk r : Fo} (h : okW s v k m = true) (hd : fdrop i k = .node x y (s', v') kk r) : okW s' v' kk m = true := by
  obtain ⟨_, h2, h3⟩ := (okW_iff _ _ _ _).1 h
  have hf : ∀ (i : Nat) (k : Fo), fok k = true → fok (fdrop i k) = true := by
    intro i
    induction i with
    | zero => intro k h; exact h
    | succ n ih =>
      intro k h
      cases k with
      | nil => rfl
      | node _ _ p kk r => simp only [fok, Bool.and_eq_true] at h; exact ih r h.2
  have h4 := hf i k h2
  rw [hd] at h4
  simp only [fok, Bool.and_eq_true] at h4
  have h5 := fsz_kid hd
  exact (okW_iff _ _ _ _).2 ⟨h4.1.1, h4.1.2, by omega⟩
end Go.Proofs.Ytebalmemncldlab
