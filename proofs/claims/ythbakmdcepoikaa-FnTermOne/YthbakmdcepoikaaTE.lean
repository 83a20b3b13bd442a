/- Terms compared: plain lemmas. -/
import Derived.Test.YthbakmdcepoikaaT4
namespace Go.Proofs.Ythbakmdcepoikaa
open Go.RowKit Go.Deep

def feq : Fo → Fo → Bool
  | .nil, .nil => true
  | .node _ _ p k r, .node _ _ p' k' r' => decide (p = p') && (feq k k' && feq r r')
  | _, _ => false
/-- The same term. -/
def teq (s v : Int) (k : Fo) (s' v' : Int) (k' : Fo) : Bool := decide (s = s') && (decide (v = v') && feq k k')
theorem feq_iff : ∀ k k' : Fo, feq k k' = true ↔ fer k = fer k'
  | .nil, .nil => by simp [feq, fer]
  | .nil, .node _ _ _ _ _ => by simp [feq, fer]
  | .node _ _ _ _ _, .nil => by simp [feq, fer]
  | .node _ _ p k r, .node _ _ p' k' r' => by
    simp only [feq, fer, Bool.and_eq_true, decide_eq_true_eq, feq_iff k k', feq_iff r r', BT.node.injEq, true_and]
theorem feq_len : ∀ {k k' : Fo}, feq k k' = true → flen k = flen k'
  | .nil, .nil, _ => rfl
  | .nil, .node _ _ _ _ _, h => by simp [feq] at h
  | .node _ _ _ _ _, .nil, h => by simp [feq] at h
  | .node _ _ p k r, .node _ _ p' k' r', h => by
    simp only [feq, Bool.and_eq_true] at h
    simp [flen, feq_len h.2.2]
theorem teq_sign {s v : Int} {k : Fo} {s' v' : Int} {k' : Fo} (h : s ≠ s') : teq s v k s' v' k' = false := by simp [teq, h]
theorem teq_var {s v : Int} {k : Fo} {s' v' : Int} {k' : Fo} (h : v ≠ v') : teq s v k s' v' k' = false := by simp [teq, h]
theorem teq_len {s v : Int} {k : Fo} {s' v' : Int} {k' : Fo} (h : flen k ≠ flen k') : teq s v k s' v' k' = false := by
  cases hf : feq k k' with
  | false => simp [teq, hf]
  | true => exact absurd (feq_len hf) h
theorem teq_kids {s v : Int} {k k' : Fo} : teq s v k s v k' = feq k k' := by simp [teq]
theorem feq_drop {k k' : Fo} {j x y x' y' : Nat} {s v s' v' : Int} {kk kk' : Fo} (h : fdrop j k = .node x y (s, v) kk (fdrop (j + 1) k)) (h' : fdrop j k' = .node x' y' (s', v') kk' (fdrop (j + 1) k')) :
    feq (fdrop j k) (fdrop j k') = (teq s v kk s' v' kk' && feq (fdrop (j + 1) k) (fdrop (j + 1) k')) := by
  rw [h, h']
  simp only [feq, teq, Prod.mk.injEq, Bool.and_assoc]
  by_cases h1 : s = s' <;> by_cases h2 : v = v' <;> simp [h1, h2]
theorem teq_iff {s v : Int} {k : Fo} {s' v' : Int} {k' : Fo} : teq s v k s' v' k' = true ↔ s = s' ∧ v = v' ∧ fer k = fer k' := by
  simp only [teq, Bool.and_eq_true, decide_eq_true_eq, feq_iff]
/-- Texts are the same just if the terms are. -/
theorem tx_teq {s v : Int} {k : Fo} {s' v' : Int} {k' : Fo} (h : Shape s v k) (h' : Shape s' v' k') : (tx s v k = tx s' v' k') ↔ teq s v k s' v' k' = true := by
  rw [teq_iff]
  refine ⟨fun he => tx_inj' h h' he, ?_⟩
  rintro ⟨rfl, rfl, he⟩
  exact tx_same he
end Go.Proofs.Ythbakmdcepoikaa
