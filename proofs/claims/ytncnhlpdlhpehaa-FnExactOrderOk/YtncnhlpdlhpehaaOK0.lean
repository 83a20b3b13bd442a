/- Rankings as plain data: what the program asks of one, and what the specification asks, are the same. -/
import Derived.Test.YtncnhlpdlhpehaaIS
namespace Go.Proofs.Ytncnhlpdlhpehaa
open Go.RowKit Go.Deep

def rkOk (xs : List Int) : Bool := decide (xs.length = 4) && (xs.contains 1 && (xs.contains 2 && (xs.contains 3 && xs.contains 4)))
def RkS (xs : List Int) : Prop := (∀ (i : Nat) (x : Int), xs[i]? = some x → 1 ≤ x ∧ x ≤ 4) ∧ ∀ (i k : Nat) (x y : Int), k < i → xs[k]? = some x → xs[i]? = some y → x ≠ y

theorem rk4 (a b c d : Int) (h1 : a = 1 ∨ b = 1 ∨ c = 1 ∨ d = 1) (h2 : a = 2 ∨ b = 2 ∨ c = 2 ∨ d = 2) (h3 : a = 3 ∨ b = 3 ∨ c = 3 ∨ d = 3) (h4 : a = 4 ∨ b = 4 ∨ c = 4 ∨ d = 4) :
    (1 ≤ a ∧ a ≤ 4) ∧ (1 ≤ b ∧ b ≤ 4) ∧ (1 ≤ c ∧ c ≤ 4) ∧ (1 ≤ d ∧ d ≤ 4) ∧ a ≠ b ∧ a ≠ c ∧ a ≠ d ∧ b ≠ c ∧ b ≠ d ∧ c ≠ d := by
  rcases h1 with h1 | h1 | h1 | h1 <;> rcases h2 with h2 | h2 | h2 | h2 <;> rcases h3 with h3 | h3 | h3 | h3 <;> rcases h4 with h4 | h4 | h4 | h4 <;> omega
theorem rk4' (a b c d n : Int) (hn : 1 ≤ n ∧ n ≤ 4) (ha : 1 ≤ a ∧ a ≤ 4) (hb : 1 ≤ b ∧ b ≤ 4) (hc : 1 ≤ c ∧ c ≤ 4) (hd : 1 ≤ d ∧ d ≤ 4) (h1 : a ≠ b) (h2 : a ≠ c) (h3 : a ≠ d) (h4 : b ≠ c) (h5 : b ≠ d) (h6 : c ≠ d) :
    n = a ∨ n = b ∨ n = c ∨ n = d := by omega
theorem len4 {xs : List Int} (h : xs.length = 4) : ∃ a b c d, xs = [a, b, c, d] := by
  match xs, h with
  | [a, b, c, d], _ => exact ⟨a, b, c, d, rfl⟩

theorem rk_iff {xs : List Int} (h : xs.length = 4) : rkOk xs = true ↔ RkS xs := by
  obtain ⟨a, b, c, d, rfl⟩ := len4 h
  constructor
  · intro hr
    simp only [rkOk, List.contains_eq_mem, List.mem_cons, List.not_mem_nil, or_false, Bool.and_eq_true, decide_eq_true_eq] at hr
    obtain ⟨_, h1, h2, h3, h4⟩ := hr
    obtain ⟨ha, hb, hc, hd, e1, e2, e3, e4, e5, e6⟩ := rk4 a b c d (by omega) (by omega) (by omega) (by omega)
    refine ⟨fun i x hx => ?_, fun i k x y hk hx hy => ?_⟩
    · match i, hx with
      | 0, hx => simp at hx; omega
      | 1, hx => simp at hx; omega
      | 2, hx => simp at hx; omega
      | 3, hx => simp at hx; omega
      | n + 4, hx => simp at hx
    · match i, k, hk, hx, hy with
      | 1, 0, _, hx, hy => simp at hx hy; omega
      | 2, 0, _, hx, hy => simp at hx hy; omega
      | 2, 1, _, hx, hy => simp at hx hy; omega
      | 3, 0, _, hx, hy => simp at hx hy; omega
      | 3, 1, _, hx, hy => simp at hx hy; omega
      | 3, 2, _, hx, hy => simp at hx hy; omega
      | n + 4, _, _, _, hy => simp at hy
  · rintro ⟨h1, h2⟩
    have ha := h1 0 a rfl
    have hb := h1 1 b rfl
    have hc := h1 2 c rfl
    have hd := h1 3 d rfl
    have e1 := h2 1 0 a b (by omega) rfl rfl
    have e2 := h2 2 0 a c (by omega) rfl rfl
    have e3 := h2 3 0 a d (by omega) rfl rfl
    have e4 := h2 2 1 b c (by omega) rfl rfl
    have e5 := h2 3 1 b d (by omega) rfl rfl
    have e6 := h2 3 2 c d (by omega) rfl rfl
    simp only [rkOk, List.contains_eq_mem, List.mem_cons, List.not_mem_nil, or_false, Bool.and_eq_true, decide_eq_true_eq]
    exact ⟨rfl, rk4' a b c d 1 (by omega) ha hb hc hd e1 e2 e3 e4 e5 e6, rk4' a b c d 2 (by omega) ha hb hc hd e1 e2 e3 e4 e5 e6, rk4' a b c d 3 (by omega) ha hb hc hd e1 e2 e3 e4 e5 e6, rk4' a b c d 4 (by omega) ha hb hc hd e1 e2 e3 e4 e5 e6⟩
theorem rk_no {xs : List Int} (h : xs.length ≠ 4) : rkOk xs = false := by simp [rkOk, h]
/-- The numbers from 1 on below j are there. -/
def RkTo (xs : List Int) (j : Int) : Prop := ∀ q, 1 ≤ q → q < j → xs.contains q = true
theorem RkTo.next {xs : List Int} {j : Int} (h : RkTo xs j) (hc : xs.contains j = true) : RkTo xs (j + 1) := fun q h1 h2 => by
  by_cases e : q = j
  · rw [e]; exact hc
  · exact h q h1 (by omega)
theorem rk_all {xs : List Int} (h : xs.length = 4) (ht : RkTo xs 5) : rkOk xs = true := by
  unfold rkOk
  rw [ht 1 (by omega) (by omega), ht 2 (by omega) (by omega), ht 3 (by omega) (by omega), ht 4 (by omega) (by omega), h]
  rfl
theorem rk_miss {xs : List Int} {j : Int} (h0 : 1 ≤ j) (h1 : j ≤ 4) (hc : xs.contains j = false) : rkOk xs = false := by
  have : j = 1 ∨ j = 2 ∨ j = 3 ∨ j = 4 := by omega
  rcases this with rfl | rfl | rfl | rfl <;> simp only [rkOk, hc, Bool.and_false, Bool.false_and]
theorem getD_of {xs : List Int} {j : Nat} (h : j < xs.length) : xs.getD j 0 = xs[j] := by simp [h]
end Go.Proofs.Ytncnhlpdlhpehaa
