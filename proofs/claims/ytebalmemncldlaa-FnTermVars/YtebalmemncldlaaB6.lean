/- A place cut in two; the size of TermAt's answer. -/
import Derived.Test.YtebalmemncldlaaB5
namespace Go.Proofs.Ytebalmemncldlaa
open Go.RowKit Go.Deep

theorem fat_append : ∀ (p q : List Int) (s v : Int) (k : Fo), fat s v k (p ++ q) = (fat s v k p).bind fun x => fat x.1 x.2.1 x.2.2 q
  | [], _, _, _, _ => rfl
  | i :: ps, q, s, v, k => by
    simp only [List.cons_append, fat]
    split
    · split
      · exact fat_append ps q _ _ _
      · rfl
    · rfl

theorem atR_sz {s v : Int} {k : Fo} {place : List Int} {s' v' : Int} {k' : Fo} {t : Bool} (h : atR s v k place = (s', v', k', t)) : fsz k' ≤ 15 := by
  unfold atR at h
  split at h
  · rename_i hok
    have hok' := (okW_iff _ _ _ _).1 hok
    split at h
    · rename_i s2 v2 k2 hf
      simp only [Prod.mk.injEq] at h
      obtain ⟨_, _, rfl, _⟩ := h
      have := (fat_ok place s v k hok'.1 hok'.2.1 hf).2.2
      have := hok'.2.2
      omega
    · simp only [Prod.mk.injEq] at h
      obtain ⟨_, _, rfl, _⟩ := h
      simp [fsz]
  · simp only [Prod.mk.injEq] at h
    obtain ⟨_, _, rfl, _⟩ := h
    simp [fsz]
theorem atR_true {s v : Int} {k : Fo} {place : List Int} {s' v' : Int} {k' : Fo} (h : atR s v k place = (s', v', k', true)) : okW s v k 16 = true ∧ fat s v k place = some (s', v', k') := by
  unfold atR at h
  split at h
  · rename_i hok
    refine ⟨hok, ?_⟩
    split at h
    · rename_i s2 v2 k2 hf
      simp only [Prod.mk.injEq] at h
      obtain ⟨rfl, rfl, rfl, _⟩ := h
      exact hf
    · simp at h
  · simp at h
/-- A place cut in two. -/
theorem atR_cut {s v : Int} {k : Fo} {place : List Int} {s' v' : Int} {k' : Fo} (n : Nat) (h : atR s v k place = (s', v', k', true)) : ∃ s1 v1 k1, atR s v k (place.take n) = (s1, v1, k1, true) ∧ atR s1 v1 k1 (place.drop n) = (s', v', k', true) := by
  obtain ⟨hok, hf⟩ := atR_true h
  rw [← List.take_append_drop n place, fat_append] at hf
  obtain ⟨⟨s1, v1, k1⟩, h1, h2⟩ := Option.bind_eq_some_iff.1 hf
  have hok' := (okW_iff _ _ _ _).1 hok
  have hfo := fat_ok _ s v k hok'.1 hok'.2.1 h1
  have hok1 : okW s1 v1 k1 16 = true := (okW_iff _ _ _ _).2 ⟨hfo.1, hfo.2.1, by have := hok'.2.2; have := hfo.2.2; omega⟩
  refine ⟨s1, v1, k1, ?_, ?_⟩
  · unfold atR; rw [hok, h1]; rfl
  · unfold atR; rw [hok1]; simp only [if_true]; dsimp only at h2; rw [h2]
end Go.Proofs.Ytebalmemncldlaa
