/- The variables of a term are those at its places. Plain lemmas. -/
import Derived.Test.YtebalmemncldlaaV5
import Derived.Test.YtebalmemncldlaaP7
namespace Go.Proofs.Ytebalmemncldlaa
open Go.RowKit Go.Deep

theorem fdrop_lt {n : Nat} {k : Fo} {a b : Nat} {p : Int × Int} {kk r : Fo} (h : fdrop n k = .node a b p kk r) : n < flen k := by
  rcases Nat.lt_or_ge n (flen k) with h' | h'
  · exact h'
  · rw [fdrop_all h'] at h; cases h
theorem fpl_mem : ∀ (n : Nat) (k : Fo) (i : Nat) {a b : Nat} {q : Int × Int} {kk r : Fo} {p : List Int}, fdrop n k = .node a b q kk r → p ∈ places kk → ((i + n : Nat) : Int) :: p ∈ fpl k i
  | 0, .nil, _, _, _, _, _, _, _, h, _ => by simp [fdrop] at h
  | 0, .node _ _ _ _ _, i, _, _, _, _, _, _, h, hp => by
    simp only [fdrop, BT.node.injEq] at h
    obtain ⟨_, _, _, rfl, _⟩ := h
    simp only [fpl, List.mem_append]
    exact .inl (List.mem_map.2 ⟨_, hp, rfl⟩)
  | _ + 1, .nil, _, _, _, _, _, _, _, h, _ => by simp [fdrop] at h
  | n + 1, .node _ _ _ _ r, i, _, _, _, _, _, _, h, hp => by
    simp only [fpl, List.mem_append]
    have := fpl_mem n r (i + 1) (by simpa [fdrop] using h) hp
    rw [show i + (n + 1) = i + 1 + n from by omega]
    exact .inr this
theorem fvl_ex : ∀ (k : Fo) {x : Int}, x ∈ fvl k → ∃ n a b s v kk r, fdrop n k = .node a b (s, v) kk r ∧ x ∈ fvs s v kk
  | .nil, _, h => by simp [fvl] at h
  | .node a b (s, v) kk r, x, h => by
    simp only [fvl, List.mem_append] at h
    rcases h with h | h
    · exact ⟨0, a, b, s, v, kk, r, rfl, h⟩
    · obtain ⟨n, a', b', s', v', kk', r', e, hx⟩ := fvl_ex r h
      exact ⟨n + 1, a', b', s', v', kk', r', e, hx⟩
theorem var_place (N : Nat) : ∀ (s v : Int) (k : Fo) {x : Int}, fsz k ≤ N → x ∈ fvs s v k → ∃ p kk, p ∈ places k ∧ fat s v k p = some (0, x, kk) := by
  induction N using Nat.strongRecOn with
  | _ N ih =>
    intro s v k x hN hx
    unfold fvs at hx
    split at hx
    · rename_i hs
      simp only [List.mem_singleton] at hx
      subst hs
      subst hx
      exact ⟨[], k, by simp [places], rfl⟩
    · obtain ⟨n, a, b, s', v', kk, r, e, hx'⟩ := fvl_ex k hx
      have hk := fsz_kid e
      obtain ⟨p, k2, hp, hf⟩ := ih (fsz kk) (by omega) s' v' kk (Nat.le_refl _) hx'
      refine ⟨(n : Int) :: p, k2, ?_, by rw [fat_step (fdrop_lt e) e]; exact hf⟩
      have := fpl_mem n k 0 e hp
      rw [Nat.zero_add] at this
      exact List.mem_cons_of_mem _ this
theorem place_var : ∀ (p : List Int) (s v : Int) (k : Fo) {x : Int} {kk : Fo}, okN s v (flen k) = true → fok k = true → fat s v k p = some (0, x, kk) → x ∈ fvs s v k
  | [], s, v, k, x, kk, _, _, h => by
    simp only [fat, Option.some.injEq, Prod.mk.injEq] at h
    obtain ⟨rfl, rfl, rfl⟩ := h
    simp [fvs]
  | i :: ps, s, v, k, x, kk, hok, hfo, h => by
    by_cases hi : 0 ≤ i ∧ i < (flen k : Int)
    · obtain ⟨n, rfl⟩ : ∃ n : Nat, i = n := ⟨i.toNat, by omega⟩
      obtain ⟨a, b, s', v', k', e⟩ := fdrop_succ n k (by omega)
      rw [fat_step (by omega) e] at h
      have hkid := fok_kid hfo e
      have := place_var ps s' v' k' hkid.1 hkid.2 h
      have hs0 : s ≠ 0 := fun e => by
        subst e
        have := ((okN_iff _ _ _).1 hok).1
        simp [ar] at this
        omega
      unfold fvs
      rw [if_neg hs0]
      exact fvl_at n k e this
    · rw [fat_out hi] at h; cases h

/-- The variables at the first j places. -/
def Seen (s v : Int) (k : Fo) (j : Nat) (ns : List Int) : Prop := ns.Nodup ∧ ∀ y, y ∈ ns ↔ ∃ i p kk, i < j ∧ (places k)[i]? = some p ∧ fat s v k p = some (0, y, kk)
theorem Seen.start (s v : Int) (k : Fo) : Seen s v k 0 [] := ⟨List.nodup_nil, fun y => ⟨fun h => by simp at h, fun ⟨i, p, kk, hi, _⟩ => by omega⟩⟩
theorem Seen.skip {s v : Int} {k : Fo} {j : Nat} {ns : List Int} {p : List Int} {y1 y2 : Int} {y3 : Fo} (h : Seen s v k j ns) (hp : (places k)[j]? = some p) (hf : fat s v k p = some (y1, y2, y3)) (hy : y1 ≠ 0 ∨ y2 ∈ ns) : Seen s v k (j + 1) ns := by
  refine ⟨h.1, fun y => ⟨fun hyn => ?_, fun hyn => ?_⟩⟩
  · obtain ⟨i, q, kk, hi, e⟩ := (h.2 y).1 hyn
    exact ⟨i, q, kk, by omega, e⟩
  · obtain ⟨i, q, kk, hi, e1, e2⟩ := hyn
    by_cases hij : i < j
    · exact (h.2 y).2 ⟨i, q, kk, hij, e1, e2⟩
    · have : i = j := by omega
      subst this
      rw [hp] at e1
      cases e1
      rw [hf] at e2
      simp only [Option.some.injEq, Prod.mk.injEq] at e2
      obtain ⟨e3, e4, _⟩ := e2
      rcases hy with hy | hy
      · exact absurd e3 hy
      · rw [← e4]; exact hy
theorem Seen.more {s v : Int} {k : Fo} {j : Nat} {ns : List Int} {p : List Int} {y2 : Int} {y3 : Fo} (h : Seen s v k j ns) (hp : (places k)[j]? = some p) (hf : fat s v k p = some (0, y2, y3)) (hy : y2 ∉ ns) : Seen s v k (j + 1) (ns ++ [y2]) := by
  refine ⟨List.nodup_append.2 ⟨h.1, by simp, fun a ha b hb => ?_⟩, fun y => ?_⟩
  · simp only [List.mem_singleton] at hb
    subst hb
    exact fun e => hy (by rw [← e]; exact ha)
  · rw [List.mem_append, List.mem_singleton]
    constructor
    · rintro (hyn | rfl)
      · obtain ⟨i, q, kk, hi, e⟩ := (h.2 y).1 hyn
        exact ⟨i, q, kk, by omega, e⟩
      · exact ⟨j, p, y3, by omega, hp, hf⟩
    · rintro ⟨i, q, kk, hi, e1, e2⟩
      by_cases hij : i < j
      · exact .inl ((h.2 y).2 ⟨i, q, kk, hij, e1, e2⟩)
      · have : i = j := by omega
        subst this
        rw [hp] at e1
        cases e1
        rw [hf] at e2
        simp only [Option.some.injEq, Prod.mk.injEq] at e2
        exact .inr e2.2.1.symm
theorem Seen.all {s v : Int} {k : Fo} {ns : List Int} (hok : okW s v k 16 = true) (h : Seen s v k (places k).length ns) : ns.length = (tvR s v k).length := by
  have h' := (okW_iff _ _ _ _).1 hok
  have hd : (tvR s v k).Nodup := by
    unfold tvR
    rw [if_pos hok]
    exact (among_strict _ _).imp (fun h => by omega)
  refine ((List.perm_ext_iff_of_nodup h.1 hd).2 fun y => ?_).length_eq
  rw [tvR_mem hok, h.2 y]
  constructor
  · rintro ⟨i, p, kk, _, _, hf⟩
    exact place_var p s v k h'.1 h'.2.1 hf
  · intro hy
    obtain ⟨p, kk, hp, hf⟩ := var_place (fsz k) s v k (Nat.le_refl _) hy
    obtain ⟨i, hi, e⟩ := List.getElem_of_mem hp
    exact ⟨i, p, kk, hi, by rw [List.getElem?_eq_getElem hi, e], hf⟩
theorem grown_cell {w w' : World} {o : Obj} {row : Option Nat} {b i : Nat} {u : Value} (h : (w.alloc o).grownBy w' row) (hr : ∀ g, row = some g → g ≠ b) (hc : w.cell? ⟨b, i, none⟩ = some u) : w'.cell? ⟨b, i, none⟩ = some u := by
  have h1 := cell_low ((Below.refl _ _).alloc (Nat.le_refl _) o) hc
  rw [h.cell_far _ (World.block_lt_of_cell? _ _ h1) (fun e => hr _ e.symm rfl)]
  exact h1
theorem tvR_up {s v : Int} {k : Fo} {q : Nat} {x y : Int} (hx : (tvR s v k)[q]? = some x) (hy : (tvR s v k)[q + 1]? = some y) : x < y := by
  have h : (tvR s v k).Pairwise (· < ·) := by
    unfold tvR
    split
    · exact among_strict _ _
    · exact List.Pairwise.nil
  obtain ⟨h1, rfl⟩ := List.getElem?_eq_some_iff.1 hx
  obtain ⟨h2, rfl⟩ := List.getElem?_eq_some_iff.1 hy
  exact List.pairwise_iff_getElem.1 h q (q + 1) h1 h2 (Nat.lt_succ_self _)
end Go.Proofs.Ytebalmemncldlaa
