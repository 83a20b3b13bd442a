/- DrawTermVars; the variables of a term with another put to a place. -/
import Derived.Test.YtebalmemncldlaaV4
import Derived.Test.YtebalmemncldlaaC1
namespace Go.Proofs.Ytebalmemncldlaa
open Go.RowKit Go.Deep

theorem fvl_at : ∀ (n : Nat) (k : Fo) {a b : Nat} {s v : Int} {kk r : Fo} {x : Int}, fdrop n k = .node a b (s, v) kk r → x ∈ fvs s v kk → x ∈ fvl k
  | 0, .nil, _, _, _, _, _, _, _, h, _ => by simp [fdrop] at h
  | 0, .node _ _ _ _ _, _, _, _, _, _, _, _, h, hx => by
    simp only [fdrop, BT.node.injEq] at h
    obtain ⟨_, _, rfl, rfl, _⟩ := h
    simp only [fvl, List.mem_append]
    exact .inl hx
  | _ + 1, .nil, _, _, _, _, _, _, _, h, _ => by simp [fdrop] at h
  | n + 1, .node _ _ _ _ r, _, _, _, _, _, _, _, h, hx => by
    simp only [fvl, List.mem_append]
    exact .inr (fvl_at n r (by simpa [fdrop] using h) hx)
theorem fvl_set : ∀ (k : Fo) (n : Nat) (y : Int × Int × Fo) {x : Int}, x ∈ fvl (fset k n y) → x ∈ fvl k ∨ x ∈ fvs y.1 y.2.1 y.2.2
  | .nil, _, _, _, h => .inl h
  | .node _ _ _ _ r, 0, y, x, h => by
    simp only [fset, fvl, List.mem_append] at h ⊢
    rcases h with h | h
    · exact .inr h
    · exact .inl (.inr h)
  | .node _ _ _ _ r, n + 1, y, x, h => by
    simp only [fset, fvl, List.mem_append] at h ⊢
    rcases h with h | h
    · exact .inl (.inl h)
    · rcases fvl_set r n y h with h | h
      · exact .inl (.inr h)
      · exact .inr h
/-- What is put brings its variables alone. -/
theorem fput_vars : ∀ (p : List Int) (s v : Int) (k : Fo) (y : Int × Int × Fo) {s' v' : Int} {k' : Fo} {x : Int}, okN s v (flen k) = true → fok k = true → fput s v k p y = some (s', v', k') → x ∈ fvs s' v' k' → x ∈ fvs s v k ∨ x ∈ fvs y.1 y.2.1 y.2.2
  | [], _, _, _, _, _, _, _, _, _, _, h, hx => by simp only [fput, Option.some.injEq] at h; subst h; exact .inr hx
  | i :: ps, s, v, k, y, s', v', k', x, hok, hfo, h, hx => by
    obtain ⟨n, b, o, s1, v1, kk, ⟨z1, z2, z3⟩, rfl, hn, hd, hz, e⟩ := fput_cons h
    simp only [Prod.mk.injEq] at e
    obtain ⟨rfl, rfl, rfl⟩ := e
    have hs0 : s' ≠ 0 := fun e => by
      subst e
      have := ((okN_iff _ _ _).1 hok).1
      simp [ar] at this
      omega
    have hkid := fok_kid hfo hd
    unfold fvs at hx ⊢
    rw [if_neg hs0] at hx ⊢
    rcases fvl_set k n (z1, z2, z3) hx with h1 | h1
    · exact .inl h1
    · rcases fput_vars ps s1 v1 kk y hkid.1 hkid.2 hz h1 with h2 | h2
      · exact .inl (fvl_at n k hd h2)
      · exact .inr h2
/-- .. and all of them. -/
theorem fput_mine : ∀ (p : List Int) (s v : Int) (k : Fo) (y : Int × Int × Fo) {s' v' : Int} {k' : Fo} {x : Int}, okN s v (flen k) = true → fok k = true → fput s v k p y = some (s', v', k') → x ∈ fvs y.1 y.2.1 y.2.2 → x ∈ fvs s' v' k'
  | [], _, _, _, _, _, _, _, _, _, _, h, hx => by simp only [fput, Option.some.injEq] at h; subst h; exact hx
  | i :: ps, s, v, k, y, s', v', k', x, hok, hfo, h, hx => by
    obtain ⟨n, b, o, s1, v1, kk, ⟨z1, z2, z3⟩, rfl, hn, hd, hz, e⟩ := fput_cons h
    simp only [Prod.mk.injEq] at e
    obtain ⟨rfl, rfl, rfl⟩ := e
    have hs0 : s' ≠ 0 := fun e => by
      subst e
      have := ((okN_iff _ _ _).1 hok).1
      simp [ar] at this
      omega
    have hkid := fok_kid hfo hd
    have h1 := fput_mine ps s1 v1 kk y hkid.1 hkid.2 hz hx
    obtain ⟨b', o', e'⟩ := fset_at k n (z1, z2, z3) hn
    unfold fvs
    rw [if_neg hs0]
    exact fvl_at n _ e' h1

theorem tvR_mem {s v : Int} {k : Fo} (h : okW s v k 16 = true) (x : Int) : x ∈ tvR s v k ↔ x ∈ fvs s v k := by
  unfold tvR
  rw [if_pos h, among_mem]
  constructor
  · exact fun h => h.1
  · intro hx
    have := fvs_in h x hx
    exact ⟨hx, by omega, by omega⟩

set_option maxRecDepth 100000 in
set_option maxHeartbeats 1000000 in
theorem DrawTermVars_any (a : Option Addr) (len cap : Nat) (w : World) (hby : Bytes w a len) (hlen : len ≤ cap) :
    Calls Try.prog 24 #[.slice a len cap] w (TermPost 31000 w) := by
  have HBY := Lib.hid hby
  clear hby
  go_enter Try.func24, Try.ntmps24
  go_wp2_with fail
  with_reducible refine (l6Open_any a len cap _ (HBY.out.alloc _) hlen).mono ?_
  rintro e w1 ⟨rfl, hb1, hrd⟩
  have hb1' : Below (w.heap.size + 1) (w.alloc (.cells #[.int .i64 0, .int .i64 0, .slice none 0 0] 25)) w1 := hb1.mono (by simp)
  have hs1 := hb1.size
  simp at hs1
  simp only [World.size_alloc] at hrd
  have hlt1 := hrd.lt
  have HRD := Lib.hid hrd
  have HB1 := Lib.hid hb1'
  clear hb1 hb1' hrd
  simp only [World.size_alloc]
  go_wp2_with fail
  with_reducible refine (pick_any 4 (w.heap.size + 1) 0 _ HRD.out (by omega) (by omega) (by omega)).mono ?_
  rintro e w2 ⟨x, rfl, hx, hb2⟩
  have ha2 : Adv w1 (w.heap.size + 1) (0 + 1) w2 := hb2
  have hs2 := ha2.size
  have HB2 := Lib.hid (adv_low HB1.out (by omega) (by omega) ha2)
  have HRD2 := Lib.hid (ha2.rd HRD.out)
  clear ha2 hb2
  by_cases hx0 : x = 0
  · subst hx0
    go_wp2_with fail
    with_reducible refine (l71Some_any (w.heap.size + 1) (0 + 1) _ HRD2.out (by omega)).mono ?_
    rintro e w4 ⟨s4, v4, a4, c4, k4, p4, rfl, _, hp4, hS4, ha4, hl4⟩
    have hb4 := adv_low HB2.out (by omega) (by omega) ha4
    have HB4 := Lib.hid hb4
    obtain ⟨hr0, hr1, hr2, hf0, hf1, hf2⟩ := res_low hb4
    have HL4 := Lib.hid (hl4.mono (lo' := w.heap.size + 1) (by omega) (Nat.le_refl _))
    clear ha4 hl4 hb4
    go_wp2_with fail
    refine bodyPost_ret (v := .agg #[.int .i64 s4, .int .i64 v4, .slice a4 (flen k4) c4]) ?_ rfl (term_end HB4.out (by omega) HL4.out)
    simp [results, Try.results24, go_sem, hr0, hr1, hr2]
  · have x0 : ((x : Int) == 0) = false := by simpa using hx0
    go_wp2_with fail
    with_reducible refine (l71Term_any 4 4 12 (w.heap.size + 1) (0 + 1) _ (by omega) (by omega) (by omega) (by omega) (by omega) HRD2.out (by decide)).mono ?_
    rintro e w4 ⟨s4, v4, a4, c4, k4, p4, rfl, _, hp4, hS4, ha4, hl4⟩
    have hS4' : 1 + fsz k4 ≤ 31 := by simpa [szN] using hS4
    have hb4 := adv_low HB2.out (by omega) (by omega) ha4
    have HB4 := Lib.hid hb4
    obtain ⟨hr0, hr1, hr2, hf0, hf1, hf2⟩ := res_low hb4
    have HL4 := Lib.hid (hl4.mono (lo' := w.heap.size + 1) (by omega) (Nat.le_refl _))
    clear ha4 hl4 hb4
    go_wp2_with fail
    refine bodyPost_ret (v := .agg #[.int .i64 s4, .int .i64 v4, .slice a4 (flen k4) c4]) ?_ rfl (term_end HB4.out (by omega) HL4.out)
    simp [results, Try.results24, go_sem, hr0, hr1, hr2]
end Go.Proofs.Ytebalmemncldlaa
