/- Places of a term: each is there, none comes twice; laInts on unlike rows. -/
import Derived.Test.YtebalmemncldlabP6a
import Derived.Test.YtebalmemncldlabA3
namespace Go.Proofs.Ytebalmemncldlab
open Go.RowKit Go.Deep

mutual
theorem fpl_at : ∀ (r : Fo) (s v : Int) (k : Fo) (i : Nat) (p : List Int), fdrop i k = r → p ∈ fpl r i → ∃ x, fat s v k p = some x
  | .nil, _, _, _, _, _, _, hp => by simp [fpl] at hp
  | .node x y (s', v') kk r, s, v, k, i, p, hd, hp => by
    simp only [fpl, List.mem_append, List.mem_map] at hp
    rcases hp with ⟨q, hq, rfl⟩ | hp
    · have hi : i < flen k := by
        by_cases h : i < flen k
        · exact h
        · rw [fdrop_all (by omega)] at hd; cases hd
      obtain ⟨z, hz⟩ := places_at kk s' v' q hq
      refine ⟨z, ?_⟩
      simp only [fat]
      rw [if_pos (by omega)]
      simp only [Int.toNat_natCast, hd]
      exact hz
    · have hd' : fdrop (i + 1) k = r := by
        have hi : i < flen k := by
          by_cases h : i < flen k
          · exact h
          · rw [fdrop_all (by omega)] at hd; cases hd
        obtain ⟨x', y', s2, v2, kk2, e⟩ := fdrop_succ i k hi
        rw [hd] at e
        simp only [BT.node.injEq] at e
        exact e.2.2.2.2.symm
      exact fpl_at r s v k (i + 1) p hd' hp
  termination_by r => (SizeOf.sizeOf r, 0)
theorem places_at : ∀ (k : Fo) (s v : Int) (p : List Int), p ∈ [] :: fpl k 0 → ∃ x, fat s v k p = some x
  | k, s, v, p, hp => by
    rcases List.mem_cons.1 hp with rfl | hp
    · exact ⟨_, rfl⟩
    · exact fpl_at k s v k 0 p rfl hp
  termination_by k => (SizeOf.sizeOf k, 1)
end

theorem fpl_head : ∀ (k : Fo) (i : Nat) (p : List Int), p ∈ fpl k i → ∃ (j : Nat) (q : List Int), p = (j : Int) :: q ∧ i ≤ j
  | .nil, _, _, hp => by simp [fpl] at hp
  | .node _ _ _ kk r, i, p, hp => by
    simp only [fpl, List.mem_append, List.mem_map] at hp
    rcases hp with ⟨q, _, rfl⟩ | hp
    · exact ⟨i, q, rfl, Nat.le_refl _⟩
    · obtain ⟨j, q, e, h⟩ := fpl_head r (i + 1) p hp
      exact ⟨j, q, e, by omega⟩
theorem nil_fpl {k : Fo} {i : Nat} {b : List Int} (hb : b ∈ fpl k i) : [] ≠ b := by
  obtain ⟨j, q, e, _⟩ := fpl_head k i b hb
  intro e'
  rw [e] at e'
  cases e'
theorem fpl_apart : ∀ (k : Fo) (i : Nat), (fpl k i).Pairwise (· ≠ ·)
  | .nil, _ => List.Pairwise.nil
  | .node _ _ _ kk r, i => by
    simp only [fpl]
    rw [List.pairwise_append]
    refine ⟨?_, fpl_apart r (i + 1), fun a ha b hb => ?_⟩
    · rw [List.pairwise_map]
      have h : ([] :: fpl kk 0).Pairwise (· ≠ ·) := List.pairwise_cons.2 ⟨fun _ hb => nil_fpl hb, fpl_apart kk 0⟩
      exact h.imp fun hne e => hne (List.cons.inj e).2
    · obtain ⟨q, _, rfl⟩ := List.mem_map.1 ha
      obtain ⟨j, q', rfl, hj⟩ := fpl_head r (i + 1) b hb
      intro e
      have := (List.cons.inj e).1
      omega
theorem places_apart (k : Fo) : (places k).Pairwise (· ≠ ·) :=
  List.pairwise_cons.2 ⟨fun _ hb => nil_fpl hb, fpl_apart k 0⟩
theorem places_unlike {k : Fo} {i j : Nat} {p q : List Int} (hi : (places k)[i]? = some p) (hj : (places k)[j]? = some q) (hij : i < j) : p ≠ q := by
  obtain ⟨h1, rfl⟩ := List.getElem?_eq_some_iff.1 hi
  obtain ⟨h2, rfl⟩ := List.getElem?_eq_some_iff.1 hj
  exact List.pairwise_iff_getElem.1 (places_apart k) i j h1 h2 hij

set_option maxRecDepth 100000 in
set_option maxHeartbeats 1000000 in
theorem laInts_diff (xs ys : List Int) (A B : Option Addr) (ca cb : Nat) (w : World) (hA : ISl w 0 w.heap.size A xs) (hB : ISl w 0 w.heap.size B ys) (hne : xs ≠ ys) (hx : xs.length ≤ 2000) :
    Calls Try.prog 21 #[.slice A xs.length ca, .slice B ys.length cb] w fun e w' => e = .returned (.bool false) ∧ Below w.heap.size w w' := by
  have HA := Lib.hid hA
  have HB := Lib.hid hB
  have HNE := Lib.hid hne
  clear hA hB hne
  by_cases hl : xs.length = ys.length
  · go_enter Try.func21, Try.ntmps21
    have HL := Lib.hid hl
    rw [← hl]
    clear hl
    go_wp2_with fail
    go_loopw [5] (fun i wr => ∃ j : Nat, j ≤ xs.length ∧ i = .int .i64 j ∧ Hid (∀ q, q < j → xs[q]? = ys[q]?) ∧ Below w.heap.size w wr) (fun i _ => xs.length - (intOf i).toNat)
    case atStart => exact ⟨0, by omega, rfl, fun q hq => by omega, Below.refl _ _⟩
    case round =>
      obtain ⟨j, hj, rfl, hq, hbl⟩ := hrel
      have hbs := hbl.size
      by_cases hlt : j < xs.length
      · have hlt' : j < ys.length := by have := HL.out; omega
        obtain ⟨b, o, rfl, _, hb1, hc⟩ := isl_at (HA.out.below hbl) hlt
        obtain ⟨b', o', rfl, _, hb2, hc'⟩ := isl_at (HB.out.below hbl) hlt'
        have HX : Hid (xs[j]? = some xs[j]) := List.getElem?_eq_getElem hlt
        have HY : Hid (ys[j]? = some ys[j]) := List.getElem?_eq_getElem hlt'
        generalize xs[j] = x at hc HX
        generalize ys[j] = y at hc' HY
        clear hlt'
        have hu0 : ∀ u : After wr.heap.size wr, u.world.cell? ⟨b, o + j, none⟩ = some (.int .i64 x) := fun u => u.cell (by simp; omega) hc
        have hu1 : ∀ u : After wr.heap.size wr, u.world.cell? ⟨b', o' + j, none⟩ = some (.int .i64 y) := fun u => u.cell (by simp; omega) hc'
        have g1 : (0 : Int) ≤ (j : Int) := by omega
        have g2 : (j : Int) < (xs.length : Int) := by omega
        have HBL := Lib.hid hbl
        have HQ := hq
        clear hbl hq
        go_wp2_with fail
        refine wp_region_after wr.heap.size (by kernel_rfl) (by kernel_rfl) ?_
        repeat (go_big_quiet_step (fail))
        refine wpQuiet_nil ?_
        rintro u ⟨⟨_, hu⟩, rfl⟩
        clear hu0 hu1 hc hc'
        have HB2 := Lib.hid (HBL.out.trans (hu.mono hbs))
        clear hu
        by_cases hxy : x = y
        · subst hxy
          have ex : (x != x) = false := by simp
          have HQ2 : Hid (∀ q, q < j + 1 → xs[q]? = ys[q]?) := fun q hq => by
            by_cases e : q = j
            · rw [e, HX.out, HY.out]
            · exact HQ.out q (by omega)
          go_wp2_with fail
          go_roundw
          case rel => exact ⟨j + 1, by omega, by go_num, HQ2, HB2.out⟩
          case measure => simp [intOf]; omega
        · have ex : (x != y) = true := by simpa using hxy
          go_wp2_with fail
          go_ret
          exact ⟨rfl, HB2.out⟩
      · exact absurd (List.ext_getElem? fun q => by
          by_cases hq' : q < j
          · exact hq.out q hq'
          · rw [List.getElem?_eq_none (by omega), List.getElem?_eq_none (by have := HL.out; omega)]) HNE.out
  · have e1 : ((xs.length : Int) != (ys.length : Int)) = true := by simp; omega
    go_enter Try.func21, Try.ntmps21
    go_wp2_with fail
    go_ret
    exact ⟨rfl, Below.refl _ _⟩
end Go.Proofs.Ytebalmemncldlab
