/- Several texts in one: V4b, V2, V4, V5d, V5, P5a, P7, V6, LawSVars. -/
import Derived.Test.YtkmfnhoeigoajaaKSub7
import Derived.Test.YtkmfnhoeigoajaaKSub1
import Derived.Test.YtkmfnhoeigoajaaKSub13
import Derived.Test.YtkmfnhoeigoajaaKSub10
import Derived.Test.YtkmfnhoeigoajaaKSub11
import Derived.Test.YtkmfnhoeigoajaaKSub12
import Derived.Test.YtkmfnhoeigoajaaKSub9

/-! V4b: laIn: whether a number is among such. -/
namespace Go.Proofs.Ytkmfnhoeigoajaa
open Go.RowKit Go.Deep

set_option maxRecDepth 100000 in
set_option maxHeartbeats 1000000 in
theorem laIn_any (xs : List Int) (A : Option Addr) (ca : Nat) (n : Int) (w : World) (hA : ISl w 0 w.heap.size A xs) (hx : xs.length ≤ 2000) :
    Calls Try.prog 25 #[.slice A xs.length ca, .int .i64 n] w fun e w' => e = .returned (.bool (decide (n ∈ xs))) ∧ Below w.heap.size w w' := by
  have HA := Lib.hid hA
  clear hA
  go_enter Try.func25, Try.ntmps25
  go_wp2_with fail
  go_loopw [5] (fun i wr => ∃ j : Nat, j ≤ xs.length ∧ i = .int .i64 j ∧ Hid (n ∈ xs ↔ n ∈ xs.drop j) ∧ Below w.heap.size w wr) (fun i _ => xs.length - (intOf i).toNat)
  case atStart => exact ⟨0, by omega, rfl, by simp [Hid], Below.refl _ _⟩
  case round =>
    obtain ⟨j, hj, rfl, hq, hbl⟩ := hrel
    have hbs := hbl.size
    by_cases hlt : j < xs.length
    · obtain ⟨b, o, rfl, _, hb1, hc⟩ := isl_at (HA.out.below hbl) hlt
      have hq1 := hq.out
      rw [List.drop_eq_getElem_cons hlt] at hq1
      have HQ := Lib.hid hq1
      clear hq hq1
      generalize xs[j] = x at hc HQ
      have g1 : (0 : Int) ≤ (j : Int) := by omega
      have g2 : (j : Int) < (xs.length : Int) := by omega
      by_cases hxn : x = n
      · subst hxn
        have ex : (x == x) = true := by simp
        have HE : Hid (decide (x ∈ xs) = true) := decide_eq_true (HQ.out.2 (by simp))
        go_wp2_with fail
        go_ret
        exact ⟨by rw [HE.out]; rfl, hbl⟩
      · have ex : (x == n) = false := by simpa using hxn
        have HE : Hid (n ∈ xs ↔ n ∈ xs.drop (j + 1)) := by
          have : n ≠ x := fun e => hxn e.symm
          rw [Hid, HQ.out]
          simp [this]
        go_wp2_with fail
        go_roundw
        case rel => exact ⟨j + 1, by omega, by go_num, HE, hbl⟩
        case measure => simp [intOf]; omega
    · have HE : Hid (decide (n ∈ xs) = false) := by
        refine decide_eq_false fun h => ?_
        have := hq.out.1 h
        rw [List.drop_eq_nil_of_le (by omega)] at this
        simp at this
      clear hq
      go_wp2_with fail
      go_ret
      exact ⟨by rw [HE.out]; rfl, hbl⟩
end Go.Proofs.Ytkmfnhoeigoajaa

/-! V2: - l1Has: whether a variable is in a term. -/
namespace Go.Proofs.Ytkmfnhoeigoajaa
open Go.RowKit Go.Deep

theorem one_box {w wr : World} {x y z : Value} (h : Below (w.heap.size + 1) (w.alloc (.cells #[x, y, z] 26)) wr) : wr.cell? ⟨w.heap.size, 2, none⟩ = some z := by
  rw [h.cell (by simp), World.cell?_alloc_at _ _ _ _ (by simp)]; rfl

theorem fvl_drop {x : Int} {j : Nat} {k : Fo} {a b : Nat} {s v : Int} {kk r : Fo} (h : fdrop j k = .node a b (s, v) kk r) : x ∈ fvl (fdrop j k) ↔ x ∈ fvs s v kk ∨ x ∈ fvl r := by
  rw [h]
  simp only [fvl, fvs, List.mem_append]

end Go.Proofs.Ytkmfnhoeigoajaa

/-! V4: - spec.TermVars. -/
namespace Go.Proofs.Ytkmfnhoeigoajaa
open Go.RowKit Go.Deep

theorem one_box3 {w wr : World} {x y z : Value} (h : Below (w.heap.size + 1) (w.alloc (.cells #[x, y, z] 26)) wr) :
    wr.cell? ⟨w.heap.size, 0, none⟩ = some x ∧ wr.cell? ⟨w.heap.size, 1, none⟩ = some y ∧ wr.cell? ⟨w.heap.size, 2, none⟩ = some z := by
  refine ⟨?_, ?_, ?_⟩
  · rw [h.cell (by simp), World.cell?_alloc_at _ _ _ _ (by simp)]; rfl
  · rw [h.cell (by simp), World.cell?_alloc_at _ _ _ _ (by simp)]; rfl
  · rw [h.cell (by simp), World.cell?_alloc_at _ _ _ _ (by simp)]; rfl

end Go.Proofs.Ytkmfnhoeigoajaa

/-! V5d: - DrawTermVars. -/
namespace Go.Proofs.Ytkmfnhoeigoajaa
open Go.RowKit Go.Deep

end Go.Proofs.Ytkmfnhoeigoajaa

/-! V5: DrawTermVars; the variables of a term with another put to a place. -/
namespace Go.Proofs.Ytkmfnhoeigoajaa
open Go.RowKit Go.Deep

theorem fvl_at : ∀ (n : Nat) (k : Fo) {a b : Nat} {s v : Int} {kk r : Fo} {x : Int}, fdrop n k = .node a b (s, v) kk r → x ∈ fvs s v kk → x ∈ fvl k
  | 0, .nil, _, _, _, _, _, _, _, h, _ => by simp [fdrop] at h
  | 0, .node _ _ _ _ _, _, _, _, _, _, _, _, h, hx => by
    simp only [fdrop, BT.node.injEq] at h
    obtain ⟨_, _, rfl, rfl, _⟩ := h
    simp only [fvl, List.mem_append]
    exact .inl hx
  | _ + 1, .nil, _, _, _, _, _, _, _, h, _ => by simp [fdrop] at h
  | n + 1, .node _ _ _ _ r, _, _, _, _, _, _, _, h, hx => by
    simp only [fvl, List.mem_append]
    exact .inr (fvl_at n r (by simpa [fdrop] using h) hx)
theorem fvl_set : ∀ (k : Fo) (n : Nat) (y : Int × Int × Fo) {x : Int}, x ∈ fvl (fset k n y) → x ∈ fvl k ∨ x ∈ fvs y.1 y.2.1 y.2.2
  | .nil, _, _, _, h => .inl h
  | .node _ _ _ _ r, 0, y, x, h => by
    simp only [fset, fvl, List.mem_append] at h ⊢
    rcases h with h | h
    · exact .inr h
    · exact .inl (.inr h)
  | .node _ _ _ _ r, n + 1, y, x, h => by
    simp only [fset, fvl, List.mem_append] at h ⊢
    rcases h with h | h
    · exact .inl (.inl h)
    · rcases fvl_set r n y h with h | h
      · exact .inl (.inr h)
      · exact .inr h
/-- What is put brings its variables alone. -/
theorem fput_vars : ∀ (p : List Int) (s v : Int) (k : Fo) (y : Int × Int × Fo) {s' v' : Int} {k' : Fo} {x : Int}, okN s v (flen k) = true → fok k = true → fput s v k p y = some (s', v', k') → x ∈ fvs s' v' k' → x ∈ fvs s v k ∨ x ∈ fvs y.1 y.2.1 y.2.2
  | [], _, _, _, _, _, _, _, _, _, _, h, hx => by simp only [fput, Option.some.injEq] at h; subst h; exact .inr hx
  | i :: ps, s, v, k, y, s', v', k', x, hok, hfo, h, hx => by
    obtain ⟨n, b, o, s1, v1, kk, ⟨z1, z2, z3⟩, rfl, hn, hd, hz, e⟩ := fput_cons h
    simp only [Prod.mk.injEq] at e
    obtain ⟨rfl, rfl, rfl⟩ := e
    have hs0 : s' ≠ 0 := fun e => by
      subst e
      have := ((okN_iff _ _ _).1 hok).1
      simp [ar] at this
      omega
    have hkid := fok_kid hfo hd
    unfold fvs at hx ⊢
    rw [if_neg hs0] at hx ⊢
    rcases fvl_set k n (z1, z2, z3) hx with h1 | h1
    · exact .inl h1
    · rcases fput_vars ps s1 v1 kk y hkid.1 hkid.2 hz h1 with h2 | h2
      · exact .inl (fvl_at n k hd h2)
      · exact .inr h2
/-- .. and all of them. -/
theorem fput_mine : ∀ (p : List Int) (s v : Int) (k : Fo) (y : Int × Int × Fo) {s' v' : Int} {k' : Fo} {x : Int}, okN s v (flen k) = true → fok k = true → fput s v k p y = some (s', v', k') → x ∈ fvs y.1 y.2.1 y.2.2 → x ∈ fvs s' v' k'
  | [], _, _, _, _, _, _, _, _, _, _, h, hx => by simp only [fput, Option.some.injEq] at h; subst h; exact hx
  | i :: ps, s, v, k, y, s', v', k', x, hok, hfo, h, hx => by
    obtain ⟨n, b, o, s1, v1, kk, ⟨z1, z2, z3⟩, rfl, hn, hd, hz, e⟩ := fput_cons h
    simp only [Prod.mk.injEq] at e
    obtain ⟨rfl, rfl, rfl⟩ := e
    have hs0 : s' ≠ 0 := fun e => by
      subst e
      have := ((okN_iff _ _ _).1 hok).1
      simp [ar] at this
      omega
    have hkid := fok_kid hfo hd
    have h1 := fput_mine ps s1 v1 kk y hkid.1 hkid.2 hz hx
    obtain ⟨b', o', e'⟩ := fset_at k n (z1, z2, z3) hn
    unfold fvs
    rw [if_neg hs0]
    exact fvl_at n _ e' h1

theorem tvR_mem {s v : Int} {k : Fo} (h : okW s v k 16 = true) (x : Int) : x ∈ tvR s v k ↔ x ∈ fvs s v k := by
  unfold tvR
  rw [if_pos h, among_mem]
  constructor
  · exact fun h => h.1
  · intro hx
    have := fvs_in h x hx
    exact ⟨hx, by omega, by omega⟩
end Go.Proofs.Ytkmfnhoeigoajaa

/-! P5a: - laInts: what is the same comes out the same. -/
namespace Go.Proofs.Ytkmfnhoeigoajaa
open Go.RowKit Go.Deep

end Go.Proofs.Ytkmfnhoeigoajaa

/-! P7: - Places of a term: each is there, none comes twice; laInts on unlike rows. -/
namespace Go.Proofs.Ytkmfnhoeigoajaa
open Go.RowKit Go.Deep


end Go.Proofs.Ytkmfnhoeigoajaa

/-! V6: The variables of a term are those at its places. Plain lemmas. -/
namespace Go.Proofs.Ytkmfnhoeigoajaa
open Go.RowKit Go.Deep

theorem fdrop_lt {n : Nat} {k : Fo} {a b : Nat} {p : Int × Int} {kk r : Fo} (h : fdrop n k = .node a b p kk r) : n < flen k := by
  rcases Nat.lt_or_ge n (flen k) with h' | h'
  · exact h'
  · rw [fdrop_all h'] at h; cases h
theorem fpl_mem : ∀ (n : Nat) (k : Fo) (i : Nat) {a b : Nat} {q : Int × Int} {kk r : Fo} {p : List Int}, fdrop n k = .node a b q kk r → p ∈ places kk → ((i + n : Nat) : Int) :: p ∈ fpl k i
  | 0, .nil, _, _, _, _, _, _, _, h, _ => by simp [fdrop] at h
  | 0, .node _ _ _ _ _, i, _, _, _, _, _, _, h, hp => by
    simp only [fdrop, BT.node.injEq] at h
    obtain ⟨_, _, _, rfl, _⟩ := h
    simp only [fpl, List.mem_append]
    exact .inl (List.mem_map.2 ⟨_, hp, rfl⟩)
  | _ + 1, .nil, _, _, _, _, _, _, _, h, _ => by simp [fdrop] at h
  | n + 1, .node _ _ _ _ r, i, _, _, _, _, _, _, h, hp => by
    simp only [fpl, List.mem_append]
    have := fpl_mem n r (i + 1) (by simpa [fdrop] using h) hp
    rw [show i + (n + 1) = i + 1 + n from by omega]
    exact .inr this
theorem fvl_ex : ∀ (k : Fo) {x : Int}, x ∈ fvl k → ∃ n a b s v kk r, fdrop n k = .node a b (s, v) kk r ∧ x ∈ fvs s v kk
  | .nil, _, h => by simp [fvl] at h
  | .node a b (s, v) kk r, x, h => by
    simp only [fvl, List.mem_append] at h
    rcases h with h | h
    · exact ⟨0, a, b, s, v, kk, r, rfl, h⟩
    · obtain ⟨n, a', b', s', v', kk', r', e, hx⟩ := fvl_ex r h
      exact ⟨n + 1, a', b', s', v', kk', r', e, hx⟩
theorem var_place (N : Nat) : ∀ (s v : Int) (k : Fo) {x : Int}, fsz k ≤ N → x ∈ fvs s v k → ∃ p kk, p ∈ places k ∧ fat s v k p = some (0, x, kk) := by
  induction N using Nat.strongRecOn with
  | _ N ih =>
    intro s v k x hN hx
    unfold fvs at hx
    split at hx
    · rename_i hs
      simp only [List.mem_singleton] at hx
      subst hs
      subst hx
      exact ⟨[], k, by simp [places], rfl⟩
    · obtain ⟨n, a, b, s', v', kk, r, e, hx'⟩ := fvl_ex k hx
      have hk := fsz_kid e
      obtain ⟨p, k2, hp, hf⟩ := ih (fsz kk) (by omega) s' v' kk (Nat.le_refl _) hx'
      refine ⟨(n : Int) :: p, k2, ?_, by rw [fat_step (fdrop_lt e) e]; exact hf⟩
      have := fpl_mem n k 0 e hp
      rw [Nat.zero_add] at this
      exact List.mem_cons_of_mem _ this
theorem place_var : ∀ (p : List Int) (s v : Int) (k : Fo) {x : Int} {kk : Fo}, okN s v (flen k) = true → fok k = true → fat s v k p = some (0, x, kk) → x ∈ fvs s v k
  | [], s, v, k, x, kk, _, _, h => by
    simp only [fat, Option.some.injEq, Prod.mk.injEq] at h
    obtain ⟨rfl, rfl, rfl⟩ := h
    simp [fvs]
  | i :: ps, s, v, k, x, kk, hok, hfo, h => by
    by_cases hi : 0 ≤ i ∧ i < (flen k : Int)
    · obtain ⟨n, rfl⟩ : ∃ n : Nat, i = n := ⟨i.toNat, by omega⟩
      obtain ⟨a, b, s', v', k', e⟩ := fdrop_succ n k (by omega)
      rw [fat_step (by omega) e] at h
      have hkid := fok_kid hfo e
      have := place_var ps s' v' k' hkid.1 hkid.2 h
      have hs0 : s ≠ 0 := fun e => by
        subst e
        have := ((okN_iff _ _ _).1 hok).1
        simp [ar] at this
        omega
      unfold fvs
      rw [if_neg hs0]
      exact fvl_at n k e this
    · rw [fat_out hi] at h; cases h

/-- The variables at the first j places. -/
def Seen (s v : Int) (k : Fo) (j : Nat) (ns : List Int) : Prop := ns.Nodup ∧ ∀ y, y ∈ ns ↔ ∃ i p kk, i < j ∧ (places k)[i]? = some p ∧ fat s v k p = some (0, y, kk)
theorem Seen.start (s v : Int) (k : Fo) : Seen s v k 0 [] := ⟨List.nodup_nil, fun y => ⟨fun h => by simp at h, fun ⟨i, p, kk, hi, _⟩ => by omega⟩⟩
theorem Seen.skip {s v : Int} {k : Fo} {j : Nat} {ns : List Int} {p : List Int} {y1 y2 : Int} {y3 : Fo} (h : Seen s v k j ns) (hp : (places k)[j]? = some p) (hf : fat s v k p = some (y1, y2, y3)) (hy : y1 ≠ 0 ∨ y2 ∈ ns) : Seen s v k (j + 1) ns := by
  refine ⟨h.1, fun y => ⟨fun hyn => ?_, fun hyn => ?_⟩⟩
  · obtain ⟨i, q, kk, hi, e⟩ := (h.2 y).1 hyn
    exact ⟨i, q, kk, by omega, e⟩
  · obtain ⟨i, q, kk, hi, e1, e2⟩ := hyn
    by_cases hij : i < j
    · exact (h.2 y).2 ⟨i, q, kk, hij, e1, e2⟩
    · have : i = j := by omega
      subst this
      rw [hp] at e1
      cases e1
      rw [hf] at e2
      simp only [Option.some.injEq, Prod.mk.injEq] at e2
      obtain ⟨e3, e4, _⟩ := e2
      rcases hy with hy | hy
      · exact absurd e3 hy
      · rw [← e4]; exact hy
theorem Seen.more {s v : Int} {k : Fo} {j : Nat} {ns : List Int} {p : List Int} {y2 : Int} {y3 : Fo} (h : Seen s v k j ns) (hp : (places k)[j]? = some p) (hf : fat s v k p = some (0, y2, y3)) (hy : y2 ∉ ns) : Seen s v k (j + 1) (ns ++ [y2]) := by
  refine ⟨List.nodup_append.2 ⟨h.1, by simp, fun a ha b hb => ?_⟩, fun y => ?_⟩
  · simp only [List.mem_singleton] at hb
    subst hb
    exact fun e => hy (by rw [← e]; exact ha)
  · rw [List.mem_append, List.mem_singleton]
    constructor
    · rintro (hyn | rfl)
      · obtain ⟨i, q, kk, hi, e⟩ := (h.2 y).1 hyn
        exact ⟨i, q, kk, by omega, e⟩
      · exact ⟨j, p, y3, by omega, hp, hf⟩
    · rintro ⟨i, q, kk, hi, e1, e2⟩
      by_cases hij : i < j
      · exact .inl ((h.2 y).2 ⟨i, q, kk, hij, e1, e2⟩)
      · have : i = j := by omega
        subst this
        rw [hp] at e1
        cases e1
        rw [hf] at e2
        simp only [Option.some.injEq, Prod.mk.injEq] at e2
        exact .inr e2.2.1.symm
theorem Seen.all {s v : Int} {k : Fo} {ns : List Int} (hok : okW s v k 16 = true) (h : Seen s v k (places k).length ns) : ns.length = (tvR s v k).length := by
  have h' := (okW_iff _ _ _ _).1 hok
  have hd : (tvR s v k).Nodup := by
    unfold tvR
    rw [if_pos hok]
    exact (among_strict _ _).imp (fun h => by omega)
  refine ((List.perm_ext_iff_of_nodup h.1 hd).2 fun y => ?_).length_eq
  rw [tvR_mem hok, h.2 y]
  constructor
  · rintro ⟨i, p, kk, _, _, hf⟩
    exact place_var p s v k h'.1 h'.2.1 hf
  · intro hy
    obtain ⟨p, kk, hp, hf⟩ := var_place (fsz k) s v k (Nat.le_refl _) hy
    obtain ⟨i, hi, e⟩ := List.getElem_of_mem hp
    exact ⟨i, p, kk, hi, by rw [List.getElem?_eq_getElem hi, e], hf⟩
theorem grown_cell {w w' : World} {o : Obj} {row : Option Nat} {b i : Nat} {u : Value} (h : (w.alloc o).grownBy w' row) (hr : ∀ g, row = some g → g ≠ b) (hc : w.cell? ⟨b, i, none⟩ = some u) : w'.cell? ⟨b, i, none⟩ = some u := by
  have h1 := cell_low ((Below.refl _ _).alloc (Nat.le_refl _) o) hc
  rw [h.cell_far _ (World.block_lt_of_cell? _ _ h1) (fun e => hr _ e.symm rfl)]
  exact h1
theorem tvR_up {s v : Int} {k : Fo} {q : Nat} {x y : Int} (hx : (tvR s v k)[q]? = some x) (hy : (tvR s v k)[q + 1]? = some y) : x < y := by
  have h : (tvR s v k).Pairwise (· < ·) := by
    unfold tvR
    split
    · exact among_strict _ _
    · exact List.Pairwise.nil
  obtain ⟨h1, rfl⟩ := List.getElem?_eq_some_iff.1 hx
  obtain ⟨h2, rfl⟩ := List.getElem?_eq_some_iff.1 hy
  exact List.pairwise_iff_getElem.1 h q (q + 1) h1 h2 (Nat.lt_succ_self _)
end Go.Proofs.Ytkmfnhoeigoajaa

/-! LawSVars: laws.FnSubstVars answers true at every code. -/
namespace Go.Proofs.Ytkmfnhoeigoajaa
open Go.RowKit Go.Deep
attribute [local go_sem ↓] Go.wp_at_zero Go.wp_at_succ

/-- A row of one's own that grows, beside a row that stays. -/
structure VAt (wB wV : World) (ys : List Int) (A' : Option Addr) (C' : Nat) (wr : World) : Prop where
  low : Below wB.heap.size wB wr
  same : Same (wB.heap.size + 1) wV.heap.size wV wr
  own : IOwn wr wB.heap.size ys A' C'
  blk : ∀ g, (Value.slice A' ys.length C').ownBlock = some g → g = wB.heap.size ∨ wV.heap.size ≤ g
  size : wV.heap.size ≤ wr.heap.size
theorem VAt.next {wB wV wr w2 : World} {ys : List Int} {A' : Option Addr} {C' : Nat} (h : VAt wB wV ys A' C' wr) (hb : Below wr.heap.size wr w2) : VAt wB wV ys A' C' w2 :=
  ⟨h.low.trans (hb.mono h.low.size), fun b h1 h2 => (hb.block b (Nat.lt_of_lt_of_le h2 h.size)).trans (h.same b h1 h2), h.own.low hb, h.blk, Nat.le_trans h.size hb.size⟩
theorem VAt.app {wB wV w2 w3 : World} {ys zs : List Int} {A' A3 : Option Addr} {C' C3 : Nat} (h : VAt wB wV ys A' C' w2) (hown : w3.ownsRow wB.heap.size 3 1 (.slice A3 (ys.length + zs.length) C3) (ys.length + zs.length) (ys.map (Value.int .i64) ++ zs.map (Value.int .i64))) (hg : w2.grownBy w3 (Value.slice A' ys.length C').ownBlock)
    (hat : (Value.slice A3 (ys.length + zs.length) C3).ownBlock = (Value.slice A' ys.length C').ownBlock ∨ (Value.slice A3 (ys.length + zs.length) C3).ownBlock = some w2.heap.size) : VAt wB wV (ys ++ zs) A3 C3 w3 := by
  have hl : (ys ++ zs).length = ys.length + zs.length := List.length_append
  have hlt : ∀ g, (Value.slice A' ys.length C').ownBlock = some g → wB.heap.size ≤ g := fun g hg => (h.own.lt g hg).1
  have h2 := h.low.size
  have h3 := h.size
  refine ⟨h.low.grown hg h2 hlt, fun b h1 h4 => (hg.block b (by omega) (fun e => by have := h.blk b e.symm; omega)).trans (h.same b h1 h4), ?_, fun g hg' => ?_, Nat.le_trans h.size hg.size⟩
  · unfold IOwn
    rw [hl, List.map_append]
    exact hown
  · rw [hl] at hg'
    rcases hat with e | e
    · exact h.blk g (by rw [← e]; exact hg')
    · have : g = w2.heap.size := by rw [e] at hg'; exact (Option.some.inj hg').symm
      omega
theorem var_sub {bs : List Bd} (hs : sok 16 bs = true) {y : Int} (h0 : 0 ≤ y) (h1 : y ≤ 11) : ∃ s3 v3 k3, sdR bs 0 y .nil = (s3, v3, k3, true) ∧ tsub (sv bs) 0 y .nil = (s3, v3, k3) ∧ okW s3 v3 k3 16 = true := by
  have ho : okW 0 y .nil 16 = true := (okW_iff _ _ _ _).2 ⟨(okN_iff _ _ _).2 ⟨by simp [flen, ar], fun _ => ⟨h0, h1⟩, fun h => absurd rfl h⟩, rfl, by simp [fsz]⟩
  generalize htt : tsub (sv bs) 0 y .nil = tt
  obtain ⟨s3, v3, k3⟩ := tt
  have hk : 1 + fsz k3 ≤ 16 := by
    have h2 : tsub (sv bs) 0 y .nil = (sv bs y).getD (0, y, .nil) := by rw [tsub, if_pos rfl]
    rw [h2] at htt
    cases hv : sv bs y with
    | none => rw [hv] at htt; simp only [Option.getD_none, Prod.mk.injEq] at htt; obtain ⟨_, _, rfl⟩ := htt; simp [fsz]
    | some t => rw [hv] at htt; simp only [Option.getD_some] at htt; subst htt; have := ((okW_iff _ _ _ _).1 (sv_ok bs (-1) hs y _ hv)).2.2; dsimp only at this; omega
  have hd := sdR_of hs ho htt hk
  rcases sdR_cases hd with ⟨h, _⟩ | ⟨_, _, _, _, hx⟩
  · cases h
  exact ⟨s3, v3, k3, hd, rfl, hx⟩
/-- The variables of what the first j variables stand for. -/
def VM (bs : List Bd) (xs : List Int) (j : Nat) (ys : List Int) : Prop := ∀ x, x ∈ ys ↔ ∃ q y, q < j ∧ xs[q]? = some y ∧ x ∈ tvR (tsub (sv bs) 0 y .nil).1 (tsub (sv bs) 0 y .nil).2.1 (tsub (sv bs) 0 y .nil).2.2
theorem VM.start (bs : List Bd) (xs : List Int) : VM bs xs 0 [] := fun x => by simp
theorem VM.step {bs : List Bd} {xs ys : List Int} {j : Nat} {y s3 v3 : Int} {k3 : Fo} (h : VM bs xs j ys) (hy : xs[j]? = some y) (ht : tsub (sv bs) 0 y .nil = (s3, v3, k3)) : VM bs xs (j + 1) (ys ++ tvR s3 v3 k3) := fun x => by
  rw [List.mem_append, h x]
  constructor
  · rintro (⟨q, z, hq, hz, hx⟩ | hx)
    · exact ⟨q, z, by omega, hz, hx⟩
    · exact ⟨j, y, by omega, hy, by rw [ht]; exact hx⟩
  · rintro ⟨q, z, hq, hz, hx⟩
    by_cases e : q = j
    · subst e
      rw [hy] at hz
      obtain rfl := Option.some.inj hz
      rw [ht] at hx
      exact .inr hx
    · exact .inl ⟨q, z, by omega, hz, hx⟩
theorem VM.all {bs : List Bd} {s v : Int} {k : Fo} {sx vx : Int} {kx : Fo} {ys : List Int} (hd : sdR bs s v k = (sx, vx, kx, true)) (h : VM bs (tvR s v k) (tvR s v k).length ys) (x : Int) : x ∈ tvR sx vx kx ↔ x ∈ ys := by
  rcases sdR_cases hd with ⟨h', _⟩ | ⟨_, hsok, hok, ht, hokx⟩
  · cases h'
  have hs := fvs_sub (sv bs) x s v k (fun e => by subst e; exact kids_none ((okW_iff _ _ _ _).1 hok).1)
  rw [ht] at hs
  rw [tvR_mem hokx, hs, h x]
  constructor
  · rintro ⟨y, hy, hx⟩
    have hin := fvs_in hok y hy
    obtain ⟨s3, v3, k3, _, h2, h3⟩ := var_sub hsok hin.1 hin.2
    obtain ⟨q, hq, e⟩ := List.getElem_of_mem ((tvR_mem hok y).2 hy)
    refine ⟨q, y, hq, by rw [List.getElem?_eq_getElem hq, e], ?_⟩
    rw [h2] at hx ⊢
    exact (tvR_mem h3 x).2 hx
  · rintro ⟨q, y, _, hq, hx⟩
    have hy := (tvR_mem hok y).1 (List.mem_of_getElem? hq)
    have hin := fvs_in hok y hy
    obtain ⟨s3, v3, k3, _, h2, h3⟩ := var_sub hsok hin.1 hin.2
    refine ⟨y, hy, ?_⟩
    rw [h2] at hx ⊢
    exact (tvR_mem h3 x).1 hx

set_option maxRecDepth 100000 in
set_option maxHeartbeats 4000000 in
theorem substVars_walk (a0 : Option Addr) (len cap : Nat) (w : World) (hby : Bytes w a0 len) (hlen : len ≤ cap) :
    Calls Try.prog 8 #[.slice a0 len cap] w fun e w' => e = .returned (.bool true) ∧ Below w.heap.size w w' := by
  have HBY := Lib.hid hby
  clear hby
  by_cases hbiglen : 1048576 < len
  · go_enter Try.func8, Try.ntmps8
    go_wp2_with fail
    go_ret
    exact ⟨rfl, Below.refl _ _⟩
  go_enter Try.func8, Try.ntmps8
  go_wp2_with fail
  with_reducible refine (DrawSubstDo_any a0 len cap _ HBY.out hlen).mono ?_
  rintro e wa ⟨bs, A, C, s, v, a, c, k, rfl, hbl, hSk, hb, hi, hl⟩
  have Hlow := Lib.hid hb
  have HBS : Hid (BSl wa 0 wa.heap.size A bs) := hi.mono (Nat.zero_le _) (Nat.le_refl _)
  have HL := Lib.hid hl
  clear hb hi hl HBY
  have hbx : Below wa.heap.size wa (wa.alloc (.cells #[.int .i64 s, .int .i64 v, .slice a (flen k) c] 26)) := box_low _ _
  have Hn : Hid (Tb wa.heap.size s v a c k (wa.alloc (.cells #[.int .i64 s, .int .i64 v, .slice a (flen k) c] 26))) := Tb.new HL.out
  have Hlow' : Hid (Below w.heap.size w (wa.alloc (.cells #[.int .i64 s, .int .i64 v, .slice a (flen k) c] 26))) := below_next Hlow.out hbx
  have HBS' : Hid (BSl (wa.alloc (.cells #[.int .i64 s, .int .i64 v, .slice a (flen k) c] 26)) 0 (wa.alloc (.cells #[.int .i64 s, .int .i64 v, .slice a (flen k) c] 26)).heap.size A bs) := HBS.out.next hbx
  clear Hlow HBS
  have Hlow := Hlow'
  clear Hlow'
  have HBS := HBS'
  clear HBS'
  have Ht := Hn
  clear Hn hbx
  have qt0 := Ht.out.c0
  have qt1 := Ht.out.c1
  have qt2 := Ht.out.c2
  go_wp2_with fail
  with_reducible refine (sSubstDo_any bs A C s v a c k _ HBS.out (by omega) Ht.out.sl).mono ?_
  rintro e wx1 ⟨aw, cw, sw, vw, kw, tw, hdw, rfl, hb, hlw⟩
  have HDw := Lib.hid hdw
  clear hdw
  clear qt0 qt1 qt2
  have Hlow' : Hid (Below w.heap.size w wx1) := below_next Hlow.out hb
  have HBS' : Hid (BSl wx1 0 wx1.heap.size A bs) := HBS.out.next hb
  have Ht' : Hid (Tb wa.heap.size s v a c k wx1) := Ht.out.next hb
  clear Hlow HBS Ht
  have Hlow := Hlow'
  clear Hlow'
  have HBS := HBS'
  clear HBS'
  have Ht := Ht'
  clear Ht'
  clear hb
  have Hlw := Lib.hid hlw
  clear hlw
  have hbx : Below wx1.heap.size wx1 (wx1.alloc (.cells #[.int .i64 sw, .int .i64 vw, .slice aw (flen kw) cw] 26)) := box_low _ _
  have Hn : Hid (Tb wx1.heap.size sw vw aw cw kw (wx1.alloc (.cells #[.int .i64 sw, .int .i64 vw, .slice aw (flen kw) cw] 26))) := Tb.new Hlw.out
  have Hlow' : Hid (Below w.heap.size w (wx1.alloc (.cells #[.int .i64 sw, .int .i64 vw, .slice aw (flen kw) cw] 26))) := below_next Hlow.out hbx
  have HBS' : Hid (BSl (wx1.alloc (.cells #[.int .i64 sw, .int .i64 vw, .slice aw (flen kw) cw] 26)) 0 (wx1.alloc (.cells #[.int .i64 sw, .int .i64 vw, .slice aw (flen kw) cw] 26)).heap.size A bs) := HBS.out.next hbx
  have Ht' : Hid (Tb wa.heap.size s v a c k (wx1.alloc (.cells #[.int .i64 sw, .int .i64 vw, .slice aw (flen kw) cw] 26))) := Ht.out.next hbx
  clear Hlow HBS Ht
  have Hlow := Hlow'
  clear Hlow'
  have HBS := HBS'
  clear HBS'
  have Ht := Ht'
  clear Ht'
  have Hw := Hn
  clear Hn hbx
  clear Hlw
  have qt0 := Ht.out.c0
  have qt1 := Ht.out.c1
  have qt2 := Ht.out.c2
  go_wp2_with fail
  with_reducible refine (iSubstDo_any bs A C s v a c k _ HBS.out (by omega) Ht.out.sl).mono ?_
  rintro e wx2 ⟨ax, cx, sx, vx, kx, tx, hdx, rfl, hb, hlx⟩
  rw [HDw.out] at hdx
  simp only [Prod.mk.injEq] at hdx
  obtain ⟨rfl, rfl, rfl, rfl⟩ := hdx
  clear qt0 qt1 qt2
  have Hlow' : Hid (Below w.heap.size w wx2) := below_next Hlow.out hb
  have HBS' : Hid (BSl wx2 0 wx2.heap.size A bs) := HBS.out.next hb
  have Ht' : Hid (Tb wa.heap.size s v a c k wx2) := Ht.out.next hb
  have Hw' : Hid (Tb wx1.heap.size sw vw aw cw kw wx2) := Hw.out.next hb
  clear Hlow HBS Ht Hw
  have Hlow := Hlow'
  clear Hlow'
  have HBS := HBS'
  clear HBS'
  have Ht := Ht'
  clear Ht'
  have Hw := Hw'
  clear Hw'
  clear hb
  have Hlx := Lib.hid hlx
  clear hlx
  have hbx : Below wx2.heap.size wx2 (wx2.alloc (.cells #[.int .i64 sw, .int .i64 vw, .slice ax (flen kw) cx] 26)) := box_low _ _
  have Hn : Hid (Tb wx2.heap.size sw vw ax cx kw (wx2.alloc (.cells #[.int .i64 sw, .int .i64 vw, .slice ax (flen kw) cx] 26))) := Tb.new Hlx.out
  have Hlow' : Hid (Below w.heap.size w (wx2.alloc (.cells #[.int .i64 sw, .int .i64 vw, .slice ax (flen kw) cx] 26))) := below_next Hlow.out hbx
  have HBS' : Hid (BSl (wx2.alloc (.cells #[.int .i64 sw, .int .i64 vw, .slice ax (flen kw) cx] 26)) 0 (wx2.alloc (.cells #[.int .i64 sw, .int .i64 vw, .slice ax (flen kw) cx] 26)).heap.size A bs) := HBS.out.next hbx
  have Ht' : Hid (Tb wa.heap.size s v a c k (wx2.alloc (.cells #[.int .i64 sw, .int .i64 vw, .slice ax (flen kw) cx] 26))) := Ht.out.next hbx
  have Hw' : Hid (Tb wx1.heap.size sw vw aw cw kw (wx2.alloc (.cells #[.int .i64 sw, .int .i64 vw, .slice ax (flen kw) cx] 26))) := Hw.out.next hbx
  clear Hlow HBS Ht Hw
  have Hlow := Hlow'
  clear Hlow'
  have HBS := HBS'
  clear HBS'
  have Ht := Ht'
  clear Ht'
  have Hw := Hw'
  clear Hw'
  have Hx := Hn
  clear Hn hbx
  clear Hlx
  have hkw := sdR_sz HDw.out
  have eb : (tw != tw) = false := by simp
  have eb2 : (tw == tw) = true := by simp
  have qx0 := Hx.out.c0
  have qx1 := Hx.out.c1
  have qx2 := Hx.out.c2
  have qw0 := Hw.out.c0
  have qw1 := Hw.out.c1
  have qw2 := Hw.out.c2
  go_wp2_with fail
  with_reducible refine (laTerm_same (fsz kw) sw vw ax aw cx cw kw _ Hx.out.sl Hw.out.sl (Nat.le_refl _) (by omega)).mono ?_
  rintro e wx3 ⟨rfl, hb⟩
  clear qx0 qx1 qx2 qw0 qw1 qw2
  have Hlow' : Hid (Below w.heap.size w wx3) := below_next Hlow.out hb
  have HBS' : Hid (BSl wx3 0 wx3.heap.size A bs) := HBS.out.next hb
  have Ht' : Hid (Tb wa.heap.size s v a c k wx3) := Ht.out.next hb
  have Hw' : Hid (Tb wx1.heap.size sw vw aw cw kw wx3) := Hw.out.next hb
  have Hx' : Hid (Tb wx2.heap.size sw vw ax cx kw wx3) := Hx.out.next hb
  clear Hlow HBS Ht Hw Hx
  have Hlow := Hlow'
  clear Hlow'
  have HBS := HBS'
  clear HBS'
  have Ht := Ht'
  clear Ht'
  have Hw := Hw'
  clear Hw'
  have Hx := Hx'
  clear Hx'
  clear hb
  cases tw with
  | false =>
    have qx0 := Hx.out.c0
    have qx1 := Hx.out.c1
    have qx2 := Hx.out.c2
    have qw0 := Hw.out.c0
    have qw1 := Hw.out.c1
    have qw2 := Hw.out.c2
    go_wp2_with fail
    with_reducible refine (laTerm_same (fsz kw) sw vw ax aw cx cw kw _ Hx.out.sl Hw.out.sl (Nat.le_refl _) (by omega)).mono ?_
    rintro e wx4 ⟨rfl, hb⟩
    clear qx0 qx1 qx2 qw0 qw1 qw2
    have Hlow' : Hid (Below w.heap.size w wx4) := below_next Hlow.out hb
    have HBS' : Hid (BSl wx4 0 wx4.heap.size A bs) := HBS.out.next hb
    have Ht' : Hid (Tb wa.heap.size s v a c k wx4) := Ht.out.next hb
    have Hw' : Hid (Tb wx1.heap.size sw vw aw cw kw wx4) := Hw.out.next hb
    have Hx' : Hid (Tb wx2.heap.size sw vw ax cx kw wx4) := Hx.out.next hb
    clear Hlow HBS Ht Hw Hx
    have Hlow := Hlow'
    clear Hlow'
    have HBS := HBS'
    clear HBS'
    have Ht := Ht'
    clear Ht'
    have Hw := Hw'
    clear Hw'
    have Hx := Hx'
    clear Hx'
    clear hb
    go_wp2_with fail
    go_ret
    exact ⟨rfl, Hlow.out⟩
  | true =>
    clear eb eb2
    have HOK : Hid (okW s v k 16 = true) := by rcases sdR_cases HDw.out with ⟨h, _⟩ | ⟨_, _, h, _⟩; cases h; exact h
    have HOKX : Hid (okW sw vw kw 16 = true) := by rcases sdR_cases HDw.out with ⟨h, _⟩ | ⟨_, _, _, _, h⟩; cases h; exact h
    have hk16 := ((okW_iff _ _ _ _).1 HOK.out).2.2
    clear Hw
    have HSOK : Hid (sok 16 bs = true) := by rcases sdR_cases HDw.out with ⟨h, _⟩ | ⟨_, h, _⟩; cases h; exact h
    obtain ⟨ti, hti, htz, hts, htb'⟩ := Try.infoI
    have HTI : Hid (Try.prog.info? 3 = some ti ∧ ti.zero = some (.int .i64 0) ∧ ti.size = 1 ∧ ti.bytes = 8) := ⟨hti, htz, hts, htb'⟩
    clear hti htz hts htb'
    have qt0 := Ht.out.c0
    have qt1 := Ht.out.c1
    have qt2 := Ht.out.c2
    have hba : Below wx3.heap.size wx3 (wx3.alloc (.cells #[] 3)) := box_low _ _
    have qb0 := cell_low hba qt0
    have qb1 := cell_low hba qt1
    have qb2 := cell_low hba qt2
    have HTA := Lib.hid (Ht.out.next hba)
    clear qt0 qt1 qt2 hba
    go_wp2_with fail
    with_reducible refine (iTermVars_any s v a c k _ HTA.out.sl).mono ?_
    rintro e wV ⟨AV, CV, xs, rfl, rfl, hb, hown⟩
    clear qb0 qb1 qb2
    have hb1 : Below (wx3.heap.size + 1) (wx3.alloc (.cells #[] 3)) wV := hb.mono (by simp)
    have hsV := hb1.size
    simp at hsV
    have HV : Hid (ISl wV (wx3.heap.size + 1) wV.heap.size AV (tvR s v k)) := hown.sl.mono (by simp) (Nat.le_refl _)
    have HA0 : Hid (VAt wx3 wV [] (some ⟨wx3.heap.size, 0, none⟩) 0 wV) := by
      refine ⟨((Below.refl _ _).alloc (Nat.le_refl _) (.cells #[] 3)).trans (hb.mono (by simp)), fun _ _ _ => rfl, ?_, fun g hg => ?_, Nat.le_refl _⟩
      · refine own_low hb ⟨rfl, .inr ⟨wx3.heap.size, 0, #[], rfl, Nat.le_refl _, heap_alloc_new _ _, Nat.le_refl _, by decide, rfl, rfl⟩⟩
      · have : g = wx3.heap.size := by simpa [Value.ownBlock] using hg.symm
        exact .inl this
    have hvl := tvR_len s v k
    clear hb hb1 hown HTA
    go_wp2_with fail
    go_loopw [9, 11] (fun t i wr => ∃ (j : Nat) (ys : List Int) (A' : Option Addr) (C' : Nat), t = .slice A' ys.length C' ∧ i = .int .i64 j ∧ j ≤ (tvR s v k).length ∧ ys.length ≤ 12 * j ∧ Hid (VM bs (tvR s v k) j ys) ∧ Hid (VAt wx3 wV ys A' C' wr)) (fun _ i _ => (tvR s v k).length - (intOf i).toNat)
    case atStart => exact ⟨0, [], _, _, rfl, rfl, Nat.zero_le _, Nat.le_refl _, VM.start _ _, HA0⟩
    case round =>
      clear HA0
      obtain ⟨j, ys, A', C', rfl, rfl, hj, hyl, HM, HA⟩ := hrel
      by_cases hlt : j < (tvR s v k).length
      · obtain ⟨y, hy⟩ : ∃ y, (tvR s v k)[j]? = some y := ⟨_, List.getElem?_eq_getElem hlt⟩
        have hin := fvs_in HOK.out y ((tvR_mem HOK.out y).1 (List.mem_of_getElem? hy))
        obtain ⟨s3, v3, k3, hsd, hts, hok3⟩ := var_sub HSOK.out hin.1 hin.2
        obtain ⟨vb, vo, hAV, hv1, hv2, hvc⟩ := isl_at HV.out hlt
        subst hAV
        have hyE : (tvR s v k)[j] = y := by rw [List.getElem?_eq_getElem hlt] at hy; exact Option.some.inj hy
        rw [hyE] at hvc
        have hvc2 : wr.cell? ⟨vb, vo + j, none⟩ = some (.int .i64 y) := (HA.out.same.cell hv1 hv2).trans hvc
        have HMS := Lib.hid (HM.out.step hy hts)
        have HSD := Lib.hid hsd
        have HOK3 := Lib.hid hok3
        have h3l := tvR_len s3 v3 k3
        clear hy hsd hts hok3 hvc hyE HM hin
        have g1 : (0 : Int) ≤ (j : Int) := by omega
        have g2 : (j : Int) < ((tvR s v k).length : Int) := by omega
        have HBSr : Hid (BSl wr 0 wr.heap.size A bs) := HBS.out.next HA.out.low
        have HCC := Lib.hid (fun w0 hb => iSubstDo_any bs A C 0 y none 0 .nil w0 hb (by omega) (.inl rfl))
        go_wp2_with fail
        refine (HCC.out _ HBSr.out).mono ?_
        rintro e w1 ⟨aq, cq, sq, vq, kq, tq, hdq, rfl, hb, hlq⟩
        rw [HSD.out] at hdq
        simp only [Prod.mk.injEq] at hdq
        obtain ⟨rfl, rfl, rfl, rfl⟩ := hdq
        have HA1 := Lib.hid ((HA.out.next hb).next (box_low w1 (.cells #[.int .i64 s3, .int .i64 v3, .slice aq (flen k3) cq] 26)))
        have Hq := Lib.hid (Tb.new (s := s3) (v := v3) (c := cq) hlq)
        clear hb hlq hvc2 HA HBSr HCC
        have qq0 := Hq.out.c0
        have qq1 := Hq.out.c1
        have qq2 := Hq.out.c2
        go_wp2_with fail
        generalize w1.alloc (.cells #[.int .i64 s3, .int .i64 v3, .slice aq (flen k3) cq] 26) = w2 at *
        with_reducible refine (iTermVars_any s3 v3 aq cq k3 _ Hq.out.sl).mono ?_
        rintro e w4 ⟨AZ, CZ, zs, hzs, rfl, hb4, hown4⟩
        have HA4 := Lib.hid (HA1.out.next hb4)
        have HZ := Lib.hid hown4.sl
        have HZO := Lib.hid hown4
        have hzl : zs.length ≤ 12 := by rw [hzs]; exact h3l
        rw [← hzs] at HMS
        clear qq0 qq1 qq2 hb4 hown4 HA1 Hq hzs
        have hsz4 := HA4.out.low.size
        have HSRC : Hid (Src w4 1 AZ zs.length (zs.map (Value.int .i64))) := src_of_isl HZ.out (fun h => by subst h; cases zs with | nil => rfl | cons z r => exact absurd (HZO.out.form (by simp)) (by rintro ⟨g, cap, hv, _⟩; cases hv))
        have HIO : Hid (w4.ownsRow wx3.heap.size 3 1 (.slice A' ys.length C') ys.length (ys.map (Value.int .i64))) := HA4.out.own
        go_wp2_with (at_builtin; refine wpList_append_src _ rfl _ _ 35 rfl wx3.heap.size 3 ti _ 1 8 Try.underlying35 HTI.out.1 HTI.out.2.1 HTI.out.2.2.1 HTI.out.2.2.2 rfl (by omega) (.slice A' ys.length C') ys.length (ys.map (Value.int .i64)) rfl HIO.out AZ zs.length CZ (zs.map (Value.int .i64)) rfl HSRC.out (by simp [Value.oneCell']) (by unfold maxLen; omega) (by omega) (by omega) ?_; intro A5 C5 w5 hown5 hgrow5 hat5; have HA5 := Lib.hid (HA4.out.app hown5 hgrow5 hat5); clear hown5 hgrow5 hat5)
        have hl5 : (ys ++ zs).length = ys.length + zs.length := List.length_append
        go_roundw
        case rel => exact ⟨j + 1, ys ++ zs, A5, C5, by rw [hl5], by go_num, by omega, by omega, HMS, HA5⟩
        case measure => simp [intOf]; omega
      · have hjE : j = (tvR s v k).length := by omega
        subst hjE
        have HALL := Lib.hid (HM.out.all HDw.out)
        clear HM
        have Hlow' : Hid (Below w.heap.size w wr) := below_next Hlow.out HA.out.low
        clear Hlow
        have Hlow := Hlow'
        clear Hlow'
        have Hx' : Hid (Tb wx2.heap.size sw vw ax cx kw wr) := Hx.out.next HA.out.low
        clear Hx
        have Hx := Hx'
        clear Hx'
        have qx0 := Hx.out.c0
        have qx1 := Hx.out.c1
        have qx2 := Hx.out.c2
        go_wp2_with fail
        with_reducible refine (iTermVars_any sw vw ax cx kw _ Hx.out.sl).mono ?_
        rintro e wN ⟨AN, CN, ns, rfl, rfl, hb, hownN⟩
        clear qx0 qx1 qx2
        have HN : Hid (ISl wN 0 wN.heap.size AN (tvR sw vw kw)) := hownN.sl.mono (Nat.zero_le _) (Nat.le_refl _)
        have HYS : Hid (ISl wN 0 wN.heap.size A' ys) := HA.out.own.sl.next hb
        have HLW := Lib.hid (below_next Hlow.out hb)
        have hnl := tvR_len sw vw kw
        clear hb hownN HA Hlow Hx
        go_wp2_with fail
        go_loopw [15] (fun i wq => ∃ (q : Nat), i = .int .i64 q ∧ q ≤ 12 ∧ Hid (ISl wq 0 wq.heap.size AN (tvR sw vw kw)) ∧ Hid (ISl wq 0 wq.heap.size A' ys) ∧ Hid (Below w.heap.size w wq)) (fun i _ => 12 - (intOf i).toNat)
        case atStart => exact ⟨0, rfl, Nat.zero_le _, HN, HYS, HLW⟩
        case round =>
          clear HN HYS HLW
          obtain ⟨q, rfl, hq, HN, HYS, HLW⟩ := hrel
          by_cases hq12 : q < 12
          · have g5 : (q : Int) < 12 := by omega
            have HEQ : Hid (decide ((q : Int) ∈ tvR sw vw kw) = decide ((q : Int) ∈ ys)) := by rw [Hid]; exact decide_eq_decide.2 (HALL.out q)
            generalize hd1 : decide ((q : Int) ∈ tvR sw vw kw) = d1 at HEQ
            have HD1 := Lib.hid hd1
            clear hd1
            go_wp2_with fail
            with_reducible refine (laIn_any (tvR sw vw kw) AN CN (q : Int) _ HN.out (by omega)).mono ?_
            rw [HD1.out]
            rintro e wq1 ⟨rfl, hb⟩
            have HN1 := Lib.hid (HN.out.next hb)
            have HYS1 := Lib.hid (HYS.out.next hb)
            have HLW1 := Lib.hid (below_next HLW.out hb)
            clear hb HN HYS HLW
            go_wp2_with fail
            with_reducible refine (laIn_any ys A' C' (q : Int) _ HYS1.out (by omega)).mono ?_
            rw [← HEQ.out]
            rintro e wq2 ⟨rfl, hb⟩
            have HN2 := Lib.hid (HN1.out.next hb)
            have HYS2 := Lib.hid (HYS1.out.next hb)
            have HLW2 := Lib.hid (below_next HLW1.out hb)
            clear hb HN1 HYS1 HLW1
            have eb : (d1 != d1) = false := by simp
            go_wp2_with fail
            go_roundw
            case rel => exact ⟨q + 1, by go_num, by omega, HN2, HYS2, HLW2⟩
            case measure => simp [intOf]; omega
          · go_wp2_with fail
            go_ret
            exact ⟨rfl, HLW.out⟩
end Go.Proofs.Ytkmfnhoeigoajaa
