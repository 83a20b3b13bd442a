/- Several texts in one: P6a, P7a, P5a, P7, V6, LP0, LawVars. -/
import Derived.Test.YtkmfnhoeigoajabKVar9
import Derived.Test.YtkmfnhoeigoajabKVar10
import Derived.Test.YtkmfnhoeigoajabKVar6
import Derived.Test.YtkmfnhoeigoajabKVar11
import Derived.Deep.RegionHeld3
import Derived.Deep.DrawnRows

/-! P6a: impl.TermPlaces and spec.TermPlaces: of a term the places, of any other value none. -/
namespace Go.Proofs.Ytkmfnhoeigoajab
open Go.RowKit Go.Deep

set_option maxRecDepth 100000 in
set_option maxHeartbeats 1000000 in
theorem iTermPlaces_any (s v : Int) (a : Option Addr) (c : Nat) (k : Fo) (w : World) (hl : Sl w 0 w.heap.size a k) :
    Calls Try.prog 19 #[.agg #[.int .i64 s, .int .i64 v, .slice a (flen k) c]] w (TpPost s v k w) := by
  cases hok : okW s v k 16 with
  | false =>
    have HOK := Lib.hid hok
    clear hok
    go_enter Try.func19, Try.ntmps19
    go_wp2_with fail
    with_reducible refine (nodeOf_any s v a c k 16 _ ?_ (by omega) (by omega)).mono ?_
    · exact (hl.below ((Below.refl _ _).alloc (Nat.le_refl _) _)).mono (Nat.le_refl _) (by simp)
    rintro e w2 ⟨nv, he, hb, hyes⟩
    rw [HOK.out] at he
    subst he
    clear hyes
    go_wp2_with fail
    go_ret
    exact ⟨none, 0, [], rfl, by rw [HOK.out]; rfl, ((Below.refl _ _).alloc (Nat.le_refl _) _).trans (hb.mono (by simp)), .inl rfl⟩
  | true =>
    have HOK := Lib.hid hok
    have hsz := ((okW_iff _ _ _ _).1 hok).2.2
    clear hok
    go_enter Try.func19, Try.ntmps19
    go_wp2_with fail
    with_reducible refine (nodeOf_any s v a c k 16 _ ?_ (by omega) (by omega)).mono ?_
    · exact (hl.below ((Below.refl _ _).alloc (Nat.le_refl _) _)).mono (Nat.le_refl _) (by simp)
    rintro e w2 ⟨nv, he, hb, hyes⟩
    rw [HOK.out] at he
    subst he
    have HN := Lib.hid (hyes HOK.out)
    have HB := Lib.hid (((Below.refl _ _).alloc (Nat.le_refl _) _).trans (hb.mono (by simp)))
    have hs2 := HB.out.size
    clear hyes hb
    obtain ⟨ty, vv, rfl⟩ : ∃ ty vv, nv = .iface ty vv := by
      rcases HN.out with ⟨_, _, rfl⟩ | ⟨_, _, _, rfl, _⟩
      · exact ⟨_, _, rfl⟩
      · exact ⟨_, _, rfl⟩
    go_wp2_with fail
    with_reducible refine (placesOf_any (fsz k) s v k _ _ ?_ (Nat.le_refl _) (by omega)).mono ?_
    · exact HN.out.mono (Nat.zero_le _) (Nat.le_refl _)
    rintro e w3 ⟨A, C, rfl, hb3, hr3⟩
    have HP : Hid (TpPost s v k w (.returned (.slice A (places k).length C)) w3) :=
      ⟨A, C, places k, rfl, by rw [HOK.out]; rfl, HB.out.trans (hb3.mono hs2), hr3.mono hs2 (Nat.le_refl _)⟩
    clear hb3 hr3
    go_wp2_with fail
    go_ret
    exact HP.out

end Go.Proofs.Ytkmfnhoeigoajab

/-! P7a: Each place is there, none twice: plain. -/
namespace Go.Proofs.Ytkmfnhoeigoajab
open Go.RowKit Go.Deep

mutual
theorem fpl_at : ∀ (r : Fo) (s v : Int) (k : Fo) (i : Nat) (p : List Int), fdrop i k = r → p ∈ fpl r i → ∃ x, fat s v k p = some x
  | .nil, _, _, _, _, _, _, hp => by simp [fpl] at hp
  | .node x y (s', v') kk r, s, v, k, i, p, hd, hp => by
    simp only [fpl, List.mem_append, List.mem_map] at hp
    rcases hp with ⟨q, hq, rfl⟩ | hp
    · have hi : i < flen k := by
        by_cases h : i < flen k
        · exact h
        · rw [fdrop_all (by omega)] at hd; cases hd
      obtain ⟨z, hz⟩ := places_at kk s' v' q hq
      refine ⟨z, ?_⟩
      simp only [fat]
      rw [if_pos (by omega)]
      simp only [Int.toNat_natCast, hd]
      exact hz
    · have hd' : fdrop (i + 1) k = r := by
        have hi : i < flen k := by
          by_cases h : i < flen k
          · exact h
          · rw [fdrop_all (by omega)] at hd; cases hd
        obtain ⟨x', y', s2, v2, kk2, e⟩ := fdrop_succ i k hi
        rw [hd] at e
        simp only [BT.node.injEq] at e
        exact e.2.2.2.2.symm
      exact fpl_at r s v k (i + 1) p hd' hp
  termination_by r => (SizeOf.sizeOf r, 0)
theorem places_at : ∀ (k : Fo) (s v : Int) (p : List Int), p ∈ [] :: fpl k 0 → ∃ x, fat s v k p = some x
  | k, s, v, p, hp => by
    rcases List.mem_cons.1 hp with rfl | hp
    · exact ⟨_, rfl⟩
    · exact fpl_at k s v k 0 p rfl hp
  termination_by k => (SizeOf.sizeOf k, 1)
end

theorem fpl_head : ∀ (k : Fo) (i : Nat) (p : List Int), p ∈ fpl k i → ∃ (j : Nat) (q : List Int), p = (j : Int) :: q ∧ i ≤ j
  | .nil, _, _, hp => by simp [fpl] at hp
  | .node _ _ _ kk r, i, p, hp => by
    simp only [fpl, List.mem_append, List.mem_map] at hp
    rcases hp with ⟨q, _, rfl⟩ | hp
    · exact ⟨i, q, rfl, Nat.le_refl _⟩
    · obtain ⟨j, q, e, h⟩ := fpl_head r (i + 1) p hp
      exact ⟨j, q, e, by omega⟩
theorem nil_fpl {k : Fo} {i : Nat} {b : List Int} (hb : b ∈ fpl k i) : [] ≠ b := by
  obtain ⟨j, q, e, _⟩ := fpl_head k i b hb
  intro e'
  rw [e] at e'
  cases e'
theorem fpl_apart : ∀ (k : Fo) (i : Nat), (fpl k i).Pairwise (· ≠ ·)
  | .nil, _ => List.Pairwise.nil
  | .node _ _ _ kk r, i => by
    simp only [fpl]
    rw [List.pairwise_append]
    refine ⟨?_, fpl_apart r (i + 1), fun a ha b hb => ?_⟩
    · rw [List.pairwise_map]
      have h : ([] :: fpl kk 0).Pairwise (· ≠ ·) := List.pairwise_cons.2 ⟨fun _ hb => nil_fpl hb, fpl_apart kk 0⟩
      exact h.imp fun hne e => hne (List.cons.inj e).2
    · obtain ⟨q, _, rfl⟩ := List.mem_map.1 ha
      obtain ⟨j, q', rfl, hj⟩ := fpl_head r (i + 1) b hb
      intro e
      have := (List.cons.inj e).1
      omega
theorem places_apart (k : Fo) : (places k).Pairwise (· ≠ ·) :=
  List.pairwise_cons.2 ⟨fun _ hb => nil_fpl hb, fpl_apart k 0⟩
theorem places_unlike {k : Fo} {i j : Nat} {p q : List Int} (hi : (places k)[i]? = some p) (hj : (places k)[j]? = some q) (hij : i < j) : p ≠ q := by
  obtain ⟨h1, rfl⟩ := List.getElem?_eq_some_iff.1 hi
  obtain ⟨h2, rfl⟩ := List.getElem?_eq_some_iff.1 hj
  exact List.pairwise_iff_getElem.1 (places_apart k) i j h1 h2 hij
end Go.Proofs.Ytkmfnhoeigoajab

/-! P5a: laInts: what is the same comes out the same. -/
namespace Go.Proofs.Ytkmfnhoeigoajab
open Go.RowKit Go.Deep

set_option maxRecDepth 100000 in
set_option maxHeartbeats 1000000 in
theorem laInts_same (xs : List Int) (A B : Option Addr) (ca cb m n : Nat) (w : World) (hA : ISl w 0 w.heap.size A xs) (hB : ISl w 0 w.heap.size B xs) (hm : m = xs.length) (hn : n = xs.length) (hx : xs.length ≤ 2000) :
    Calls Try.prog 16 #[.slice A m ca, .slice B n cb] w fun e w' => e = .returned (.bool true) ∧ Below w.heap.size w w' := by
  subst hm
  subst hn
  have HA := Lib.hid hA
  have HB := Lib.hid hB
  clear hA hB
  go_enter Try.func16, Try.ntmps16
  go_wp2_with fail
  go_loopw [5] (fun i wr => ∃ j : Nat, j ≤ xs.length ∧ i = .int .i64 j ∧ Below w.heap.size w wr) (fun i _ => xs.length - (intOf i).toNat)
  case atStart => exact ⟨0, by omega, rfl, Below.refl _ _⟩
  case round =>
    obtain ⟨j, hj, rfl, hbl⟩ := hrel
    have hbs := hbl.size
    by_cases hlt : j < xs.length
    · obtain ⟨b, o, rfl, _, hb1, hc⟩ := isl_at (HA.out.below hbl) hlt
      obtain ⟨b', o', rfl, _, hb2, hc'⟩ := isl_at (HB.out.below hbl) hlt
      generalize xs[j] = x at hc hc'
      have hu0 : ∀ u : After wr.heap.size wr, u.world.cell? ⟨b, o + j, none⟩ = some (.int .i64 x) := fun u => u.cell (by simp; omega) hc
      have hu1 : ∀ u : After wr.heap.size wr, u.world.cell? ⟨b', o' + j, none⟩ = some (.int .i64 x) := fun u => u.cell (by simp; omega) hc'
      have g1 : (0 : Int) ≤ (j : Int) := by omega
      have g2 : (j : Int) < (xs.length : Int) := by omega
      have HBL := Lib.hid hbl
      clear hbl
      go_wp2_with fail
      refine wp_region_after wr.heap.size (by kernel_rfl) (by kernel_rfl) ?_
      repeat (go_big_quiet_step (fail))
      refine wpQuiet_nil ?_
      rintro u ⟨⟨_, hu⟩, rfl⟩
      clear hu0 hu1 hc hc'
      have HB2 := Lib.hid (HBL.out.trans (hu.mono hbs))
      clear hu
      have ex : (x != x) = false := by simp
      go_wp2_with fail
      go_roundw
      case rel => exact ⟨j + 1, by omega, by go_num, HB2.out⟩
      case measure => simp [intOf]; omega
    · go_wp2_with fail
      go_ret
      exact ⟨rfl, hbl⟩

end Go.Proofs.Ytkmfnhoeigoajab

/-! P7: Places of a term: each is there, none comes twice; laInts on unlike rows. -/
namespace Go.Proofs.Ytkmfnhoeigoajab
open Go.RowKit Go.Deep


set_option maxRecDepth 100000 in
set_option maxHeartbeats 1000000 in
theorem laInts_diff (xs ys : List Int) (A B : Option Addr) (ca cb : Nat) (w : World) (hA : ISl w 0 w.heap.size A xs) (hB : ISl w 0 w.heap.size B ys) (hne : xs ≠ ys) (hx : xs.length ≤ 2000) :
    Calls Try.prog 16 #[.slice A xs.length ca, .slice B ys.length cb] w fun e w' => e = .returned (.bool false) ∧ Below w.heap.size w w' := by
  have HA := Lib.hid hA
  have HB := Lib.hid hB
  have HNE := Lib.hid hne
  clear hA hB hne
  by_cases hl : xs.length = ys.length
  · go_enter Try.func16, Try.ntmps16
    have HL := Lib.hid hl
    rw [← hl]
    clear hl
    go_wp2_with fail
    go_loopw [5] (fun i wr => ∃ j : Nat, j ≤ xs.length ∧ i = .int .i64 j ∧ Hid (∀ q, q < j → xs[q]? = ys[q]?) ∧ Below w.heap.size w wr) (fun i _ => xs.length - (intOf i).toNat)
    case atStart => exact ⟨0, by omega, rfl, fun q hq => by omega, Below.refl _ _⟩
    case round =>
      obtain ⟨j, hj, rfl, hq, hbl⟩ := hrel
      have hbs := hbl.size
      by_cases hlt : j < xs.length
      · have hlt' : j < ys.length := by have := HL.out; omega
        obtain ⟨b, o, rfl, _, hb1, hc⟩ := isl_at (HA.out.below hbl) hlt
        obtain ⟨b', o', rfl, _, hb2, hc'⟩ := isl_at (HB.out.below hbl) hlt'
        have HX : Hid (xs[j]? = some xs[j]) := List.getElem?_eq_getElem hlt
        have HY : Hid (ys[j]? = some ys[j]) := List.getElem?_eq_getElem hlt'
        generalize xs[j] = x at hc HX
        generalize ys[j] = y at hc' HY
        clear hlt'
        have hu0 : ∀ u : After wr.heap.size wr, u.world.cell? ⟨b, o + j, none⟩ = some (.int .i64 x) := fun u => u.cell (by simp; omega) hc
        have hu1 : ∀ u : After wr.heap.size wr, u.world.cell? ⟨b', o' + j, none⟩ = some (.int .i64 y) := fun u => u.cell (by simp; omega) hc'
        have g1 : (0 : Int) ≤ (j : Int) := by omega
        have g2 : (j : Int) < (xs.length : Int) := by omega
        have HBL := Lib.hid hbl
        have HQ := hq
        clear hbl hq
        go_wp2_with fail
        refine wp_region_after wr.heap.size (by kernel_rfl) (by kernel_rfl) ?_
        repeat (go_big_quiet_step (fail))
        refine wpQuiet_nil ?_
        rintro u ⟨⟨_, hu⟩, rfl⟩
        clear hu0 hu1 hc hc'
        have HB2 := Lib.hid (HBL.out.trans (hu.mono hbs))
        clear hu
        by_cases hxy : x = y
        · subst hxy
          have ex : (x != x) = false := by simp
          have HQ2 : Hid (∀ q, q < j + 1 → xs[q]? = ys[q]?) := fun q hq => by
            by_cases e : q = j
            · rw [e, HX.out, HY.out]
            · exact HQ.out q (by omega)
          go_wp2_with fail
          go_roundw
          case rel => exact ⟨j + 1, by omega, by go_num, HQ2, HB2.out⟩
          case measure => simp [intOf]; omega
        · have ex : (x != y) = true := by simpa using hxy
          go_wp2_with fail
          go_ret
          exact ⟨rfl, HB2.out⟩
      · exact absurd (List.ext_getElem? fun q => by
          by_cases hq' : q < j
          · exact hq.out q hq'
          · rw [List.getElem?_eq_none (by omega), List.getElem?_eq_none (by have := HL.out; omega)]) HNE.out
  · have e1 : ((xs.length : Int) != (ys.length : Int)) = true := by simp; omega
    go_enter Try.func16, Try.ntmps16
    go_wp2_with fail
    go_ret
    exact ⟨rfl, Below.refl _ _⟩
end Go.Proofs.Ytkmfnhoeigoajab

/-! V6: The variables of a term are those at its places. Plain lemmas. -/
namespace Go.Proofs.Ytkmfnhoeigoajab
open Go.RowKit Go.Deep

theorem fdrop_lt {n : Nat} {k : Fo} {a b : Nat} {p : Int × Int} {kk r : Fo} (h : fdrop n k = .node a b p kk r) : n < flen k := by
  rcases Nat.lt_or_ge n (flen k) with h' | h'
  · exact h'
  · rw [fdrop_all h'] at h; cases h
theorem fpl_mem : ∀ (n : Nat) (k : Fo) (i : Nat) {a b : Nat} {q : Int × Int} {kk r : Fo} {p : List Int}, fdrop n k = .node a b q kk r → p ∈ places kk → ((i + n : Nat) : Int) :: p ∈ fpl k i
  | 0, .nil, _, _, _, _, _, _, _, h, _ => by simp [fdrop] at h
  | 0, .node _ _ _ _ _, i, _, _, _, _, _, _, h, hp => by
    simp only [fdrop, BT.node.injEq] at h
    obtain ⟨_, _, _, rfl, _⟩ := h
    simp only [fpl, List.mem_append]
    exact .inl (List.mem_map.2 ⟨_, hp, rfl⟩)
  | _ + 1, .nil, _, _, _, _, _, _, _, h, _ => by simp [fdrop] at h
  | n + 1, .node _ _ _ _ r, i, _, _, _, _, _, _, h, hp => by
    simp only [fpl, List.mem_append]
    have := fpl_mem n r (i + 1) (by simpa [fdrop] using h) hp
    rw [show i + (n + 1) = i + 1 + n from by omega]
    exact .inr this
theorem fvl_ex : ∀ (k : Fo) {x : Int}, x ∈ fvl k → ∃ n a b s v kk r, fdrop n k = .node a b (s, v) kk r ∧ x ∈ fvs s v kk
  | .nil, _, h => by simp [fvl] at h
  | .node a b (s, v) kk r, x, h => by
    simp only [fvl, List.mem_append] at h
    rcases h with h | h
    · exact ⟨0, a, b, s, v, kk, r, rfl, h⟩
    · obtain ⟨n, a', b', s', v', kk', r', e, hx⟩ := fvl_ex r h
      exact ⟨n + 1, a', b', s', v', kk', r', e, hx⟩
theorem var_place (N : Nat) : ∀ (s v : Int) (k : Fo) {x : Int}, fsz k ≤ N → x ∈ fvs s v k → ∃ p kk, p ∈ places k ∧ fat s v k p = some (0, x, kk) := by
  induction N using Nat.strongRecOn with
  | _ N ih =>
    intro s v k x hN hx
    unfold fvs at hx
    split at hx
    · rename_i hs
      simp only [List.mem_singleton] at hx
      subst hs
      subst hx
      exact ⟨[], k, by simp [places], rfl⟩
    · obtain ⟨n, a, b, s', v', kk, r, e, hx'⟩ := fvl_ex k hx
      have hk := fsz_kid e
      obtain ⟨p, k2, hp, hf⟩ := ih (fsz kk) (by omega) s' v' kk (Nat.le_refl _) hx'
      refine ⟨(n : Int) :: p, k2, ?_, by rw [fat_step (fdrop_lt e) e]; exact hf⟩
      have := fpl_mem n k 0 e hp
      rw [Nat.zero_add] at this
      exact List.mem_cons_of_mem _ this
theorem place_var : ∀ (p : List Int) (s v : Int) (k : Fo) {x : Int} {kk : Fo}, okN s v (flen k) = true → fok k = true → fat s v k p = some (0, x, kk) → x ∈ fvs s v k
  | [], s, v, k, x, kk, _, _, h => by
    simp only [fat, Option.some.injEq, Prod.mk.injEq] at h
    obtain ⟨rfl, rfl, rfl⟩ := h
    simp [fvs]
  | i :: ps, s, v, k, x, kk, hok, hfo, h => by
    by_cases hi : 0 ≤ i ∧ i < (flen k : Int)
    · obtain ⟨n, rfl⟩ : ∃ n : Nat, i = n := ⟨i.toNat, by omega⟩
      obtain ⟨a, b, s', v', k', e⟩ := fdrop_succ n k (by omega)
      rw [fat_step (by omega) e] at h
      have hkid := fok_kid hfo e
      have := place_var ps s' v' k' hkid.1 hkid.2 h
      have hs0 : s ≠ 0 := fun e => by
        subst e
        have := ((okN_iff _ _ _).1 hok).1
        simp [ar] at this
        omega
      unfold fvs
      rw [if_neg hs0]
      exact fvl_at n k e this
    · rw [fat_out hi] at h; cases h

/-- The variables at the first j places. -/
def Seen (s v : Int) (k : Fo) (j : Nat) (ns : List Int) : Prop := ns.Nodup ∧ ∀ y, y ∈ ns ↔ ∃ i p kk, i < j ∧ (places k)[i]? = some p ∧ fat s v k p = some (0, y, kk)
theorem Seen.start (s v : Int) (k : Fo) : Seen s v k 0 [] := ⟨List.nodup_nil, fun y => ⟨fun h => by simp at h, fun ⟨i, p, kk, hi, _⟩ => by omega⟩⟩
theorem Seen.skip {s v : Int} {k : Fo} {j : Nat} {ns : List Int} {p : List Int} {y1 y2 : Int} {y3 : Fo} (h : Seen s v k j ns) (hp : (places k)[j]? = some p) (hf : fat s v k p = some (y1, y2, y3)) (hy : y1 ≠ 0 ∨ y2 ∈ ns) : Seen s v k (j + 1) ns := by
  refine ⟨h.1, fun y => ⟨fun hyn => ?_, fun hyn => ?_⟩⟩
  · obtain ⟨i, q, kk, hi, e⟩ := (h.2 y).1 hyn
    exact ⟨i, q, kk, by omega, e⟩
  · obtain ⟨i, q, kk, hi, e1, e2⟩ := hyn
    by_cases hij : i < j
    · exact (h.2 y).2 ⟨i, q, kk, hij, e1, e2⟩
    · have : i = j := by omega
      subst this
      rw [hp] at e1
      cases e1
      rw [hf] at e2
      simp only [Option.some.injEq, Prod.mk.injEq] at e2
      obtain ⟨e3, e4, _⟩ := e2
      rcases hy with hy | hy
      · exact absurd e3 hy
      · rw [← e4]; exact hy
theorem Seen.more {s v : Int} {k : Fo} {j : Nat} {ns : List Int} {p : List Int} {y2 : Int} {y3 : Fo} (h : Seen s v k j ns) (hp : (places k)[j]? = some p) (hf : fat s v k p = some (0, y2, y3)) (hy : y2 ∉ ns) : Seen s v k (j + 1) (ns ++ [y2]) := by
  refine ⟨List.nodup_append.2 ⟨h.1, by simp, fun a ha b hb => ?_⟩, fun y => ?_⟩
  · simp only [List.mem_singleton] at hb
    subst hb
    exact fun e => hy (by rw [← e]; exact ha)
  · rw [List.mem_append, List.mem_singleton]
    constructor
    · rintro (hyn | rfl)
      · obtain ⟨i, q, kk, hi, e⟩ := (h.2 y).1 hyn
        exact ⟨i, q, kk, by omega, e⟩
      · exact ⟨j, p, y3, by omega, hp, hf⟩
    · rintro ⟨i, q, kk, hi, e1, e2⟩
      by_cases hij : i < j
      · exact .inl ((h.2 y).2 ⟨i, q, kk, hij, e1, e2⟩)
      · have : i = j := by omega
        subst this
        rw [hp] at e1
        cases e1
        rw [hf] at e2
        simp only [Option.some.injEq, Prod.mk.injEq] at e2
        exact .inr e2.2.1.symm
theorem Seen.all {s v : Int} {k : Fo} {ns : List Int} (hok : okW s v k 16 = true) (h : Seen s v k (places k).length ns) : ns.length = (tvR s v k).length := by
  have h' := (okW_iff _ _ _ _).1 hok
  have hd : (tvR s v k).Nodup := by
    unfold tvR
    rw [if_pos hok]
    exact (among_strict _ _).imp (fun h => by omega)
  refine ((List.perm_ext_iff_of_nodup h.1 hd).2 fun y => ?_).length_eq
  rw [tvR_mem hok, h.2 y]
  constructor
  · rintro ⟨i, p, kk, _, _, hf⟩
    exact place_var p s v k h'.1 h'.2.1 hf
  · intro hy
    obtain ⟨p, kk, hp, hf⟩ := var_place (fsz k) s v k (Nat.le_refl _) hy
    obtain ⟨i, hi, e⟩ := List.getElem_of_mem hp
    exact ⟨i, p, kk, hi, by rw [List.getElem?_eq_getElem hi, e], hf⟩
theorem grown_cell {w w' : World} {o : Obj} {row : Option Nat} {b i : Nat} {u : Value} (h : (w.alloc o).grownBy w' row) (hr : ∀ g, row = some g → g ≠ b) (hc : w.cell? ⟨b, i, none⟩ = some u) : w'.cell? ⟨b, i, none⟩ = some u := by
  have h1 := cell_low ((Below.refl _ _).alloc (Nat.le_refl _) o) hc
  rw [h.cell_far _ (World.block_lt_of_cell? _ _ h1) (fun e => hr _ e.symm rfl)]
  exact h1
theorem tvR_up {s v : Int} {k : Fo} {q : Nat} {x y : Int} (hx : (tvR s v k)[q]? = some x) (hy : (tvR s v k)[q + 1]? = some y) : x < y := by
  have h : (tvR s v k).Pairwise (· < ·) := by
    unfold tvR
    split
    · exact among_strict _ _
    · exact List.Pairwise.nil
  obtain ⟨h1, rfl⟩ := List.getElem?_eq_some_iff.1 hx
  obtain ⟨h2, rfl⟩ := List.getElem?_eq_some_iff.1 hy
  exact List.pairwise_iff_getElem.1 h q (q + 1) h1 h2 (Nat.lt_succ_self _)
end Go.Proofs.Ytkmfnhoeigoajab

/-! LP0: What is left where a call and a new cell come in either order. Plain lemmas. -/
namespace Go.Proofs.Ytkmfnhoeigoajab
open Go.RowKit Go.Deep
attribute [local go_sem ↓] Go.wp_at_zero Go.wp_at_succ

theorem lp_lowB {wo w8 : World} {Z : Obj} (h : Below (wo.alloc Z).drew.heap.size (wo.alloc Z).drew w8) : Below wo.heap.size wo w8 :=
  ((Below.refl _ _).alloc (Nat.le_refl _) Z).drew.trans (h.mono (by simp))
theorem lp_slB {wo w8 : World} {Z : Obj} {a : Option Addr} {k : Fo} (h : Sl w8 (wo.alloc Z).drew.heap.size w8.heap.size a k) : Sl w8 (wo.heap.size + 1) w8.heap.size a k := h.mono (by simp) (Nat.le_refl _)
theorem lp_cellB {wo w8 : World} (h : Below (wo.alloc (.cells #[.int .i64 0, .int .i64 0, .slice none 0 0] 25)).drew.heap.size (wo.alloc (.cells #[.int .i64 0, .int .i64 0, .slice none 0 0] 25)).drew w8) :
    w8.cell? ⟨wo.heap.size, 0, none⟩ = some (.int .i64 0) ∧ w8.cell? ⟨wo.heap.size, 1, none⟩ = some (.int .i64 0) ∧ w8.cell? ⟨wo.heap.size, 2, none⟩ = some (.slice none 0 0) ∧
      w8.frozen? ⟨wo.heap.size, 0, none⟩ = false ∧ w8.frozen? ⟨wo.heap.size, 1, none⟩ = false ∧ w8.frozen? ⟨wo.heap.size, 2, none⟩ = false := by
  have hb : Below (wo.heap.size + 1) (wo.alloc (.cells #[.int .i64 0, .int .i64 0, .slice none 0 0] 25)) w8 := ((Below.refl _ _).drew).trans (h.mono (by simp))
  refine ⟨?_, ?_, ?_, ?_, ?_, ?_⟩
  · rw [hb.cell (by simp), World.cell?_alloc_at _ _ _ _ (by simp)]; rfl
  · rw [hb.cell (by simp), World.cell?_alloc_at _ _ _ _ (by simp)]; rfl
  · rw [hb.cell (by simp), World.cell?_alloc_at _ _ _ _ (by simp)]; rfl
  · rw [hb.frozen (by simp), World.frozen?_alloc_at _ _ _ _ (by simp)]
  · rw [hb.frozen (by simp), World.frozen?_alloc_at _ _ _ _ (by simp)]
  · rw [hb.frozen (by simp), World.frozen?_alloc_at _ _ _ _ (by simp)]

theorem lp_goA {wo w8 : World} {x y : Value} {a : Option Addr} {k : Fo} {c : Nat} (hb : Below wo.heap.size wo w8) (hl : Sl w8 wo.heap.size w8.heap.size a k) :
    (w8.alloc (.cells #[x, y, .slice a (flen k) c] 25)).cell? ⟨w8.heap.size, 0, none⟩ = some x ∧ (w8.alloc (.cells #[x, y, .slice a (flen k) c] 25)).cell? ⟨w8.heap.size, 1, none⟩ = some y ∧ (w8.alloc (.cells #[x, y, .slice a (flen k) c] 25)).cell? ⟨w8.heap.size, 2, none⟩ = some (.slice a (flen k) c) ∧
      Below wo.heap.size wo (w8.alloc (.cells #[x, y, .slice a (flen k) c] 25)) ∧ Sl (w8.alloc (.cells #[x, y, .slice a (flen k) c] 25)) 0 (w8.alloc (.cells #[x, y, .slice a (flen k) c] 25)).heap.size a k := by
  refine ⟨?_, ?_, ?_, hb.alloc hb.size _, (hl.below ((Below.refl _ _).alloc (Nat.le_refl _) _)).mono (Nat.zero_le _) (by simp)⟩
  · rw [World.cell?_alloc_at _ _ _ _ (by simp)]; rfl
  · rw [World.cell?_alloc_at _ _ _ _ (by simp)]; rfl
  · rw [World.cell?_alloc_at _ _ _ _ (by simp)]; rfl
theorem lp_goB {wo w8 : World} {x y : Value} {a : Option Addr} {k : Fo} {c : Nat} {x0 y0 z0 : Value} (hb : Below wo.heap.size wo w8) (hl : Sl w8 (wo.heap.size + 1) w8.heap.size a k)
    (h0 : w8.cell? ⟨wo.heap.size, 0, none⟩ = some x0) (h1 : w8.cell? ⟨wo.heap.size, 1, none⟩ = some y0) (h2 : w8.cell? ⟨wo.heap.size, 2, none⟩ = some z0) :
    (((w8.setCell ⟨wo.heap.size, 0, none⟩ x).setCell ⟨wo.heap.size, 1, none⟩ y).setCell ⟨wo.heap.size, 2, none⟩ (.slice a (flen k) c)).cell? ⟨wo.heap.size, 0, none⟩ = some x ∧ (((w8.setCell ⟨wo.heap.size, 0, none⟩ x).setCell ⟨wo.heap.size, 1, none⟩ y).setCell ⟨wo.heap.size, 2, none⟩ (.slice a (flen k) c)).cell? ⟨wo.heap.size, 1, none⟩ = some y ∧
      (((w8.setCell ⟨wo.heap.size, 0, none⟩ x).setCell ⟨wo.heap.size, 1, none⟩ y).setCell ⟨wo.heap.size, 2, none⟩ (.slice a (flen k) c)).cell? ⟨wo.heap.size, 2, none⟩ = some (.slice a (flen k) c) ∧
      Below wo.heap.size wo (((w8.setCell ⟨wo.heap.size, 0, none⟩ x).setCell ⟨wo.heap.size, 1, none⟩ y).setCell ⟨wo.heap.size, 2, none⟩ (.slice a (flen k) c)) ∧ Sl (((w8.setCell ⟨wo.heap.size, 0, none⟩ x).setCell ⟨wo.heap.size, 1, none⟩ y).setCell ⟨wo.heap.size, 2, none⟩ (.slice a (flen k) c)) 0 (((w8.setCell ⟨wo.heap.size, 0, none⟩ x).setCell ⟨wo.heap.size, 1, none⟩ y).setCell ⟨wo.heap.size, 2, none⟩ (.slice a (flen k) c)).heap.size a k := by
  have hs : Same (wo.heap.size + 1) w8.heap.size w8 (((w8.setCell ⟨wo.heap.size, 0, none⟩ x).setCell ⟨wo.heap.size, 1, none⟩ y).setCell ⟨wo.heap.size, 2, none⟩ (.slice a (flen k) c)) :=
    (((Same.setCell (fun _ _ _ => rfl) (.inl (by simp)) _).setCell (.inl (by simp)) _).setCell (.inl (by simp)) _)
  refine ⟨?_, ?_, ?_, ((hb.setCell (Nat.le_refl _) _).setCell (Nat.le_refl _) _).setCell (Nat.le_refl _) _, (hl.same hs).mono (Nat.zero_le _) (by simp)⟩
  · rw [World.cell?_setCell_other _ _ _ _ (by intro h; have := congrArg Addr.off h; simp at this), World.cell?_setCell_other _ _ _ _ (by intro h; have := congrArg Addr.off h; simp at this)]
    exact World.cell?_setCell_same _ _ _ h0
  · rw [World.cell?_setCell_other _ _ _ _ (by intro h; have := congrArg Addr.off h; simp at this)]
    exact World.cell?_setCell_same _ _ _ (show World.cell? _ ⟨wo.heap.size, 1, none⟩ = some y0 from by rw [World.cell?_setCell_other _ _ _ _ (by intro h; have := congrArg Addr.off h; simp at this)]; exact h1)
  · exact World.cell?_setCell_same _ _ _ (show World.cell? _ ⟨wo.heap.size, 2, none⟩ = some z0 from by rw [World.cell?_setCell_other _ _ _ _ (by intro h; have := congrArg Addr.off h; simp at this), World.cell?_setCell_other _ _ _ _ (by intro h; have := congrArg Addr.off h; simp at this)]; exact h2)

end Go.Proofs.Ytkmfnhoeigoajab

/-! LawVars: For every code, laws.FnTermVars answers true and writes nothing that was there. No condition. -/
namespace Go.Proofs.Ytkmfnhoeigoajab
open Go.RowKit Go.Deep
attribute [local go_sem ↓] Go.wp_at_zero Go.wp_at_succ

set_option maxRecDepth 100000 in
set_option maxHeartbeats 2000000 in
theorem lawVars_walk (a : Option Addr) (len cap : Nat) (w : World) (hby : Bytes w a len) (hlen : len ≤ cap) :
    Calls Try.prog 4 #[.slice a len cap] w fun e w' => e = .returned (.bool true) ∧ Below w.heap.size w w' := by
  have HBY := Lib.hid hby
  clear hby
  obtain ⟨ti, hti, htz, hts, htb'⟩ := Try.infoI
  have HTI : Hid (Try.prog.info? 3 = some ti ∧ ti.zero = some (.int .i64 0) ∧ ti.size = 1 ∧ ti.bytes = 8) := ⟨hti, htz, hts, htb'⟩
  clear hti htz hts htb'
  by_cases hbig : 1048576 < len
  · go_enter Try.func4, Try.ntmps4
    go_wp2_with fail
    go_ret
    exact ⟨rfl, Below.refl _ _⟩
  go_enter Try.func4, Try.ntmps4
  go_wp2_with fail
  with_reducible refine (DrawTermVars_any a len cap _ HBY.out hlen).mono ?_
  rintro e w1 ⟨s, v, a1, c1, k, rfl, hS, hb1, hl1⟩
  have hs1 := hb1.size
  have HB1 := Lib.hid (hb1.alloc hs1 (.cells #[.int .i64 s, .int .i64 v, .slice a1 (flen k) c1] 25))
  have HL : Hid (Sl (w1.alloc (.cells #[.int .i64 s, .int .i64 v, .slice a1 (flen k) c1] 25)) 0 w1.heap.size a1 k) := (hl1.below ((Below.refl _ _).alloc (Nat.le_refl _) _)).mono (Nat.zero_le _) (Nat.le_refl _)
  clear hb1 hl1
  go_wp2_with fail
  with_reducible refine (iTermVars_any s v a1 c1 k _ (HL.out.mono (Nat.le_refl _) (by simp))).mono ?_
  rintro e w2 ⟨A2, C2, vs, hvs, rfl, hb2, hio2⟩
  have hs2 := hb2.size
  simp at hs2
  have hvl := tvR_len s v k
  rw [← hvs] at hvl
  have HVS := Lib.hid hvs
  have HA2 : Hid (Below (w1.heap.size + 1) (w1.alloc (.cells #[.int .i64 s, .int .i64 v, .slice a1 (flen k) c1] 25)) w2) := hb2.mono (by simp)
  have HV2 := Lib.hid (hio2.sl.mono (lo' := 0) (Nat.zero_le _) (Nat.le_refl _))
  clear hb2 hio2 hvs
  obtain ⟨hc0, hc1, hc2⟩ := one_box3 HA2.out
  go_wp2_with fail
  with_reducible refine (sTermVars_any s v a1 c1 k _ ((HL.out.below (HA2.out.mono (by omega))).mono (Nat.le_refl _) (by omega))).mono ?_
  rintro e w3 ⟨A3, C3, vs3, hvs3, rfl, hb3, hio3⟩
  obtain rfl : vs3 = vs := by rw [hvs3, HVS.out]
  have hs3 := hb3.size
  have HA3 := Lib.hid (HA2.out.trans (hb3.mono (by omega)))
  have HV3 := Lib.hid ((HV2.out.below hb3).mono (lo' := 0) (Nat.le_refl _) hs3)
  have HU3 := Lib.hid (hio3.sl.mono (lo' := 0) (Nat.zero_le _) (Nat.le_refl _))
  clear hb3 hio3 hvs3 hc0 hc1 hc2
  go_wp2_with fail
  with_reducible refine (laInts_same vs3 A2 A3 C2 C3 _ _ _ HV3.out HU3.out rfl rfl (by omega)).mono ?_
  rintro e w4 ⟨rfl, hb4⟩
  have hs4 := hb4.size
  have HA4 := Lib.hid (HA3.out.trans (hb4.mono (by omega)))
  have HV4 := Lib.hid ((HV3.out.below hb4).mono (lo' := 0) (Nat.le_refl _) hs4)
  clear hb4
  obtain ⟨hc0, hc1, hc2⟩ := one_box3 HA4.out
  go_wp2_with fail
  with_reducible refine (sTermOk_any s v a1 c1 k _ ((HL.out.below (HA4.out.mono (by omega))).mono (Nat.le_refl _) (by omega))).mono ?_
  rintro e w5 ⟨rfl, hb5⟩
  have hs5 := hb5.size
  have HA5 := Lib.hid (HA4.out.trans (hb5.mono (by omega)))
  have HV5 := Lib.hid ((HV4.out.below hb5).mono (lo' := 0) (Nat.le_refl _) hs5)
  clear hb5 hc0 hc1 hc2
  obtain ⟨hc0, hc1, hc2⟩ := one_box3 HA5.out
  cases hok : okW s v k 16 with
  | false =>
    clear hok
    go_wp2_with fail
    with_reducible refine (sTermVars_any s v a1 c1 k _ ((HL.out.below (HA5.out.mono (by omega))).mono (Nat.le_refl _) (by omega))).mono ?_
    rintro e w6 ⟨A6, C6, vs6, hvs6, rfl, hb6, hio6⟩
    obtain rfl : vs6 = vs3 := by rw [hvs6, HVS.out]
    have hs6 := hb6.size
    have HA6 := Lib.hid (HA5.out.trans (hb6.mono (by omega)))
    have HV6 := Lib.hid ((HV5.out.below hb6).mono (lo' := 0) (Nat.le_refl _) hs6)
    have HU6 := Lib.hid (hio6.sl.mono (lo' := 0) (Nat.zero_le _) (Nat.le_refl _))
    clear hb6 hio6 hvs6 hc0 hc1 hc2
    go_wp2_with fail
    with_reducible refine (laInts_same vs6 A2 A6 C2 C6 _ _ _ HV6.out HU6.out rfl rfl (by omega)).mono ?_
    rintro e w7 ⟨rfl, hb7⟩
    have HA7 := Lib.hid (HA6.out.trans (hb7.mono (by omega)))
    clear hb7
    go_wp2_with fail
    go_ret
    exact ⟨rfl, HB1.out.trans (HA7.out.mono (by omega))⟩
  | true =>
    have HOK := Lib.hid hok
    have hk16 := ((okW_iff _ _ _ _).1 hok).2.2
    clear hok
    go_wp2_with fail
    with_reducible refine (iTermPlaces_any s v a1 c1 k _ ((HL.out.below (HA5.out.mono (by omega))).mono (Nat.le_refl _) (by omega))).mono ?_
    rintro e w7 ⟨A7, C7, rows, rfl, hrows, hb7, hr7⟩
    rw [HOK.out] at hrows
    simp only [if_true] at hrows
    subst hrows
    have hs7 := hb7.size
    have HA7 := Lib.hid (HA5.out.trans (hb7.mono (by omega)))
    have HV7 := Lib.hid ((HV5.out.below hb7).mono (lo' := 0) (Nat.le_refl _) hs7)
    have HR7 := Lib.hid (hr7.mono (lo' := 0) (Nat.zero_le _) (Nat.le_refl _))
    have HD : Hid (∀ r ∈ places k, r.length ≤ 2000) := fun r hr => by have := places_deep hr; omega
    have hrl : (places k).length ≤ 2000 := by rw [places_len]; omega
    have HST : Hid (IOwn (w7.alloc (.cells #[] 3)) w7.heap.size [] (some ⟨w7.heap.size, 0, none⟩) 0) := own_empty (heap_alloc_new _ _) (Nat.le_refl _)
    clear hb7 hr7 hc0 hc1 hc2
    go_wp2_with fail
    go_loopw [6, 7] (fun t i wr => ∃ (j : Nat) (ns : List Int) (A' : Option Addr) (C' : Nat), j ≤ (places k).length ∧ i = .int .i64 j ∧ t = .slice A' ns.length C' ∧ Hid (Seen s v k j ns) ∧ ns.length ≤ j ∧ IOwn wr w7.heap.size ns A' C' ∧ Below w7.heap.size w7 wr) (fun _ i _ => (places k).length - (intOf i).toNat)
    case atStart => exact ⟨0, [], _, 0, by omega, rfl, rfl, Seen.start s v k, by simp, HST.out, (Below.refl _ _).alloc (Nat.le_refl _) _⟩
    case round =>
      clear HST
      obtain ⟨wo, hwo⟩ : ∃ wo, wo = wr := ⟨_, rfl⟩
      subst hwo
      obtain ⟨j, ns, A', C', hj, rfl, rfl, hseen, hnl, hio, hbl⟩ := hrel
      have hbs := hbl.size
      have HAo := Lib.hid (HA7.out.trans (hbl.mono (show w1.heap.size + 1 ≤ w7.heap.size by omega)))
      have HVo := Lib.hid ((HV7.out.below hbl).mono (lo' := 0) (Nat.le_refl _) hbs)
      by_cases hlt : j < (places k).length
      · obtain ⟨b, o, a9, c9, p, rfl, _, hbB, hp, hk0, hi9⟩ := rsl_at (HR7.out.below hbl) hlt
        have hpl9 : p.length ≤ 2000 := HD.out p (List.mem_of_getElem? hp)
        obtain ⟨⟨y1, y2, y3⟩, hfat9⟩ := places_at k s v p (List.mem_of_getElem? hp)
        have HPL : Hid (p.length ≤ 1048576) := by unfold Hid; omega
        have HI9 := Lib.hid (hi9.mono (lo' := 0) (Nat.le_refl _) hbs)
        have HSEEN := hseen
        have HIO := Lib.hid hio
        have HOB : Hid (∀ g, (Value.slice A' ns.length C').ownBlock = some g → g < wo.heap.size) := fun g hg => (hio.lt g hg).2
        have HBL := Lib.hid hbl
        have HP9 := Lib.hid hp
        have HF9 := Lib.hid hfat9
        have HRT : Hid (atR s v k p = (y1, y2, y3, true)) := by unfold Hid atR; rw [HOK.out, hfat9]; rfl
        have HTo := Lib.hid ((HL.out.below (HAo.out.mono (by omega))).mono (lo' := 0) (Nat.le_refl _) (show w1.heap.size ≤ wo.heap.size by omega))
        have g1 : (0 : Int) ≤ (j : Int) := by omega
        have g2 : (j : Int) < ((places k).length : Int) := by omega
        have hbB' : b < wo.heap.size := by omega
        clear hseen hp hi9 hfat9 hbl hio
        obtain ⟨hc0, hc1, hc2⟩ := one_box3 HAo.out
        have HSLa : Hid (Sl wo.drew 0 wo.drew.heap.size a1 k) := HTo.out.below (Below.refl _ _).drew
        have HSLb : Hid (Sl (wo.alloc (.cells #[.int .i64 0, .int .i64 0, .slice none 0 0] 25)).drew 0 (wo.alloc (.cells #[.int .i64 0, .int .i64 0, .slice none 0 0] 25)).drew.heap.size a1 k) := (HTo.out.below ((Below.refl _ _).alloc (Nat.le_refl _) _).drew).mono (Nat.le_refl _) (by simp)
        have HIa : Hid (ISl wo.drew 0 wo.drew.heap.size a9 p) := HI9.out.below (Below.refl _ _).drew
        have HIb : Hid (ISl (wo.alloc (.cells #[.int .i64 0, .int .i64 0, .slice none 0 0] 25)).drew 0 (wo.alloc (.cells #[.int .i64 0, .int .i64 0, .slice none 0 0] 25)).drew.heap.size a9 p) := (HI9.out.below ((Below.refl _ _).alloc (Nat.le_refl _) _).drew).mono (Nat.le_refl _) (by simp)
        go_wp2_with fail
        go_region_held3 (fun w' => w'.cell? ⟨b, o + j, none⟩ = some (.slice a9 p.length c9) ∧ w'.cell? ⟨w1.heap.size, 0, none⟩ = some (.int .i64 s) ∧ w'.cell? ⟨w1.heap.size, 1, none⟩ = some (.int .i64 v) ∧ w'.cell? ⟨w1.heap.size, 2, none⟩ = some (.slice a1 (flen k) c1))
          (first
            | exact keep4 hlow8 hk0 hc0 hc1 hc2 (by omega) (by omega)
            | exact keep4 (hlow8.alloc hlow8.size _) hk0 hc0 hc1 hc2 (by omega) (by omega)
            | exact keep4 (((hlow8.setCell (Nat.le_refl _) _).setCell (Nat.le_refl _) _).setCell (Nat.le_refl _) _) hk0 hc0 hc1 hc2 (by omega) (by omega)
            | go_keep)
          (first
            | (go_at_call 20; refine (iTermAt_any s v a1 c1 k a9 c9 p wo.drew HSLa.out HIa.out HPL.out).mono ?_; rintro e w8 ⟨a8w9, c8w9, s8, v8, k8, t8, hr8, rfl, hb8, hl8⟩; rw [HRT.out] at hr8; simp only [Prod.mk.injEq] at hr8; obtain ⟨rfl, rfl, rfl, rfl⟩ := hr8; have hlow8 : Below wo.heap.size wo w8 := bl_undrew hb8; have hl8x : Sl w8 wo.heap.size w8.heap.size a8w9 y3 := hl8; have hC8 : Hid True := trivial)
            | (go_at_call 20; refine (iTermAt_any s v a1 c1 k a9 c9 p (wo.alloc (.cells #[.int .i64 0, .int .i64 0, .slice none 0 0] 25)).drew HSLb.out HIb.out HPL.out).mono ?_; rintro e w8 ⟨a8w9, c8w9, s8, v8, k8, t8, hr8, rfl, hb8, hl8⟩; rw [HRT.out] at hr8; simp only [Prod.mk.injEq] at hr8; obtain ⟨rfl, rfl, rfl, rfl⟩ := hr8; have hlow8 : Below wo.heap.size wo w8 := lp_lowB hb8; obtain ⟨hx0', hx1', hx2', hy0', hy1', hy2'⟩ := lp_cellB hb8; have hl8x : Sl w8 (wo.heap.size + 1) w8.heap.size a8w9 y3 := lp_slB hl8))
        obtain ⟨hv0w9, hv1w9, hv2w9, hsw9, hlw9⟩ := lp_goA (x := .int .i64 y1) (y := .int .i64 y2) (c := c8w9) hlow8 hl8x
        have hgew9 : wo.heap.size ≤ w8.heap.size := hlow8.size
        have hltw9 := World.block_lt_of_cell? _ _ hv0w9
        dsimp only at hltw9
        clear hlow8 hl8 hl8x hb8 hC8
        generalize w8.alloc (.cells #[.int .i64 y1, .int .i64 y2, .slice a8w9 (flen y3) c8w9] 25) = w9 at hv0w9 hv1w9 hv2w9 hsw9 hlw9 hltw9 ⊢
        generalize w8.heap.size = bx at hv0w9 hv1w9 hv2w9 hgew9 hltw9 ⊢
        rotate_left
        obtain ⟨hv0w9, hv1w9, hv2w9, hsw9, hlw9⟩ := lp_goB (x := .int .i64 y1) (y := .int .i64 y2) (c := c8w9) hlow8 hl8x hx0' hx1' hx2'
        obtain ⟨bx, hbx⟩ : ∃ bx, bx = wo.heap.size := ⟨_, rfl⟩
        have hgew9 : wo.heap.size ≤ bx := by omega
        have hltw9 := World.block_lt_of_cell? _ _ hv0w9
        dsimp only at hltw9
        clear hlow8 hl8 hl8x hb8 hx0' hx1' hx2' hy0' hy1' hy2'
        generalize ((w8.setCell ⟨wo.heap.size, 0, none⟩ (.int .i64 y1)).setCell ⟨wo.heap.size, 1, none⟩ (.int .i64 y2)).setCell ⟨wo.heap.size, 2, none⟩ (.slice a8w9 (flen y3) c8w9) = w9 at hv0w9 hv1w9 hv2w9 hsw9 hlw9 hltw9 ⊢
        rw [← hbx] at hv0w9 hv1w9 hv2w9 hltw9 ⊢
        clear hbx
        rotate_left
        all_goals
          have hs9 := hsw9.size
          have HB9 := Lib.hid (HBL.out.trans (hsw9.mono hbs))
          have HV9 := Lib.hid ((HVo.out.below hsw9).mono (lo' := 0) (Nat.le_refl _) hs9)
          have HIO9 := Lib.hid (HIO.out.low hsw9)
          have HN9 := Lib.hid (HIO9.out.sl.mono (lo' := 0) (Nat.zero_le _) (Nat.le_refl _))
          clear hsw9 hlw9 hc0 hc1 hc2 hk0 HSLa HSLb HIa HIb HTo HI9 HIO HBL HVo
          by_cases hy0 : y1 = 0
          · subst hy0
            have HIN : Hid (decide (y2 ∈ vs3) = true) := by
              have h' := (okW_iff _ _ _ _).1 HOK.out
              refine decide_eq_true ?_
              rw [HVS.out, tvR_mem HOK.out]
              exact place_var p s v k h'.1 h'.2.1 HF9.out
            go_wp2_with fail
            with_reducible refine (laIn_any ns A' C' y2 _ HN9.out (by omega)).mono ?_
            rintro e w10 ⟨rfl, hb10⟩
            have hs10 := hb10.size
            have HB10 := Lib.hid (HB9.out.trans (hb10.mono (by omega)))
            have HIO10 := Lib.hid (HIO9.out.low hb10)
            have HV10 := Lib.hid ((HV9.out.below hb10).mono (lo' := 0) (Nat.le_refl _) hs10)
            have hz0 := cell_low hb10 hv0w9
            have hz1 := cell_low hb10 hv1w9
            have hz2 := cell_low hb10 hv2w9
            clear hb10 hv0w9 hv1w9 hv2w9 HIO9 HN9 HV9 HB9
            cases hin : decide (y2 ∈ ns) with
            | true =>
              have HSK : Hid (Seen s v k (j + 1) ns) := HSEEN.out.skip HP9.out HF9.out (.inr (of_decide_eq_true hin))
              clear hin
              go_wp2_with fail
              with_reducible refine (laIn_any vs3 A2 C2 y2 _ HV10.out (by omega)).mono ?_
              rw [HIN.out]
              rintro e w12 ⟨rfl, hb12⟩
              have HB12 := Lib.hid (HB10.out.trans (hb12.mono (by omega)))
              have HIO12 := Lib.hid (HIO10.out.low hb12)
              clear hb12 hz0 hz1 hz2
              go_wp2_with fail
              go_roundw
              case rel => exact ⟨j + 1, ns, A', C', by omega, by go_num, rfl, HSK, by omega, HIO12.out, HB12.out⟩
              case measure => simp [intOf]; omega
            | false =>
              have HSK : Hid (Seen s v k (j + 1) (ns ++ [y2])) := HSEEN.out.more HP9.out HF9.out (of_decide_eq_false hin)
              have HLT : Hid (∀ g, (Value.slice A' ns.length C').ownBlock = some g → w7.heap.size ≤ g) := fun g hg => (HIO10.out.lt g hg).1
              have HO1 : Hid ((w10.alloc (.cells #[.int .i64 y2] 3)).ownsRow w7.heap.size 3 1 (.slice A' ns.length C') ns.length (ns.map (Value.int .i64))) := HIO10.out.alloc _
              have HNE : Hid (∀ g, (Value.slice A' ns.length C').ownBlock = some g → g ≠ bx) := fun g hg => by have := HOB.out g hg; omega
              clear hin
              go_wp2_with (at_builtin; refine wpList_append_src _ rfl _ _ 26 rfl w7.heap.size 3 ti _ 1 8 Try.underlying26 HTI.out.1 HTI.out.2.1 HTI.out.2.2.1 HTI.out.2.2.2 rfl (by omega) (.slice A' ns.length C') ns.length (ns.map (Value.int .i64)) rfl HO1.out (some ⟨w10.heap.size, 0, none⟩) 1 1 [.int .i64 y2] rfl ⟨rfl, .inr ⟨_, rfl, World.news_of_block (heap_alloc_new _ _)⟩⟩ (by simp [Value.oneCell']) (by unfold maxLen; omega) (by omega) (by simp; omega) ?_; intro A1 C1 w11 hown11 hgrow11 hat11; have hq0 := grown_cell hgrow11 HNE.out hz0; have hq1 := grown_cell hgrow11 HNE.out hz1; have hq2 := grown_cell hgrow11 HNE.out hz2; have HB11 := Lib.hid ((HB10.out.alloc (by omega) _).grown hgrow11 (by simp; omega) HLT.out))
              have hlen' : (ns ++ [y2]).length = ns.length + 1 := by simp
              have HIO11 : Hid (IOwn w11 w7.heap.size (ns ++ [y2]) A1 C1) := by
                unfold Hid IOwn
                rw [hlen', List.map_append]
                exact hown11
              have hs11 := HB11.out.size
              have HV11 := Lib.hid ((HV7.out.below HB11.out).mono (lo' := 0) (Nat.le_refl _) hs11)
              clear hown11 hgrow11 hat11 hz0 hz1 hz2
              with_reducible refine (laIn_any vs3 A2 C2 y2 _ HV11.out (by omega)).mono ?_
              rw [HIN.out]
              rintro e w12 ⟨rfl, hb12⟩
              have HB12 := Lib.hid (HB11.out.trans (hb12.mono (by omega)))
              have HIO12 := Lib.hid (HIO11.out.low hb12)
              clear hb12 hq0 hq1 hq2
              go_wp2_with fail
              go_roundw
              case rel => exact ⟨j + 1, ns ++ [y2], A1, C1, by omega, by go_num, by rw [hlen'], HSK, by omega, HIO12.out, HB12.out⟩
              case measure => simp [intOf]; omega
          · have e0 : (y1 == 0) = false := by simpa using hy0
            have HSK : Hid (Seen s v k (j + 1) ns) := HSEEN.out.skip HP9.out HF9.out (.inl hy0)
            clear hy0
            go_wp2_with fail
            go_roundw
            case rel => exact ⟨j + 1, ns, A', C', by omega, by go_num, rfl, HSK, by omega, HIO9.out, HB9.out⟩
            case measure => simp [intOf]; omega
      · have hje : j = (places k).length := by omega
        have HEQ : Hid (((ns.length : Int) == (vs3.length : Int)) = true) := by
          have h := hseen.out
          rw [hje] at h
          have := Seen.all HOK.out h
          rw [Hid, this, HVS.out]
          simp
        clear hseen hio hje
        go_wp2_with fail
        go_loopw [10] (fun i wq => ∃ m : Nat, 1 ≤ m ∧ m ≤ 13 ∧ i = .int .i64 m ∧ Below wo.heap.size wo wq) (fun i _ => 13 - (intOf i).toNat)
        case atStart => exact ⟨1, by omega, by omega, rfl, Below.refl _ _⟩
        case round =>
          obtain ⟨wq, hwq⟩ : ∃ wq, wq = wr := ⟨_, rfl⟩
          subst hwq
          obtain ⟨m, hm1, hm2, rfl, hbq⟩ := hrel
          by_cases hltm : m < vs3.length
          · obtain ⟨q, hq⟩ : ∃ q, m = q + 1 := ⟨m - 1, by omega⟩
            obtain ⟨b, o, rfl, _, hbB, hcx⟩ := isl_at (HVo.out.below hbq) (show q < vs3.length by omega)
            obtain ⟨b', o', he', _, hbB', hcy⟩ := isl_at (HVo.out.below hbq) hltm
            cases he'
            have hup : vs3[q] < vs3[m] := tvR_up (s := s) (v := v) (k := k) (q := q) (by rw [← HVS.out]; exact List.getElem?_eq_getElem (by omega)) (by rw [← HVS.out, ← hq]; exact List.getElem?_eq_getElem hltm)
            generalize vs3[q] = x at hcx hup
            generalize vs3[m] = y at hcy hup
            have hsq := hbq.size
            have he : (m : Int) - 1 = (q : Int) := by omega
            have g1 : (0 : Int) ≤ (q : Int) := by omega
            have g2 : (q : Int) < (vs3.length : Int) := by omega
            have g3 : (0 : Int) ≤ (m : Int) := by omega
            have g4 : (m : Int) < (vs3.length : Int) := by omega
            have ex : decide (y ≤ x) = false := decide_eq_false (by omega)
            have hu0 : ∀ u : After wq.heap.size wq, u.world.cell? ⟨b, o + q, none⟩ = some (.int .i64 x) := fun u => u.cell (by simp; omega) hcx
            have hu1 : ∀ u : After wq.heap.size wq, u.world.cell? ⟨b, o + m, none⟩ = some (.int .i64 y) := fun u => u.cell (by simp; omega) hcy
            have HBQ := Lib.hid hbq
            clear hbq hq
            go_wp2_with fail
            refine wp_region_after wq.heap.size (by kernel_rfl) (by kernel_rfl) ?_
            repeat (go_big_quiet_step (fail))
            refine wpQuiet_nil ?_
            rintro u ⟨⟨_, hu⟩, rfl⟩
            clear hu0 hu1 hcx hcy
            have HB2 := Lib.hid (HBQ.out.trans (hu.mono hsq))
            clear hu
            go_wp2_with fail
            go_roundw
            case rel => exact ⟨m + 1, by omega, by omega, by go_num, HB2.out⟩
            case measure => simp [intOf]; omega
          · have HAn := Lib.hid (HAo.out.trans (hbq.mono (by omega)))
            clear hbq
            go_wp2_with fail
            go_ret
            exact ⟨by rw [HEQ.out]; rfl, HB1.out.trans (HAn.out.mono (by omega))⟩
end Go.Proofs.Ytkmfnhoeigoajab
