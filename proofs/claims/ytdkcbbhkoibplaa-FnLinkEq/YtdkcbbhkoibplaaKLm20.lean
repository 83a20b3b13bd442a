/- Several texts in one: SD0, C2, C3, C4. -/
import Derived.Test.YtdkcbbhkoibplaaKLm9
import Derived.Test.YtdkcbbhkoibplaaKLm10
import Derived.Test.YtdkcbbhkoibplaaKLm8
import Derived.Lib.SliceRun
import Derived.Deep.RegionHeld3

/-! SD0: l11Sides. -/
namespace Go.Proofs.Ytdkcbbhkoibplaa
open Go.RowKit Go.Deep

def v3 (t : Tm3) (a : Option Addr) (c : Nat) : Value := .agg #[.int .i64 t.1, .int .i64 t.2.1, .slice a (flen t.2.2) c]
/-- In the midst of it: the equation's box; the two results' boxes. -/
structure SdS (w : World) (s v : Int) (A : Value) (s' v' : Int) (A' : Value) (u : World) : Prop where
  low : Below w.heap.size w u
  e0 : u.cell? ⟨w.heap.size, 0, none⟩ = some (.int .i64 s)
  e1 : u.cell? ⟨w.heap.size, 1, none⟩ = some (.int .i64 v)
  e2 : u.cell? ⟨w.heap.size, 2, none⟩ = some A
  e3 : u.cell? ⟨w.heap.size, 3, none⟩ = some (.int .i64 s')
  e4 : u.cell? ⟨w.heap.size, 4, none⟩ = some (.int .i64 v')
  e5 : u.cell? ⟨w.heap.size, 5, none⟩ = some A'
  q : ∀ j i, j ≤ 1 → i < 3 → (∃ x, u.cell? ⟨w.heap.size + 1 + j, i, none⟩ = some x) ∧ u.frozen? ⟨w.heap.size + 1 + j, i, none⟩ = false
theorem SdS.start {w : World} {s v : Int} {A : Value} {s' v' : Int} {A' : Value} {T T' : TypeId} : SdS w s v A s' v' A' ((((w.alloc (.cells #[.int .i64 s, .int .i64 v, A, .int .i64 s', .int .i64 v', A'] T)).alloc (.cells #[.int .i64 0, .int .i64 0, .slice none 0 0] T')).alloc (.cells #[.int .i64 0, .int .i64 0, .slice none 0 0] T')).drew) := by
  have c : ∀ i, i < 6 → ((((w.alloc (.cells #[.int .i64 s, .int .i64 v, A, .int .i64 s', .int .i64 v', A'] T)).alloc (.cells #[.int .i64 0, .int .i64 0, .slice none 0 0] T')).alloc (.cells #[.int .i64 0, .int .i64 0, .slice none 0 0] T')).drew).cell? ⟨w.heap.size, i, none⟩ = #[Value.int .i64 s, .int .i64 v, A, .int .i64 s', .int .i64 v', A'][i]? := fun i hi => by
    show ((((w.alloc (.cells #[.int .i64 s, .int .i64 v, A, .int .i64 s', .int .i64 v', A'] T)).alloc (.cells #[.int .i64 0, .int .i64 0, .slice none 0 0] T')).alloc (.cells #[.int .i64 0, .int .i64 0, .slice none 0 0] T'))).cell? ⟨w.heap.size, i, none⟩ = _
    rw [World.cell?_alloc_lt _ _ _ (by simp; omega), World.cell?_alloc_lt _ _ _ (by simp), World.cell?_alloc_at _ _ _ _ (by simp)]
  refine ⟨((((Below.refl _ _).alloc (Nat.le_refl _) _).alloc (by simp) _).alloc (by simp; omega) _).drew, c 0 (by omega), c 1 (by omega), c 2 (by omega), c 3 (by omega), c 4 (by omega), c 5 (by omega), fun j i hj hi => ?_⟩
  have h2 : j = 0 ∨ j = 1 := by omega
  have h3 : i = 0 ∨ i = 1 ∨ i = 2 := by omega
  constructor
  · show ∃ x, ((((w.alloc (.cells #[.int .i64 s, .int .i64 v, A, .int .i64 s', .int .i64 v', A'] T)).alloc (.cells #[.int .i64 0, .int .i64 0, .slice none 0 0] T')).alloc (.cells #[.int .i64 0, .int .i64 0, .slice none 0 0] T'))).cell? ⟨w.heap.size + 1 + j, i, none⟩ = some x
    rcases h2 with rfl | rfl
    · rw [World.cell?_alloc_lt _ _ _ (by simp), World.cell?_alloc_at _ _ _ _ (by simp)]
      rcases h3 with rfl | rfl | rfl <;> exact ⟨_, rfl⟩
    · rw [World.cell?_alloc_at _ _ _ _ (by simp)]
      rcases h3 with rfl | rfl | rfl <;> exact ⟨_, rfl⟩
  · show ((((w.alloc (.cells #[.int .i64 s, .int .i64 v, A, .int .i64 s', .int .i64 v', A'] T)).alloc (.cells #[.int .i64 0, .int .i64 0, .slice none 0 0] T')).alloc (.cells #[.int .i64 0, .int .i64 0, .slice none 0 0] T'))).frozen? ⟨w.heap.size + 1 + j, i, none⟩ = false
    rcases h2 with rfl | rfl
    · rw [World.frozen?_alloc_past _ _ _ (by simp), World.frozen?_alloc_at _ _ _ _ (by simp)]
    · rw [World.frozen?_alloc_at _ _ _ _ (by simp)]
/-- A result's box is filled. -/
theorem SdS.fill {w : World} {s v : Int} {A : Value} {s' v' : Int} {A' : Value} {u : World} (h : SdS w s v A s' v' A' u) {j : Nat} (hj : j ≤ 1) (x y z : Value) : SdS w s v A s' v' A' (s3 u (w.heap.size + 1 + j) x y z) ∧ (s3 u (w.heap.size + 1 + j) x y z).cell? ⟨w.heap.size + 1 + j, 0, none⟩ = some x ∧ (s3 u (w.heap.size + 1 + j) x y z).cell? ⟨w.heap.size + 1 + j, 1, none⟩ = some y ∧ (s3 u (w.heap.size + 1 + j) x y z).cell? ⟨w.heap.size + 1 + j, 2, none⟩ = some z := by
  obtain ⟨⟨p0, h0⟩, _⟩ := h.q j 0 hj (by omega)
  obtain ⟨⟨p1, h1⟩, _⟩ := h.q j 1 hj (by omega)
  obtain ⟨⟨p2, h2⟩, _⟩ := h.q j 2 hj (by omega)
  have hc := s3_in (x := x) (y := y) (z := z) h0 h1 h2
  have hf : ∀ {b i : Nat}, b ≠ w.heap.size + 1 + j → (s3 u (w.heap.size + 1 + j) x y z).cell? ⟨b, i, none⟩ = u.cell? ⟨b, i, none⟩ := fun hb => (s3_far (q := ⟨_, _, none⟩) hb).1
  refine ⟨⟨?_, by rw [hf (by omega)]; exact h.e0, by rw [hf (by omega)]; exact h.e1, by rw [hf (by omega)]; exact h.e2, by rw [hf (by omega)]; exact h.e3, by rw [hf (by omega)]; exact h.e4, by rw [hf (by omega)]; exact h.e5, fun j' i hj' hi => ?_⟩, hc⟩
  · unfold s3
    exact ((h.low.setCell (by simp; omega) _).setCell (by simp; omega) _).setCell (by simp; omega) _
  · refine ⟨?_, by rw [s3_fr]; exact (h.q j' i hj' hi).2⟩
    by_cases e : j' = j
    · subst e
      have h3 : i = 0 ∨ i = 1 ∨ i = 2 := by omega
      rcases h3 with rfl | rfl | rfl
      · exact ⟨_, hc.1⟩
      · exact ⟨_, hc.2.1⟩
      · exact ⟨_, hc.2.2⟩
    · rw [hf (by omega)]
      exact (h.q j' i hj' hi).1
set_option maxRecDepth 100000 in
set_option maxHeartbeats 2000000 in
theorem l11Sides_any (s v s' v' : Int) (a1 a2 : Option Addr) (n1 c1 n2 c2 : Nat) (back : Bool) (w : World) :
    Calls Try.prog 49 #[.agg #[.int .i64 s, .int .i64 v, .slice a1 n1 c1, .int .i64 s', .int .i64 v', .slice a2 n2 c2], .bool back] w fun e w' =>
      e = .returned (.tuple (if back = true then #[.agg #[.int .i64 s', .int .i64 v', .slice a2 n2 c2], .agg #[.int .i64 s, .int .i64 v, .slice a1 n1 c1]] else #[.agg #[.int .i64 s, .int .i64 v, .slice a1 n1 c1], .agg #[.int .i64 s', .int .i64 v', .slice a2 n2 c2]])) ∧ Below w.heap.size w w' := by
  go_enter Try.func49, Try.ntmps49
  cases back with
  | true =>
    go_wp2_with fail
    refine wp_region_typed (fun i x _ => x = ([.pointer (some ⟨w.heap.size, 3, none⟩), .agg #[.int .i64 s', .int .i64 v', .slice a2 n2 c2], .pointer (some ⟨w.heap.size, 0, none⟩), .agg #[.int .i64 s, .int .i64 v, .slice a1 n1 c1], undef, undef] : List Value).getD i undef) (fun listed _ u => SdS w s v (.slice a1 n1 c1) s' v' (.slice a2 n2 c2) u ∧ (listed.getD 4 false = true → u.cell? ⟨w.heap.size + 1, 0, none⟩ = some (.int .i64 s') ∧ u.cell? ⟨w.heap.size + 1, 1, none⟩ = some (.int .i64 v') ∧ u.cell? ⟨w.heap.size + 1, 2, none⟩ = some (.slice a2 n2 c2)) ∧ (listed.getD 5 false = true → u.cell? ⟨w.heap.size + 1 + 1, 0, none⟩ = some (.int .i64 s) ∧ u.cell? ⟨w.heap.size + 1 + 1, 1, none⟩ = some (.int .i64 v) ∧ u.cell? ⟨w.heap.size + 1 + 1, 2, none⟩ = some (.slice a1 n1 c1))) (fun _ _ => True) (by kernel_rfl) (by kernel_rfl) (fun i x u u' h _ => h) ⟨SdS.start, fun h => by simp at h, fun h => by simp at h⟩ ?_ ?_
    · intro i o hi listed a u hst hun hdep
      have hin : i < 6 := (Array.getElem?_eq_some_iff.1 hi).1
      obtain ⟨hS, h4, h5⟩ := hst.s
      obtain ⟨hlow, e0, e1, e2, e3, e4, e5, hq⟩ := hS
      have hS : SdS w s v (.slice a1 n1 c1) s' v' (.slice a2 n2 c2) u := ⟨hlow, e0, e1, e2, e3, e4, e5, hq⟩
      have h16 : i = 0 ∨ i = 1 ∨ i = 2 ∨ i = 3 ∨ i = 4 ∨ i = 5 := by omega
      rcases h16 with rfl | rfl | rfl | rfl | rfl | rfl
      · obtain rfl := Option.some.inj hi
        have ht : (a.tmps[2]?).getD undef = .pointer (some ⟨w.heap.size, 0, none⟩) := hst.old 2 (by kernel_rfl)
        refine wpOp_of rfl rfl (fun K hK => ?_)
        go_simp
        refine hK _ _ ⟨_, rfl, ⟨hS, fun h => h4 (set_was (i := 0) (by decide) h), fun h => h5 (set_was (i := 0) (by decide) h)⟩, trivial, fun d hd => rfl⟩
      · obtain rfl := Option.some.inj hi
        have ht : (a.tmps[7]?).getD undef = .pointer (some ⟨w.heap.size, 3, none⟩) := hst.at hdep 0 7 (by kernel_rfl) (by kernel_rfl)
        refine wpOp_of rfl rfl (fun K hK => ?_)
        go_simp
        refine hK _ _ ⟨_, rfl, ⟨hS, fun h => h4 (set_was (i := 1) (by decide) h), fun h => h5 (set_was (i := 1) (by decide) h)⟩, trivial, fun d hd => rfl⟩
      · obtain rfl := Option.some.inj hi
        have ht : (a.tmps[2]?).getD undef = .pointer (some ⟨w.heap.size, 0, none⟩) := hst.old 2 (by kernel_rfl)
        refine wpOp_of rfl rfl (fun K hK => ?_)
        go_simp
        refine hK _ _ ⟨_, rfl, ⟨hS, fun h => h4 (set_was (i := 2) (by decide) h), fun h => h5 (set_was (i := 2) (by decide) h)⟩, trivial, fun d hd => rfl⟩
      · obtain rfl := Option.some.inj hi
        have ht : (a.tmps[9]?).getD undef = .pointer (some ⟨w.heap.size, 0, none⟩) := hst.at hdep 2 9 (by kernel_rfl) (by kernel_rfl)
        refine wpOp_of rfl rfl (fun K hK => ?_)
        go_simp
        refine hK _ _ ⟨_, rfl, ⟨hS, fun h => h4 (set_was (i := 3) (by decide) h), fun h => h5 (set_was (i := 3) (by decide) h)⟩, trivial, fun d hd => rfl⟩
      · obtain rfl := Option.some.inj hi
        have hv : (a.tmps[8]?).getD undef = .agg #[.int .i64 s', .int .i64 v', .slice a2 n2 c2] := hst.at hdep 1 8 (by kernel_rfl) (by kernel_rfl)
        have ht : (a.tmps[4]?).getD undef = .pointer (some ⟨w.heap.size + 1, 0, none⟩) := hst.old 4 (by kernel_rfl)
        obtain ⟨⟨p0, e0_⟩, f0⟩ := hq 0 0 (by omega) (by omega)
        obtain ⟨⟨p1, e1_⟩, f1⟩ := hq 0 1 (by omega) (by omega)
        obtain ⟨⟨p2, e2_⟩, f2⟩ := hq 0 2 (by omega) (by omega)
        obtain ⟨hF, d0, d1, d2⟩ := hS.fill (j := 0) (by omega) (.int .i64 s') (.int .i64 v') (.slice a2 n2 c2)
        refine wpOp_of rfl rfl (fun K hK => ?_)
        simp only [Nat.add_zero] at e0_ e1_ e2_ f0 f1 f2
        go_simp
        refine hK _ _ ⟨undef, rfl, ⟨hF, fun _ => ⟨d0, d1, d2⟩, fun h => by
        obtain ⟨r0, r1, r2⟩ := h5 (set_was (i := 4) (by decide) h)
        refine ⟨?_, ?_, ?_⟩
        · exact (s3_far (q := ⟨_, _, none⟩) (by simp)).1.trans r0
        · exact (s3_far (q := ⟨_, _, none⟩) (by simp)).1.trans r1
        · exact (s3_far (q := ⟨_, _, none⟩) (by simp)).1.trans r2⟩, trivial, fun d hd => by cases hd⟩
      · obtain rfl := Option.some.inj hi
        have hv : (a.tmps[10]?).getD undef = .agg #[.int .i64 s, .int .i64 v, .slice a1 n1 c1] := hst.at hdep 3 10 (by kernel_rfl) (by kernel_rfl)
        have ht : (a.tmps[5]?).getD undef = .pointer (some ⟨w.heap.size + 1 + 1, 0, none⟩) := hst.old 5 (by kernel_rfl)
        obtain ⟨⟨p0, e0_⟩, f0⟩ := hq 1 0 (by omega) (by omega)
        obtain ⟨⟨p1, e1_⟩, f1⟩ := hq 1 1 (by omega) (by omega)
        obtain ⟨⟨p2, e2_⟩, f2⟩ := hq 1 2 (by omega) (by omega)
        obtain ⟨hF, d0, d1, d2⟩ := hS.fill (j := 1) (by omega) (.int .i64 s) (.int .i64 v) (.slice a1 n1 c1)
        refine wpOp_of rfl rfl (fun K hK => ?_)
        go_simp
        refine hK _ _ ⟨undef, rfl, ⟨hF, fun h => by
        obtain ⟨r0, r1, r2⟩ := h4 (set_was (i := 5) (by decide) h)
        refine ⟨?_, ?_, ?_⟩
        · exact (s3_far (q := ⟨_, _, none⟩) (by simp)).1.trans r0
        · exact (s3_far (q := ⟨_, _, none⟩) (by simp)).1.trans r1
        · exact (s3_far (q := ⟨_, _, none⟩) (by simp)).1.trans r2, fun _ => ⟨d0, d1, d2⟩⟩, trivial, fun d hd => by cases hd⟩
    · intro listed a u hst hall
      obtain ⟨hS, h4, h5⟩ := hst.s
      obtain ⟨k0, k1, k2⟩ := h4 (hall 4 (by decide))
      obtain ⟨d0, d1, d2⟩ := h5 (hall 5 (by decide))
      have ht : (a.tmps[4]?).getD undef = .pointer (some ⟨w.heap.size + 1, 0, none⟩) := hst.old 4 (by kernel_rfl)
      have ht2 : (a.tmps[5]?).getD undef = .pointer (some ⟨w.heap.size + 1 + 1, 0, none⟩) := hst.old 5 (by kernel_rfl)
      have hdf : a.defers = [] := hst.defers
      clear hst
      obtain ⟨tm, df⟩ := a
      dsimp only at hdf ht ht2
      subst hdf
      go_wp2_with fail
      refine bodyPost_ret (v := .tuple #[.agg #[.int .i64 s', .int .i64 v', .slice a2 n2 c2], .agg #[.int .i64 s, .int .i64 v, .slice a1 n1 c1]]) ?_ rfl ⟨rfl, hS.low⟩
      simp [results, Try.results49, go_sem, ht, ht2, k0, k1, k2, d0, d1, d2]
  | false =>
    go_wp2_with fail
    refine wp_region_typed (fun i x _ => x = ([.pointer (some ⟨w.heap.size, 0, none⟩), .agg #[.int .i64 s, .int .i64 v, .slice a1 n1 c1], .pointer (some ⟨w.heap.size, 3, none⟩), .agg #[.int .i64 s', .int .i64 v', .slice a2 n2 c2], undef, undef] : List Value).getD i undef) (fun listed _ u => SdS w s v (.slice a1 n1 c1) s' v' (.slice a2 n2 c2) u ∧ (listed.getD 4 false = true → u.cell? ⟨w.heap.size + 1, 0, none⟩ = some (.int .i64 s) ∧ u.cell? ⟨w.heap.size + 1, 1, none⟩ = some (.int .i64 v) ∧ u.cell? ⟨w.heap.size + 1, 2, none⟩ = some (.slice a1 n1 c1)) ∧ (listed.getD 5 false = true → u.cell? ⟨w.heap.size + 1 + 1, 0, none⟩ = some (.int .i64 s') ∧ u.cell? ⟨w.heap.size + 1 + 1, 1, none⟩ = some (.int .i64 v') ∧ u.cell? ⟨w.heap.size + 1 + 1, 2, none⟩ = some (.slice a2 n2 c2))) (fun _ _ => True) (by kernel_rfl) (by kernel_rfl) (fun i x u u' h _ => h) ⟨SdS.start, fun h => by simp at h, fun h => by simp at h⟩ ?_ ?_
    · intro i o hi listed a u hst hun hdep
      have hin : i < 6 := (Array.getElem?_eq_some_iff.1 hi).1
      obtain ⟨hS, h4, h5⟩ := hst.s
      obtain ⟨hlow, e0, e1, e2, e3, e4, e5, hq⟩ := hS
      have hS : SdS w s v (.slice a1 n1 c1) s' v' (.slice a2 n2 c2) u := ⟨hlow, e0, e1, e2, e3, e4, e5, hq⟩
      have h16 : i = 0 ∨ i = 1 ∨ i = 2 ∨ i = 3 ∨ i = 4 ∨ i = 5 := by omega
      rcases h16 with rfl | rfl | rfl | rfl | rfl | rfl
      · obtain rfl := Option.some.inj hi
        have ht : (a.tmps[2]?).getD undef = .pointer (some ⟨w.heap.size, 0, none⟩) := hst.old 2 (by kernel_rfl)
        refine wpOp_of rfl rfl (fun K hK => ?_)
        go_simp
        refine hK _ _ ⟨_, rfl, ⟨hS, fun h => h4 (set_was (i := 0) (by decide) h), fun h => h5 (set_was (i := 0) (by decide) h)⟩, trivial, fun d hd => rfl⟩
      · obtain rfl := Option.some.inj hi
        have ht : (a.tmps[11]?).getD undef = .pointer (some ⟨w.heap.size, 0, none⟩) := hst.at hdep 0 11 (by kernel_rfl) (by kernel_rfl)
        refine wpOp_of rfl rfl (fun K hK => ?_)
        go_simp
        refine hK _ _ ⟨_, rfl, ⟨hS, fun h => h4 (set_was (i := 1) (by decide) h), fun h => h5 (set_was (i := 1) (by decide) h)⟩, trivial, fun d hd => rfl⟩
      · obtain rfl := Option.some.inj hi
        have ht : (a.tmps[2]?).getD undef = .pointer (some ⟨w.heap.size, 0, none⟩) := hst.old 2 (by kernel_rfl)
        refine wpOp_of rfl rfl (fun K hK => ?_)
        go_simp
        refine hK _ _ ⟨_, rfl, ⟨hS, fun h => h4 (set_was (i := 2) (by decide) h), fun h => h5 (set_was (i := 2) (by decide) h)⟩, trivial, fun d hd => rfl⟩
      · obtain rfl := Option.some.inj hi
        have ht : (a.tmps[13]?).getD undef = .pointer (some ⟨w.heap.size, 3, none⟩) := hst.at hdep 2 13 (by kernel_rfl) (by kernel_rfl)
        refine wpOp_of rfl rfl (fun K hK => ?_)
        go_simp
        refine hK _ _ ⟨_, rfl, ⟨hS, fun h => h4 (set_was (i := 3) (by decide) h), fun h => h5 (set_was (i := 3) (by decide) h)⟩, trivial, fun d hd => rfl⟩
      · obtain rfl := Option.some.inj hi
        have hv : (a.tmps[12]?).getD undef = .agg #[.int .i64 s, .int .i64 v, .slice a1 n1 c1] := hst.at hdep 1 12 (by kernel_rfl) (by kernel_rfl)
        have ht : (a.tmps[4]?).getD undef = .pointer (some ⟨w.heap.size + 1, 0, none⟩) := hst.old 4 (by kernel_rfl)
        obtain ⟨⟨p0, e0_⟩, f0⟩ := hq 0 0 (by omega) (by omega)
        obtain ⟨⟨p1, e1_⟩, f1⟩ := hq 0 1 (by omega) (by omega)
        obtain ⟨⟨p2, e2_⟩, f2⟩ := hq 0 2 (by omega) (by omega)
        obtain ⟨hF, d0, d1, d2⟩ := hS.fill (j := 0) (by omega) (.int .i64 s) (.int .i64 v) (.slice a1 n1 c1)
        refine wpOp_of rfl rfl (fun K hK => ?_)
        simp only [Nat.add_zero] at e0_ e1_ e2_ f0 f1 f2
        go_simp
        refine hK _ _ ⟨undef, rfl, ⟨hF, fun _ => ⟨d0, d1, d2⟩, fun h => by
        obtain ⟨r0, r1, r2⟩ := h5 (set_was (i := 4) (by decide) h)
        refine ⟨?_, ?_, ?_⟩
        · exact (s3_far (q := ⟨_, _, none⟩) (by simp)).1.trans r0
        · exact (s3_far (q := ⟨_, _, none⟩) (by simp)).1.trans r1
        · exact (s3_far (q := ⟨_, _, none⟩) (by simp)).1.trans r2⟩, trivial, fun d hd => by cases hd⟩
      · obtain rfl := Option.some.inj hi
        have hv : (a.tmps[14]?).getD undef = .agg #[.int .i64 s', .int .i64 v', .slice a2 n2 c2] := hst.at hdep 3 14 (by kernel_rfl) (by kernel_rfl)
        have ht : (a.tmps[5]?).getD undef = .pointer (some ⟨w.heap.size + 1 + 1, 0, none⟩) := hst.old 5 (by kernel_rfl)
        obtain ⟨⟨p0, e0_⟩, f0⟩ := hq 1 0 (by omega) (by omega)
        obtain ⟨⟨p1, e1_⟩, f1⟩ := hq 1 1 (by omega) (by omega)
        obtain ⟨⟨p2, e2_⟩, f2⟩ := hq 1 2 (by omega) (by omega)
        obtain ⟨hF, d0, d1, d2⟩ := hS.fill (j := 1) (by omega) (.int .i64 s') (.int .i64 v') (.slice a2 n2 c2)
        refine wpOp_of rfl rfl (fun K hK => ?_)
        go_simp
        refine hK _ _ ⟨undef, rfl, ⟨hF, fun h => by
        obtain ⟨r0, r1, r2⟩ := h4 (set_was (i := 5) (by decide) h)
        refine ⟨?_, ?_, ?_⟩
        · exact (s3_far (q := ⟨_, _, none⟩) (by simp)).1.trans r0
        · exact (s3_far (q := ⟨_, _, none⟩) (by simp)).1.trans r1
        · exact (s3_far (q := ⟨_, _, none⟩) (by simp)).1.trans r2, fun _ => ⟨d0, d1, d2⟩⟩, trivial, fun d hd => by cases hd⟩
    · intro listed a u hst hall
      obtain ⟨hS, h4, h5⟩ := hst.s
      obtain ⟨k0, k1, k2⟩ := h4 (hall 4 (by decide))
      obtain ⟨d0, d1, d2⟩ := h5 (hall 5 (by decide))
      have ht : (a.tmps[4]?).getD undef = .pointer (some ⟨w.heap.size + 1, 0, none⟩) := hst.old 4 (by kernel_rfl)
      have ht2 : (a.tmps[5]?).getD undef = .pointer (some ⟨w.heap.size + 1 + 1, 0, none⟩) := hst.old 5 (by kernel_rfl)
      have hdf : a.defers = [] := hst.defers
      clear hst
      obtain ⟨tm, df⟩ := a
      dsimp only at hdf ht ht2
      subst hdf
      go_wp2_with fail
      refine bodyPost_ret (v := .tuple #[.agg #[.int .i64 s, .int .i64 v, .slice a1 n1 c1], .agg #[.int .i64 s', .int .i64 v', .slice a2 n2 c2]]) ?_ rfl ⟨rfl, hS.low⟩
      simp [results, Try.results49, go_sem, ht, ht2, k0, k1, k2, d0, d1, d2]
end Go.Proofs.Ytdkcbbhkoibplaa

/-! C3: - nodePut: another node put to a place; the nodes on the way are made anew. -/
namespace Go.Proofs.Ytdkcbbhkoibplaa
open Go.RowKit Go.Deep
attribute [local go_sem ↓] Go.wp_at_zero Go.wp_at_succ

/-- A place from its n-th number on. -/
theorem cut_from {pA : Option Addr} {pC n : Nat} {place : List Int} (hn : n ≤ place.length) (hc : place.length ≤ pC) : ∃ A', (∀ w : World, (Instr.slice 26 (.slice pA place.length pC) (some (.int .i64 (n : Int))) none none).run Try.prog w = .ok (.slice A' (place.length - n) (pC - n)) w) ∧
    ∀ {w : World} {lo B : Nat}, ISl w lo B pA place → ISc w lo B A' (pC - n) (place.drop n) := by
  obtain ⟨ti, hti, htz, hts, htb⟩ := Try.infoI
  have hsz : ∀ w : World, (sizeOf (Try.prog.elem 26)).run Try.prog w = .ok 1 w := fun w => by
    have he : Try.prog.elem 26 = 3 := by kernel_rfl
    rw [he]
    simp [sizeOf, typeInfo, hti, hts]
  have hel : Try.prog.underlying 26 = some (.slice (Try.prog.elem 26)) := by kernel_rfl
  have hrun : ∀ w : World, (Instr.slice 26 (.slice pA place.length pC) (some (.int .i64 (n : Int))) none none).run Try.prog w = .ok (sliced pA n place.length pC 1) w := fun w => by
    rw [run_slice_l (P := Try.prog) w 26 pA place.length pC hel .i64 (n : Int) (by omega) (by omega), hsz]
    simp [Result.andThen]
  refine ⟨if pC = n then pA else pA.map (·.add (n * 1)), fun w => by rw [hrun w]; rfl, fun {w lo B} h => ⟨?_, by simp; omega⟩⟩
  split
  · exact .inl (List.drop_eq_nil_of_le (by omega))
  · rcases h with rfl | ⟨b, o, rfl, h1, h2, h3⟩
    · exact .inl (by simp)
    · refine .inr ⟨b, o + n, ?_, h1, h2, fun j x hx => ?_⟩
      · have ha : (⟨b, o, none⟩ : Addr).add n = ⟨b, o + n, none⟩ := by unfold Addr.add; split <;> simp_all
        simp only [Option.map_some, Nat.mul_one, ha]
      · rw [List.getElem?_drop] at hx
        rw [show o + n + j = o + (n + j) from by omega]
        exact h3 (n + j) x hx
end Go.Proofs.Ytdkcbbhkoibplaa

/-! C4: - impl.TermPut: a term with another put to a place, made anew. -/
namespace Go.Proofs.Ytdkcbbhkoibplaa
open Go.RowKit Go.Deep
attribute [local go_sem ↓] Go.wp_at_zero Go.wp_at_succ

/-- The cells that hold the answer, behind two boxes. -/
theorem put_cells {w w1 : World} {o o' : Obj} (hb : Below (w.heap.size + 3) (((w.alloc o).alloc o').alloc (.cells #[.int .i64 0, .int .i64 0, .slice none 0 0] 35)) w1) :
    w1.cell? ⟨w.heap.size + 1 + 1, 0, none⟩ = some (.int .i64 0) ∧ w1.cell? ⟨w.heap.size + 1 + 1, 1, none⟩ = some (.int .i64 0) ∧ w1.cell? ⟨w.heap.size + 1 + 1, 2, none⟩ = some (.slice none 0 0) ∧
      w1.frozen? ⟨w.heap.size + 1 + 1, 0, none⟩ = false ∧ w1.frozen? ⟨w.heap.size + 1 + 1, 1, none⟩ = false ∧ w1.frozen? ⟨w.heap.size + 1 + 1, 2, none⟩ = false := by
  refine ⟨?_, ?_, ?_, ?_, ?_, ?_⟩
  · rw [hb.cell (by simp), World.cell?_alloc_at _ _ _ _ (by simp)]; rfl
  · rw [hb.cell (by simp), World.cell?_alloc_at _ _ _ _ (by simp)]; rfl
  · rw [hb.cell (by simp), World.cell?_alloc_at _ _ _ _ (by simp)]; rfl
  · rw [hb.frozen (by simp), World.frozen?_alloc_at _ _ _ _ (by simp)]
  · rw [hb.frozen (by simp), World.frozen?_alloc_at _ _ _ _ (by simp)]
  · rw [hb.frozen (by simp), World.frozen?_alloc_at _ _ _ _ (by simp)]
/-- The cells of the second box. -/
theorem put_box {w w1 : World} {o Z : Obj} {x y z : Value} (hb : Below (w.heap.size + 3) (((w.alloc o).alloc (.cells #[x, y, z] 35)).alloc Z) w1) :
    w1.cell? ⟨w.heap.size + 1, 0, none⟩ = some x ∧ w1.cell? ⟨w.heap.size + 1, 1, none⟩ = some y ∧ w1.cell? ⟨w.heap.size + 1, 2, none⟩ = some z := by
  refine ⟨?_, ?_, ?_⟩
  · rw [hb.cell (by simp), World.cell?_alloc_lt _ _ _ (by simp), World.cell?_alloc_at _ _ _ _ (by simp)]; rfl
  · rw [hb.cell (by simp), World.cell?_alloc_lt _ _ _ (by simp), World.cell?_alloc_at _ _ _ _ (by simp)]; rfl
  · rw [hb.cell (by simp), World.cell?_alloc_lt _ _ _ (by simp), World.cell?_alloc_at _ _ _ _ (by simp)]; rfl

end Go.Proofs.Ytdkcbbhkoibplaa
