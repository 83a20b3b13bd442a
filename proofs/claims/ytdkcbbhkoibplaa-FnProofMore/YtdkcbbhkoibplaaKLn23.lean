/- Several texts in one: PE0, LL, SC. -/
import Derived.Test.YtdkcbbhkoibplaaKLn20
import Derived.Test.YtdkcbbhkoibplaaKLn22
import Derived.Test.YtdkcbbhkoibplaaKLn12
import Derived.Test.YtdkcbbhkoibplaaKLn7
import Derived.Test.YtdkcbbhkoibplaaKLn8

/-! PE0: ProofEnd of the program where it fails at once. -/
namespace Go.Proofs.Ytdkcbbhkoibplaa
open Go.RowKit Go.Deep Go.Shelf

/-- What stays where all cells stay. -/
theorem OwR.keepS {w w' : World} (hk : ∀ (q : Addr) (v : Value), w.cell? q = some v → w'.cell? q = some v ∧ w'.frozen? q = w.frozen? q) : ∀ {k : Fo} {b o : Nat} {P : Nat → Prop}, OwR w k b o P → OwR w' k b o P
  | .nil, _, _, _, _ => trivial
  | .node _ _ p k r, b, o, P, ⟨⟨c0, c1⟩, ⟨f0, f1, f2⟩, a, c, P1, P2, g1, g2, g3, g4, g5, g6⟩ => by
    have k0 := hk _ _ c0
    have k1 := hk _ _ c1
    have k2 := hk _ _ g4
    refine ⟨⟨k0.1, k1.1⟩, ⟨k0.2.trans f0, k1.2.trans f1, k2.2.trans f2⟩, a, c, P1, P2, g1, g2, g3, k2.1, ?_, OwR.keepS hk g6⟩
    rcases g5 with g5 | ⟨b', P3, e, h1, h2, h3, h4⟩
    · exact .inl g5
    · exact .inr ⟨b', P3, e, h1, h2, h3, OwR.keepS hk h4⟩
theorem prR_bad {es : List Eqd} {t : Tm3} {ls : List Lk} (h : okEs es = false ∨ okT3 64 t = false ∨ 40 < ls.length) : prR es t ls = none := by
  unfold prR
  refine if_neg fun h' => ?_
  rcases h with h | h | h
  · rw [h] at h'; cases h'.1
  · rw [h] at h'; cases h'.2.1
  · omega
theorem prR_good {es : List Eqd} {t : Tm3} {ls : List Lk} (h1 : okEs es = true) (h2 : okT3 64 t = true) (h3 : ls.length ≤ 40) : prR es t ls = lkF es t ls := by
  unfold prR
  exact if_pos ⟨h1, h2, h3⟩

/-- The boxes of the term and of both results. -/
structure PeS (w : World) (s v : Int) (T : Value) (u : World) : Prop where
  low : Below w.heap.size w u
  size : w.heap.size + 3 ≤ u.heap.size
  t0 : u.cell? ⟨w.heap.size, 0, none⟩ = some (.int .i64 s)
  t1 : u.cell? ⟨w.heap.size, 1, none⟩ = some (.int .i64 v)
  t2 : u.cell? ⟨w.heap.size, 2, none⟩ = some T
  r0 : u.cell? ⟨w.heap.size + 1, 0, none⟩ = some (.int .i64 0)
  r1 : u.cell? ⟨w.heap.size + 1, 1, none⟩ = some (.int .i64 0)
  r2 : u.cell? ⟨w.heap.size + 1, 2, none⟩ = some (.slice none 0 0)
  b0 : u.cell? ⟨w.heap.size + 1 + 1, 0, none⟩ = some (.bool false)
  f : ∀ i, u.frozen? ⟨w.heap.size + 1, i, none⟩ = false
  g : ∀ i, u.frozen? ⟨w.heap.size + 1 + 1, i, none⟩ = false
theorem PeS.start {w : World} {s v : Int} {T : Value} {T1 T2 T3 : TypeId} : PeS w s v T (((w.alloc (.cells #[.int .i64 s, .int .i64 v, T] T1)).alloc (.cells #[.int .i64 0, .int .i64 0, .slice none 0 0] T2)).alloc (.cells #[.bool false] T3)) := by
  have a0 : ∀ i, (((w.alloc (.cells #[.int .i64 s, .int .i64 v, T] T1)).alloc (.cells #[.int .i64 0, .int .i64 0, .slice none 0 0] T2)).alloc (.cells #[.bool false] T3)).cell? ⟨w.heap.size, i, none⟩ = #[Value.int .i64 s, .int .i64 v, T][i]? := fun i => by
    rw [World.cell?_alloc_lt _ _ _ (by simp; omega), World.cell?_alloc_lt _ _ _ (by simp), World.cell?_alloc_at _ _ _ _ (by simp)]
  have a1 : ∀ i, (((w.alloc (.cells #[.int .i64 s, .int .i64 v, T] T1)).alloc (.cells #[.int .i64 0, .int .i64 0, .slice none 0 0] T2)).alloc (.cells #[.bool false] T3)).cell? ⟨w.heap.size + 1, i, none⟩ = #[Value.int .i64 0, .int .i64 0, .slice none 0 0][i]? := fun i => by
    rw [World.cell?_alloc_lt _ _ _ (by simp), World.cell?_alloc_at _ _ _ _ (by simp)]
  have a2 : ∀ i, (((w.alloc (.cells #[.int .i64 s, .int .i64 v, T] T1)).alloc (.cells #[.int .i64 0, .int .i64 0, .slice none 0 0] T2)).alloc (.cells #[.bool false] T3)).cell? ⟨w.heap.size + 1 + 1, i, none⟩ = #[Value.bool false][i]? := fun i => by
    rw [World.cell?_alloc_at _ _ _ _ (by simp)]
  exact ⟨(((Below.refl _ _).alloc (Nat.le_refl _) _).alloc (by simp) _).alloc (by simp; omega) _, by simp, a0 0, a0 1, a0 2, a1 0, a1 1, a1 2, a2 0, fun i => by rw [((Below.refl _ _).alloc (Nat.le_refl _) _).frozen (by simp), World.frozen?_alloc_at _ _ _ _ (by simp)], fun i => by rw [World.frozen?_alloc_at _ _ _ _ (by simp)]⟩
theorem PeS.next {w : World} {s v : Int} {T : Value} {u u' : World} (h : PeS w s v T u) (hb : Below u.heap.size u u') : PeS w s v T u' :=
  ⟨h.low.trans (hb.mono (by have := h.size; omega)), Nat.le_trans h.size hb.size, cell_low hb h.t0, cell_low hb h.t1, cell_low hb h.t2, cell_low hb h.r0, cell_low hb h.r1, cell_low hb h.r2, cell_low hb h.b0, fun i => (hb.frozen (by have := h.size; simp; omega)).trans (h.f i), fun i => (hb.frozen (by have := h.size; simp; omega)).trans (h.g i)⟩
theorem pe_end {w w1 : World} {r : Option Tm3} {s v : Int} {k : Fo} {t : Bool} {a : Option Addr} {c : Nat} (hr : ansR r = ((s, v, k), t)) (hb : Below w.heap.size w w1) (hl : Sl w1 (w.heap.size + 3) w1.heap.size a k) (p q o z : Value) :
    LkPost r w (.returned (.tuple #[.agg #[.int .i64 s, .int .i64 v, .slice a (flen k) c], .bool t])) ((((w1.setCell ⟨w.heap.size + 1, 0, none⟩ p).setCell ⟨w.heap.size + 1, 1, none⟩ q).setCell ⟨w.heap.size + 1, 2, none⟩ o).setCell ⟨w.heap.size + 1 + 1, 0, none⟩ z) := by
  refine ⟨a, c, s, v, k, t, hr, rfl, (((hb.setCell (by simp) _).setCell (by simp) _).setCell (by simp) _).setCell (by simp; omega) _, ?_⟩
  have hs : Same (w.heap.size + 3) w1.heap.size w1 ((((w1.setCell ⟨w.heap.size + 1, 0, none⟩ p).setCell ⟨w.heap.size + 1, 1, none⟩ q).setCell ⟨w.heap.size + 1, 2, none⟩ o).setCell ⟨w.heap.size + 1 + 1, 0, none⟩ z) :=
    ((((Same.setCell (fun _ _ _ => rfl) (.inl (by simp)) _).setCell (.inl (by simp)) _).setCell (.inl (by simp)) _).setCell (.inl (by simp)) _)
  exact (hl.same hs).mono (by omega) (by simp)

set_option maxRecDepth 100000 in
set_option maxHeartbeats 2000000 in
theorem proofEnd_bad (es : List Eqd) (A : Option Addr) (C : Nat) (s v : Int) (a : Option Addr) (c : Nat) (k : Fo) (A2 : Option Addr) (C2 : Nat) (ls : List Lk) (w : World)
    (hbad : okEs es = false ∨ okT3 64 (s, v, k) = false ∨ 40 < ls.length)
    (hq : ESl w 0 w.heap.size A es) (hel : es.length ≤ 9223372036854775807) (hl : Sl w 0 w.heap.size a k) (hll : ls.length ≤ 9223372036854775807) :
    Calls Try.prog 36 #[.slice A es.length C, .agg #[.int .i64 s, .int .i64 v, .slice a (flen k) c], .slice A2 ls.length C2] w (LkPost (prR es (s, v, k) ls) w) := by
  rw [prR_bad hbad]
  have hb0 : PeS w s v (.slice a (flen k) c) (((w.alloc (.cells #[.int .i64 s, .int .i64 v, .slice a (flen k) c] 35)).alloc (.cells #[.int .i64 0, .int .i64 0, .slice none 0 0] 35)).alloc (.cells #[.bool false] 4)) := PeS.start
  have HS := Lib.hid hb0
  have HQ := Lib.hid (hq.next hb0.low)
  have HL := Lib.hid (Sl.next hl hb0.low)
  have HBAD := Lib.hid hbad
  clear hb0 hq hl hbad
  go_enter Try.func36, Try.ntmps36
  go_wp2_with fail
  with_reducible refine (equationsOf_any es A C _ HQ.out hel).mono ?_
  rintro e w1 ⟨hb1, hcase⟩
  have HS1 := Lib.hid (HS.out.next hb1)
  have HL1 := Lib.hid (Sl.next HL.out hb1)
  clear hb1 HS HL HQ
  obtain ⟨A', n', C', rfl, hbe⟩ : ∃ A' n' C', e = .returned (.tuple #[.slice A' n' C', .bool (okEs es)]) ∧ True := by
    rcases hcase with ⟨h, A', C', rfl, _⟩ | ⟨h, rfl⟩ <;> rw [h] <;> exact ⟨_, _, _, rfl, trivial⟩
  clear hcase hbe
  have hbx : Below w1.heap.size w1 (w1.alloc (.cells #[.slice A' n' C'] 112)) := box_low _ _
  have HS2 := Lib.hid (HS1.out.next hbx)
  have HL2 := Lib.hid (Sl.next HL1.out hbx)
  have c0 := HS2.out.t0
  have c1 := HS2.out.t1
  have c2 := HS2.out.t2
  clear HS1 HL1 hbx
  go_wp2_with fail
  with_reducible refine (nodeOf_any s v a c k 64 _ HL2.out (by omega) (by omega)).mono ?_
  rintro e w3 ⟨nv, rfl, hb3, _⟩
  have HS3 := Lib.hid (HS2.out.next hb3)
  have HOK : Hid (okT3 64 (s, v, k) = okW s v k 64) := rfl
  rw [HOK.out] at HBAD
  have r0 := HS3.out.r0
  have r1 := HS3.out.r1
  have r2 := HS3.out.r2
  have b0 := HS3.out.b0
  have f0 := HS3.out.f 0
  have f1 := HS3.out.f 1
  have f2 := HS3.out.f 2
  have g0 := HS3.out.g 0
  have hsz := HS3.out.size
  clear c0 c1 c2 hb3 HS2 HL2
  have HEND := Lib.hid (pe_end (r := none) (s := 0) (v := 0) (k := .nil) (t := false) (a := none) (c := 0) rfl HS3.out.low (.inl rfl) (.int .i64 0) (.int .i64 0) (.slice none 0 0) (.bool false))
  have hor : (okEs es = true ∧ okW s v k 64 = true) → decide (40 < (ls.length : Int)) = true := fun h => by
    have := HBAD.out
    rw [h.1, h.2] at this
    simp at this
    simp
    omega
  cases h1 : okEs es with
  | false =>
    clear hor
    go_wp2_with fail
    refine bodyPost_ret (v := .tuple #[.agg #[.int .i64 0, .int .i64 0, .slice none 0 0], .bool false]) ?_ rfl HEND.out
    simp [results, Try.results36, go_sem, r0, r1, r2, b0]
  | true =>
    cases h2 : okW s v k 64 with
    | false =>
      clear hor
      go_wp2_with fail
      refine bodyPost_ret (v := .tuple #[.agg #[.int .i64 0, .int .i64 0, .slice none 0 0], .bool false]) ?_ rfl HEND.out
      simp [results, Try.results36, go_sem, r0, r1, r2, b0]
    | true =>
      have h3 := hor ⟨h1, h2⟩
      have h3' : decide ((ls.length : Int) > 40) = true := h3
      clear hor
      go_wp2_with fail
      refine bodyPost_ret (v := .tuple #[.agg #[.int .i64 0, .int .i64 0, .slice none 0 0], .bool false]) ?_ rfl HEND.out
      simp [results, Try.results36, go_sem, r0, r1, r2, b0]
end Go.Proofs.Ytdkcbbhkoibplaa

/-! LL: What the walks of the laws of links hold on to; plain lemmas of links. -/
namespace Go.Proofs.Ytdkcbbhkoibplaa
open Go.RowKit Go.Deep

/-- Block b is a box that holds a link. -/
structure Lb (b : Nat) (eq : Int) (back : Bool) (pA : Option Addr) (pC : Nat) (place : List Int) (B : Option Addr) (D : Nat) (bs : List Bd) (w : World) : Prop where
  c0 : w.cell? ⟨b, 0, none⟩ = some (.int .i64 eq)
  c1 : w.cell? ⟨b, 1, none⟩ = some (.bool back)
  c2 : w.cell? ⟨b, 2, none⟩ = some (.slice pA place.length pC)
  c3 : w.cell? ⟨b, 3, none⟩ = some (.slice B bs.length D)
  hp : ISc w 0 w.heap.size pA pC place
  hb : BSl w 0 w.heap.size B bs
section
variable {b : Nat} {eq : Int} {back : Bool} {pA : Option Addr} {pC : Nat} {place : List Int} {B : Option Addr} {D : Nat} {bs : List Bd} {w w2 : World}
theorem Lb.next (h : Lb b eq back pA pC place B D bs w) (hb : Below w.heap.size w w2) : Lb b eq back pA pC place B D bs w2 :=
  ⟨cell_low hb h.c0, cell_low hb h.c1, cell_low hb h.c2, cell_low hb h.c3, h.hp.next hb, h.hb.next hb⟩
theorem Lb.new (h : ISc w 0 w.heap.size pA pC place) (h2 : BSl w 0 w.heap.size B bs) : Lb w.heap.size eq back pA pC place B D bs (w.alloc (.cells #[.int .i64 eq, .bool back, .slice pA place.length pC, .slice B bs.length D] 43)) := by
  have a1 : ∀ i, (w.alloc (.cells #[.int .i64 eq, .bool back, .slice pA place.length pC, .slice B bs.length D] 43)).cell? ⟨w.heap.size, i, none⟩ = #[Value.int .i64 eq, .bool back, .slice pA place.length pC, .slice B bs.length D][i]? := fun i => by rw [World.cell?_alloc_at _ _ _ _ (by simp)]
  exact ⟨a1 0, a1 1, a1 2, a1 3, h.next (box_low _ _), h2.next (box_low _ _)⟩
end
theorem ansR_cases {r : Option Tm3} {t : Tm3} {b : Bool} (h : ansR r = (t, b)) : (b = false ∧ r = none ∧ t = t0) ∨ (b = true ∧ r = some t) := by
  cases r with
  | none => simp only [ansR, Prod.mk.injEq] at h; exact .inl ⟨h.2.symm, rfl, h.1.symm⟩
  | some x => simp only [ansR, Prod.mk.injEq] at h; exact .inr ⟨h.2.symm, by rw [h.1]⟩
theorem pr_small {es : List Eqd} {t : Tm3} {ls : List Lk} {s v : Int} {k : Fo} {b : Bool} (h : ansR (prR es t ls) = ((s, v, k), b)) (ht : fsz t.2.2 ≤ 63) : fsz k ≤ 63 := by
  rcases ansR_cases h with ⟨_, _, h2⟩ | ⟨_, h2⟩
  · cases h2; simp [fsz]
  · unfold prR at h2
    split at h2
    · rename_i hc
      have h3 : ∀ (ls : List Lk) (t x : Tm3), fsz t.2.2 ≤ 63 → lkF es t ls = some x → fsz x.2.2 ≤ 63 := by
        intro ls
        induction ls with
        | nil => intro t x h1 h2; simp only [lkF, Option.some.injEq] at h2; subst h2; exact h1
        | cons l r ih =>
          intro t x h1 h2
          simp only [lkF] at h2
          cases h4 : lk1 es t l with
          | none => rw [h4] at h2; simp at h2
          | some y =>
            rw [h4] at h2
            have h5 := ((okW_iff _ _ _ _).1 (lk1_ok h4)).2.2
            exact ih y x (by omega) h2
      exact h3 ls t _ ht h2
    · cases h2
end Go.Proofs.Ytdkcbbhkoibplaa

/-! SC: Worlds in which some cells are known; plain lemmas. -/
namespace Go.Proofs.Ytdkcbbhkoibplaa
open Go.RowKit Go.Deep

/-- A world in which the cells of l hold what l says. -/
structure SeenD (l : List (Addr × Value)) where
  world : World
  at_ : ∀ p, p ∈ l → world.cell? p.1 = some p.2
def cl3 (p : Nat) (s v : Int) (y : Value) : List (Addr × Value) := [(⟨p, 0, none⟩, .int .i64 s), (⟨p, 1, none⟩, .int .i64 v), (⟨p, 2, none⟩, y)]
theorem cl3_at {w : World} {p : Nat} {s v : Int} {y : Value} (h0 : w.cell? ⟨p, 0, none⟩ = some (.int .i64 s)) (h1 : w.cell? ⟨p, 1, none⟩ = some (.int .i64 v)) (h2 : w.cell? ⟨p, 2, none⟩ = some y) : ∀ q, q ∈ cl3 p s v y → w.cell? q.1 = some q.2 := fun q hq => by
  simp only [cl3, List.mem_cons, List.not_mem_nil, or_false] at hq
  rcases hq with rfl | rfl | rfl
  · exact h0
  · exact h1
  · exact h2
theorem cl3_blk {p : Nat} {s v : Int} {y : Value} {n : Nat} (h : p ≠ n) : ∀ q, q ∈ cl3 p s v y → q.1.block ≠ n := fun q hq => by
  simp only [cl3, List.mem_cons, List.not_mem_nil, or_false] at hq
  rcases hq with rfl | rfl | rfl <;> assumption
def cl6 (b : Nat) (x y z : Value) (b' : Nat) (x' y' z' : Value) : List (Addr × Value) := [(⟨b, 0, none⟩, x), (⟨b, 1, none⟩, y), (⟨b, 2, none⟩, z), (⟨b', 0, none⟩, x'), (⟨b', 1, none⟩, y'), (⟨b', 2, none⟩, z')]
theorem cl6_at {w : World} {b : Nat} {x y z : Value} {b' : Nat} {x' y' z' : Value} (h0 : w.cell? ⟨b, 0, none⟩ = some x) (h1 : w.cell? ⟨b, 1, none⟩ = some y) (h2 : w.cell? ⟨b, 2, none⟩ = some z) (h3 : w.cell? ⟨b', 0, none⟩ = some x') (h4 : w.cell? ⟨b', 1, none⟩ = some y') (h5 : w.cell? ⟨b', 2, none⟩ = some z') :
    ∀ p, p ∈ cl6 b x y z b' x' y' z' → w.cell? p.1 = some p.2 := fun q hq => by
  simp only [cl6, List.mem_cons, List.not_mem_nil, or_false] at hq
  rcases hq with rfl | rfl | rfl | rfl | rfl | rfl
  · exact h0
  · exact h1
  · exact h2
  · exact h3
  · exact h4
  · exact h5
theorem cl6_blk {b : Nat} {x y z : Value} {b' : Nat} {x' y' z' : Value} {n : Nat} (h : b ≠ n) (h' : b' ≠ n) : ∀ p, p ∈ cl6 b x y z b' x' y' z' → p.1.block ≠ n := fun q hq => by
  simp only [cl6, List.mem_cons, List.not_mem_nil, or_false] at hq
  rcases hq with rfl | rfl | rfl | rfl | rfl | rfl <;> assumption
theorem seenD_drew {l : List (Addr × Value)} {w : World} (h : ∀ p, p ∈ l → w.cell? p.1 = some p.2) : ∃ u : SeenD l, w.drew = u.world := ⟨⟨w.drew, h⟩, rfl⟩
theorem storeD {w : World} {l : List (Addr × Value)} (h : ∀ p, p ∈ l → w.cell? p.1 = some p.2) {n : Nat} (hn : ∀ p, p ∈ l → p.1.block ≠ n) (x y z : Value) : ∀ p, p ∈ l → (((w.setCell ⟨n, 0, none⟩ x).setCell ⟨n, 1, none⟩ y).setCell ⟨n, 2, none⟩ z).cell? p.1 = some p.2 :=
  seen_set (seen_set (seen_set h hn _ _) hn _ _) hn _ _
end Go.Proofs.Ytdkcbbhkoibplaa
