/- Several texts in one: PE0, LL, LP1. -/
import Derived.Test.YtdkcbbhkoibplaaKLk30
import Derived.Test.YtdkcbbhkoibplaaKLk33
import Derived.Test.YtdkcbbhkoibplaaKLk16
import Derived.Test.YtdkcbbhkoibplaaKLk10
import Derived.Test.YtdkcbbhkoibplaaKLk9

/-! PE0: ProofEnd of the program where it fails at once. -/
namespace Go.Proofs.Ytdkcbbhkoibplaa
open Go.RowKit Go.Deep Go.Shelf

/-- What stays where all cells stay. -/
theorem OwR.keepS {w w' : World} (hk : ∀ (q : Addr) (v : Value), w.cell? q = some v → w'.cell? q = some v ∧ w'.frozen? q = w.frozen? q) : ∀ {k : Fo} {b o : Nat} {P : Nat → Prop}, OwR w k b o P → OwR w' k b o P
  | .nil, _, _, _, _ => trivial
  | .node _ _ p k r, b, o, P, ⟨⟨c0, c1⟩, ⟨f0, f1, f2⟩, a, c, P1, P2, g1, g2, g3, g4, g5, g6⟩ => by
    have k0 := hk _ _ c0
    have k1 := hk _ _ c1
    have k2 := hk _ _ g4
    refine ⟨⟨k0.1, k1.1⟩, ⟨k0.2.trans f0, k1.2.trans f1, k2.2.trans f2⟩, a, c, P1, P2, g1, g2, g3, k2.1, ?_, OwR.keepS hk g6⟩
    rcases g5 with g5 | ⟨b', P3, e, h1, h2, h3, h4⟩
    · exact .inl g5
    · exact .inr ⟨b', P3, e, h1, h2, h3, OwR.keepS hk h4⟩
theorem prR_bad {es : List Eqd} {t : Tm3} {ls : List Lk} (h : okEs es = false ∨ okT3 64 t = false ∨ 40 < ls.length) : prR es t ls = none := by
  unfold prR
  refine if_neg fun h' => ?_
  rcases h with h | h | h
  · rw [h] at h'; cases h'.1
  · rw [h] at h'; cases h'.2.1
  · omega
theorem prR_good {es : List Eqd} {t : Tm3} {ls : List Lk} (h1 : okEs es = true) (h2 : okT3 64 t = true) (h3 : ls.length ≤ 40) : prR es t ls = lkF es t ls := by
  unfold prR
  exact if_pos ⟨h1, h2, h3⟩

/-- The boxes of the term and of both results. -/
structure PeS (w : World) (s v : Int) (T : Value) (u : World) : Prop where
  low : Below w.heap.size w u
  size : w.heap.size + 3 ≤ u.heap.size
  t0 : u.cell? ⟨w.heap.size, 0, none⟩ = some (.int .i64 s)
  t1 : u.cell? ⟨w.heap.size, 1, none⟩ = some (.int .i64 v)
  t2 : u.cell? ⟨w.heap.size, 2, none⟩ = some T
  r0 : u.cell? ⟨w.heap.size + 1, 0, none⟩ = some (.int .i64 0)
  r1 : u.cell? ⟨w.heap.size + 1, 1, none⟩ = some (.int .i64 0)
  r2 : u.cell? ⟨w.heap.size + 1, 2, none⟩ = some (.slice none 0 0)
  b0 : u.cell? ⟨w.heap.size + 1 + 1, 0, none⟩ = some (.bool false)
  f : ∀ i, u.frozen? ⟨w.heap.size + 1, i, none⟩ = false
  g : ∀ i, u.frozen? ⟨w.heap.size + 1 + 1, i, none⟩ = false
theorem PeS.start {w : World} {s v : Int} {T : Value} {T1 T2 T3 : TypeId} : PeS w s v T (((w.alloc (.cells #[.int .i64 s, .int .i64 v, T] T1)).alloc (.cells #[.int .i64 0, .int .i64 0, .slice none 0 0] T2)).alloc (.cells #[.bool false] T3)) := by
  have a0 : ∀ i, (((w.alloc (.cells #[.int .i64 s, .int .i64 v, T] T1)).alloc (.cells #[.int .i64 0, .int .i64 0, .slice none 0 0] T2)).alloc (.cells #[.bool false] T3)).cell? ⟨w.heap.size, i, none⟩ = #[Value.int .i64 s, .int .i64 v, T][i]? := fun i => by
    rw [World.cell?_alloc_lt _ _ _ (by simp; omega), World.cell?_alloc_lt _ _ _ (by simp), World.cell?_alloc_at _ _ _ _ (by simp)]
  have a1 : ∀ i, (((w.alloc (.cells #[.int .i64 s, .int .i64 v, T] T1)).alloc (.cells #[.int .i64 0, .int .i64 0, .slice none 0 0] T2)).alloc (.cells #[.bool false] T3)).cell? ⟨w.heap.size + 1, i, none⟩ = #[Value.int .i64 0, .int .i64 0, .slice none 0 0][i]? := fun i => by
    rw [World.cell?_alloc_lt _ _ _ (by simp), World.cell?_alloc_at _ _ _ _ (by simp)]
  have a2 : ∀ i, (((w.alloc (.cells #[.int .i64 s, .int .i64 v, T] T1)).alloc (.cells #[.int .i64 0, .int .i64 0, .slice none 0 0] T2)).alloc (.cells #[.bool false] T3)).cell? ⟨w.heap.size + 1 + 1, i, none⟩ = #[Value.bool false][i]? := fun i => by
    rw [World.cell?_alloc_at _ _ _ _ (by simp)]
  exact ⟨(((Below.refl _ _).alloc (Nat.le_refl _) _).alloc (by simp) _).alloc (by simp; omega) _, by simp, a0 0, a0 1, a0 2, a1 0, a1 1, a1 2, a2 0, fun i => by rw [((Below.refl _ _).alloc (Nat.le_refl _) _).frozen (by simp), World.frozen?_alloc_at _ _ _ _ (by simp)], fun i => by rw [World.frozen?_alloc_at _ _ _ _ (by simp)]⟩
theorem PeS.next {w : World} {s v : Int} {T : Value} {u u' : World} (h : PeS w s v T u) (hb : Below u.heap.size u u') : PeS w s v T u' :=
  ⟨h.low.trans (hb.mono (by have := h.size; omega)), Nat.le_trans h.size hb.size, cell_low hb h.t0, cell_low hb h.t1, cell_low hb h.t2, cell_low hb h.r0, cell_low hb h.r1, cell_low hb h.r2, cell_low hb h.b0, fun i => (hb.frozen (by have := h.size; simp; omega)).trans (h.f i), fun i => (hb.frozen (by have := h.size; simp; omega)).trans (h.g i)⟩
theorem pe_end {w w1 : World} {r : Option Tm3} {s v : Int} {k : Fo} {t : Bool} {a : Option Addr} {c : Nat} (hr : ansR r = ((s, v, k), t)) (hb : Below w.heap.size w w1) (hl : Sl w1 (w.heap.size + 3) w1.heap.size a k) (p q o z : Value) :
    LkPost r w (.returned (.tuple #[.agg #[.int .i64 s, .int .i64 v, .slice a (flen k) c], .bool t])) ((((w1.setCell ⟨w.heap.size + 1, 0, none⟩ p).setCell ⟨w.heap.size + 1, 1, none⟩ q).setCell ⟨w.heap.size + 1, 2, none⟩ o).setCell ⟨w.heap.size + 1 + 1, 0, none⟩ z) := by
  refine ⟨a, c, s, v, k, t, hr, rfl, (((hb.setCell (by simp) _).setCell (by simp) _).setCell (by simp) _).setCell (by simp; omega) _, ?_⟩
  have hs : Same (w.heap.size + 3) w1.heap.size w1 ((((w1.setCell ⟨w.heap.size + 1, 0, none⟩ p).setCell ⟨w.heap.size + 1, 1, none⟩ q).setCell ⟨w.heap.size + 1, 2, none⟩ o).setCell ⟨w.heap.size + 1 + 1, 0, none⟩ z) :=
    ((((Same.setCell (fun _ _ _ => rfl) (.inl (by simp)) _).setCell (.inl (by simp)) _).setCell (.inl (by simp)) _).setCell (.inl (by simp)) _)
  exact (hl.same hs).mono (by omega) (by simp)

set_option maxRecDepth 100000 in
set_option maxHeartbeats 2000000 in
theorem proofEnd_bad (es : List Eqd) (A : Option Addr) (C : Nat) (s v : Int) (a : Option Addr) (c : Nat) (k : Fo) (A2 : Option Addr) (C2 : Nat) (ls : List Lk) (w : World)
    (hbad : okEs es = false ∨ okT3 64 (s, v, k) = false ∨ 40 < ls.length)
    (hq : ESl w 0 w.heap.size A es) (hel : es.length ≤ 9223372036854775807) (hl : Sl w 0 w.heap.size a k) (hll : ls.length ≤ 9223372036854775807) :
    Calls Try.prog 36 #[.slice A es.length C, .agg #[.int .i64 s, .int .i64 v, .slice a (flen k) c], .slice A2 ls.length C2] w (LkPost (prR es (s, v, k) ls) w) := by
  rw [prR_bad hbad]
  have hb0 : PeS w s v (.slice a (flen k) c) (((w.alloc (.cells #[.int .i64 s, .int .i64 v, .slice a (flen k) c] 35)).alloc (.cells #[.int .i64 0, .int .i64 0, .slice none 0 0] 35)).alloc (.cells #[.bool false] 4)) := PeS.start
  have HS := Lib.hid hb0
  have HQ := Lib.hid (hq.next hb0.low)
  have HL := Lib.hid (Sl.next hl hb0.low)
  have HBAD := Lib.hid hbad
  clear hb0 hq hl hbad
  go_enter Try.func36, Try.ntmps36
  go_wp2_with fail
  with_reducible refine (equationsOf_any es A C _ HQ.out hel).mono ?_
  rintro e w1 ⟨hb1, hcase⟩
  have HS1 := Lib.hid (HS.out.next hb1)
  have HL1 := Lib.hid (Sl.next HL.out hb1)
  clear hb1 HS HL HQ
  obtain ⟨A', n', C', rfl, hbe⟩ : ∃ A' n' C', e = .returned (.tuple #[.slice A' n' C', .bool (okEs es)]) ∧ True := by
    rcases hcase with ⟨h, A', C', rfl, _⟩ | ⟨h, rfl⟩ <;> rw [h] <;> exact ⟨_, _, _, rfl, trivial⟩
  clear hcase hbe
  have hbx : Below w1.heap.size w1 (w1.alloc (.cells #[.slice A' n' C'] 112)) := box_low _ _
  have HS2 := Lib.hid (HS1.out.next hbx)
  have HL2 := Lib.hid (Sl.next HL1.out hbx)
  have c0 := HS2.out.t0
  have c1 := HS2.out.t1
  have c2 := HS2.out.t2
  clear HS1 HL1 hbx
  go_wp2_with fail
  with_reducible refine (nodeOf_any s v a c k 64 _ HL2.out (by omega) (by omega)).mono ?_
  rintro e w3 ⟨nv, rfl, hb3, _⟩
  have HS3 := Lib.hid (HS2.out.next hb3)
  have HOK : Hid (okT3 64 (s, v, k) = okW s v k 64) := rfl
  rw [HOK.out] at HBAD
  have r0 := HS3.out.r0
  have r1 := HS3.out.r1
  have r2 := HS3.out.r2
  have b0 := HS3.out.b0
  have f0 := HS3.out.f 0
  have f1 := HS3.out.f 1
  have f2 := HS3.out.f 2
  have g0 := HS3.out.g 0
  have hsz := HS3.out.size
  clear c0 c1 c2 hb3 HS2 HL2
  have HEND := Lib.hid (pe_end (r := none) (s := 0) (v := 0) (k := .nil) (t := false) (a := none) (c := 0) rfl HS3.out.low (.inl rfl) (.int .i64 0) (.int .i64 0) (.slice none 0 0) (.bool false))
  have hor : (okEs es = true ∧ okW s v k 64 = true) → decide (40 < (ls.length : Int)) = true := fun h => by
    have := HBAD.out
    rw [h.1, h.2] at this
    simp at this
    simp
    omega
  cases h1 : okEs es with
  | false =>
    clear hor
    go_wp2_with fail
    refine bodyPost_ret (v := .tuple #[.agg #[.int .i64 0, .int .i64 0, .slice none 0 0], .bool false]) ?_ rfl HEND.out
    simp [results, Try.results36, go_sem, r0, r1, r2, b0]
  | true =>
    cases h2 : okW s v k 64 with
    | false =>
      clear hor
      go_wp2_with fail
      refine bodyPost_ret (v := .tuple #[.agg #[.int .i64 0, .int .i64 0, .slice none 0 0], .bool false]) ?_ rfl HEND.out
      simp [results, Try.results36, go_sem, r0, r1, r2, b0]
    | true =>
      have h3 := hor ⟨h1, h2⟩
      have h3' : decide ((ls.length : Int) > 40) = true := h3
      clear hor
      go_wp2_with fail
      refine bodyPost_ret (v := .tuple #[.agg #[.int .i64 0, .int .i64 0, .slice none 0 0], .bool false]) ?_ rfl HEND.out
      simp [results, Try.results36, go_sem, r0, r1, r2, b0]
end Go.Proofs.Ytdkcbbhkoibplaa

/-! LL: What the walks of the laws of links hold on to; plain lemmas of links. -/
namespace Go.Proofs.Ytdkcbbhkoibplaa
open Go.RowKit Go.Deep

/-- Block b is a box that holds a link. -/
structure Lb (b : Nat) (eq : Int) (back : Bool) (pA : Option Addr) (pC : Nat) (place : List Int) (B : Option Addr) (D : Nat) (bs : List Bd) (w : World) : Prop where
  c0 : w.cell? ⟨b, 0, none⟩ = some (.int .i64 eq)
  c1 : w.cell? ⟨b, 1, none⟩ = some (.bool back)
  c2 : w.cell? ⟨b, 2, none⟩ = some (.slice pA place.length pC)
  c3 : w.cell? ⟨b, 3, none⟩ = some (.slice B bs.length D)
  hp : ISc w 0 w.heap.size pA pC place
  hb : BSl w 0 w.heap.size B bs
section
variable {b : Nat} {eq : Int} {back : Bool} {pA : Option Addr} {pC : Nat} {place : List Int} {B : Option Addr} {D : Nat} {bs : List Bd} {w w2 : World}
theorem Lb.next (h : Lb b eq back pA pC place B D bs w) (hb : Below w.heap.size w w2) : Lb b eq back pA pC place B D bs w2 :=
  ⟨cell_low hb h.c0, cell_low hb h.c1, cell_low hb h.c2, cell_low hb h.c3, h.hp.next hb, h.hb.next hb⟩
theorem Lb.new (h : ISc w 0 w.heap.size pA pC place) (h2 : BSl w 0 w.heap.size B bs) : Lb w.heap.size eq back pA pC place B D bs (w.alloc (.cells #[.int .i64 eq, .bool back, .slice pA place.length pC, .slice B bs.length D] 43)) := by
  have a1 : ∀ i, (w.alloc (.cells #[.int .i64 eq, .bool back, .slice pA place.length pC, .slice B bs.length D] 43)).cell? ⟨w.heap.size, i, none⟩ = #[Value.int .i64 eq, .bool back, .slice pA place.length pC, .slice B bs.length D][i]? := fun i => by rw [World.cell?_alloc_at _ _ _ _ (by simp)]
  exact ⟨a1 0, a1 1, a1 2, a1 3, h.next (box_low _ _), h2.next (box_low _ _)⟩
/-- A row of one link. -/
theorem Lb.row (h : Lb b eq back pA pC place B D bs w) (hlt : b < w.heap.size) : LSl w 0 w.heap.size (some ⟨b, 0, none⟩) [(eq, back, place, bs)] := by
  refine .inr ⟨b, 0, rfl, Nat.zero_le _, hlt, fun i x hx => ?_⟩
  cases i with
  | zero =>
    simp only [List.getElem?_cons_zero, Option.some.injEq] at hx
    subst hx
    exact ⟨pA, pC, B, D, h.c0, h.c1, h.c2, h.c3, h.hp, h.hb⟩
  | succ i => simp at hx
end
theorem ansR_cases {r : Option Tm3} {t : Tm3} {b : Bool} (h : ansR r = (t, b)) : (b = false ∧ r = none ∧ t = t0) ∨ (b = true ∧ r = some t) := by
  cases r with
  | none => simp only [ansR, Prod.mk.injEq] at h; exact .inl ⟨h.2.symm, rfl, h.1.symm⟩
  | some x => simp only [ansR, Prod.mk.injEq] at h; exact .inr ⟨h.2.symm, by rw [h.1]⟩
/-- What an answer is in size. -/
theorem lk_small {es : List Eqd} {t : Tm3} {l : Lk} {s v : Int} {k : Fo} {b : Bool} (h : ansR (lkR es t l) = ((s, v, k), b)) : fsz k ≤ 63 := by
  rcases ansR_cases h with ⟨_, _, h2⟩ | ⟨_, h2⟩
  · cases h2; simp [fsz]
  · unfold lkR at h2
    split at h2
    · have h3 := ((okW_iff _ _ _ _).1 (lk1_ok h2)).2.2
      dsimp only at h3
      omega
    · cases h2
theorem pr_small {es : List Eqd} {t : Tm3} {ls : List Lk} {s v : Int} {k : Fo} {b : Bool} (h : ansR (prR es t ls) = ((s, v, k), b)) (ht : fsz t.2.2 ≤ 63) : fsz k ≤ 63 := by
  rcases ansR_cases h with ⟨_, _, h2⟩ | ⟨_, h2⟩
  · cases h2; simp [fsz]
  · unfold prR at h2
    split at h2
    · rename_i hc
      have h3 : ∀ (ls : List Lk) (t x : Tm3), fsz t.2.2 ≤ 63 → lkF es t ls = some x → fsz x.2.2 ≤ 63 := by
        intro ls
        induction ls with
        | nil => intro t x h1 h2; simp only [lkF, Option.some.injEq] at h2; subst h2; exact h1
        | cons l r ih =>
          intro t x h1 h2
          simp only [lkF] at h2
          cases h4 : lk1 es t l with
          | none => rw [h4] at h2; simp at h2
          | some y =>
            rw [h4] at h2
            have h5 := ((okW_iff _ _ _ _).1 (lk1_ok h4)).2.2
            exact ih y x (by omega) h2
      exact h3 ls t _ ht h2
    · cases h2
end Go.Proofs.Ytdkcbbhkoibplaa

/-! LP1: A link taken back; a link elsewhere. Plain lemmas. -/
namespace Go.Proofs.Ytdkcbbhkoibplaa
open Go.RowKit Go.Deep

theorem ans_true {r : Option Tm3} {t : Tm3} (h : ansR r = (t, true)) : r = some t := by
  rcases ansR_cases h with ⟨h, _⟩ | ⟨_, h⟩
  · cases h
  · exact h
theorem fok_fer : ∀ k : Fo, fok (fer k) = fok k
  | .nil => rfl
  | .node _ _ p k r => by simp only [fer, fok, fok_fer k, fok_fer r, fer_len]
/-- The same term but for marks. -/
def Eq3 (a b : Tm3) : Prop := a.1 = b.1 ∧ a.2.1 = b.2.1 ∧ fer a.2.2 = fer b.2.2
theorem eq3_iff {a b : Tm3} : teq a.1 a.2.1 a.2.2 b.1 b.2.1 b.2.2 = true ↔ Eq3 a b := teq_iff
theorem Eq3.refl (a : Tm3) : Eq3 a a := ⟨rfl, rfl, rfl⟩
theorem Eq3.symm {a b : Tm3} (h : Eq3 a b) : Eq3 b a := ⟨h.1.symm, h.2.1.symm, h.2.2.symm⟩
theorem Eq3.trans {a b c : Tm3} (h : Eq3 a b) (h' : Eq3 b c) : Eq3 a c := ⟨h.1.trans h'.1, h.2.1.trans h'.2.1, h.2.2.trans h'.2.2⟩
theorem Eq3.ok {a b : Tm3} {n : Int} (h : Eq3 a b) : okT3 n a = okT3 n b := by
  obtain ⟨s, v, k⟩ := a
  obtain ⟨s', v', k'⟩ := b
  obtain ⟨h1, h2, h3⟩ := h
  dsimp only at h1 h2 h3
  subst h1
  subst h2
  have hl : flen k = flen k' := by rw [← fer_len k, h3, fer_len]
  have hz : fsz k = fsz k' := by rw [← fer_sz k, h3, fer_sz]
  have hk : fok k = fok k' := by rw [← fok_fer k, h3, fok_fer]
  rw [Bool.eq_iff_iff]
  unfold okT3
  dsimp only
  rw [okW_iff, okW_iff, hl, hz, hk]
theorem fset_fer : ∀ (k : Fo) (n : Nat) (x y : Tm3), Eq3 x y → fer (fset k n x) = fer (fset k n y)
  | .nil, _, _, _, _ => rfl
  | .node _ _ _ _ _, 0, x, y, h => by
    obtain ⟨h1, h2, h3⟩ := h
    simp only [fset, fer, h1, h2, h3]
  | .node _ _ _ _ r, n + 1, x, y, h => by simp only [fset, fer, fset_fer r n x y h]
theorem fput_eq3 : ∀ (pl : List Int) (s v : Int) (k : Fo) (x y : Tm3) {a b : Tm3}, Eq3 x y → fput s v k pl x = some a → fput s v k pl y = some b → Eq3 a b
  | [], _, _, _, x, y, a, b, h, h1, h2 => by
    simp only [fput, Option.some.injEq] at h1 h2
    subst h1
    subst h2
    exact h
  | i :: ps, s, v, k, x, y, a, b, h, h1, h2 => by
    unfold fput at h1 h2
    split at h1
    · rename_i hi
      rw [if_pos hi] at h2
      cases hd : fdrop i.toNat k with
      | nil => rw [hd] at h1; cases h1
      | node b1 o1 p kk r =>
        obtain ⟨s', v'⟩ := p
        rw [hd] at h1 h2
        simp only [Option.map_eq_some_iff] at h1 h2
        obtain ⟨a', ha, rfl⟩ := h1
        obtain ⟨b', hb, rfl⟩ := h2
        exact ⟨rfl, rfl, fset_fer _ _ _ _ (fput_eq3 ps s' v' kk x y h ha hb)⟩
    · cases h1
theorem lkAt_parts {t x : Tm3} {pl : List Int} {f g : Tm3} (h : lkAt t pl f g = some x) : ∃ hh, fat t.1 t.2.1 t.2.2 pl = some hh ∧ Eq3 hh f ∧ fput t.1 t.2.1 t.2.2 pl g = some x ∧ okT3 64 x = true := by
  unfold lkAt at h
  split at h
  · cases h
  · rename_i hh hf
    split at h
    · rename_i he
      split at h
      · cases h
      · rename_i out ho
        split at h
        · rename_i hk
          simp only [Option.some.injEq] at h
          subst h
          exact ⟨hh, hf, eq3_iff.1 he, ho, hk⟩
        · cases h
    · cases h
theorem lkAt_mk {t x hh : Tm3} {pl : List Int} {f g : Tm3} (h1 : fat t.1 t.2.1 t.2.2 pl = some hh) (h2 : Eq3 hh f) (h3 : fput t.1 t.2.1 t.2.2 pl g = some x) (h4 : okT3 64 x = true) : lkAt t pl f g = some x := by
  unfold lkAt
  rw [h1]
  dsimp only
  rw [if_pos (eq3_iff.2 h2), h3]
  dsimp only
  rw [if_pos h4]
theorem lkAt_back {t x : Tm3} {pl : List Int} {f g : Tm3} (h : lkAt t pl f g = some x) (ht : okT3 64 t = true) : ∃ y, lkAt x pl g f = some y ∧ Eq3 y t := by
  obtain ⟨hh, h1, h2, h3, h4⟩ := lkAt_parts h
  obtain ⟨x1, x2, x3⟩ := x
  have h5 := fput_at _ _ _ _ _ h3
  have h6 := fput_twice _ _ _ _ _ f h3
  have h7 := fput_there pl t.1 t.2.1 t.2.2 f
  rw [h1] at h7
  obtain ⟨y, hy⟩ := Option.isSome_iff_exists.1 (h7.trans rfl)
  have h8 := fput_same _ _ _ _ h1
  have h9 : Eq3 y t := fput_eq3 _ _ _ _ _ _ h2.symm hy h8
  exact ⟨y, lkAt_mk h5 (Eq3.refl _) (h6.trans hy) (by rw [h9.ok]; exact ht), h9⟩
theorem sidesR_not (e : Eqd) (b : Bool) : sidesR e (!b) = ((sidesR e b).2, (sidesR e b).1) := by cases b <;> rfl
theorem lk1_parts {es : List Eqd} {t x : Tm3} {eq : Int} {back : Bool} {pl : List Int} {bs : List Bd} (h : lk1 es t (eq, back, pl, bs) = some x) : ∃ i e, eq = (i : Nat) ∧ es[i]? = some e ∧ sok 64 bs = true ∧ lkAt t pl (put3 (sv bs) (sidesR e back).1) (put3 (sv bs) (sidesR e back).2) = some x := by
  unfold lk1 at h
  dsimp only at h
  split at h
  · rename_i hc
    obtain ⟨e, he, h⟩ := Option.bind_eq_some_iff.1 h
    exact ⟨eq.toNat, e, by omega, he, hc.1, h⟩
  · cases h
theorem lk1_back {es : List Eqd} {t x : Tm3} {eq : Int} {back : Bool} {pl : List Int} {bs : List Bd} (h : lk1 es t (eq, back, pl, bs) = some x) (ht : okT3 64 t = true) : ∃ y, lk1 es x (eq, !back, pl, bs) = some y ∧ Eq3 y t := by
  obtain ⟨i, e, rfl, he, hs, hl⟩ := lk1_parts h
  obtain ⟨y, hy, h3⟩ := lkAt_back hl ht
  refine ⟨y, ?_, h3⟩
  rw [lk1_at he hs, sidesR_not]
  exact hy
theorem lkR_parts {es : List Eqd} {t x : Tm3} {l : Lk} (h : lkR es t l = some x) : okEs es = true ∧ okT3 64 t = true ∧ lk1 es t l = some x := by
  unfold lkR at h
  split at h
  · rename_i hc; exact ⟨hc.1, hc.2, h⟩
  · cases h
theorem lkR_back {es : List Eqd} {t x : Tm3} {eq : Int} {back : Bool} {pl : List Int} {bs : List Bd} (h : lkR es t (eq, back, pl, bs) = some x) : ∃ y, lkR es x (eq, !back, pl, bs) = some y ∧ Eq3 y t := by
  obtain ⟨h1, h2, h3⟩ := lkR_parts h
  obtain ⟨y, hy, he⟩ := lk1_back h3 h2
  exact ⟨y, by rw [lkR_eq h1 (lk1_ok h3)]; exact hy, he⟩
/-- A link's box made out of another, turned about. -/
theorem Lb.made {w : World} {eq : Int} {back : Bool} {pA : Option Addr} {pC : Nat} {place : List Int} {B : Option Addr} {D : Nat} {bs : List Bd} (hp : ISc w 0 w.heap.size pA pC place) (hb : BSl w 0 w.heap.size B bs) (x : Bool) :
    Lb w.heap.size eq x pA pC place B D bs ((w.alloc (.cells #[.int .i64 eq, .bool back, .slice pA place.length pC, .slice B bs.length D] 43)).setCell ⟨w.heap.size, 1, none⟩ (.bool x)) := by
  have hl : Below w.heap.size w ((w.alloc (.cells #[.int .i64 eq, .bool back, .slice pA place.length pC, .slice B bs.length D] 43)).setCell ⟨w.heap.size, 1, none⟩ (.bool x)) := (box_low _ _).setCell (Nat.le_refl _) _
  have a1 : ∀ i, (w.alloc (.cells #[.int .i64 eq, .bool back, .slice pA place.length pC, .slice B bs.length D] 43)).cell? ⟨w.heap.size, i, none⟩ = #[Value.int .i64 eq, .bool back, .slice pA place.length pC, .slice B bs.length D][i]? := fun i => by rw [World.cell?_alloc_at _ _ _ _ (by simp)]
  exact ⟨by rw [World.cell?_setCell_other _ _ _ _ (by simp)]; exact a1 0, World.cell?_setCell_same _ _ _ (a1 1), by rw [World.cell?_setCell_other _ _ _ _ (by simp)]; exact a1 2, by rw [World.cell?_setCell_other _ _ _ _ (by simp)]; exact a1 3, hp.next hl, hb.next hl⟩
end Go.Proofs.Ytdkcbbhkoibplaa
