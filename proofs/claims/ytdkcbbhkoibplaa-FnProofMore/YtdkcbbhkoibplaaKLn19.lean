/- Several texts in one: L7L. -/
import Derived.Test.YtdkcbbhkoibplaaKLn12
import Derived.Test.YtdkcbbhkoibplaaKLn16
import Derived.Test.YtdkcbbhkoibplaaKLn5
import Derived.Test.YtdkcbbhkoibplaaKLn18
import Derived.Test.YtdkcbbhkoibplaaKLn14
import Derived.Test.YtdkcbbhkoibplaaKLn17
import Derived.Test.YtdkcbbhkoibplaaKLn7

/-! L7L: l71Link: a link, drawn. -/
namespace Go.Proofs.Ytdkcbbhkoibplaa
open Go.RowKit Go.Deep

/-- A link drawn. -/
def LnkPost (br p K : Nat) (w : World) (e : Ending) (w' : World) : Prop :=
  ∃ eq back pA pC place B D bs t p', e = .returned (.tuple #[.agg #[.int .i64 eq, .bool back, .slice pA (List.length place) pC, .slice B (List.length bs) D], .bool t]) ∧ p ≤ p' ∧ p' ≤ p + K ∧ Adv w br p' w' ∧ ISc w' w.heap.size w'.heap.size pA pC place ∧ place.length ≤ 1000 ∧ BSc w' w.heap.size w'.heap.size B D bs ∧ bs.length ≤ 1000
/-- The boxes of the term and of the link that is answered. -/
structure K2b (w : World) (br p : Nat) (s v : Int) (T : Value) (u : World) : Prop where
  adv : Adv w br p u
  size : w.heap.size + 2 ≤ u.heap.size
  t0 : u.cell? ⟨w.heap.size, 0, none⟩ = some (.int .i64 s)
  t1 : u.cell? ⟨w.heap.size, 1, none⟩ = some (.int .i64 v)
  t2 : u.cell? ⟨w.heap.size, 2, none⟩ = some T
  r0 : u.cell? ⟨w.heap.size + 1, 0, none⟩ = some (.int .i64 0)
  r1 : u.cell? ⟨w.heap.size + 1, 1, none⟩ = some (.bool false)
  r2 : u.cell? ⟨w.heap.size + 1, 2, none⟩ = some (.slice none 0 0)
  r3 : u.cell? ⟨w.heap.size + 1, 3, none⟩ = some (.slice none 0 0)
  f : ∀ i, u.frozen? ⟨w.heap.size + 1, i, none⟩ = false
theorem K2b.start {w : World} {br p : Nat} {s v : Int} {T : Value} {T1 T2 : TypeId} (hr : Rd w br p) : K2b w br p s v T ((w.alloc (.cells #[.int .i64 s, .int .i64 v, T] T1)).alloc (.cells #[.int .i64 0, .bool false, .slice none 0 0, .slice none 0 0] T2)) := by
  have a0 : ∀ i, ((w.alloc (.cells #[.int .i64 s, .int .i64 v, T] T1)).alloc (.cells #[.int .i64 0, .bool false, .slice none 0 0, .slice none 0 0] T2)).cell? ⟨w.heap.size, i, none⟩ = #[Value.int .i64 s, .int .i64 v, T][i]? := fun i => by
    rw [World.cell?_alloc_lt _ _ _ (by simp), World.cell?_alloc_at _ _ _ _ (by simp)]
  have a1 : ∀ i, ((w.alloc (.cells #[.int .i64 s, .int .i64 v, T] T1)).alloc (.cells #[.int .i64 0, .bool false, .slice none 0 0, .slice none 0 0] T2)).cell? ⟨w.heap.size + 1, i, none⟩ = #[Value.int .i64 0, .bool false, .slice none 0 0, .slice none 0 0][i]? := fun i => by
    rw [World.cell?_alloc_at _ _ _ _ (by simp)]
  exact ⟨Adv.start hr (((Below.refl _ _).alloc (Nat.le_refl _) _).alloc (by simp) _), by simp, a0 0, a0 1, a0 2, a1 0, a1 1, a1 2, a1 3, fun i => by rw [World.frozen?_alloc_at _ _ _ _ (by simp)]⟩
theorem K2b.more {w : World} {br p p' : Nat} {s v : Int} {T : Value} {u u' : World} (h : K2b w br p s v T u) (hbr : br < w.heap.size) (ha : Adv u br p' u') : K2b w br p' s v T u' := by
  have hs := h.size
  have hc : ∀ {b i : Nat} {x : Value}, w.heap.size ≤ b → u.cell? ⟨b, i, none⟩ = some x → u'.cell? ⟨b, i, none⟩ = some x := fun hb hx => ha.cell hx (by dsimp only; omega)
  exact ⟨h.adv.trans ha, Nat.le_trans hs ha.size, hc (by omega) h.t0, hc (by omega) h.t1, hc (by omega) h.t2, hc (by omega) h.r0, hc (by omega) h.r1, hc (by omega) h.r2, hc (by omega) h.r3, fun i => (ha.frozen (by dsimp only; omega)).trans (h.f i)⟩
theorem K2b.low {w : World} {br p : Nat} {s v : Int} {T : Value} {u u' : World} (h : K2b w br p s v T u) (hb : Below u.heap.size u u') : K2b w br p s v T u' := by
  have hs := h.size
  exact ⟨h.adv.more hb, Nat.le_trans hs hb.size, cell_low hb h.t0, cell_low hb h.t1, cell_low hb h.t2, cell_low hb h.r0, cell_low hb h.r1, cell_low hb h.r2, cell_low hb h.r3, fun i => (hb.frozen (by dsimp only; omega)).trans (h.f i)⟩
theorem ESl.adv {w u : World} {br p : Nat} {A : Option Addr} {es : List Eqd} (h : ESl w (br + 1) w.heap.size A es) (ha : Adv w br p u) : ESl u 0 u.heap.size A es := (h.same (ha.same (Nat.le_refl _) (.inl (by omega)))).mono (Nat.zero_le _) ha.size
theorem Sl.advL {w u : World} {br p : Nat} {a : Option Addr} {k : Fo} (h : Sl w (br + 1) w.heap.size a k) (ha : Adv w br p u) : Sl u 0 u.heap.size a k := (h.same (ha.same (Nat.le_refl _) (.inl (by omega)))).mono (Nat.zero_le _) ha.size

structure LkB (lo Lb : Nat) (i : Int) (back : Bool) (u : World) : Prop where
  lt : Lb < lo
  le : lo ≤ u.heap.size
  l0 : u.cell? ⟨Lb, 0, none⟩ = some (.int .i64 i)
  l1 : u.cell? ⟨Lb, 1, none⟩ = some (.bool back)
theorem LkB.next {lo Lb : Nat} {i : Int} {back : Bool} {u u' : World} (h : LkB lo Lb i back u) (hb : Below u.heap.size u u') : LkB lo Lb i back u' := ⟨h.lt, Nat.le_trans h.le hb.size, cell_low hb h.l0, cell_low hb h.l1⟩
theorem LkB.s3 {lo Lb : Nat} {i : Int} {back : Bool} {u : World} (h : LkB lo Lb i back u) {b : Nat} (hb : lo ≤ b) (x y z : Value) : LkB lo Lb i back (s3 u b x y z) := by
  have hl := h.lt
  exact ⟨h.lt, by rw [s3_size]; exact h.le, by rw [(s3_far (q := ⟨Lb, 0, none⟩) (by dsimp only; omega)).1]; exact h.l0, by rw [(s3_far (q := ⟨Lb, 1, none⟩) (by dsimp only; omega)).1]; exact h.l1⟩
theorem arr101 {tm : Array Value} (h : tm.size = 101) : ∃ x0 x1 x2 x3 x4 x5 x6 x7 x8 x9 x10 x11 x12 x13 x14 x15 x16 x17 x18 x19 x20 x21 x22 x23 x24 x25 x26 x27 x28 x29 x30 x31 x32 x33 x34 x35 x36 x37 x38 x39 x40 x41 x42 x43 x44 x45 x46 x47 x48 x49 x50 x51 x52 x53 x54 x55 x56 x57 x58 x59 x60 x61 x62 x63 x64 x65 x66 x67 x68 x69 x70 x71 x72 x73 x74 x75 x76 x77 x78 x79 x80 x81 x82 x83 x84 x85 x86 x87 x88 x89 x90 x91 x92 x93 x94 x95 x96 x97 x98 x99 x100, tm = #[x0, x1, x2, x3, x4, x5, x6, x7, x8, x9, x10, x11, x12, x13, x14, x15, x16, x17, x18, x19, x20, x21, x22, x23, x24, x25, x26, x27, x28, x29, x30, x31, x32, x33, x34, x35, x36, x37, x38, x39, x40, x41, x42, x43, x44, x45, x46, x47, x48, x49, x50, x51, x52, x53, x54, x55, x56, x57, x58, x59, x60, x61, x62, x63, x64, x65, x66, x67, x68, x69, x70, x71, x72, x73, x74, x75, x76, x77, x78, x79, x80, x81, x82, x83, x84, x85, x86, x87, x88, x89, x90, x91, x92, x93, x94, x95, x96, x97, x98, x99, x100] :=
  ⟨_, _, _, _, _, _, _, _, _, _, _, _, _, _, _, _, _, _, _, _, _, _, _, _, _, _, _, _, _, _, _, _, _, _, _, _, _, _, _, _, _, _, _, _, _, _, _, _, _, _, _, _, _, _, _, _, _, _, _, _, _, _, _, _, _, _, _, _, _, _, _, _, _, _, _, _, _, _, _, _, _, _, _, _, _, _, _, _, _, _, _, _, _, _, _, _, _, _, _, _, _, arr_eq h⟩
theorem K2b.set {w : World} {br p : Nat} {s v : Int} {T : Value} {u : World} (h : K2b w br p s v T u) {b : Nat} (hb : w.heap.size + 2 ≤ b) (i : Nat) (x : Value) : K2b w br p s v T (u.setCell ⟨b, i, none⟩ x) := by
  have hc : ∀ {b' i' : Nat} {y : Value}, b' < w.heap.size + 2 → u.cell? ⟨b', i', none⟩ = some y → (u.setCell ⟨b, i, none⟩ x).cell? ⟨b', i', none⟩ = some y := fun hb' hy => by
    rw [World.cell?_setCell_other _ _ _ _ (by intro e; simp only [Addr.mk.injEq] at e; omega)]; exact hy
  exact ⟨h.adv.store (by dsimp only; omega) _, by simpa using h.size, hc (by omega) h.t0, hc (by omega) h.t1, hc (by omega) h.t2, hc (by omega) h.r0, hc (by omega) h.r1, hc (by omega) h.r2, hc (by omega) h.r3, fun j => by rw [World.frozen?_setCell]; exact h.f j⟩
/-- What the inner loop holds on to: the link's box, the boxes of both sides, the place. -/
structure IL (lo L Lb b8 b9 : Nat) (i : Int) (back : Bool) (P : Value) (pA : Option Addr) (pC : Nat) (place : List Int) (fs fv gs gv : Int) (F G : Value) (u : World) : Prop where
  lk : LkB lo Lb i back u
  l2 : u.cell? ⟨Lb, 2, none⟩ = some P
  l3 : u.cell? ⟨Lb, 3, none⟩ = some (.slice none 0 0)
  fr : u.frozen? ⟨Lb, 3, none⟩ = false
  h8 : lo ≤ b8
  h9 : lo ≤ b9
  f0 : u.cell? ⟨b8, 0, none⟩ = some (.int .i64 fs)
  f1 : u.cell? ⟨b8, 1, none⟩ = some (.int .i64 fv)
  f2 : u.cell? ⟨b8, 2, none⟩ = some F
  g0 : u.cell? ⟨b9, 0, none⟩ = some (.int .i64 gs)
  g1 : u.cell? ⟨b9, 1, none⟩ = some (.int .i64 gv)
  g2 : u.cell? ⟨b9, 2, none⟩ = some G
  hp : ISc u L Lb pA pC place
  l6 : L ≤ Lb
theorem IL.low {lo L Lb b8 b9 : Nat} {i : Int} {back : Bool} {P : Value} {pA : Option Addr} {pC : Nat} {place : List Int} {fs fv gs gv : Int} {F G : Value} {u u' : World} (h : IL lo L Lb b8 b9 i back P pA pC place fs fv gs gv F G u) (hb : Below u.heap.size u u') : IL lo L Lb b8 b9 i back P pA pC place fs fv gs gv F G u' := by
  have h1 := h.lk.lt
  have h2 := h.lk.le
  exact ⟨h.lk.next hb, cell_low hb h.l2, cell_low hb h.l3, (hb.frozen (by dsimp only; omega)).trans h.fr, h.h8, h.h9, cell_low hb h.f0, cell_low hb h.f1, cell_low hb h.f2, cell_low hb h.g0, cell_low hb h.g1, cell_low hb h.g2, h.hp.same (fun b hb1 hb2 => hb.block b (by omega)), h.l6⟩
theorem IL.adv {lo L Lb b8 b9 br p : Nat} {i : Int} {back : Bool} {P : Value} {pA : Option Addr} {pC : Nat} {place : List Int} {fs fv gs gv : Int} {F G : Value} {u u' : World} (h : IL lo L Lb b8 b9 i back P pA pC place fs fv gs gv F G u) (hbr : br < L) (ha : Adv u br p u') : IL lo L Lb b8 b9 i back P pA pC place fs fv gs gv F G u' := by
  have h1 := h.lk.lt
  have h2 := h.lk.le
  have h3 := h.l6
  have h8 := h.h8
  have h9 := h.h9
  have hc : ∀ {b' i' : Nat} {y : Value}, br < b' → u.cell? ⟨b', i', none⟩ = some y → u'.cell? ⟨b', i', none⟩ = some y := fun hb' hy => ha.cell hy (by dsimp only; omega)
  exact ⟨⟨h1, Nat.le_trans h2 ha.size, hc (by omega) h.lk.l0, hc (by omega) h.lk.l1⟩, hc (by omega) h.l2, hc (by omega) h.l3, (ha.frozen (by dsimp only; omega)).trans h.fr, h8, h9, hc (by omega) h.f0, hc (by omega) h.f1, hc (by omega) h.f2, hc (by omega) h.g0, hc (by omega) h.g1, hc (by omega) h.g2, h.hp.same (ha.same (by omega) (.inl (by omega))), h3⟩
theorem isc_none (w : World) (lo B : Nat) : ISc w lo B none 0 [] := ⟨.inl rfl, Nat.le_refl _⟩
theorem lnk_end {w u : World} {br p q K : Nat} {s v : Int} {T : Value} {eq : Int} {back t : Bool} {pA : Option Addr} {pC : Nat} {place : List Int} {B : Option Addr} {D : Nat} {bs : List Bd} {L H : Nat} (h : K2b w br q s v T u) (h1 : p ≤ q) (h2 : q ≤ p + K) (hp : ISc u L H pA pC place) (hpl : place.length ≤ 1000) (hb : BSc u L H B D bs) (hbl : bs.length ≤ 1000) (hL : w.heap.size + 2 ≤ L) (hH : H ≤ u.heap.size) (x y z r : Value) :
    LnkPost br p K w (.returned (.tuple #[.agg #[.int .i64 eq, .bool back, .slice pA (List.length place) pC, .slice B (List.length bs) D], .bool t])) ((((u.setCell ⟨w.heap.size + 1, 0, none⟩ x).setCell ⟨w.heap.size + 1, 1, none⟩ y).setCell ⟨w.heap.size + 1, 2, none⟩ z).setCell ⟨w.heap.size + 1, 3, none⟩ r) := by
  have hs : Same L H u ((((u.setCell ⟨w.heap.size + 1, 0, none⟩ x).setCell ⟨w.heap.size + 1, 1, none⟩ y).setCell ⟨w.heap.size + 1, 2, none⟩ z).setCell ⟨w.heap.size + 1, 3, none⟩ r) := by
    iterate 4 refine Same.setCell ?_ (.inl (by dsimp only; omega)) _
    exact fun _ _ _ => rfl
  refine ⟨eq, back, pA, pC, place, B, D, bs, t, q, rfl, h1, h2, ?_, (hp.same hs).mono (by omega) (by simpa using hH), hpl, (hb.same hs).mono (by omega) (by simpa using hH), hbl⟩
  exact (((h.adv.store (by dsimp only; omega) _).store (by dsimp only; omega) _).store (by dsimp only; omega) _).store (by dsimp only; omega) _

set_option maxRecDepth 100000 in
set_option maxHeartbeats 8000000 in
theorem l71Link_any (br p : Nat) (es : List Eqd) (A : Option Addr) (C : Nat) (s v : Int) (a : Option Addr) (c : Nat) (k : Fo) (w : World) (hr : Rd w br p) (hp : p ≤ 10000000) (he : ESl w (br + 1) w.heap.size A es) (hel : es.length ≤ 1000) (hl : Sl w (br + 1) w.heap.size a k) (hok : okW s v k 64 = true) :
    Calls Try.prog 69 #[.pointer (some ⟨br, 0, none⟩), .slice A es.length C, .agg #[.int .i64 s, .int .i64 v, .slice a (flen k) c]] w (LnkPost br p 100000 w) := by
  have hlt := hr.lt
  have HS : Hid (K2b w br p s v (.slice a (flen k) c) ((w.alloc (.cells #[.int .i64 s, .int .i64 v, .slice a (flen k) c] 35)).alloc (.cells #[.int .i64 0, .bool false, .slice none 0 0, .slice none 0 0] 43))) := K2b.start hr
  have HR := Lib.hid hr
  have HE := Lib.hid he
  have HL := Lib.hid hl
  have HOK := Lib.hid hok
  clear hr he hl hok
  go_enter Try.func69, Try.ntmps69
  go_wp2_with fail
  with_reducible refine (sEqsOk_any es A C _ (HE.out.adv HS.out.adv) (by omega)).mono ?_
  rintro e w1 ⟨rfl, hb1⟩
  have HS1 := Lib.hid (HS.out.low hb1)
  clear hb1 HS
  cases hes : okEs es with
  | false =>
    obtain ⟨r0, r1, r2, r3, f0, f1, f2, f3⟩ : _ ∧ _ ∧ _ ∧ _ ∧ _ ∧ _ ∧ _ ∧ _ := ⟨HS1.out.r0, HS1.out.r1, HS1.out.r2, HS1.out.r3, HS1.out.f 0, HS1.out.f 1, HS1.out.f 2, HS1.out.f 3⟩
    have HEND := Lib.hid (lnk_end (p := p) (K := 100000) (eq := 0) (back := false) (B := none) (D := 0) (t := false) (bs := []) (place := []) (L := w.heap.size + 2) (H := w.heap.size + 2) HS1.out (Nat.le_refl _) (by omega) (isc_none _ _ _) (by simp) ⟨.inl rfl, by simp⟩ (by simp) (Nat.le_refl _) HS1.out.size (.int .i64 0) (.bool false) (.slice none 0 0) (.slice none 0 0))
    go_wp2_with fail
    refine bodyPost_ret (v := .tuple #[.agg #[.int .i64 0, .bool false, .slice none 0 0, .slice none 0 0], .bool false]) ?_ rfl HEND.out
    simp [results, Try.results69, go_sem, r0, r1, r2, r3]
  | true =>
    have HES := Lib.hid hes
    clear hes
    have q0 := HS1.out.t0
    have q1 := HS1.out.t1
    have q2 := HS1.out.t2
    by_cases he0 : es.length = 0
    · have d0 : ((es.length : Int) == 0) = true := by simp [he0]
      obtain ⟨r0, r1, r2, r3, f0, f1, f2, f3⟩ : _ ∧ _ ∧ _ ∧ _ ∧ _ ∧ _ ∧ _ ∧ _ := ⟨HS1.out.r0, HS1.out.r1, HS1.out.r2, HS1.out.r3, HS1.out.f 0, HS1.out.f 1, HS1.out.f 2, HS1.out.f 3⟩
      have HEND := Lib.hid (lnk_end (p := p) (K := 100000) (eq := 0) (back := false) (B := none) (D := 0) (t := false) (bs := []) (place := []) (L := w.heap.size + 2) (H := w.heap.size + 2) HS1.out (Nat.le_refl _) (by omega) (isc_none _ _ _) (by simp) ⟨.inl rfl, by simp⟩ (by simp) (Nat.le_refl _) HS1.out.size (.int .i64 0) (.bool false) (.slice none 0 0) (.slice none 0 0))
      go_wp2_with fail
      refine bodyPost_ret (v := .tuple #[.agg #[.int .i64 0, .bool false, .slice none 0 0, .slice none 0 0], .bool false]) ?_ rfl HEND.out
      simp [results, Try.results69, go_sem, r0, r1, r2, r3]
    have d0 : ((es.length : Int) == 0) = false := by have h : (es.length : Int) ≠ 0 := by omega
                                                     simpa using h
    have hsz := ((okW_iff _ _ _ _).1 HOK.out).2.2
    go_wp2_with fail
    with_reducible refine (l1Places_any (fsz k) s v a c k none 0 0 [] _ (HL.out.advL HS1.out.adv) isl_nil rfl (Nat.le_refl _) (by omega) (by simp; omega)).mono ?_
    rintro e w2 ⟨A4, C4, rfl, hb2, hr4⟩
    have hr4' : RSl w2 w1.heap.size w2.heap.size A4 (places k) := by simpa using hr4
    have hs1 := HS1.out.size
    have HS2 := Lib.hid (HS1.out.low hb2)
    have HRS : Hid (RSl w2 (w.heap.size + 2) w2.heap.size A4 (places k)) := hr4'.mono hs1 (Nat.le_refl _)
    clear hb2 hr4 hr4' q0 q1 q2 HS1
    go_wp2_with fail
    go_loopw [9] (fun i wr => ∃ j q : Nat, i = .int .i64 j ∧ j ≤ 12 ∧ p ≤ q ∧ q ≤ p + j * 5000 ∧ Hid (K2b w br q s v (.slice a (flen k) c) wr) ∧ Hid (RSl wr (w.heap.size + 2) wr.heap.size A4 (places k))) (fun i _ => 12 - (intOf i).toNat)
    case atStart => exact ⟨0, p, rfl, by omega, Nat.le_refl _, by omega, HS2, HRS⟩
    case round =>
      clear HS2 HRS
      obtain ⟨j, q, rfl, hj, hq1, hq2, HS, HRS⟩ := hrel
      have hqb : q ≤ 10000000 + 12 * 5000 := by
        have : j * 5000 ≤ 12 * 5000 := Nat.mul_le_mul hj (Nat.le_refl _)
        omega
      by_cases hjl : j < 12
      · have HR0 := Lib.hid (HS.out.adv.rd HR.out)
        go_wp2_with fail
        with_reducible refine (pick_any (es.length : Int) br q _ HR0.out (by omega) (by omega) (by omega)).mono ?_
        rintro e w3 ⟨y1, rfl, hy1, hb3⟩
        have ha3 : Adv wr br (q + 1) w3 := hb3
        have HS3 := Lib.hid (HS.out.more hlt ha3)
        have HRS3 : Hid (RSl w3 (w.heap.size + 2) w3.heap.size A4 (places k)) := (HRS.out.same (ha3.same (Nat.le_refl _) (.inl (by omega)))).mono (Nat.le_refl _) ha3.size
        have hy1' : y1 < es.length := by omega
        clear hb3 ha3 HS HRS HR0
        go_wp2_with fail
        with_reducible refine (pick_any 3 br (q + 1) _ (HS3.out.adv.rd HR.out) (by omega) (by omega) (by omega)).mono ?_
        rintro e w4 ⟨y2, rfl, hy2, hb4⟩
        have ha4 : Adv w3 br (q + 1 + 1) w4 := hb4
        have HS4 := Lib.hid (HS3.out.more hlt ha4)
        have HRS4 : Hid (RSl w4 (w.heap.size + 2) w4.heap.size A4 (places k)) := (HRS3.out.same (ha4.same (Nat.le_refl _) (.inl (by omega)))).mono (Nat.le_refl _) ha4.size
        clear hb4 ha4 HS3 HRS3
        go_wp2_with fail
        with_reducible refine (pick_any (1 + fsz k) br (q + 1 + 1) _ (HS4.out.adv.rd HR.out) (by omega) (by omega) (by omega)).mono ?_
        rintro e w5 ⟨y3, rfl, hy3, hb5⟩
        have ha5 : Adv w4 br (q + 1 + 1 + 1) w5 := hb5
        have HS5 := Lib.hid (HS4.out.more hlt ha5)
        have HRS5 : Hid (RSl w5 (w.heap.size + 2) w5.heap.size A4 (places k)) := (HRS4.out.same (ha5.same (Nat.le_refl _) (.inl (by omega)))).mono (Nat.le_refl _) ha5.size
        clear hb5 ha5 HS4 HRS4
        have hz2 : y3 < (places k).length := by rw [places_len]; omega
        obtain ⟨pb, po, pA, pC, place, rfl, _, hpbB, hrz, hk0, hpi⟩ := rsl_at2 HRS5.out hz2
        have hdp := places_deep (List.mem_of_getElem? hrz)
        have g1 : (0 : Int) ≤ (y3 : Int) := by omega
        have g2 : (y3 : Int) < 1 + (fsz k : Int) := by omega
        obtain ⟨back, hback⟩ : ∃ back : Bool, ((y2 : Int) == 0) = back := ⟨_, rfl⟩
        have HPI := Lib.hid hpi
        clear hpi
        go_wp2_with fail
        have hbx6 : Below w5.heap.size w5 (w5.alloc (.cells #[.int .i64 y1, .bool back, .slice pA place.length pC, .slice none 0 0] 43)) := box_low _ _
        have HS6 := Lib.hid (HS5.out.low hbx6)
        have cx : ∀ i, (w5.alloc (.cells #[.int .i64 y1, .bool back, .slice pA place.length pC, .slice none 0 0] 43)).cell? ⟨w5.heap.size, i, none⟩ = #[Value.int .i64 y1, .bool back, .slice pA place.length pC, .slice none 0 0][i]? := fun i => by rw [World.cell?_alloc_at _ _ _ _ (by simp)]
        have HRS6 : Hid (RSl (w5.alloc (.cells #[.int .i64 y1, .bool back, .slice pA place.length pC, .slice none 0 0] 43)) (w.heap.size + 2) (w5.alloc (.cells #[.int .i64 y1, .bool back, .slice pA place.length pC, .slice none 0 0] 43)).heap.size (some ⟨pb, po, none⟩) (places k)) := (HRS5.out.same (Same.of_below hbx6)).mono (Nat.le_refl _) hbx6.size
        have HLB : Hid (LkB (w5.alloc (.cells #[.int .i64 y1, .bool back, .slice pA place.length pC, .slice none 0 0] 43)).heap.size w5.heap.size (y1 : Int) back (w5.alloc (.cells #[.int .i64 y1, .bool back, .slice pA place.length pC, .slice none 0 0] 43))) := ⟨by simp, Nat.le_refl _, cx 0, cx 1⟩
        have HC2 : Hid ((w5.alloc (.cells #[.int .i64 y1, .bool back, .slice pA place.length pC, .slice none 0 0] 43)).cell? ⟨w5.heap.size, 2, none⟩ = some (.slice pA place.length pC)) := cx 2
        have HC3 : Hid ((w5.alloc (.cells #[.int .i64 y1, .bool back, .slice pA place.length pC, .slice none 0 0] 43)).cell? ⟨w5.heap.size, 3, none⟩ = some (.slice none 0 0)) := cx 3
        have HFR : Hid ((w5.alloc (.cells #[.int .i64 y1, .bool back, .slice pA place.length pC, .slice none 0 0] 43)).frozen? ⟨w5.heap.size, 3, none⟩ = false) := World.frozen?_alloc_at _ _ _ _ (by simp)
        have HPI6 : Hid (ISc (w5.alloc (.cells #[.int .i64 y1, .bool back, .slice pA place.length pC, .slice none 0 0] 43)) (w.heap.size + 2) w5.heap.size pA pC place) := HPI.out.same (Same.of_below hbx6)
        clear HPI
        generalize hw6 : w5.alloc (.cells #[.int .i64 y1, .bool back, .slice pA place.length pC, .slice none 0 0] 43) = w6 at *
        have hs56 : w5.heap.size < w6.heap.size := by rw [← hw6]; simp
        clear hw6 cx hbx6 HS5 HRS5
        obtain ⟨x, hx⟩ : ∃ x, es[y1]? = some x := ⟨es[y1], List.getElem?_eq_getElem hy1'⟩
        have HX := Lib.hid hx
        obtain ⟨⟨es1, ev1, ek1⟩, es2, ev2, ek2⟩ := x
        obtain ⟨eb, eo, hA, hebL, hebB, a1, d1, a2, d2, e0, e1, e2, e3, e4, e5, hsl1, hsl2⟩ := HE.out.at hx
        dsimp only at e0 e1 e2 e3 e4 e5 hsl1 hsl2
        subst hA
        have HQW := Lib.hid (And.intro hsl1 hsl2)
        replace e0 := HS6.out.adv.cell e0 (by dsimp only; omega)
        replace e1 := HS6.out.adv.cell e1 (by dsimp only; omega)
        replace e2 := HS6.out.adv.cell e2 (by dsimp only; omega)
        replace e3 := HS6.out.adv.cell e3 (by dsimp only; omega)
        replace e4 := HS6.out.adv.cell e4 (by dsimp only; omega)
        replace e5 := HS6.out.adv.cell e5 (by dsimp only; omega)
        replace hsl1 := Sl.advL hsl1 HS6.out.adv
        replace hsl2 := Sl.advL hsl2 HS6.out.adv
        have HQ := Lib.hid (And.intro e0 (And.intro e1 (And.intro e2 (And.intro e3 (And.intro e4 e5)))))
        have HQS := Lib.hid (And.intro hsl1 hsl2)
        clear hx e0 e1 e2 e3 e4 e5 hsl1 hsl2
        obtain ⟨fs, fv, fk, fa, fd, gs, gv, gk, ga, gd, hsides, hsd, hfl, hgl, hflw, hglw⟩ : ∃ fs fv fk fa fd gs gv gk ga gd, sidesR ((es1, ev1, ek1), es2, ev2, ek2) back = ((fs, fv, fk), gs, gv, gk) ∧ (if back = true then (#[.agg #[.int .i64 es2, .int .i64 ev2, .slice a2 (flen ek2) d2], .agg #[.int .i64 es1, .int .i64 ev1, .slice a1 (flen ek1) d1]] : Array Value) else #[.agg #[.int .i64 es1, .int .i64 ev1, .slice a1 (flen ek1) d1], .agg #[.int .i64 es2, .int .i64 ev2, .slice a2 (flen ek2) d2]]) = #[.agg #[.int .i64 fs, .int .i64 fv, .slice fa (flen fk) fd], .agg #[.int .i64 gs, .int .i64 gv, .slice ga (flen gk) gd]] ∧ Sl w6 0 w6.heap.size fa fk ∧ Sl w6 0 w6.heap.size ga gk ∧ Sl w (br + 1) w.heap.size fa fk ∧ Sl w (br + 1) w.heap.size ga gk := by
          cases back with
          | true => exact ⟨es2, ev2, ek2, a2, d2, es1, ev1, ek1, a1, d1, rfl, rfl, HQS.out.2, HQS.out.1, HQW.out.2, HQW.out.1⟩
          | false => exact ⟨es1, ev1, ek1, a1, d1, es2, ev2, ek2, a2, d2, rfl, rfl, HQS.out.1, HQS.out.2, HQW.out.1, HQW.out.2⟩
        have HSD := Lib.hid hsd
        have HFL := Lib.hid hfl
        have HGL := Lib.hid hgl
        have hso2 := sides_ok HES.out HX.out back
        rw [hsides] at hso2
        have HSO2 := Lib.hid hso2
        have HFW := Lib.hid hflw
        have HGW := Lib.hid hglw
        clear hsd hfl hgl hso2 hsides HQS HQW hflw hglw hebL
        refine wp_region_typed (fun q x _ => match ([some (.slice (some ⟨eb, eo, none⟩) es.length C), some (.pointer (some ⟨w5.heap.size, 0, none⟩)), some (.int .i64 (y1 : Int)), some (.pointer (some ⟨eb, eo + y1 * 6, none⟩)), some (.agg #[.int .i64 es1, .int .i64 ev1, .slice a1 (flen ek1) d1, .int .i64 es2, .int .i64 ev2, .slice a2 (flen ek2) d2]), some (.pointer (some ⟨w5.heap.size, 1, none⟩)), some (.bool back), some (.tuple #[.agg #[.int .i64 fs, .int .i64 fv, .slice fa (flen fk) fd], .agg #[.int .i64 gs, .int .i64 gv, .slice ga (flen gk) gd]]), some (.tuple #[.agg #[.int .i64 fs, .int .i64 fv, .slice fa (flen fk) fd], .agg #[.int .i64 gs, .int .i64 gv, .slice ga (flen gk) gd]]), some (.agg #[.int .i64 fs, .int .i64 fv, .slice fa (flen fk) fd]), some (.agg #[.int .i64 gs, .int .i64 gv, .slice ga (flen gk) gd]), none, none, none, none] : List (Option Value)).getD q none with | some y => x = y | none => True) (fun listed act u => LkB w6.heap.size w5.heap.size (y1 : Int) back u ∧ Below w6.heap.size w6 u ∧ Bx 11 13 11 57 w6.heap.size listed act u ∧ Bx 12 14 12 58 w6.heap.size listed act u ∧ Bx2 11 12 11 12 listed act) (fun _ _ => True) (by kernel_rfl) (by kernel_rfl) (fun j x u u' h _ => h) ⟨HLB.out.next (Below.refl _ _).drew, (Below.refl _ _).drew, Bx.start, Bx.start, Bx2.start⟩ ?_ ?_
        · intro ii o hj listed act u hst hun hdep
          have hin2 : ii < 15 := (Array.getElem?_eq_some_iff.1 hj).1
          obtain ⟨hL, hlow, hx1, hx2, hx12⟩ := hst.s
          have hus := hlow.size
          have h16 : ii = 0 ∨ ii = 1 ∨ ii = 2 ∨ ii = 3 ∨ ii = 4 ∨ ii = 5 ∨ ii = 6 ∨ ii = 7 ∨ ii = 8 ∨ ii = 9 ∨ ii = 10 ∨ ii = 11 ∨ ii = 12 ∨ ii = 13 ∨ ii = 14 := by omega
          rcases h16 with rfl | rfl | rfl | rfl | rfl | rfl | rfl | rfl | rfl | rfl | rfl | rfl | rfl | rfl | rfl
          · -- ('mv', 37, None, 0)
            obtain rfl := Option.some.inj hj
            have t0 : (act.tmps[1]?).getD undef = .slice (some ⟨eb, eo, none⟩) es.length C := hst.old 1 (by kernel_rfl)
            refine wpOp_of rfl rfl (fun K hK => ?_)
            go_simp
            have hbb := Below.refl u.heap.size u
            refine hK _ _ ⟨_, rfl, ⟨hL.next hbb, hlow.trans (hbb.mono hus), hx1.keep (i := 0) (dst := some 49) (by decide) (by decide) (by decide) (.inl (by decide)) hbb, hx2.keep (i := 0) (dst := some 49) (by decide) (by decide) (by decide) (.inl (by decide)) hbb, hx12.keep (i := 0) (dst := some 49) (by decide) (by decide) (by decide) (by decide)⟩, trivial, fun d hd => rfl⟩
          · -- ('fa', 38, 5)
            obtain rfl := Option.some.inj hj
            have t5 : (act.tmps[10]?).getD undef = .pointer (some ⟨w5.heap.size, 0, none⟩) := hst.old 10 (by kernel_rfl)
            refine wpOp_of rfl rfl (fun K hK => ?_)
            go_simp
            have hbb := Below.refl u.heap.size u
            refine hK _ _ ⟨_, rfl, ⟨hL.next hbb, hlow.trans (hbb.mono hus), hx1.keep (i := 1) (dst := some 50) (by decide) (by decide) (by decide) (.inl (by decide)) hbb, hx2.keep (i := 1) (dst := some 50) (by decide) (by decide) (by decide) (.inl (by decide)) hbb, hx12.keep (i := 1) (dst := some 50) (by decide) (by decide) (by decide) (by decide)⟩, trivial, fun d hd => rfl⟩
          · -- ('ld', 39, (38, 1))
            obtain rfl := Option.some.inj hj
            have t38 : (act.tmps[50]?).getD undef = .pointer (some ⟨w5.heap.size, 0, none⟩) := hst.at hdep 1 50 (by kernel_rfl) (by kernel_rfl)
            have q0 := hL.l0
            have q1 := hL.l1
            refine wpOp_of rfl rfl (fun K hK => ?_)
            go_simp
            have hbb := Below.refl u.heap.size u
            refine hK _ _ ⟨_, rfl, ⟨hL.next hbb, hlow.trans (hbb.mono hus), hx1.keep (i := 2) (dst := some 51) (by decide) (by decide) (by decide) (.inl (by decide)) hbb, hx2.keep (i := 2) (dst := some 51) (by decide) (by decide) (by decide) (.inl (by decide)) hbb, hx12.keep (i := 2) (dst := some 51) (by decide) (by decide) (by decide) (by decide)⟩, trivial, fun d hd => rfl⟩
          · -- ('ix', 40, (37, 0), (39, 2))
            obtain rfl := Option.some.inj hj
            have t37 : (act.tmps[49]?).getD undef = .slice (some ⟨eb, eo, none⟩) es.length C := hst.at hdep 0 49 (by kernel_rfl) (by kernel_rfl)
            have t39 : (act.tmps[51]?).getD undef = .int .i64 (y1 : Int) := hst.at hdep 2 51 (by kernel_rfl) (by kernel_rfl)
            have h1 : (0 : Int) ≤ (y1 : Int) := by omega
            have h2 : (y1 : Int) < (es.length : Int) := by omega
            refine wpOp_of rfl rfl (fun K hK => ?_)
            go_simp
            have hbb := Below.refl u.heap.size u
            refine hK _ _ ⟨_, rfl, ⟨hL.next hbb, hlow.trans (hbb.mono hus), hx1.keep (i := 3) (dst := some 52) (by decide) (by decide) (by decide) (.inl (by decide)) hbb, hx2.keep (i := 3) (dst := some 52) (by decide) (by decide) (by decide) (.inl (by decide)) hbb, hx12.keep (i := 3) (dst := some 52) (by decide) (by decide) (by decide) (by decide)⟩, trivial, fun d hd => rfl⟩
          · -- ('ldE', 41, (40, 3))
            obtain rfl := Option.some.inj hj
            have t40 : (act.tmps[52]?).getD undef = .pointer (some ⟨eb, eo + y1 * 6, none⟩) := hst.at hdep 3 52 (by kernel_rfl) (by kernel_rfl)
            obtain ⟨e0, e1, e2, e3, e4, e5⟩ := HQ.out
            replace e0 := cell_low hlow e0
            replace e1 := cell_low hlow e1
            replace e2 := cell_low hlow e2
            replace e3 := cell_low hlow e3
            replace e4 := cell_low hlow e4
            replace e5 := cell_low hlow e5
            refine wpOp_of rfl rfl (fun K hK => ?_)
            go_simp
            have hbb := Below.refl u.heap.size u
            refine hK _ _ ⟨_, rfl, ⟨hL.next hbb, hlow.trans (hbb.mono hus), hx1.keep (i := 4) (dst := some 53) (by decide) (by decide) (by decide) (.inl (by decide)) hbb, hx2.keep (i := 4) (dst := some 53) (by decide) (by decide) (by decide) (.inl (by decide)) hbb, hx12.keep (i := 4) (dst := some 53) (by decide) (by decide) (by decide) (by decide)⟩, trivial, fun d hd => rfl⟩
          · -- ('fa', 42, 5)
            obtain rfl := Option.some.inj hj
            have t5 : (act.tmps[10]?).getD undef = .pointer (some ⟨w5.heap.size, 0, none⟩) := hst.old 10 (by kernel_rfl)
            refine wpOp_of rfl rfl (fun K hK => ?_)
            go_simp
            have hbb := Below.refl u.heap.size u
            refine hK _ _ ⟨_, rfl, ⟨hL.next hbb, hlow.trans (hbb.mono hus), hx1.keep (i := 5) (dst := some 54) (by decide) (by decide) (by decide) (.inl (by decide)) hbb, hx2.keep (i := 5) (dst := some 54) (by decide) (by decide) (by decide) (.inl (by decide)) hbb, hx12.keep (i := 5) (dst := some 54) (by decide) (by decide) (by decide) (by decide)⟩, trivial, fun d hd => rfl⟩
          · -- ('ld', 43, (42, 5))
            obtain rfl := Option.some.inj hj
            have t42 : (act.tmps[54]?).getD undef = .pointer (some ⟨w5.heap.size, 1, none⟩) := hst.at hdep 5 54 (by kernel_rfl) (by kernel_rfl)
            have q0 := hL.l0
            have q1 := hL.l1
            refine wpOp_of rfl rfl (fun K hK => ?_)
            go_simp
            have hbb := Below.refl u.heap.size u
            refine hK _ _ ⟨_, rfl, ⟨hL.next hbb, hlow.trans (hbb.mono hus), hx1.keep (i := 6) (dst := some 55) (by decide) (by decide) (by decide) (.inl (by decide)) hbb, hx2.keep (i := 6) (dst := some 55) (by decide) (by decide) (by decide) (.inl (by decide)) hbb, hx12.keep (i := 6) (dst := some 55) (by decide) (by decide) (by decide) (by decide)⟩, trivial, fun d hd => rfl⟩
          · -- ('call', 44, (41, 4), (43, 6))
            obtain rfl := Option.some.inj hj
            have t41 : (act.tmps[53]?).getD undef = .agg #[.int .i64 es1, .int .i64 ev1, .slice a1 (flen ek1) d1, .int .i64 es2, .int .i64 ev2, .slice a2 (flen ek2) d2] := hst.at hdep 4 53 (by kernel_rfl) (by kernel_rfl)
            have t43 : (act.tmps[55]?).getD undef = .bool back := hst.at hdep 6 55 (by kernel_rfl) (by kernel_rfl)
            refine wpOp_of rfl rfl (fun K hK => ?_)
            go_simp
            with_reducible refine (l11Sides_any es1 ev1 es2 ev2 a1 a2 (flen ek1) d1 (flen ek2) d2 back u).mono ?_
            rintro e u' ⟨he, hbb⟩
            rw [HSD.out] at he
            subst he
            refine hK _ _ ⟨_, rfl, ⟨hL.next hbb, hlow.trans (hbb.mono hus), hx1.keep (i := 7) (dst := some 56) (by decide) (by decide) (by decide) (.inl (by decide)) hbb, hx2.keep (i := 7) (dst := some 56) (by decide) (by decide) (by decide) (.inl (by decide)) hbb, hx12.keep (i := 7) (dst := some 56) (by decide) (by decide) (by decide) (by decide)⟩, trivial, fun d hd => rfl⟩
          · -- ('mvi', 36, (44, 7))
            obtain rfl := Option.some.inj hj
            have t44 : (act.tmps[56]?).getD undef = .tuple #[.agg #[.int .i64 fs, .int .i64 fv, .slice fa (flen fk) fd], .agg #[.int .i64 gs, .int .i64 gv, .slice ga (flen gk) gd]] := hst.at hdep 7 56 (by kernel_rfl) (by kernel_rfl)
            refine wpOp_of rfl rfl (fun K hK => ?_)
            go_simp
            have hbb := Below.refl u.heap.size u
            refine hK _ _ ⟨_, rfl, ⟨hL.next hbb, hlow.trans (hbb.mono hus), hx1.keep (i := 8) (dst := some 48) (by decide) (by decide) (by decide) (.inl (by decide)) hbb, hx2.keep (i := 8) (dst := some 48) (by decide) (by decide) (by decide) (.inl (by decide)) hbb, hx12.keep (i := 8) (dst := some 48) (by decide) (by decide) (by decide) (by decide)⟩, trivial, fun d hd => rfl⟩
          · -- ('ext', 45, (36, 8))
            obtain rfl := Option.some.inj hj
            have t36 : (act.tmps[48]?).getD undef = .tuple #[.agg #[.int .i64 fs, .int .i64 fv, .slice fa (flen fk) fd], .agg #[.int .i64 gs, .int .i64 gv, .slice ga (flen gk) gd]] := hst.at hdep 8 48 (by kernel_rfl) (by kernel_rfl)
            refine wpOp_of rfl rfl (fun K hK => ?_)
            go_simp
            have hbb := Below.refl u.heap.size u
            refine hK _ _ ⟨_, rfl, ⟨hL.next hbb, hlow.trans (hbb.mono hus), hx1.keep (i := 9) (dst := some 57) (by decide) (by decide) (by decide) (.inr (hst.no hun (st := 13) (by kernel_rfl))) hbb, hx2.keep (i := 9) (dst := some 57) (by decide) (by decide) (by decide) (.inl (by decide)) hbb, hx12.keep (i := 9) (dst := some 57) (by decide) (by decide) (by decide) (by decide)⟩, trivial, fun d hd => rfl⟩
          · -- ('ext', 46, (36, 8))
            obtain rfl := Option.some.inj hj
            have t36 : (act.tmps[48]?).getD undef = .tuple #[.agg #[.int .i64 fs, .int .i64 fv, .slice fa (flen fk) fd], .agg #[.int .i64 gs, .int .i64 gv, .slice ga (flen gk) gd]] := hst.at hdep 8 48 (by kernel_rfl) (by kernel_rfl)
            refine wpOp_of rfl rfl (fun K hK => ?_)
            go_simp
            have hbb := Below.refl u.heap.size u
            refine hK _ _ ⟨_, rfl, ⟨hL.next hbb, hlow.trans (hbb.mono hus), hx1.keep (i := 10) (dst := some 58) (by decide) (by decide) (by decide) (.inl (by decide)) hbb, hx2.keep (i := 10) (dst := some 58) (by decide) (by decide) (by decide) (.inr (hst.no hun (st := 14) (by kernel_rfl))) hbb, hx12.keep (i := 10) (dst := some 58) (by decide) (by decide) (by decide) (by decide)⟩, trivial, fun d hd => rfl⟩
          · -- ('al', 8)
            obtain rfl := Option.some.inj hj
            refine wpOp_of rfl rfl (fun K hK => ?_)
            go_simp
            have hbb := box_low u (.cells #[.int .i64 0, .int .i64 0, .slice none 0 0] 35)
            have hts : act.tmps.size = 101 := hst.size
            refine hK _ _ ⟨_, rfl, ⟨hL.next hbb, hlow.trans (hbb.mono hus), Bx.make (by omega) (hst.no hun (st := 13) (by kernel_rfl)) (by decide) hus, hx2.keep (i := 11) (dst := some 11) (by decide) (by decide) (by decide) (.inl (by decide)) hbb, Bx2.make1 hx2 (by decide) (by decide) (by omega)⟩, trivial, fun d hd => trivial⟩
          · -- ('al', 9)
            obtain rfl := Option.some.inj hj
            refine wpOp_of rfl rfl (fun K hK => ?_)
            go_simp
            have hbb := box_low u (.cells #[.int .i64 0, .int .i64 0, .slice none 0 0] 35)
            have hts : act.tmps.size = 101 := hst.size
            refine hK _ _ ⟨_, rfl, ⟨hL.next hbb, hlow.trans (hbb.mono hus), hx1.keep (i := 12) (dst := some 12) (by decide) (by decide) (by decide) (.inl (by decide)) hbb, Bx.make (by omega) (hst.no hun (st := 14) (by kernel_rfl)) (by decide) hus, Bx2.make2 hx1 (by decide) (by decide) (by omega)⟩, trivial, fun d hd => trivial⟩
          · -- ('st', 8, 45, 11, 9, 13)
            obtain rfl := Option.some.inj hj
            have hal : listed.getD 11 false = true := hst.dep hdep 11 (by kernel_rfl) (by decide)
            have tv : (act.tmps[57]?).getD undef = .agg #[.int .i64 fs, .int .i64 fv, .slice fa (flen fk) fd] := hst.at hdep 9 57 (by kernel_rfl) (by kernel_rfl)
            obtain ⟨b, tb, q1, q2, q3, q4, q5⟩ := hx1 hal
            obtain ⟨p0, c0⟩ := q3 0 (by omega)
            obtain ⟨p1, c1⟩ := q3 1 (by omega)
            obtain ⟨p2, c2⟩ := q3 2 (by omega)
            have f0 := q4 0
            have f1 := q4 1
            have f2 := q4 2
            refine wpOp_of rfl rfl (fun K hK => ?_)
            go_simp
            refine hK _ _ ⟨undef, rfl, ⟨hL.s3 (by omega) (.int .i64 fs) (.int .i64 fv) (.slice fa (flen fk) fd), s3_low hlow q1 _ _ _, hx1.fill hal tb tv, hx2.other (i := 13) (by decide) (by decide) (fun h1 h2 => hx12 hal h1 (tb.trans h2.symm)), hx12.keep (i := 13) (dst := none) (v := undef) (by decide) (by decide) (by decide) (by decide)⟩, trivial, fun d hd => by cases hd⟩
          · -- ('st', 9, 46, 12, 10, 14)
            obtain rfl := Option.some.inj hj
            have hal : listed.getD 12 false = true := hst.dep hdep 12 (by kernel_rfl) (by decide)
            have tv : (act.tmps[58]?).getD undef = .agg #[.int .i64 gs, .int .i64 gv, .slice ga (flen gk) gd] := hst.at hdep 10 58 (by kernel_rfl) (by kernel_rfl)
            obtain ⟨b, tb, q1, q2, q3, q4, q5⟩ := hx2 hal
            obtain ⟨p0, c0⟩ := q3 0 (by omega)
            obtain ⟨p1, c1⟩ := q3 1 (by omega)
            obtain ⟨p2, c2⟩ := q3 2 (by omega)
            have f0 := q4 0
            have f1 := q4 1
            have f2 := q4 2
            refine wpOp_of rfl rfl (fun K hK => ?_)
            go_simp
            refine hK _ _ ⟨undef, rfl, ⟨hL.s3 (by omega) (.int .i64 gs) (.int .i64 gv) (.slice ga (flen gk) gd), s3_low hlow q1 _ _ _, hx1.other (i := 14) (by decide) (by decide) (fun h1 h2 => hx12 h1 hal (h2.trans tb.symm)), hx2.fill hal tb tv, hx12.keep (i := 14) (dst := none) (v := undef) (by decide) (by decide) (by decide) (by decide)⟩, trivial, fun d hd => by cases hd⟩
        · intro listed act u hst hall
          obtain ⟨hL, hlow, hx1, hx2, hx12⟩ := hst.s
          have o0 : (act.tmps[0]?).getD undef = .pointer (some ⟨br, 0, none⟩) := hst.old 0 (by kernel_rfl)
          have o1 : (act.tmps[1]?).getD undef = .slice (some ⟨eb, eo, none⟩) es.length C := hst.old 1 (by kernel_rfl)
          have o2 : (act.tmps[2]?).getD undef = .agg #[.int .i64 s, .int .i64 v, .slice a (flen k) c] := hst.old 2 (by kernel_rfl)
          have o3 : (act.tmps[3]?).getD undef = undef := hst.old 3 (by kernel_rfl)
          have o4 : (act.tmps[4]?).getD undef = undef := hst.old 4 (by kernel_rfl)
          have o5 : (act.tmps[5]?).getD undef = .pointer (some ⟨w.heap.size, 0, none⟩) := hst.old 5 (by kernel_rfl)
          have o6 : (act.tmps[6]?).getD undef = .pointer (some ⟨w.heap.size + 1, 0, none⟩) := hst.old 6 (by kernel_rfl)
          have o8 : (act.tmps[8]?).getD undef = .slice (some ⟨pb, po, none⟩) (1 + fsz k) C4 := hst.old 8 (by kernel_rfl)
          have o9 : (act.tmps[9]?).getD undef = .int .i64 (j : Int) := hst.old 9 (by kernel_rfl)
          have o10 : (act.tmps[10]?).getD undef = .pointer (some ⟨w5.heap.size, 0, none⟩) := hst.old 10 (by kernel_rfl)
          have o18 : (act.tmps[18]?).getD undef = .slice (some ⟨eb, eo, none⟩) es.length C := hst.old 18 (by kernel_rfl)
          have o19 : (act.tmps[19]?).getD undef = .bool true := hst.old 19 (by kernel_rfl)
          have o20 : (act.tmps[20]?).getD undef = .bool false := hst.old 20 (by kernel_rfl)
          have o21 : (act.tmps[21]?).getD undef = .bool false := hst.old 21 (by kernel_rfl)
          have o22 : (act.tmps[22]?).getD undef = .slice (some ⟨eb, eo, none⟩) es.length C := hst.old 22 (by kernel_rfl)
          have o23 : (act.tmps[23]?).getD undef = .int .i64 (es.length : Int) := hst.old 23 (by kernel_rfl)
          have o24 : (act.tmps[24]?).getD undef = .bool false := hst.old 24 (by kernel_rfl)
          have o25 : (act.tmps[25]?).getD undef = .bool false := hst.old 25 (by kernel_rfl)
          have o26 : (act.tmps[26]?).getD undef = undef := hst.old 26 (by kernel_rfl)
          have o27 : (act.tmps[27]?).getD undef = .agg #[.int .i64 s, .int .i64 v, .slice a (flen k) c] := hst.old 27 (by kernel_rfl)
          have o28 : (act.tmps[28]?).getD undef = .slice (some ⟨pb, po, none⟩) (1 + fsz k) C4 := hst.old 28 (by kernel_rfl)
          have o97 : (act.tmps[97]?).getD undef = undef := hst.old 97 (by kernel_rfl)
          have o98 : (act.tmps[98]?).getD undef = undef := hst.old 98 (by kernel_rfl)
          have o99 : (act.tmps[99]?).getD undef = undef := hst.old 99 (by kernel_rfl)
          have o100 : (act.tmps[100]?).getD undef = undef := hst.old 100 (by kernel_rfl)
          obtain ⟨b8, t8, b8q1, b8q2, _, _, b8q⟩ := hx1 (hall 11 (by decide))
          obtain ⟨y0, y1, y2, y3, b8c0, b8c1, b8c2⟩ := b8q (hall 13 (by decide))
          have tv8 : (act.tmps[57]?).getD undef = .agg #[.int .i64 fs, .int .i64 fv, .slice fa (flen fk) fd] := hst.fin hall 9 57 (by kernel_rfl)
          rw [tv8] at y3
          simp only [Value.agg.injEq, Array.mk.injEq, List.cons.injEq, and_true] at y3
          obtain ⟨rfl, rfl, rfl⟩ := y3
          clear b8q tv8
          obtain ⟨b9, t9, b9q1, b9q2, _, _, b9q⟩ := hx2 (hall 12 (by decide))
          obtain ⟨y0, y1, y2, y3, b9c0, b9c1, b9c2⟩ := b9q (hall 14 (by decide))
          have tv9 : (act.tmps[58]?).getD undef = .agg #[.int .i64 gs, .int .i64 gv, .slice ga (flen gk) gd] := hst.fin hall 10 58 (by kernel_rfl)
          rw [tv9] at y3
          simp only [Value.agg.injEq, Array.mk.injEq, List.cons.injEq, and_true] at y3
          obtain ⟨rfl, rfl, rfl⟩ := y3
          clear b9q tv9
          have hdf : act.defers = [] := hst.defers
          have hts : act.tmps.size = 101 := hst.size
          clear hst hx1 hx2 hx12 hall
          obtain ⟨tm, df⟩ := act
          dsimp only at hdf hts t8 t9 o0 o1 o2 o3 o4 o5 o6 o8 o9 o10 o18 o19 o20 o21 o22 o23 o24 o25 o26 o27 o28 o97 o98 o99 o100
          subst hdf
          obtain ⟨z0, z1, z2, z3, z4, z5, z6, z7, z8, z9, z10, z11, z12, z13, z14, z15, z16, z17, z18, z19, z20, z21, z22, z23, z24, z25, z26, z27, z28, z29, z30, z31, z32, z33, z34, z35, z36, z37, z38, z39, z40, z41, z42, z43, z44, z45, z46, z47, z48, z49, z50, z51, z52, z53, z54, z55, z56, z57, z58, z59, z60, z61, z62, z63, z64, z65, z66, z67, z68, z69, z70, z71, z72, z73, z74, z75, z76, z77, z78, z79, z80, z81, z82, z83, z84, z85, z86, z87, z88, z89, z90, z91, z92, z93, z94, z95, z96, z97, z98, z99, z100, rfl⟩ := arr101 hts
          clear hts
          obtain rfl : z0 = _ := o0
          obtain rfl : z1 = _ := o1
          obtain rfl : z2 = _ := o2
          obtain rfl : z3 = _ := o3
          obtain rfl : z4 = _ := o4
          obtain rfl : z5 = _ := o5
          obtain rfl : z6 = _ := o6
          obtain rfl : z8 = _ := o8
          obtain rfl : z9 = _ := o9
          obtain rfl : z10 = _ := o10
          obtain rfl : z18 = _ := o18
          obtain rfl : z19 = _ := o19
          obtain rfl : z20 = _ := o20
          obtain rfl : z21 = _ := o21
          obtain rfl : z22 = _ := o22
          obtain rfl : z23 = _ := o23
          obtain rfl : z24 = _ := o24
          obtain rfl : z25 = _ := o25
          obtain rfl : z26 = _ := o26
          obtain rfl : z27 = _ := o27
          obtain rfl : z28 = _ := o28
          obtain rfl : z97 = _ := o97
          obtain rfl : z98 = _ := o98
          obtain rfl : z99 = _ := o99
          obtain rfl : z100 = _ := o100
          obtain rfl : z11 = _ := t8
          obtain rfl : z12 = _ := t9
          have hlo6 := hlow.size
          have HS7 := Lib.hid (HS6.out.low hlow)
          have HRS7 : Hid (RSl u (w.heap.size + 2) u.heap.size (some ⟨pb, po, none⟩) (places k)) := (HRS6.out.same (Same.of_below hlow)).mono (Nat.le_refl _) hlow.size
          have HC27 := Lib.hid (cell_low hlow HC2.out)
          have HC37 := Lib.hid (cell_low hlow HC3.out)
          have HFR7 := Lib.hid ((hlow.frozen (p := ⟨w5.heap.size, 3, none⟩) (by dsimp only; omega)).trans HFR.out)
          have HLB7 := Lib.hid hL
          have HF8 := Lib.hid (And.intro b8c0 (And.intro b8c1 b8c2))
          have HF9 := Lib.hid (And.intro b9c0 (And.intro b9c1 b9c2))
          have HFL7 := Lib.hid (Sl.next HFL.out hlow)
          have HGL7 := Lib.hid (Sl.next HGL.out hlow)
          have hs5 := HS6.out.size
          have HPI7 : Hid (ISc u (w.heap.size + 2) w5.heap.size pA pC place) := HPI6.out.same (fun b hb1 hb2 => hlow.block b (by omega))
          clear hL hlow b8c0 b8c1 b8c2 b9c0 b9c1 b9c2 HQ HS6 HRS6 HC2 HC3 HLB HFL HGL HPI6 HX
          have q0 := HS7.out.t0
          have q1 := HS7.out.t1
          have q2 := HS7.out.t2
          have q3 := HC27.out
          have HPL7 : Hid (ISl u 0 u.heap.size pA place) := HPI7.out.1.mono (Nat.zero_le _) (by omega)
          have hkk := (okW_iff _ _ _ _).1 HOK.out
          go_wp2_with fail
          with_reducible refine (l1At_any s v a c k pA pC place _ (HL.out.advL HS7.out.adv) HPL7.out (by omega) (by omega)).mono ?_
          rintro e w8 ⟨hb8, hcase⟩
          obtain ⟨hs', hv', hk', ha', hc', ht', he', hok1, hok2, hok3, hsl'⟩ : ∃ hs' hv' hk' ha' hc' ht', e = .returned (.tuple #[.agg #[.int .i64 hs', .int .i64 hv', .slice ha' (flen hk') hc'], .bool ht']) ∧ okN hs' hv' (flen hk') = true ∧ fok hk' = true ∧ fsz hk' ≤ 63 ∧ Sl w8 0 w8.heap.size ha' hk' := by
            rcases hcase with ⟨hs', hv', hk', ha', hc', hfat, rfl, hslh⟩ | ⟨_, rfl⟩
            · have hf := fat_ok place s v k hkk.1 hkk.2.1 hfat
              exact ⟨hs', hv', hk', ha', hc', true, rfl, hf.1, hf.2.1, by have := hkk.2.2; omega, hslh.next hb8⟩
            · exact ⟨0, 0, .nil, none, 0, false, rfl, by decide, rfl, by simp [fsz], .inl rfl⟩
          subst he'
          have HS8 := Lib.hid (HS7.out.low hb8)
          have HRS8 : Hid (RSl w8 (w.heap.size + 2) w8.heap.size (some ⟨pb, po, none⟩) (places k)) := (HRS7.out.same (Same.of_below hb8)).mono (Nat.le_refl _) hb8.size
          have HC28 := Lib.hid (cell_low hb8 HC27.out)
          have HC38 := Lib.hid (cell_low hb8 HC37.out)
          have HFR8 := Lib.hid ((hb8.frozen (p := ⟨w5.heap.size, 3, none⟩) (by dsimp only; omega)).trans HFR7.out)
          have HLB8 := Lib.hid (HLB7.out.next hb8)
          have HPI8 : Hid (ISc w8 (w.heap.size + 2) w5.heap.size pA pC place) := HPI7.out.same (fun b hb1 hb2 => hb8.block b (by omega))
          have h80 := cell_low hb8 HF8.out.1
          have h81 := cell_low hb8 HF8.out.2.1
          have h82 := cell_low hb8 HF8.out.2.2
          have h90 := cell_low hb8 HF9.out.1
          have h91 := cell_low hb8 HF9.out.2.1
          have h92 := cell_low hb8 HF9.out.2.2
          have HFL8 := Lib.hid (Sl.next HFL7.out hb8)
          have HGL8 := Lib.hid (Sl.next HGL7.out hb8)
          have HSLH := Lib.hid hsl'
          have hs8 := hb8.size
          clear hcase hb8 hsl' HS7 HRS7 HC27 HC37 HLB7 HF8 HF9 HFL7 HGL7 HPI7 q0 q1 q2 q3
          obtain ⟨V9, hV9⟩ : ∃ V, (w8.alloc (.cells #[.int .i64 hs', .int .i64 hv', .slice ha' (flen hk') hc'] 35)).alloc (.cells #[] 131) = V := ⟨_, rfl⟩
          have hlow9 : Below w8.heap.size w8 V9 := by rw [← hV9]; exact ((Below.refl _ _).alloc (Nat.le_refl _) _).alloc (by simp) _
          have hv : ∀ i, V9.cell? ⟨w8.heap.size, i, none⟩ = #[Value.int .i64 hs', .int .i64 hv', .slice ha' (flen hk') hc'][i]? := fun i => by rw [← hV9, World.cell?_alloc_lt _ _ _ (by simp), World.cell?_alloc_at _ _ _ _ (by simp)]
          have hv0 : V9.cell? ⟨w8.heap.size, 0, none⟩ = some (.int .i64 hs') := hv 0
          have hv1 : V9.cell? ⟨w8.heap.size, 1, none⟩ = some (.int .i64 hv') := hv 1
          have hv2 : V9.cell? ⟨w8.heap.size, 2, none⟩ = some (.slice ha' (flen hk') hc') := hv 2
          replace h80 := cell_low hlow9 h80
          replace h81 := cell_low hlow9 h81
          replace h82 := cell_low hlow9 h82
          have HN9 := Lib.hid (And.intro (cell_low hlow9 h90) (And.intro (cell_low hlow9 h91) (cell_low hlow9 h92)))
          have HF98 := Lib.hid (And.intro h80 (And.intro h81 h82))
          have HGZ : Hid (fsz gk ≤ 1000) := by have h := ((okW_iff _ _ _ _).1 HSO2.out.2).2.2; show fsz gk ≤ 1000; dsimp only at h; omega
          have HLOW9 := Lib.hid hlow9
          have HFL9 := Lib.hid (HFL8.out.next hlow9)
          have HSLH9 := Lib.hid (Sl.next HSLH.out hlow9)
          have hso2 := HSO2.out
          have hfo : okW fs fv fk 16 = true := hso2.1
          have hfw := (okW_iff _ _ _ _).1 hfo
          have hs9 := hlow9.size
          have HNIL : ∀ X, BSc V9 V9.heap.size V9.heap.size X 0 [] := fun _ => ⟨.inl rfl, Nat.le_refl _⟩
          clear hv h90 h91 h92 hlow9
          go_wp2_with fail
          have hcm := l2Match_lo V9.heap.size (fsz fk) [] (some ⟨w8.heap.size + 1, 0, none⟩) 0 fs fv fa fd fk hs' hv' ha' hc' hk' V9 (HNIL _) (Nat.le_refl _) (Bof.nil _) HFL9.out HSLH9.out hfw.1 hfw.2.1 hok1 hok2 (by omega) (Nat.le_refl _) (by have := hfw.2.2; omega) (by have := hfw.2.2; simp; omega)
          dsimp only [List.length_nil] at hcm
          with_reducible refine hcm.mono ?_
          rintro e w10 ⟨A10, C10, b10, t10, rfl, hb10, hbs10, hm10⟩
          have hb810 : Below w8.heap.size w8 w10 := HLOW9.out.trans (hb10.mono hs9)
          have HK := Lib.hid (HS8.out.low hb810)
          have HRS := HRS8.out
          have HIL : Hid (IL w6.heap.size (w.heap.size + 2) w5.heap.size b8 b9 (y1 : Int) back (.slice pA place.length pC) pA pC place fs fv gs gv (.slice fa (flen fk) fd) (.slice ga (flen gk) gd) w10) :=
            ⟨HLB8.out.next hb810, cell_low hb810 HC28.out, cell_low hb810 HC38.out, (hb810.frozen (p := ⟨w5.heap.size, 3, none⟩) (by dsimp only; omega)).trans HFR8.out, b8q1, b9q1, cell_low hb10 HF98.out.1, cell_low hb10 HF98.out.2.1, cell_low hb10 HF98.out.2.2, cell_low hb10 HN9.out.1, cell_low hb10 HN9.out.2.1, cell_low hb10 HN9.out.2.2, HPI8.out.same (fun b hb1 hb2 => hb810.block b (by omega)), by omega⟩
          have HRS10 : Hid (RSl w10 (w.heap.size + 2) w10.heap.size (some ⟨pb, po, none⟩) (places k)) := (HRS8.out.same (Same.of_below hb810)).mono (Nat.le_refl _) hb810.size
          have hs10 := hb10.size
          have hlo6 : w6.heap.size ≤ V9.heap.size := by omega
          have HBS : Hid (BSc w10 w6.heap.size w10.heap.size A10 C10 b10) := hbs10.mono hlo6 (Nat.le_refl _)
          have HM10 := Lib.hid hm10
          clear hb810 hb10 hbs10 hm10 HRS HS8 HRS8 HC28 HC38 HFR8 HLB8 HPI8 HF98 HN9 HLOW9 HFL9 HSLH9 HGL8 HFL8 HSLH HNIL
          cases t10 with
          | false =>
            clear HIL HBS HM10
            have hq3 : (j + 1) * 5000 = j * 5000 + 5000 := by omega
            go_wp2_with fail
            go_roundw
            case rel => exact ⟨j + 1, q + 1 + 1 + 1, by go_num, by omega, by omega, by omega, HK, HRS10⟩
            case measure => simp [intOf]; omega
          | true =>
            have hbl10 : b10.length ≤ 17 := by
              rcases HM10.out with ⟨_, h⟩ | ⟨h, _⟩
              · have h1 := tmt_blen h
                have h2 := hfw.2.2
                simp only [List.length_nil] at h1
                omega
              · cases h
            have hp1 : pkN 1 = 9 := rfl
            have hz1 : szN 1 = 3 := rfl
            clear HM10 HRS10
            go_wp2_with fail
            go_loopw [15, 17] (fun t i wr => ∃ (x : Nat) (bs : List Bd) (A : Option Addr) (C q' : Nat), t = .slice A bs.length C ∧ i = .int .i64 x ∧ x ≤ 12 ∧ bs.length ≤ 17 + x ∧ q + 3 ≤ q' ∧ q' ≤ q + 3 + x * 9 ∧ Hid (K2b w br q' s v (.slice a (flen k) c) wr) ∧ Hid (IL w6.heap.size (w.heap.size + 2) w5.heap.size b8 b9 (y1 : Int) back (.slice pA place.length pC) pA pC place fs fv gs gv (.slice fa (flen fk) fd) (.slice ga (flen gk) gd) wr) ∧ Hid (BSc wr w6.heap.size wr.heap.size A C bs)) (fun _ i _ => 12 - (intOf i).toNat)
            case atStart => exact ⟨0, b10, A10, C10, q + 3, rfl, rfl, by omega, by omega, Nat.le_refl _, by omega, HK, HIL, HBS⟩
            case round =>
              clear HK HIL HBS
              obtain ⟨x, bs, A, C, q', rfl, rfl, hx12, hbl, hqa, hqb', HK, HIL, HBS⟩ := hrel
              obtain ⟨wz, rfl⟩ : ∃ z, z = wr := ⟨_, rfl⟩
              have hbrL : br < w.heap.size + 2 := by omega
              by_cases hxl : x < 12
              · have hx9 : (x + 1) * 9 = x * 9 + 9 := by omega
                have gx : (x : Int) < 12 := by omega
                obtain ⟨f0, f1, f2, m0, m1, m2⟩ : _ ∧ _ ∧ _ ∧ _ ∧ _ ∧ _ := ⟨HIL.out.f0, HIL.out.f1, HIL.out.f2, HIL.out.g0, HIL.out.g1, HIL.out.g2⟩
                by_cases hto : (x : Int) ∈ fvs gs gv gk
                · go_wp2_with fail
                  with_reducible refine (l1Has_any (fsz gk) gs gv ga gd gk (x : Int) _ (Sl.advL HGW.out HK.out.adv) (Nat.le_refl _) (by have := HGZ.out; omega)).mono ?_
                  rintro e w11 ⟨he, hb11⟩
                  rw [decide_eq_true hto] at he
                  subst he
                  have HK1 := Lib.hid (HK.out.low hb11)
                  have HIL1 := Lib.hid (HIL.out.low hb11)
                  have HBS1 := Lib.hid (HBS.out.lo hb11)
                  clear hb11 HK HIL HBS f0 f1 f2 m0 m1 m2
                  obtain ⟨f0, f1, f2⟩ : _ ∧ _ ∧ _ := ⟨HIL1.out.f0, HIL1.out.f1, HIL1.out.f2⟩
                  by_cases hfr : (x : Int) ∈ fvs fs fv fk
                  · go_wp2_with fail
                    with_reducible refine (l1Has_any (fsz fk) fs fv fa fd fk (x : Int) _ (Sl.advL HFW.out HK1.out.adv) (Nat.le_refl _) (by omega)).mono ?_
                    rintro e w12 ⟨he, hb12⟩
                    rw [decide_eq_true hfr] at he
                    subst he
                    have HK2 := Lib.hid (HK1.out.low hb12)
                    have HIL2 := Lib.hid (HIL1.out.low hb12)
                    have HBS2 := Lib.hid (HBS1.out.lo hb12)
                    clear hb12 HK1 HIL1 HBS1 f0 f1 f2
                    go_wp2_with fail
                    go_roundw
                    case rel => exact ⟨x + 1, bs, A, C, q', rfl, by go_num, by omega, by omega, hqa, by omega, HK2, HIL2, HBS2⟩
                    case measure => simp [intOf]; omega
                  · go_wp2_with fail
                    with_reducible refine (l1Has_any (fsz fk) fs fv fa fd fk (x : Int) _ (Sl.advL HFW.out HK1.out.adv) (Nat.le_refl _) (by omega)).mono ?_
                    rintro e w12 ⟨he, hb12⟩
                    rw [decide_eq_false hfr] at he
                    subst he
                    have HK2 := Lib.hid (HK1.out.low hb12)
                    have HIL2 := Lib.hid (HIL1.out.low hb12)
                    have HBS2 := Lib.hid (HBS1.out.lo hb12)
                    clear hb12 HK1 HIL1 HBS1 f0 f1 f2
                    go_wp2_with fail
                    with_reducible refine (l71Term_ok 1 2 3 br q' _ (by omega) (by omega) (by omega) (by omega) (by omega) (HK2.out.adv.rd HR.out) (by omega)).mono ?_
                    rintro e w13 ⟨ts, tv, ta, tc, tk, q2, rfl, htok, hqc, hqd, htz, ha13, htl⟩
                    have hlow12 : w6.heap.size ≤ w12.heap.size := HIL2.out.lk.le
                    have HK3 := Lib.hid (HK2.out.more hlt ha13)
                    have HIL3 := Lib.hid (HIL2.out.adv hbrL ha13)
                    have HBS3 : Hid (BSc w13 w6.heap.size w13.heap.size A C bs) := (HBS2.out.same (ha13.same (Nat.le_refl _) (.inl (by have := HIL2.out.l6; omega)))).mono (Nat.le_refl _) ha13.size
                    have HTL : Hid (Sl w13 w6.heap.size w13.heap.size ta tk) := htl.mono hlow12 (Nat.le_refl _)
                    clear ha13 htl HK2 HIL2 HBS2
                    go_wp2_with fail
                    have hba := HBS3.out.1
                    with_reducible refine (l2Add_lo w6.heap.size bs A C (x : Int) ts tv ta tc tk _ hba (by omega) HTL.out).mono ?_
                    rintro e w14 ⟨A14, C14, rfl, hrow⟩
                    have hla := ladd_len bs ((x : Int), ts, tv, tk)
                    have HK4 := Lib.hid (HK3.out.low hrow.low)
                    have HIL4 := Lib.hid (HIL3.out.low hrow.low)
                    have HBS4 := Lib.hid (hrow.bsc HIL3.out.lk.le)
                    clear hrow HK3 HIL3 HBS3 HTL hba
                    go_wp2_with fail
                    go_roundw
                    case rel => exact ⟨x + 1, ladd bs ((x : Int), ts, tv, tk), A14, C14, q2, by rw [hla], by go_num, by omega, by omega, by omega, by omega, HK4, HIL4, HBS4⟩
                    case measure => simp [intOf]; omega
                · go_wp2_with fail
                  with_reducible refine (l1Has_any (fsz gk) gs gv ga gd gk (x : Int) _ (Sl.advL HGW.out HK.out.adv) (Nat.le_refl _) (by have := HGZ.out; omega)).mono ?_
                  rintro e w11 ⟨he, hb11⟩
                  rw [decide_eq_false hto] at he
                  subst he
                  have HK1 := Lib.hid (HK.out.low hb11)
                  have HIL1 := Lib.hid (HIL.out.low hb11)
                  have HBS1 := Lib.hid (HBS.out.lo hb11)
                  clear hb11 HK HIL HBS f0 f1 f2 m0 m1 m2
                  go_wp2_with fail
                  go_roundw
                  case rel => exact ⟨x + 1, bs, A, C, q', rfl, by go_num, by omega, by omega, hqa, by omega, HK1, HIL1, HBS1⟩
                  case measure => simp [intOf]; omega
              · have hx9 : x * 9 ≤ 12 * 9 := Nat.mul_le_mul hx12 (Nat.le_refl _)
                have gx : decide ((x : Int) < 12) = false := by simp; omega
                have hl6 := HIL.out.l6
                have hlk := HIL.out.lk
                have hlt5 := hlk.lt
                have hle6 := hlk.le
                obtain ⟨l0, l1, l2, l3, fr⟩ : _ ∧ _ ∧ _ ∧ _ ∧ _ := ⟨HIL.out.lk.l0, HIL.out.lk.l1, HIL.out.l2, HIL.out.l3, HIL.out.fr⟩
                obtain ⟨k0, k1, k2, k3⟩ : (wz.setCell ⟨w5.heap.size, 3, none⟩ (.slice A bs.length C)).cell? ⟨w5.heap.size, 0, none⟩ = some (.int .i64 y1) ∧ (wz.setCell ⟨w5.heap.size, 3, none⟩ (.slice A bs.length C)).cell? ⟨w5.heap.size, 1, none⟩ = some (.bool back) ∧ (wz.setCell ⟨w5.heap.size, 3, none⟩ (.slice A bs.length C)).cell? ⟨w5.heap.size, 2, none⟩ = some (.slice pA place.length pC) ∧ (wz.setCell ⟨w5.heap.size, 3, none⟩ (.slice A bs.length C)).cell? ⟨w5.heap.size, 3, none⟩ = some (.slice A bs.length C) :=
                  ⟨by rw [World.cell?_setCell_other _ _ _ _ (by simp)]; exact l0, by rw [World.cell?_setCell_other _ _ _ _ (by simp)]; exact l1, by rw [World.cell?_setCell_other _ _ _ _ (by simp)]; exact l2, World.cell?_setCell_same _ _ _ l3⟩
                have HKS : Hid (K2b w br q' s v (.slice a (flen k) c) (wz.setCell ⟨w5.heap.size, 3, none⟩ (.slice A bs.length C))) := HK.out.set (by omega) _ _
                have HPS : Hid (ISc (wz.setCell ⟨w5.heap.size, 3, none⟩ (.slice A bs.length C)) (w.heap.size + 2) wz.heap.size pA pC place) := (HIL.out.hp.same (Same.setCell (fun _ _ _ => rfl) (.inr (Nat.le_refl _)) _)).mono (Nat.le_refl _) (by dsimp only; omega)
                have HBSS : Hid (BSc (wz.setCell ⟨w5.heap.size, 3, none⟩ (.slice A bs.length C)) (w.heap.size + 2) wz.heap.size A C bs) := (HBS.out.same (Same.setCell (fun _ _ _ => rfl) (.inl (by dsimp only; omega)) _)).mono (by omega) (Nat.le_refl _)
                clear HK HIL HBS l0 l1 l2 hlk
                obtain ⟨r0, r1, r2, r3, f0, f1, f2, f3⟩ : _ ∧ _ ∧ _ ∧ _ ∧ _ ∧ _ ∧ _ ∧ _ := ⟨HKS.out.r0, HKS.out.r1, HKS.out.r2, HKS.out.r3, HKS.out.f 0, HKS.out.f 1, HKS.out.f 2, HKS.out.f 3⟩
                have hj12 : j * 5000 ≤ 11 * 5000 := Nat.mul_le_mul (by omega) (Nat.le_refl _)
                have HEND := Lib.hid (lnk_end (p := p) (K := 100000) (eq := (y1 : Int)) (back := back) (B := A) (D := C) (t := true) (bs := bs) (place := place) (pA := pA) (pC := pC) (L := w.heap.size + 2) (H := wz.heap.size) HKS.out (by omega) (by omega) HPS.out (by omega) HBSS.out (by omega) (Nat.le_refl _) (by simp) (.int .i64 y1) (.bool back) (.slice pA place.length pC) (.slice A bs.length C))
                clear HPS HBSS
                go_wp2_with fail
                refine bodyPost_ret (v := .tuple #[.agg #[.int .i64 y1, .bool back, .slice pA place.length pC, .slice A bs.length C], .bool true]) ?_ rfl HEND.out
                simp [results, Try.results69, go_sem, r0, r1, r2, r3]
      · have gj : decide ((j : Int) < 12) = false := by simp; omega
        have HR0 := Lib.hid (HS.out.adv.rd HR.out)
        go_wp2_with fail
        with_reducible refine (pick_any 3 br q _ HR0.out (by omega) (by omega) (by omega)).mono ?_
        rintro e w3 ⟨y1, rfl, hy1, hb3⟩
        have ha3 : Adv wr br (q + 1) w3 := hb3
        have HS3 := Lib.hid (HS.out.more hlt ha3)
        have hs3 := HS3.out.size
        obtain ⟨r0, r1, r2, r3, f0, f1, f2, f3⟩ : _ ∧ _ ∧ _ ∧ _ ∧ _ ∧ _ ∧ _ ∧ _ := ⟨HS3.out.r0, HS3.out.r1, HS3.out.r2, HS3.out.r3, HS3.out.f 0, HS3.out.f 1, HS3.out.f 2, HS3.out.f 3⟩
        have hj12 : j * 5000 ≤ 12 * 5000 := Nat.mul_le_mul hj (Nat.le_refl _)
        have HEND := Lib.hid (lnk_end (p := p) (K := 100000) (eq := (y1 : Int) - 1) (back := false) (B := none) (D := 0) (t := false) (bs := []) (place := []) (L := w.heap.size + 2) (H := w.heap.size + 2) HS3.out (by omega) (by omega) (isc_none _ _ _) (by simp) ⟨.inl rfl, by simp⟩ (by simp) (Nat.le_refl _) hs3 (.int .i64 ((y1 : Int) - 1)) (.bool false) (.slice none 0 0) (.slice none 0 0))
        clear hb3 ha3 HS HRS HR0
        go_wp2_with fail
        refine bodyPost_ret (v := .tuple #[.agg #[.int .i64 ((y1 : Int) - 1), .bool false, .slice none 0 0, .slice none 0 0], .bool false]) ?_ rfl HEND.out
        simp [results, Try.results69, go_sem, r0, r1, r2, r3]

end Go.Proofs.Ytdkcbbhkoibplaa
