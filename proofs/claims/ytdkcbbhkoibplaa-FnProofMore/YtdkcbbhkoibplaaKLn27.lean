/- Several texts in one: PS3, FrameO, Frame. -/
import Derived.Test.YtdkcbbhkoibplaaKLn16
import Derived.Test.YtdkcbbhkoibplaaKLn26
import Derived.Test.YtdkcbbhkoibplaaRows
import Derived.WalkKit
import Derived.ProofKit
import Derived.OpenShut
import Derived.ShutString
import Derived.ChangeOld
import Derived.Below
import Derived.Test.YtdkcbbhkoibplaaKLn2

/-! PS3: The specification's ProofEnd. -/
namespace Go.Proofs.Ytdkcbbhkoibplaa
open Go.RowKit Go.Deep

/-- A value that holds a term's kids, that operation ot answers into temporary src; a box that operation al makes into temporary tmp is no block of it. -/
def TrV (V : Option Addr → Nat → Value) (al tmp ot src lo : Nat) (k : Fo) (listed : Array Bool) (a : Act) (u : World) : Prop :=
  listed.getD ot false = true → ∃ x c L H, (a.tmps[src]?).getD undef = V x c ∧ Sl u L H x k ∧ lo ≤ L ∧ H ≤ u.heap.size ∧ (listed.getD al false = true → ∃ b, (a.tmps[tmp]?).getD undef = .pointer (some ⟨b, 0, none⟩) ∧ (b < L ∨ H ≤ b))
theorem TrV.start {V : Option Addr → Nat → Value} {al tmp ot src lo n : Nat} {k : Fo} {a : Act} {u : World} : TrV V al tmp ot src lo k (Array.replicate n false) a u := fun h => by
  simp [Array.getD_eq_getD_getElem?, Array.getElem?_replicate] at h
  split at h <;> simp at h
theorem TrV.keep {V : Option Addr → Nat → Value} {al tmp ot src lo i : Nat} {k : Fo} {listed : Array Bool} {a : Act} {u u' : World} (h : TrV V al tmp ot src lo k listed a u) (h1 : i ≠ al) (h2 : i ≠ ot) {dst : Option Nat} {v : Value} (ht : dst ≠ some tmp) (hs : dst ≠ some src) (hb : Below u.heap.size u u') :
    TrV V al tmp ot src lo k (listed.setIfInBounds i true) (a.put dst v) u' := fun hl => by
  obtain ⟨x, c, L, H, e, q1, q2, q3, q4⟩ := h (set_was h2 hl)
  have hget : ∀ t, dst ≠ some t → ((a.put dst v).tmps[t]?).getD undef = (a.tmps[t]?).getD undef := fun t hd => by
    cases dst with
    | none => rfl
    | some d => exact put_at v (fun e => hd (by rw [e]))
  refine ⟨x, c, L, H, (hget _ hs).trans e, q1.same (fun b _ hb2 => hb.block b (by omega)), q2, Nat.le_trans q3 hb.size, fun hal => ?_⟩
  obtain ⟨b, e2, q5⟩ := q4 (set_was h1 hal)
  exact ⟨b, (hget _ ht).trans e2, q5⟩
theorem TrV.make {V : Option Addr → Nat → Value} {al st tmp bsrc ot src lo : Nat} {k : Fo} {listed : Array Bool} {a : Act} {u u' : World} {x : Option Addr} {c : Nat} (hx : Bx al st tmp bsrc lo listed a u) (h1 : ot ≠ al) (hts : src ≠ tmp) (hlt : src < a.tmps.size) (hlo : lo ≤ u.heap.size) (hsl : Sl u' u.heap.size u'.heap.size x k) :
    TrV V al tmp ot src lo k (listed.setIfInBounds ot true) (a.put (some src) (V x c)) u' := fun _ => by
  refine ⟨x, c, u.heap.size, u'.heap.size, put_self _ hlt, hsl, hlo, Nat.le_refl _, fun hal => ?_⟩
  obtain ⟨b, e, _, q2, _⟩ := hx (set_was h1 hal)
  exact ⟨b, (put_at _ hts).trans e, .inl q2⟩
theorem TrV.pass {V : Option Addr → Nat → Value} {al tmp ot src lo : Nat} {k : Fo} {listed : Array Bool} {a : Act} {u u' : World} {x : Option Addr} {c L H : Nat} (q1 : Sl u L H x k) (q2 : lo ≤ L) (q3 : H ≤ u.heap.size) (q4 : listed.getD al false = true → ∃ b, (a.tmps[tmp]?).getD undef = .pointer (some ⟨b, 0, none⟩) ∧ (b < L ∨ H ≤ b)) (h1 : ot ≠ al) (hts : src ≠ tmp) (hlt : src < a.tmps.size) (hb : Below u.heap.size u u') :
    TrV V al tmp ot src lo k (listed.setIfInBounds ot true) (a.put (some src) (V x c)) u' := fun _ => by
  refine ⟨x, c, L, H, put_self _ hlt, q1.same (fun b _ hb2 => hb.block b (by omega)), q2, Nat.le_trans q3 hb.size, fun hal => ?_⟩
  obtain ⟨b, e, q5⟩ := q4 (set_was h1 hal)
  exact ⟨b, (put_at _ hts).trans e, q5⟩
theorem TrV.box {V : Option Addr → Nat → Value} {al tmp ot src lo : Nat} {k : Fo} {listed : Array Bool} {a : Act} {u : World} {o : Obj} (h : TrV V al tmp ot src lo k listed a u) (h1 : al ≠ ot) (hts : tmp ≠ src) (hlt : tmp < a.tmps.size) :
    TrV V al tmp ot src lo k (listed.setIfInBounds al true) (a.put (some tmp) (.pointer (some ⟨u.heap.size, 0, none⟩))) (u.alloc o) := fun hl => by
  obtain ⟨x, c, L, H, e, q1, q2, q3, q4⟩ := h (set_was h1 hl)
  exact ⟨x, c, L, H, (put_at _ hts).trans e, q1.same (fun b _ hb2 => Below.heap_alloc _ _ _ (by omega)), q2, by simp; omega, fun _ => ⟨_, put_self _ hlt, .inr q3⟩⟩
theorem TrV.fill {V : Option Addr → Nat → Value} {al tmp ot src lo i b : Nat} {k : Fo} {listed : Array Bool} {a : Act} {u : World} {x y z : Value} (h : TrV V al tmp ot src lo k listed a u) (h2 : i ≠ ot) (hal : listed.getD al false = true) (he : (a.tmps[tmp]?).getD undef = .pointer (some ⟨b, 0, none⟩)) :
    TrV V al tmp ot src lo k (listed.setIfInBounds i true) (a.put none undef) (s3 u b x y z) := fun hl => by
  obtain ⟨x', c, L, H, e, q1, q2, q3, q4⟩ := h (set_was h2 hl)
  obtain ⟨b', e2, q5⟩ := q4 hal
  rw [he] at e2
  simp only [Value.pointer.injEq, Option.some.injEq, Addr.mk.injEq, and_true] at e2
  subst e2
  refine ⟨x', c, L, H, e, ?_, q2, by rw [s3_size]; exact q3, fun _ => ⟨b, he, q5⟩⟩
  have h0 : Same L H u u := fun _ _ _ => rfl
  unfold s3
  exact q1.same (((h0.setCell q5 _).setCell q5 _).setCell q5 _)

/-- The boxes of the term and of the result. -/
structure P2b (w : World) (s v : Int) (T : Value) (u : World) : Prop where
  low : Below w.heap.size w u
  size : w.heap.size + 2 ≤ u.heap.size
  t0 : u.cell? ⟨w.heap.size, 0, none⟩ = some (.int .i64 s)
  t1 : u.cell? ⟨w.heap.size, 1, none⟩ = some (.int .i64 v)
  t2 : u.cell? ⟨w.heap.size, 2, none⟩ = some T
  r0 : u.cell? ⟨w.heap.size + 1, 0, none⟩ = some (.int .i64 0)
  r1 : u.cell? ⟨w.heap.size + 1, 1, none⟩ = some (.int .i64 0)
  r2 : u.cell? ⟨w.heap.size + 1, 2, none⟩ = some (.slice none 0 0)
  f : ∀ i, u.frozen? ⟨w.heap.size + 1, i, none⟩ = false
theorem P2b.start {w : World} {s v : Int} {T : Value} {T1 T2 : TypeId} : P2b w s v T ((w.alloc (.cells #[.int .i64 s, .int .i64 v, T] T1)).alloc (.cells #[.int .i64 0, .int .i64 0, .slice none 0 0] T2)) := by
  have a0 : ∀ i, ((w.alloc (.cells #[.int .i64 s, .int .i64 v, T] T1)).alloc (.cells #[.int .i64 0, .int .i64 0, .slice none 0 0] T2)).cell? ⟨w.heap.size, i, none⟩ = #[Value.int .i64 s, .int .i64 v, T][i]? := fun i => by
    rw [World.cell?_alloc_lt _ _ _ (by simp), World.cell?_alloc_at _ _ _ _ (by simp)]
  have a1 : ∀ i, ((w.alloc (.cells #[.int .i64 s, .int .i64 v, T] T1)).alloc (.cells #[.int .i64 0, .int .i64 0, .slice none 0 0] T2)).cell? ⟨w.heap.size + 1, i, none⟩ = #[Value.int .i64 0, .int .i64 0, .slice none 0 0][i]? := fun i => by
    rw [World.cell?_alloc_at _ _ _ _ (by simp)]
  exact ⟨((Below.refl _ _).alloc (Nat.le_refl _) _).alloc (by simp) _, by simp, a0 0, a0 1, a0 2, a1 0, a1 1, a1 2, fun i => by rw [World.frozen?_alloc_at _ _ _ _ (by simp)]⟩
theorem P2b.next {w : World} {s v : Int} {T : Value} {u u' : World} (h : P2b w s v T u) (hb : Below u.heap.size u u') : P2b w s v T u' :=
  ⟨h.low.trans (hb.mono (by have := h.size; omega)), Nat.le_trans h.size hb.size, cell_low hb h.t0, cell_low hb h.t1, cell_low hb h.t2, cell_low hb h.r0, cell_low hb h.r1, cell_low hb h.r2, fun i => (hb.frozen (by have := h.size; simp; omega)).trans (h.f i)⟩
theorem P2b.s3 {w : World} {s v : Int} {T : Value} {u : World} (h : P2b w s v T u) {b : Nat} (hb : w.heap.size + 2 ≤ b) (x y z : Value) : P2b w s v T (s3 u b x y z) := by
  have hf : ∀ {q i : Nat}, q < w.heap.size + 2 → (Go.Proofs.Ytdkcbbhkoibplaa.s3 u b x y z).cell? ⟨q, i, none⟩ = u.cell? ⟨q, i, none⟩ := fun hq => (s3_far (q := ⟨_, _, none⟩) (by dsimp only; omega)).1
  exact ⟨s3_low h.low (by omega) _ _ _, by rw [s3_size]; exact h.size, by rw [hf (by omega)]; exact h.t0, by rw [hf (by omega)]; exact h.t1, by rw [hf (by omega)]; exact h.t2, by rw [hf (by omega)]; exact h.r0, by rw [hf (by omega)]; exact h.r1, by rw [hf (by omega)]; exact h.r2, fun i => by rw [s3_fr]; exact h.f i⟩
theorem p2_end {w w1 : World} {r : Option Tm3} {s v : Int} {k : Fo} {t : Bool} {a : Option Addr} {c L H : Nat} (hr : ansR r = ((s, v, k), t)) (hb : Below w.heap.size w w1) (hl : Sl w1 L H a k) (hL : w.heap.size + 2 ≤ L) (hH : H ≤ w1.heap.size) (p q o : Value) :
    LkPost r w (.returned (.tuple #[.agg #[.int .i64 s, .int .i64 v, .slice a (flen k) c], .bool t])) (((w1.setCell ⟨w.heap.size + 1, 0, none⟩ p).setCell ⟨w.heap.size + 1, 1, none⟩ q).setCell ⟨w.heap.size + 1, 2, none⟩ o) := by
  refine ⟨a, c, s, v, k, t, hr, rfl, ((hb.setCell (by simp) _).setCell (by simp) _).setCell (by simp) _, ?_⟩
  have hs : Same L H w1 (((w1.setCell ⟨w.heap.size + 1, 0, none⟩ p).setCell ⟨w.heap.size + 1, 1, none⟩ q).setCell ⟨w.heap.size + 1, 2, none⟩ o) :=
    (((Same.setCell (fun _ _ _ => rfl) (.inl (by dsimp only; omega)) _).setCell (.inl (by dsimp only; omega)) _).setCell (.inl (by dsimp only; omega)) _)
  exact (hl.same hs).mono (by omega) (by simp; omega)
theorem LSl.at {w : World} {lo B : Nat} {a : Option Addr} {ls : List Lk} (h : LSl w lo B a ls) {i : Nat} {x : Lk} (hx : ls[i]? = some x) :
    ∃ b o, a = some ⟨b, o, none⟩ ∧ ∃ pA pC sA sC, w.cell? ⟨b, o + i * 4, none⟩ = some (.int .i64 x.1) ∧ w.cell? ⟨b, o + i * 4 + 1, none⟩ = some (.bool x.2.1) ∧ w.cell? ⟨b, o + i * 4 + 2, none⟩ = some (.slice pA x.2.2.1.length pC) ∧ w.cell? ⟨b, o + i * 4 + 3, none⟩ = some (.slice sA x.2.2.2.length sC) ∧ ISc w lo B pA pC x.2.2.1 ∧ BSl w lo B sA x.2.2.2 := by
  rcases h with rfl | ⟨b, o, e, _, _, h3⟩
  · simp at hx
  · exact ⟨b, o, e, h3 i x hx⟩
theorem lkF_step {es : List Eqd} {t x : Tm3} {ls : List Lk} {j : Nat} {l : Lk} (h : lkF es t (ls.take j) = some x) (hl : ls[j]? = some l) : lkF es t (ls.take (j + 1)) = lk1 es x l := by
  rw [List.take_add_one, hl, Option.toList_some, lkF_append, h]
  show lkF es x [l] = _
  rw [lkF_one]
theorem lkF_stuck {es : List Eqd} {t : Tm3} {ls : List Lk} {j : Nat} (h : lkF es t (ls.take j) = none) : lkF es t ls = none := by
  rw [← List.take_append_drop j ls, lkF_append, h]
  rfl
/-- Where the loop stands: box O holds what j links lead to. -/
structure PsAt (es : List Eqd) (t : Tm3) (ls : List Lk) (lo O j : Nat) (wr : World) : Prop where
  lt : O < wr.heap.size
  fz : ∀ i, wr.frozen? ⟨O, i, none⟩ = false
  at_ : ∃ s v k a c L H, lkF es t (ls.take j) = some (s, v, k) ∧ wr.cell? ⟨O, 0, none⟩ = some (.int .i64 s) ∧ wr.cell? ⟨O, 1, none⟩ = some (.int .i64 v) ∧ wr.cell? ⟨O, 2, none⟩ = some (.slice a (flen k) c) ∧ Sl wr L H a k ∧ lo ≤ L ∧ H ≤ wr.heap.size

theorem arr48 {tm : Array Value} (h : tm.size = 48) : ∃ x0 x1 x2 x3 x4 x5 x6 x7 x8 x9 x10 x11 x12 x13 x14 x15 x16 x17 x18 x19 x20 x21 x22 x23 x24 x25 x26 x27 x28 x29 x30 x31 x32 x33 x34 x35 x36 x37 x38 x39 x40 x41 x42 x43 x44 x45 x46 x47, tm = #[x0, x1, x2, x3, x4, x5, x6, x7, x8, x9, x10, x11, x12, x13, x14, x15, x16, x17, x18, x19, x20, x21, x22, x23, x24, x25, x26, x27, x28, x29, x30, x31, x32, x33, x34, x35, x36, x37, x38, x39, x40, x41, x42, x43, x44, x45, x46, x47] :=
  ⟨_, _, _, _, _, _, _, _, _, _, _, _, _, _, _, _, _, _, _, _, _, _, _, _, _, _, _, _, _, _, _, _, _, _, _, _, _, _, _, _, _, _, _, _, _, _, _, _, arr_eq h⟩

set_option maxRecDepth 100000 in
set_option maxHeartbeats 8000000 in
theorem sProofEnd_any (es : List Eqd) (A : Option Addr) (C : Nat) (s v : Int) (a : Option Addr) (c : Nat) (k : Fo) (A2 : Option Addr) (C2 : Nat) (ls : List Lk) (w : World)
    (he : ESl w 0 w.heap.size A es) (hel : es.length ≤ 1000000) (hl : Sl w 0 w.heap.size a k) (hll : LSl w 0 w.heap.size A2 ls) (hln : ls.length ≤ 9223372036854775807) (hls : ∀ x ∈ ls, x.2.2.1.length ≤ 1048576 ∧ x.2.2.2.length ≤ 1000000) :
    Calls Try.prog 38 #[.slice A es.length C, .agg #[.int .i64 s, .int .i64 v, .slice a (flen k) c], .slice A2 ls.length C2] w (LkPost (prR es (s, v, k) ls) w) := by
  have HS : Hid (P2b w s v (.slice a (flen k) c) ((w.alloc (.cells #[.int .i64 s, .int .i64 v, .slice a (flen k) c] 35)).alloc (.cells #[.int .i64 0, .int .i64 0, .slice none 0 0] 35))) := P2b.start
  have HE := Lib.hid (he.next HS.out.low)
  have HL := Lib.hid (Sl.next hl HS.out.low)
  have HLL := Lib.hid (hll.next HS.out.low)
  have HLS := Lib.hid hls
  have HE0 := Lib.hid he
  have HLL0 := Lib.hid hll
  clear he hl hll hls
  go_enter Try.func38, Try.ntmps38
  go_wp2_with fail
  with_reducible refine (sEqsOk_any es A C _ HE.out (by omega)).mono ?_
  rintro e w1 ⟨rfl, hb1⟩
  replace HS := Lib.hid (HS.out.next hb1)
  replace HE := Lib.hid (HE.out.next hb1)
  replace HL := Lib.hid (Sl.next HL.out hb1)
  replace HLL := Lib.hid (HLL.out.next hb1)
  clear hb1
  cases hes : okEs es with
  | false =>
    have HRR : Hid (prR es (s, v, k) ls = none) := by unfold Hid prR; rw [if_neg (fun h => by rw [hes] at h; cases h.1)]
    obtain ⟨r0, r1, r2, f0, f1, f2⟩ : _ ∧ _ ∧ _ ∧ _ ∧ _ ∧ _ := ⟨HS.out.r0, HS.out.r1, HS.out.r2, HS.out.f 0, HS.out.f 1, HS.out.f 2⟩
    have HEND := Lib.hid (p2_end (k := .nil) (s := 0) (v := 0) (t := false) (a := none) (c := 0) (L := w.heap.size + 2) (H := 0) (ans_none HRR.out) HS.out.low (.inl rfl) (Nat.le_refl _) (Nat.zero_le _) (.int .i64 0) (.int .i64 0) (.slice none 0 0))
    go_wp2_with fail
    refine bodyPost_ret (v := .tuple #[.agg #[.int .i64 0, .int .i64 0, .slice none 0 0], .bool false]) ?_ rfl HEND.out
    simp [results, Try.results38, go_sem, r0, r1, r2]
  | true =>
    have HES := Lib.hid hes
    clear hes
    have q0 := HS.out.t0
    have q1 := HS.out.t1
    have q2 := HS.out.t2
    go_wp2_with fail
    with_reducible refine (l2BigG_any s v a c k _ HL.out).mono ?_
    rintro e w2 ⟨rfl, hb2⟩
    replace HS := Lib.hid (HS.out.next hb2)
    replace HE := Lib.hid (HE.out.next hb2)
    replace HL := Lib.hid (Sl.next HL.out hb2)
    replace HLL := Lib.hid (HLL.out.next hb2)
    clear hb2 q0 q1 q2
    cases hok : okW s v k 64 with
    | false =>
      have HRR : Hid (prR es (s, v, k) ls = none) := by unfold Hid prR; rw [if_neg (fun h => by have := h.2.1; unfold okT3 at this; rw [hok] at this; cases this)]
      clear hok
      obtain ⟨r0, r1, r2, f0, f1, f2⟩ : _ ∧ _ ∧ _ ∧ _ ∧ _ ∧ _ := ⟨HS.out.r0, HS.out.r1, HS.out.r2, HS.out.f 0, HS.out.f 1, HS.out.f 2⟩
      have HEND := Lib.hid (p2_end (k := .nil) (s := 0) (v := 0) (t := false) (a := none) (c := 0) (L := w.heap.size + 2) (H := 0) (ans_none HRR.out) HS.out.low (.inl rfl) (Nat.le_refl _) (Nat.zero_le _) (.int .i64 0) (.int .i64 0) (.slice none 0 0))
      go_wp2_with fail
      refine bodyPost_ret (v := .tuple #[.agg #[.int .i64 0, .int .i64 0, .slice none 0 0], .bool false]) ?_ rfl HEND.out
      simp [results, Try.results38, go_sem, r0, r1, r2]
    | true =>
      have HOK := Lib.hid hok
      clear hok
      by_cases h40 : 40 < ls.length
      · have d40 : decide ((ls.length : Int) > 40) = true := by simp; omega
        have HRR : Hid (prR es (s, v, k) ls = none) := by unfold Hid prR; rw [if_neg (fun h => by omega)]
        obtain ⟨r0, r1, r2, f0, f1, f2⟩ : _ ∧ _ ∧ _ ∧ _ ∧ _ ∧ _ := ⟨HS.out.r0, HS.out.r1, HS.out.r2, HS.out.f 0, HS.out.f 1, HS.out.f 2⟩
        have HEND := Lib.hid (p2_end (k := .nil) (s := 0) (v := 0) (t := false) (a := none) (c := 0) (L := w.heap.size + 2) (H := 0) (ans_none HRR.out) HS.out.low (.inl rfl) (Nat.le_refl _) (Nat.zero_le _) (.int .i64 0) (.int .i64 0) (.slice none 0 0))
        go_wp2_with fail
        refine bodyPost_ret (v := .tuple #[.agg #[.int .i64 0, .int .i64 0, .slice none 0 0], .bool false]) ?_ rfl HEND.out
        simp [results, Try.results38, go_sem, r0, r1, r2]
      have d40 : decide ((ls.length : Int) > 40) = false := by simp; omega
      have HRR : Hid (prR es (s, v, k) ls = lkF es (s, v, k) ls) := by unfold Hid prR; rw [if_pos ⟨HES.out, HOK.out, by omega⟩]
      have hkz : fsz k ≤ 1000000 := by have := ((okW_iff _ _ _ _).1 HOK.out).2.2; omega
      have q0 := HS.out.t0
      have q1 := HS.out.t1
      have q2 := HS.out.t2
      go_wp2_with fail
      with_reducible refine (l1Copy_any (fsz k) s v a c k _ HL.out (Nat.le_refl _) hkz).mono ?_
      rintro e w3 ⟨a3, c3, rfl, hb3, hown⟩
      have hsz2 := HS.out.size
      have hs3 := hb3.size
      have hbx : Below w3.heap.size w3 (w3.alloc (.cells #[.int .i64 s, .int .i64 v, .slice a3 (flen k) c3] 35)) := box_low _ _
      replace HS := Lib.hid ((HS.out.next hb3).next hbx)
      have HAT : Hid (PsAt es (s, v, k) ls (w.heap.size + 2) w3.heap.size 0 (w3.alloc (.cells #[.int .i64 s, .int .i64 v, .slice a3 (flen k) c3] 35))) := by
        have cx : ∀ i, (w3.alloc (.cells #[.int .i64 s, .int .i64 v, .slice a3 (flen k) c3] 35)).cell? ⟨w3.heap.size, i, none⟩ = #[Value.int .i64 s, .int .i64 v, .slice a3 (flen k) c3][i]? := fun i => by rw [World.cell?_alloc_at _ _ _ _ (by simp)]
        exact ⟨by simp, fun i => by rw [World.frozen?_alloc_at _ _ _ _ (by simp)], s, v, k, a3, c3, _, _, rfl, cx 0, cx 1, cx 2, hown.sl.below hbx, by omega, by simp⟩
      clear hb3 hown hbx q0 q1 q2 HL HE HLL
      go_wp2_with fail
      generalize hO : w3.heap.size = O at *
      have hOlo : w.heap.size + 2 ≤ O := by omega
      go_loopw [9] (fun i wr => ∃ j : Nat, i = .int .i64 j ∧ j ≤ ls.length ∧ Hid (P2b w s v (.slice a (flen k) c) wr) ∧ Hid (PsAt es (s, v, k) ls (w.heap.size + 2) O j wr)) (fun i _ => ls.length - (intOf i).toNat)
      case atStart => exact ⟨0, rfl, Nat.zero_le _, HS, HAT⟩
      case round =>
        clear HS HAT
        obtain ⟨j, rfl, hj, HS, HAT⟩ := hrel
        have HE := Lib.hid (HE0.out.next HS.out.low)
        have HLL := Lib.hid (HLL0.out.next HS.out.low)
        by_cases hlt : j < ls.length
        · skip
          obtain ⟨⟨eq, back, place, bs⟩, hx⟩ : ∃ x, ls[j]? = some x := ⟨ls[j], List.getElem?_eq_getElem hlt⟩
          obtain ⟨hpl, hbl⟩ := HLS.out _ (List.mem_of_getElem? hx)
          dsimp only at hpl hbl
          obtain ⟨lb, lo, rfl, pA, pC, sA, sC, l0, l1, l2, l3, hpsl, hbsl⟩ := HLL.out.at hx
          dsimp only at l0 l1 l2 l3 hpsl hbsl
          obtain ⟨hOlt, hOf, xs, xv, xk, xa, xc, xL, xH, hlk, o0, o1, o2, hxsl, hxL, hxH⟩ := HAT.out
          have hokx : okT3 64 (xs, xv, xk) = true := lkF_ok (t := (s, v, k)) HOK.out hlk
          have hstep := lkF_step hlk hx
          rw [← lkR_eq HES.out hokx] at hstep
          have hwq := HS.out.size
          obtain ⟨⟨⟨s2, v2, k2⟩, t2⟩, hans⟩ : ∃ y, ansR (lkR es (xs, xv, xk) (eq, back, place, bs)) = y := ⟨_, rfl⟩
          have HANS := Lib.hid hans
          have HST := Lib.hid hstep
          have HX := Lib.hid (hxsl.mono (lo' := 0) (Nat.zero_le _) hxH)
          have HP := Lib.hid hpsl
          have HBS := Lib.hid hbsl
          have HO := Lib.hid (⟨hOf, o0, o1, o2⟩ : (∀ i, wr.frozen? ⟨O, i, none⟩ = false) ∧ wr.cell? ⟨O, 0, none⟩ = some (.int .i64 xs) ∧ wr.cell? ⟨O, 1, none⟩ = some (.int .i64 xv) ∧ wr.cell? ⟨O, 2, none⟩ = some (.slice xa (flen xk) xc))
          have HLC := Lib.hid (⟨l0, l1, l2, l3⟩ : wr.cell? ⟨lb, lo + j * 4, none⟩ = some (.int .i64 eq) ∧ wr.cell? ⟨lb, lo + j * 4 + 1, none⟩ = some (.bool back) ∧ wr.cell? ⟨lb, lo + j * 4 + 2, none⟩ = some (.slice pA place.length pC) ∧ wr.cell? ⟨lb, lo + j * 4 + 3, none⟩ = some (.slice sA bs.length sC))
          have g1 : (0 : Int) ≤ (j : Int) := by omega
          have g2 : (j : Int) < (ls.length : Int) := by omega
          clear hans hstep hxsl hpsl hbsl o0 o1 o2 hOf l0 l1 l2 l3 hlk hokx HAT hx
          go_wp2_with fail
          refine wp_region_typed (fun q x _ => match ([some (.slice A es.length C), some (.agg #[.int .i64 xs, .int .i64 xv, .slice xa (flen xk) xc]), some (.slice (some ⟨lb, lo, none⟩) ls.length C2), some (.int .i64 (j : Int)), some (.pointer (some ⟨lb, lo + j * 4, none⟩)), some (.agg #[.int .i64 eq, .bool back, .slice pA place.length pC, .slice sA bs.length sC]), none, none, none, some (.bool t2), none, none, some (.bool t2)] : List (Option Value)).getD q none with | some y => x = y | none => True) (fun listed act u => Below wr.heap.size wr u ∧ Bx 10 11 10 41 wr.heap.size listed act u ∧ TrV (fun x c => .tuple #[.agg #[.int .i64 s2, .int .i64 v2, .slice x (flen k2) c], .bool t2]) 10 10 6 40 wr.heap.size k2 listed act u ∧ TrV (fun x c => .tuple #[.agg #[.int .i64 s2, .int .i64 v2, .slice x (flen k2) c], .bool t2]) 10 10 7 33 wr.heap.size k2 listed act u ∧ TrV (fun x c => .agg #[.int .i64 s2, .int .i64 v2, .slice x (flen k2) c]) 10 10 8 41 wr.heap.size k2 listed act u) (fun _ _ => True) (by kernel_rfl) (by kernel_rfl) (fun j x u u' h _ => h) ⟨(Below.refl _ _).drew, Bx.start, TrV.start, TrV.start, TrV.start⟩ ?_ ?_
          · intro i o hi listed act u hst hun hdep
            have hin2 : i < 13 := (Array.getElem?_eq_some_iff.1 hi).1
            obtain ⟨hlow, hx1, hr6, hr7, hr8⟩ := hst.s
            have hus := hlow.size
            have h16 : i = 0 ∨ i = 1 ∨ i = 2 ∨ i = 3 ∨ i = 4 ∨ i = 5 ∨ i = 6 ∨ i = 7 ∨ i = 8 ∨ i = 9 ∨ i = 10 ∨ i = 11 ∨ i = 12 := by omega
            rcases h16 with rfl | rfl | rfl | rfl | rfl | rfl | rfl | rfl | rfl | rfl | rfl | rfl | rfl
            · obtain rfl := Option.some.inj hi
              have t0 : (act.tmps[0]?).getD undef = .slice A es.length C := hst.old 0 (by kernel_rfl)
              refine wpOp_of rfl rfl (fun K hK => ?_)
              go_simp
              have hbb := Below.refl u.heap.size u
              refine hK _ _ ⟨_, rfl, ⟨hlow.trans (hbb.mono hus), hx1.keep (i := 0) (dst := some 34) (by decide) (by decide) (by decide) (.inl (by decide)) hbb, hr6.keep (i := 0) (dst := some 34) (by decide) (by decide) (by decide) (by decide) hbb, hr7.keep (i := 0) (dst := some 34) (by decide) (by decide) (by decide) (by decide) hbb, hr8.keep (i := 0) (dst := some 34) (by decide) (by decide) (by decide) (by decide) hbb⟩, trivial, fun d hd => rfl⟩
            · obtain rfl := Option.some.inj hi
              have t8 : (act.tmps[8]?).getD undef = .pointer (some ⟨O, 0, none⟩) := hst.old 8 (by kernel_rfl)
              obtain ⟨_, o0, o1, o2⟩ := HO.out
              replace o0 := cell_low hlow o0
              replace o1 := cell_low hlow o1
              replace o2 := cell_low hlow o2
              refine wpOp_of rfl rfl (fun K hK => ?_)
              go_simp
              have hbb := Below.refl u.heap.size u
              refine hK _ _ ⟨_, rfl, ⟨hlow.trans (hbb.mono hus), hx1.keep (i := 1) (dst := some 35) (by decide) (by decide) (by decide) (.inl (by decide)) hbb, hr6.keep (i := 1) (dst := some 35) (by decide) (by decide) (by decide) (by decide) hbb, hr7.keep (i := 1) (dst := some 35) (by decide) (by decide) (by decide) (by decide) hbb, hr8.keep (i := 1) (dst := some 35) (by decide) (by decide) (by decide) (by decide) hbb⟩, trivial, fun d hd => rfl⟩
            · obtain rfl := Option.some.inj hi
              have t2' : (act.tmps[2]?).getD undef = .slice (some ⟨lb, lo, none⟩) ls.length C2 := hst.old 2 (by kernel_rfl)
              refine wpOp_of rfl rfl (fun K hK => ?_)
              go_simp
              have hbb := Below.refl u.heap.size u
              refine hK _ _ ⟨_, rfl, ⟨hlow.trans (hbb.mono hus), hx1.keep (i := 2) (dst := some 36) (by decide) (by decide) (by decide) (.inl (by decide)) hbb, hr6.keep (i := 2) (dst := some 36) (by decide) (by decide) (by decide) (by decide) hbb, hr7.keep (i := 2) (dst := some 36) (by decide) (by decide) (by decide) (by decide) hbb, hr8.keep (i := 2) (dst := some 36) (by decide) (by decide) (by decide) (by decide) hbb⟩, trivial, fun d hd => rfl⟩
            · obtain rfl := Option.some.inj hi
              have t9 : (act.tmps[9]?).getD undef = .int .i64 (j : Int) := hst.old 9 (by kernel_rfl)
              refine wpOp_of rfl rfl (fun K hK => ?_)
              go_simp
              have hbb := Below.refl u.heap.size u
              refine hK _ _ ⟨_, rfl, ⟨hlow.trans (hbb.mono hus), hx1.keep (i := 3) (dst := some 37) (by decide) (by decide) (by decide) (.inl (by decide)) hbb, hr6.keep (i := 3) (dst := some 37) (by decide) (by decide) (by decide) (by decide) hbb, hr7.keep (i := 3) (dst := some 37) (by decide) (by decide) (by decide) (by decide) hbb, hr8.keep (i := 3) (dst := some 37) (by decide) (by decide) (by decide) (by decide) hbb⟩, trivial, fun d hd => rfl⟩
            · obtain rfl := Option.some.inj hi
              have t36 : (act.tmps[36]?).getD undef = .slice (some ⟨lb, lo, none⟩) ls.length C2 := hst.at hdep 2 36 (by kernel_rfl) (by kernel_rfl)
              have t37 : (act.tmps[37]?).getD undef = .int .i64 (j : Int) := hst.at hdep 3 37 (by kernel_rfl) (by kernel_rfl)
              refine wpOp_of rfl rfl (fun K hK => ?_)
              go_simp
              have hbb := Below.refl u.heap.size u
              refine hK _ _ ⟨_, rfl, ⟨hlow.trans (hbb.mono hus), hx1.keep (i := 4) (dst := some 38) (by decide) (by decide) (by decide) (.inl (by decide)) hbb, hr6.keep (i := 4) (dst := some 38) (by decide) (by decide) (by decide) (by decide) hbb, hr7.keep (i := 4) (dst := some 38) (by decide) (by decide) (by decide) (by decide) hbb, hr8.keep (i := 4) (dst := some 38) (by decide) (by decide) (by decide) (by decide) hbb⟩, trivial, fun d hd => rfl⟩
            · obtain rfl := Option.some.inj hi
              have t38 : (act.tmps[38]?).getD undef = .pointer (some ⟨lb, lo + j * 4, none⟩) := hst.at hdep 4 38 (by kernel_rfl) (by kernel_rfl)
              obtain ⟨l0, l1, l2, l3⟩ := HLC.out
              replace l0 := cell_low hlow l0
              replace l1 := cell_low hlow l1
              replace l2 := cell_low hlow l2
              replace l3 := cell_low hlow l3
              refine wpOp_of rfl rfl (fun K hK => ?_)
              go_simp
              have hbb := Below.refl u.heap.size u
              refine hK _ _ ⟨_, rfl, ⟨hlow.trans (hbb.mono hus), hx1.keep (i := 5) (dst := some 39) (by decide) (by decide) (by decide) (.inl (by decide)) hbb, hr6.keep (i := 5) (dst := some 39) (by decide) (by decide) (by decide) (by decide) hbb, hr7.keep (i := 5) (dst := some 39) (by decide) (by decide) (by decide) (by decide) hbb, hr8.keep (i := 5) (dst := some 39) (by decide) (by decide) (by decide) (by decide) hbb⟩, trivial, fun d hd => rfl⟩
            · obtain rfl := Option.some.inj hi
              have t34 : (act.tmps[34]?).getD undef = .slice A es.length C := hst.at hdep 0 34 (by kernel_rfl) (by kernel_rfl)
              have t35 : (act.tmps[35]?).getD undef = .agg #[.int .i64 xs, .int .i64 xv, .slice xa (flen xk) xc] := hst.at hdep 1 35 (by kernel_rfl) (by kernel_rfl)
              have t39 : (act.tmps[39]?).getD undef = .agg #[.int .i64 eq, .bool back, .slice pA place.length pC, .slice sA bs.length sC] := hst.at hdep 5 39 (by kernel_rfl) (by kernel_rfl)
              refine wpOp_of rfl rfl (fun K hK => ?_)
              go_simp
              have heu := HE.out.next hlow
              have hxu := Sl.next HX.out hlow
              have hpu := HP.out.next hlow
              have hbu := HBS.out.next hlow
              with_reducible refine (sLinkDo_any es A C xs xv xa xc xk eq back pA pC place sA sC bs _ heu hel hxu hpu hpl hbu hbl).mono ?_
              rintro e u' ⟨za, zc, zs, zv, zk, zt, hr, rfl, hbb, hzsl⟩
              rw [HANS.out] at hr
              simp only [Prod.mk.injEq] at hr
              obtain ⟨⟨rfl, rfl, rfl⟩, rfl⟩ := hr
              have hts : act.tmps.size = 48 := hst.size
              refine hK _ _ ⟨_, rfl, ⟨hlow.trans (hbb.mono hus), hx1.keep (i := 6) (dst := some 40) (by decide) (by decide) (by decide) (.inl (by decide)) hbb, TrV.make (x := za) (c := zc) hx1 (by decide) (by decide) (by omega) hus hzsl, hr7.keep (i := 6) (dst := some 40) (by decide) (by decide) (by decide) (by decide) hbb, hr8.keep (i := 6) (dst := some 40) (by decide) (by decide) (by decide) (by decide) hbb⟩, trivial, fun d hd => trivial⟩
            · obtain rfl := Option.some.inj hi
              obtain ⟨za, zc, zL, zH, t40, hzsl, zq1, zq2, zq3⟩ := hr6 (hst.dep hdep 6 (by kernel_rfl) (by decide))
              dsimp only at t40
              refine wpOp_of rfl rfl (fun K hK => ?_)
              go_simp
              have hbb := Below.refl u.heap.size u
              have hts : act.tmps.size = 48 := hst.size
              refine hK _ _ ⟨_, rfl, ⟨hlow.trans (hbb.mono hus), hx1.keep (i := 7) (dst := some 33) (by decide) (by decide) (by decide) (.inl (by decide)) hbb, hr6.keep (i := 7) (dst := some 33) (by decide) (by decide) (by decide) (by decide) hbb, TrV.pass (x := za) (c := zc) hzsl zq1 zq2 zq3 (by decide) (by decide) (by omega) hbb, hr8.keep (i := 7) (dst := some 33) (by decide) (by decide) (by decide) (by decide) hbb⟩, trivial, fun d hd => trivial⟩
            · obtain rfl := Option.some.inj hi
              obtain ⟨za, zc, zL, zH, t33, hzsl, zq1, zq2, zq3⟩ := hr7 (hst.dep hdep 7 (by kernel_rfl) (by decide))
              dsimp only at t33
              refine wpOp_of rfl rfl (fun K hK => ?_)
              go_simp
              have hbb := Below.refl u.heap.size u
              have hts : act.tmps.size = 48 := hst.size
              refine hK _ _ ⟨_, rfl, ⟨hlow.trans (hbb.mono hus), hx1.keep (i := 8) (dst := some 41) (by decide) (by decide) (by decide) (.inr (hst.no hun (st := 11) (by kernel_rfl))) hbb, hr6.keep (i := 8) (dst := some 41) (by decide) (by decide) (by decide) (by decide) hbb, hr7.keep (i := 8) (dst := some 41) (by decide) (by decide) (by decide) (by decide) hbb, TrV.pass (x := za) (c := zc) hzsl zq1 zq2 zq3 (by decide) (by decide) (by omega) hbb⟩, trivial, fun d hd => trivial⟩
            · obtain rfl := Option.some.inj hi
              obtain ⟨za, zc, zL, zH, t33, hzsl, zq1, zq2, zq3⟩ := hr7 (hst.dep hdep 7 (by kernel_rfl) (by decide))
              dsimp only at t33
              refine wpOp_of rfl rfl (fun K hK => ?_)
              go_simp
              have hbb := Below.refl u.heap.size u
              refine hK _ _ ⟨_, rfl, ⟨hlow.trans (hbb.mono hus), hx1.keep (i := 9) (dst := some 42) (by decide) (by decide) (by decide) (.inl (by decide)) hbb, hr6.keep (i := 9) (dst := some 42) (by decide) (by decide) (by decide) (by decide) hbb, hr7.keep (i := 9) (dst := some 42) (by decide) (by decide) (by decide) (by decide) hbb, hr8.keep (i := 9) (dst := some 42) (by decide) (by decide) (by decide) (by decide) hbb⟩, trivial, fun d hd => rfl⟩
            · obtain rfl := Option.some.inj hi
              refine wpOp_of rfl rfl (fun K hK => ?_)
              go_simp
              have hts : act.tmps.size = 48 := hst.size
              have hbb := box_low u (.cells #[.int .i64 0, .int .i64 0, .slice none 0 0] 35)
              refine hK _ _ ⟨_, rfl, ⟨hlow.trans (hbb.mono hus), Bx.make (by omega) (hst.no hun (st := 11) (by kernel_rfl)) (by decide) hus, hr6.box (by decide) (by decide) (by omega), hr7.box (by decide) (by decide) (by omega), hr8.box (by decide) (by decide) (by omega)⟩, trivial, fun d hd => trivial⟩
            · obtain rfl := Option.some.inj hi
              have hal : listed.getD 10 false = true := hst.dep hdep 10 (by kernel_rfl) (by decide)
              obtain ⟨za, zc, zL, zH, t41, hzsl, _, _, _⟩ := hr8 (hst.dep hdep 8 (by kernel_rfl) (by decide))
              dsimp only at t41
              obtain ⟨b, tb, p1, p2, p3, p4, p5⟩ := hx1 hal
              obtain ⟨w0, c0⟩ := p3 0 (by omega)
              have f0 := p4 0
              obtain ⟨w1, c1⟩ := p3 1 (by omega)
              have f1 := p4 1
              obtain ⟨w2, c2⟩ := p3 2 (by omega)
              have f2 := p4 2
              refine wpOp_of rfl rfl (fun K hK => ?_)
              go_simp
              refine hK _ _ ⟨undef, rfl, ⟨s3_low hlow p1 _ _ _, hx1.fill hal tb t41, hr6.fill (i := 11) (by decide) hal tb, hr7.fill (i := 11) (by decide) hal tb, hr8.fill (i := 11) (by decide) hal tb⟩, trivial, fun d hd => by cases hd⟩
            · obtain rfl := Option.some.inj hi
              have t42 : (act.tmps[42]?).getD undef = .bool t2 := hst.at hdep 9 42 (by kernel_rfl) (by kernel_rfl)
              refine wpOp_of rfl rfl (fun K hK => ?_)
              go_simp
              have hbb := Below.refl u.heap.size u
              refine hK _ _ ⟨_, rfl, ⟨hlow.trans (hbb.mono hus), hx1.keep (i := 12) (dst := some 11) (by decide) (by decide) (by decide) (.inl (by decide)) hbb, hr6.keep (i := 12) (dst := some 11) (by decide) (by decide) (by decide) (by decide) hbb, hr7.keep (i := 12) (dst := some 11) (by decide) (by decide) (by decide) (by decide) hbb, hr8.keep (i := 12) (dst := some 11) (by decide) (by decide) (by decide) (by decide) hbb⟩, trivial, fun d hd => rfl⟩
          · intro listed act u hst hall
            obtain ⟨hlow, hx1, hr6, hr7, hr8⟩ := hst.s
            have u0 : (act.tmps[0]?).getD undef = .slice A es.length C := hst.old 0 (by kernel_rfl)
            have u1 : (act.tmps[1]?).getD undef = .agg #[.int .i64 s, .int .i64 v, .slice a (flen k) c] := hst.old 1 (by kernel_rfl)
            have u2 : (act.tmps[2]?).getD undef = .slice (some ⟨lb, lo, none⟩) ls.length C2 := hst.old 2 (by kernel_rfl)
            have u3 : (act.tmps[3]?).getD undef = undef := hst.old 3 (by kernel_rfl)
            have u4 : (act.tmps[4]?).getD undef = .pointer (some ⟨w.heap.size, 0, none⟩) := hst.old 4 (by kernel_rfl)
            have u5 : (act.tmps[5]?).getD undef = undef := hst.old 5 (by kernel_rfl)
            have u6 : (act.tmps[6]?).getD undef = .pointer (some ⟨w.heap.size + 1, 0, none⟩) := hst.old 6 (by kernel_rfl)
            have u8 : (act.tmps[8]?).getD undef = .pointer (some ⟨O, 0, none⟩) := hst.old 8 (by kernel_rfl)
            have u9 : (act.tmps[9]?).getD undef = .int .i64 (j : Int) := hst.old 9 (by kernel_rfl)
            have u12 : (act.tmps[12]?).getD undef = .slice A es.length C := hst.old 12 (by kernel_rfl)
            have u13 : (act.tmps[13]?).getD undef = .bool true := hst.old 13 (by kernel_rfl)
            have u14 : (act.tmps[14]?).getD undef = .bool false := hst.old 14 (by kernel_rfl)
            have u15 : (act.tmps[15]?).getD undef = .bool false := hst.old 15 (by kernel_rfl)
            have u16 : (act.tmps[16]?).getD undef = .agg #[.int .i64 s, .int .i64 v, .slice a (flen k) c] := hst.old 16 (by kernel_rfl)
            have u17 : (act.tmps[17]?).getD undef = .bool false := hst.old 17 (by kernel_rfl)
            have u18 : (act.tmps[18]?).getD undef = .bool false := hst.old 18 (by kernel_rfl)
            have u19 : (act.tmps[19]?).getD undef = .bool false := hst.old 19 (by kernel_rfl)
            have u20 : (act.tmps[20]?).getD undef = .slice (some ⟨lb, lo, none⟩) ls.length C2 := hst.old 20 (by kernel_rfl)
            have u21 : (act.tmps[21]?).getD undef = .int .i64 (ls.length : Int) := hst.old 21 (by kernel_rfl)
            have u22 : (act.tmps[22]?).getD undef = .bool false := hst.old 22 (by kernel_rfl)
            have u23 : (act.tmps[23]?).getD undef = .bool false := hst.old 23 (by kernel_rfl)
            have u24 : (act.tmps[24]?).getD undef = undef := hst.old 24 (by kernel_rfl)
            have u25 : (act.tmps[25]?).getD undef = .agg #[.int .i64 s, .int .i64 v, .slice a (flen k) c] := hst.old 25 (by kernel_rfl)
            have u26 : (act.tmps[26]?).getD undef = .agg #[.int .i64 s, .int .i64 v, .slice a3 (flen k) c3] := hst.old 26 (by kernel_rfl)
            have u47 : (act.tmps[47]?).getD undef = undef := hst.old 47 (by kernel_rfl)
            have u11 : (act.tmps[11]?).getD undef = .bool t2 := hst.fin hall 12 11 (by kernel_rfl)
            obtain ⟨za, zc, zL, zH, t41, hzsl, zq1, zq2, _⟩ := hr8 (hall 8 (by decide))
            dsimp only at t41 hzsl
            obtain ⟨b10, u10, hb10, _, _, _, hq10⟩ := hx1 (hall 10 (by decide))
            obtain ⟨y0, y1, y2, y3, d0, d1, d2⟩ := hq10 (hall 11 (by decide))
            rw [t41] at y3
            simp only [Value.agg.injEq, Array.mk.injEq, List.cons.injEq, and_true] at y3
            obtain ⟨rfl, rfl, rfl⟩ := y3
            have hdf : act.defers = [] := hst.defers
            have hts : act.tmps.size = 48 := hst.size
            clear hst hx1 hr6 hr7 hr8 hall hq10 t41
            obtain ⟨tm, df⟩ := act
            dsimp only at hdf hts u0 u1 u2 u3 u4 u5 u6 u8 u9 u12 u13 u14 u15 u16 u17 u18 u19 u20 u21 u22 u23 u24 u25 u26 u47 u10 u11
            subst hdf
            obtain ⟨z0, z1, z2, z3, z4, z5, z6, z7, z8, z9, z10, z11, z12, z13, z14, z15, z16, z17, z18, z19, z20, z21, z22, z23, z24, z25, z26, z27, z28, z29, z30, z31, z32, z33, z34, z35, z36, z37, z38, z39, z40, z41, z42, z43, z44, z45, z46, z47, rfl⟩ := arr48 hts
            clear hts
            obtain rfl : z0 = _ := u0
            obtain rfl : z1 = _ := u1
            obtain rfl : z2 = _ := u2
            obtain rfl : z3 = _ := u3
            obtain rfl : z4 = _ := u4
            obtain rfl : z5 = _ := u5
            obtain rfl : z6 = _ := u6
            obtain rfl : z8 = _ := u8
            obtain rfl : z9 = _ := u9
            obtain rfl : z12 = _ := u12
            obtain rfl : z13 = _ := u13
            obtain rfl : z14 = _ := u14
            obtain rfl : z15 = _ := u15
            obtain rfl : z16 = _ := u16
            obtain rfl : z17 = _ := u17
            obtain rfl : z18 = _ := u18
            obtain rfl : z19 = _ := u19
            obtain rfl : z20 = _ := u20
            obtain rfl : z21 = _ := u21
            obtain rfl : z22 = _ := u22
            obtain rfl : z23 = _ := u23
            obtain rfl : z24 = _ := u24
            obtain rfl : z25 = _ := u25
            obtain rfl : z26 = _ := u26
            obtain rfl : z47 = _ := u47
            obtain rfl : z10 = _ := u10
            obtain rfl : z11 = _ := u11
            have HU := Lib.hid (HS.out.next hlow)
            obtain ⟨o9, o0, o1, o2⟩ := HO.out
            replace o0 := cell_low hlow o0
            replace o1 := cell_low hlow o1
            replace o2 := cell_low hlow o2
            have o9' : ∀ i, u.frozen? ⟨O, i, none⟩ = false := fun i => (hlow.frozen (show O < wr.heap.size from hOlt)).trans (o9 i)
            have f0 := o9' 0
            have f1 := o9' 1
            have f2 := o9' 2
            have hlo := hlow.size
            clear HS HE HLL HX HP HBS HO HLC o9
            cases t2 with
            | false =>
              have HRN : Hid (prR es (s, v, k) ls = none) := by
                rw [Hid, HRR.out]
                refine lkF_stuck (HST.out.trans ?_)
                cases hq : lkR es (xs, xv, xk) (eq, back, place, bs) with
                | none => rfl
                | some y => have := HANS.out; rw [hq] at this; simp [ansR] at this
              obtain ⟨r0, r1, r2, e0, e1, e2⟩ : _ ∧ _ ∧ _ ∧ _ ∧ _ ∧ _ := ⟨HU.out.r0, HU.out.r1, HU.out.r2, HU.out.f 0, HU.out.f 1, HU.out.f 2⟩
              have HEND := Lib.hid (p2_end (k := .nil) (s := 0) (v := 0) (t := false) (a := none) (c := 0) (L := w.heap.size + 2) (H := 0) (ans_none HRN.out) HU.out.low (.inl rfl) (Nat.le_refl _) (Nat.zero_le _) (.int .i64 0) (.int .i64 0) (.slice none 0 0))
              clear d0 d1 d2 o0 o1 o2 f0 f1 f2
              go_wp2_with fail
              refine bodyPost_ret (v := .tuple #[.agg #[.int .i64 0, .int .i64 0, .slice none 0 0], .bool false]) ?_ rfl HEND.out
              simp [results, Try.results38, go_sem, r0, r1, r2]
            | true =>
              have hlk2 : lkF es (s, v, k) (ls.take (j + 1)) = some (s2, v2, k2) := by
                rw [HST.out]
                cases hq : lkR es (xs, xv, xk) (eq, back, place, bs) with
                | none => have := HANS.out; rw [hq] at this; simp [ansR] at this
                | some y => have := HANS.out; rw [hq] at this; simp only [ansR, Prod.mk.injEq, and_true] at this; rw [this]
              have HSN : Hid (P2b w s v (.slice a (flen k) c) (s3 u O (.int .i64 s2) (.int .i64 v2) (.slice za (flen k2) zc))) := HU.out.s3 hOlo _ _ _
              have HPS : Hid (PsAt es (s, v, k) ls (w.heap.size + 2) O (j + 1) (s3 u O (.int .i64 s2) (.int .i64 v2) (.slice za (flen k2) zc))) := by
                obtain ⟨c0, c1, c2⟩ := s3_in (x := .int .i64 s2) (y := .int .i64 v2) (z := .slice za (flen k2) zc) o0 o1 o2
                refine ⟨by rw [s3_size]; omega, fun i => by rw [s3_fr]; exact o9' i, s2, v2, k2, za, zc, zL, zH, hlk2, c0, c1, c2, ?_, by omega, by rw [s3_size]; exact zq2⟩
                have h0 : Same zL zH u u := fun _ _ _ => rfl
                unfold s3
                exact ((h0.setCell (.inl (by dsimp only; omega)) _).setCell (.inl (by dsimp only; omega)) _).setCell (.inl (by dsimp only; omega)) _ |> hzsl.same
              unfold s3 at HSN HPS
              clear hlk2 HST HANS HRR
              go_wp2_with fail
              go_roundw
              case rel => first | exact ⟨j + 1, by go_num, by omega, HSN, HPS⟩ | exact ⟨_, _, ⟨j + 1, rfl, by omega, HPS⟩, rfl, by go_num⟩ | exact ⟨_, ⟨j + 1, rfl, by omega, HPS⟩, by go_num⟩ | exact ⟨j + 1, by go_num, by omega, HPS⟩
              case measure => simp [intOf]; omega
        · obtain rfl : j = ls.length := by omega
          obtain ⟨hOlt, hOf, xs, xv, xk, xa, xc, xL, xH, hlk, o0, o1, o2, hxsl, hxL, hxH⟩ := HAT.out
          rw [List.take_length] at hlk
          obtain ⟨r0, r1, r2, f0, f1, f2⟩ : _ ∧ _ ∧ _ ∧ _ ∧ _ ∧ _ := ⟨HS.out.r0, HS.out.r1, HS.out.r2, HS.out.f 0, HS.out.f 1, HS.out.f 2⟩
          have HEND := Lib.hid (p2_end (r := prR es (s, v, k) ls) (c := xc) (t := true) (by rw [HRR.out, hlk]; rfl) HS.out.low hxsl hxL hxH (.int .i64 xs) (.int .i64 xv) (.slice xa (flen xk) xc))
          clear hlk hxsl HRR
          go_wp2_with fail
          refine bodyPost_ret (v := .tuple #[.agg #[.int .i64 xs, .int .i64 xv, .slice xa (flen xk) xc], .bool true]) ?_ rfl HEND.out
          simp [results, Try.results38, go_sem, r0, r1, r2]
end Go.Proofs.Ytdkcbbhkoibplaa

/-! FrameO: What every row's closing text needs. -/
namespace Go.Proofs.Ytdkcbbhkoibplaa
theorem Try.own : ownKnob Try.prog.godebug = none := by kernel_rfl
theorem Try.laidOut : laidOutB Try.prog = true := by kernel_rfl
end Go.Proofs.Ytdkcbbhkoibplaa

/-! Frame: A slice of bytes that came in, as the walks take it. -/
namespace Go.Proofs.Ytdkcbbhkoibplaa
open Go.ChangeShapes Go.WideShapes Go.ChangeAt Go.RowKit

/-- A slice of bytes: it is nil; or it leads to a row of cap cells. -/
def IsRow (w : World) (a : Option Addr) (len cap : Nat) (zs : List Int) : Prop :=
  (a = none ∧ len = 0 ∧ cap = 0 ∧ zs = []) ∨
  ∃ x, a = some x ∧ len ≤ cap ∧ cap ≤ maxLen ∧ zs.length = cap ∧ (∀ i, i < zs.length → w.cell? (x.add i) = some (.int .u8 (zs.getD i 0))) ∧ ∀ n ∈ zs, (Lit.int .u8 n).wf = true

theorem bytes_of_row {w : World} {a : Option Addr} {len cap : Nat} {zs : List Int} (h : IsRow w a len cap zs) : Bytes w a len ∧ len ≤ cap := by
  rcases h with ⟨_, h1, h2, _⟩ | ⟨x, rfl, h1, _, h2, h3, h4⟩
  · exact ⟨.inl h1, by omega⟩
  · refine ⟨?_, h1⟩
    by_cases hl : len = 0
    · exact .inl hl
    · obtain ⟨b, o, spot⟩ := x
      have c0 := h3 0 (by omega)
      have hs : spot = none := by simpa [Addr.add] using World.cell?_spot c0
      subst hs
      have ha : ∀ n, (⟨b, o, none⟩ : Addr).add n = ⟨b, o + n, none⟩ := fun n => by unfold Addr.add; split <;> simp_all
      rw [ha] at c0
      refine .inr ⟨b, o, rfl, World.block_lt_of_cell? _ _ c0, fun i hi => ?_⟩
      have ci := h3 i (by omega)
      rw [ha] at ci
      have hm : zs.getD i 0 ∈ zs := by
        rw [List.getD_eq_getElem?_getD, List.getElem?_eq_getElem (by omega)]
        exact List.getElem_mem _
      have hb := bounds_u8 (h4 _ hm)
      obtain ⟨n, hn⟩ := Int.eq_ofNat_of_zero_le hb.1
      exact ⟨n, by omega, by rw [ci, hn]⟩

/-- Out of the reading of an argument. -/
theorem row_of_trod {H : Type} {enc : TypeId × Value → H} {W : World} {a : Option Addr} {len cap : Nat} {d : DataW H} {p : List MemPlace} (h : DataW.Trod enc Try.prog W 0 (fun _ => true) true 52 (.slice a len cap) d p) : ∃ zs, IsRow W a len cap zs := by
  obtain ⟨fuel, hf⟩ := h
  rcases open_ints Try.underlying52 Try.underlying5 (by kernel_rfl) hf with ⟨hcs, _⟩ | ⟨x, l, c, zs, hcs, _, hl, hm, hz, _, hcell, hwz⟩
  · simp [Value.cells] at hcs
    obtain ⟨rfl, rfl, rfl⟩ := hcs
    exact ⟨[], .inl ⟨rfl, rfl, rfl, rfl⟩⟩
  · simp [Value.cells] at hcs
    obtain ⟨rfl, rfl, rfl⟩ := hcs
    exact ⟨zs, .inr ⟨_, rfl, hl, hm, by simpa using hz, hcell, hwz⟩⟩

end Go.Proofs.Ytdkcbbhkoibplaa
