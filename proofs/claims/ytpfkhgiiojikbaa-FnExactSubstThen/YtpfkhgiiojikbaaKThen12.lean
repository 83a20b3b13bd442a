/- Several texts in one: TH0, TI, PF2, RFp, S7. -/
import Derived.Test.YtpfkhgiiojikbaaKThen10
import Derived.Test.YtpfkhgiiojikbaaKThen11
import Derived.Test.YtpfkhgiiojikbaaKThen4
import Derived.Test.YtpfkhgiiojikbaaKThen5
import Derived.Test.YtpfkhgiiojikbaaKThen8
import Derived.Test.YtpfkhgiiojikbaaKThen6
import Derived.Test.YtpfkhgiiojikbaaKThen7
import Derived.Deep.AppendLies

/-! TH0: What is put in one behind the other: plain. Definitions and plain lemmas. -/
namespace Go.Proofs.Ytpfkhgiiojikbaa
open Go.RowKit Go.Deep

/-- The first ones, with the others put in. -/
def th1 (us : List Bd) : List Bd → List Bd → List Bd
  | [], out => out
  | x :: r, out => th1 us r (ladd out (x.1, tsub (sv us) x.2.1 x.2.2.1 x.2.2.2))
/-- Those of the others of which the first say nothing. -/
def th2 (bs : List Bd) : List Bd → List Bd → List Bd
  | [], out => out
  | x :: r, out => th2 bs r (if (sv bs x.1).isSome = true then out else ladd out x)
def thL (bs us : List Bd) : List Bd := th2 bs us (th1 us bs [])
theorem th1_len (us : List Bd) : ∀ (bs out : List Bd), (th1 us bs out).length = out.length + bs.length
  | [], _ => rfl
  | x :: r, out => by simp only [th1, th1_len us r, ladd_len, List.length_cons]; omega
theorem th2_len (bs : List Bd) : ∀ (us out : List Bd), (th2 bs us out).length ≤ out.length + us.length
  | [], _ => Nat.le_refl _
  | x :: r, out => by
    have h := th2_len bs r (if (sv bs x.1).isSome = true then out else ladd out x)
    simp only [th2, List.length_cons]
    split at h
    · rename_i e; rw [if_pos e]; omega
    · rename_i e; rw [if_neg e]; rw [ladd_len] at h; omega
theorem thL_len (bs us : List Bd) : (thL bs us).length ≤ bs.length + us.length := by
  have := th2_len bs us (th1 us bs [])
  rw [th1_len] at this
  simpa [thL] using this

/-- What a variable stands for then. -/
def thS (σ τ : Int → Option (Int × Int × Fo)) (x : Int) : Option (Int × Int × Fo) :=
  match σ x with
  | some t => some (tsub τ t.1 t.2.1 t.2.2)
  | none => τ x
theorem thS_some {σ τ : Int → Option (Int × Int × Fo)} {x : Int} {t : Int × Int × Fo} (h : σ x = some t) : thS σ τ x = some (tsub τ t.1 t.2.1 t.2.2) := by unfold thS; rw [h]
theorem thS_none {σ τ : Int → Option (Int × Int × Fo)} {x : Int} (h : σ x = none) : thS σ τ x = τ x := by unfold thS; rw [h]
theorem tsub_none {σ : Int → Option (Int × Int × Fo)} {s v : Int} {k : Fo} (e : s = 0) (h : σ v = none) : tsub σ s v k = (s, v, k) := by unfold tsub; rw [if_pos e, h]; rfl
theorem tsub_thV {σ τ : Int → Option (Int × Int × Fo)} {s v : Int} {k : Fo} (e : s = 0) : tsub τ (tsub σ s v k).1 (tsub σ s v k).2.1 (tsub σ s v k).2.2 = tsub (thS σ τ) s v k := by
  cases h : σ v with
  | some t => rw [tsub_var e h, tsub_var e (thS_some h)]
  | none =>
    rw [tsub_none e h]
    unfold tsub
    rw [if_pos e, if_pos e, thS_none h]
theorem fsub_th {σ τ : Int → Option (Int × Int × Fo)} : ∀ k : Fo, fsub τ (fsub σ k) = fsub (thS σ τ) k
  | .nil => rfl
  | .node x y p k r => by
    rw [fsub_sign (σ := σ), fsub_sign (σ := τ), fsub_sign (σ := thS σ τ), fsub_th r]
    by_cases e : p.1 = 0
    · rw [tsub_thV e]
    · rw [tsub_sym e, tsub_sym (σ := thS σ τ) e, tsub_sym (σ := τ) e, fsub_th k]
theorem tsub_th {σ τ : Int → Option (Int × Int × Fo)} (s v : Int) (k : Fo) : tsub τ (tsub σ s v k).1 (tsub σ s v k).2.1 (tsub σ s v k).2.2 = tsub (thS σ τ) s v k := by
  by_cases e : s = 0
  · exact tsub_thV e
  · rw [tsub_sym e, tsub_sym (σ := thS σ τ) e, tsub_sym (σ := τ) e, fsub_th k]

theorem sv_none_of : ∀ {bs : List Bd} {x : Int}, (∀ y ∈ bs, y.1 ≠ x) → sv bs x = none
  | [], _, _ => rfl
  | y :: r, x, h => by
    simp only [sv]
    rw [if_neg (h y (List.mem_cons_self ..))]
    exact sv_none_of fun z hz => h z (List.mem_cons_of_mem _ hz)
theorem sv_lt {bs : List Bd} {y : Bd} (ha : Asc (y :: bs)) : sv bs y.1 = none := sv_none_of fun z hz e => by
  have := (List.pairwise_cons.1 ha).1 z hz; omega
theorem th1_sv (us : List Bd) : ∀ (bs out : List Bd), Asc bs → (∀ y ∈ bs, sv out y.1 = none) → ∀ x, sv (th1 us bs out) x = match sv bs x with
    | some t => some (tsub (sv us) t.1 t.2.1 t.2.2)
    | none => sv out x
  | [], _, _, _, _ => rfl
  | y :: r, out, ha, hn, x => by
    have h0 := hn y (List.mem_cons_self ..)
    have hr := (List.pairwise_cons.1 ha).1
    simp only [th1]
    rw [th1_sv us r _ (List.pairwise_cons.1 ha).2 (fun z hz => by
      rw [sv_ladd (b := (y.1, tsub (sv us) y.2.1 y.2.2.1 y.2.2.2)) h0, if_neg (by have := hr z hz; dsimp only; omega)]
      exact hn z (List.mem_cons_of_mem _ hz)) x]
    rw [sv_ladd (b := (y.1, tsub (sv us) y.2.1 y.2.2.1 y.2.2.2)) h0]
    simp only [sv]
    by_cases e : y.1 = x
    · subst e
      rw [sv_lt ha]
      simp
    · rw [if_neg e]
      simp only [if_neg e]
theorem th2_sv (bs : List Bd) : ∀ (us out : List Bd), Asc us → (∀ y ∈ us, sv bs y.1 = none → sv out y.1 = none) → ∀ x, sv (th2 bs us out) x = match sv bs x with
    | some _ => sv out x
    | none => match sv us x with
      | some t => some t
      | none => sv out x
  | [], out, _, _, x => by simp only [th2, sv]; cases sv bs x <;> rfl
  | y :: r, out, ha, hn, x => by
    have hr := (List.pairwise_cons.1 ha).1
    simp only [th2]
    cases hb : sv bs y.1 with
    | some t =>
      rw [if_pos (show (some t).isSome = true from rfl), th2_sv bs r out (List.pairwise_cons.1 ha).2 (fun z hz => hn z (List.mem_cons_of_mem _ hz)) x]
      cases hx : sv bs x with
      | some _ => rfl
      | none =>
        dsimp only
        simp only [sv]
        rw [if_neg (fun e => by rw [e, hx] at hb; cases hb)]
    | none =>
      have h0 := hn y (List.mem_cons_self ..) hb
      rw [if_neg (by simp), th2_sv bs r (ladd out y) (List.pairwise_cons.1 ha).2 (fun z hz hz2 => by
        rw [sv_ladd h0, if_neg (by have := hr z hz; omega)]
        exact hn z (List.mem_cons_of_mem _ hz) hz2) x]
      rw [sv_ladd h0]
      simp only [sv]
      by_cases e : y.1 = x
      · subst e
        rw [hb, sv_lt ha]
        simp
      · simp only [if_neg e]
theorem th1_asc (us : List Bd) : ∀ (bs out : List Bd), Asc bs → Asc out → (∀ y ∈ bs, sv out y.1 = none) → Asc (th1 us bs out)
  | [], _, _, h, _ => h
  | y :: r, out, ha, ho, hn => by
    have h0 := hn y (List.mem_cons_self ..)
    have hr := (List.pairwise_cons.1 ha).1
    simp only [th1]
    refine th1_asc us r _ (List.pairwise_cons.1 ha).2 (asc_ladd ho h0) fun z hz => ?_
    rw [sv_ladd (b := (y.1, tsub (sv us) y.2.1 y.2.2.1 y.2.2.2)) h0, if_neg (by have := hr z hz; dsimp only; omega)]
    exact hn z (List.mem_cons_of_mem _ hz)
theorem th2_asc (bs : List Bd) : ∀ (us out : List Bd), Asc us → Asc out → (∀ y ∈ us, sv bs y.1 = none → sv out y.1 = none) → Asc (th2 bs us out)
  | [], _, _, h, _ => h
  | y :: r, out, ha, ho, hn => by
    have hr := (List.pairwise_cons.1 ha).1
    simp only [th2]
    cases hb : sv bs y.1 with
    | some t =>
      rw [if_pos (show (some t).isSome = true from rfl)]
      exact th2_asc bs r out (List.pairwise_cons.1 ha).2 ho fun z hz => hn z (List.mem_cons_of_mem _ hz)
    | none =>
      have h0 := hn y (List.mem_cons_self ..) hb
      rw [if_neg (by simp)]
      refine th2_asc bs r _ (List.pairwise_cons.1 ha).2 (asc_ladd ho h0) fun z hz hz2 => ?_
      rw [sv_ladd h0, if_neg (by have := hr z hz; omega)]
      exact hn z (List.mem_cons_of_mem _ hz) hz2
theorem th12_none (us : List Bd) {bs : List Bd} (ha : Asc bs) : ∀ x, sv bs x = none → sv (th1 us bs []) x = none := fun x hx => by
  rw [th1_sv us bs [] ha (fun _ _ => rfl) x, hx]; rfl
theorem thL_sv {bs us : List Bd} (ha : Asc bs) (hu : Asc us) (x : Int) : sv (thL bs us) x = thS (sv bs) (sv us) x := by
  unfold thL
  rw [th2_sv bs us _ hu (fun y _ hy => th12_none us ha y.1 hy) x, th1_sv us bs [] ha (fun _ _ => rfl) x]
  unfold thS
  cases sv bs x with
  | some t => rfl
  | none => dsimp only; cases sv us x <;> rfl
theorem thL_asc {bs us : List Bd} (ha : Asc bs) (hu : Asc us) : Asc (thL bs us) :=
  th2_asc bs us _ hu (th1_asc us bs [] ha List.Pairwise.nil (fun _ _ => rfl)) fun y _ hy => th12_none us ha y.1 hy

/-- Ascending lists of which variables stand for the same are the same. -/
theorem asc_ext : ∀ {l m : List Bd}, Asc l → Asc m → (∀ x, sv l x = sv m x) → l = m
  | [], [], _, _, _ => rfl
  | [], y :: r, _, _, h => by have := h y.1; simp [sv] at this
  | x :: r, [], _, _, h => by have := h x.1; simp [sv] at this
  | x :: r, y :: q, ha, hb, h => by
    have h1 := (List.pairwise_cons.1 ha).1
    have h2 := (List.pairwise_cons.1 hb).1
    have e : x.1 = y.1 := by
      rcases Int.lt_trichotomy x.1 y.1 with hl | he | hl
      · have := h x.1
        simp only [sv, if_true] at this
        rw [if_neg (by omega), sv_none_of (fun z hz e => by have := h2 z hz; omega)] at this
        cases this
      · exact he
      · have := h y.1
        simp only [sv, if_true] at this
        rw [if_neg (by omega), sv_none_of (fun z hz e => by have := h1 z hz; omega)] at this
        cases this
    have e2 : x.2 = y.2 := by have := h x.1; simp only [sv, if_true, if_pos e.symm] at this; exact Option.some.inj this
    have e3 : x = y := Prod.ext e e2
    subst e3
    congr 1
    refine asc_ext (List.pairwise_cons.1 ha).2 (List.pairwise_cons.1 hb).2 fun z => ?_
    have hz := h z
    simp only [sv] at hz
    by_cases ez : x.1 = z
    · subst ez; rw [sv_lt ha, sv_lt hb]
    · rw [if_neg ez, if_neg ez] at hz; exact hz
theorem asc_len : ∀ (bs : List Bd) (last : Int), last < 12 → Asc bs → (∀ x ∈ bs, last < x.1 ∧ x.1 < 12) → last + bs.length < 12
  | [], _, h, _, _ => by simpa using h
  | x :: r, last, h, ha, hr => by
    have h1 := hr x (List.mem_cons_self ..)
    have := asc_len r x.1 h1.2 (List.pairwise_cons.1 ha).2 fun z hz => ⟨(List.pairwise_cons.1 ha).1 z hz, (hr z (List.mem_cons_of_mem _ hz)).2⟩
    rw [List.length_cons]; omega
theorem sokFrom_in {room : Int} : ∀ (bs : List Bd) (last : Int), sokFrom room last bs = true → Asc bs ∧ ∀ x ∈ bs, last < x.1 ∧ x.1 < 12 ∧ okW x.2.1 x.2.2.1 x.2.2.2 room = true
  | [], _, _ => ⟨List.Pairwise.nil, fun _ h => by cases h⟩
  | x :: r, last, h => by
    simp only [sokFrom, Bool.and_eq_true, decide_eq_true_eq] at h
    obtain ⟨h1, h2⟩ := sokFrom_in r x.1 h.2.2.2
    refine ⟨List.pairwise_cons.2 ⟨fun z hz => (h2 z hz).1, h1⟩, fun z hz => ?_⟩
    rcases List.mem_cons.1 hz with rfl | hz
    · exact ⟨h.2.1, h.2.2.1, h.1⟩
    · have := h2 z hz
      exact ⟨by omega, this.2.1, this.2.2⟩
theorem sok_in {room : Int} {bs : List Bd} (h : sok room bs = true) : Asc bs ∧ ∀ x ∈ bs, -1 < x.1 ∧ x.1 < 12 ∧ okW x.2.1 x.2.2.1 x.2.2.2 room = true := sokFrom_in bs (-1) h
theorem sok_iff {bs : List Bd} : sok 16 bs = true ↔ Asc bs ∧ ∀ x ∈ bs, -1 < x.1 ∧ x.1 < 12 ∧ okW x.2.1 x.2.2.1 x.2.2.2 16 = true := ⟨sok_in, fun h => sokFrom_of bs (-1) h.1 h.2⟩
theorem sok_sv {room : Int} {bs : List Bd} (h : sok room bs = true) {x : Int} {t : Int × Int × Fo} (hx : sv bs x = some t) : -1 < x ∧ x < 12 ∧ okW t.1 t.2.1 t.2.2 room = true := (sok_in h).2 _ (mem_sv hx)

/-- Each term has so many signs at most. -/
def smallL (lim : Int) (bs : List Bd) : Bool := bs.all fun x => decide (1 + (fsz x.2.2.2 : Int) ≤ lim)
/-- The answer of SubstThen. -/
def thR (bs us : List Bd) : List Bd × Bool := if sok 16 bs = true ∧ sok 16 us = true ∧ smallL 16 (thL bs us) = true then (thL bs us, true) else ([], false)

theorem th_ok {bs us : List Bd} (hb : sok 16 bs = true) (hu : sok 16 us = true) : Asc (thL bs us) ∧ ∀ x ∈ thL bs us, -1 < x.1 ∧ x.1 < 12 ∧ okN x.2.1 x.2.2.1 (flen x.2.2.2) = true ∧ fok x.2.2.2 = true ∧ fsz x.2.2.2 ≤ 1000 := by
  have a1 := (sok_in hb).1
  have a2 := (sok_in hu).1
  refine ⟨thL_asc a1 a2, fun x hx => ?_⟩
  have hs := sv_mem (thL_asc a1 a2) hx
  rw [thL_sv a1 a2] at hs
  cases h : sv bs x.1 with
  | some t =>
    rw [thS_some h] at hs
    have h1 := sok_sv hb h
    have h2 := tsub_ok hu h1.2.2
    rw [Option.some.inj hs] at h2
    exact ⟨h1.1, h1.2.1, h2.1, h2.2.1, h2.2.2⟩
  | none =>
    rw [thS_none h] at hs
    have h1 := sok_sv hu hs
    have h2 := (okW_iff _ _ _ _).1 h1.2.2
    exact ⟨h1.1, h1.2.1, h2.1, h2.2.1, by omega⟩
theorem th_sok {bs us : List Bd} (hb : sok 16 bs = true) (hu : sok 16 us = true) : sok 16 (thL bs us) = smallL 16 (thL bs us) := by
  obtain ⟨h1, h2⟩ := th_ok hb hu
  rw [Bool.eq_iff_iff, sok_iff]
  unfold smallL
  rw [List.all_eq_true]
  constructor
  · exact fun h x hx => decide_eq_true ((okW_iff _ _ _ _).1 (h.2 x hx).2.2).2.2
  · exact fun h => ⟨h1, fun x hx => by
      have := h2 x hx
      exact ⟨this.1, this.2.1, (okW_iff _ _ _ _).2 ⟨this.2.2.1, this.2.2.2.1, of_decide_eq_true (h x hx)⟩⟩⟩
theorem thR_cases {bs us : List Bd} {l : List Bd} {t : Bool} (h : thR bs us = (l, t)) : (t = false ∧ l = []) ∨ (t = true ∧ sok 16 bs = true ∧ sok 16 us = true ∧ l = thL bs us ∧ sok 16 l = true) := by
  unfold thR at h
  split at h
  · rename_i hc
    simp only [Prod.mk.injEq] at h
    obtain ⟨rfl, rfl⟩ := h
    exact .inr ⟨rfl, hc.1, hc.2.1, rfl, by rw [th_sok hc.1 hc.2.1]; exact hc.2.2⟩
  · simp only [Prod.mk.injEq] at h
    exact .inl ⟨h.2.symm, h.1.symm⟩
theorem thR_sv {bs us l : List Bd} (h : thR bs us = (l, true)) (x : Int) : sv l x = thS (sv bs) (sv us) x := by
  rcases thR_cases h with ⟨h, _⟩ | ⟨_, h1, h2, rfl, _⟩
  · cases h
  · exact thL_sv (sok_in h1).1 (sok_in h2).1 x
theorem th_sub {bs us l : List Bd} (h : thR bs us = (l, true)) (s v : Int) (k : Fo) : tsub (sv l) s v k = tsub (sv us) (tsub (sv bs) s v k).1 (tsub (sv bs) s v k).2.1 (tsub (sv bs) s v k).2.2 := by
  rw [tsub_th]
  exact tsub_congr fun x _ => thR_sv h x
/-- P21. -/
theorem th_twice {bs us l : List Bd} (h : thR bs us = (l, true)) {s v s1 v1 s2 v2 : Int} {k k1 k2 : Fo} (h1 : sdR bs s v k = (s1, v1, k1, true)) (h2 : sdR us s1 v1 k1 = (s2, v2, k2, true)) : sdR l s v k = (s2, v2, k2, true) := by
  rcases sdR_cases h1 with ⟨e, _⟩ | ⟨_, _, ho, ht, _⟩
  · cases e
  rcases sdR_cases h2 with ⟨e, _⟩ | ⟨_, _, _, ht2, ho2⟩
  · cases e
  rcases thR_cases h with ⟨e, _⟩ | ⟨_, _, _, _, hs⟩
  · cases e
  refine sdR_of hs ho ?_ (by have := ((okW_iff _ _ _ _).1 ho2).2.2; omega)
  rw [th_sub h, ht]; exact ht2
/-- P22. -/
theorem th_three {bs us ws x y z v : List Bd} (h : thR bs us = (x, true)) (h1 : thR x ws = (y, true)) (h2 : thR us ws = (z, true)) (h3 : thR bs z = (v, true)) : y = v := by
  rcases thR_cases h1 with ⟨e, _⟩ | ⟨_, _, _, _, hy⟩
  · cases e
  rcases thR_cases h3 with ⟨e, _⟩ | ⟨_, _, _, _, hv⟩
  · cases e
  refine asc_ext (sok_in hy).1 (sok_in hv).1 fun w => ?_
  rw [thR_sv h1, thR_sv h3]
  unfold thS
  cases hb : sv bs w with
  | some t =>
    have hx := thR_sv h w
    rw [thS_some hb] at hx
    rw [hx]
    dsimp only
    rw [tsub_th, tsub_congr (τ := sv z) fun u _ => (thR_sv h2 u).symm]
  | none =>
    have hx := thR_sv h w
    rw [thS_none hb] at hx
    rw [hx]
    dsimp only
    rw [thR_sv h2]; rfl
end Go.Proofs.Ytpfkhgiiojikbaa

/-! TI: The program's then: what variables stand for, if others are put into that. -/
namespace Go.Proofs.Ytpfkhgiiojikbaa
open Go.RowKit Go.Deep Go.Maps

/-- What the copy says, while some are still to come. -/
def thF (bs us : List Bd) (left : Lit → Bool) (x : Int) : Option (Int × Int × Fo) := if left (.int .i64 x) = true then sv us x else thS (sv bs) (sv us) x
theorem thF_step {bs us : List Bd} {left : Lit → Bool} {x : Int} {t : Int × Int × Fo} (hs : sv bs x = some t) (y : Int) : thF bs us (fun z => left z && !z.sameKey (.int .i64 x)) y = if x = y then some (tsub (sv us) t.1 t.2.1 t.2.2) else thF bs us left y := by
  unfold thF
  by_cases e : x = y
  · subst e
    rw [if_pos rfl, if_neg (by simp [Lit.sameKey]), thS_some hs]
  · rw [if_neg e]
    have : (Lit.int .i64 y).sameKey (.int .i64 x) = false := by simp [Lit.sameKey]; exact fun h => e h.symm
    simp only [this, Bool.not_false, Bool.and_true]
theorem thF_rng {bs us : List Bd} (h1 : Rng (sv bs)) (h2 : Rng (sv us)) (left : Lit → Bool) : Rng (thF bs us left) := fun x t ht => by
  unfold thF at ht
  split at ht
  · exact h2 x t ht
  · cases hb : sv bs x with
    | some u => exact h1 x u hb
    | none => rw [thS_none hb] at ht; exact h2 x t ht
theorem below_grown {w w' : World} (h : Below w.heap.size w w') (row : Option Nat) : w.grownBy w' row := ⟨h.os, h.tape, h.output, h.size, fun i hi _ => h.block i hi⟩
def TnPost (bs us : List Bd) (w : World) (e : Ending) (w' : World) : Prop := ∃ g, e = .returned (.map (some g)) ∧ Below w.heap.size w w' ∧ MapF w' g (thS (sv bs) (sv us)) ∧ w.heap.size ≤ g

set_option maxRecDepth 100000 in
set_option maxHeartbeats 2000000 in
theorem then_any (bs us : List Bd) (b c : Nat) (w : World) (hm : MapIs w b bs) (hu : MapIs w c us) (hr1 : Rng (sv bs)) (hr2 : Rng (sv us)) (hbo : Bof bs 1000) :
    Calls Try.prog 47 #[.map (some b), .map (some c)] w (TnPost bs us w) := by
  have HU := Lib.hid hu
  have HR1 := Lib.hid hr1
  have HR2 := Lib.hid hr2
  have HBO := Lib.hid hbo
  obtain ⟨n1, D1, hown1, hn1, hx1⟩ := hm
  have HX1 := Lib.hid hx1
  have HO1 := Lib.hid hown1
  have hbl := hown1.lt
  have hHF : Hid (MapF w c (sv us)) := hu.toF hr2
  obtain ⟨D2, hown2, hx2⟩ := hHF.out
  have hcon : Calls Try.prog 79 #[.map (some c)] w (fun e w' => e = .returned (.map (some w.heap.size)) ∧ w'.ownsMap Try.prog 114 rdV w.heap.size 12 D2 ∧ w'.ownsMap Try.prog 114 rdV c 12 D2 ∧ Below w.heap.size w w') := AnyW.maps_Clone_owns Try.cloneS 114 rdV c 12 D2 w hown2
  have HX2 := Lib.hid hx2
  clear hown1 hx1 hu hr1 hr2 hbo hown2 hHF hx2
  go_enter Try.func47, Try.ntmps47
  go_wp2_with fail
  with_reducible refine hcon.mono ?_
  rintro e w1 ⟨rfl, ho1, _, hb1⟩
  have hown1 : w1.ownsMap Try.prog 114 rdV b n1 D1 := by
    obtain ⟨es, clock, h1, h2⟩ := HO1.out
    exact ⟨es, clock, (hb1.block b hbl).trans h1, h2⟩
  have hgl := ho1.lt
  have HF1 : Hid (MapF w1 w.heap.size (sv us)) := ⟨D2, ho1, fun x hw => ⟨(HX2.out x hw).1, fun s v k hs => by
    obtain ⟨h1, nv, h2, h3⟩ := (HX2.out x hw).2 s v k hs
    exact ⟨h1, nv, h2, (h3.below hb1).mono (Nat.le_refl _) hb1.size⟩⟩⟩
  have HB1 := Lib.hid hb1
  clear hcon ho1 HX2 HO1 hb1
  have HOWN := Lib.hid hown1
  clear hown1
  go_wp2_with (at_range; refine wpList_range_own _ rfl _ 69 rfl 114 77 law underM rdV b n1 D1 rfl HOWN.out ?_; intro w0 hrg0 hg0 hs0)
  go_frame
  have HRG := Lib.hid hrg0
  have hb0 : Below w1.heap.size w1 w0 := ⟨hg0.os, hg0.tape, hg0.output, hg0.size, fun i hi => hg0.block i hi (by simp)⟩
  have HF0 : Hid (MapF w0 w.heap.size (thF bs us (Maps.has D1))) := (HF1.out.below hb0).congr fun x hw => by
    unfold thF
    split
    · rfl
    · rename_i h
      cases hs : sv bs x with
      | none => rw [thS_none hs]
      | some t => exact absurd ((HX1.out x hw).2 _ _ _ hs).1 h
  have HB0 : Hid (Below w.heap.size w w0) := HB1.out.trans (hb0.mono HB1.out.size)
  have hr0 : w.heap.size < w1.heap.size := hgl
  clear hrg0 hg0 hb0 HF1 HB1 HOWN hgl
  generalize w1.heap.size = r at *
  go_loopw [6] (fun _ wr => ∃ (left : Lit → Bool) (cnt : Nat), Hid (wr.ranges Try.prog 114 rdV b r n1 D1 left cnt) ∧ Hid (MapF wr w.heap.size (thF bs us left)) ∧ Hid (Below w.heap.size w wr)) (fun _ wr => wr.rangeLeft b r)
  case atStart => exact ⟨_, _, HRG, HF0, HB0⟩
  case round =>
    clear HRG HF0 HB0
    obtain ⟨left, cnt, HRG, HF, HB⟩ := hrel
    go_wp2_with (at_next; refine wpList_next_ranges (α := Int) (β := Value) _ rfl _ rfl 114 law rdV (Value.int .i64) (fun v => v) (fun key kl hkey => by obtain ⟨x, rfl, _⟩ := Maps.keyOf_int_inv (q := .i64) (by kernel_rfl) hkey; exact ⟨x, rfl⟩) (fun v y _ => ⟨v, rfl⟩) b r n1 D1 left cnt rfl HRG.out ?_ ?_)
    · intro hc0 hl0
      have HFE : Hid (MapF wr w.heap.size (thS (sv bs) (sv us))) := HF.out.congr fun x _ => by unfold thF; rw [if_neg (by rw [hl0]; simp)]
      go_wp2_with fail
      go_ret
      exact ⟨_, rfl, HB.out, HFE.out, Nat.le_refl _⟩
    · intro x cv kl yd yl w2 cnt1 hkey hlx hv hat hrg2 hlt hg2 hs2 hen
      obtain ⟨x', ex, rfl, hwx⟩ := Maps.keyOf_int_inv (q := .i64) (by kernel_rfl) hkey
      obtain rfl : x = x' := by simpa using ex
      obtain ⟨s, v, k, hsx, nv, hnode, rfl⟩ : ∃ s v k, sv bs x = some (s, v, k) ∧ ∃ nv, NodeIs w 0 w.heap.size nv s v k ∧ nv = cv := by
        have hh := ranges_has HRG.out law hlx
        cases hs : sv bs x with
        | none => rw [(HX1.out x hwx).1 hs] at hh; cases hh
        | some t =>
          obtain ⟨_, nv, h2, h3⟩ := (HX1.out x hwx).2 t.1 t.2.1 t.2.2 hs
          refine ⟨_, _, _, rfl, nv, h3, ?_⟩
          have h4 := hat (.held .nilIface)
          rw [h2] at h4
          simp only [rdV, Option.some.injEq, Prod.mk.injEq] at hv
          rw [← hv.1] at h4
          exact DataW.held.inj h4
      have hxr := HR1.out x _ hsx
      have hbk := HBO.out x _ hsx
      have hcell := ranges_cells HRG.out hg2
      have hrl := HRG.out.lt
      have hlf := HRG.out.left_eq
      have HF2 := Lib.hid (HF.out.keep hg2 (show w.heap.size ≠ r by omega) hcell)
      have HB2 : Hid (Below w.heap.size w w2) := HB.out.grown hg2 HB.out.size (fun j hj => by cases hj; omega)
      have HN2 : Hid (NodeIs w2 0 w2.heap.size nv s v k) := (hnode.below HB2.out).mono (Nat.le_refl _) HB2.out.size
      have HC := Lib.hid (apply_any us c s v k nv w2 HN2.out (HU.out.below HB2.out) hbk.1 hbk.2.1 hbk.2.2)
      have HRG2 := Lib.hid hrg2
      have HST := Lib.hid (fun y => thF_step (us := us) (left := left) hsx y)
      clear hnode hat hv hkey hrg2 hg2 hcell hbk hsx hlx
      go_wp2_with fail
      with_reducible refine HC.out.mono ?_
      rintro e w4 ⟨nv1, rfl, hb4, hn4⟩
      have HN4 := Lib.hid hn4
      have HF4 := Lib.hid (HF2.out.below hb4)
      have HB4 := Lib.hid (HB2.out.trans (hb4.mono HB2.out.size))
      have HRG4 := Lib.hid (HRG2.out.kept (below_grown hb4 none) (by simp) (by simp))
      clear hb4 hn4 HC HF2 HB2 HN2 HRG2 hen
      obtain ⟨D4, hown4, hx4⟩ := HF4.out
      have HOWN4 := Lib.hid hown4
      have HX4 := Lib.hid hx4
      have hm12 : 12 < maxLen := by unfold maxLen; omega
      have HKEY := Lib.hid (key_of hwx)
      clear hown4 hx4 HF4
      go_wp2_with (at_mapUpdate; refine wpList_mapUpdate_own (H := Value) _ rfl _ _ _ 69 rfl 114 77 law underM rdV w.heap.size 12 D4 rfl HOWN4.out hm12 (.int .i64 x) nv1 (.int .i64 x) rfl rfl HKEY.out (.held nv1) [] rfl ?_; intro w5 hown5 hgrow5; have HF5 := Lib.hid (MapF.put (t := tsub (sv us) s v k) HOWN4.out HX4.out (thF_rng HR1.out HR2.out left) hxr hown5 hgrow5 HN4.out); have HG5 := Lib.hid hgrow5; clear hown5 hgrow5; go_frame)
      have HRG5 := Lib.hid (HRG4.out.kept HG5.out (fun e => by have := Option.some.inj e; omega) (fun e => by have := Option.some.inj e; omega))
      go_roundw
      case rel => exact ⟨_, cnt1, HRG5, HF5.out.congr fun y _ => HST.out y, HB4.out.grown HG5.out HB4.out.size (fun j hj => by cases hj; exact Nat.le_refl _)⟩
      case measure => rw [HRG5.out.left_eq, hlf]; exact hlt
end Go.Proofs.Ytpfkhgiiojikbaa

/-! PF2: Rows of rows of the call's own, each row in blocks of its own. Definitions and plain lemmas. -/
namespace Go.Proofs.Ytpfkhgiiojikbaa
open Go.RowKit Go.Deep

/-- A row of numbers of one's own, in blocks from L on below H. -/
structure RwF (w : World) (L H : Nat) (a : Option Addr) (c : Nat) (r : List Int) : Prop where
  own : IOwn w L r a c
  hi : ∀ g, (Value.slice a r.length c).ownBlock = some g → g < H
theorem RwF.same {w w2 : World} {L H : Nat} {a : Option Addr} {c : Nat} {r : List Int} (h : RwF w L H a c r) (hs : ∀ b, L ≤ b → b < H → w2.heap[b]? = w.heap[b]?) : RwF w2 L H a c r := by
  refine ⟨⟨h.own.1, ?_⟩, h.hi⟩
  rcases h.own.2 with h2 | ⟨g, cap, cur, h3, h4, h5, h6⟩
  · exact .inl h2
  · have hg : g < H := h.hi g (by rw [h3]; rfl)
    exact .inr ⟨g, cap, cur, h3, h4, by rw [hs g h4 hg]; exact h5, h6⟩
theorem RwF.sc {w : World} {L H : Nat} {a : Option Addr} {c : Nat} {r : List Int} (h : RwF w L H a c r) : ISc w L H a c r := by
  refine ⟨?_, (isc_of_own h.own).2⟩
  rcases Nat.eq_zero_or_pos r.length with h0 | h0
  · exact .inl (List.eq_nil_of_length_eq_zero h0)
  · obtain ⟨g, cap, hv, hb, hlt⟩ := h.own.form h0
    have hg : g < H := h.hi g (by rw [hv]; rfl)
    rcases h.own.sl with h1 | ⟨b, o, e, h1, h2, h3⟩
    · exact .inl h1
    · simp only [Value.slice.injEq] at hv
      rw [hv.1] at e
      simp only [Option.some.injEq, Addr.mk.injEq] at e
      refine .inr ⟨b, o, by rw [hv.1]; simp [e.1, e.2.1], h1, by omega, h3⟩

/-- The rows lie in row (A, C), row i from block lo i on below hi i, one behind the other. -/
structure RF (w : World) (base : Nat) (rows : List (List Int)) (A : Option Addr) (C : Nat) (xs : List Value) (lo hi : Nat → Nat) : Prop where
  own : w.ownsRow base 52 1 (.slice A rows.length C) rows.length xs
  up : ∀ i j, i < j → j < rows.length → hi i ≤ lo j
  at_ : ∀ (i : Nat) (r : List Int), rows[i]? = some r → ∃ a' c', xs[i]? = some (Value.slice a' r.length c') ∧ RwF w (lo i) (hi i) a' c' r ∧ base ≤ lo i ∧ hi i ≤ w.heap.size ∧ (∀ g, (Value.slice A rows.length C).ownBlock = some g → g < lo i ∨ hi i ≤ g)
def ROwnF (w : World) (base : Nat) (rows : List (List Int)) (A : Option Addr) (C : Nat) : Prop := ∃ xs lo hi, RF w base rows A C xs lo hi
theorem RF.all {w : World} {base : Nat} {rows : List (List Int)} {A : Option Addr} {C : Nat} {xs : List Value} {lo hi : Nat → Nat} (h : RF w base rows A C xs lo hi) :
    ∀ (i : Nat) (r : List Int), rows[i]? = some r → ∃ a' c' L H, xs[i]? = some (Value.slice a' r.length c') ∧ ISc w L H a' c' r ∧ base ≤ L ∧ H ≤ w.heap.size ∧ (∀ g, (Value.slice A rows.length C).ownBlock = some g → g < L ∨ H ≤ g) := fun i r hr => by
  obtain ⟨a', c', hx, hw, h1, h2, h3⟩ := h.at_ i r hr
  exact ⟨a', c', lo i, hi i, hx, hw.sc, h1, h2, h3⟩
theorem ROwnF.to {w : World} {base : Nat} {rows : List (List Int)} {A : Option Addr} {C : Nat} (h : ROwnF w base rows A C) : ROwn w base rows A C := by
  obtain ⟨xs, lo, hi, h⟩ := h
  exact ⟨xs, h.own, h.all⟩
theorem RF.low {w w2 : World} {base base' : Nat} {rows : List (List Int)} {A : Option Addr} {C : Nat} {xs : List Value} {lo hi : Nat → Nat} (h : RF w base rows A C xs lo hi) (hb : Below w.heap.size w w2) (hbase : base' ≤ base) : RF w2 base' rows A C xs lo hi := by
  refine ⟨own_base hbase (own_low hb h.own), h.up, fun i r hr => ?_⟩
  obtain ⟨a', c', hx, hw, h1, h2, h3⟩ := h.at_ i r hr
  exact ⟨a', c', hx, hw.same (fun b _ hb' => hb.block b (by omega)), by omega, Nat.le_trans h2 hb.size, h3⟩
theorem ROwnF.low {w w2 : World} {base base' : Nat} {rows : List (List Int)} {A : Option Addr} {C : Nat} (h : ROwnF w base rows A C) (hb : Below w.heap.size w w2) (hbase : base' ≤ base) : ROwnF w2 base' rows A C := by
  obtain ⟨xs, lo, hi, h⟩ := h
  exact ⟨xs, lo, hi, h.low hb hbase⟩
/-- One more row is appended. -/
theorem RF.append {w w2 w3 : World} {base : Nat} {rows : List (List Int)} {A A' : Option Addr} {C C' : Nat} {blk : Obj} {r : List Int} {a2 : Option Addr} {c2 : Nat} {xs : List Value} {lo hi : Nat → Nat} (h : RF w base rows A C xs lo hi)
    (hown3 : w3.ownsRow base 52 1 (.slice A' (rows.length + 1) C') (rows.length + 1) (xs ++ [.slice a2 r.length c2])) (hb2 : Below w.heap.size w w2) (hi2 : IOwn w2 w.heap.size r a2 c2) (hbase : base ≤ w.heap.size)
    (hgrow : (w2.alloc blk).grownBy w3 (Value.slice A rows.length C).ownBlock) (hat : (Value.slice A' (rows.length + 1) C').ownBlock = (Value.slice A rows.length C).ownBlock ∨ (Value.slice A' (rows.length + 1) C').ownBlock = some (w2.heap.size + 1)) : ROwnF w3 base (rows ++ [r]) A' C' := by
  have hs2 := hb2.size
  have hs3 := hgrow.size
  simp at hs3
  have hxl : xs.length = rows.length := by have := h.own.1; omega
  have hl : (rows ++ [r]).length = rows.length + 1 := by simp
  refine ⟨xs ++ [.slice a2 r.length c2], fun i => if i < rows.length then lo i else w.heap.size, fun i => if i < rows.length then hi i else w2.heap.size, by rw [hl]; exact hown3, fun i j hij hj => ?_, fun i r' hr => ?_⟩
  · rw [hl] at hj
    rw [if_pos (by omega)]
    split
    · exact h.up i j hij (by omega)
    · obtain ⟨a', c', _, _, _, h2, _⟩ := h.at_ i rows[i] (List.getElem?_eq_getElem (by omega))
      exact h2
  have hcond : ∀ {L H : Nat}, (∀ g, (Value.slice A rows.length C).ownBlock = some g → g < L ∨ H ≤ g) → H ≤ w2.heap.size → ∀ g', (Value.slice A' (rows.length + 1) C').ownBlock = some g' → g' < L ∨ H ≤ g' := fun hg hH g' hg' => by
    rcases hat with h1 | h1
    · exact hg g' (by rw [← h1]; exact hg')
    · rw [h1] at hg'; simp at hg'; omega
  by_cases hi' : i < rows.length
  · rw [List.getElem?_append_left hi'] at hr
    obtain ⟨a', c', hx, hsl, hL, hH, hg⟩ := h.at_ i r' hr
    simp only [if_pos hi']
    refine ⟨a', c', by rw [List.getElem?_append_left (by omega)]; exact hx, hsl.same (fun b h1 h2 => ?_), hL, by omega, by rw [hl]; exact hcond hg (by omega)⟩
    rw [hgrow.block b (by simp; omega) (fun e => by have := hg b e.symm; omega), Below.heap_alloc _ _ _ (by omega), hb2.block b (by omega)]
  · have hir : i = rows.length := by
      have := (List.getElem?_eq_some_iff.1 hr).1
      simp at this
      omega
    subst hir
    simp at hr
    subst hr
    simp only [if_neg hi']
    refine ⟨a2, c2, by rw [← hxl]; simp, RwF.same ⟨hi2, fun g hg => (hi2.lt g hg).2⟩ (fun b h1 h2 => ?_), hbase, by omega, by rw [hl]; exact hcond (fun g hg => .inl (h.own.lt _ hg).2) (Nat.le_refl _)⟩
    rw [hgrow.block b (by simp; omega) (fun e => by have := (h.own.lt b e.symm).2; omega), Below.heap_alloc _ _ _ (by omega)]

/-- The first row: the root's own. -/
theorem rownF_start {w w3 : World} (hb : Below ((w.alloc (.cells #[] 3)).alloc (.cells #[.slice (some ⟨w.heap.size, 0, none⟩) 0 0] 52)).heap.size ((w.alloc (.cells #[] 3)).alloc (.cells #[.slice (some ⟨w.heap.size, 0, none⟩) 0 0] 52)) w3) :
    ROwnF w3 w.heap.size [[]] (some ⟨w.heap.size + 1, 0, none⟩) 1 := by
  refine ROwnF.low (w := (w.alloc (.cells #[] 3)).alloc (.cells #[.slice (some ⟨w.heap.size, 0, none⟩) 0 0] 52)) ⟨[.slice (some ⟨w.heap.size, 0, none⟩) 0 0], fun _ => w.heap.size, fun _ => w.heap.size + 1, ⟨rfl, .inr ⟨w.heap.size + 1, 1, #[.slice (some ⟨w.heap.size, 0, none⟩) 0 0], rfl, by omega, ?_, Nat.le_refl _, by decide, rfl, rfl⟩⟩, fun i j h1 h2 => ?_, fun i r hr => ?_⟩ hb (Nat.le_refl _)
  · have := heap_alloc_new (w.alloc (.cells #[] 3)) (.cells #[.slice (some ⟨w.heap.size, 0, none⟩) 0 0] 52)
    simpa using this
  · simp at h2; omega
  · have hi : i = 0 := by
      have := (List.getElem?_eq_some_iff.1 hr).1
      simp at this
      exact this
    subst hi
    simp at hr
    subst hr
    refine ⟨_, 0, rfl, ⟨⟨rfl, .inr ⟨w.heap.size, 0, #[], rfl, Nat.le_refl _, ?_, Nat.le_refl _, by decide, rfl, rfl⟩⟩, fun g hg => by simp [Value.ownBlock] at hg; omega⟩, Nat.le_refl _, by simp, fun g hg => .inr (by simp [Value.ownBlock] at hg; omega)⟩
    rw [Below.heap_alloc _ _ _ (by simp)]
    exact heap_alloc_new _ _
end Go.Proofs.Ytpfkhgiiojikbaa

/-! RFp: Rows of rows: one row written over. -/
namespace Go.Proofs.Ytpfkhgiiojikbaa
open Go.RowKit Go.Deep

theorem own_block {W w2 : World} {base : Nat} {e : TypeId} {size : Nat} {v : Value} {n : Nat} {xs : List Value} (h : W.ownsRow base e size v n xs) (hs : ∀ g, v.ownBlock = some g → w2.heap[g]? = W.heap[g]?) : w2.ownsRow base e size v n xs := by
  refine ⟨h.1, ?_⟩
  rcases h.2 with h2 | ⟨g, cap, cur, h3, h4, h5, h6⟩
  · exact .inl h2
  · exact .inr ⟨g, cap, cur, h3, h4, by rw [hs g (by rw [h3]; rfl)]; exact h5, h6⟩

/-- Row j has been written over. -/
theorem RF.mark {w w2 : World} {base : Nat} {cur : List (List Int)} {A : Option Addr} {C : Nat} {xs : List Value} {lo hi : Nat → Nat} {j : Nat} {r r2 : List Int} {a : Option Addr} {c : Nat} (h : RF w base cur A C xs lo hi) (hr : cur[j]? = some r) (hx : xs[j]? = some (Value.slice a r.length c))
    (hl : r2.length = r.length) (hown : IOwn w2 (lo j) r2 a c) (hg : w.grownBy w2 (Value.slice a r.length c).ownBlock) : RF w2 base (cur.set j r2) A C xs lo hi := by
  have hj := (List.getElem?_eq_some_iff.1 hr).1
  obtain ⟨a', c', hx', hw, h1, h2, h3⟩ := h.at_ j r hr
  rw [hx] at hx'
  simp only [Option.some.injEq, Value.slice.injEq] at hx'
  obtain ⟨rfl, _, rfl⟩ := hx'
  have hs := hg.size
  have hb : ∀ g, (Value.slice a r.length c).ownBlock = some g → lo j ≤ g ∧ g < hi j := fun g hgg => ⟨(hw.own.lt g hgg).1, hw.hi g hgg⟩
  refine ⟨?_, fun i k hik hk => h.up i k hik (by rwa [List.length_set] at hk), fun i r' hr' => ?_⟩
  · rw [List.length_set]
    refine own_block h.own fun g hgg => hg.block g (h.own.lt g hgg).2 fun e => ?_
    have := h3 g hgg
    have := hb g e.symm
    omega
  · rw [List.length_set]
    by_cases e : i = j
    · subst e
      rw [List.getElem?_set_self hj] at hr'
      obtain rfl := Option.some.inj hr'
      exact ⟨a, c, by rw [hl]; exact hx, ⟨hown, by rw [hl]; exact hw.hi⟩, h1, by omega, h3⟩
    · rw [List.getElem?_set_ne (fun h => e h.symm)] at hr'
      obtain ⟨a', c', gx, gw, g1, g2, g3⟩ := h.at_ i r' hr'
      refine ⟨a', c', gx, gw.same (fun b hb1 hb2 => hg.block b (by omega) fun eb => ?_), g1, by omega, g3⟩
      have := hb b eb.symm
      have hi' := (List.getElem?_eq_some_iff.1 hr').1
      rcases Nat.lt_or_gt_of_ne e with hij | hij
      · have := h.up i j hij hj; omega
      · have := h.up j i hij hi'; omega
end Go.Proofs.Ytpfkhgiiojikbaa

/-! S7: l71Subst. -/
namespace Go.Proofs.Ytpfkhgiiojikbaa
open Go.RowKit Go.Deep

/-- The slice is a row of binds of the call's own; no term lies in the row's own block. -/
def BOwn (w : World) (base : Nat) (bs : List Bd) (A : Option Addr) (C : Nat) : Prop :=
  ∃ xs, w.ownsRow base 75 4 (.slice A bs.length C) bs.length xs ∧ ∀ (i : Nat) (x : Bd), bs[i]? = some x → ∃ a' c' L H, xs[i * 4]? = some (.int .i64 x.1) ∧ xs[i * 4 + 1]? = some (.int .i64 x.2.1) ∧ xs[i * 4 + 2]? = some (.int .i64 x.2.2.1) ∧ xs[i * 4 + 3]? = some (.slice a' (flen x.2.2.2) c') ∧
    Sl w L H a' x.2.2.2 ∧ base ≤ L ∧ H ≤ w.heap.size ∧ ∀ g, (Value.slice A bs.length C).ownBlock = some g → g < L ∨ H ≤ g
theorem BOwn.adv {w w2 : World} {base br p : Nat} {bs : List Bd} {A : Option Addr} {C : Nat} (h : BOwn w base bs A C) (ha : Adv w br p w2) (hb : br < base) : BOwn w2 base bs A C := by
  obtain ⟨xs, hown, hall⟩ := h
  have hs := ha.size
  refine ⟨xs, own_block hown fun g hg => ?_, fun i x hx => ?_⟩
  · have h1 := hown.lt g hg
    exact ha.same (lo := g) (B := g + 1) (by omega) (by omega) g (Nat.le_refl _) (by omega)
  · obtain ⟨a', c', L, H, c0, c1, c2, c3, hl, h1, h2, h3⟩ := hall i x hx
    exact ⟨a', c', L, H, c0, c1, c2, c3, hl.same (ha.same h2 (.inl (by omega))), h1, by omega, h3⟩
theorem BOwn.bsl {w : World} {base : Nat} {bs : List Bd} {A : Option Addr} {C : Nat} (h : BOwn w base bs A C) : BSl w base w.heap.size A bs := by
  obtain ⟨xs, hown, hall⟩ := h
  rcases Nat.eq_zero_or_pos bs.length with h0 | h0
  · exact .inl (List.eq_nil_of_length_eq_zero h0)
  · obtain ⟨g, cap, hv, hb, hlt⟩ := hown.form h0
    have hA : A = some ⟨g, 0, none⟩ := by simp only [Value.slice.injEq] at hv; exact hv.1
    subst hA
    refine .inr ⟨g, 0, rfl, hb, hlt, fun i x hx => ?_⟩
    have hi := (List.getElem?_eq_some_iff.1 hx).1
    obtain ⟨a', c', L, H, c0, c1, c2, c3, hl, h1, h2, h3⟩ := hall i x hx
    refine ⟨a', c', ?_, ?_, ?_, ?_, hl.mono h1 h2⟩
    · rw [Nat.zero_add, hown.cellAt _ (by omega)]; exact c0
    · rw [Nat.zero_add, hown.cellAt _ (by omega)]; exact c1
    · rw [Nat.zero_add, hown.cellAt _ (by omega)]; exact c2
    · rw [Nat.zero_add, hown.cellAt _ (by omega)]; exact c3
/-- One more bind. w: where the row stood; w2: where the new term lies too; blk: the block that shows it to append. -/
theorem BOwn.append {w0 w w2 w3 : World} {base br p : Nat} {bs : List Bd} {A : Option Addr} {C g cap : Nat} {blk : Obj} {x s v : Int} {k : Fo} {a2 : Option Addr} {c2 : Nat} {xs : List Value} (hown : w.ownsRow base 75 4 (.slice A bs.length C) bs.length xs)
    (hall : ∀ (i : Nat) (x : Bd), bs[i]? = some x → ∃ a' c' L H, xs[i * 4]? = some (.int .i64 x.1) ∧ xs[i * 4 + 1]? = some (.int .i64 x.2.1) ∧ xs[i * 4 + 2]? = some (.int .i64 x.2.2.1) ∧ xs[i * 4 + 3]? = some (.slice a' (flen x.2.2.2) c') ∧
      Sl w L H a' x.2.2.2 ∧ base ≤ L ∧ H ≤ w.heap.size ∧ ∀ g, (Value.slice A bs.length C).ownBlock = some g → g < L ∨ H ≤ g)
    (hown3 : w3.ownsRow base 75 4 (.slice (some ⟨g, 0, none⟩) (bs.length + 1) cap) (bs.length + 1) (xs ++ [.int .i64 x, .int .i64 s, .int .i64 v, .slice a2 (flen k) c2])) (ha : Adv w br p w2) (hbr : br < base) (hl2 : Sl w2 w.heap.size w2.heap.size a2 k) (hbase : base ≤ w.heap.size)
    (hgrow : (w2.alloc blk).grownBy w3 (Value.slice A bs.length C).ownBlock) (hatg : (Value.slice A bs.length C).ownBlock = some g ∨ g = w2.heap.size + 1) (ha0 : Adv w0 br p w2) (hw0 : w0.heap.size ≤ base) : BOwn w3 base (bs ++ [(x, s, v, k)]) (some ⟨g, 0, none⟩) cap ∧ Adv w0 br p w3 := by
  have hs2 := ha.size
  have hs3 := hgrow.size
  simp at hs3
  have hxl : xs.length = bs.length * 4 := hown.1
  have hl : (bs ++ [(x, s, v, k)]).length = bs.length + 1 := by simp
  refine ⟨⟨xs ++ [.int .i64 x, .int .i64 s, .int .i64 v, .slice a2 (flen k) c2], by rw [hl]; exact hown3, fun i y hy => ?_⟩, Below.grown (ha0.alloc blk) hgrow (by have := ha0.size; simp; omega) (fun q hq => by have := (hown.lt q hq).1; omega)⟩
  rw [hl]
  by_cases hi : i < bs.length
  · rw [List.getElem?_append_left hi] at hy
    obtain ⟨a', c', L, H, c0, c1, c2', c3, hsl, h1, h2, h3⟩ := hall i y hy
    refine ⟨a', c', L, H, by rw [List.getElem?_append_left (by omega)]; exact c0, by rw [List.getElem?_append_left (by omega)]; exact c1, by rw [List.getElem?_append_left (by omega)]; exact c2', by rw [List.getElem?_append_left (by omega)]; exact c3, hsl.same (fun b hb1 hb2 => ?_), h1, by omega, fun g' hg' => ?_⟩
    · rw [hgrow.block b (by simp; omega) (fun e => by have := h3 b e.symm; omega), Below.heap_alloc _ _ _ (by omega)]
      exact ha.same h2 (.inl (by omega)) b hb1 hb2
    · have : g' = g := by simpa [Value.ownBlock] using hg'.symm
      subst this
      rcases hatg with hg1 | hg1
      · exact h3 _ hg1
      · omega
  · have hi' : i = bs.length := by have := (List.getElem?_eq_some_iff.1 hy).1; omega
    subst hi'
    simp at hy
    subst hy
    refine ⟨a2, c2, w.heap.size, w2.heap.size, ?_, ?_, ?_, ?_, hl2.same (fun b hb1 hb2 => ?_), hbase, by omega, fun g' hg' => ?_⟩
    · rw [List.getElem?_append_right (by omega), hxl]; simp
    · rw [List.getElem?_append_right (by omega), hxl, show bs.length * 4 + 1 - bs.length * 4 = 1 from by omega]; rfl
    · rw [List.getElem?_append_right (by omega), hxl, show bs.length * 4 + 2 - bs.length * 4 = 2 from by omega]; rfl
    · rw [List.getElem?_append_right (by omega), hxl, show bs.length * 4 + 3 - bs.length * 4 = 3 from by omega]; rfl
    · rw [hgrow.block b (by simp; omega) (fun e => by have := (hown.lt b e.symm).2; omega), Below.heap_alloc _ _ _ (by omega)]
    · have : g' = g := by simpa [Value.ownBlock] using hg'.symm
      subst this
      rcases hatg with hg1 | hg1
      · exact .inl (hown.lt _ hg1).2
      · exact .inr (by omega)

theorem Try.infoBind : ∃ i, Try.prog.info? 75 = some i ∧ i.zero = some (.agg #[.int .i64 0, .int .i64 0, .int .i64 0, .slice none 0 0]) ∧ i.size = 4 ∧ i.bytes = 48 := by
  have h : (Try.prog.info? 75).map (fun i => (i.zero, i.size, i.bytes)) = some (some (.agg #[.int .i64 0, .int .i64 0, .int .i64 0, .slice none 0 0]), 4, 48) := by kernel_rfl
  obtain ⟨i, hi, hz⟩ := Option.map_eq_some_iff.1 h
  simp only [Prod.mk.injEq] at hz
  exact ⟨i, hi, hz.1, hz.2.1, hz.2.2⟩
/-- The first bind's term is another one. -/
theorem BOwn.set0 {w w2 : World} {base br p : Nat} {x s v s' v' : Int} {k k' : Fo} {r : List Bd} {g C : Nat} {a2 : Option Addr} {c2 : Nat} (h : BOwn w base ((x, s, v, k) :: r) (some ⟨g, 0, none⟩) C) (ha : Adv w br p w2) (hbr : br < base) (hl : Sl w2 w.heap.size w2.heap.size a2 k') :
    BOwn (((w2.setCell ⟨g, 1, none⟩ (.int .i64 s')).setCell ⟨g, 2, none⟩ (.int .i64 v')).setCell ⟨g, 3, none⟩ (.slice a2 (flen k') c2)) base ((x, s', v', k') :: r) (some ⟨g, 0, none⟩) C := by
  obtain ⟨xs, hown, hall⟩ := h.adv ha hbr
  obtain ⟨xs0, hown0, _⟩ := h
  have hs := ha.size
  have hgl := hown0.lt g rfl
  have h1 := (hown.stored 1 (.int .i64 s')).1
  have h2 := (h1.stored 2 (.int .i64 v')).1
  have h3 := (h2.stored 3 (.slice a2 (flen k') c2)).1
  have hxl : xs.length = (r.length + 1) * 4 := by have := hown.1; simpa using this
  have hS : ∀ {L H : Nat} {a : Option Addr} {kk : Fo}, Sl w2 L H a kk → (g < L ∨ H ≤ g) → Sl (((w2.setCell ⟨g, 1, none⟩ (.int .i64 s')).setCell ⟨g, 2, none⟩ (.int .i64 v')).setCell ⟨g, 3, none⟩ (.slice a2 (flen k') c2)) L H a kk := fun {L H a kk} hsl hg => by
    have h0 : Same L H w2 w2 := fun _ _ _ => rfl
    exact hsl.same (((h0.setCell hg _).setCell hg _).setCell hg _)
  refine ⟨_, h3, fun i y hy => ?_⟩
  cases i with
  | zero =>
    simp at hy
    subst hy
    refine ⟨a2, c2, w.heap.size, w2.heap.size, ?_, ?_, ?_, ?_, hS hl (.inl hgl.2), Nat.le_of_lt (Nat.lt_of_le_of_lt hgl.1 hgl.2), by simp, fun q hq => ?_⟩
    · obtain ⟨_, _, _, _, c0, _⟩ := hall 0 (x, s, v, k) rfl
      rw [List.getElem?_set_ne (by omega), List.getElem?_set_ne (by omega), List.getElem?_set_ne (by omega)]; exact c0
    · rw [List.getElem?_set_ne (by omega), List.getElem?_set_ne (by omega)]; exact List.getElem?_set_self (by omega)
    · rw [List.getElem?_set_ne (by omega)]; exact List.getElem?_set_self (by simp; omega)
    · exact List.getElem?_set_self (by simp; omega)
    · have : q = g := by simpa [Value.ownBlock] using hq.symm
      omega
  | succ n =>
    obtain ⟨a', c', L, H, c0, c1, c2', c3, hsl, e1, e2, e3⟩ := hall (n + 1) y (by simpa using hy)
    refine ⟨a', c', L, H, ?_, ?_, ?_, ?_, hS hsl (e3 g rfl), e1, by simpa using e2, e3⟩
    · rw [List.getElem?_set_ne (by omega), List.getElem?_set_ne (by omega), List.getElem?_set_ne (by omega)]; exact c0
    · rw [List.getElem?_set_ne (by omega), List.getElem?_set_ne (by omega), List.getElem?_set_ne (by omega)]; exact c1
    · rw [List.getElem?_set_ne (by omega), List.getElem?_set_ne (by omega), List.getElem?_set_ne (by omega)]; exact c2'
    · rw [List.getElem?_set_ne (by omega), List.getElem?_set_ne (by omega), List.getElem?_set_ne (by omega)]; exact c3
end Go.Proofs.Ytpfkhgiiojikbaa
