/- Several texts in one: TH0, LB2, TH, RGs, MU, FB, SZ, SHm, TI. -/
import Derived.Test.YtoafleckcjanaaaKLk12
import Derived.Test.YtoafleckcjanaaaKLk27
import Derived.Test.YtoafleckcjanaaaKLk15
import Derived.Test.YtoafleckcjanaaaKLk9
import Derived.Maps.RangeWalk
import Derived.Test.YtoafleckcjanaaaKLk11
import Derived.Test.YtoafleckcjanaaaKLk10
import Derived.Test.YtoafleckcjanaaaKLk7
import Derived.Test.YtoafleckcjanaaaKLk6
import Derived.Test.YtoafleckcjanaaaProg
import Derived.Shelf.Lay
import Derived.Shelf.LaySoft
import Derived.Shelf.SlGeneric
import Derived.Ground.SlmcProg
import Derived.Shelf.SlMaps.Clone

/-! TH0: What is put in one behind the other: plain. Definitions and plain lemmas. -/
namespace Go.Proofs.Ytoafleckcjanaaa
open Go.RowKit Go.Deep

/-- The first ones, with the others put in. -/
def th1 (us : List Bd) : List Bd → List Bd → List Bd
  | [], out => out
  | x :: r, out => th1 us r (ladd out (x.1, tsub (sv us) x.2.1 x.2.2.1 x.2.2.2))
/-- Those of the others of which the first say nothing. -/
def th2 (bs : List Bd) : List Bd → List Bd → List Bd
  | [], out => out
  | x :: r, out => th2 bs r (if (sv bs x.1).isSome = true then out else ladd out x)
def thL (bs us : List Bd) : List Bd := th2 bs us (th1 us bs [])
theorem th1_len (us : List Bd) : ∀ (bs out : List Bd), (th1 us bs out).length = out.length + bs.length
  | [], _ => rfl
  | x :: r, out => by simp only [th1, th1_len us r, ladd_len, List.length_cons]; omega
theorem th2_len (bs : List Bd) : ∀ (us out : List Bd), (th2 bs us out).length ≤ out.length + us.length
  | [], _ => Nat.le_refl _
  | x :: r, out => by
    have h := th2_len bs r (if (sv bs x.1).isSome = true then out else ladd out x)
    simp only [th2, List.length_cons]
    split at h
    · rename_i e; rw [if_pos e]; omega
    · rename_i e; rw [if_neg e]; rw [ladd_len] at h; omega
theorem thL_len (bs us : List Bd) : (thL bs us).length ≤ bs.length + us.length := by
  have := th2_len bs us (th1 us bs [])
  rw [th1_len] at this
  simpa [thL] using this

/-- What a variable stands for then. -/
def thS (σ τ : Int → Option (Int × Int × Fo)) (x : Int) : Option (Int × Int × Fo) :=
  match σ x with
  | some t => some (tsub τ t.1 t.2.1 t.2.2)
  | none => τ x
theorem thS_some {σ τ : Int → Option (Int × Int × Fo)} {x : Int} {t : Int × Int × Fo} (h : σ x = some t) : thS σ τ x = some (tsub τ t.1 t.2.1 t.2.2) := by unfold thS; rw [h]
theorem thS_none {σ τ : Int → Option (Int × Int × Fo)} {x : Int} (h : σ x = none) : thS σ τ x = τ x := by unfold thS; rw [h]
theorem tsub_none {σ : Int → Option (Int × Int × Fo)} {s v : Int} {k : Fo} (e : s = 0) (h : σ v = none) : tsub σ s v k = (s, v, k) := by unfold tsub; rw [if_pos e, h]; rfl
theorem tsub_thV {σ τ : Int → Option (Int × Int × Fo)} {s v : Int} {k : Fo} (e : s = 0) : tsub τ (tsub σ s v k).1 (tsub σ s v k).2.1 (tsub σ s v k).2.2 = tsub (thS σ τ) s v k := by
  cases h : σ v with
  | some t => rw [tsub_var e h, tsub_var e (thS_some h)]
  | none =>
    rw [tsub_none e h]
    unfold tsub
    rw [if_pos e, if_pos e, thS_none h]
theorem fsub_th {σ τ : Int → Option (Int × Int × Fo)} : ∀ k : Fo, fsub τ (fsub σ k) = fsub (thS σ τ) k
  | .nil => rfl
  | .node x y p k r => by
    rw [fsub_sign (σ := σ), fsub_sign (σ := τ), fsub_sign (σ := thS σ τ), fsub_th r]
    by_cases e : p.1 = 0
    · rw [tsub_thV e]
    · rw [tsub_sym e, tsub_sym (σ := thS σ τ) e, tsub_sym (σ := τ) e, fsub_th k]
theorem tsub_th {σ τ : Int → Option (Int × Int × Fo)} (s v : Int) (k : Fo) : tsub τ (tsub σ s v k).1 (tsub σ s v k).2.1 (tsub σ s v k).2.2 = tsub (thS σ τ) s v k := by
  by_cases e : s = 0
  · exact tsub_thV e
  · rw [tsub_sym e, tsub_sym (σ := thS σ τ) e, tsub_sym (σ := τ) e, fsub_th k]

theorem sv_none_of : ∀ {bs : List Bd} {x : Int}, (∀ y ∈ bs, y.1 ≠ x) → sv bs x = none
  | [], _, _ => rfl
  | y :: r, x, h => by
    simp only [sv]
    rw [if_neg (h y (List.mem_cons_self ..))]
    exact sv_none_of fun z hz => h z (List.mem_cons_of_mem _ hz)
theorem sv_lt {bs : List Bd} {y : Bd} (ha : Asc (y :: bs)) : sv bs y.1 = none := sv_none_of fun z hz e => by
  have := (List.pairwise_cons.1 ha).1 z hz; omega
theorem th1_sv (us : List Bd) : ∀ (bs out : List Bd), Asc bs → (∀ y ∈ bs, sv out y.1 = none) → ∀ x, sv (th1 us bs out) x = match sv bs x with
    | some t => some (tsub (sv us) t.1 t.2.1 t.2.2)
    | none => sv out x
  | [], _, _, _, _ => rfl
  | y :: r, out, ha, hn, x => by
    have h0 := hn y (List.mem_cons_self ..)
    have hr := (List.pairwise_cons.1 ha).1
    simp only [th1]
    rw [th1_sv us r _ (List.pairwise_cons.1 ha).2 (fun z hz => by
      rw [sv_ladd (b := (y.1, tsub (sv us) y.2.1 y.2.2.1 y.2.2.2)) h0, if_neg (by have := hr z hz; dsimp only; omega)]
      exact hn z (List.mem_cons_of_mem _ hz)) x]
    rw [sv_ladd (b := (y.1, tsub (sv us) y.2.1 y.2.2.1 y.2.2.2)) h0]
    simp only [sv]
    by_cases e : y.1 = x
    · subst e
      rw [sv_lt ha]
      simp
    · rw [if_neg e]
      simp only [if_neg e]
theorem th2_sv (bs : List Bd) : ∀ (us out : List Bd), Asc us → (∀ y ∈ us, sv bs y.1 = none → sv out y.1 = none) → ∀ x, sv (th2 bs us out) x = match sv bs x with
    | some _ => sv out x
    | none => match sv us x with
      | some t => some t
      | none => sv out x
  | [], out, _, _, x => by simp only [th2, sv]; cases sv bs x <;> rfl
  | y :: r, out, ha, hn, x => by
    have hr := (List.pairwise_cons.1 ha).1
    simp only [th2]
    cases hb : sv bs y.1 with
    | some t =>
      rw [if_pos (show (some t).isSome = true from rfl), th2_sv bs r out (List.pairwise_cons.1 ha).2 (fun z hz => hn z (List.mem_cons_of_mem _ hz)) x]
      cases hx : sv bs x with
      | some _ => rfl
      | none =>
        dsimp only
        simp only [sv]
        rw [if_neg (fun e => by rw [e, hx] at hb; cases hb)]
    | none =>
      have h0 := hn y (List.mem_cons_self ..) hb
      rw [if_neg (by simp), th2_sv bs r (ladd out y) (List.pairwise_cons.1 ha).2 (fun z hz hz2 => by
        rw [sv_ladd h0, if_neg (by have := hr z hz; omega)]
        exact hn z (List.mem_cons_of_mem _ hz) hz2) x]
      rw [sv_ladd h0]
      simp only [sv]
      by_cases e : y.1 = x
      · subst e
        rw [hb, sv_lt ha]
        simp
      · simp only [if_neg e]
theorem th1_asc (us : List Bd) : ∀ (bs out : List Bd), Asc bs → Asc out → (∀ y ∈ bs, sv out y.1 = none) → Asc (th1 us bs out)
  | [], _, _, h, _ => h
  | y :: r, out, ha, ho, hn => by
    have h0 := hn y (List.mem_cons_self ..)
    have hr := (List.pairwise_cons.1 ha).1
    simp only [th1]
    refine th1_asc us r _ (List.pairwise_cons.1 ha).2 (asc_ladd ho h0) fun z hz => ?_
    rw [sv_ladd (b := (y.1, tsub (sv us) y.2.1 y.2.2.1 y.2.2.2)) h0, if_neg (by have := hr z hz; dsimp only; omega)]
    exact hn z (List.mem_cons_of_mem _ hz)
theorem th2_asc (bs : List Bd) : ∀ (us out : List Bd), Asc us → Asc out → (∀ y ∈ us, sv bs y.1 = none → sv out y.1 = none) → Asc (th2 bs us out)
  | [], _, _, h, _ => h
  | y :: r, out, ha, ho, hn => by
    have hr := (List.pairwise_cons.1 ha).1
    simp only [th2]
    cases hb : sv bs y.1 with
    | some t =>
      rw [if_pos (show (some t).isSome = true from rfl)]
      exact th2_asc bs r out (List.pairwise_cons.1 ha).2 ho fun z hz => hn z (List.mem_cons_of_mem _ hz)
    | none =>
      have h0 := hn y (List.mem_cons_self ..) hb
      rw [if_neg (by simp)]
      refine th2_asc bs r _ (List.pairwise_cons.1 ha).2 (asc_ladd ho h0) fun z hz hz2 => ?_
      rw [sv_ladd h0, if_neg (by have := hr z hz; omega)]
      exact hn z (List.mem_cons_of_mem _ hz) hz2
theorem th12_none (us : List Bd) {bs : List Bd} (ha : Asc bs) : ∀ x, sv bs x = none → sv (th1 us bs []) x = none := fun x hx => by
  rw [th1_sv us bs [] ha (fun _ _ => rfl) x, hx]; rfl
theorem thL_sv {bs us : List Bd} (ha : Asc bs) (hu : Asc us) (x : Int) : sv (thL bs us) x = thS (sv bs) (sv us) x := by
  unfold thL
  rw [th2_sv bs us _ hu (fun y _ hy => th12_none us ha y.1 hy) x, th1_sv us bs [] ha (fun _ _ => rfl) x]
  unfold thS
  cases sv bs x with
  | some t => rfl
  | none => dsimp only; cases sv us x <;> rfl
theorem thL_asc {bs us : List Bd} (ha : Asc bs) (hu : Asc us) : Asc (thL bs us) :=
  th2_asc bs us _ hu (th1_asc us bs [] ha List.Pairwise.nil (fun _ _ => rfl)) fun y _ hy => th12_none us ha y.1 hy

/-- Ascending lists of which variables stand for the same are the same. -/
theorem asc_ext : ∀ {l m : List Bd}, Asc l → Asc m → (∀ x, sv l x = sv m x) → l = m
  | [], [], _, _, _ => rfl
  | [], y :: r, _, _, h => by have := h y.1; simp [sv] at this
  | x :: r, [], _, _, h => by have := h x.1; simp [sv] at this
  | x :: r, y :: q, ha, hb, h => by
    have h1 := (List.pairwise_cons.1 ha).1
    have h2 := (List.pairwise_cons.1 hb).1
    have e : x.1 = y.1 := by
      rcases Int.lt_trichotomy x.1 y.1 with hl | he | hl
      · have := h x.1
        simp only [sv, if_true] at this
        rw [if_neg (by omega), sv_none_of (fun z hz e => by have := h2 z hz; omega)] at this
        cases this
      · exact he
      · have := h y.1
        simp only [sv, if_true] at this
        rw [if_neg (by omega), sv_none_of (fun z hz e => by have := h1 z hz; omega)] at this
        cases this
    have e2 : x.2 = y.2 := by have := h x.1; simp only [sv, if_true, if_pos e.symm] at this; exact Option.some.inj this
    have e3 : x = y := Prod.ext e e2
    subst e3
    congr 1
    refine asc_ext (List.pairwise_cons.1 ha).2 (List.pairwise_cons.1 hb).2 fun z => ?_
    have hz := h z
    simp only [sv] at hz
    by_cases ez : x.1 = z
    · subst ez; rw [sv_lt ha, sv_lt hb]
    · rw [if_neg ez, if_neg ez] at hz; exact hz
theorem asc_len : ∀ (bs : List Bd) (last : Int), last < 12 → Asc bs → (∀ x ∈ bs, last < x.1 ∧ x.1 < 12) → last + bs.length < 12
  | [], _, h, _, _ => by simpa using h
  | x :: r, last, h, ha, hr => by
    have h1 := hr x (List.mem_cons_self ..)
    have := asc_len r x.1 h1.2 (List.pairwise_cons.1 ha).2 fun z hz => ⟨(List.pairwise_cons.1 ha).1 z hz, (hr z (List.mem_cons_of_mem _ hz)).2⟩
    rw [List.length_cons]; omega
theorem sokFrom_in {room : Int} : ∀ (bs : List Bd) (last : Int), sokFrom room last bs = true → Asc bs ∧ ∀ x ∈ bs, last < x.1 ∧ x.1 < 12 ∧ okW x.2.1 x.2.2.1 x.2.2.2 room = true
  | [], _, _ => ⟨List.Pairwise.nil, fun _ h => by cases h⟩
  | x :: r, last, h => by
    simp only [sokFrom, Bool.and_eq_true, decide_eq_true_eq] at h
    obtain ⟨h1, h2⟩ := sokFrom_in r x.1 h.2.2.2
    refine ⟨List.pairwise_cons.2 ⟨fun z hz => (h2 z hz).1, h1⟩, fun z hz => ?_⟩
    rcases List.mem_cons.1 hz with rfl | hz
    · exact ⟨h.2.1, h.2.2.1, h.1⟩
    · have := h2 z hz
      exact ⟨by omega, this.2.1, this.2.2⟩
theorem sok_in {room : Int} {bs : List Bd} (h : sok room bs = true) : Asc bs ∧ ∀ x ∈ bs, -1 < x.1 ∧ x.1 < 12 ∧ okW x.2.1 x.2.2.1 x.2.2.2 room = true := sokFrom_in bs (-1) h
theorem sok_iff {bs : List Bd} : sok 16 bs = true ↔ Asc bs ∧ ∀ x ∈ bs, -1 < x.1 ∧ x.1 < 12 ∧ okW x.2.1 x.2.2.1 x.2.2.2 16 = true := ⟨sok_in, fun h => sokFrom_of bs (-1) h.1 h.2⟩
theorem sok_sv {room : Int} {bs : List Bd} (h : sok room bs = true) {x : Int} {t : Int × Int × Fo} (hx : sv bs x = some t) : -1 < x ∧ x < 12 ∧ okW t.1 t.2.1 t.2.2 room = true := (sok_in h).2 _ (mem_sv hx)

/-- Each term has so many signs at most. -/
def smallL (lim : Int) (bs : List Bd) : Bool := bs.all fun x => decide (1 + (fsz x.2.2.2 : Int) ≤ lim)
/-- The answer of SubstThen. -/
def thR (bs us : List Bd) : List Bd × Bool := if sok 16 bs = true ∧ sok 16 us = true ∧ smallL 16 (thL bs us) = true then (thL bs us, true) else ([], false)

theorem th_ok {bs us : List Bd} (hb : sok 16 bs = true) (hu : sok 16 us = true) : Asc (thL bs us) ∧ ∀ x ∈ thL bs us, -1 < x.1 ∧ x.1 < 12 ∧ okN x.2.1 x.2.2.1 (flen x.2.2.2) = true ∧ fok x.2.2.2 = true ∧ fsz x.2.2.2 ≤ 1000 := by
  have a1 := (sok_in hb).1
  have a2 := (sok_in hu).1
  refine ⟨thL_asc a1 a2, fun x hx => ?_⟩
  have hs := sv_mem (thL_asc a1 a2) hx
  rw [thL_sv a1 a2] at hs
  cases h : sv bs x.1 with
  | some t =>
    rw [thS_some h] at hs
    have h1 := sok_sv hb h
    have h2 := tsub_ok hu h1.2.2
    rw [Option.some.inj hs] at h2
    exact ⟨h1.1, h1.2.1, h2.1, h2.2.1, h2.2.2⟩
  | none =>
    rw [thS_none h] at hs
    have h1 := sok_sv hu hs
    have h2 := (okW_iff _ _ _ _).1 h1.2.2
    exact ⟨h1.1, h1.2.1, h2.1, h2.2.1, by omega⟩
theorem th_sok {bs us : List Bd} (hb : sok 16 bs = true) (hu : sok 16 us = true) : sok 16 (thL bs us) = smallL 16 (thL bs us) := by
  obtain ⟨h1, h2⟩ := th_ok hb hu
  rw [Bool.eq_iff_iff, sok_iff]
  unfold smallL
  rw [List.all_eq_true]
  constructor
  · exact fun h x hx => decide_eq_true ((okW_iff _ _ _ _).1 (h.2 x hx).2.2).2.2
  · exact fun h => ⟨h1, fun x hx => by
      have := h2 x hx
      exact ⟨this.1, this.2.1, (okW_iff _ _ _ _).2 ⟨this.2.2.1, this.2.2.2.1, of_decide_eq_true (h x hx)⟩⟩⟩
theorem thR_cases {bs us : List Bd} {l : List Bd} {t : Bool} (h : thR bs us = (l, t)) : (t = false ∧ l = []) ∨ (t = true ∧ sok 16 bs = true ∧ sok 16 us = true ∧ l = thL bs us ∧ sok 16 l = true) := by
  unfold thR at h
  split at h
  · rename_i hc
    simp only [Prod.mk.injEq] at h
    obtain ⟨rfl, rfl⟩ := h
    exact .inr ⟨rfl, hc.1, hc.2.1, rfl, by rw [th_sok hc.1 hc.2.1]; exact hc.2.2⟩
  · simp only [Prod.mk.injEq] at h
    exact .inl ⟨h.2.symm, h.1.symm⟩
theorem thR_sv {bs us l : List Bd} (h : thR bs us = (l, true)) (x : Int) : sv l x = thS (sv bs) (sv us) x := by
  rcases thR_cases h with ⟨h, _⟩ | ⟨_, h1, h2, rfl, _⟩
  · cases h
  · exact thL_sv (sok_in h1).1 (sok_in h2).1 x
theorem th_sub {bs us l : List Bd} (h : thR bs us = (l, true)) (s v : Int) (k : Fo) : tsub (sv l) s v k = tsub (sv us) (tsub (sv bs) s v k).1 (tsub (sv bs) s v k).2.1 (tsub (sv bs) s v k).2.2 := by
  rw [tsub_th]
  exact tsub_congr fun x _ => thR_sv h x
/-- P21. -/
theorem th_twice {bs us l : List Bd} (h : thR bs us = (l, true)) {s v s1 v1 s2 v2 : Int} {k k1 k2 : Fo} (h1 : sdR bs s v k = (s1, v1, k1, true)) (h2 : sdR us s1 v1 k1 = (s2, v2, k2, true)) : sdR l s v k = (s2, v2, k2, true) := by
  rcases sdR_cases h1 with ⟨e, _⟩ | ⟨_, _, ho, ht, _⟩
  · cases e
  rcases sdR_cases h2 with ⟨e, _⟩ | ⟨_, _, _, ht2, ho2⟩
  · cases e
  rcases thR_cases h with ⟨e, _⟩ | ⟨_, _, _, _, hs⟩
  · cases e
  refine sdR_of hs ho ?_ (by have := ((okW_iff _ _ _ _).1 ho2).2.2; omega)
  rw [th_sub h, ht]; exact ht2
/-- P22. -/
theorem th_three {bs us ws x y z v : List Bd} (h : thR bs us = (x, true)) (h1 : thR x ws = (y, true)) (h2 : thR us ws = (z, true)) (h3 : thR bs z = (v, true)) : y = v := by
  rcases thR_cases h1 with ⟨e, _⟩ | ⟨_, _, _, _, hy⟩
  · cases e
  rcases thR_cases h3 with ⟨e, _⟩ | ⟨_, _, _, _, hv⟩
  · cases e
  refine asc_ext (sok_in hy).1 (sok_in hv).1 fun w => ?_
  rw [thR_sv h1, thR_sv h3]
  unfold thS
  cases hb : sv bs w with
  | some t =>
    have hx := thR_sv h w
    rw [thS_some hb] at hx
    rw [hx]
    dsimp only
    rw [tsub_th, tsub_congr (τ := sv z) fun u _ => (thR_sv h2 u).symm]
  | none =>
    have hx := thR_sv h w
    rw [thS_none hb] at hx
    rw [hx]
    dsimp only
    rw [thR_sv h2]; rfl
end Go.Proofs.Ytoafleckcjanaaa

/-! LB2: A bind of a row, its cells. -/
namespace Go.Proofs.Ytoafleckcjanaaa
open Go.RowKit Go.Deep

theorem bsl_at {w : World} {lo B : Nat} {A : Option Addr} {bs : List Bd} {j : Nat} (h : BSl w lo B A bs) (hj : j < bs.length) :
    ∃ rb ro x s v k a c, A = some ⟨rb, ro, none⟩ ∧ bs[j]? = some (x, s, v, k) ∧ w.cell? ⟨rb, ro + j * 4, none⟩ = some (.int .i64 x) ∧ w.cell? ⟨rb, ro + j * 4 + 1, none⟩ = some (.int .i64 s) ∧ w.cell? ⟨rb, ro + j * 4 + 1 + 1, none⟩ = some (.int .i64 v) ∧ w.cell? ⟨rb, ro + j * 4 + 1 + 2, none⟩ = some (.slice a (flen k) c) ∧ Sl w lo B a k := by
  obtain ⟨y, hy⟩ : ∃ y, bs[j]? = some y := ⟨bs[j], List.getElem?_eq_getElem hj⟩
  obtain ⟨x, s, v, k⟩ := y
  rcases h with rfl | ⟨rb, ro, e, _, _, hc⟩
  · simp at hy
  · obtain ⟨a, c, c0, c1, c2, c3, hl⟩ := hc j _ hy
    exact ⟨rb, ro, x, s, v, k, a, c, e, hy, c0, c1, c2, c3, hl⟩
end Go.Proofs.Ytoafleckcjanaaa

/-! TH: - The specification's l2Then: what variables stand for, if others are put into that. -/
namespace Go.Proofs.Ytoafleckcjanaaa
open Go.RowKit Go.Deep
attribute [local go_sem ↓] Go.wp_at_zero Go.wp_at_succ

def LtPost (bs us : List Bd) (w : World) (e : Ending) (w' : World) : Prop :=
  ∃ A C, e = .returned (.slice A (List.length (thL bs us)) C) ∧ Below w.heap.size w w' ∧ BSl w' 0 w'.heap.size A (thL bs us)
theorem sv_take {bs : List Bd} {m : Nat} {y : Bd} (hy : bs[m]? = some y) (x : Int) : (sv (bs.take (m + 1)) x).isSome = ((sv (bs.take m) x).isSome || (y.1 == x)) := by
  have ht : bs.take (m + 1) = bs.take m ++ [y] := by rw [List.take_add_one, hy]; rfl
  rw [ht]
  generalize bs.take m = l
  induction l with
  | nil => simp only [List.nil_append, sv]; by_cases e : y.1 = x <;> simp [e]
  | cons z r ih =>
    simp only [List.cons_append, sv]
    by_cases e : z.1 = x
    · simp [e]
    · rw [if_neg e, if_neg e, ih]

end Go.Proofs.Ytoafleckcjanaaa

/-! RGs: A store at a key that is there, in the round of a range over the same map; a map's entries counted by their keys. Plain lemmas. -/
namespace Go.Proofs.Ytoafleckcjanaaa
open Go.RowKit Go.Deep Go.Maps Go.ChangeMaps Go.MapKept Go.WideShapes
open Go.WideElems (Fit rd rg pl rd_key rd_val rg_of other_key rd_mk)

section
variable {H : Type} {P : Program} {k : TypeId} {R : Value → Option (DataW H × List MemPlace)} {w : World} {b r n : Nat} {D : DataW H} {left : Lit → Bool} {cnt : Nat}

theorem ranges_store {t e : TypeId} (h : w.ranges P k R b r n D left cnt) (K : Keyed P k) (ht : P.underlying t = some (.map k e)) (hn : n < maxLen) {key val : Value} {kl : Lit} {d : DataW H} {ps : List MemPlace} (hkey : keyOf P k key = some kl) (hv : R val = some (d, ps)) (hh : Maps.has D kl = true) :
    ∃ w', (Instr.mapUpdate t (.map (some b)) key val).run P w = .ok () w' ∧ w'.ranges P k R b r n (D.put kl d) left cnt ∧ w.grownBy w' (some b) := by
  have hne := h.ne
  obtain ⟨es, clock, since, seen, c0, hb, F, hs, rfl, hr, hold, hcnt, hl1, hl2, hsc, hsk⟩ := h
  rcases K.find w hkey es.toList F.keys with ⟨_, h2⟩ | ⟨j, e0, h1, h2, h3⟩
  · exfalso
    obtain ⟨p, hp, hpk⟩ := List.any_eq_true.1 hh
    obtain ⟨x, hx, rfl⟩ := List.mem_map.1 (mem_sorted.1 hp)
    obtain ⟨y, hy⟩ := F.reads x hx
    have e1 := WideAt.sameKey_eq hpk
    rw [rg_of hy] at e1
    exact h2 x hx (K.inj (e1 ▸ rd_key hy) hkey)
  · obtain ⟨es2, cl2, hrun2, F2, hput, _⟩ := Maps.fit_store (R' := R) K ht hb F (Nat.lt_of_le_of_lt hs hn) (fun _ _ _ _ hz => hz) hkey hv
    have hj : es[j]? = some e0 := by simpa using h2
    have hjl : j < es.toList.length := (List.getElem?_eq_some_iff.1 h2).1
    have hlist : (es.modify j (fun e' => { e' with key := key, val := val })).toList = es.toList.set j { e0 with key := key, val := val } := by rw [Array.toList_modify, modify_eq_set _ _ _ _ h2]
    have hrun : (Instr.mapUpdate t (.map (some b)) key val).run P w = .ok () (setBlock w b (.map (es.modify j (fun e' => { e' with key := key, val := val })) clock)) := by
      simp [Instr.mapUpdate, run_underlying ht, MapKept.run_getObj_map hb, K.check w false hkey, h1, hj, h3, K.stays w hkey, MapKept.run_setObj_map _ hb, Result.andThen, setBlock]
    have heq : es2 = es.modify j (fun e' => { e' with key := key, val := val }) ∧ cl2 = clock := by
      rw [hrun] at hrun2
      have e1 : setBlock w b (.map (es.modify j (fun e' => { e' with key := key, val := val })) clock) = setBlock w b (.map es2 cl2) := by injection hrun2
      have e2 := congrArg (fun u : World => u.heap[b]?) e1
      rw [heap_setBlock_same hb, heap_setBlock_same hb] at e2
      injection e2 with e3
      injection e3 with e4 e5
      exact ⟨e4.symm, e5.symm⟩
    obtain ⟨rfl, rfl⟩ := heq
    have hrk0 : (rg P k R e0).1 = kl := by
      obtain ⟨y, hy⟩ := F.reads e0 (List.mem_of_getElem? h2)
      rw [rg_of hy]
      have := rd_key hy
      rw [h3, hkey] at this
      exact (Option.some.inj this).symm
    have hrk1 : (rg P k R { e0 with key := key, val := val }).1 = kl := by
      rw [rg_of (rd_mk (R := R) (born := e0.born) hkey hv)]
    have who : ∀ x ∈ es.toList.set j { e0 with key := key, val := val }, x = { e0 with key := key, val := val } ∨ x ∈ es.toList := by
      intro x hx
      rcases List.mem_or_eq_of_mem_set hx with h | h
      · exact .inr h
      · exact .inl h
    refine ⟨_, hrun, ⟨_, cl2, since, seen, c0, heap_setBlock_same hb _, F2, by simpa using hs, by rw [DataW.put_eq, hput], (heap_setBlock_other hb _ hne).trans hr, fun x hx => ?_, ?_, fun x hx => ?_, fun kl' hkl => ?_, hsc, hsk⟩, ⟨rfl, rfl, rfl, by simp [setBlock], fun i _ hi => heap_setBlock_other hb _ (fun e => hi (by rw [e]))⟩⟩
    · rw [hlist] at hx
      rcases who x hx with rfl | hx'
      · exact hold e0 (List.mem_of_getElem? h2)
      · exact hold x hx'
    · rw [← hcnt]
      have e1 : ∀ a : Array MapEntry, (leftOf a seen).size = ((a.toList.map (·.born)).filter fun m => !seen.contains m).length := fun a => by
        unfold leftOf
        rw [← Array.length_toList, Array.toList_filter, List.filter_map, List.length_map]
        rfl
      rw [e1, e1, hlist, List.map_set]
      congr 2
      refine List.ext_getElem? fun i => ?_
      rw [List.getElem?_set]
      split
      · rename_i hi
        subst hi
        rw [List.length_map, if_pos hjl, List.getElem?_map, h2]; rfl
      · rfl
    · rw [hlist] at hx
      rcases who x hx with rfl | hx'
      · rw [hrk1, ← hrk0]; exact hl1 e0 (List.mem_of_getElem? h2)
      · exact hl1 x hx'
    · obtain ⟨x, hx, hxk⟩ := hl2 kl' hkl
      obtain ⟨i, hi⟩ := List.getElem?_of_mem hx
      rw [hlist]
      by_cases hij : i = j
      · subst hij
        rw [h2] at hi
        obtain rfl := Option.some.inj hi
        exact ⟨_, List.mem_iff_getElem?.2 ⟨i, by rw [List.getElem?_set, if_pos rfl, if_pos hjl]⟩, by rw [hrk1, ← hxk, hrk0]⟩
      · exact ⟨x, List.mem_iff_getElem?.2 ⟨i, by rw [List.getElem?_set_ne (fun h => hij h.symm)]; exact hi⟩, hxk⟩

/-- A key that is still to come is there. -/
theorem ranges_has (h : w.ranges P k R b r n D left cnt) (K : Keyed P k) {kl : Lit} (hl : left kl = true) : Maps.has D kl = true := by
  obtain ⟨es, clock, since, seen, c0, hb, F, hs, rfl, hr, hold, hcnt, hl1, hl2, hsc, hsk⟩ := h
  obtain ⟨x, hx, rfl⟩ := hl2 kl hl
  obtain ⟨y, hy⟩ := F.reads x hx
  exact List.any_eq_true.2 ⟨rg P k R x, mem_sorted.2 (List.mem_map.2 ⟨x, hx, rfl⟩), WideAt.sameKey_self (by rw [rg_of hy]; exact K.key (rd_key hy))⟩
/-- The cells stay where the iterator turns. -/
theorem ranges_cells {w' : World} (h : w.ranges P k R b r n D left cnt) (hg : w.grownBy w' (some r)) : ∀ q x, w.cell? q = some x → w'.cell? q = some x := fun q x hq => by
  obtain ⟨es, clock, since, seen, c0, hb, F, hs, rfl, hr, _⟩ := h
  refine hg.cell hq fun e => ?_
  have : q.block = r := by simpa using e
  unfold World.cell? at hq
  rw [this, hr] at hq
  cases hq
end

theorem pigeon : ∀ (N : Nat) (l : List Int), (∀ x ∈ l, 0 ≤ x ∧ x < N) → l.Pairwise (· ≠ ·) → l.length ≤ N
  | 0, [], _, _ => Nat.le_refl _
  | 0, x :: _, h, _ => by have := h x (List.mem_cons_self ..); omega
  | N + 1, l, h, hp => by
    by_cases hm : (N : Int) ∈ l
    · obtain ⟨a, c, rfl⟩ := List.append_of_mem hm
      rw [List.pairwise_append] at hp
      obtain ⟨p1, p2, p3⟩ := hp
      obtain ⟨p4, p5⟩ := List.pairwise_cons.1 p2
      have := pigeon N (a ++ c) (fun x hx => by
        have hx2 : x ≠ N := by
          rcases List.mem_append.1 hx with hx | hx
          · exact p3 x hx N (List.mem_cons_self ..)
          · exact fun e => p4 x hx e.symm
        have := h x (by rcases List.mem_append.1 hx with hx | hx <;> simp [hx])
        omega) (List.pairwise_append.2 ⟨p1, p5, fun x hx y hy => p3 x hx y (List.mem_cons_of_mem _ hy)⟩)
      simp only [List.length_append, List.length_cons] at this ⊢
      omega
    · have := pigeon N l (fun x hx => by
        have := h x hx
        have : x ≠ N := fun e => hm (e ▸ hx)
        omega) hp
      omega
/-- A map of variables has twelve entries at most. -/
theorem own_tight {w : World} {b n : Nat} {D : DataW Value} (h : w.ownsMap Try.prog 163 rdV b n D) (hk : ∀ x : Int, (Lit.int .i64 x).wf = true → Maps.has D (.int .i64 x) = true → 0 ≤ x ∧ x ≤ 11) : w.ownsMap Try.prog 163 rdV b 12 D := by
  obtain ⟨es, clock, hb, F, hs, rfl⟩ := h
  refine ⟨es, clock, hb, F, ?_, rfl⟩
  have hkey : ∀ p ∈ es.toList.map (rg Try.prog 163 rdV), ∃ x : Int, p.1 = .int .i64 x ∧ 0 ≤ x ∧ x < (12 : Nat) := fun p hp => by
    obtain ⟨key, hkk⟩ := Maps.fit_keys F p hp
    obtain ⟨x, _, e2, hw⟩ := Maps.keyOf_int_inv (q := .i64) (by kernel_rfl) hkk
    have hh : Maps.has (DataW.map ((es.toList.map (rg Try.prog 163 rdV)).foldr DataW.insert [])) (.int .i64 x) = true :=
      List.any_eq_true.2 ⟨p, mem_sorted.2 hp, by rw [e2]; exact WideAt.sameKey_self (by trivial)⟩
    have := hk x hw hh
    exact ⟨x, e2, by omega, by omega⟩
  have hap := Maps.fit_apart law F
  let f : Lit → Int := fun l => match l with
    | .int _ x => x
    | _ => 0
  have h1 := pigeon 12 ((es.toList.map (rg Try.prog 163 rdV)).map fun p => f p.1) (fun x hx => by
    obtain ⟨p, hp, rfl⟩ := List.mem_map.1 hx
    obtain ⟨y, e, h1, h2⟩ := hkey p hp
    rw [e]
    exact ⟨h1, h2⟩) (by
    rw [List.pairwise_map]
    refine List.Pairwise.imp_of_mem ?_ hap
    intro p q hp hq hne e
    obtain ⟨y, e1, _, _⟩ := hkey p hp
    obtain ⟨z, e2, _, _⟩ := hkey q hq
    rw [e1, e2] at e hne
    exact hne (by rw [show y = z from e]))
  simpa using h1

/-- Block b is a map in which variables have nodes of what σ says. -/
def MapF (w : World) (b : Nat) (σ : Int → Option (Int × Int × Fo)) : Prop :=
  ∃ D, w.ownsMap Try.prog 163 rdV b 12 D ∧ ∀ x : Int, (Lit.int .i64 x).wf = true →
    (σ x = none → Maps.has D (.int .i64 x) = false) ∧ ∀ s v k, σ x = some (s, v, k) → Maps.has D (.int .i64 x) = true ∧ ∃ nv, D.atKey (.int .i64 x) (.held .nilIface) = .held nv ∧ NodeIs w 0 w.heap.size nv s v k
def Rng (σ : Int → Option (Int × Int × Fo)) : Prop := ∀ x t, σ x = some t → 0 ≤ x ∧ x ≤ 11
theorem MapIs.toF {w : World} {b : Nat} {bs : List Bd} (h : MapIs w b bs) (hr : Rng (sv bs)) : MapF w b (sv bs) := by
  obtain ⟨n, D, hm, hn, hx⟩ := h
  refine ⟨D, own_tight hm fun x hw hh => ?_, hx⟩
  cases hs : sv bs x with
  | none => rw [(hx x hw).1 hs] at hh; cases hh
  | some t => exact hr x t hs
theorem MapF.toIs {w : World} {b : Nat} {bs : List Bd} {σ : Int → Option (Int × Int × Fo)} (h : MapF w b σ) (hs : ∀ x, sv bs x = σ x) : MapIs w b bs := by
  obtain ⟨D, hm, hx⟩ := h
  exact ⟨12, D, hm, by omega, fun x hw => by rw [hs x]; exact hx x hw⟩
theorem MapF.below {w w' : World} {b : Nat} {σ : Int → Option (Int × Int × Fo)} (h : MapF w b σ) (hb : Below w.heap.size w w') : MapF w' b σ := by
  obtain ⟨D, hm, hx⟩ := h
  have hlt := hm.lt
  refine ⟨D, ?_, fun x hw => ⟨(hx x hw).1, fun s v k hs => ?_⟩⟩
  · obtain ⟨es, clock, h1, h2⟩ := hm
    exact ⟨es, clock, by rw [hb.block b hlt]; exact h1, h2⟩
  · obtain ⟨h1, nv, h2, h3⟩ := (hx x hw).2 s v k hs
    exact ⟨h1, nv, h2, (h3.below hb).mono (Nat.le_refl _) hb.size⟩
/-- Another map or an iterator turns, all cells stay. -/
theorem MapF.keep {w w' : World} {b c : Nat} {σ : Int → Option (Int × Int × Fo)} (h : MapF w b σ) (hg : w.grownBy w' (some c)) (hc : b ≠ c) (hk : ∀ q x, w.cell? q = some x → w'.cell? q = some x) : MapF w' b σ := by
  obtain ⟨D, hm, hx⟩ := h
  have hlt := hm.lt
  refine ⟨D, ?_, fun x hw => ⟨(hx x hw).1, fun s v k hs => ?_⟩⟩
  · obtain ⟨es, clock, h1, h2⟩ := hm
    exact ⟨es, clock, (hg.block b hlt (by simpa using hc)).trans h1, h2⟩
  · obtain ⟨h1, nv, h2, h3⟩ := (hx x hw).2 s v k hs
    exact ⟨h1, nv, h2, (h3.keep hk).mono (Nat.le_refl _) hg.size⟩
theorem MapF.congr {w : World} {b : Nat} {σ τ : Int → Option (Int × Int × Fo)} (h : MapF w b σ) (hs : ∀ x, (Lit.int .i64 x).wf = true → τ x = σ x) : MapF w b τ := by
  obtain ⟨D, hm, hx⟩ := h
  exact ⟨D, hm, fun x hw => by rw [hs x hw]; exact hx x hw⟩
/-- One more, or another. -/
theorem MapF.put {w w' : World} {b n m : Nat} {D : DataW Value} {σ : Int → Option (Int × Int × Fo)} {x : Int} {nv : Value} {t : Int × Int × Fo} (hm : w.ownsMap Try.prog 163 rdV b n D) (hx : ∀ x : Int, (Lit.int .i64 x).wf = true →
    (σ x = none → Maps.has D (.int .i64 x) = false) ∧ ∀ s v k, σ x = some (s, v, k) → Maps.has D (.int .i64 x) = true ∧ ∃ nv, D.atKey (.int .i64 x) (.held .nilIface) = .held nv ∧ NodeIs w 0 w.heap.size nv s v k)
    (hr : Rng σ) (hxr : 0 ≤ x ∧ x ≤ 11) (hw : w'.ownsMap Try.prog 163 rdV b m (D.put (.int .i64 x) (.held nv))) (hg : w.grownBy w' (some b)) (hnv : NodeIs w 0 w.heap.size nv t.1 t.2.1 t.2.2) : MapF w' b (fun y => if x = y then some t else σ y) := by
  have hk := cells_keep hm hg
  have hD := (hm.tidy law).isMap
  have hne : ∀ y : Int, x ≠ y → (Lit.int .i64 y) ≠ (Lit.int .i64 x) := fun y e h => by simp only [Lit.int.injEq, true_and] at h; exact e h.symm
  refine ⟨_, own_tight hw fun y hy hh => ?_, fun y hy => ?_⟩
  · by_cases e : x = y
    · rw [← e]; exact hxr
    · rw [has_put_other (hne y e)] at hh
      cases hs : σ y with
      | none => rw [(hx y hy).1 hs] at hh; cases hh
      | some u => exact hr y u hs
  · by_cases e : x = y
    · subst e
      dsimp only
      rw [if_pos rfl]
      refine ⟨fun h => (by cases h), fun s' v' k' h => ?_⟩
      obtain rfl := Option.some.inj h
      exact ⟨has_put_same hD (by trivial) _, nv, atKey_put_same hD (by trivial) _ _, (hnv.keep hk).mono (Nat.le_refl _) hg.size⟩
    · dsimp only
      rw [if_neg e]
      refine ⟨fun h => ?_, fun s' v' k' h => ?_⟩
      · rw [has_put_other (hne y e)]; exact (hx y hy).1 h
      · obtain ⟨h1, nv', h2, h3⟩ := (hx y hy).2 s' v' k' h
        exact ⟨by rw [has_put_other (hne y e)]; exact h1, nv', by rw [atKey_put_other (hne y e)]; exact h2, (h3.keep hk).mono (Nat.le_refl _) hg.size⟩
end Go.Proofs.Ytoafleckcjanaaa

/-! MU: Operations on maps at which the library has no law: a literal's entry, a look-up without ok, a store in a round of a range over the same map. Plain laws. -/
namespace Go.Proofs.Ytoafleckcjanaaa
open Go.RowKit Go.Deep Go.Maps Go.ChangeMaps Go.MapKept Go.WideShapes
open Go.WideElems (Fit rd rg pl rd_key rd_val rg_of)

section
variable {H : Type} {P : Program} (w : World) {ops : Array Oper} {rest : List Oper} {o : Oper} {a : Act} {Q : Exit → Act → World → Prop}

theorem wpList_insert_own (hg : o.guard = none) (m x v : Operand) (t : TypeId) (hop : o.op = Op.insert t m x v)
    (k e : TypeId) (K : Keyed P k) (ht : P.underlying t = some (.map k e)) (R : Value → Option (DataW H × List MemPlace)) (b n : Nat) (D : DataW H)
    (hm : a.eval m = .map (some b)) (hown : w.ownsMap P k R b n D) (hn : n < maxLen) (key val : Value) (kl : Lit) (hx : a.eval x = key) (hv : a.eval v = val) (hkey : keyOf P k key = some kl)
    (d : DataW H) (ps : List MemPlace) (hval : R val = some (d, ps))
    (hK : ∀ w', w'.ownsMap P k R b (n + 1) (D.put kl d) → w.grownBy w' (some b) → wpList P ops Q rest (a.put o.dst undef) w') :
    wpList P ops Q (o :: rest) a w := by
  refine wpList_plain hg fun K' hK' => ?_
  obtain ⟨w', hrun, r1, r2⟩ := hown.update K ht hn hkey hval
  unfold Oper.wp
  simp [execOp, hop, hm, hx, hv, hrun, Result.andThen]
  exact hK' _ _ (hK w' r1 r2)

theorem own_look {t k e : TypeId} {R : Value → Option (DataW H × List MemPlace)} {b n : Nat} {D : DataW H} {w : World} (h : w.ownsMap P k R b n D) (K : Keyed P k) (ht : P.underlying t = some (.map k e)) {z : Value} (hz : (zeroValue e).run P w = .ok z w) {zd : DataW H} {zp : List MemPlace} (hzd : R z = some (zd, zp))
    {key : Value} {kl : Lit} (hkey : keyOf P k key = some kl) : ∃ v ps, (Instr.lookup t (.map (some b)) key false).run P w = .ok v w ∧ R v = some (D.atKey kl zd, ps) := by
  obtain ⟨es, clock, hb, F, _, rfl⟩ := h
  rcases Maps.fit_look false K ht hz hb F hkey with ⟨hrun, _, hat⟩ | ⟨e0, y, _, _, hrun, hRv, hat, _⟩
  · exact ⟨z, zp, by simpa using hrun, by rw [hat zd]; exact hzd⟩
  · exact ⟨e0.val, y.2, by simpa using hrun, by rw [hat zd]; exact hRv⟩
theorem wpList_look_own (hg : o.guard = none) (m x : Operand) (t : TypeId) (hop : o.op = Op.lookup t m x false)
    (k e : TypeId) (K : Keyed P k) (ht : P.underlying t = some (.map k e)) (R : Value → Option (DataW H × List MemPlace)) {z : Value} (hz : (zeroValue e).run P w = .ok z w) (zd : DataW H) (zp : List MemPlace) (hzd : R z = some (zd, zp)) (b n : Nat) (D : DataW H)
    (hm : a.eval m = .map (some b)) (hown : w.ownsMap P k R b n D) (key : Value) (kl : Lit) (hx : a.eval x = key) (hkey : keyOf P k key = some kl)
    (hK : ∀ v ps, R v = some (D.atKey kl zd, ps) → wpList P ops Q rest (a.put o.dst v) w) :
    wpList P ops Q (o :: rest) a w := by
  refine wpList_plain hg fun K' hK' => ?_
  obtain ⟨v, ps, hrun, hv⟩ := own_look hown K ht hz hzd hkey
  unfold Oper.wp
  simp [execOp, hop, hm, hx, hrun, Result.andThen]
  exact hK' _ _ (hK v ps hv)

theorem wpList_store_ranges (hg : o.guard = none) (m x v : Operand) (t : TypeId) (hop : o.op = Op.mapUpdate t m x v)
    (k e : TypeId) (K : Keyed P k) (ht : P.underlying t = some (.map k e)) (R : Value → Option (DataW H × List MemPlace)) (b r n : Nat) (D : DataW H) (left : Lit → Bool) (cnt : Nat)
    (hm : a.eval m = .map (some b)) (h : w.ranges P k R b r n D left cnt) (hn : n < maxLen) (key val : Value) (kl : Lit) (hx : a.eval x = key) (hv : a.eval v = val) (hkey : keyOf P k key = some kl)
    (d : DataW H) (ps : List MemPlace) (hval : R val = some (d, ps)) (hh : Maps.has D kl = true)
    (hK : ∀ w', w'.ranges P k R b r n (D.put kl d) left cnt → w.grownBy w' (some b) → wpList P ops Q rest (a.put o.dst undef) w') :
    wpList P ops Q (o :: rest) a w := by
  refine wpList_plain hg fun K' hK' => ?_
  obtain ⟨w', hrun, r1, r2⟩ := ranges_store h K ht hn hkey hval hh
  unfold Oper.wp
  simp [execOp, hop, hm, hx, hv, hrun, Result.andThen]
  exact hK' _ _ (hK w' r1 r2)
end
end Go.Proofs.Ytoafleckcjanaaa

/-! FB: - occurs: fold to bools. -/
namespace Go.Proofs.Ytoafleckcjanaaa
open Go.RowKit Go.Deep Go.Maps

/-- Of each term of a row, whether a variable occurs in it. -/
def occL (x : Int) : Fo → List Bool
  | .nil => []
  | .node _ _ p k r => decide (x ∈ fvs p.1 p.2 k) :: occL x r
theorem occL_len (x : Int) : ∀ k : Fo, (occL x k).length = flen k
  | .nil => rfl
  | .node _ _ _ _ r => by simp only [occL, List.length_cons, flen, occL_len x r]
theorem occL_at (x : Int) : ∀ (i : Nat) (k : Fo) {a b : Nat} {s v : Int} {kk r : Fo}, fdrop i k = .node a b (s, v) kk r → (occL x k)[i]? = some (decide (x ∈ fvs s v kk))
  | 0, .nil, _, _, _, _, _, _, h => by simp [fdrop] at h
  | 0, .node _ _ p k r, _, _, _, _, _, _, h => by
    simp only [fdrop, BT.node.injEq] at h
    obtain ⟨_, _, rfl, rfl, _⟩ := h
    rfl
  | _ + 1, .nil, _, _, _, _, _, _, h => by simp [fdrop] at h
  | n + 1, .node _ _ p k r, _, _, _, _, _, _, h => by
    simp only [fdrop] at h
    simp only [occL, List.getElem?_cons_succ]
    exact occL_at x n r h
theorem occL_any (x : Int) : ∀ k : Fo, (occL x k).contains true = decide (x ∈ fvl k)
  | .nil => by simp [occL, fvl]
  | .node _ _ p k r => by
    have h := occL_any x r
    simp only [occL, List.contains_cons, h, fvl, fvs, List.mem_append]
    by_cases e : x ∈ (if p.1 = 0 then [p.2] else fvl k)
    · simp [e]
    · simp [e]

/-- What holds at the head of fold's loop: j kids are done. -/
structure FoB (w : World) (x : Int) (k : Fo) (g j : Nat) (wr : World) : Prop where
  below : Below w.heap.size w wr
  new : w.heap.size ≤ g
  lt : g < wr.heap.size
  row : wr.ownsRow w.heap.size 4 1 (.slice (some ⟨g, 0, none⟩) (flen k) (flen k)) (flen k) (((occL x k).take j ++ List.replicate (flen k - j) false).map Value.bool)
theorem FoB.start {w u : World} {x : Int} {k : Fo} (hb : Below w.heap.size w u) (hk : flen k ≤ 1000) : FoB w x k u.heap.size 0 (u.alloc (.cells (madeCells #[.bool false] (flen k)) 4)) := by
  have hs := hb.size
  refine ⟨hb.alloc hs _, hs, by simp, ?_⟩
  have h := World.ownsRow_lit (base := w.heap.size) (e := 4) (size := 1) u (madeCells #[.bool false] (flen k)) (flen k) hs (by unfold maxLen; omega) (by simp [madeCells])
  rw [toList_madeCells_one] at h
  simpa using h
theorem FoB.step {w wr w2 : World} {x : Int} {k : Fo} {g j a b : Nat} {s v : Int} {kk : Fo} (h : FoB w x k g j wr) (hj : j < flen k) (hd : fdrop j k = .node a b (s, v) kk (fdrop (j + 1) k)) (hb : Below wr.heap.size wr w2) : FoB w x k g (j + 1) (w2.setCell ⟨g, j, none⟩ (.bool (decide (x ∈ fvs s v kk)))) := by
  have hs := hb.size
  have hl := h.lt
  have hnew := h.new
  have hws := h.below.size
  have hown2 := own_low hb h.row
  refine ⟨(h.below.trans (hb.mono hws)).setCell hnew _, hnew, by simp; omega, ?_⟩
  have h2 := (hown2.stored j (.bool (decide (x ∈ fvs s v kk)))).1
  have ho := occL_at x j k hd
  have hol := occL_len x k
  have e : (((occL x k).take j ++ List.replicate (flen k - j) false).map Value.bool).set j (.bool (decide (x ∈ fvs s v kk))) = ((occL x k).take (j + 1) ++ List.replicate (flen k - (j + 1)) false).map Value.bool := by
    rw [← List.map_set]
    congr 1
    rw [List.set_append_right (h := by rw [List.length_take]; omega), List.length_take, show j - min j (occL x k).length = 0 from by omega, List.take_add_one, ho, show flen k - j = (flen k - (j + 1)) + 1 from by omega, List.replicate_succ]
    simp
  rw [e] at h2
  exact h2

end Go.Proofs.Ytoafleckcjanaaa

/-! SZ: - The size of a node, at the operation that calls the method through the interface. -/
namespace Go.Proofs.Ytoafleckcjanaaa
open Go.RowKit Go.Deep

end Go.Proofs.Ytoafleckcjanaaa

/-! SHm: - The contract of maps.Clone at this program. -/
namespace Go.Proofs
end Go.Proofs

/-! TI: - The program's then: what variables stand for, if others are put into that. -/
namespace Go.Proofs.Ytoafleckcjanaaa
open Go.RowKit Go.Deep Go.Maps

/-- What the copy says, while some are still to come. -/
def thF (bs us : List Bd) (left : Lit → Bool) (x : Int) : Option (Int × Int × Fo) := if left (.int .i64 x) = true then sv us x else thS (sv bs) (sv us) x
theorem thF_step {bs us : List Bd} {left : Lit → Bool} {x : Int} {t : Int × Int × Fo} (hs : sv bs x = some t) (y : Int) : thF bs us (fun z => left z && !z.sameKey (.int .i64 x)) y = if x = y then some (tsub (sv us) t.1 t.2.1 t.2.2) else thF bs us left y := by
  unfold thF
  by_cases e : x = y
  · subst e
    rw [if_pos rfl, if_neg (by simp [Lit.sameKey]), thS_some hs]
  · rw [if_neg e]
    have : (Lit.int .i64 y).sameKey (.int .i64 x) = false := by simp [Lit.sameKey]; exact fun h => e h.symm
    simp only [this, Bool.not_false, Bool.and_true]
theorem thF_rng {bs us : List Bd} (h1 : Rng (sv bs)) (h2 : Rng (sv us)) (left : Lit → Bool) : Rng (thF bs us left) := fun x t ht => by
  unfold thF at ht
  split at ht
  · exact h2 x t ht
  · cases hb : sv bs x with
    | some u => exact h1 x u hb
    | none => rw [thS_none hb] at ht; exact h2 x t ht
theorem below_grown {w w' : World} (h : Below w.heap.size w w') (row : Option Nat) : w.grownBy w' row := ⟨h.os, h.tape, h.output, h.size, fun i hi _ => h.block i hi⟩
def TnPost (bs us : List Bd) (w : World) (e : Ending) (w' : World) : Prop := ∃ g, e = .returned (.map (some g)) ∧ Below w.heap.size w w' ∧ MapF w' g (thS (sv bs) (sv us)) ∧ w.heap.size ≤ g

end Go.Proofs.Ytoafleckcjanaaa
