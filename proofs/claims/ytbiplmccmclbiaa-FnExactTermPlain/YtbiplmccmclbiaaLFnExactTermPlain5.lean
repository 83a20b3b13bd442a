/- Several texts in one: PL0, PLi. -/
import Derived.Test.YtbiplmccmclbiaaKMatch19
import Derived.Test.YtbiplmccmclbiaaKMatch15
import Derived.Test.YtbiplmccmclbiaaKMatch8
import Derived.Test.YtbiplmccmclbiaaKMatch10

/-! PL0: Variables named in the order in which they come, as plain data. -/
namespace Go.Proofs.Ytbiplmccmclbiaa
open Go.RowKit Go.Deep

/-- One more variable named. -/
def nm1 (bs : List Bd) (x : Int) : List Bd := match sv bs x with
  | some _ => bs
  | none => ladd bs (x, 0, (bs.length : Int), .nil)
/-- Variables named in the order in which they come. -/
def nmL : List Bd → List Int → List Bd
  | bs, [] => bs
  | bs, x :: r => nmL (nm1 bs x) r
theorem nmL_app : ∀ (xs ys : List Int) (bs : List Bd), nmL bs (xs ++ ys) = nmL (nmL bs xs) ys
  | [], _, _ => rfl
  | x :: r, ys, bs => by simp only [List.cons_append, nmL]; exact nmL_app r ys _
theorem nm1_some {bs : List Bd} {x : Int} {t : Int × Int × Fo} (h : sv bs x = some t) : nm1 bs x = bs := by unfold nm1; rw [h]
theorem nm1_none {bs : List Bd} {x : Int} (h : sv bs x = none) : nm1 bs x = ladd bs (x, 0, (bs.length : Int), .nil) := by unfold nm1; rw [h]
theorem nm1_ext (bs : List Bd) (x : Int) : Ext bs (nm1 bs x) := by
  cases h : sv bs x with
  | some t => rw [nm1_some h]; exact fun _ _ h => h
  | none => rw [nm1_none h]; exact ext_ladd (b := (x, 0, (bs.length : Int), .nil)) h
theorem nmL_ext : ∀ (xs : List Int) (bs : List Bd), Ext bs (nmL bs xs)
  | [], _ => fun _ _ h => h
  | x :: r, bs => fun y t h => nmL_ext r _ y t (nm1_ext bs x y t h)
theorem nm1_dom (bs : List Bd) (x y : Int) : (sv (nm1 bs x) y).isSome = true ↔ (sv bs y).isSome = true ∨ y = x := by
  cases h : sv bs x with
  | some t =>
    rw [nm1_some h]
    exact ⟨.inl, fun h2 => h2.elim id fun e => by rw [e, h]; rfl⟩
  | none =>
    rw [nm1_none h, sv_ladd (b := (x, 0, (bs.length : Int), .nil)) h]
    dsimp only
    split
    · rename_i e; simp [e]
    · rename_i e; exact ⟨.inl, fun h2 => h2.elim id fun e2 => absurd e2.symm e⟩
theorem nmL_dom : ∀ (xs : List Int) (bs : List Bd) (y : Int), (sv (nmL bs xs) y).isSome = true ↔ (sv bs y).isSome = true ∨ y ∈ xs
  | [], bs, y => by simp [nmL]
  | x :: r, bs, y => by simp only [nmL]; rw [nmL_dom r, nm1_dom, List.mem_cons, or_assoc]
theorem nm1_asc {bs : List Bd} (x : Int) (h : Asc bs) : Asc (nm1 bs x) := by
  cases hs : sv bs x with
  | some t => rw [nm1_some hs]; exact h
  | none => rw [nm1_none hs]; exact asc_ladd h hs
theorem nmL_asc : ∀ (xs : List Int) (bs : List Bd), Asc bs → Asc (nmL bs xs)
  | [], _, h => h
  | x :: r, _, h => nmL_asc r _ (nm1_asc x h)
theorem nm1_len (bs : List Bd) (x : Int) : bs.length ≤ (nm1 bs x).length ∧ (nm1 bs x).length ≤ bs.length + 1 := by
  cases hs : sv bs x with
  | some t => rw [nm1_some hs]; omega
  | none => rw [nm1_none hs, ladd_len]; omega
theorem nmL_len : ∀ (xs : List Int) (bs : List Bd), bs.length ≤ (nmL bs xs).length ∧ (nmL bs xs).length ≤ bs.length + xs.length
  | [], bs => by simp [nmL]
  | x :: r, bs => by
    have h1 := nm1_len bs x
    have h2 := nmL_len r (nm1 bs x)
    simp only [nmL, List.length_cons]; omega
/-- Each name is a number below how many there are; no two are the same. -/
def Nmd (bs : List Bd) : Prop := (∀ x t, sv bs x = some t → t.1 = 0 ∧ t.2.2 = .nil ∧ 0 ≤ t.2.1 ∧ t.2.1 < bs.length) ∧ ∀ x y t u, sv bs x = some t → sv bs y = some u → t.2.1 = u.2.1 → x = y
theorem Nmd.nil : Nmd [] := ⟨fun _ _ h => by simp [sv] at h, fun _ _ _ _ h => by simp [sv] at h⟩
theorem nm1_nmd {bs : List Bd} (x : Int) (h : Nmd bs) : Nmd (nm1 bs x) := by
  cases hs : sv bs x with
  | some t => rw [nm1_some hs]; exact h
  | none =>
    rw [nm1_none hs]
    refine ⟨fun y t ht => ?_, fun y z t u ht hu he => ?_⟩
    · rw [sv_ladd (b := (x, 0, (bs.length : Int), .nil)) hs] at ht
      rw [ladd_len]
      split at ht
      · obtain rfl := Option.some.inj ht; exact ⟨rfl, rfl, by simp, by dsimp only; omega⟩
      · obtain ⟨a1, a2, a3, a4⟩ := h.1 y t ht; exact ⟨a1, a2, a3, by omega⟩
    · rw [sv_ladd (b := (x, 0, (bs.length : Int), .nil)) hs] at ht hu
      split at ht
      · rename_i e1
        obtain rfl := Option.some.inj ht
        split at hu
        · rename_i e2; exact e1.symm.trans e2
        · have := (h.1 z u hu).2.2.2; dsimp only at he; omega
      · split at hu
        · obtain rfl := Option.some.inj hu
          have := (h.1 y t ht).2.2.2; dsimp only at he; omega
        · exact h.2 y z t u ht hu he
theorem nmL_nmd : ∀ (xs : List Int) (bs : List Bd), Nmd bs → Nmd (nmL bs xs)
  | [], _, h => h
  | x :: r, _, h => nmL_nmd r _ (nm1_nmd x h)
/-- How a variable is named. -/
def nmOf (bs : List Bd) (x : Int) : Int := (tsub (sv bs) 0 x .nil).2.1
theorem nmOf_some {bs : List Bd} {x : Int} {t : Int × Int × Fo} (h : sv bs x = some t) : nmOf bs x = t.2.1 := by unfold nmOf; rw [tsub_var rfl h]

/-- The names of a term. -/
def nms (s v : Int) (k : Fo) : List Bd := nmL [] (fvs s v k)
theorem nms_in {s v : Int} {k : Fo} (h : okW s v k 16 = true) : Asc (nms s v k) ∧ Nmd (nms s v k) ∧ (∀ x, (sv (nms s v k) x).isSome = true ↔ x ∈ fvs s v k) ∧ (nms s v k).map (·.1) = tvR s v k ∧ (nms s v k).length ≤ 12 := by
  have h1 : Asc (nms s v k) := nmL_asc _ _ List.Pairwise.nil
  have h3 : ∀ x, (sv (nms s v k) x).isSome = true ↔ x ∈ fvs s v k := fun x => by unfold nms; rw [nmL_dom]; simp [sv]
  have h4 : (nms s v k).map (·.1) = tvR s v k := by
    unfold tvR
    rw [if_pos h]
    refine strict_ext _ _ (map_asc h1) (among_strict _ _) fun x => ?_
    rw [← sv_some, h3 x, among_mem]
    exact ⟨fun hx => by have := fvs_in h x hx; exact ⟨hx, by omega, by omega⟩, fun hx => hx.1⟩
  refine ⟨h1, nmL_nmd _ _ Nmd.nil, h3, h4, ?_⟩
  have h5 := congrArg List.length h4
  rw [List.length_map] at h5
  rw [h5]
  unfold tvR
  rw [if_pos h]
  exact among_len _ _
theorem nms_bof {s v : Int} {k : Fo} (h : okW s v k 16 = true) : Bof (nms s v k) 0 := fun x t ht => by
  obtain ⟨_, h2, _, _, h5⟩ := nms_in h
  obtain ⟨a1, a2, a3, a4⟩ := h2.1 x t ht
  refine ⟨(okN_iff _ _ _).2 ⟨?_, fun _ => ⟨a3, by omega⟩, fun hne => absurd a1 hne⟩, ?_, ?_⟩
  · rw [a1, a2]; simp [flen, ar]
  · rw [a2]; rfl
  · rw [a2]; simp [fsz]
theorem nms_sok {s v : Int} {k : Fo} (h : okW s v k 16 = true) : sok 16 (nms s v k) = true := by
  obtain ⟨h1, _, h3, _, _⟩ := nms_in h
  exact sok_of h1 (fun x hx => fvs_in h x ((h3 x).1 hx)) (fun x t ht => ⟨(nms_bof h x t ht).1, (nms_bof h x t ht).2.1, by have := (nms_bof h x t ht).2.2; omega⟩)
/-- The answer of TermPlain. -/
def plR (s v : Int) (k : Fo) : (Int × Int × Fo) × List Bd := if okW s v k 16 = true then (tsub (sv (nms s v k)) s v k, nms s v k) else ((0, 0, .nil), [])

/-- A row in which variables stand for variables has the same form. -/
theorem fsub_form {σ : Int → Option (Int × Int × Fo)} (h : ∀ x t, σ x = some t → t.1 = 0 ∧ t.2.2 = .nil) : ∀ k : Fo, fok k = true → fsz (fsub σ k) = fsz k ∧ ∀ i, fpl (fsub σ k) i = fpl k i
  | .nil, _ => ⟨rfl, fun _ => rfl⟩
  | .node x y p k r, hk => by
    simp only [fok, Bool.and_eq_true] at hk
    obtain ⟨r1, r2⟩ := fsub_form h r hk.2
    obtain ⟨k1, k2⟩ := fsub_form h k hk.1.2
    simp only [fsub]
    by_cases e : p.1 = 0
    · have hn : k = .nil := kids_none (v := p.2) (by rw [← e]; exact hk.1.1)
      subst hn
      rw [if_pos e]
      cases hs : σ p.2 with
      | none => exact ⟨by simp only [fsz, r1], fun i => by simp only [fpl, r2]⟩
      | some t =>
        have ht := (h _ _ hs).2
        dsimp only
        rw [ht]
        exact ⟨by simp only [fsz, r1], fun i => by simp only [fpl, r2]⟩
    · rw [if_neg e]
      exact ⟨by simp only [fsz, k1, r1], fun i => by simp only [fpl, k2, r2]⟩
theorem tsub_form {σ : Int → Option (Int × Int × Fo)} (h : ∀ x t, σ x = some t → t.1 = 0 ∧ t.2.2 = .nil) {s v : Int} {k : Fo} (h1 : okN s v (flen k) = true) (h2 : fok k = true) : fsz (tsub σ s v k).2.2 = fsz k ∧ places (tsub σ s v k).2.2 = places k := by
  by_cases e : s = 0
  · subst e
    have hn := kids_none h1
    subst hn
    rw [tsub0]
    cases hs : σ v with
    | none => exact ⟨rfl, rfl⟩
    | some t =>
      have ht := (h _ _ hs).2
      simp only [Option.getD]
      rw [ht]; exact ⟨rfl, rfl⟩
  · rw [tsub_sym e]
    obtain ⟨a, b⟩ := fsub_form h k h2
    exact ⟨a, by unfold places; rw [b]⟩
theorem plR_cases {s v : Int} {k : Fo} {s' v' : Int} {k' : Fo} {bs : List Bd} (h : plR s v k = ((s', v', k'), bs)) :
    (okW s v k 16 = false ∧ s' = 0 ∧ v' = 0 ∧ k' = .nil ∧ bs = []) ∨ (okW s v k 16 = true ∧ bs = nms s v k ∧ tsub (sv (nms s v k)) s v k = (s', v', k') ∧ okW s' v' k' 16 = true ∧ fsz k' = fsz k ∧ places k' = places k) := by
  unfold plR at h
  split at h
  · rename_i hok
    simp only [Prod.mk.injEq] at h
    obtain ⟨h1, h2⟩ := h
    obtain ⟨o1, o2, o3⟩ := (okW_iff _ _ _ _).1 hok
    obtain ⟨_, hn, _, _, _⟩ := nms_in hok
    have hf := tsub_form (σ := sv (nms s v k)) (fun x t ht => ⟨(hn.1 x t ht).1, (hn.1 x t ht).2.1⟩) o1 o2
    have ht := tsub_ok (nms_sok hok) hok
    rw [h1] at hf ht
    dsimp only at hf ht
    exact .inr ⟨hok, h2.symm, h1, (okW_iff _ _ _ _).2 ⟨ht.1, ht.2.1, by have := hf.1; omega⟩, hf.1, hf.2⟩
  · rename_i hok
    simp only [Prod.mk.injEq] at h
    exact .inl ⟨by simpa using hok, h.1.1.symm, h.1.2.1.symm, h.1.2.2.symm, h.2.symm⟩
theorem plR_small {s v : Int} {k : Fo} {s' v' : Int} {k' : Fo} {bs : List Bd} (h : plR s v k = ((s', v', k'), bs)) : fsz k' ≤ 15 ∧ bs.length ≤ 12 ∧ ∀ x ∈ bs, fsz x.2.2.2 ≤ 1000000 := by
  rcases plR_cases h with ⟨_, _, _, rfl, rfl⟩ | ⟨hok, rfl, _, ho, _, _⟩
  · exact ⟨by simp [fsz], by simp, fun x hx => by cases hx⟩
  · have h1 := ((okW_iff _ _ _ _).1 ho).2.2
    obtain ⟨ha, _, _, _, h5⟩ := nms_in hok
    exact ⟨by omega, h5, fun x hx => by have := (nms_bof hok x.1 x.2 (sv_mem ha hx)).2.2; omega⟩

/-- The variables of what comes of names. -/
theorem fvl_names {σ : Int → Option (Int × Int × Fo)} : ∀ k : Fo, (∀ x ∈ fvl k, ∃ t, σ x = some t ∧ t.1 = 0) → fvl (fsub σ k) = (fvl k).map fun x => (tsub σ 0 x .nil).2.1
  | .nil, _ => rfl
  | .node x y p k r, h => by
    simp only [fvl, List.mem_append] at h
    have hr := fvl_names r fun z hz => h z (.inr hz)
    rw [fsub_sign]
    by_cases e : p.1 = 0
    · obtain ⟨t, ht, h0⟩ := h p.2 (.inl (by rw [if_pos e]; simp))
      rw [tsub_var e ht]
      simp only [fvl, if_pos h0, if_pos e, hr, List.map_append, List.map_cons, List.map_nil]
      rw [tsub_var rfl ht]
    · rw [tsub_sym e]
      simp only [fvl, if_neg e, hr, List.map_append]
      rw [fvl_names k fun z hz => h z (.inl (by rw [if_neg e]; exact hz))]
theorem fvs_names {bs : List Bd} (hn : Nmd bs) {s v : Int} {k : Fo} (h : ∀ x ∈ fvs s v k, (sv bs x).isSome = true) {s' v' : Int} {k' : Fo} (ht : tsub (sv bs) s v k = (s', v', k')) : fvs s' v' k' = (fvs s v k).map (nmOf bs) := by
  unfold fvs at h
  have hx : ∀ x, (sv bs x).isSome = true → ∃ t, sv bs x = some t ∧ t.1 = 0 := fun x hx => by
    obtain ⟨t, ht⟩ := Option.isSome_iff_exists.1 hx
    exact ⟨t, ht, (hn.1 x t ht).1⟩
  by_cases e : s = 0
  · rw [if_pos e] at h
    obtain ⟨t, h1, h0⟩ := hx v (h v (by simp))
    rw [tsub_var e h1] at ht
    subst ht
    dsimp only at h0
    unfold fvs
    rw [if_pos h0, if_pos e, List.map_cons, List.map_nil, nmOf_some h1]
  · rw [if_neg e] at h
    rw [tsub_sym e] at ht
    simp only [Prod.mk.injEq] at ht
    obtain ⟨rfl, rfl, rfl⟩ := ht
    unfold fvs
    rw [if_neg e, if_neg e]
    exact fvl_names k fun x hxx => hx x (h x hxx)
/-- Named anew, names stay; there are as many. -/
theorem nms_anew (B : List Bd) : ∀ (xs : List Int) (bs cs : List Bd), Ext (nmL bs xs) B → Nmd B → cs.length = bs.length → Nmd bs → (∀ x t, sv bs x = some t → sv cs t.2.1 = some (0, t.2.1, .nil)) → (∀ m, (sv cs m).isSome = true → 0 ≤ m ∧ m < bs.length) →
    (nmL cs (xs.map (nmOf B))).length = (nmL bs xs).length ∧ ∀ x t, sv (nmL bs xs) x = some t → sv (nmL cs (xs.map (nmOf B))) t.2.1 = some (0, t.2.1, .nil)
  | [], bs, cs, _, _, hl, _, hv, _ => ⟨hl, hv⟩
  | x :: r, bs, cs, hB, hNB, hl, hN, hv, hd => by
    simp only [List.map_cons, nmL]
    simp only [nmL] at hB
    cases hs : sv bs x with
    | some t =>
      have hx := hB x t (nmL_ext r _ x t (nm1_ext bs x x t hs))
      have h1 := hv x t hs
      rw [nmOf_some hx, nm1_some h1, nm1_some hs]
      rw [nm1_some hs] at hB
      exact nms_anew B r bs cs hB hNB hl hN hv hd
    | none =>
      have hx0 : sv (nm1 bs x) x = some (0, (bs.length : Int), .nil) := by rw [nm1_none hs, sv_ladd (b := (x, 0, (bs.length : Int), .nil)) hs]; simp
      have hx := hB x _ (nmL_ext r _ x _ hx0)
      have h1 : sv cs (bs.length : Int) = none := by
        cases h : sv cs (bs.length : Int) with
        | none => rfl
        | some u => have := (hd (bs.length : Int) (by rw [h]; rfl)).2; omega
      rw [nmOf_some hx]
      dsimp only
      have hc : nm1 cs (bs.length : Int) = ladd cs ((bs.length : Int), 0, (bs.length : Int), .nil) := by rw [nm1_none h1, hl]
      have hb : nm1 bs x = ladd bs (x, 0, (bs.length : Int), .nil) := nm1_none hs
      refine nms_anew B r (nm1 bs x) (nm1 cs (bs.length : Int)) hB hNB ?_ (nm1_nmd x hN) (fun y t ht => ?_) (fun m hm => ?_)
      · rw [hc, hb, ladd_len, ladd_len, hl]
      · rw [hb, sv_ladd (b := (x, 0, (bs.length : Int), .nil)) hs] at ht
        rw [hc, sv_ladd (b := ((bs.length : Int), 0, (bs.length : Int), .nil)) h1]
        split at ht
        · obtain rfl := Option.some.inj ht; dsimp only; rw [if_pos rfl]
        · have h4 := (hN.1 y t ht).2.2.2
          dsimp only
          rw [if_neg (by omega)]
          exact hv y t ht
      · rw [hc, sv_ladd (b := ((bs.length : Int), 0, (bs.length : Int), .nil)) h1] at hm
        rw [hb, ladd_len]
        split at hm
        · rename_i e; dsimp only at e; omega
        · have := hd m hm; omega
theorem fsub_self {σ : Int → Option (Int × Int × Fo)} : ∀ k : Fo, fok k = true → (∀ x ∈ fvl k, σ x = some (0, x, .nil)) → fsub σ k = k
  | .nil, _, _ => rfl
  | .node x y p k r, hk, h => by
    simp only [fok, Bool.and_eq_true] at hk
    simp only [fvl, List.mem_append] at h
    have hr := fsub_self r hk.2 fun z hz => h z (.inr hz)
    rw [fsub_sign, hr]
    by_cases e : p.1 = 0
    · have hn : k = .nil := kids_none (v := p.2) (by rw [← e]; exact hk.1.1)
      have h0 := h p.2 (.inl (by rw [if_pos e]; simp))
      rw [tsub_var e h0, hn]
      have : p = (0, p.2) := Prod.ext e rfl
      rw [this]
    · rw [tsub_sym e, fsub_self k hk.1.2 fun z hz => h z (.inl (by rw [if_neg e]; exact hz))]
theorem tsub_self {σ : Int → Option (Int × Int × Fo)} {s v : Int} {k : Fo} (h1 : okN s v (flen k) = true) (h2 : fok k = true) (h : ∀ x ∈ fvs s v k, σ x = some (0, x, .nil)) : tsub σ s v k = (s, v, k) := by
  unfold fvs at h
  by_cases e : s = 0
  · subst e
    rw [if_pos rfl] at h
    rw [tsub_var rfl (h v (by simp)), kids_none h1]
  · rw [if_neg e] at h
    rw [tsub_sym e, fsub_self k h2 h]
/-- Named anew twice is named anew once. -/
theorem plain_twice {s v : Int} {k : Fo} {s' v' : Int} {k' : Fo} {bs : List Bd} (h : plR s v k = ((s', v', k'), bs)) (hok : okW s v k 16 = true) : plR s' v' k' = ((s', v', k'), nms s' v' k') ∧ (nms s' v' k').length = (nms s v k).length := by
  rcases plR_cases h with ⟨h0, _⟩ | ⟨_, rfl, ht, ho, _, _⟩
  · rw [hok] at h0; cases h0
  obtain ⟨o1, o2, _⟩ := (okW_iff _ _ _ _).1 ho
  obtain ⟨_, hn, hd, _, _⟩ := nms_in hok
  have hf := fvs_names hn (fun x hx => (hd x).2 hx) ht
  have hA := nms_anew (nms s v k) (fvs s v k) [] [] (fun _ _ h => h) hn rfl Nmd.nil (fun _ _ h => by simp [sv] at h) (fun _ h => by simp [sv] at h)
  have hE : nms s' v' k' = nmL [] ((fvs s v k).map (nmOf (nms s v k))) := by unfold nms; rw [hf]; rfl
  refine ⟨?_, by rw [hE]; exact hA.1⟩
  unfold plR
  rw [if_pos ho]
  refine Prod.ext ?_ rfl
  refine tsub_self o1 o2 fun m hm => ?_
  rw [hf] at hm
  obtain ⟨x, hx, rfl⟩ := List.mem_map.1 hm
  obtain ⟨t, hxt⟩ := Option.isSome_iff_exists.1 ((hd x).2 hx)
  rw [nmOf_some hxt, hE]
  exact hA.2 x t hxt
/-- A plain term is the term but for names. -/
theorem plain_back {s v : Int} {k : Fo} {s' v' : Int} {k' : Fo} {bs : List Bd} (h : plR s v k = ((s', v', k'), bs)) (hok : okW s v k 16 = true) : sdR bs s v k = (s', v', k', true) ∧ (∃ b1, maR s v k s' v' k' = (b1, true)) ∧ ∃ b2, maR s' v' k' s v k = (b2, true) := by
  rcases plR_cases h with ⟨h0, _⟩ | ⟨_, rfl, ht, ho, _, _⟩
  · rw [hok] at h0; cases h0
  obtain ⟨p1, p2, p3⟩ := (okW_iff _ _ _ _).1 ho
  obtain ⟨o1, o2, _⟩ := (okW_iff _ _ _ _).1 hok
  obtain ⟨_, hn, hd, _, _⟩ := nms_in hok
  obtain ⟨b1, hb1, _⟩ := ma_made hok ho ht
  refine ⟨sdR_of (nms_sok hok) hok ht (by omega), ⟨b1, hb1⟩, ?_⟩
  let τ : Int → Option (Int × Int × Fo) := fun m => ((nms s v k).find? fun b => decide (b.2.2.1 = m)).map fun b => (0, b.1, .nil)
  have hτ : ∀ x t, sv (nms s v k) x = some t → τ t.2.1 = some (0, x, .nil) := fun x t hx => by
    have hm := mem_sv hx
    cases hf : (nms s v k).find? fun b => decide (b.2.2.1 = t.2.1) with
    | none =>
      have := List.find?_eq_none.1 hf _ hm
      simp at this
    | some b =>
      have h1 := List.find?_some hf
      have h2 := List.mem_of_find?_eq_some hf
      simp only [decide_eq_true_eq] at h1
      have h3 := sv_mem (nms_in hok).1 h2
      have h4 := hn.2 b.1 x b.2 t h3 hx h1
      show Option.map _ ((nms s v k).find? fun b => decide (b.2.2.1 = t.2.1)) = _
      rw [hf, ← h4]; rfl
  have hc := tsub_comp (σ := sv (nms s v k)) (τ := τ) (s := s) (v := v) (k := k) fun x hx => (hd x).2 hx
  rw [ht] at hc
  dsimp only at hc
  have hs : tsub (comp (sv (nms s v k)) τ) s v k = (s, v, k) := tsub_self o1 o2 fun x hx => by
    obtain ⟨t, hxt⟩ := Option.isSome_iff_exists.1 ((hd x).2 hx)
    obtain ⟨a1, a2, _, _⟩ := hn.1 x t hxt
    rw [comp_some hxt]
    rw [tsub_var a1 (hτ x t hxt)]
  rw [hs] at hc
  obtain ⟨b2, hb2, _⟩ := ma_made ho hok hc
  exact ⟨b2, hb2⟩
end Go.Proofs.Ytbiplmccmclbiaa

/-! PLi: The program's plainOf and TermPlain. -/
namespace Go.Proofs.Ytbiplmccmclbiaa
open Go.RowKit Go.Deep Go.Maps

/-- A map in which the variables of bs have nodes of their terms, and no others. -/
def MapE (w : World) (b : Nat) (bs : List Bd) : Prop :=
  ∃ n D, w.ownsMap Try.prog 102 rdV b n D ∧ n ≤ bs.length ∧ Maps.size D = bs.length ∧ ∀ x : Int, (Lit.int .i64 x).wf = true →
    (sv bs x = none → Maps.has D (.int .i64 x) = false) ∧ ∀ s v k, sv bs x = some (s, v, k) → Maps.has D (.int .i64 x) = true ∧ ∃ nv, D.atKey (.int .i64 x) (.held .nilIface) = .held nv ∧ NodeIs w 0 w.heap.size nv s v k
theorem MapE.to {w : World} {b : Nat} {bs : List Bd} (h : MapE w b bs) : MapIs w b bs := by
  obtain ⟨n, D, h1, h2, _, h4⟩ := h
  exact ⟨n, D, h1, h2, h4⟩
theorem MapE.start (w : World) : MapE (w.alloc (.map #[] 0)) w.heap.size [] :=
  ⟨0, .map [], World.ownsMap_made w Try.prog 102 rdV, Nat.le_refl _, rfl, fun x _ => ⟨fun _ => rfl, fun s v k h => by simp [sv] at h⟩⟩
theorem MapE.below {w w' : World} {b : Nat} {bs : List Bd} (h : MapE w b bs) (hb : Below w.heap.size w w') : MapE w' b bs := by
  obtain ⟨n, D, hm, hn, hz, hx⟩ := h
  have hlt := hm.lt
  refine ⟨n, D, ?_, hn, hz, fun x hw => ⟨(hx x hw).1, fun s v k hs => ?_⟩⟩
  · obtain ⟨es, clock, h1, h2⟩ := hm
    exact ⟨es, clock, by rw [hb.block b hlt]; exact h1, h2⟩
  · obtain ⟨h1, nv, h2, h3⟩ := (hx x hw).2 s v k hs
    exact ⟨h1, nv, h2, (h3.below hb).mono (Nat.le_refl _) hb.size⟩
/-- One more name. -/
theorem MapE.put {w w' : World} {b n : Nat} {D : DataW Value} {bs : List Bd} {x : Int} {nv : Value} {s v : Int} {k : Fo} (hn : n ≤ bs.length) (hz : Maps.size D = bs.length) (hx : ∀ x : Int, (Lit.int .i64 x).wf = true →
    (sv bs x = none → Maps.has D (.int .i64 x) = false) ∧ ∀ s v k, sv bs x = some (s, v, k) → Maps.has D (.int .i64 x) = true ∧ ∃ nv, D.atKey (.int .i64 x) (.held .nilIface) = .held nv ∧ NodeIs w 0 w.heap.size nv s v k)
    (hm : w.ownsMap Try.prog 102 rdV b n D) (hw : w'.ownsMap Try.prog 102 rdV b (n + 1) (D.put (.int .i64 x) (.held nv))) (hg : w.grownBy w' (some b)) (hwf : (Lit.int .i64 x).wf = true) (hv : sv bs x = none) (hnv : NodeIs w 0 w.heap.size nv s v k) : MapE w' b (ladd bs (x, s, v, k)) := by
  have hk := cells_keep hm hg
  have hD := (hm.tidy law).isMap
  refine ⟨n + 1, _, hw, by rw [ladd_len]; omega, ?_, fun y hy => ?_⟩
  · rw [size_put (hm.tidy law), (hx x hwf).1 hv, ladd_len, ← hz]; rfl
  rw [sv_ladd (b := (x, s, v, k)) hv]
  by_cases e : x = y
  · subst e
    rw [if_pos rfl]
    refine ⟨fun h => (by cases h), fun s' v' k' h => ?_⟩
    simp only [Option.some.injEq, Prod.mk.injEq] at h
    obtain ⟨rfl, rfl, rfl⟩ := h
    exact ⟨has_put_same hD (by trivial) _, nv, atKey_put_same hD (by trivial) _ _, (hnv.keep hk).mono (Nat.le_refl _) hg.size⟩
  · rw [if_neg (by exact e)]
    have hne : (Lit.int .i64 y) ≠ (Lit.int .i64 x) := by intro h; simp only [Lit.int.injEq, true_and] at h; exact e h.symm
    refine ⟨fun h => ?_, fun s' v' k' h => ?_⟩
    · rw [has_put_other hne]; exact (hx y hy).1 h
    · obtain ⟨h1, nv', h2, h3⟩ := (hx y hy).2 s' v' k' h
      exact ⟨by rw [has_put_other hne]; exact h1, nv', by rw [atKey_put_other hne]; exact h2, (h3.keep hk).mono (Nat.le_refl _) hg.size⟩
theorem take_nm {ys : List Int} {j : Nat} {y : Int} (h : ys[j]? = some y) (bs : List Bd) : nmL bs (ys.take (j + 1)) = nm1 (nmL bs (ys.take j)) y := by
  rw [List.take_add_one, h, nmL_app]; rfl

def PoPost (s v : Int) (k : Fo) (w : World) (e : Ending) (w' : World) : Prop := ∃ b, e = .returned (.map (some b)) ∧ Below w.heap.size w w' ∧ MapE w' b (nms s v k)

set_option maxRecDepth 100000 in
set_option maxHeartbeats 2000000 in
theorem plainOf_any (s v : Int) (k : Fo) (nv : Value) (w : World) (hn : NodeIs w 0 w.heap.size nv s v k) (hsz : fsz k ≤ 100) (hin : ∀ x ∈ fvs s v k, 0 ≤ x ∧ x ≤ 11) :
    Calls Try.prog 46 #[nv] w (PoPost s v k w) := by
  have hb0 : Below w.heap.size w (w.alloc (.map #[] 0)) := (Below.refl _ _).alloc (Nat.le_refl _) _
  have HW0 := Lib.hid hb0
  have HN0 : Hid (NodeIs (w.alloc (.map #[] 0)) 0 (w.alloc (.map #[] 0)).heap.size nv s v k) := (hn.below hb0).mono (Nat.le_refl _) hb0.size
  have HM0 := Lib.hid (MapE.start w)
  have HIN := Lib.hid hin
  have hmm := @run_makeMap Try.prog
  have hz := zeroE
  have hvz := fvs_sz s v k
  clear hb0 hn hin
  go_enter Try.func46, Try.ntmps46
  have HC : Hid (Calls Try.prog 50 #[.slice none 0 0, nv] (w.alloc (.map #[] 0)) (AvPost (w.alloc (.map #[] 0)).heap.size [] s v k (w.alloc (.map #[] 0)))) := addVars_any (w.alloc (.map #[] 0)).heap.size (fsz k) s v k nv [] none 0 _ (Nat.le_refl _) HN0.out (World.ownsRow_nil _ _ _ _) (Nat.le_refl _) (by omega) (by simp; omega)
  go_wp2_with fail
  with_reducible refine HC.out.mono ?_
  rintro e w1 ⟨ys, A, C, hys, rfl, hio, hb1⟩
  have HYS : Hid (ys = fvs s v k) := by rw [Hid, hys]; rfl
  have hyl : ys.length ≤ 101 := by rw [HYS.out]; omega
  have HI : Hid (ISl w1 0 w1.heap.size A ys) := hio.sl.mono (Nat.zero_le _) (Nat.le_refl _)
  have HW1 := Lib.hid (below_next HW0.out hb1)
  have HM1 := Lib.hid (HM0.out.below hb1)
  have hs1 := hb1.size
  simp at hs1
  clear hys hio hb1 HC HM0 HN0 HW0
  go_wp2_with fail
  go_loopw [12] (fun i wr => ∃ j : Nat, i = .int .i64 j ∧ j ≤ ys.length ∧ Hid (MapE wr w.heap.size (nmL [] (ys.take j))) ∧ Hid (Kp w.heap.size w1 wr)) (fun i _ => ys.length - (intOf i).toNat)
  case atStart => exact ⟨0, rfl, Nat.zero_le _, HM1, Kp.refl _ _⟩
  case round =>
    clear HM1
    obtain ⟨j, rfl, hj, HM, HK⟩ := hrel
    by_cases hlt : j < ys.length
    · obtain ⟨rb, ro, rfl, y, hy, hc⟩ : ∃ rb ro, A = some ⟨rb, ro, none⟩ ∧ ∃ y, ys[j]? = some y ∧ wr.cell? ⟨rb, ro + j, none⟩ = some (.int .i64 y) := by
        obtain ⟨y, hy⟩ : ∃ y, ys[j]? = some y := ⟨ys[j], List.getElem?_eq_getElem hlt⟩
        rcases HI.out with h | ⟨rb, ro, e, h⟩
        · rw [h] at hlt; simp at hlt
        · exact ⟨rb, ro, e, y, hy, HK.out.cell _ _ (h.2.2 j y hy)⟩
      have hyin := HIN.out y (by rw [← HYS.out]; exact List.mem_of_getElem? hy)
      have HWF : Hid ((Lit.int .i64 y).wf = true) := WalkArith.wf_i64 (by omega)
      have HT := Lib.hid (take_nm hy [])
      have hln : (nmL [] (ys.take j)).length ≤ 101 := by have h1 := (nmL_len (ys.take j) []).2; have h2 : (ys.take j).length ≤ j := List.length_take_le _ _; simp at h1; omega
      have HLN := Lib.hid hln
      obtain ⟨n, D, hown, hnl, hsd, hsv⟩ := HM.out
      have HOWN := Lib.hid hown
      have HKEY := Lib.hid (key_of HWF.out)
      have hx := hsv y HWF.out
      have HSV := Lib.hid hsv
      have HNL := Lib.hid hnl
      have HSD := Lib.hid hsd
      have g1 : (0 : Int) ≤ (j : Int) := by omega
      have g2 : (j : Int) < (ys.length : Int) := by omega
      clear hown hsv hy hln hnl hsd
      cases hs : sv (nmL [] (ys.take j)) y with
      | some u =>
        obtain ⟨s1, v1, k1⟩ := u
        obtain ⟨hh, nv0, hat, hnode⟩ := hx.2 s1 v1 k1 hs
        have HM2 : Hid (MapE wr w.heap.size (nmL [] (ys.take (j + 1)))) := by rw [Hid, HT.out, nm1_some hs]; exact HM.out
        clear hx hs hnode hat
        go_wp2_with (at_lookup; refine wpList_lookup_own_ok (H := Value) _ rfl _ _ 70 rfl 102 66 law underM rdV (zeroE _) (.held .nilIface) [] rfl w.heap.size n D rfl HOWN.out (.int .i64 y) (.int .i64 y) rfl HKEY.out ?_; intro nv9 ps hnv; rw [hh]; clear hnv)
        go_roundw
        case rel => exact ⟨j + 1, by go_num, by omega, HM2, HK⟩
        case measure => simp [intOf]; omega
      | none =>
        have hh := hx.1 hs
        have HS := Lib.hid hs
        have HT2 : Hid (nmL [] (ys.take (j + 1)) = ladd (nmL [] (ys.take j)) (y, 0, (Maps.size D : Int), .nil)) := by rw [Hid, HT.out, nm1_none hs, HSD.out]
        have hn12 : n < 1000 := by have h1 := HNL.out; have h2 := HLN.out; omega
        have hnm : n < maxLen := by unfold maxLen; omega
        have HBW : Hid (w.heap.size ≤ wr.heap.size) := by have := HK.out.low.size; show _ ≤ _; omega
        clear hx hs
        go_wp2_with (first | (at_lookup; refine wpList_lookup_own_ok (H := Value) _ rfl _ _ 70 rfl 102 66 law underM rdV (zeroE _) (.held .nilIface) [] rfl w.heap.size n D rfl HOWN.out (.int .i64 y) (.int .i64 y) rfl HKEY.out ?_; intro nv9 ps hnv; rw [hh]; clear hnv) | (at_len; refine wpList_len_own _ rfl _ 70 rfl 102 66 underM _ w.heap.size n D rfl HOWN.out ?_) | (at_mapUpdate; refine wpList_mapUpdate_own (H := Value) _ rfl _ _ _ 70 rfl 102 66 law underM rdV w.heap.size n D rfl HOWN.out hnm (.int .i64 y) (.iface 102 (.int .i64 (Maps.size D))) (.int .i64 y) rfl rfl HKEY.out (.held (.iface 102 (.int .i64 (Maps.size D)))) [] rfl ?_; intro w3 hown3 hgrow3; have HM3 := Lib.hid (MapE.put (s := 0) (v := (Maps.size D : Int)) (k := .nil) HNL.out HSD.out HSV.out HOWN.out hown3 hgrow3 HWF.out HS.out (.inl ⟨rfl, rfl, rfl⟩)); have HK3 : Hid (Kp w.heap.size w1 w3) := HK.out.trans ⟨(Below.refl _ _).grown hgrow3 HBW.out (fun g hg => by cases hg; exact Nat.le_refl _), cells_keep HOWN.out hgrow3⟩; clear hown3 hgrow3))
        go_roundw
        case rel => exact ⟨j + 1, by go_num, by omega, by rw [HT2.out]; exact HM3, HK3⟩
        case measure => simp [intOf]; omega
    · have HF : Hid (nmL [] (ys.take j) = nms s v k) := by rw [Hid, List.take_of_length_le (by omega), HYS.out]; rfl
      have HP : Hid (PoPost s v k w (.returned (.map (some w.heap.size))) wr) := ⟨w.heap.size, rfl, HW1.out.trans HK.out.low, by rw [← HF.out]; exact HM.out⟩
      go_wp2_with fail
      go_ret
      exact HP.out

def PlnPost (s v : Int) (k : Fo) (w : World) (e : Ending) (w' : World) : Prop :=
  ∃ a c A C s' v' k' bs, plR s v k = ((s', v', k'), bs) ∧ e = .returned (.tuple #[.agg #[.int .i64 s', .int .i64 v', .slice a (flen k') c], .slice A (List.length bs) C]) ∧ Below w.heap.size w w' ∧ Sl w' 0 w'.heap.size a k' ∧ BSl w' 0 w'.heap.size A bs
theorem pl_end {w w1 : World} {s v s' v' : Int} {k k' : Fo} {a A : Option Addr} {c C : Nat} {bs : List Bd} {o o' : Obj} (hr : plR s v k = ((s', v', k'), bs)) (hb : Below (w.heap.size + 2) ((w.alloc o).alloc o') w1) (hl : Sl w1 (w.heap.size + 2) w1.heap.size a k') (hi : BSl w1 (w.heap.size + 2) w1.heap.size A bs) (x y z : Value) :
    PlnPost s v k w (.returned (.tuple #[.agg #[.int .i64 s', .int .i64 v', .slice a (flen k') c], .slice A (List.length bs) C])) (((w1.setCell ⟨w.heap.size + 1, 0, none⟩ x).setCell ⟨w.heap.size + 1, 1, none⟩ y).setCell ⟨w.heap.size + 1, 2, none⟩ z) := by
  have h0 : Same (w.heap.size + 2) w1.heap.size w1 (((w1.setCell ⟨w.heap.size + 1, 0, none⟩ x).setCell ⟨w.heap.size + 1, 1, none⟩ y).setCell ⟨w.heap.size + 1, 2, none⟩ z) := ((Same.setCell (fun _ _ _ => rfl) (.inl (by simp)) _).setCell (.inl (by simp)) _).setCell (.inl (by simp)) _
  have hb' : Below w.heap.size w w1 := (((Below.refl _ _).alloc (Nat.le_refl _) o).alloc (by simp) o').trans (hb.mono (by omega))
  exact ⟨a, c, A, C, s', v', k', bs, hr, rfl, ((hb'.setCell (by simp) _).setCell (by simp) _).setCell (by simp) _, (hl.same h0).mono (by omega) (by simp), (hi.same h0).mono (by omega) (by simp)⟩
theorem plR_bad {s v : Int} {k : Fo} (h : okW s v k 16 = false) : plR s v k = ((0, 0, .nil), []) := by unfold plR; rw [if_neg (by rw [h]; simp)]
theorem plR_ok {s v : Int} {k : Fo} (h : okW s v k 16 = true) : plR s v k = (tsub (sv (nms s v k)) s v k, nms s v k) := by unfold plR; rw [if_pos h]

set_option maxRecDepth 100000 in
set_option maxHeartbeats 2000000 in
theorem iTermPlain_any (s v : Int) (a : Option Addr) (c : Nat) (k : Fo) (w : World) (hl : Sl w 0 w.heap.size a k) :
    Calls Try.prog 17 #[.agg #[.int .i64 s, .int .i64 v, .slice a (flen k) c]] w (PlnPost s v k w) := by
  have hb0 : Below w.heap.size w ((w.alloc (.cells #[.int .i64 s, .int .i64 v, .slice a (flen k) c] 25)).alloc (.cells #[.int .i64 0, .int .i64 0, .slice none 0 0] 25)) := ((Below.refl _ _).alloc (Nat.le_refl _) _).alloc (by simp) _
  have HL0 := Lib.hid (hl.next hb0)
  have HB0 : Hid (Below (w.heap.size + 2) ((w.alloc (.cells #[.int .i64 s, .int .i64 v, .slice a (flen k) c] 25)).alloc (.cells #[.int .i64 0, .int .i64 0, .slice none 0 0] 25)) ((w.alloc (.cells #[.int .i64 s, .int .i64 v, .slice a (flen k) c] 25)).alloc (.cells #[.int .i64 0, .int .i64 0, .slice none 0 0] 25))) := Below.refl _ _
  have hsz : w.heap.size + 2 ≤ ((w.alloc (.cells #[.int .i64 s, .int .i64 v, .slice a (flen k) c] 25)).alloc (.cells #[.int .i64 0, .int .i64 0, .slice none 0 0] 25)).heap.size := by simp
  clear hb0 hl
  go_enter Try.func17, Try.ntmps17
  go_wp2_with fail
  with_reducible refine (nodeOf_any s v a c k 16 _ HL0.out (by omega) (by omega)).mono ?_
  rintro e w1 ⟨nv, rfl, hb1, hyes⟩
  have hb1' := HB0.out.trans (hb1.mono hsz)
  have hs1 : w.heap.size + 2 ≤ w1.heap.size := Nat.le_trans hsz hb1.size
  have HB1 := Lib.hid hb1'
  have HY := Lib.hid hyes
  clear hb1 hyes HB0 hsz HL0
  cases hok : okW s v k 16 with
  | false =>
    obtain ⟨_, _, _, hr3, hr4, hr5⟩ := tb_cellsS hb1'
    obtain ⟨_, hf3⟩ := tb_freeS hb1' 0 rfl rfl
    obtain ⟨_, hf4⟩ := tb_freeS hb1' 1 rfl rfl
    obtain ⟨_, hf5⟩ := tb_freeS hb1' 2 rfl rfl
    have HR := Lib.hid (plR_bad hok)
    clear hok hb1'
    go_wp2_with fail
    refine bodyPost_ret (v := .tuple #[.agg #[.int .i64 0, .int .i64 0, .slice none 0 0], .slice none 0 0]) ?_ rfl (pl_end (k' := .nil) (bs := []) HR.out HB1.out (.inl rfl) (.inl rfl) _ _ _)
    simp [results, Try.results17, go_sem, hr3, hr4, hr5]
  | true =>
    have HOK := Lib.hid hok
    obtain ⟨o1, o2, o3⟩ := (okW_iff _ _ _ _).1 hok
    have HO1 := Lib.hid o1
    have HO2 := Lib.hid o2
    have HN1 : Hid (NodeIs w1 0 w1.heap.size nv s v k) := (HY.out hok).mono (Nat.zero_le _) (Nat.le_refl _)
    have HFI := Lib.hid (fvs_in hok)
    have HR := Lib.hid (plR_ok hok)
    clear hok o1 o2 hb1' HY
    go_wp2_with fail
    with_reducible refine (plainOf_any s v k nv _ HN1.out (by omega) HFI.out).mono ?_
    rintro e w2 ⟨b, rfl, hb2, hm2⟩
    have HB2 := Lib.hid (HB1.out.trans (hb2.mono hs1))
    have HN2 : Hid (NodeIs w2 0 w2.heap.size nv s v k) := (HN1.out.below hb2).mono (Nat.le_refl _) hb2.size
    have hs2 := hb2.size
    have HM2 := Lib.hid hm2.to
    clear hb2 hm2 HN1 HB1
    obtain ⟨i1, i2, i3, i4, i5⟩ := nms_in HOK.out
    have HBI := Lib.hid (binds_any (nms s v k) b 16 w2 HM2.out i1 (fun x hx => HFI.out x ((i3 x).1 hx)) ((nms_bof HOK.out).mono (by omega)))
    have HFIT := Lib.hid (fits_of i1 ((nms_bof HOK.out).mono (by omega)))
    clear i1 i2 i3 i4 i5
    go_wp2_with fail
    with_reducible refine HBI.out.mono ?_
    rintro e w3 ⟨hb3, hc3⟩
    rcases hc3 with ⟨_, A, C, rfl, ho⟩ | ⟨hno, _⟩
    case inr => rw [HFIT.out] at hno; cases hno
    have HB3 := Lib.hid (HB2.out.trans (hb3.mono (by omega)))
    have HN3 : Hid (NodeIs w3 0 w3.heap.size nv s v k) := (HN2.out.below hb3).mono (Nat.le_refl _) hb3.size
    have HM3 := Lib.hid (HM2.out.below hb3)
    have HS3 : Hid (BSl w3 (w.heap.size + 2) w3.heap.size A (nms s v k)) := ho.bsl.mono (by omega) (Nat.le_refl _)
    have hs3 := hb3.size
    clear hb3 ho HN2 HM2 HB2 HBI HFIT
    go_wp2_with fail
    with_reducible refine (apply_any (nms s v k) b s v k nv _ HN3.out HM3.out HO1.out HO2.out (by omega)).mono ?_
    obtain ⟨t1, t2, t3⟩ := tsub_ok (nms_sok HOK.out) HOK.out
    have HT1 := Lib.hid t1
    have HT2 := Lib.hid t2
    clear t1 t2
    generalize htt : tsub (sv (nms s v k)) s v k = tt at *
    obtain ⟨s', v', k'⟩ := tt
    dsimp only at HT1 HT2 t3
    rintro e w4 ⟨nv', rfl, hb4, hn'⟩
    dsimp only at hn'
    have hs4 := hb4.size
    have HB4 := Lib.hid (HB3.out.trans (hb4.mono (by omega)))
    have HS4 : Hid (BSl w4 (w.heap.size + 2) w4.heap.size A (nms s v k)) := (HS3.out.below hb4).mono (Nat.le_refl _) hs4
    clear hb4 HB3 HN3 HM3 HS3 htt
    rcases hn' with ⟨rfl, rfl, rfl⟩ | ⟨hs', a5, c5, rfl, hn2⟩
    · go_wp2_with fail
      refine upon_method 125 (by kernel_rfl) (by kernel_rfl) ?_
      go_simp
      with_reducible refine (varTerm_any v' _).mono ?_
      rintro e w6 ⟨a6, c6, rfl, hb6, hl6⟩
      have hs6 := hb6.size
      have hb6' := HB4.out.trans (hb6.mono (by omega))
      have HBE := Lib.hid hb6'
      have HSE : Hid (BSl w6 (w.heap.size + 2) w6.heap.size A (nms s v k)) := (HS4.out.below hb6).mono (Nat.le_refl _) hs6
      obtain ⟨_, _, _, hr3, hr4, hr5⟩ := tb_cellsS hb6'
      obtain ⟨_, hf3⟩ := tb_freeS hb6' 0 rfl rfl
      obtain ⟨_, hf4⟩ := tb_freeS hb6' 1 rfl rfl
      obtain ⟨_, hf5⟩ := tb_freeS hb6' 2 rfl rfl
      have HL6 := Lib.hid (hl6.mono (lo' := w.heap.size + 2) (by omega) (Nat.le_refl _))
      clear hb6 hl6 hb6'
      go_wp2_with fail
      refine bodyPost_ret (v := .tuple #[.agg #[.int .i64 0, .int .i64 v', .slice a6 (flen .nil) c6], .slice A (nms s v k).length C]) ?_ rfl (pl_end HR.out HBE.out HL6.out HSE.out _ _ _)
      simp [results, Try.results17, go_sem, hr3, hr4, hr5]
    · have hv0 : v' = 0 := ((okN_iff _ _ _).1 HT1.out).2.2 hs'
      subst hv0
      have HNS := Lib.hid hn2
      clear hn2
      go_wp2_with fail
      refine upon_method 141 (by kernel_rfl) (by kernel_rfl) ?_
      go_simp
      with_reducible refine (symTerm_any (fsz k') s' a5 c5 k' _ HNS.out HT2.out (Nat.le_refl _) (by omega)).mono ?_
      rintro e w6 ⟨a6, c6, rfl, hb6, hl6⟩
      have hs6 := hb6.size
      have hb6' := HB4.out.trans (hb6.mono (by omega))
      have HBE := Lib.hid hb6'
      have HSE : Hid (BSl w6 (w.heap.size + 2) w6.heap.size A (nms s v k)) := (HS4.out.below hb6).mono (Nat.le_refl _) hs6
      obtain ⟨_, _, _, hr3, hr4, hr5⟩ := tb_cellsS hb6'
      obtain ⟨_, hf3⟩ := tb_freeS hb6' 0 rfl rfl
      obtain ⟨_, hf4⟩ := tb_freeS hb6' 1 rfl rfl
      obtain ⟨_, hf5⟩ := tb_freeS hb6' 2 rfl rfl
      have HL6 := Lib.hid (hl6.mono (lo' := w.heap.size + 2) (by omega) (Nat.le_refl _))
      clear hb6 hl6 hb6'
      go_wp2_with fail
      refine bodyPost_ret (v := .tuple #[.agg #[.int .i64 s', .int .i64 0, .slice a6 (flen k') c6], .slice A (nms s v k).length C]) ?_ rfl (pl_end HR.out HBE.out HL6.out HSE.out _ _ _)
      simp [results, Try.results17, go_sem, hr3, hr4, hr5]
end Go.Proofs.Ytbiplmccmclbiaa
