/- Several texts in one: PL0, G0, G1, SHt. -/
import Derived.Test.YtlaaihnokoeliabKPla11
import Derived.Test.YtlaaihnokoeliabKPla9
import Derived.Test.YtlaaihnokoeliabProg
import Derived.Shelf.Strconv.Itoa3
import Derived.Shelf.Strings.OnBuilder
import Derived.Ground.NamesProg

/-! PL0: Variables named in the order in which they come, as plain data. -/
namespace Go.Proofs.Ytlaaihnokoeliab
open Go.RowKit Go.Deep

/-- One more variable named. -/
def nm1 (bs : List Bd) (x : Int) : List Bd := match sv bs x with
  | some _ => bs
  | none => ladd bs (x, 0, (bs.length : Int), .nil)
/-- Variables named in the order in which they come. -/
def nmL : List Bd → List Int → List Bd
  | bs, [] => bs
  | bs, x :: r => nmL (nm1 bs x) r
theorem nmL_app : ∀ (xs ys : List Int) (bs : List Bd), nmL bs (xs ++ ys) = nmL (nmL bs xs) ys
  | [], _, _ => rfl
  | x :: r, ys, bs => by simp only [List.cons_append, nmL]; exact nmL_app r ys _
theorem nm1_some {bs : List Bd} {x : Int} {t : Int × Int × Fo} (h : sv bs x = some t) : nm1 bs x = bs := by unfold nm1; rw [h]
theorem nm1_none {bs : List Bd} {x : Int} (h : sv bs x = none) : nm1 bs x = ladd bs (x, 0, (bs.length : Int), .nil) := by unfold nm1; rw [h]
theorem nm1_ext (bs : List Bd) (x : Int) : Ext bs (nm1 bs x) := by
  cases h : sv bs x with
  | some t => rw [nm1_some h]; exact fun _ _ h => h
  | none => rw [nm1_none h]; exact ext_ladd (b := (x, 0, (bs.length : Int), .nil)) h
theorem nmL_ext : ∀ (xs : List Int) (bs : List Bd), Ext bs (nmL bs xs)
  | [], _ => fun _ _ h => h
  | x :: r, bs => fun y t h => nmL_ext r _ y t (nm1_ext bs x y t h)
theorem nm1_dom (bs : List Bd) (x y : Int) : (sv (nm1 bs x) y).isSome = true ↔ (sv bs y).isSome = true ∨ y = x := by
  cases h : sv bs x with
  | some t =>
    rw [nm1_some h]
    exact ⟨.inl, fun h2 => h2.elim id fun e => by rw [e, h]; rfl⟩
  | none =>
    rw [nm1_none h, sv_ladd (b := (x, 0, (bs.length : Int), .nil)) h]
    dsimp only
    split
    · rename_i e; simp [e]
    · rename_i e; exact ⟨.inl, fun h2 => h2.elim id fun e2 => absurd e2.symm e⟩
theorem nmL_dom : ∀ (xs : List Int) (bs : List Bd) (y : Int), (sv (nmL bs xs) y).isSome = true ↔ (sv bs y).isSome = true ∨ y ∈ xs
  | [], bs, y => by simp [nmL]
  | x :: r, bs, y => by simp only [nmL]; rw [nmL_dom r, nm1_dom, List.mem_cons, or_assoc]
theorem nm1_asc {bs : List Bd} (x : Int) (h : Asc bs) : Asc (nm1 bs x) := by
  cases hs : sv bs x with
  | some t => rw [nm1_some hs]; exact h
  | none => rw [nm1_none hs]; exact asc_ladd h hs
theorem nmL_asc : ∀ (xs : List Int) (bs : List Bd), Asc bs → Asc (nmL bs xs)
  | [], _, h => h
  | x :: r, _, h => nmL_asc r _ (nm1_asc x h)
theorem nm1_len (bs : List Bd) (x : Int) : bs.length ≤ (nm1 bs x).length ∧ (nm1 bs x).length ≤ bs.length + 1 := by
  cases hs : sv bs x with
  | some t => rw [nm1_some hs]; omega
  | none => rw [nm1_none hs, ladd_len]; omega
theorem nmL_len : ∀ (xs : List Int) (bs : List Bd), bs.length ≤ (nmL bs xs).length ∧ (nmL bs xs).length ≤ bs.length + xs.length
  | [], bs => by simp [nmL]
  | x :: r, bs => by
    have h1 := nm1_len bs x
    have h2 := nmL_len r (nm1 bs x)
    simp only [nmL, List.length_cons]; omega
/-- Each name is a number below how many there are; no two are the same. -/
def Nmd (bs : List Bd) : Prop := (∀ x t, sv bs x = some t → t.1 = 0 ∧ t.2.2 = .nil ∧ 0 ≤ t.2.1 ∧ t.2.1 < bs.length) ∧ ∀ x y t u, sv bs x = some t → sv bs y = some u → t.2.1 = u.2.1 → x = y
theorem Nmd.nil : Nmd [] := ⟨fun _ _ h => by simp [sv] at h, fun _ _ _ _ h => by simp [sv] at h⟩
theorem nm1_nmd {bs : List Bd} (x : Int) (h : Nmd bs) : Nmd (nm1 bs x) := by
  cases hs : sv bs x with
  | some t => rw [nm1_some hs]; exact h
  | none =>
    rw [nm1_none hs]
    refine ⟨fun y t ht => ?_, fun y z t u ht hu he => ?_⟩
    · rw [sv_ladd (b := (x, 0, (bs.length : Int), .nil)) hs] at ht
      rw [ladd_len]
      split at ht
      · obtain rfl := Option.some.inj ht; exact ⟨rfl, rfl, by simp, by dsimp only; omega⟩
      · obtain ⟨a1, a2, a3, a4⟩ := h.1 y t ht; exact ⟨a1, a2, a3, by omega⟩
    · rw [sv_ladd (b := (x, 0, (bs.length : Int), .nil)) hs] at ht hu
      split at ht
      · rename_i e1
        obtain rfl := Option.some.inj ht
        split at hu
        · rename_i e2; exact e1.symm.trans e2
        · have := (h.1 z u hu).2.2.2; dsimp only at he; omega
      · split at hu
        · obtain rfl := Option.some.inj hu
          have := (h.1 y t ht).2.2.2; dsimp only at he; omega
        · exact h.2 y z t u ht hu he
theorem nmL_nmd : ∀ (xs : List Int) (bs : List Bd), Nmd bs → Nmd (nmL bs xs)
  | [], _, h => h
  | x :: r, _, h => nmL_nmd r _ (nm1_nmd x h)
/-- How a variable is named. -/
def nmOf (bs : List Bd) (x : Int) : Int := (tsub (sv bs) 0 x .nil).2.1
theorem nmOf_some {bs : List Bd} {x : Int} {t : Int × Int × Fo} (h : sv bs x = some t) : nmOf bs x = t.2.1 := by unfold nmOf; rw [tsub_var rfl h]

/-- The names of a term. -/
def nms (s v : Int) (k : Fo) : List Bd := nmL [] (fvs s v k)
theorem nms_in {s v : Int} {k : Fo} (h : okW s v k 16 = true) : Asc (nms s v k) ∧ Nmd (nms s v k) ∧ (∀ x, (sv (nms s v k) x).isSome = true ↔ x ∈ fvs s v k) ∧ (nms s v k).map (·.1) = tvR s v k ∧ (nms s v k).length ≤ 12 := by
  have h1 : Asc (nms s v k) := nmL_asc _ _ List.Pairwise.nil
  have h3 : ∀ x, (sv (nms s v k) x).isSome = true ↔ x ∈ fvs s v k := fun x => by unfold nms; rw [nmL_dom]; simp [sv]
  have h4 : (nms s v k).map (·.1) = tvR s v k := by
    unfold tvR
    rw [if_pos h]
    refine strict_ext _ _ (map_asc h1) (among_strict _ _) fun x => ?_
    rw [← sv_some, h3 x, among_mem]
    exact ⟨fun hx => by have := fvs_in h x hx; exact ⟨hx, by omega, by omega⟩, fun hx => hx.1⟩
  refine ⟨h1, nmL_nmd _ _ Nmd.nil, h3, h4, ?_⟩
  have h5 := congrArg List.length h4
  rw [List.length_map] at h5
  rw [h5]
  unfold tvR
  rw [if_pos h]
  exact among_len _ _
theorem nms_bof {s v : Int} {k : Fo} (h : okW s v k 16 = true) : Bof (nms s v k) 0 := fun x t ht => by
  obtain ⟨_, h2, _, _, h5⟩ := nms_in h
  obtain ⟨a1, a2, a3, a4⟩ := h2.1 x t ht
  refine ⟨(okN_iff _ _ _).2 ⟨?_, fun _ => ⟨a3, by omega⟩, fun hne => absurd a1 hne⟩, ?_, ?_⟩
  · rw [a1, a2]; simp [flen, ar]
  · rw [a2]; rfl
  · rw [a2]; simp [fsz]
theorem nms_sok {s v : Int} {k : Fo} (h : okW s v k 16 = true) : sok 16 (nms s v k) = true := by
  obtain ⟨h1, _, h3, _, _⟩ := nms_in h
  exact sok_of h1 (fun x hx => fvs_in h x ((h3 x).1 hx)) (fun x t ht => ⟨(nms_bof h x t ht).1, (nms_bof h x t ht).2.1, by have := (nms_bof h x t ht).2.2; omega⟩)
/-- The answer of TermPlain. -/
def plR (s v : Int) (k : Fo) : (Int × Int × Fo) × List Bd := if okW s v k 16 = true then (tsub (sv (nms s v k)) s v k, nms s v k) else ((0, 0, .nil), [])

/-- A row in which variables stand for variables has the same form. -/
theorem fsub_form {σ : Int → Option (Int × Int × Fo)} (h : ∀ x t, σ x = some t → t.1 = 0 ∧ t.2.2 = .nil) : ∀ k : Fo, fok k = true → fsz (fsub σ k) = fsz k ∧ ∀ i, fpl (fsub σ k) i = fpl k i
  | .nil, _ => ⟨rfl, fun _ => rfl⟩
  | .node x y p k r, hk => by
    simp only [fok, Bool.and_eq_true] at hk
    obtain ⟨r1, r2⟩ := fsub_form h r hk.2
    obtain ⟨k1, k2⟩ := fsub_form h k hk.1.2
    simp only [fsub]
    by_cases e : p.1 = 0
    · have hn : k = .nil := kids_none (v := p.2) (by rw [← e]; exact hk.1.1)
      subst hn
      rw [if_pos e]
      cases hs : σ p.2 with
      | none => exact ⟨by simp only [fsz, r1], fun i => by simp only [fpl, r2]⟩
      | some t =>
        have ht := (h _ _ hs).2
        dsimp only
        rw [ht]
        exact ⟨by simp only [fsz, r1], fun i => by simp only [fpl, r2]⟩
    · rw [if_neg e]
      exact ⟨by simp only [fsz, k1, r1], fun i => by simp only [fpl, k2, r2]⟩
theorem tsub_form {σ : Int → Option (Int × Int × Fo)} (h : ∀ x t, σ x = some t → t.1 = 0 ∧ t.2.2 = .nil) {s v : Int} {k : Fo} (h1 : okN s v (flen k) = true) (h2 : fok k = true) : fsz (tsub σ s v k).2.2 = fsz k ∧ places (tsub σ s v k).2.2 = places k := by
  by_cases e : s = 0
  · subst e
    have hn := kids_none h1
    subst hn
    rw [tsub0]
    cases hs : σ v with
    | none => exact ⟨rfl, rfl⟩
    | some t =>
      have ht := (h _ _ hs).2
      simp only [Option.getD]
      rw [ht]; exact ⟨rfl, rfl⟩
  · rw [tsub_sym e]
    obtain ⟨a, b⟩ := fsub_form h k h2
    exact ⟨a, by unfold places; rw [b]⟩
theorem plR_cases {s v : Int} {k : Fo} {s' v' : Int} {k' : Fo} {bs : List Bd} (h : plR s v k = ((s', v', k'), bs)) :
    (okW s v k 16 = false ∧ s' = 0 ∧ v' = 0 ∧ k' = .nil ∧ bs = []) ∨ (okW s v k 16 = true ∧ bs = nms s v k ∧ tsub (sv (nms s v k)) s v k = (s', v', k') ∧ okW s' v' k' 16 = true ∧ fsz k' = fsz k ∧ places k' = places k) := by
  unfold plR at h
  split at h
  · rename_i hok
    simp only [Prod.mk.injEq] at h
    obtain ⟨h1, h2⟩ := h
    obtain ⟨o1, o2, o3⟩ := (okW_iff _ _ _ _).1 hok
    obtain ⟨_, hn, _, _, _⟩ := nms_in hok
    have hf := tsub_form (σ := sv (nms s v k)) (fun x t ht => ⟨(hn.1 x t ht).1, (hn.1 x t ht).2.1⟩) o1 o2
    have ht := tsub_ok (nms_sok hok) hok
    rw [h1] at hf ht
    dsimp only at hf ht
    exact .inr ⟨hok, h2.symm, h1, (okW_iff _ _ _ _).2 ⟨ht.1, ht.2.1, by have := hf.1; omega⟩, hf.1, hf.2⟩
  · rename_i hok
    simp only [Prod.mk.injEq] at h
    exact .inl ⟨by simpa using hok, h.1.1.symm, h.1.2.1.symm, h.1.2.2.symm, h.2.symm⟩
theorem plR_small {s v : Int} {k : Fo} {s' v' : Int} {k' : Fo} {bs : List Bd} (h : plR s v k = ((s', v', k'), bs)) : fsz k' ≤ 15 ∧ bs.length ≤ 12 ∧ ∀ x ∈ bs, fsz x.2.2.2 ≤ 1000000 := by
  rcases plR_cases h with ⟨_, _, _, rfl, rfl⟩ | ⟨hok, rfl, _, ho, _, _⟩
  · exact ⟨by simp [fsz], by simp, fun x hx => by cases hx⟩
  · have h1 := ((okW_iff _ _ _ _).1 ho).2.2
    obtain ⟨ha, _, _, _, h5⟩ := nms_in hok
    exact ⟨by omega, h5, fun x hx => by have := (nms_bof hok x.1 x.2 (sv_mem ha hx)).2.2; omega⟩

/-- The variables of what comes of names. -/
theorem fvl_names {σ : Int → Option (Int × Int × Fo)} : ∀ k : Fo, (∀ x ∈ fvl k, ∃ t, σ x = some t ∧ t.1 = 0) → fvl (fsub σ k) = (fvl k).map fun x => (tsub σ 0 x .nil).2.1
  | .nil, _ => rfl
  | .node x y p k r, h => by
    simp only [fvl, List.mem_append] at h
    have hr := fvl_names r fun z hz => h z (.inr hz)
    rw [fsub_sign]
    by_cases e : p.1 = 0
    · obtain ⟨t, ht, h0⟩ := h p.2 (.inl (by rw [if_pos e]; simp))
      rw [tsub_var e ht]
      simp only [fvl, if_pos h0, if_pos e, hr, List.map_append, List.map_cons, List.map_nil]
      rw [tsub_var rfl ht]
    · rw [tsub_sym e]
      simp only [fvl, if_neg e, hr, List.map_append]
      rw [fvl_names k fun z hz => h z (.inl (by rw [if_neg e]; exact hz))]
theorem fvs_names {bs : List Bd} (hn : Nmd bs) {s v : Int} {k : Fo} (h : ∀ x ∈ fvs s v k, (sv bs x).isSome = true) {s' v' : Int} {k' : Fo} (ht : tsub (sv bs) s v k = (s', v', k')) : fvs s' v' k' = (fvs s v k).map (nmOf bs) := by
  unfold fvs at h
  have hx : ∀ x, (sv bs x).isSome = true → ∃ t, sv bs x = some t ∧ t.1 = 0 := fun x hx => by
    obtain ⟨t, ht⟩ := Option.isSome_iff_exists.1 hx
    exact ⟨t, ht, (hn.1 x t ht).1⟩
  by_cases e : s = 0
  · rw [if_pos e] at h
    obtain ⟨t, h1, h0⟩ := hx v (h v (by simp))
    rw [tsub_var e h1] at ht
    subst ht
    dsimp only at h0
    unfold fvs
    rw [if_pos h0, if_pos e, List.map_cons, List.map_nil, nmOf_some h1]
  · rw [if_neg e] at h
    rw [tsub_sym e] at ht
    simp only [Prod.mk.injEq] at ht
    obtain ⟨rfl, rfl, rfl⟩ := ht
    unfold fvs
    rw [if_neg e, if_neg e]
    exact fvl_names k fun x hxx => hx x (h x hxx)
/-- Named anew, names stay; there are as many. -/
theorem nms_anew (B : List Bd) : ∀ (xs : List Int) (bs cs : List Bd), Ext (nmL bs xs) B → Nmd B → cs.length = bs.length → Nmd bs → (∀ x t, sv bs x = some t → sv cs t.2.1 = some (0, t.2.1, .nil)) → (∀ m, (sv cs m).isSome = true → 0 ≤ m ∧ m < bs.length) →
    (nmL cs (xs.map (nmOf B))).length = (nmL bs xs).length ∧ ∀ x t, sv (nmL bs xs) x = some t → sv (nmL cs (xs.map (nmOf B))) t.2.1 = some (0, t.2.1, .nil)
  | [], bs, cs, _, _, hl, _, hv, _ => ⟨hl, hv⟩
  | x :: r, bs, cs, hB, hNB, hl, hN, hv, hd => by
    simp only [List.map_cons, nmL]
    simp only [nmL] at hB
    cases hs : sv bs x with
    | some t =>
      have hx := hB x t (nmL_ext r _ x t (nm1_ext bs x x t hs))
      have h1 := hv x t hs
      rw [nmOf_some hx, nm1_some h1, nm1_some hs]
      rw [nm1_some hs] at hB
      exact nms_anew B r bs cs hB hNB hl hN hv hd
    | none =>
      have hx0 : sv (nm1 bs x) x = some (0, (bs.length : Int), .nil) := by rw [nm1_none hs, sv_ladd (b := (x, 0, (bs.length : Int), .nil)) hs]; simp
      have hx := hB x _ (nmL_ext r _ x _ hx0)
      have h1 : sv cs (bs.length : Int) = none := by
        cases h : sv cs (bs.length : Int) with
        | none => rfl
        | some u => have := (hd (bs.length : Int) (by rw [h]; rfl)).2; omega
      rw [nmOf_some hx]
      dsimp only
      have hc : nm1 cs (bs.length : Int) = ladd cs ((bs.length : Int), 0, (bs.length : Int), .nil) := by rw [nm1_none h1, hl]
      have hb : nm1 bs x = ladd bs (x, 0, (bs.length : Int), .nil) := nm1_none hs
      refine nms_anew B r (nm1 bs x) (nm1 cs (bs.length : Int)) hB hNB ?_ (nm1_nmd x hN) (fun y t ht => ?_) (fun m hm => ?_)
      · rw [hc, hb, ladd_len, ladd_len, hl]
      · rw [hb, sv_ladd (b := (x, 0, (bs.length : Int), .nil)) hs] at ht
        rw [hc, sv_ladd (b := ((bs.length : Int), 0, (bs.length : Int), .nil)) h1]
        split at ht
        · obtain rfl := Option.some.inj ht; dsimp only; rw [if_pos rfl]
        · have h4 := (hN.1 y t ht).2.2.2
          dsimp only
          rw [if_neg (by omega)]
          exact hv y t ht
      · rw [hc, sv_ladd (b := ((bs.length : Int), 0, (bs.length : Int), .nil)) h1] at hm
        rw [hb, ladd_len]
        split at hm
        · rename_i e; dsimp only at e; omega
        · have := hd m hm; omega
theorem fsub_self {σ : Int → Option (Int × Int × Fo)} : ∀ k : Fo, fok k = true → (∀ x ∈ fvl k, σ x = some (0, x, .nil)) → fsub σ k = k
  | .nil, _, _ => rfl
  | .node x y p k r, hk, h => by
    simp only [fok, Bool.and_eq_true] at hk
    simp only [fvl, List.mem_append] at h
    have hr := fsub_self r hk.2 fun z hz => h z (.inr hz)
    rw [fsub_sign, hr]
    by_cases e : p.1 = 0
    · have hn : k = .nil := kids_none (v := p.2) (by rw [← e]; exact hk.1.1)
      have h0 := h p.2 (.inl (by rw [if_pos e]; simp))
      rw [tsub_var e h0, hn]
      have : p = (0, p.2) := Prod.ext e rfl
      rw [this]
    · rw [tsub_sym e, fsub_self k hk.1.2 fun z hz => h z (.inl (by rw [if_neg e]; exact hz))]
theorem tsub_self {σ : Int → Option (Int × Int × Fo)} {s v : Int} {k : Fo} (h1 : okN s v (flen k) = true) (h2 : fok k = true) (h : ∀ x ∈ fvs s v k, σ x = some (0, x, .nil)) : tsub σ s v k = (s, v, k) := by
  unfold fvs at h
  by_cases e : s = 0
  · subst e
    rw [if_pos rfl] at h
    rw [tsub_var rfl (h v (by simp)), kids_none h1]
  · rw [if_neg e] at h
    rw [tsub_sym e, fsub_self k h2 h]
/-- Named anew twice is named anew once. -/
theorem plain_twice {s v : Int} {k : Fo} {s' v' : Int} {k' : Fo} {bs : List Bd} (h : plR s v k = ((s', v', k'), bs)) (hok : okW s v k 16 = true) : plR s' v' k' = ((s', v', k'), nms s' v' k') ∧ (nms s' v' k').length = (nms s v k).length := by
  rcases plR_cases h with ⟨h0, _⟩ | ⟨_, rfl, ht, ho, _, _⟩
  · rw [hok] at h0; cases h0
  obtain ⟨o1, o2, _⟩ := (okW_iff _ _ _ _).1 ho
  obtain ⟨_, hn, hd, _, _⟩ := nms_in hok
  have hf := fvs_names hn (fun x hx => (hd x).2 hx) ht
  have hA := nms_anew (nms s v k) (fvs s v k) [] [] (fun _ _ h => h) hn rfl Nmd.nil (fun _ _ h => by simp [sv] at h) (fun _ h => by simp [sv] at h)
  have hE : nms s' v' k' = nmL [] ((fvs s v k).map (nmOf (nms s v k))) := by unfold nms; rw [hf]; rfl
  refine ⟨?_, by rw [hE]; exact hA.1⟩
  unfold plR
  rw [if_pos ho]
  refine Prod.ext ?_ rfl
  refine tsub_self o1 o2 fun m hm => ?_
  rw [hf] at hm
  obtain ⟨x, hx, rfl⟩ := List.mem_map.1 hm
  obtain ⟨t, hxt⟩ := Option.isSome_iff_exists.1 ((hd x).2 hx)
  rw [nmOf_some hxt, hE]
  exact hA.2 x t hxt
/-- A plain term is the term but for names. -/
theorem plain_back {s v : Int} {k : Fo} {s' v' : Int} {k' : Fo} {bs : List Bd} (h : plR s v k = ((s', v', k'), bs)) (hok : okW s v k 16 = true) : sdR bs s v k = (s', v', k', true) ∧ (∃ b1, maR s v k s' v' k' = (b1, true)) ∧ ∃ b2, maR s' v' k' s v k = (b2, true) := by
  rcases plR_cases h with ⟨h0, _⟩ | ⟨_, rfl, ht, ho, _, _⟩
  · rw [hok] at h0; cases h0
  obtain ⟨p1, p2, p3⟩ := (okW_iff _ _ _ _).1 ho
  obtain ⟨o1, o2, _⟩ := (okW_iff _ _ _ _).1 hok
  obtain ⟨_, hn, hd, _, _⟩ := nms_in hok
  obtain ⟨b1, hb1, _⟩ := ma_made hok ho ht
  refine ⟨sdR_of (nms_sok hok) hok ht (by omega), ⟨b1, hb1⟩, ?_⟩
  let τ : Int → Option (Int × Int × Fo) := fun m => ((nms s v k).find? fun b => decide (b.2.2.1 = m)).map fun b => (0, b.1, .nil)
  have hτ : ∀ x t, sv (nms s v k) x = some t → τ t.2.1 = some (0, x, .nil) := fun x t hx => by
    have hm := mem_sv hx
    cases hf : (nms s v k).find? fun b => decide (b.2.2.1 = t.2.1) with
    | none =>
      have := List.find?_eq_none.1 hf _ hm
      simp at this
    | some b =>
      have h1 := List.find?_some hf
      have h2 := List.mem_of_find?_eq_some hf
      simp only [decide_eq_true_eq] at h1
      have h3 := sv_mem (nms_in hok).1 h2
      have h4 := hn.2 b.1 x b.2 t h3 hx h1
      show Option.map _ ((nms s v k).find? fun b => decide (b.2.2.1 = t.2.1)) = _
      rw [hf, ← h4]; rfl
  have hc := tsub_comp (σ := sv (nms s v k)) (τ := τ) (s := s) (v := v) (k := k) fun x hx => (hd x).2 hx
  rw [ht] at hc
  dsimp only at hc
  have hs : tsub (comp (sv (nms s v k)) τ) s v k = (s, v, k) := tsub_self o1 o2 fun x hx => by
    obtain ⟨t, hxt⟩ := Option.isSome_iff_exists.1 ((hd x).2 hx)
    obtain ⟨a1, a2, _, _⟩ := hn.1 x t hxt
    rw [comp_some hxt]
    rw [tsub_var a1 (hτ x t hxt)]
  rw [hs] at hc
  obtain ⟨b2, hb2, _⟩ := ma_made ho hok hc
  exact ⟨b2, hb2⟩
end Go.Proofs.Ytlaaihnokoeliab

/-! G0: The path order on terms, as plain data: it is transitive and irreflexive. Definitions and plain lemmas. -/
namespace Go.Proofs.Ytlaaihnokoeliab

/-- Well-formed terms. -/
inductive Tm
  | var (v : Int)
  | leaf (s : Int)
  | one (t : Tm)
  | two (t u : Tm)

def Tm.size : Tm → Nat
  | .var _ => 1
  | .leaf _ => 1
  | .one t => t.size + 1
  | .two t u => t.size + u.size + 1
def Tm.sign : Tm → Int
  | .var _ => 0
  | .leaf s => s
  | .one _ => 3
  | .two _ _ => 4
def Tm.kids : Tm → List Tm
  | .var _ => []
  | .leaf _ => []
  | .one t => [t]
  | .two t u => [t, u]
theorem Tm.kid_size {s u : Tm} (h : u ∈ s.kids) : u.size < s.size := by
  cases s with
  | var => simp [Tm.kids] at h
  | leaf => simp [Tm.kids] at h
  | one t => simp only [Tm.kids, List.mem_singleton] at h; subst h; simp [Tm.size]
  | two t u' =>
    simp only [Tm.kids, List.mem_cons, List.not_mem_nil, or_false] at h
    rcases h with rfl | rfl <;> simp [Tm.size] <;> omega

variable (rk : Int → Nat)
/-- The path order, by where each sign stands. -/
inductive Gt : Tm → Tm → Prop
  | kid {s t : Tm} : t ∈ s.kids → Gt s t
  | sub {s t u : Tm} : u ∈ s.kids → Gt u t → Gt s t
  | rank {s t : Tm} : s.sign ≠ 0 → t.sign ≠ 0 → s.sign ≠ t.sign → rk s.sign < rk t.sign → (∀ u, u ∈ t.kids → Gt s u) → Gt s t
  | one {a b : Tm} : Gt a b → (∀ u, u ∈ (Tm.one b).kids → Gt (.one a) u) → Gt (.one a) (.one b)
  | fst {a b a' b' : Tm} : Gt a a' → (∀ u, u ∈ (Tm.two a' b').kids → Gt (.two a b) u) → Gt (.two a b) (.two a' b')
  | snd {a b b' : Tm} : Gt b b' → (∀ u, u ∈ (Tm.two a b').kids → Gt (.two a b) u) → Gt (.two a b) (.two a b')

variable {rk}
theorem Gt.trans (N : Nat) : ∀ {s t u : Tm}, s.size + t.size + u.size ≤ N → Gt rk s t → Gt rk t u → Gt rk s u := by
  induction N using Nat.strongRecOn with
  | _ N ih =>
    intro s t u hN h h'
    -- what holds where each argument of t is less than s
    have main : (∀ x, x ∈ t.kids → Gt rk s x) → (∀ y, y ∈ u.kids → Gt rk t y → Gt rk s y) ∧ ∀ x, x ∈ t.kids → Gt rk x u → Gt rk s u := by
      intro hk
      refine ⟨fun y hy hty => ?_, fun x hx hxu => ?_⟩
      · have := Tm.kid_size hy
        exact ih (s.size + t.size + y.size) (by omega) (Nat.le_refl _) h hty
      · have := Tm.kid_size hx
        exact ih (s.size + x.size + u.size) (by omega) (Nat.le_refl _) (hk x hx) hxu
    cases h with
    | kid hm => exact .sub hm h'
    | sub hm hg =>
      have := Tm.kid_size hm
      exact .sub hm (ih _ (by omega) (Nat.le_refl _) hg h')
    | rank h0 h1 hne hr hk =>
      obtain ⟨m1, m2⟩ := main hk
      cases h' with
      | kid hm => exact hk _ hm
      | sub hm hg => exact m2 _ hm hg
      | rank h0' h1' hne' hr' hk' =>
        by_cases e : s.sign = u.sign
        · rw [e] at hr; omega
        · exact .rank h0 h1' e (by omega) fun y hy => m1 y hy (hk' y hy)
      | one hg hk' => exact .rank h0 h1 hne hr fun y hy => m1 y hy (hk' y hy)
      | fst hg hk' => exact .rank h0 h1 hne hr fun y hy => m1 y hy (hk' y hy)
      | snd hg hk' => exact .rank h0 h1 hne hr fun y hy => m1 y hy (hk' y hy)
    | one hg hk =>
      obtain ⟨m1, m2⟩ := main hk
      cases h' with
      | kid hm => exact hk _ hm
      | sub hm hg => exact m2 _ hm hg
      | rank h0' h1' hne' hr' hk' => exact .rank h0' h1' hne' hr' fun y hy => m1 y hy (hk' y hy)
      | one hg' hk' => exact .one (ih _ (by simp [Tm.size] at hN; omega) (Nat.le_refl _) hg hg') fun y hy => m1 y hy (hk' y hy)
    | fst hg hk =>
      obtain ⟨m1, m2⟩ := main hk
      cases h' with
      | kid hm => exact hk _ hm
      | sub hm hg => exact m2 _ hm hg
      | rank h0' h1' hne' hr' hk' => exact .rank h0' h1' hne' hr' fun y hy => m1 y hy (hk' y hy)
      | fst hg' hk' => exact .fst (ih _ (by simp [Tm.size] at hN; omega) (Nat.le_refl _) hg hg') fun y hy => m1 y hy (hk' y hy)
      | snd hg' hk' => exact .fst hg fun y hy => m1 y hy (hk' y hy)
    | snd hg hk =>
      obtain ⟨m1, m2⟩ := main hk
      cases h' with
      | kid hm => exact hk _ hm
      | sub hm hg => exact m2 _ hm hg
      | rank h0' h1' hne' hr' hk' => exact .rank h0' h1' hne' hr' fun y hy => m1 y hy (hk' y hy)
      | fst hg' hk' => exact .fst hg' fun y hy => m1 y hy (hk' y hy)
      | snd hg' hk' => exact .snd (ih _ (by simp [Tm.size] at hN; omega) (Nat.le_refl _) hg hg') fun y hy => m1 y hy (hk' y hy)
theorem Gt.tr {s t u : Tm} (h : Gt rk s t) (h' : Gt rk t u) : Gt rk s u := Gt.trans _ (Nat.le_refl _) h h'
theorem Gt.irrefl (N : Nat) : ∀ {s : Tm}, s.size ≤ N → ¬ Gt rk s s := by
  induction N using Nat.strongRecOn with
  | _ N ih =>
    intro s hN h
    cases h with
    | kid hm => have := Tm.kid_size hm; omega
    | sub hm hg =>
      have := Tm.kid_size hm
      exact ih _ (by omega) (Nat.le_refl _) (hg.tr (.kid hm))
    | rank _ _ hne _ _ => exact hne rfl
    | one hg _ => exact ih _ (by simp [Tm.size] at hN; omega) (Nat.le_refl _) hg
    | fst hg _ => exact ih _ (by simp [Tm.size] at hN; omega) (Nat.le_refl _) hg
    | snd hg _ => exact ih _ (by simp [Tm.size] at hN; omega) (Nat.le_refl _) hg
theorem Gt.ne {s : Tm} : ¬ Gt rk s s := Gt.irrefl _ (Nat.le_refl _)

/-- Some kid is it, or more. -/
def Reach (rk : Int → Nat) (l : List Tm) (t : Tm) : Prop := ∃ u, u ∈ l ∧ (u = t ∨ Gt rk u t)
def All (rk : Int → Nat) (s : Tm) (l : List Tm) : Prop := ∀ u, u ∈ l → Gt rk s u

theorem gt_var {v : Int} {t : Tm} : ¬ Gt rk (.var v) t := by
  intro h
  cases h with
  | kid hm => simp [Tm.kids] at hm
  | sub hm => simp [Tm.kids] at hm
  | rank h0 => exact h0 rfl
theorem gt_before {s t : Tm} (h0 : s.sign ≠ 0) (h1 : t.sign ≠ 0) (hne : s.sign ≠ t.sign) (hr : rk s.sign < rk t.sign) : Gt rk s t ↔ All rk s t.kids :=
  ⟨fun h _ hu => h.tr (.kid hu), fun h => .rank h0 h1 hne hr h⟩
theorem gt_behind {s t : Tm} (hne : s.sign ≠ t.sign) (hr : t.sign = 0 ∨ ¬ rk s.sign < rk t.sign) : Gt rk s t ↔ Reach rk s.kids t := by
  constructor
  · intro h
    cases h with
    | kid hm => exact ⟨_, hm, .inl rfl⟩
    | sub hm hg => exact ⟨_, hm, .inr hg⟩
    | rank _ h1 _ h2 => rcases hr with h | h; exact absurd h h1; exact absurd h2 h
    | one => exact absurd rfl hne
    | fst => exact absurd rfl hne
    | snd => exact absurd rfl hne
  · rintro ⟨u, hu, rfl | h⟩
    · exact .kid hu
    · exact .sub hu h
theorem gt_leaf {s : Int} : ¬ Gt rk (.leaf s) (.leaf s) := Gt.ne
theorem gt_one {a b : Tm} (hne : a ≠ b) : Gt rk (.one a) (.one b) ↔ Gt rk a b := by
  constructor
  · intro h
    cases h with
    | kid hm => simp only [Tm.kids, List.mem_singleton] at hm; subst hm; exact .kid (by simp [Tm.kids])
    | sub hm hg => simp only [Tm.kids, List.mem_singleton] at hm; subst hm; exact hg.tr (.kid (by simp [Tm.kids]))
    | rank _ _ h => exact absurd rfl h
    | one hg => exact hg
  · intro h
    refine .one h fun u hu => ?_
    simp only [Tm.kids, List.mem_singleton] at hu
    subst hu
    exact .sub (by simp [Tm.kids]) h
theorem gt_two_more {a b a' b' : Tm} (h : Gt rk a a') : Gt rk (.two a b) (.two a' b') ↔ Gt rk (.two a b) b' := by
  constructor
  · exact fun h' => h'.tr (.kid (by simp [Tm.kids]))
  · intro h'
    refine .fst h fun u hu => ?_
    simp only [Tm.kids, List.mem_cons, List.not_mem_nil, or_false] at hu
    rcases hu with rfl | rfl
    · exact .sub (by simp [Tm.kids]) h
    · exact h'
theorem gt_two_less {a b a' b' : Tm} (hne : a ≠ a') (h : ¬ Gt rk a a') : Gt rk (.two a b) (.two a' b') ↔ Reach rk [b] (.two a' b') := by
  constructor
  · intro h'
    cases h' with
    | kid hm =>
      simp only [Tm.kids, List.mem_cons, List.not_mem_nil, or_false] at hm
      rcases hm with rfl | rfl
      · exact absurd (.kid (by simp [Tm.kids])) h
      · exact ⟨_, by simp, .inl rfl⟩
    | sub hm hg =>
      simp only [Tm.kids, List.mem_cons, List.not_mem_nil, or_false] at hm
      rcases hm with rfl | rfl
      · exact absurd (hg.tr (.kid (by simp [Tm.kids]))) h
      · exact ⟨_, by simp, .inr hg⟩
    | rank _ _ h' => exact absurd rfl h'
    | fst hg => exact absurd hg h
    | snd => exact absurd rfl hne
  · rintro ⟨u, hu, h'⟩
    simp only [List.mem_singleton] at hu
    subst hu
    rcases h' with rfl | h'
    · exact .kid (by simp [Tm.kids])
    · exact .sub (by simp [Tm.kids]) h'
theorem gt_two_snd {a b b' : Tm} (h : Gt rk b b') : Gt rk (.two a b) (.two a b') := by
  refine .snd h fun u hu => ?_
  simp only [Tm.kids, List.mem_cons, List.not_mem_nil, or_false] at hu
  rcases hu with rfl | rfl
  · exact .kid (by simp [Tm.kids])
  · exact .sub (by simp [Tm.kids]) h
theorem gt_two_not {a b b' : Tm} (hne : b ≠ b') (h : ¬ Gt rk b b') : ¬ Gt rk (.two a b) (.two a b') := by
  intro h'
  have hna : ¬ Gt rk a (.two a b') := fun hg => Gt.ne (hg.tr (.kid (by simp [Tm.kids])))
  cases h' with
  | kid hm =>
    simp only [Tm.kids, List.mem_cons, List.not_mem_nil, or_false] at hm
    rcases hm with hm | hm
    · have := congrArg Tm.size hm; simp [Tm.size] at this; omega
    · rw [← hm] at h; exact h (.kid (by simp [Tm.kids]))
  | sub hm hg =>
    simp only [Tm.kids, List.mem_cons, List.not_mem_nil, or_false] at hm
    rcases hm with rfl | rfl
    · exact hna hg
    · exact h (hg.tr (.kid (by simp [Tm.kids])))
  | rank _ _ h' => exact absurd rfl h'
  | fst hg => exact Gt.ne hg
  | snd hg => exact h hg
end Go.Proofs.Ytlaaihnokoeliab

/-! G1: Terms in memory as terms of the order. Plain lemmas. -/
namespace Go.Proofs.Ytlaaihnokoeliab
open Go.RowKit Go.Deep

def tm1 (s v : Int) (ks : List Tm) : Tm := if s = 0 then .var v else match ks with
  | [] => .leaf s
  | [t] => .one t
  | t :: u :: _ => .two t u
def ftm : Fo → List Tm
  | .nil => []
  | .node _ _ p k r => tm1 p.1 p.2 (ftm k) :: ftm r
def tmOf (s v : Int) (k : Fo) : Tm := tm1 s v (ftm k)

theorem tm_var {v : Int} : tmOf 0 v .nil = .var v := rfl
theorem tm_leaf {s : Int} (h : s = 1 ∨ s = 2) : tmOf s 0 .nil = .leaf s := by rcases h with rfl | rfl <;> rfl
theorem tm_one {x y : Nat} {p : Int × Int} {k : Fo} : tmOf 3 0 (.node x y p k .nil) = .one (tmOf p.1 p.2 k) := rfl
theorem tm_two {x y : Nat} {p : Int × Int} {k : Fo} {x' y' : Nat} {p' : Int × Int} {k' : Fo} : tmOf 4 0 (.node x y p k (.node x' y' p' k' .nil)) = .two (tmOf p.1 p.2 k) (tmOf p'.1 p'.2 k') := rfl
theorem tm_sign {s v : Int} {k : Fo} (h : Shape s v k) : (tmOf s v k).sign = s := by
  cases h with
  | var => rfl
  | leaf _ hs => rw [tm_leaf hs]; rfl
  | one => rfl
  | two => rfl
theorem tm_kids {s v : Int} {k : Fo} (h : Shape s v k) : (tmOf s v k).kids = ftm k := by
  cases h with
  | var => rfl
  | leaf _ hs => rw [tm_leaf hs]; rfl
  | one => rfl
  | two => rfl
theorem ftm_len : ∀ k : Fo, (ftm k).length = flen k
  | .nil => rfl
  | .node _ _ _ _ r => by simp [ftm, flen, ftm_len r]
theorem ftm_at : ∀ (j : Nat) (k : Fo) {x y : Nat} {s v : Int} {kk r : Fo}, fdrop j k = .node x y (s, v) kk r → (ftm k)[j]? = some (tmOf s v kk)
  | 0, .nil, _, _, _, _, _, _, h => by simp [fdrop] at h
  | 0, .node _ _ p k r, x, y, s, v, kk, r', h => by
    simp only [fdrop, BT.node.injEq] at h
    obtain ⟨_, _, rfl, rfl, _⟩ := h
    rfl
  | _ + 1, .nil, _, _, _, _, _, _, h => by simp [fdrop] at h
  | n + 1, .node _ _ _ _ r, _, _, _, _, _, _, h => by
    simp only [fdrop] at h
    simpa [ftm] using ftm_at n r h
theorem ftm_drop : ∀ (j : Nat) (k : Fo), ftm (fdrop j k) = (ftm k).drop j
  | 0, _ => rfl
  | _ + 1, .nil => by simp [fdrop, ftm]
  | n + 1, .node _ _ _ _ r => by simp [fdrop, ftm, ftm_drop n r]
theorem ftm_fer : ∀ k : Fo, ftm (fer k) = ftm k
  | .nil => rfl
  | .node _ _ p k r => by simp only [fer, ftm, ftm_fer k, ftm_fer r]
theorem tm_inj (N : Nat) : ∀ {s v : Int} {k : Fo} {s' v' : Int} {k' : Fo}, Shape s v k → Shape s' v' k' → fsz k ≤ N → tmOf s v k = tmOf s' v' k' → s = s' ∧ v = v' ∧ fer k = fer k' := by
  induction N using Nat.strongRecOn with
  | _ N ih =>
    intro s v k s' v' k' h h' hN he
    have hs := congrArg Tm.sign he
    rw [tm_sign h, tm_sign h'] at hs
    subst hs
    cases h with
    | var =>
      cases h' with
      | var => exact ⟨rfl, by simpa [tm_var] using he, rfl⟩
      | leaf _ hs => rcases hs with h | h <;> omega
    | leaf _ hs =>
      cases h' with
      | var => rcases hs with h | h <;> omega
      | leaf => exact ⟨rfl, rfl, rfl⟩
      | one => rcases hs with h | h <;> omega
      | two => rcases hs with h | h <;> omega
    | one x y p k ho hk =>
      cases h' with
      | leaf _ hs => rcases hs with h | h <;> omega
      | one x' y' p' k' ho' hk' =>
        rw [tm_one, tm_one] at he
        obtain ⟨e1, e2, e3⟩ := ih (fsz k) (by simp [fsz] at hN; omega) (shape_of ho hk) (shape_of ho' hk') (Nat.le_refl _) (Tm.one.inj he)
        exact ⟨rfl, rfl, by simp only [fer]; rw [e3, Prod.ext e1 e2]⟩
    | two x y p k x2 y2 p2 k2 ho hk ho2 hk2 =>
      cases h' with
      | leaf _ hs => rcases hs with h | h <;> omega
      | two x' y' p' k' x2' y2' p2' k2' ho' hk' ho2' hk2' =>
        rw [tm_two, tm_two] at he
        obtain ⟨he1, he2⟩ := Tm.two.inj he
        simp only [fsz] at hN
        obtain ⟨e1, e2, e3⟩ := ih (fsz k) (by omega) (shape_of ho hk) (shape_of ho' hk') (Nat.le_refl _) he1
        obtain ⟨f1, f2, f3⟩ := ih (fsz k2) (by omega) (shape_of ho2 hk2) (shape_of ho2' hk2') (Nat.le_refl _) he2
        exact ⟨rfl, rfl, by simp only [fer]; rw [e3, Prod.ext e1 e2, f3, Prod.ext f1 f2]⟩
theorem tm_teq {s v : Int} {k : Fo} {s' v' : Int} {k' : Fo} (h : Shape s v k) (h' : Shape s' v' k') : teq s v k s' v' k' = true ↔ tmOf s v k = tmOf s' v' k' := by
  constructor
  · intro he
    obtain ⟨rfl, rfl, hf⟩ := teq_iff.1 he
    unfold tmOf
    rw [← ftm_fer k, hf, ftm_fer k']
  · exact fun he => teq_iff.2 (tm_inj _ h h' (Nat.le_refl _) he)
theorem shape_kid {k : Fo} {j x y : Nat} {s' v' : Int} {kk r : Fo} (h : fok k = true) (hd : fdrop j k = .node x y (s', v') kk r) : Shape s' v' kk := by
  have := fok_kid h hd
  exact shape_of this.1 this.2
theorem tm_size {s v : Int} {k : Fo} (N : Nat) : Shape s v k → fsz k ≤ N → (tmOf s v k).size = 1 + fsz k := by
  induction N using Nat.strongRecOn generalizing s v k with
  | _ N ih =>
    intro h hN
    cases h with
    | var => rfl
    | leaf _ hs => rw [tm_leaf hs]; rfl
    | one x y p k ho hk =>
      simp only [fsz] at hN
      rw [tm_one, Tm.size, ih (fsz k) (by omega) (shape_of ho hk) (Nat.le_refl _)]
      simp only [fsz]; omega
    | two x y p k x2 y2 p2 k2 ho hk ho2 hk2 =>
      simp only [fsz] at hN
      rw [tm_two, Tm.size, ih (fsz k) (by omega) (shape_of ho hk) (Nat.le_refl _), ih (fsz k2) (by omega) (shape_of ho2 hk2) (Nat.le_refl _)]
      simp only [fsz]; omega
end Go.Proofs.Ytlaaihnokoeliab

/-! SHt: The contracts of strconv.Itoa and strings.Builder at this program. -/
namespace Go.Proofs
open Go.Shelf
def Try.lays171_ren : Go.Shelf.Ren := ⟨fun | 171 => 115 | 243 => 116 | 246 => 117 | 283 => 118 | 284 => 119 | 285 => 120 | 286 => 121 | 129 => 89 | 317 => 122 | 318 => 123 | 319 => 124 | 320 => 125 | 337 => 126 | 338 => 127 | n => n, fun | 3 => 3 | 9 => 9 | 2 => 2 | 4 => 4 | 171 => 153 | 0 => 0 | 53 => 128 | 37 => 22 | 5 => 5 | 173 => 155 | 212 => 158 | 51 => 126 | 20 => 20 | 213 => 159 | 46 => 107 | 232 => 160 | 233 => 161 | n => n, fun | 17 => 0 | 18 => 1 | 19 => 2 | n => n⟩
theorem Try.lays171 : Go.Proofs.Lays.n171 Try.prog Try.lays171_ren := {
  mixed := by kernel_rfl
  f129 := Try.func89.trans (congrArg some (by kernel_rfl))
  f171 := Try.func115.trans (congrArg some (by kernel_rfl))
  f243 := Try.func116.trans (congrArg some (by kernel_rfl))
  f246 := Try.func117.trans (congrArg some (by kernel_rfl))
  f283 := Try.func118.trans (congrArg some (by kernel_rfl))
  f284 := Try.func119.trans (congrArg some (by kernel_rfl))
  f285 := Try.func120.trans (congrArg some (by kernel_rfl))
  f286 := Try.func121.trans (congrArg some (by kernel_rfl))
  f317 := Try.func122.trans (congrArg some (by kernel_rfl))
  f318 := Try.func123.trans (congrArg some (by kernel_rfl))
  f319 := Try.func124.trans (congrArg some (by kernel_rfl))
  f320 := Try.func125.trans (congrArg some (by kernel_rfl))
  f337 := Try.func126.trans (congrArg some (by kernel_rfl))
  f338 := Try.func127.trans (congrArg some (by kernel_rfl))
  t0 := Try.underlying0
  a0 := Try.isAgg0
  z0 := Try.sizeOf0
  v0 := Try.zeroValue0
  t2 := Try.underlying2
  a2 := Try.isAgg2
  z2 := Try.sizeOf2
  v2 := Try.zeroValue2
  t3 := Try.underlying3
  a3 := Try.isAgg3
  z3 := Try.sizeOf3
  v3 := Try.zeroValue3
  t4 := Try.underlying4
  a4 := Try.isAgg4
  z4 := Try.sizeOf4
  v4 := Try.zeroValue4
  t5 := Try.underlying5
  a5 := Try.isAgg5
  z5 := Try.sizeOf5
  v5 := Try.zeroValue5
  t9 := Try.underlying9
  a9 := Try.isAgg9
  z9 := Try.sizeOf9
  v9 := Try.zeroValue9
  t20 := Try.underlying20
  a20 := Try.isAgg20
  z20 := Try.sizeOf20
  v20 := Try.zeroValue20
  t37 := Try.underlying22
  a37 := Try.isAgg22
  z37 := Try.sizeOf22
  v37 := Try.zeroValue22
  t46 := Try.underlying107
  a46 := Try.isAgg107
  z46 := Try.sizeOf107
  v46 := Try.zeroValue107
  t51 := Try.underlying126
  a51 := Try.isAgg126
  z51 := Try.sizeOf126
  v51 := Try.zeroValue126
  t53 := Try.underlying128
  a53 := Try.isAgg128
  z53 := Try.sizeOf128
  v53 := Try.zeroValue128
  t171 := Try.underlying153
  a171 := Try.isAgg153
  z171 := Try.sizeOf153
  v171 := Try.zeroValue153
  t173 := Try.underlying155
  a173 := Try.isAgg155
  z173 := Try.sizeOf155
  v173 := Try.zeroValue155
  t212 := Try.underlying158
  a212 := Try.isAgg158
  z212 := Try.sizeOf158
  v212 := Try.zeroValue158
  t213 := Try.underlying159
  a213 := Try.isAgg159
  z213 := Try.sizeOf159
  t232 := Try.underlying160
  a232 := Try.isAgg160
  z232 := Try.sizeOf160
  v232 := Try.zeroValue160
  t233 := Try.underlying161
  a233 := Try.isAgg161
  z233 := Try.sizeOf161
  v233 := Try.zeroValue161
  g17 := by kernel_rfl
  g18 := by kernel_rfl
  g19 := by kernel_rfl }
def Try.lays156_ren : Go.Shelf.Ren := ⟨fun | 156 => 131 | 165 => 132 | 166 => 133 | 169 => 134 | 240 => 135 | 241 => 136 | 276 => 137 | 277 => 138 | n => n, fun | 31 => 162 | 9 => 9 | 3 => 3 | 4 => 4 | 0 => 0 | 20 => 20 | 72 => 166 | 76 => 170 | 70 => 164 | 37 => 22 | 75 => 169 | 127 => 146 | 164 => 172 | 5 => 5 | 80 => 115 | n => n, fun | n => n⟩
theorem Try.lays156 : Go.Proofs.Lays.n156 Try.prog Try.lays156_ren := {
  mixed := by kernel_rfl
  f156 := Try.func131.trans (congrArg some (by kernel_rfl))
  f165 := Try.func132.trans (congrArg some (by kernel_rfl))
  f166 := Try.func133.trans (congrArg some (by kernel_rfl))
  f169 := Try.func134.trans (congrArg some (by kernel_rfl))
  f240 := Try.func135.trans (congrArg some (by kernel_rfl))
  f241 := Try.func136.trans (congrArg some (by kernel_rfl))
  f276 := Try.func137.trans (congrArg some (by kernel_rfl))
  f277 := Try.func138.trans (congrArg some (by kernel_rfl))
  t0 := Try.underlying0
  a0 := Try.isAgg0
  z0 := Try.sizeOf0
  v0 := Try.zeroValue0
  t3 := Try.underlying3
  a3 := Try.isAgg3
  z3 := Try.sizeOf3
  v3 := Try.zeroValue3
  t4 := Try.underlying4
  a4 := Try.isAgg4
  z4 := Try.sizeOf4
  v4 := Try.zeroValue4
  t9 := Try.underlying9
  a9 := Try.isAgg9
  z9 := Try.sizeOf9
  v9 := Try.zeroValue9
  t20 := Try.underlying20
  a20 := Try.isAgg20
  z20 := Try.sizeOf20
  v20 := Try.zeroValue20
  t31 := Try.underlying162
  a31 := Try.isAgg162
  z31 := Try.sizeOf162
  v31 := Try.zeroValue162
  t37 := Try.underlying22
  a37 := Try.isAgg22
  z37 := Try.sizeOf22
  v37 := Try.zeroValue22
  t70 := Try.underlying164
  a70 := Try.isAgg164
  z70 := Try.sizeOf164
  v70 := Try.zeroValue164
  t72 := Try.underlying166
  a72 := Try.isAgg166
  z72 := Try.sizeOf166
  v72 := Try.zeroValue166
  t75 := Try.underlying169
  a75 := Try.isAgg169
  z75 := Try.sizeOf169
  v75 := Try.zeroValue169
  t76 := Try.underlying170
  a76 := Try.isAgg170
  z76 := Try.sizeOf170
  v76 := Try.zeroValue170
  t127 := Try.underlying146
  a127 := Try.isAgg146
  z127 := Try.sizeOf146
  v127 := Try.zeroValue146
  t164 := Try.underlying172
  a164 := Try.isAgg172
  z164 := Try.sizeOf172
  v164 := Try.zeroValue172 }
end Go.Proofs
