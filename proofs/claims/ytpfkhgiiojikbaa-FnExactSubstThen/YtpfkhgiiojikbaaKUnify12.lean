/- Several texts in one: UL, MA, MO, DSz. -/
import Derived.Test.YtpfkhgiiojikbaaKUnify5
import Derived.Test.YtpfkhgiiojikbaaKUnify11
import Derived.Test.YtpfkhgiiojikbaaKThen15
import Derived.Test.YtpfkhgiiojikbaaKUnify2
import Derived.Test.YtpfkhgiiojikbaaKUnify4
import Derived.Test.YtpfkhgiiojikbaaKThen13
import Derived.Test.YtpfkhgiiojikbaaKThen2
import Derived.Test.YtpfkhgiiojikbaaKThen10

/-! UL: What the laws of unification want of the answers. Plain lemmas. -/
namespace Go.Proofs.Ytpfkhgiiojikbaa
open Go.RowKit Go.Deep

theorem sok_le {us : List Bd} (h : sok 16 us = true) (x : Int) : sz (ap (sv us) (vT x)) ≤ 16 := by
  cases hs : sv us x with
  | some t =>
    rw [ap_var hs]
    have := (okW_iff _ _ _ _).1 (sok_sv h hs).2.2
    simp only [sz]; omega
  | none => rw [ap_none hs]; simp [sz, vT, fsz]
/-- What makes two terms the same goes by what is told. -/
theorem un_of {us : List Bd} {s v : Int} {k : Fo} {s' v' : Int} {k' : Fo} (hu : sok 16 us = true) (h1 : okW s v k 16 = true) (h2 : okW s' v' k' 16 = true) (he : ap (sv us) (s, v, k) = ap (sv us) (s', v', k')) (hz : sz (ap (sv us) (s, v, k)) ≤ 16) :
    ∃ bs, unR s v k s' v' k' = (bs, true) ∧ Ag (sv us) bs ∧ Wb 16 bs := by
  obtain ⟨bs, h3, hw, hg⟩ := unT_done (lim := 16) (sok_le hu) 600 [] (s, v, k) (s', v', k') (Wb.nil 16) (okT_w h1) (okT_w h2) (Ag.nil _) he (by omega)
  refine ⟨bs, unR_some h1 h2 (uniR_some.2 ⟨h3, ?_⟩), hg, hw⟩
  have h4 := sz_more (sv us) (hw.okA (okT_w h1))
  rw [hg _ (okT_w h1)] at h4
  omega
theorem un_in {s v : Int} {k : Fo} {s' v' : Int} {k' : Fo} {bs : List Bd} (h : unR s v k s' v' k' = (bs, true)) (hk : Zf k) (hk' : Zf k') : okW s v k 16 = true ∧ okW s' v' k' 16 = true ∧ Wb 16 bs ∧ Bz bs ∧ ap (sv bs) (s, v, k) = ap (sv bs) (s', v', k') ∧ sz (ap (sv bs) (s, v, k)) ≤ 16 ∧ unT 16 600 [] (s, v, k) (s', v', k') = some bs := by
  rcases unR_cases h with ⟨h, _⟩ | ⟨_, h1, h2, h3⟩
  · cases h
  obtain ⟨h4, h5⟩ := uniR_some.1 h3
  obtain ⟨hw, hz, _, he⟩ := unT_same (lim := 16) 600 [] _ _ bs (Wb.nil 16) (fun _ _ h => by simp [sv] at h) (okT_w h1) (okT_w h2) hk hk' h4
  exact ⟨h1, h2, hw, hz, he, h5, h4⟩
theorem un_small {s v : Int} {k : Fo} {s' v' : Int} {k' : Fo} {bs : List Bd} {t : Bool} (h : unR s v k s' v' k' = (bs, t)) : bs.length ≤ 100 ∧ ∀ x ∈ bs, fsz x.2.2.2 ≤ 1000000 := by
  rcases unR_cases h with ⟨_, rfl⟩ | ⟨_, h1, h2, h3⟩
  · exact ⟨Nat.zero_le _, fun x hx => by cases hx⟩
  · have hw := uniR_wb (okT_w h1) (okT_w h2) h3
    refine ⟨by have := hw.len; omega, fun x hx => ?_⟩
    have := hw.small _ _ (sv_mem hw.asc hx)
    simp only [sz] at this; omega
theorem un_ok {s v : Int} {k : Fo} {s' v' : Int} {k' : Fo} {bs : List Bd} (h : unR s v k s' v' k' = (bs, true)) : sok 16 bs = true ∧ okW s v k 16 = true ∧ okW s' v' k' 16 = true ∧ sz (ap (sv bs) (s, v, k)) ≤ 16 := by
  rcases unR_cases h with ⟨h, _⟩ | ⟨_, h1, h2, h3⟩
  · cases h
  · exact ⟨(uniR_wb (okT_w h1) (okT_w h2) h3).sok, h1, h2, (uniR_some.1 h3).2⟩
/-- P33. -/
theorem un_both {s v : Int} {k : Fo} {s' v' : Int} {k' : Fo} {bs : List Bd} (h : unR s v k s' v' k' = (bs, true)) (hk : Zf k) (hk' : Zf k') : ∃ sx vx kx, sdR bs s v k = (sx, vx, kx, true) ∧ sdR bs s' v' k' = (sx, vx, kx, true) := by
  obtain ⟨h1, h2, hw, _, he, hz, _⟩ := un_in h hk hk'
  refine ⟨(ap (sv bs) (s, v, k)).1, (ap (sv bs) (s, v, k)).2.1, (ap (sv bs) (s, v, k)).2.2, sdR_of hw.sok h1 rfl (by simp only [sz] at hz; omega), sdR_of hw.sok h2 ?_ (by simp only [sz] at hz; omega)⟩
  rw [he]; rfl
theorem ap_sdR {bs : List Bd} {s v : Int} {k : Fo} {sx vx : Int} {kx : Fo} (h : sdR bs s v k = (sx, vx, kx, true)) : ap (sv bs) (s, v, k) = (sx, vx, kx) ∧ sok 16 bs = true ∧ okW s v k 16 = true ∧ okW sx vx kx 16 = true := by
  rcases sdR_cases h with ⟨h, _⟩ | ⟨_, h1, h2, h3, h4⟩
  · cases h
  · exact ⟨h3, h1, h2, h4⟩
/-- P34. -/
theorem un_most {us : List Bd} {s v : Int} {k : Fo} {s' v' : Int} {k' : Fo} {sx vx : Int} {kx : Fo} (h1 : sdR us s v k = (sx, vx, kx, true)) (h2 : sdR us s' v' k' = (sx, vx, kx, true)) :
    ∃ bs, unR s v k s' v' k' = (bs, true) ∧ ∃ sm vm km, sdR bs s v k = (sm, vm, km, true) ∧ ∃ b2, maR sm vm km sx vx kx = (b2, true) := by
  obtain ⟨e1, hu, o1, ox⟩ := ap_sdR h1
  obtain ⟨e2, _, o2, _⟩ := ap_sdR h2
  obtain ⟨bs, h3, hg, hw⟩ := un_of hu o1 o2 (e1.trans e2.symm) (by rw [e1]; exact sz_w ox)
  obtain ⟨hso, _, _, hz⟩ := un_ok h3
  have hom := w_sz (hw.okA (okT_w o1)) hz
  refine ⟨bs, h3, _, _, _, sdR_of hso o1 rfl (by simp only [sz] at hz; exact hz), ?_⟩
  have e3 := hg _ (okT_w o1)
  rw [e1] at e3
  obtain ⟨b2, hb2, _⟩ := ma_made (σ := sv us) hom ox (by exact e3)
  exact ⟨b2, hb2⟩
/-- P36. -/
theorem un_self {s v : Int} {k : Fo} (h : okW s v k 16 = true) : unR s v k s v k = ([], true) := by
  refine unR_some h h (uniR_some.2 ⟨?_, ?_⟩)
  · rw [show (600 : Nat) = 599 + 1 from rfl, unT_succ, if_pos (tq_rfl _)]
  · have : ap (sv []) (s, v, k) = (s, v, k) := tsub_nil _ _ _
    rw [this]; exact sz_w h
/-- P37. -/
theorem un_twice {s v : Int} {k : Fo} {s' v' : Int} {k' : Fo} {bs : List Bd} (h : unR s v k s' v' k' = (bs, true)) : thR bs bs = (bs, true) ∧ ∀ x ∈ bs, x.1 ∉ vr (ap (sv bs) (s, v, k)) := by
  rcases unR_cases h with ⟨h, _⟩ | ⟨_, h1, h2, h3⟩
  · cases h
  have hw := uniR_wb (okT_w h1) (okT_w h2) h3
  have e : thL bs bs = bs := asc_ext (thL_asc hw.asc hw.asc) hw.asc fun x => by
    rw [thL_sv hw.asc hw.asc]
    cases hs : sv bs x with
    | none => rw [thS_none hs, hs]
    | some t =>
      rw [thS_some hs]
      exact congrArg some (tsub_id (hw.free x t hs))
  constructor
  · unfold thR
    have hs := hw.sok
    rw [if_pos ⟨hs, hs, by rw [← th_sok hs hs, e]; exact hs⟩, e]
  · intro x hx hm
    have := hw.free_ap (okT_w h1) x.1 hm
    rw [sv_mem hw.asc hx] at this
    cases this
/-- P38. -/
theorem un_match {s v : Int} {k : Fo} {s' v' : Int} {k' : Fo} {bs : List Bd} (h : maR s v k s' v' k' = (bs, true)) (hk : Zf k) (hk' : Zf k') (hd : ∀ x ∈ tvR s v k, x ∉ tvR s' v' k') : ∃ us, unR s v k s' v' k' = (us, true) := by
  have hs := (ma_sub h hk hk').2
  rcases maR_cases h with ⟨h, _⟩ | ⟨_, h1, h2, h3⟩
  · cases h
  obtain ⟨_, _, _, _, hso⟩ := maR_in h
  have hvs := ma_vars h
  have e2 : ap (sv bs) (s', v', k') = (s', v', k') := tsub_id fun x hx => by
    cases hb : sv bs x with
    | none => rfl
    | some t =>
      exfalso
      have hm : x ∈ tvR s v k := by rw [← hvs]; exact sv_some.1 (by rw [hb]; rfl)
      refine hd x hm ?_
      have hin := fvs_in h2 x hx
      unfold tvR
      rw [if_pos h2]
      exact (among_mem _ _ _).2 ⟨hx, hin.1, by omega⟩
  have e1 : ap (sv bs) (s, v, k) = (s', v', k') := hs
  obtain ⟨us, hu, _⟩ := un_of hso h1 h2 (e1.trans e2.symm) (by rw [e1]; exact sz_w h2)
  exact ⟨us, hu⟩
/-- P39. -/
theorem un_occ {x s v : Int} {k : Fo} {bs : List Bd} {t : Bool} (h : unR 0 x .nil s v k = (bs, t)) (hx : 0 ≤ x ∧ x ≤ 11) (ho : okW s v k 16 = true) (hs : s ≠ 0) (hk : Zf k) : t = !decide (x ∈ fvs s v k) := by
  have hov : okW 0 x .nil 16 = true := w_sz (okT_var hx) (by simp [sz, vT, fsz])
  by_cases hm : x ∈ fvs s v k
  · rw [decide_eq_true hm]
    cases t with
    | false => rfl
    | true =>
      exfalso
      obtain ⟨_, _, _, _, he, _, _⟩ := un_in h rfl hk
      have := vr_sz (okT_w ho) hm he
      simp only [vT, Prod.mk.injEq] at this
      exact hs this.1
  · rw [decide_eq_false hm]
    have hso : sok 16 [(x, s, v, k)] = true := sok_iff.2 ⟨asc_one x (s, v, k), fun y hy => by
      simp only [List.mem_singleton] at hy
      subst hy
      exact ⟨by dsimp only; omega, by dsimp only; omega, ho⟩⟩
    have e1 : ap (sv [(x, s, v, k)]) (0, x, .nil) = (s, v, k) := ap_one_self x (s, v, k)
    have e2 : ap (sv [(x, s, v, k)]) (s, v, k) = (s, v, k) := ap_one_out hm
    obtain ⟨us, hu, _⟩ := un_of hso hov ho (e1.trans e2.symm) (by rw [e1]; exact sz_w ho)
    rw [hu] at h
    simp only [Prod.mk.injEq] at h
    rw [← h.2]; rfl
/-- P40. -/
theorem un_parts {s v : Int} {k : Fo} {s' v' : Int} {k' : Fo} {bs : List Bd} (h : unR s v k s' v' k' = (bs, true)) (hk : Zf k) (hk' : Zf k') (hs : s ≠ 0) (hs' : s' ≠ 0) : s = s' ∧ ∀ (j x y x' y' : Nat) (s1 v1 : Int) (k1 r : Fo) (s2 v2 : Int) (k2 r2 : Fo), fdrop j k = .node x y (s1, v1) k1 r → fdrop j k' = .node x' y' (s2, v2) k2 r2 → ∃ us, unR s1 v1 k1 s2 v2 k2 = (us, true) := by
  obtain ⟨h1, h2, hw, _, he, hz, _⟩ := un_in h hk hk'
  rw [ap_sym (t := (s, v, k)) hs, ap_sym (t := (s', v', k')) hs'] at he
  simp only [Prod.mk.injEq] at he
  refine ⟨he.1, fun j x y x' y' s1 v1 k1 r s2 v2 k2 r2 hd hd' => ?_⟩
  have e1 := fsub_at (sv bs) j k hd
  have e2 := fsub_at (sv bs) j k' hd'
  rw [← he.2.2, e1] at e2
  simp only [BT.node.injEq, Prod.mk.injEq] at e2
  have e3 : ap (sv bs) (s1, v1, k1) = ap (sv bs) (s2, v2, k2) := Prod.ext e2.2.2.1.1 (Prod.ext e2.2.2.1.2 e2.2.2.2.1)
  have c1 := fok_kid ((okW_iff _ _ _ _).1 h1).2.1 hd
  have c2 := fok_kid ((okW_iff _ _ _ _).1 h2).2.1 hd'
  have z1 := fsz_kid hd
  have z2 := fsz_kid hd'
  have y1 := ((okW_iff _ _ _ _).1 h1).2.2
  have y2 := ((okW_iff _ _ _ _).1 h2).2.2
  have z3 := fsz_kid e1
  rw [ap_sym (t := (s, v, k)) hs] at hz
  simp only [sz] at hz
  obtain ⟨us, hu, _⟩ := un_of hw.sok ((okW_iff _ _ _ _).2 ⟨c1.1, c1.2, by omega⟩) ((okW_iff _ _ _ _).2 ⟨c2.1, c2.2, by omega⟩) e3 (by
    have e4 : (ap (sv bs) (s1, v1, k1)).2.2 = (tsub (sv bs) s1 v1 k1).2.2 := rfl
    simp only [sz]; rw [e4]; omega)
  exact ⟨us, hu⟩

/-- What changes nothing leaves each variable. -/
theorem fsub_fix {υ : Int → Option T3} : ∀ k : Fo, fok k = true → fsub υ k = k → ∀ x ∈ fvl k, ap υ (vT x) = vT x
  | .nil, _, _, x, hx => by simp [fvl] at hx
  | .node a b p k r, ho, h, x, hx => by
    simp only [fok, Bool.and_eq_true] at ho
    rw [fsub_sign] at h
    simp only [BT.node.injEq] at h
    obtain ⟨_, _, h1, h2, h3⟩ := h
    simp only [fvl, List.mem_append] at hx
    rcases hx with hx | hx
    · by_cases e : p.1 = 0
      · rw [if_pos e] at hx
        simp only [List.mem_singleton] at hx
        subst hx
        have hk : k = .nil := kids_none (v := p.2) (by rw [← e]; exact ho.1.1)
        subst hk
        have h4 : ap υ (vT p.2) = tsub υ p.1 p.2 .nil := by rw [e]; rfl
        rw [h4]
        have h5 : p = (0, p.2) := Prod.ext e rfl
        refine Prod.ext ?_ (Prod.ext ?_ h2)
        · have := congrArg Prod.fst h1; dsimp only at this; rw [this]; exact e
        · have := congrArg Prod.snd h1; dsimp only at this; rw [this]; rfl
      · rw [if_neg e] at hx
        rw [tsub_sym e] at h2
        exact fsub_fix k ho.1.2 h2 x hx
    · exact fsub_fix r ho.2 h3 x hx
theorem ap_fix {υ : Int → Option T3} {t : T3} (ho : okT t) (h : ap υ t = t) : ∀ x ∈ vr t, ap υ (vT x) = vT x := fun x hx => by
  by_cases e : t.1 = 0
  · have h0 := okT_zero ho e
    rw [h0.1, vr_var] at hx
    simp only [List.mem_singleton] at hx
    rw [hx, ← h0.1]; exact h
  · unfold vr fvs at hx
    rw [if_neg e] at hx
    rw [ap_sym e] at h
    exact fsub_fix t.2.2 ho.2 (congrArg (fun u : T3 => u.2.2) h) x hx
/-- Names of variables that are named anew. -/
theorem nmL_map {ρ : Int → Int} {X : List Int} (hinj : ∀ x ∈ X, ∀ y ∈ X, ρ x = ρ y → x = y) : ∀ (xs : List Int) (bs cs : List Bd), (∀ x ∈ xs, x ∈ X) → bs.length = cs.length → (∀ x ∈ X, sv cs (ρ x) = sv bs x) → (∀ x ∈ X, sv (nmL cs (xs.map ρ)) (ρ x) = sv (nmL bs xs) x)
  | [], _, _, _, _, h => h
  | y :: xs, bs, cs, hx, hl, h => by
    have hy := hx y (List.mem_cons_self ..)
    simp only [List.map_cons, nmL]
    refine nmL_map hinj xs (nm1 bs y) (nm1 cs (ρ y)) (fun x hh => hx x (List.mem_cons_of_mem _ hh)) ?_ ?_
    · cases hb : sv bs y with
      | some t => rw [nm1_some hb, nm1_some ((h y hy).trans hb), hl]
      | none => rw [nm1_none hb, nm1_none ((h y hy).trans hb), ladd_len, ladd_len, hl]
    · intro x hxX
      cases hb : sv bs y with
      | some t => rw [nm1_some hb, nm1_some ((h y hy).trans hb)]; exact h x hxX
      | none =>
        rw [nm1_none hb, nm1_none ((h y hy).trans hb), sv_ladd (b := (y, 0, (bs.length : Int), .nil)) hb, sv_ladd (b := (ρ y, 0, (cs.length : Int), .nil)) ((h y hy).trans hb), hl]
        dsimp only
        by_cases e : y = x
        · rw [if_pos e, if_pos (by rw [e])]
        · rw [if_neg e, if_neg (fun e2 => e (hinj y hy x hxX e2))]; exact h x hxX
/-- Two terms of which each is the other one with something put in have the same plain term. -/
theorem plain_both {σ τ : Int → Option T3} {s v : Int} {k : Fo} {s' v' : Int} {k' : Fo} (hσ : ∀ x t, σ x = some t → okT t) (h1 : okW s v k 16 = true) (h2 : okW s' v' k' 16 = true) (e1 : ap σ (s, v, k) = (s', v', k')) (e2 : ap τ (s', v', k') = (s, v, k)) : (plR s v k).1 = (plR s' v' k').1 := by
  have ho := okT_w h1
  have hυ : ap (thS σ τ) (s, v, k) = (s, v, k) := by rw [← ap_th, e1, e2]
  have hfix := ap_fix ho hυ
  have hrng : ∀ x ∈ vr (s, v, k), 0 ≤ x ∧ x ≤ 11 := fun x hx => by have := fvs_in h1 x hx; omega
  have hvar : ∀ x ∈ vr (s, v, k), ap σ (vT x) = vT (ap σ (vT x)).2.1 ∧ ap τ (vT (ap σ (vT x)).2.1) = vT x := fun x hx => by
    have h3 := hfix x hx
    rw [← ap_th] at h3
    have h4 : (ap σ (vT x)).1 = 0 := by
      by_cases e : (ap σ (vT x)).1 = 0
      · exact e
      · rw [ap_sym e] at h3
        exact absurd (congrArg Prod.fst h3) e
    have h5 := (okT_zero (ap_ok hσ (okT_var (hrng x hx))) h4).1
    rw [h5] at h3
    exact ⟨h5, h3⟩
  let ρ : Int → Int := fun x => (ap σ (vT x)).2.1
  have hinj : ∀ x ∈ vr (s, v, k), ∀ y ∈ vr (s, v, k), ρ x = ρ y → x = y := fun x hx y hy e => by
    have a1 := (hvar x hx).2
    have a2 := (hvar y hy).2
    have e3 : (ap σ (vT x)).2.1 = (ap σ (vT y)).2.1 := e
    rw [e3, a2] at a1
    simp only [vT, Prod.mk.injEq, true_and, and_true] at a1
    exact a1.symm
  have hnames : fvs s' v' k' = (fvs s v k).map ρ := by
    by_cases e : s = 0
    · have h0 := okT_zero ho e
      have hm : v ∈ vr (s, v, k) := by rw [h0.1]; exact List.mem_singleton.2 rfl
      have e3 : ap σ (vT v) = (s', v', k') := by
        have : (s, v, k) = vT v := h0.1
        rw [this] at e1; exact e1
      have e4 := (hvar v hm).1
      rw [e3] at e4
      simp only [vT, Prod.mk.injEq] at e4
      unfold fvs
      rw [if_pos e, if_pos e4.1]
      show [v'] = [ρ v]
      have : ρ v = v' := by show (ap σ (vT v)).2.1 = v'; rw [e3]
      rw [this]
    · have e3 := e1
      rw [ap_sym (t := (s, v, k)) e] at e3
      simp only [Prod.mk.injEq] at e3
      have hs' : s' ≠ 0 := by rw [← e3.1]; exact e
      have hv : ∀ x ∈ fvl k, x ∈ vr (s, v, k) := fun x hx => by unfold vr fvs; rw [if_neg e]; exact hx
      have hc : fsub (fun x => some (ap σ (vT x))) k = fsub σ k := fsub_congrV k ho.2 fun x _ => ap_var rfl
      have hn := fvl_names (σ := fun x => some (ap σ (vT x))) k fun x hx => ⟨_, rfl, by rw [(hvar x (hv x hx)).1]; rfl⟩
      rw [hc, e3.2.2] at hn
      unfold fvs
      rw [if_neg e, if_neg hs', hn]
      refine List.map_congr_left fun x _ => ?_
      show (tsub _ 0 x .nil).2.1 = _
      rw [tsub_var rfl rfl]
  have hnm : ∀ x ∈ vr (s, v, k), sv (nms s' v' k') (ρ x) = sv (nms s v k) x := by
    unfold nms
    rw [hnames]
    exact nmL_map (X := vr (s, v, k)) hinj (fvs s v k) [] [] (fun x hx => hx) rfl (fun _ _ => rfl)
  unfold plR
  rw [if_pos h1, if_pos h2]
  show ap (sv (nms s v k)) (s, v, k) = ap (sv (nms s' v' k')) (s', v', k')
  rw [← e1, ap_th]
  refine ap_congrV ho fun x hx => ?_
  rw [← ap_th, (hvar x hx).1]
  have h6 := hnm x hx
  show tsub _ 0 x .nil = tsub _ 0 (ρ x) .nil
  rw [tsub0, tsub0, h6]
  have h7 : (sv (nms s v k) x).isSome = true := ((nms_in h1).2.2.1 x).2 hx
  cases hs : sv (nms s v k) x with
  | none => rw [hs] at h7; cases h7
  | some t => rfl
/-- P35. -/
theorem un_turn {s v : Int} {k : Fo} {s' v' : Int} {k' : Fo} {bs us : List Bd} {t u : Bool} (h : unR s v k s' v' k' = (bs, t)) (h' : unR s' v' k' s v k = (us, u)) (hk : Zf k) (hk' : Zf k') : u = t ∧ (t = true → ∃ s1 v1 k1 s2 v2 k2, sdR bs s v k = (s1, v1, k1, true) ∧ sdR us s v k = (s2, v2, k2, true) ∧ (plR s1 v1 k1).1 = (plR s2 v2 k2).1) := by
  have key : ∀ {s v : Int} {k : Fo} {s' v' : Int} {k' : Fo} {bs : List Bd}, unR s v k s' v' k' = (bs, true) → Zf k → Zf k' → ∃ us, unR s' v' k' s v k = (us, true) ∧ Ag (sv bs) us := fun {s v k s' v' k' bs} h hk hk' => by
    obtain ⟨h1, h2, hw, _, he, hz, _⟩ := un_in h hk hk'
    obtain ⟨us, hu, hg, _⟩ := un_of hw.sok h2 h1 he.symm (by rw [← he]; exact hz)
    exact ⟨us, hu, hg⟩
  cases t with
  | false =>
    cases u with
    | false => exact ⟨rfl, fun h => by cases h⟩
    | true =>
      obtain ⟨b2, hb2, _⟩ := key h' hk' hk
      rw [h] at hb2
      simp only [Prod.mk.injEq] at hb2
      cases hb2.2
  | true =>
    obtain ⟨us', hu', hg⟩ := key h hk hk'
    rw [hu'] at h'
    simp only [Prod.mk.injEq] at h'
    obtain ⟨rfl, rfl⟩ := h'
    refine ⟨rfl, fun _ => ?_⟩
    obtain ⟨bs2, hb2, hg2⟩ := key hu' hk' hk
    rw [h] at hb2
    simp only [Prod.mk.injEq, and_true] at hb2
    subst hb2
    obtain ⟨h1, h2, hw, _, he, hz, _⟩ := un_in h hk hk'
    obtain ⟨_, _, hw2, _, he2, hz2, _⟩ := un_in hu' hk' hk
    have hz3 : sz (ap (sv us') (s, v, k)) ≤ 16 := by rw [← he2]; exact hz2
    have o1 := w_sz (hw.okA (okT_w h1)) hz
    have o2 := w_sz (hw2.okA (okT_w h1)) hz3
    have g1 := hg2 _ (okT_w h1)
    have g2 := hg _ (okT_w h1)
    refine ⟨_, _, _, _, _, _, sdR_of hw.sok h1 rfl (by simp only [sz] at hz; exact hz), sdR_of hw2.sok h1 rfl (by simp only [sz] at hz3; exact hz3), ?_⟩
    exact plain_both (σ := sv us') (τ := sv bs) hw2.ok o1 o2 (by exact g1) (by exact g2)
end Go.Proofs.Ytpfkhgiiojikbaa

/-! MA: kidsAgree and match: what a pattern binds goes into the map. -/
namespace Go.Proofs.Ytpfkhgiiojikbaa
open Go.RowKit Go.Deep Go.Maps

def MtPost (base b : Nat) (bs : List Bd) (s v : Int) (k : Fo) (s' v' : Int) (k' : Fo) (w : World) (e : Ending) (w' : World) : Prop :=
  Kp base w w' ∧ ((∃ bs', tmt bs s v k s' v' k' = some bs' ∧ e = .returned (.bool true) ∧ MapIs w' b bs') ∨ (tmt bs s v k s' v' k' = none ∧ e = .returned (.bool false)))
/-- The matching at all smaller patterns. -/
def MtTo (base b M : Nat) : Prop :=
  ∀ {s v : Int} {k : Fo} {pv : Value} {s' v' : Int} {k' : Fo} {tv : Value} {bs : List Bd} {w : World}, MapIs w b bs → Bof bs 1000 → base ≤ w.heap.size → Nj w pv s v k → Nj w tv s' v' k' → bs.length + (1 + fsz k) ≤ 1000 → fsz k < M →
    Calls Try.prog 64 #[.map (some b), pv, tv] w (MtPost base b bs s v k s' v' k' w)

set_option maxRecDepth 100000 in
set_option maxHeartbeats 2000000 in
theorem kidsAgree_any {base b M : Nat} (H : MtTo base b M) {s v : Int} {k : Fo} {pv : Value} {s' v' : Int} {k' : Fo} {tv : Value} {bs : List Bd} {w : World} (hs : s ≠ 0) (hm : MapIs w b bs) (hbo : Bof bs 1000) (hbw : base ≤ w.heap.size) (h : Nj w pv s v k) (h' : Nj w tv s' v' k') (hbl : bs.length + (1 + fsz k) ≤ 1000) (hM : fsz k ≤ M) :
    Calls Try.prog 92 #[pv, tv, .func (.func 64) #[.map (some b)] #[]] w (MtPost base b bs s v k s' v' k' w) := by
  have HP := Lib.hid h
  have HT := Lib.hid h'
  have HM := Lib.hid hm
  have HH : Hid (MtTo base b M) := H
  have HBO := Lib.hid hbo
  have hfl := flen_le_sz k
  have hsm := h.small
  clear h h' hm H hbo
  go_enter Try.func92, Try.ntmps92
  go_wp2_with fail
  with_reducible refine (signOfI_any HP.out).mono ?_
  rintro e w1 ⟨rfl, hb1⟩
  have HK1 := Lib.hid (Kp.of hb1 hbw)
  have HM1 := Lib.hid (HM.out.below hb1)
  have HP1 := Lib.hid (HP.out.next hb1)
  have HT1 := Lib.hid (HT.out.next hb1)
  have hs1 := hb1.size
  clear hb1
  go_wp2_with fail
  with_reducible refine (signOfI_any HT1.out).mono ?_
  rintro e w2 ⟨rfl, hb2⟩
  have HK2 := Lib.hid (HK1.out.trans (Kp.of hb2 (Nat.le_trans hbw hs1)))
  have HM2 := Lib.hid (HM1.out.below hb2)
  have HP2 := Lib.hid (HP1.out.next hb2)
  have HT2 := Lib.hid (HT1.out.next hb2)
  have hs2 := hb2.size
  clear hb2 HK1 HM1 HP1 HT1
  by_cases hss : s = s'
  case neg =>
    have e0 : (s != s') = true := by simp [hss]
    have HN := Lib.hid (tmt_other (bs := bs) (v := v) (v' := v') (k := k) (k' := k') hs hss)
    clear hss
    go_wp2_with fail
    go_ret
    exact ⟨HK2.out, .inr ⟨HN.out, rfl⟩⟩
  subst hss
  have e0 : (s != s) = false := by simp
  go_wp2_with fail
  with_reducible refine (kidsOf_any s v' k' tv w2.heap.size w2 HT2.out.node).mono ?_
  rintro e w3 ⟨a2, c2, rfl, hb3, hn2⟩
  have HK3 := Lib.hid (HK2.out.trans (Kp.of hb3 (by omega)))
  have HM3 := Lib.hid (HM2.out.below hb3)
  have HP3 := Lib.hid (HP2.out.next hb3)
  have HN2 : Hid (NSl w3 0 w3.heap.size a2 k') := (hn2.below hb3).mono (Nat.le_refl _) hb3.size
  have hs3 := hb3.size
  clear hb3 hn2 HK2 HM2 HP2 HT2
  go_wp2_with fail
  with_reducible refine (kidsOf_any s v k pv w3.heap.size w3 HP3.out.node).mono ?_
  rintro e w4 ⟨a1, c1, rfl, hb4, hn1⟩
  have HK4 := Lib.hid (HK3.out.trans (Kp.of hb4 (by omega)))
  have HM4 := Lib.hid (HM3.out.below hb4)
  have HN1 : Hid (NSl w4 0 w4.heap.size a1 k) := (hn1.below hb4).mono (Nat.le_refl _) hb4.size
  have HN2' : Hid (NSl w4 0 w4.heap.size a2 k') := (HN2.out.below hb4).mono (Nat.le_refl _) hb4.size
  have hs4 := hb4.size
  have hfl2 := flen_same HP.out.okn HT.out.okn
  have HFE := Lib.hid (tmt_sym (bs := bs) (v := v) (v' := v') (k := k) (k' := k') hs)
  have HFK := Lib.hid HP.out.ok
  have HFK' := Lib.hid HT.out.ok
  have hsm' := HT.out.small
  clear hb4 hn1 HN2 HK3 HM3 HP3 HP HT HM
  have HFL := Lib.hid hfl2
  clear hfl2
  go_wp2_with fail
  go_loopw [20] (fun i wr => ∃ (j : Nat) (b1 : List Bd), i = .int .i64 j ∧ j ≤ flen k ∧ Hid (fmt bs k k' = fmt b1 (fdrop j k) (fdrop j k')) ∧ Hid (MapIs wr b b1) ∧ Hid (Bof b1 1000) ∧ Hid (Kp base w4 wr) ∧ Hid (b1.length + fsz (fdrop j k) ≤ bs.length + fsz k)) (fun i _ => flen k - (intOf i).toNat)
  case atStart => exact ⟨0, bs, rfl, Nat.zero_le _, rfl, HM4, HBO, Kp.refl _ _, Nat.le_refl _⟩
  case round =>
    clear HM4 HBO
    obtain ⟨j, b1, rfl, hj, HF, HMr, HBr, HKr, HLr⟩ := hrel
    have hkr := HKr.out.low.size
    by_cases hlt : j < flen k
    · have hlt' : j < flen k' := by rw [← HFL.out]; exact hlt
      have hnr := HN1.out.kp HKr.out
      rcases hnr with rfl | ⟨kb, ko, rfl, hrow⟩
      · simp [flen] at hlt
      have hnr' := HN2'.out.kp HKr.out
      rcases hnr' with rfl | ⟨kb', ko', rfl, hrow'⟩
      · simp [flen] at hlt'
      obtain ⟨s1, v1, k1, val1, ⟨x, y, hd⟩, _, _, hc, hn⟩ := nrow_at hrow hlt
      obtain ⟨s2, v2, k2, val2, ⟨x', y', hd'⟩, _, _, hc', hn'⟩ := nrow_at hrow' hlt'
      have hk1 := fok_kid HFK.out hd
      have hk2 := fok_kid HFK'.out hd'
      have z1 := fsz_kid hd
      have z2 := fsz_kid hd'
      have HST := Lib.hid (fmt_step (bs := b1) hd hd')
      have hzd := fsz_dropN hd
      have hl1 := HLr.out
      have HZ : Hid (b1.length + (1 + fsz k1) + fsz (fdrop (j + 1) k) ≤ bs.length + fsz k) := by show _ ≤ _; omega
      have HCALL := Lib.hid (HH.out HMr.out HBr.out (Nat.le_trans (by omega) hkr) ⟨hn, hk1.1, hk1.2, by omega⟩ ⟨hn', hk2.1, hk2.2, by omega⟩ (by omega) (by omega))
      have g1 : (0 : Int) ≤ (j : Int) := by omega
      have g2 : (j : Int) < (flen k : Int) := by omega
      have g3 : (j : Int) < (flen k' : Int) := by omega
      have HOF : Hid (∀ b2, tmt b1 s1 v1 k1 s2 v2 k2 = some b2 → Bof b2 1000) := fun b2 h => tmt_of h HBr.out hk2.1 hk2.2 (by omega)
      clear hn hn' hd hd' hk1 hk2 hrow hrow' hzd hl1
      go_wp2_with fail
      with_reducible refine HCALL.out.mono ?_
      rintro e w5 ⟨hkp, hcase⟩
      have HK5 := Lib.hid (HKr.out.trans hkp)
      clear hkp HCALL hc hc'
      rcases hcase with ⟨b2, ht, rfl, hm2⟩ | ⟨ht, rfl⟩
      · have HF2 : Hid (fmt bs k k' = fmt b2 (fdrop (j + 1) k) (fdrop (j + 1) k')) := by rw [Hid, HF.out, HST.out, ht]; rfl
        have HM5 := Lib.hid hm2
        have HB5 := Lib.hid (HOF.out b2 ht)
        have HL5 : Hid (b2.length + fsz (fdrop (j + 1) k) ≤ bs.length + fsz k) := by have h1 := tmt_blen ht; have h2 := HZ.out; show _ ≤ _; omega
        clear ht hm2
        go_wp2_with fail
        go_roundw
        case rel => exact ⟨j + 1, b2, by go_num, by omega, HF2, HM5, HB5, HK5, HL5⟩
        case measure => simp [intOf]; omega
      · have HN : Hid (tmt bs s v k s v' k' = none) := by rw [Hid, HFE.out, HF.out, HST.out, ht]; rfl
        clear ht
        go_wp2_with fail
        go_ret
        exact ⟨HK4.out.trans HK5.out, .inr ⟨HN.out, rfl⟩⟩
    · have HS : Hid (tmt bs s v k s v' k' = some b1) := by rw [Hid, HFE.out, HF.out, fdrop_all (by omega), fdrop_all (k := k') (by have := HFL.out; omega)]; rfl
      go_wp2_with fail
      go_ret
      exact ⟨HK4.out.trans HKr.out, .inl ⟨b1, HS.out, rfl, HMr.out⟩⟩

set_option maxRecDepth 100000 in
set_option maxHeartbeats 2000000 in
theorem match_any {base b : Nat} (hbb : base ≤ b) (M : Nat) : MtTo base b M := by
  induction M with
  | zero => intro s v k pv s' v' k' tv bs w _ _ _ _ _ _ hM; omega
  | succ M ih =>
    intro s v k pv s' v' k' tv bs w hm hbo hbw hp ht hbl hM
    have hta := assert_varV
    have htb := assert_symV
    have hz := zeroE
    have HH : Hid (MtTo base b M) := ih
    have HM := Lib.hid hm
    have HP := Lib.hid hp
    have HT := Lib.hid ht
    have HBO := Lib.hid hbo
    clear hm hp ht hbo ih
    have hnode := HP.out.node
    rcases hnode with ⟨rfl, rfl, rfl⟩ | ⟨hs, a, c, rfl, hn⟩
    · have hv := ((okN_iff _ _ _).1 HP.out.okn).2.1 rfl
      have HWF : Hid ((Lit.int .i64 v).wf = true) := WalkArith.wf_i64 (by omega)
      obtain ⟨n, D, hown, hnl, hsv⟩ := HM.out
      have HOWN := Lib.hid hown
      have HKEY := Lib.hid (key_of HWF.out)
      have hx := hsv v HWF.out
      have HSV := Lib.hid hsv
      have HNL := Lib.hid hnl
      clear hown hsv
      cases hs : sv bs v with
      | some u =>
        obtain ⟨s1, v1, k1⟩ := u
        obtain ⟨hh, nv0, hat, hnode⟩ := hx.2 s1 v1 k1 hs
        have hbo1 := HBO.out v _ hs
        have HNJ : Hid (Nj w nv0 s1 v1 k1) := ⟨hnode, hbo1.1, hbo1.2.1, by have := hbo1.2.2; dsimp only at this; omega⟩
        have HAT := Lib.hid hat
        have HE2 := Lib.hid (mtV_found (t := (s', v', k')) hs)
        clear hx hs hnode hat hbo1
        go_enter Try.func64, Try.ntmps64
        go_wp2_with (at_lookup; refine wpList_lookup_own_ok (H := Value) _ rfl _ _ 69 rfl 114 77 law underM rdV (zeroE _) (.held .nilIface) [] rfl b n D rfl HOWN.out (.int .i64 v) (.int .i64 v) rfl HKEY.out ?_; intro nv ps hnv; rw [hh]; have HE : Hid (nv0 = nv) := (by have := HAT.out; simp only [rdV, Option.some.injEq, Prod.mk.injEq] at hnv; rw [this] at hnv; exact (DataW.held.inj hnv.1).symm); clear hnv)
        obtain rfl : nv0 = nv := HE.out
        with_reducible refine (sameNodeI_any HNJ.out HT.out).mono ?_
        rintro e w2 ⟨rfl, hb2⟩
        have HK2 := Lib.hid (Kp.of hb2 hbw)
        have HM2 := Lib.hid (HM.out.below hb2)
        clear hb2
        go_wp2_with fail
        go_ret
        refine ⟨HK2.out, ?_⟩
        rw [tmt_zero]
        rw [HE2.out]
        dsimp only
        cases teq s1 v1 k1 s' v' k' with
        | true => exact .inl ⟨bs, rfl, rfl, HM2.out⟩
        | false => exact .inr ⟨rfl, rfl⟩
      | none =>
        have hh := hx.1 hs
        have HE2 := Lib.hid (mtV_none (t := (s', v', k')) hs)
        have HS := Lib.hid hs
        have hn12 : n < 2000 := by omega
        have hnm : n < maxLen := by unfold maxLen; omega
        have HSL : Hid (∀ x, sv (ladd bs (v, s', v', k')) x = sv (bs ++ [(v, s', v', k')]) x) := fun x => by rw [sv_ladd (b := (v, s', v', k')) hs, sv_snoc (x := (v, s', v', k')) hs]
        clear hx hs
        go_enter Try.func64, Try.ntmps64
        go_wp2_with (first | (at_lookup; refine wpList_lookup_own_ok (H := Value) _ rfl _ _ 69 rfl 114 77 law underM rdV (zeroE _) (.held .nilIface) [] rfl b n D rfl HOWN.out (.int .i64 v) (.int .i64 v) rfl HKEY.out ?_; intro nv ps hnv; rw [hh]; clear hnv) | (at_mapUpdate; refine wpList_mapUpdate_own (H := Value) _ rfl _ _ _ 69 rfl 114 77 law underM rdV b n D rfl HOWN.out hnm (.int .i64 v) tv (.int .i64 v) rfl rfl HKEY.out (.held tv) [] rfl ?_; intro w3 hown3 hgrow3; have HM3 := Lib.hid (MapIs.put HNL.out HSV.out HOWN.out hown3 hgrow3 HS.out HT.out.node); have HK3 : Hid (Kp base w w3) := ⟨(Below.refl _ _).grown hgrow3 hbw (fun g hg => by cases hg; exact hbb), cells_keep HOWN.out hgrow3⟩; clear hown3 hgrow3))
        go_ret
        refine ⟨HK3.out, .inl ⟨_, ?_, rfl, HM3.out.congr HSL.out (by rw [ladd_len]; simp)⟩⟩
        rw [tmt_zero]; exact HE2.out
    · have HC := Lib.hid (kidsAgree_any HH.out hs HM.out HBO.out hbw HP.out HT.out hbl (by omega))
      clear hn
      go_enter Try.func64, Try.ntmps64
      go_wp2_with fail
      with_reducible refine HC.out.mono ?_
      rintro e w2 ⟨hkp, hcase⟩
      rcases hcase with ⟨b2, ht, rfl, hm2⟩ | ⟨ht, rfl⟩
      · have HM2 := Lib.hid hm2
        have HT2 := Lib.hid ht
        have HK2 := Lib.hid hkp
        clear ht hm2 hkp
        go_wp2_with fail
        go_ret
        exact ⟨HK2.out, .inl ⟨b2, HT2.out, rfl, HM2.out⟩⟩
      · have HT2 := Lib.hid ht
        have HK2 := Lib.hid hkp
        clear ht hkp
        go_wp2_with fail
        go_ret
        exact ⟨HK2.out, .inr ⟨HT2.out, rfl⟩⟩
end Go.Proofs.Ytpfkhgiiojikbaa

/-! MO: - MatchOf of the program and of the specification. -/
namespace Go.Proofs.Ytpfkhgiiojikbaa
open Go.RowKit Go.Deep Go.Maps

def MaPost (s v : Int) (k : Fo) (s' v' : Int) (k' : Fo) (w : World) (e : Ending) (w' : World) : Prop :=
  ∃ A C bs t, maR s v k s' v' k' = (bs, t) ∧ e = .returned (.tuple #[.slice A (List.length bs) C, .bool t]) ∧ Below w.heap.size w w' ∧ BSl w' 0 w'.heap.size A bs
theorem ma_none {s v : Int} {k : Fo} {s' v' : Int} {k' : Fo} {w w' : World} {A : Option Addr} {C : Nat} (h : maR s v k s' v' k' = ([], false)) (hb : Below w.heap.size w w') : MaPost s v k s' v' k' w (.returned (.tuple #[.slice A 0 C, .bool false])) w' :=
  ⟨A, C, [], false, h, rfl, hb, .inl rfl⟩
theorem fits_of {bs : List Bd} (ha : Asc bs) (hb : Bof bs 15) : fits 16 bs = true := by
  unfold fits
  rw [List.all_eq_true]
  intro x hx
  have := (hb x.1 x.2 (sv_mem ha hx)).2.2
  simp only [decide_eq_true_eq]
  omega
theorem maR_bad {s v : Int} {k : Fo} {s' v' : Int} {k' : Fo} (h : ¬ (okW s v k 16 = true ∧ okW s' v' k' 16 = true)) : maR s v k s' v' k' = ([], false) := by unfold maR; rw [if_neg h]
theorem Bof.mono {bs : List Bd} {M M' : Nat} (h : Bof bs M) (hM : M ≤ M') : Bof bs M' := fun x t ht => ⟨(h x t ht).1, (h x t ht).2.1, Nat.le_trans (h x t ht).2.2 hM⟩

set_option maxRecDepth 100000 in
set_option maxHeartbeats 2000000 in
theorem iMatchOf_any (s v : Int) (a : Option Addr) (c : Nat) (k : Fo) (s' v' : Int) (a' : Option Addr) (c' : Nat) (k' : Fo) (w : World) (hl : Sl w 0 w.heap.size a k) (hl' : Sl w 0 w.heap.size a' k') :
    Calls Try.prog 29 #[.agg #[.int .i64 s, .int .i64 v, .slice a (flen k) c], .agg #[.int .i64 s', .int .i64 v', .slice a' (flen k') c']] w (MaPost s v k s' v' k' w) := by
  have hb0 : Below w.heap.size w ((w.alloc (.cells #[.int .i64 s, .int .i64 v, .slice a (flen k) c] 28)).alloc (.cells #[.int .i64 s', .int .i64 v', .slice a' (flen k') c'] 28)) := ((Below.refl _ _).alloc (Nat.le_refl _) _).alloc (by simp) _
  have HL0 := Lib.hid (hl.next hb0)
  have HL0' := Lib.hid (hl'.next hb0)
  have HW0 := Lib.hid hb0
  have HB0 : Hid (Below (w.heap.size + 2) ((w.alloc (.cells #[.int .i64 s, .int .i64 v, .slice a (flen k) c] 28)).alloc (.cells #[.int .i64 s', .int .i64 v', .slice a' (flen k') c'] 28)) ((w.alloc (.cells #[.int .i64 s, .int .i64 v, .slice a (flen k) c] 28)).alloc (.cells #[.int .i64 s', .int .i64 v', .slice a' (flen k') c'] 28))) := Below.refl _ _
  have hsz : w.heap.size + 2 ≤ ((w.alloc (.cells #[.int .i64 s, .int .i64 v, .slice a (flen k) c] 28)).alloc (.cells #[.int .i64 s', .int .i64 v', .slice a' (flen k') c'] 28)).heap.size := by simp
  have hmm := @run_makeMap Try.prog
  clear hb0 hl hl'
  go_enter Try.func29, Try.ntmps29
  go_wp2_with fail
  with_reducible refine (nodeOf_any s v a c k 16 _ HL0.out (by omega) (by omega)).mono ?_
  rintro e w1 ⟨nv, rfl, hb1, hyes1⟩
  have hb1' := HB0.out.trans (hb1.mono hsz)
  obtain ⟨_, _, _, hr3, hr4, hr5⟩ := two_boxesM hb1'
  have HW1 := Lib.hid (below_next HW0.out hb1)
  have HL1' := Lib.hid (HL0'.out.next hb1)
  have HY1 := Lib.hid hyes1
  clear hb1 hb1' hyes1 HB0 hsz HL0 HL0' HW0
  go_wp2_with fail
  with_reducible refine (nodeOf_any s' v' a' c' k' 16 _ HL1'.out (by omega) (by omega)).mono ?_
  rintro e w2 ⟨nv', rfl, hb2, hyes2⟩
  have HW2 := Lib.hid (below_next HW1.out hb2)
  have HB2 := Lib.hid hb2
  have HY2 := Lib.hid hyes2
  clear hb2 hyes2 hr3 hr4 hr5
  by_cases hok : okW s v k 16 = true
  case neg =>
    have hf : okW s v k 16 = false := by simpa using hok
    have HP : Hid (MaPost s v k s' v' k' w (.returned (.tuple #[.slice none 0 0, .bool false])) w2) := ma_none (maR_bad fun h => hok h.1) HW2.out
    rw [hf]
    clear hok hf
    generalize okW s' v' k' 16 = okk
    cases okk with
    | true =>
      go_wp2_with fail
      refine bodyPost_ret (v := .tuple #[.slice none 0 0, .bool false]) ?_ rfl HP.out
      simp [results, Try.results29, go_sem]
    | false =>
      go_wp2_with fail
      refine bodyPost_ret (v := .tuple #[.slice none 0 0, .bool false]) ?_ rfl HP.out
      simp [results, Try.results29, go_sem]
  by_cases hok' : okW s' v' k' 16 = true
  case neg =>
    have hf : okW s' v' k' 16 = false := by simpa using hok'
    have HP : Hid (MaPost s v k s' v' k' w (.returned (.tuple #[.slice none 0 0, .bool false])) w2) := ma_none (maR_bad fun h => hok' h.2) HW2.out
    rw [hf, hok]
    clear hok hf hok'
    go_wp2_with fail
    refine bodyPost_ret (v := .tuple #[.slice none 0 0, .bool false]) ?_ rfl HP.out
    simp [results, Try.results29, go_sem]
  obtain ⟨o1, o2, o3⟩ := (okW_iff _ _ _ _).1 hok
  obtain ⟨p1, p2, p3⟩ := (okW_iff _ _ _ _).1 hok'
  have hbm : Below w2.heap.size w2 (w2.alloc (.map #[] 0)) := (Below.refl _ _).alloc (Nat.le_refl _) _
  have HN1 : Hid (Nj (w2.alloc (.map #[] 0)) nv s v k) := by
    have h1 := (HY1.out hok).mono (lo' := 0) (Nat.zero_le _) (Nat.le_refl _)
    have h2 := (h1.below HB2.out).mono (lo' := 0) (Nat.le_refl _) HB2.out.size
    exact ⟨(h2.below hbm).mono (Nat.le_refl _) hbm.size, o1, o2, by omega⟩
  have HN2 : Hid (Nj (w2.alloc (.map #[] 0)) nv' s' v' k') := by
    have h2 := (HY2.out hok').mono (lo' := 0) (Nat.zero_le _) (Nat.le_refl _)
    exact ⟨(h2.below hbm).mono (Nat.le_refl _) hbm.size, p1, p2, by omega⟩
  have HMS := Lib.hid (MapIs.start w2)
  have HOK := Lib.hid hok
  have HOK' := Lib.hid hok'
  have HO1 := Lib.hid p1
  have HO2 := Lib.hid p2
  have HWM := Lib.hid (below_next HW2.out hbm)
  have hws := HW2.out.size
  have HCM := Lib.hid (match_any (base := w2.heap.size) (b := w2.heap.size) (Nat.le_refl _) 1000 HMS.out (Bof.nil _) (by simp) HN1.out HN2.out (by simp; omega) (by omega))
  rw [hok, hok']
  clear hok hok' o1 o2 p1 p2 hbm HY1 HY2
  go_wp2_with fail
  with_reducible refine HCM.out.mono ?_
  rintro e w3 ⟨hkp, hcase⟩
  have HW3 := Lib.hid (HWM.out.trans (hkp.low.mono hws))
  clear hkp HN1 HN2 HMS HCM
  rcases hcase with ⟨bs, ht, rfl, hm3⟩ | ⟨ht, rfl⟩
  · have HR := Lib.hid (maR_of HOK.out HOK'.out ht)
    obtain ⟨i1, i2, i3, i4, i5⟩ := maR_in HR.out
    have HFIT := Lib.hid (fits_of i1 i2)
    have HC := Lib.hid (binds_any bs w2.heap.size 16 w3 hm3 i1 i4 (i2.mono (by omega)))
    clear ht hm3 i1 i2 i3 i4 i5
    go_wp2_with fail
    with_reducible refine HC.out.mono ?_
    rintro e w4 ⟨hb4, hc4⟩
    rcases hc4 with ⟨_, A, C, rfl, ho⟩ | ⟨hno, _⟩
    · have HP : Hid (MaPost s v k s' v' k' w (.returned (.tuple #[.slice A bs.length C, .bool true])) w4) := ⟨A, C, bs, true, HR.out, rfl, below_next HW3.out hb4, ho.bsl.mono (Nat.zero_le _) (Nat.le_refl _)⟩
      clear hb4 ho
      go_wp2_with fail
      refine bodyPost_ret (v := .tuple #[.slice A bs.length C, .bool true]) ?_ rfl HP.out
      simp [results, Try.results29, go_sem]
    · rw [HFIT.out] at hno; cases hno
  · have HP : Hid (MaPost s v k s' v' k' w (.returned (.tuple #[.slice none 0 0, .bool false])) w3) := ma_none (maR_no ht) HW3.out
    clear ht
    go_wp2_with fail
    refine bodyPost_ret (v := .tuple #[.slice none 0 0, .bool false]) ?_ rfl HP.out
    simp [results, Try.results29, go_sem]

end Go.Proofs.Ytpfkhgiiojikbaa

/-! DSz: DrawSubstDo, its terms without marks. -/
namespace Go.Proofs.Ytpfkhgiiojikbaa
open Go.RowKit Go.Deep

def ferB (x : Bd) : Bd := (x.1, x.2.1, x.2.2.1, fer x.2.2.2)
theorem BSl.ferB {w : World} {lo B : Nat} {a : Option Addr} {bs : List Bd} (h : BSl w lo B a bs) : BSl w lo B a (bs.map ferB) := by
  rcases h with rfl | ⟨b, o, e, h1, h2, h3⟩
  · exact .inl rfl
  · refine .inr ⟨b, o, e, h1, h2, fun i x hx => ?_⟩
    rw [List.getElem?_map] at hx
    obtain ⟨y, hy, rfl⟩ := Option.map_eq_some_iff.1 hx
    obtain ⟨a', c', c0, c1, c2, c3, hl⟩ := h3 i y hy
    exact ⟨a', c', c0, c1, c2, by rw [show flen (Proofs.Ytpfkhgiiojikbaa.ferB y).2.2.2 = flen y.2.2.2 from fer_len _]; exact c3, hl.fer⟩
def DsdPostZ (w : World) (e : Ending) (w' : World) : Prop :=
  ∃ bs A C s v a c k, e = .returned (.tuple #[.slice A (List.length bs) C, .agg #[.int .i64 s, .int .i64 v, .slice a (flen k) c]]) ∧ bs.length ≤ 20 ∧ 1 + fsz k ≤ 31000 ∧ (∀ x t, sv bs x = some t → Zf t.2.2) ∧ Below w.heap.size w w' ∧ BSl w' w.heap.size w'.heap.size A bs ∧ Sl w' w.heap.size w'.heap.size a k
theorem DrawSubstDo_z (a : Option Addr) (len cap : Nat) (w : World) (hby : Bytes w a len) (hlen : len ≤ cap) :
    Calls Try.prog 14 #[.slice a len cap] w (DsdPostZ w) := by
  refine (DrawSubstDo_any a len cap w hby hlen).mono ?_
  rintro e w' ⟨bs, A, C, s, v, a, c, k, rfl, h1, h2, hb, hi, hl⟩
  refine ⟨bs.map ferB, A, C, s, v, a, c, k, by rw [List.length_map], by rw [List.length_map]; exact h1, h2, fun x t ht => ?_, hb, hi.ferB, hl⟩
  obtain ⟨y, _, hy⟩ := List.mem_map.1 (mem_sv ht)
  have : t = (y.2.1, y.2.2.1, fer y.2.2.2) := (congrArg Prod.snd hy).symm
  rw [this]
  exact zf_fer _
end Go.Proofs.Ytpfkhgiiojikbaa
