/- Several texts in one: UL, B3, LSu, SOk, THs, THi, V4b, V4, V5d, V5. -/
import Derived.Test.YtpfkhgiiojikbaaGreatKUn16
import Derived.Test.YtpfkhgiiojikbaaGreatKUn28
import Derived.Test.YtpfkhgiiojikbaaGreatKUn4
import Derived.Test.YtpfkhgiiojikbaaGreatKUn1
import Derived.Test.YtpfkhgiiojikbaaGreatKUn15
import Derived.Test.YtpfkhgiiojikbaaGreatKUn5
import Derived.Test.YtpfkhgiiojikbaaGreatKUn17
import Derived.Test.YtpfkhgiiojikbaaGreatKUn23
import Derived.Test.YtpfkhgiiojikbaaGreatKUn25
import Derived.Test.YtpfkhgiiojikbaaGreatKUn20
import Derived.Test.YtpfkhgiiojikbaaGreatKUn13
import Derived.Test.YtpfkhgiiojikbaaGreatKUn7
import Derived.Test.YtpfkhgiiojikbaaGreatKUn11

/-! UL: What the laws of unification want of the answers. Plain lemmas. -/
namespace Go.Proofs.YtpfkhgiiojikbaaGreat
open Go.RowKit Go.Deep

theorem sok_le {us : List Bd} (h : sok 16 us = true) (x : Int) : sz (ap (sv us) (vT x)) ≤ 16 := by
  cases hs : sv us x with
  | some t =>
    rw [ap_var hs]
    have := (okW_iff _ _ _ _).1 (sok_sv h hs).2.2
    simp only [sz]; omega
  | none => rw [ap_none hs]; simp [sz, vT, fsz]
/-- What makes two terms the same goes by what is told. -/
theorem un_of {us : List Bd} {s v : Int} {k : Fo} {s' v' : Int} {k' : Fo} (hu : sok 16 us = true) (h1 : okW s v k 16 = true) (h2 : okW s' v' k' 16 = true) (he : ap (sv us) (s, v, k) = ap (sv us) (s', v', k')) (hz : sz (ap (sv us) (s, v, k)) ≤ 16) :
    ∃ bs, unR s v k s' v' k' = (bs, true) ∧ Ag (sv us) bs ∧ Wb 16 bs := by
  obtain ⟨bs, h3, hw, hg⟩ := unT_done (lim := 16) (sok_le hu) 600 [] (s, v, k) (s', v', k') (Wb.nil 16) (okT_w h1) (okT_w h2) (Ag.nil _) he (by omega)
  refine ⟨bs, unR_some h1 h2 (uniR_some.2 ⟨h3, ?_⟩), hg, hw⟩
  have h4 := sz_more (sv us) (hw.okA (okT_w h1))
  rw [hg _ (okT_w h1)] at h4
  omega
theorem un_in {s v : Int} {k : Fo} {s' v' : Int} {k' : Fo} {bs : List Bd} (h : unR s v k s' v' k' = (bs, true)) (hk : Zf k) (hk' : Zf k') : okW s v k 16 = true ∧ okW s' v' k' 16 = true ∧ Wb 16 bs ∧ Bz bs ∧ ap (sv bs) (s, v, k) = ap (sv bs) (s', v', k') ∧ sz (ap (sv bs) (s, v, k)) ≤ 16 ∧ unT 16 600 [] (s, v, k) (s', v', k') = some bs := by
  rcases unR_cases h with ⟨h, _⟩ | ⟨_, h1, h2, h3⟩
  · cases h
  obtain ⟨h4, h5⟩ := uniR_some.1 h3
  obtain ⟨hw, hz, _, he⟩ := unT_same (lim := 16) 600 [] _ _ bs (Wb.nil 16) (fun _ _ h => by simp [sv] at h) (okT_w h1) (okT_w h2) hk hk' h4
  exact ⟨h1, h2, hw, hz, he, h5, h4⟩
theorem un_small {s v : Int} {k : Fo} {s' v' : Int} {k' : Fo} {bs : List Bd} {t : Bool} (h : unR s v k s' v' k' = (bs, t)) : bs.length ≤ 100 ∧ ∀ x ∈ bs, fsz x.2.2.2 ≤ 1000000 := by
  rcases unR_cases h with ⟨_, rfl⟩ | ⟨_, h1, h2, h3⟩
  · exact ⟨Nat.zero_le _, fun x hx => by cases hx⟩
  · have hw := uniR_wb (okT_w h1) (okT_w h2) h3
    refine ⟨by have := hw.len; omega, fun x hx => ?_⟩
    have := hw.small _ _ (sv_mem hw.asc hx)
    simp only [sz] at this; omega
theorem un_ok {s v : Int} {k : Fo} {s' v' : Int} {k' : Fo} {bs : List Bd} (h : unR s v k s' v' k' = (bs, true)) : sok 16 bs = true ∧ okW s v k 16 = true ∧ okW s' v' k' 16 = true ∧ sz (ap (sv bs) (s, v, k)) ≤ 16 := by
  rcases unR_cases h with ⟨h, _⟩ | ⟨_, h1, h2, h3⟩
  · cases h
  · exact ⟨(uniR_wb (okT_w h1) (okT_w h2) h3).sok, h1, h2, (uniR_some.1 h3).2⟩
/-- P33. -/
theorem un_both {s v : Int} {k : Fo} {s' v' : Int} {k' : Fo} {bs : List Bd} (h : unR s v k s' v' k' = (bs, true)) (hk : Zf k) (hk' : Zf k') : ∃ sx vx kx, sdR bs s v k = (sx, vx, kx, true) ∧ sdR bs s' v' k' = (sx, vx, kx, true) := by
  obtain ⟨h1, h2, hw, _, he, hz, _⟩ := un_in h hk hk'
  refine ⟨(ap (sv bs) (s, v, k)).1, (ap (sv bs) (s, v, k)).2.1, (ap (sv bs) (s, v, k)).2.2, sdR_of hw.sok h1 rfl (by simp only [sz] at hz; omega), sdR_of hw.sok h2 ?_ (by simp only [sz] at hz; omega)⟩
  rw [he]; rfl
theorem ap_sdR {bs : List Bd} {s v : Int} {k : Fo} {sx vx : Int} {kx : Fo} (h : sdR bs s v k = (sx, vx, kx, true)) : ap (sv bs) (s, v, k) = (sx, vx, kx) ∧ sok 16 bs = true ∧ okW s v k 16 = true ∧ okW sx vx kx 16 = true := by
  rcases sdR_cases h with ⟨h, _⟩ | ⟨_, h1, h2, h3, h4⟩
  · cases h
  · exact ⟨h3, h1, h2, h4⟩
/-- P34. -/
theorem un_most {us : List Bd} {s v : Int} {k : Fo} {s' v' : Int} {k' : Fo} {sx vx : Int} {kx : Fo} (h1 : sdR us s v k = (sx, vx, kx, true)) (h2 : sdR us s' v' k' = (sx, vx, kx, true)) :
    ∃ bs, unR s v k s' v' k' = (bs, true) ∧ ∃ sm vm km, sdR bs s v k = (sm, vm, km, true) ∧ ∃ b2, maR sm vm km sx vx kx = (b2, true) := by
  obtain ⟨e1, hu, o1, ox⟩ := ap_sdR h1
  obtain ⟨e2, _, o2, _⟩ := ap_sdR h2
  obtain ⟨bs, h3, hg, hw⟩ := un_of hu o1 o2 (e1.trans e2.symm) (by rw [e1]; exact sz_w ox)
  obtain ⟨hso, _, _, hz⟩ := un_ok h3
  have hom := w_sz (hw.okA (okT_w o1)) hz
  refine ⟨bs, h3, _, _, _, sdR_of hso o1 rfl (by simp only [sz] at hz; exact hz), ?_⟩
  have e3 := hg _ (okT_w o1)
  rw [e1] at e3
  obtain ⟨b2, hb2, _⟩ := ma_made (σ := sv us) hom ox (by exact e3)
  exact ⟨b2, hb2⟩
/-- P36. -/
theorem un_self {s v : Int} {k : Fo} (h : okW s v k 16 = true) : unR s v k s v k = ([], true) := by
  refine unR_some h h (uniR_some.2 ⟨?_, ?_⟩)
  · rw [show (600 : Nat) = 599 + 1 from rfl, unT_succ, if_pos (tq_rfl _)]
  · have : ap (sv []) (s, v, k) = (s, v, k) := tsub_nil _ _ _
    rw [this]; exact sz_w h
/-- P37. -/
theorem un_twice {s v : Int} {k : Fo} {s' v' : Int} {k' : Fo} {bs : List Bd} (h : unR s v k s' v' k' = (bs, true)) : thR bs bs = (bs, true) ∧ ∀ x ∈ bs, x.1 ∉ vr (ap (sv bs) (s, v, k)) := by
  rcases unR_cases h with ⟨h, _⟩ | ⟨_, h1, h2, h3⟩
  · cases h
  have hw := uniR_wb (okT_w h1) (okT_w h2) h3
  have e : thL bs bs = bs := asc_ext (thL_asc hw.asc hw.asc) hw.asc fun x => by
    rw [thL_sv hw.asc hw.asc]
    cases hs : sv bs x with
    | none => rw [thS_none hs, hs]
    | some t =>
      rw [thS_some hs]
      exact congrArg some (tsub_id (hw.free x t hs))
  constructor
  · unfold thR
    have hs := hw.sok
    rw [if_pos ⟨hs, hs, by rw [← th_sok hs hs, e]; exact hs⟩, e]
  · intro x hx hm
    have := hw.free_ap (okT_w h1) x.1 hm
    rw [sv_mem hw.asc hx] at this
    cases this
/-- P38. -/
theorem un_match {s v : Int} {k : Fo} {s' v' : Int} {k' : Fo} {bs : List Bd} (h : maR s v k s' v' k' = (bs, true)) (hk : Zf k) (hk' : Zf k') (hd : ∀ x ∈ tvR s v k, x ∉ tvR s' v' k') : ∃ us, unR s v k s' v' k' = (us, true) := by
  have hs := (ma_sub h hk hk').2
  rcases maR_cases h with ⟨h, _⟩ | ⟨_, h1, h2, h3⟩
  · cases h
  obtain ⟨_, _, _, _, hso⟩ := maR_in h
  have hvs := ma_vars h
  have e2 : ap (sv bs) (s', v', k') = (s', v', k') := tsub_id fun x hx => by
    cases hb : sv bs x with
    | none => rfl
    | some t =>
      exfalso
      have hm : x ∈ tvR s v k := by rw [← hvs]; exact sv_some.1 (by rw [hb]; rfl)
      refine hd x hm ?_
      have hin := fvs_in h2 x hx
      unfold tvR
      rw [if_pos h2]
      exact (among_mem _ _ _).2 ⟨hx, hin.1, by omega⟩
  have e1 : ap (sv bs) (s, v, k) = (s', v', k') := hs
  obtain ⟨us, hu, _⟩ := un_of hso h1 h2 (e1.trans e2.symm) (by rw [e1]; exact sz_w h2)
  exact ⟨us, hu⟩
/-- P39. -/
theorem un_occ {x s v : Int} {k : Fo} {bs : List Bd} {t : Bool} (h : unR 0 x .nil s v k = (bs, t)) (hx : 0 ≤ x ∧ x ≤ 11) (ho : okW s v k 16 = true) (hs : s ≠ 0) (hk : Zf k) : t = !decide (x ∈ fvs s v k) := by
  have hov : okW 0 x .nil 16 = true := w_sz (okT_var hx) (by simp [sz, vT, fsz])
  by_cases hm : x ∈ fvs s v k
  · rw [decide_eq_true hm]
    cases t with
    | false => rfl
    | true =>
      exfalso
      obtain ⟨_, _, _, _, he, _, _⟩ := un_in h rfl hk
      have := vr_sz (okT_w ho) hm he
      simp only [vT, Prod.mk.injEq] at this
      exact hs this.1
  · rw [decide_eq_false hm]
    have hso : sok 16 [(x, s, v, k)] = true := sok_iff.2 ⟨asc_one x (s, v, k), fun y hy => by
      simp only [List.mem_singleton] at hy
      subst hy
      exact ⟨by dsimp only; omega, by dsimp only; omega, ho⟩⟩
    have e1 : ap (sv [(x, s, v, k)]) (0, x, .nil) = (s, v, k) := ap_one_self x (s, v, k)
    have e2 : ap (sv [(x, s, v, k)]) (s, v, k) = (s, v, k) := ap_one_out hm
    obtain ⟨us, hu, _⟩ := un_of hso hov ho (e1.trans e2.symm) (by rw [e1]; exact sz_w ho)
    rw [hu] at h
    simp only [Prod.mk.injEq] at h
    rw [← h.2]; rfl
/-- P40. -/
theorem un_parts {s v : Int} {k : Fo} {s' v' : Int} {k' : Fo} {bs : List Bd} (h : unR s v k s' v' k' = (bs, true)) (hk : Zf k) (hk' : Zf k') (hs : s ≠ 0) (hs' : s' ≠ 0) : s = s' ∧ ∀ (j x y x' y' : Nat) (s1 v1 : Int) (k1 r : Fo) (s2 v2 : Int) (k2 r2 : Fo), fdrop j k = .node x y (s1, v1) k1 r → fdrop j k' = .node x' y' (s2, v2) k2 r2 → ∃ us, unR s1 v1 k1 s2 v2 k2 = (us, true) := by
  obtain ⟨h1, h2, hw, _, he, hz, _⟩ := un_in h hk hk'
  rw [ap_sym (t := (s, v, k)) hs, ap_sym (t := (s', v', k')) hs'] at he
  simp only [Prod.mk.injEq] at he
  refine ⟨he.1, fun j x y x' y' s1 v1 k1 r s2 v2 k2 r2 hd hd' => ?_⟩
  have e1 := fsub_at (sv bs) j k hd
  have e2 := fsub_at (sv bs) j k' hd'
  rw [← he.2.2, e1] at e2
  simp only [BT.node.injEq, Prod.mk.injEq] at e2
  have e3 : ap (sv bs) (s1, v1, k1) = ap (sv bs) (s2, v2, k2) := Prod.ext e2.2.2.1.1 (Prod.ext e2.2.2.1.2 e2.2.2.2.1)
  have c1 := fok_kid ((okW_iff _ _ _ _).1 h1).2.1 hd
  have c2 := fok_kid ((okW_iff _ _ _ _).1 h2).2.1 hd'
  have z1 := fsz_kid hd
  have z2 := fsz_kid hd'
  have y1 := ((okW_iff _ _ _ _).1 h1).2.2
  have y2 := ((okW_iff _ _ _ _).1 h2).2.2
  have z3 := fsz_kid e1
  rw [ap_sym (t := (s, v, k)) hs] at hz
  simp only [sz] at hz
  obtain ⟨us, hu, _⟩ := un_of hw.sok ((okW_iff _ _ _ _).2 ⟨c1.1, c1.2, by omega⟩) ((okW_iff _ _ _ _).2 ⟨c2.1, c2.2, by omega⟩) e3 (by
    have e4 : (ap (sv bs) (s1, v1, k1)).2.2 = (tsub (sv bs) s1 v1 k1).2.2 := rfl
    simp only [sz]; rw [e4]; omega)
  exact ⟨us, hu⟩

/-- What changes nothing leaves each variable. -/
theorem fsub_fix {υ : Int → Option T3} : ∀ k : Fo, fok k = true → fsub υ k = k → ∀ x ∈ fvl k, ap υ (vT x) = vT x
  | .nil, _, _, x, hx => by simp [fvl] at hx
  | .node a b p k r, ho, h, x, hx => by
    simp only [fok, Bool.and_eq_true] at ho
    rw [fsub_sign] at h
    simp only [BT.node.injEq] at h
    obtain ⟨_, _, h1, h2, h3⟩ := h
    simp only [fvl, List.mem_append] at hx
    rcases hx with hx | hx
    · by_cases e : p.1 = 0
      · rw [if_pos e] at hx
        simp only [List.mem_singleton] at hx
        subst hx
        have hk : k = .nil := kids_none (v := p.2) (by rw [← e]; exact ho.1.1)
        subst hk
        have h4 : ap υ (vT p.2) = tsub υ p.1 p.2 .nil := by rw [e]; rfl
        rw [h4]
        have h5 : p = (0, p.2) := Prod.ext e rfl
        refine Prod.ext ?_ (Prod.ext ?_ h2)
        · have := congrArg Prod.fst h1; dsimp only at this; rw [this]; exact e
        · have := congrArg Prod.snd h1; dsimp only at this; rw [this]; rfl
      · rw [if_neg e] at hx
        rw [tsub_sym e] at h2
        exact fsub_fix k ho.1.2 h2 x hx
    · exact fsub_fix r ho.2 h3 x hx
theorem ap_fix {υ : Int → Option T3} {t : T3} (ho : okT t) (h : ap υ t = t) : ∀ x ∈ vr t, ap υ (vT x) = vT x := fun x hx => by
  by_cases e : t.1 = 0
  · have h0 := okT_zero ho e
    rw [h0.1, vr_var] at hx
    simp only [List.mem_singleton] at hx
    rw [hx, ← h0.1]; exact h
  · unfold vr fvs at hx
    rw [if_neg e] at hx
    rw [ap_sym e] at h
    exact fsub_fix t.2.2 ho.2 (congrArg (fun u : T3 => u.2.2) h) x hx
/-- Names of variables that are named anew. -/
theorem nmL_map {ρ : Int → Int} {X : List Int} (hinj : ∀ x ∈ X, ∀ y ∈ X, ρ x = ρ y → x = y) : ∀ (xs : List Int) (bs cs : List Bd), (∀ x ∈ xs, x ∈ X) → bs.length = cs.length → (∀ x ∈ X, sv cs (ρ x) = sv bs x) → (∀ x ∈ X, sv (nmL cs (xs.map ρ)) (ρ x) = sv (nmL bs xs) x)
  | [], _, _, _, _, h => h
  | y :: xs, bs, cs, hx, hl, h => by
    have hy := hx y (List.mem_cons_self ..)
    simp only [List.map_cons, nmL]
    refine nmL_map hinj xs (nm1 bs y) (nm1 cs (ρ y)) (fun x hh => hx x (List.mem_cons_of_mem _ hh)) ?_ ?_
    · cases hb : sv bs y with
      | some t => rw [nm1_some hb, nm1_some ((h y hy).trans hb), hl]
      | none => rw [nm1_none hb, nm1_none ((h y hy).trans hb), ladd_len, ladd_len, hl]
    · intro x hxX
      cases hb : sv bs y with
      | some t => rw [nm1_some hb, nm1_some ((h y hy).trans hb)]; exact h x hxX
      | none =>
        rw [nm1_none hb, nm1_none ((h y hy).trans hb), sv_ladd (b := (y, 0, (bs.length : Int), .nil)) hb, sv_ladd (b := (ρ y, 0, (cs.length : Int), .nil)) ((h y hy).trans hb), hl]
        dsimp only
        by_cases e : y = x
        · rw [if_pos e, if_pos (by rw [e])]
        · rw [if_neg e, if_neg (fun e2 => e (hinj y hy x hxX e2))]; exact h x hxX
/-- Two terms of which each is the other one with something put in have the same plain term. -/
theorem plain_both {σ τ : Int → Option T3} {s v : Int} {k : Fo} {s' v' : Int} {k' : Fo} (hσ : ∀ x t, σ x = some t → okT t) (h1 : okW s v k 16 = true) (h2 : okW s' v' k' 16 = true) (e1 : ap σ (s, v, k) = (s', v', k')) (e2 : ap τ (s', v', k') = (s, v, k)) : (plR s v k).1 = (plR s' v' k').1 := by
  have ho := okT_w h1
  have hυ : ap (thS σ τ) (s, v, k) = (s, v, k) := by rw [← ap_th, e1, e2]
  have hfix := ap_fix ho hυ
  have hrng : ∀ x ∈ vr (s, v, k), 0 ≤ x ∧ x ≤ 11 := fun x hx => by have := fvs_in h1 x hx; omega
  have hvar : ∀ x ∈ vr (s, v, k), ap σ (vT x) = vT (ap σ (vT x)).2.1 ∧ ap τ (vT (ap σ (vT x)).2.1) = vT x := fun x hx => by
    have h3 := hfix x hx
    rw [← ap_th] at h3
    have h4 : (ap σ (vT x)).1 = 0 := by
      by_cases e : (ap σ (vT x)).1 = 0
      · exact e
      · rw [ap_sym e] at h3
        exact absurd (congrArg Prod.fst h3) e
    have h5 := (okT_zero (ap_ok hσ (okT_var (hrng x hx))) h4).1
    rw [h5] at h3
    exact ⟨h5, h3⟩
  let ρ : Int → Int := fun x => (ap σ (vT x)).2.1
  have hinj : ∀ x ∈ vr (s, v, k), ∀ y ∈ vr (s, v, k), ρ x = ρ y → x = y := fun x hx y hy e => by
    have a1 := (hvar x hx).2
    have a2 := (hvar y hy).2
    have e3 : (ap σ (vT x)).2.1 = (ap σ (vT y)).2.1 := e
    rw [e3, a2] at a1
    simp only [vT, Prod.mk.injEq, true_and, and_true] at a1
    exact a1.symm
  have hnames : fvs s' v' k' = (fvs s v k).map ρ := by
    by_cases e : s = 0
    · have h0 := okT_zero ho e
      have hm : v ∈ vr (s, v, k) := by rw [h0.1]; exact List.mem_singleton.2 rfl
      have e3 : ap σ (vT v) = (s', v', k') := by
        have : (s, v, k) = vT v := h0.1
        rw [this] at e1; exact e1
      have e4 := (hvar v hm).1
      rw [e3] at e4
      simp only [vT, Prod.mk.injEq] at e4
      unfold fvs
      rw [if_pos e, if_pos e4.1]
      show [v'] = [ρ v]
      have : ρ v = v' := by show (ap σ (vT v)).2.1 = v'; rw [e3]
      rw [this]
    · have e3 := e1
      rw [ap_sym (t := (s, v, k)) e] at e3
      simp only [Prod.mk.injEq] at e3
      have hs' : s' ≠ 0 := by rw [← e3.1]; exact e
      have hv : ∀ x ∈ fvl k, x ∈ vr (s, v, k) := fun x hx => by unfold vr fvs; rw [if_neg e]; exact hx
      have hc : fsub (fun x => some (ap σ (vT x))) k = fsub σ k := fsub_congrV k ho.2 fun x _ => ap_var rfl
      have hn := fvl_names (σ := fun x => some (ap σ (vT x))) k fun x hx => ⟨_, rfl, by rw [(hvar x (hv x hx)).1]; rfl⟩
      rw [hc, e3.2.2] at hn
      unfold fvs
      rw [if_neg e, if_neg hs', hn]
      refine List.map_congr_left fun x _ => ?_
      show (tsub _ 0 x .nil).2.1 = _
      rw [tsub_var rfl rfl]
  have hnm : ∀ x ∈ vr (s, v, k), sv (nms s' v' k') (ρ x) = sv (nms s v k) x := by
    unfold nms
    rw [hnames]
    exact nmL_map (X := vr (s, v, k)) hinj (fvs s v k) [] [] (fun x hx => hx) rfl (fun _ _ => rfl)
  unfold plR
  rw [if_pos h1, if_pos h2]
  show ap (sv (nms s v k)) (s, v, k) = ap (sv (nms s' v' k')) (s', v', k')
  rw [← e1, ap_th]
  refine ap_congrV ho fun x hx => ?_
  rw [← ap_th, (hvar x hx).1]
  have h6 := hnm x hx
  show tsub _ 0 x .nil = tsub _ 0 (ρ x) .nil
  rw [tsub0, tsub0, h6]
  have h7 : (sv (nms s v k) x).isSome = true := ((nms_in h1).2.2.1 x).2 hx
  cases hs : sv (nms s v k) x with
  | none => rw [hs] at h7; cases h7
  | some t => rfl
/-- P35. -/
theorem un_turn {s v : Int} {k : Fo} {s' v' : Int} {k' : Fo} {bs us : List Bd} {t u : Bool} (h : unR s v k s' v' k' = (bs, t)) (h' : unR s' v' k' s v k = (us, u)) (hk : Zf k) (hk' : Zf k') : u = t ∧ (t = true → ∃ s1 v1 k1 s2 v2 k2, sdR bs s v k = (s1, v1, k1, true) ∧ sdR us s v k = (s2, v2, k2, true) ∧ (plR s1 v1 k1).1 = (plR s2 v2 k2).1) := by
  have key : ∀ {s v : Int} {k : Fo} {s' v' : Int} {k' : Fo} {bs : List Bd}, unR s v k s' v' k' = (bs, true) → Zf k → Zf k' → ∃ us, unR s' v' k' s v k = (us, true) ∧ Ag (sv bs) us := fun {s v k s' v' k' bs} h hk hk' => by
    obtain ⟨h1, h2, hw, _, he, hz, _⟩ := un_in h hk hk'
    obtain ⟨us, hu, hg, _⟩ := un_of hw.sok h2 h1 he.symm (by rw [← he]; exact hz)
    exact ⟨us, hu, hg⟩
  cases t with
  | false =>
    cases u with
    | false => exact ⟨rfl, fun h => by cases h⟩
    | true =>
      obtain ⟨b2, hb2, _⟩ := key h' hk' hk
      rw [h] at hb2
      simp only [Prod.mk.injEq] at hb2
      cases hb2.2
  | true =>
    obtain ⟨us', hu', hg⟩ := key h hk hk'
    rw [hu'] at h'
    simp only [Prod.mk.injEq] at h'
    obtain ⟨rfl, rfl⟩ := h'
    refine ⟨rfl, fun _ => ?_⟩
    obtain ⟨bs2, hb2, hg2⟩ := key hu' hk' hk
    rw [h] at hb2
    simp only [Prod.mk.injEq, and_true] at hb2
    subst hb2
    obtain ⟨h1, h2, hw, _, he, hz, _⟩ := un_in h hk hk'
    obtain ⟨_, _, hw2, _, he2, hz2, _⟩ := un_in hu' hk' hk
    have hz3 : sz (ap (sv us') (s, v, k)) ≤ 16 := by rw [← he2]; exact hz2
    have o1 := w_sz (hw.okA (okT_w h1)) hz
    have o2 := w_sz (hw2.okA (okT_w h1)) hz3
    have g1 := hg2 _ (okT_w h1)
    have g2 := hg _ (okT_w h1)
    refine ⟨_, _, _, _, _, _, sdR_of hw.sok h1 rfl (by simp only [sz] at hz; exact hz), sdR_of hw2.sok h1 rfl (by simp only [sz] at hz3; exact hz3), ?_⟩
    exact plain_both (σ := sv us') (τ := sv bs) hw2.ok o1 o2 (by exact g1) (by exact g2)
end Go.Proofs.YtpfkhgiiojikbaaGreat

/-! B3: laTerm: what is the same comes out the same. -/
namespace Go.Proofs.YtpfkhgiiojikbaaGreat
open Go.RowKit Go.Deep

theorem two_boxes {w wr : World} {x y z x' y' z' : Value} (h : Below (w.heap.size + 2) ((w.alloc (.cells #[x, y, z] 25)).alloc (.cells #[x', y', z'] 25)) wr) :
    wr.cell? ⟨w.heap.size, 2, none⟩ = some z ∧ wr.cell? ⟨w.heap.size + 1, 2, none⟩ = some z' := by
  refine ⟨?_, ?_⟩
  · rw [h.cell (by simp), World.cell?_alloc_lt _ _ _ (by simp), World.cell?_alloc_at _ _ _ _ (by simp)]; rfl
  · rw [h.cell (by simp), World.cell?_alloc_at _ _ _ _ (by simp)]; rfl

set_option maxRecDepth 100000 in
set_option maxHeartbeats 1000000 in
theorem laTerm_same (N : Nat) : ∀ (s v : Int) (a a' : Option Addr) (c c' : Nat) (k : Fo) (w : World), Sl w 0 w.heap.size a k → Sl w 0 w.heap.size a' k → fsz k ≤ N → N ≤ 1000000 →
    Calls Tryz.prog 30 #[.agg #[.int .i64 s, .int .i64 v, .slice a (flen k) c], .agg #[.int .i64 s, .int .i64 v, .slice a' (flen k) c']] w fun e w' => e = .returned (.bool true) ∧ Below w.heap.size w w' := by
  induction N using Nat.strongRecOn with
  | _ N ih =>
    intro s v a a' c c' k w hl hl' hN hN2
    have hfl := flen_le_sz k
    have IH := Lib.hid ih
    clear ih
    have e0 : (s != s) = false := by simp
    have e1 : (v != v) = false := by simp
    have e2 : ((flen k : Int) != (flen k : Int)) = false := by simp
    have hb0 : Below w.heap.size w ((w.alloc (.cells #[.int .i64 s, .int .i64 v, .slice a (flen k) c] 25)).alloc (.cells #[.int .i64 s, .int .i64 v, .slice a' (flen k) c'] 25)) := ((Below.refl _ _).alloc (Nat.le_refl _) _).alloc (by simp) _
    have HB0 := Lib.hid hb0
    clear hb0
    go_enter Tryz.func30, Tryz.ntmps30
    go_wp2_with fail
    go_loopw [5] (fun i wr => ∃ j : Nat, j ≤ flen k ∧ i = .int .i64 j ∧ Below (w.heap.size + 2) ((w.alloc (.cells #[.int .i64 s, .int .i64 v, .slice a (flen k) c] 25)).alloc (.cells #[.int .i64 s, .int .i64 v, .slice a' (flen k) c'] 25)) wr) (fun i _ => flen k - (intOf i).toNat)
    case atStart => exact ⟨0, by omega, rfl, Below.refl _ _⟩
    case round =>
      obtain ⟨j, hj, rfl, hbl⟩ := hrel
      have hsr := hbl.size
      simp at hsr
      obtain ⟨hx2, hy2⟩ := two_boxes hbl
      have hbw := HB0.out.trans (hbl.mono (show w.heap.size ≤ w.heap.size + 2 by omega))
      by_cases hlt : j < flen k
      · rcases hl with rfl | ⟨b, o, rfl, hrow⟩
        · simp [flen] at hlt
        rcases hl' with rfl | ⟨b', o', rfl, hrow'⟩
        · simp [flen] at hlt
        obtain ⟨s1, v1, kk, a1, c1, ⟨x, y, hd⟩, _, hbB, hk0, hk1, hk2, hsl⟩ := row_at (hrow.below hbw) hlt
        obtain ⟨s2, v2, kk2, a2, c2, ⟨x2, y2, hd2⟩, _, hbB', hk3, hk4, hk5, hsl2⟩ := row_at (hrow'.below hbw) hlt
        have hdd := hd.symm.trans hd2
        simp only [BT.node.injEq, Prod.mk.injEq] at hdd
        obtain ⟨_, _, ⟨rfl, rfl⟩, rfl, _⟩ := hdd
        have hkN := fsz_kid hd
        have HS := Lib.hid hsl
        have HS2 := Lib.hid hsl2
        have HBL := Lib.hid hbl
        clear hd hd2 hsl hsl2 hrow hrow' hbl hbw
        have g1 : (0 : Int) ≤ (j : Int) := by omega
        have g2 : (j : Int) < (flen k : Int) := by omega
        have hu0 : ∀ u : After wr.heap.size wr, u.world.cell? ⟨b, o + j * 3, none⟩ = some (.int .i64 s1) := fun u => u.cell (by simp; omega) hk0
        have hu1 : ∀ u : After wr.heap.size wr, u.world.cell? ⟨b, o + j * 3 + 1, none⟩ = some (.int .i64 v1) := fun u => u.cell (by simp; omega) hk1
        have hu2 : ∀ u : After wr.heap.size wr, u.world.cell? ⟨b, o + j * 3 + 2, none⟩ = some (.slice a1 (flen kk) c1) := fun u => u.cell (by simp; omega) hk2
        have hu3 : ∀ u : After wr.heap.size wr, u.world.cell? ⟨b', o' + j * 3, none⟩ = some (.int .i64 s1) := fun u => u.cell (by simp; omega) hk3
        have hu4 : ∀ u : After wr.heap.size wr, u.world.cell? ⟨b', o' + j * 3 + 1, none⟩ = some (.int .i64 v1) := fun u => u.cell (by simp; omega) hk4
        have hu5 : ∀ u : After wr.heap.size wr, u.world.cell? ⟨b', o' + j * 3 + 2, none⟩ = some (.slice a2 (flen kk) c2) := fun u => u.cell (by simp; omega) hk5
        have hu6 : ∀ u : After wr.heap.size wr, u.world.cell? ⟨w.heap.size, 2, none⟩ = some (.slice (some ⟨b, o, none⟩) (flen k) c) := fun u => u.cell (by simp; omega) hx2
        have hu7 : ∀ u : After wr.heap.size wr, u.world.cell? ⟨w.heap.size + 1, 2, none⟩ = some (.slice (some ⟨b', o', none⟩) (flen k) c') := fun u => u.cell (by simp; omega) hy2
        have HCALL : Hid (∀ u : After wr.heap.size wr, Calls Tryz.prog 30 #[.agg #[.int .i64 s1, .int .i64 v1, .slice a1 (flen kk) c1], .agg #[.int .i64 s1, .int .i64 v1, .slice a2 (flen kk) c2]] u.world fun e w' => e = .returned (.bool true) ∧ Below u.world.heap.size u.world w') := fun u => by
          have hu := u.below
          have hus := hu.size
          refine IH.out (fsz kk) (by omega) s1 v1 a1 a2 c1 c2 kk u.world ?_ ?_ (Nat.le_refl _) (by omega)
          · exact (HS.out.below (hu.mono (by omega))).mono (Nat.le_refl _) (by omega)
          · exact (HS2.out.below (hu.mono (by omega))).mono (Nat.le_refl _) (by omega)
        go_wp2_with fail
        refine wp_region_after wr.heap.size (by kernel_rfl) (by kernel_rfl) ?_
        repeat (go_big_quiet_step ((go_at_call 30; exact Calls.after (After.below ‹_›).size (HCALL.out _))))
        refine wpQuiet_nil ?_
        rintro u ⟨⟨_, hu⟩, rfl⟩
        clear hu0 hu1 hu2 hu3 hu4 hu5 hu6 hu7 hk0 hk1 hk2 hk3 hk4 hk5 hx2 hy2
        have HB2 := Lib.hid (HBL.out.trans (hu.mono hsr))
        clear hu
        go_wp2_with fail
        go_roundw
        case rel => exact ⟨j + 1, by omega, by go_num, HB2.out⟩
        case measure => simp [intOf]; omega
      · have HBW := Lib.hid hbw
        clear hbw hbl
        go_wp2_with fail
        go_ret
        exact ⟨rfl, HBW.out⟩
end Go.Proofs.YtpfkhgiiojikbaaGreat

/-! LSu: laSubst on two rows of the same binds. -/
namespace Go.Proofs.YtpfkhgiiojikbaaGreat
open Go.RowKit Go.Deep

set_option maxRecDepth 100000 in
set_option maxHeartbeats 2000000 in
theorem laSubst_same (bs : List Bd) (A B : Option Addr) (ca cb : Nat) (w : World) (hA : BSl w 0 w.heap.size A bs) (hB : BSl w 0 w.heap.size B bs) (hl : bs.length ≤ 1000000) (hz : ∀ x ∈ bs, fsz x.2.2.2 ≤ 1000000) :
    Calls Tryz.prog 8 #[.slice A bs.length ca, .slice B bs.length cb] w fun e w' => e = .returned (.bool true) ∧ Below w.heap.size w w' := by
  have HA := Lib.hid hA
  have HB := Lib.hid hB
  have HZ := Lib.hid hz
  clear hA hB hz
  go_enter Tryz.func8, Tryz.ntmps8
  go_wp2_with fail
  go_loopw [5] (fun i wr => ∃ j : Nat, i = .int .i64 j ∧ j ≤ bs.length ∧ Hid (Below w.heap.size w wr)) (fun i _ => bs.length - (intOf i).toNat)
  case atStart => exact ⟨0, rfl, Nat.zero_le _, Below.refl _ _⟩
  case round =>
    obtain ⟨j, rfl, hj, HW⟩ := hrel
    have hws := HW.out.size
    by_cases hlt : j < bs.length
    · obtain ⟨y, hy⟩ : ∃ y, bs[j]? = some y := ⟨bs[j], List.getElem?_eq_getElem hlt⟩
      obtain ⟨yx, ys, yv, yk⟩ := y
      have hyz := HZ.out _ (List.mem_of_getElem? hy)
      dsimp only at hyz
      have hbr := HA.out.next HW.out
      rcases hbr with hbr | ⟨rb, ro, rfl, _, hbB, hcells⟩
      · subst hbr; simp at hy
      have hbr2 := HB.out.next HW.out
      rcases hbr2 with hbr2 | ⟨rb2, ro2, rfl, _, hbB2, hcells2⟩
      · subst hbr2; simp at hy
      obtain ⟨ya, yc, d0, d1, d2, d3, hsl⟩ := hcells j _ hy
      obtain ⟨ya2, yc2, e0, e1, e2, e3, hsl2⟩ := hcells2 j _ hy
      dsimp only at d0 d1 d2 d3 hsl e0 e1 e2 e3 hsl2
      have g1 : (0 : Int) ≤ (j : Int) := by omega
      have g2 : (j : Int) < (bs.length : Int) := by omega
      have hne : (yx != yx) = false := by simp
      clear hcells hcells2 hy
      have hu0 : ∀ u : After wr.heap.size wr, u.world.cell? ⟨rb, ro + j * 4, none⟩ = some (.int .i64 yx) := fun u => cell_low u.below d0
      have hu1 : ∀ u : After wr.heap.size wr, u.world.cell? ⟨rb, ro + j * 4 + 1, none⟩ = some (.int .i64 ys) := fun u => cell_low u.below d1
      have hu2 : ∀ u : After wr.heap.size wr, u.world.cell? ⟨rb, ro + j * 4 + 1 + 1, none⟩ = some (.int .i64 yv) := fun u => cell_low u.below d2
      have hu3 : ∀ u : After wr.heap.size wr, u.world.cell? ⟨rb, ro + j * 4 + 1 + 2, none⟩ = some (.slice ya (flen yk) yc) := fun u => cell_low u.below d3
      have hu4 : ∀ u : After wr.heap.size wr, u.world.cell? ⟨rb2, ro2 + j * 4, none⟩ = some (.int .i64 yx) := fun u => cell_low u.below e0
      have hu5 : ∀ u : After wr.heap.size wr, u.world.cell? ⟨rb2, ro2 + j * 4 + 1, none⟩ = some (.int .i64 ys) := fun u => cell_low u.below e1
      have hu6 : ∀ u : After wr.heap.size wr, u.world.cell? ⟨rb2, ro2 + j * 4 + 1 + 1, none⟩ = some (.int .i64 yv) := fun u => cell_low u.below e2
      have hu7 : ∀ u : After wr.heap.size wr, u.world.cell? ⟨rb2, ro2 + j * 4 + 1 + 2, none⟩ = some (.slice ya2 (flen yk) yc2) := fun u => cell_low u.below e3
      have HCALL : Hid (∀ u : After wr.heap.size wr, Calls Tryz.prog 30 #[.agg #[.int .i64 ys, .int .i64 yv, .slice ya (flen yk) yc], .agg #[.int .i64 ys, .int .i64 yv, .slice ya2 (flen yk) yc2]] u.world fun e w' => e = .returned (.bool true) ∧ Below u.world.heap.size u.world w') := fun u =>
        laTerm_same (fsz yk) ys yv ya ya2 yc yc2 yk u.world (hsl.next u.below) (hsl2.next u.below) (Nat.le_refl _) (by omega)
      clear hsl hsl2
      go_wp2_with fail
      refine wp_region_after wr.heap.size (by kernel_rfl) (by kernel_rfl) ?_
      repeat (go_big_quiet_step ((go_at_call 30; exact Calls.after (After.below ‹_›).size (HCALL.out _))))
      refine wpQuiet_nil ?_
      rintro u ⟨⟨_, hu⟩, rfl⟩
      have HW2 := Lib.hid (below_next HW.out hu)
      clear hu hu0 hu1 hu2 hu3 hu4 hu5 hu6 hu7 d0 d1 d2 d3 e0 e1 e2 e3
      go_wp2_with fail
      go_roundw
      case rel => exact ⟨j + 1, by go_num, by omega, HW2⟩
      case measure => simp [intOf]; omega
    · go_wp2_with fail
      go_ret
      exact ⟨rfl, HW.out⟩
end Go.Proofs.YtpfkhgiiojikbaaGreat

/-! SOk: - The program's SubstOk; DrawSubstOk; the first binds of a row. -/
namespace Go.Proofs.YtpfkhgiiojikbaaGreat
open Go.RowKit Go.Deep

theorem sokFrom_take {room : Int} : ∀ (bs : List Bd) (last : Int) (n : Nat), sokFrom room last bs = true → sokFrom room last (bs.take n) = true
  | [], _, _, _ => by simp [sokFrom]
  | _ :: _, _, 0, _ => by simp [sokFrom]
  | x :: r, last, n + 1, h => by
    simp only [sokFrom, Bool.and_eq_true, List.take_succ_cons] at h ⊢
    exact ⟨h.1, h.2.1, h.2.2.1, sokFrom_take r x.1 n h.2.2.2⟩
theorem BSl.take {w : World} {lo B : Nat} {A : Option Addr} {bs : List Bd} (h : BSl w lo B A bs) (n : Nat) : BSl w lo B A (bs.take n) := by
  rcases h with rfl | ⟨b, o, e, h1, h2, h3⟩
  · exact .inl (by simp)
  · refine .inr ⟨b, o, e, h1, h2, fun i x hx => h3 i x ?_⟩
    rw [List.getElem?_take] at hx
    split at hx
    · exact hx
    · cases hx
theorem cutB_to {A : Option Addr} {L C n : Nat} (hn : n ≤ L) (hc : L ≤ C) (w : World) : (Instr.slice 28 (.slice A L C) none (some (.int .i64 (n : Int))) none).run Tryz.prog w = .ok (.slice A n C) w := by
  obtain ⟨ti, hti, htz, hts, htb⟩ := Tryz.infoBind
  have hsz : ∀ w : World, (sizeOf (Tryz.prog.elem 28)).run Tryz.prog w = .ok 4 w := fun w => by
    have he : Tryz.prog.elem 28 = 39 := by kernel_rfl
    rw [he]
    simp [sizeOf, typeInfo, hti, hts]
  have hel : Tryz.prog.underlying 28 = some (.slice (Tryz.prog.elem 28)) := by kernel_rfl
  rw [run_slice_h (P := Tryz.prog) w 28 A L C hel .i64 (n : Int) (by omega) (by omega), hsz]
  cases A <;> simp [Result.andThen, sliced, Addr.add]
theorem BOwn.cap {w : World} {base : Nat} {bs : List Bd} {A : Option Addr} {C : Nat} (h : BOwn w base bs A C) : bs.length ≤ C := by
  obtain ⟨xs, hown, _⟩ := h
  rcases hown.2 with ⟨_, h2⟩ | ⟨g, cap, cur, h3, _, _, h6, _⟩
  · omega
  · simp only [Value.slice.injEq] at h3
    omega

def DsoPost (w : World) (e : Ending) (w' : World) : Prop :=
  ∃ bs A C, e = .returned (.slice A (List.length bs) C) ∧ bs.length ≤ 21 ∧ bs.length ≤ C ∧ Below w.heap.size w w' ∧ BSl w' w.heap.size w'.heap.size A bs

end Go.Proofs.YtpfkhgiiojikbaaGreat

/-! THs: - The specification's SubstThen. -/
namespace Go.Proofs.YtpfkhgiiojikbaaGreat
open Go.RowKit Go.Deep

def StPost (bs us : List Bd) (w : World) (e : Ending) (w' : World) : Prop :=
  ∃ A C l t, thR bs us = (l, t) ∧ e = .returned (.tuple #[.slice A (List.length l) C, .bool t]) ∧ Below w.heap.size w w' ∧ BSl w' 0 w'.heap.size A l
theorem st_none {bs us : List Bd} {w w' : World} {A : Option Addr} {C : Nat} (h : thR bs us = ([], false)) (hb : Below w.heap.size w w') : StPost bs us w (.returned (.tuple #[.slice A 0 C, .bool false])) w' :=
  ⟨A, C, [], false, h, rfl, hb, .inl rfl⟩
theorem thR_bad {bs us : List Bd} (h : ¬ (sok 16 bs = true ∧ sok 16 us = true)) : thR bs us = ([], false) := by unfold thR; rw [if_neg fun h2 => h ⟨h2.1, h2.2.1⟩]
theorem sok_small {bs : List Bd} (h : sok 16 bs = true) : bs.length ≤ 12 := by have := sok_len bs (-1) (by omega) h; omega
theorem sok_z {bs : List Bd} (h : sok 16 bs = true) {x : Bd} (hx : x ∈ bs) : okN x.2.1 x.2.2.1 (flen x.2.2.2) = true ∧ fok x.2.2.2 = true ∧ fsz x.2.2.2 ≤ 15 := by
  have := (okW_iff _ _ _ _).1 ((sok_in h).2 x hx).2.2
  exact ⟨this.1, this.2.1, by omega⟩

end Go.Proofs.YtpfkhgiiojikbaaGreat

/-! THi: The program's SubstThen. -/
namespace Go.Proofs.YtpfkhgiiojikbaaGreat
open Go.RowKit Go.Deep Go.Maps

theorem rng_sok {bs : List Bd} (h : sok 16 bs = true) : Rng (sv bs) := fun x t ht => by have := sok_sv h ht; omega
theorem bof_sok {bs : List Bd} (h : sok 16 bs = true) : Bof bs 15 := fun x t ht => by
  have := (okW_iff _ _ _ _).1 (sok_sv h ht).2.2
  exact ⟨this.1, this.2.1, by omega⟩

set_option maxRecDepth 100000 in
set_option maxHeartbeats 2000000 in
theorem iSubstThen_any (bs us : List Bd) (A B : Option Addr) (C D : Nat) (w : World) (hb : BSl w 0 w.heap.size A bs) (hu : BSl w 0 w.heap.size B us) (hbl : bs.length ≤ 9223372036854775807) (hul : us.length ≤ 9223372036854775807) :
    Calls Tryz.prog 9 #[.slice A bs.length C, .slice B us.length D] w (StPost bs us w) := by
  have HB := Lib.hid hb
  have HU := Lib.hid hu
  clear hb hu
  go_enter Tryz.func9, Tryz.ntmps9
  go_wp2_with fail
  with_reducible refine (substOf_any bs A C 16 _ HB.out hbl (by omega) (by omega)).mono ?_
  rintro e w1 ⟨hb1, hcase1⟩
  have HU1 := Lib.hid (HU.out.next hb1)
  have HW1 := Lib.hid hb1
  clear hb1 HB HU
  rcases hcase1 with ⟨hok, b1, rfl, hg1, hm1⟩ | ⟨hok, rfl⟩
  case inr =>
    have HB1 := Lib.hid (thR_bad (bs := bs) (us := us) (fun h => by rw [h.1] at hok; cases hok))
    clear hok
    go_wp2_with fail
    with_reducible refine (substOf_any us B D 16 _ HU1.out hul (by omega) (by omega)).mono ?_
    rintro e w2 ⟨hb2, hcase2⟩
    have HW2 := Lib.hid (below_next HW1.out hb2)
    clear hb2
    have HP : Hid (StPost bs us w (.returned (.tuple #[.slice none 0 0, .bool false])) w2) := st_none HB1.out HW2.out
    rcases hcase2 with ⟨_, b2, rfl, _, _⟩ | ⟨_, rfl⟩
    · go_wp2_with fail
      refine bodyPost_ret (v := .tuple #[.slice none 0 0, .bool false]) ?_ rfl HP.out
      simp [results, Tryz.results9, go_sem]
    · go_wp2_with fail
      refine bodyPost_ret (v := .tuple #[.slice none 0 0, .bool false]) ?_ rfl HP.out
      simp [results, Tryz.results9, go_sem]
  have HOK := Lib.hid hok
  have HM1 := Lib.hid hm1
  clear hok hm1
  go_wp2_with fail
  with_reducible refine (substOf_any us B D 16 _ HU1.out hul (by omega) (by omega)).mono ?_
  rintro e w2 ⟨hb2, hcase2⟩
  have HW2 := Lib.hid (below_next HW1.out hb2)
  have HM2 := Lib.hid (HM1.out.below hb2)
  clear hb2 HM1 HU1
  rcases hcase2 with ⟨hok, b2, rfl, hg2, hm2⟩ | ⟨hok, rfl⟩
  case inr =>
    have HP : Hid (StPost bs us w (.returned (.tuple #[.slice none 0 0, .bool false])) w2) := st_none (thR_bad (bs := bs) (us := us) (fun h => by rw [h.2] at hok; cases hok)) HW2.out
    clear hok
    go_wp2_with fail
    refine bodyPost_ret (v := .tuple #[.slice none 0 0, .bool false]) ?_ rfl HP.out
    simp [results, Tryz.results9, go_sem]
  have HOU := Lib.hid hok
  have HMU := Lib.hid hm2
  clear hok hm2
  have HTH := Lib.hid (th_ok HOK.out HOU.out)
  have HSV := Lib.hid (fun x => thL_sv (bs := bs) (us := us) (sok_in HOK.out).1 (sok_in HOU.out).1 x)
  have HC := Lib.hid (then_any bs us b1 b2 w2 HM2.out HMU.out (rng_sok HOK.out) (rng_sok HOU.out) (fun x t ht => by have := bof_sok HOK.out x t ht; exact ⟨this.1, this.2.1, by omega⟩))
  go_wp2_with fail
  with_reducible refine HC.out.mono ?_
  rintro e w3 ⟨g, rfl, hb3, hf3, _⟩
  have HM3 : Hid (MapIs w3 g (thL bs us)) := hf3.toIs HSV.out
  have HW3 := Lib.hid (below_next HW2.out hb3)
  clear hb3 hf3 HC HM2 HMU
  have HC2 := Lib.hid (binds_any (thL bs us) g 16 w3 HM3.out HTH.out.1 (fun x hx => by
    obtain ⟨t, ht⟩ := Option.isSome_iff_exists.1 hx
    have := HTH.out.2 _ (mem_sv ht); dsimp only at this; omega) (fun x t ht => by
    have := HTH.out.2 _ (mem_sv ht); dsimp only at this; exact ⟨this.2.2.1, this.2.2.2.1, by omega⟩))
  go_wp2_with fail
  with_reducible refine HC2.out.mono ?_
  rintro e w4 ⟨hb4, hcase⟩
  have HW4 := Lib.hid (below_next HW3.out hb4)
  clear hb4 HC2
  rcases hcase with ⟨hf, A4, C4, rfl, hown⟩ | ⟨hf, rfl⟩
  · have HP : Hid (StPost bs us w (.returned (.tuple #[.slice A4 (thL bs us).length C4, .bool true])) w4) :=
      ⟨A4, C4, thL bs us, true, by unfold thR; rw [if_pos ⟨HOK.out, HOU.out, hf⟩], rfl, HW4.out, hown.bsl.mono (Nat.zero_le _) (Nat.le_refl _)⟩
    clear hf hown
    go_wp2_with fail
    refine bodyPost_ret (v := .tuple #[.slice A4 (thL bs us).length C4, .bool true]) ?_ rfl HP.out
    simp [results, Tryz.results9, go_sem]
  · have HP : Hid (StPost bs us w (.returned (.tuple #[.slice none 0 0, .bool false])) w4) := st_none (by unfold thR; rw [if_neg]; rintro ⟨_, _, h⟩; have h2 : fits 16 (thL bs us) = true := h; rw [hf] at h2; cases h2) HW4.out
    clear hf
    go_wp2_with fail
    refine bodyPost_ret (v := .tuple #[.slice none 0 0, .bool false]) ?_ rfl HP.out
    simp [results, Tryz.results9, go_sem]
end Go.Proofs.YtpfkhgiiojikbaaGreat

/-! V4b: laIn: whether a number is among such. -/
namespace Go.Proofs.YtpfkhgiiojikbaaGreat
open Go.RowKit Go.Deep

set_option maxRecDepth 100000 in
set_option maxHeartbeats 1000000 in
theorem laIn_any (xs : List Int) (A : Option Addr) (ca : Nat) (n : Int) (w : World) (hA : ISl w 0 w.heap.size A xs) (hx : xs.length ≤ 2000) :
    Calls Tryz.prog 11 #[.slice A xs.length ca, .int .i64 n] w fun e w' => e = .returned (.bool (decide (n ∈ xs))) ∧ Below w.heap.size w w' := by
  have HA := Lib.hid hA
  clear hA
  go_enter Tryz.func11, Tryz.ntmps11
  go_wp2_with fail
  go_loopw [5] (fun i wr => ∃ j : Nat, j ≤ xs.length ∧ i = .int .i64 j ∧ Hid (n ∈ xs ↔ n ∈ xs.drop j) ∧ Below w.heap.size w wr) (fun i _ => xs.length - (intOf i).toNat)
  case atStart => exact ⟨0, by omega, rfl, by simp [Hid], Below.refl _ _⟩
  case round =>
    obtain ⟨j, hj, rfl, hq, hbl⟩ := hrel
    have hbs := hbl.size
    by_cases hlt : j < xs.length
    · obtain ⟨b, o, rfl, _, hb1, hc⟩ := isl_at (HA.out.below hbl) hlt
      have hq1 := hq.out
      rw [List.drop_eq_getElem_cons hlt] at hq1
      have HQ := Lib.hid hq1
      clear hq hq1
      generalize xs[j] = x at hc HQ
      have g1 : (0 : Int) ≤ (j : Int) := by omega
      have g2 : (j : Int) < (xs.length : Int) := by omega
      by_cases hxn : x = n
      · subst hxn
        have ex : (x == x) = true := by simp
        have HE : Hid (decide (x ∈ xs) = true) := decide_eq_true (HQ.out.2 (by simp))
        go_wp2_with fail
        go_ret
        exact ⟨by rw [HE.out]; rfl, hbl⟩
      · have ex : (x == n) = false := by simpa using hxn
        have HE : Hid (n ∈ xs ↔ n ∈ xs.drop (j + 1)) := by
          have : n ≠ x := fun e => hxn e.symm
          rw [Hid, HQ.out]
          simp [this]
        go_wp2_with fail
        go_roundw
        case rel => exact ⟨j + 1, by omega, by go_num, HE, hbl⟩
        case measure => simp [intOf]; omega
    · have HE : Hid (decide (n ∈ xs) = false) := by
        refine decide_eq_false fun h => ?_
        have := hq.out.1 h
        rw [List.drop_eq_nil_of_le (by omega)] at this
        simp at this
      clear hq
      go_wp2_with fail
      go_ret
      exact ⟨by rw [HE.out]; rfl, hbl⟩
end Go.Proofs.YtpfkhgiiojikbaaGreat

/-! V4: - spec.TermVars. -/
namespace Go.Proofs.YtpfkhgiiojikbaaGreat
open Go.RowKit Go.Deep

theorem one_box3 {w wr : World} {x y z : Value} (h : Below (w.heap.size + 1) (w.alloc (.cells #[x, y, z] 25)) wr) :
    wr.cell? ⟨w.heap.size, 0, none⟩ = some x ∧ wr.cell? ⟨w.heap.size, 1, none⟩ = some y ∧ wr.cell? ⟨w.heap.size, 2, none⟩ = some z := by
  refine ⟨?_, ?_, ?_⟩
  · rw [h.cell (by simp), World.cell?_alloc_at _ _ _ _ (by simp)]; rfl
  · rw [h.cell (by simp), World.cell?_alloc_at _ _ _ _ (by simp)]; rfl
  · rw [h.cell (by simp), World.cell?_alloc_at _ _ _ _ (by simp)]; rfl

end Go.Proofs.YtpfkhgiiojikbaaGreat

/-! V5d: - DrawTermVars. -/
namespace Go.Proofs.YtpfkhgiiojikbaaGreat
open Go.RowKit Go.Deep

end Go.Proofs.YtpfkhgiiojikbaaGreat

/-! V5: DrawTermVars; the variables of a term with another put to a place. -/
namespace Go.Proofs.YtpfkhgiiojikbaaGreat
open Go.RowKit Go.Deep

theorem fvl_at : ∀ (n : Nat) (k : Fo) {a b : Nat} {s v : Int} {kk r : Fo} {x : Int}, fdrop n k = .node a b (s, v) kk r → x ∈ fvs s v kk → x ∈ fvl k
  | 0, .nil, _, _, _, _, _, _, _, h, _ => by simp [fdrop] at h
  | 0, .node _ _ _ _ _, _, _, _, _, _, _, _, h, hx => by
    simp only [fdrop, BT.node.injEq] at h
    obtain ⟨_, _, rfl, rfl, _⟩ := h
    simp only [fvl, List.mem_append]
    exact .inl hx
  | _ + 1, .nil, _, _, _, _, _, _, _, h, _ => by simp [fdrop] at h
  | n + 1, .node _ _ _ _ r, _, _, _, _, _, _, _, h, hx => by
    simp only [fvl, List.mem_append]
    exact .inr (fvl_at n r (by simpa [fdrop] using h) hx)
theorem fvl_set : ∀ (k : Fo) (n : Nat) (y : Int × Int × Fo) {x : Int}, x ∈ fvl (fset k n y) → x ∈ fvl k ∨ x ∈ fvs y.1 y.2.1 y.2.2
  | .nil, _, _, _, h => .inl h
  | .node _ _ _ _ r, 0, y, x, h => by
    simp only [fset, fvl, List.mem_append] at h ⊢
    rcases h with h | h
    · exact .inr h
    · exact .inl (.inr h)
  | .node _ _ _ _ r, n + 1, y, x, h => by
    simp only [fset, fvl, List.mem_append] at h ⊢
    rcases h with h | h
    · exact .inl (.inl h)
    · rcases fvl_set r n y h with h | h
      · exact .inl (.inr h)
      · exact .inr h
/-- What is put brings its variables alone. -/
theorem fput_vars : ∀ (p : List Int) (s v : Int) (k : Fo) (y : Int × Int × Fo) {s' v' : Int} {k' : Fo} {x : Int}, okN s v (flen k) = true → fok k = true → fput s v k p y = some (s', v', k') → x ∈ fvs s' v' k' → x ∈ fvs s v k ∨ x ∈ fvs y.1 y.2.1 y.2.2
  | [], _, _, _, _, _, _, _, _, _, _, h, hx => by simp only [fput, Option.some.injEq] at h; subst h; exact .inr hx
  | i :: ps, s, v, k, y, s', v', k', x, hok, hfo, h, hx => by
    obtain ⟨n, b, o, s1, v1, kk, ⟨z1, z2, z3⟩, rfl, hn, hd, hz, e⟩ := fput_cons h
    simp only [Prod.mk.injEq] at e
    obtain ⟨rfl, rfl, rfl⟩ := e
    have hs0 : s' ≠ 0 := fun e => by
      subst e
      have := ((okN_iff _ _ _).1 hok).1
      simp [ar] at this
      omega
    have hkid := fok_kid hfo hd
    unfold fvs at hx ⊢
    rw [if_neg hs0] at hx ⊢
    rcases fvl_set k n (z1, z2, z3) hx with h1 | h1
    · exact .inl h1
    · rcases fput_vars ps s1 v1 kk y hkid.1 hkid.2 hz h1 with h2 | h2
      · exact .inl (fvl_at n k hd h2)
      · exact .inr h2
/-- .. and all of them. -/
theorem fput_mine : ∀ (p : List Int) (s v : Int) (k : Fo) (y : Int × Int × Fo) {s' v' : Int} {k' : Fo} {x : Int}, okN s v (flen k) = true → fok k = true → fput s v k p y = some (s', v', k') → x ∈ fvs y.1 y.2.1 y.2.2 → x ∈ fvs s' v' k'
  | [], _, _, _, _, _, _, _, _, _, _, h, hx => by simp only [fput, Option.some.injEq] at h; subst h; exact hx
  | i :: ps, s, v, k, y, s', v', k', x, hok, hfo, h, hx => by
    obtain ⟨n, b, o, s1, v1, kk, ⟨z1, z2, z3⟩, rfl, hn, hd, hz, e⟩ := fput_cons h
    simp only [Prod.mk.injEq] at e
    obtain ⟨rfl, rfl, rfl⟩ := e
    have hs0 : s' ≠ 0 := fun e => by
      subst e
      have := ((okN_iff _ _ _).1 hok).1
      simp [ar] at this
      omega
    have hkid := fok_kid hfo hd
    have h1 := fput_mine ps s1 v1 kk y hkid.1 hkid.2 hz hx
    obtain ⟨b', o', e'⟩ := fset_at k n (z1, z2, z3) hn
    unfold fvs
    rw [if_neg hs0]
    exact fvl_at n _ e' h1

theorem tvR_mem {s v : Int} {k : Fo} (h : okW s v k 16 = true) (x : Int) : x ∈ tvR s v k ↔ x ∈ fvs s v k := by
  unfold tvR
  rw [if_pos h, among_mem]
  constructor
  · exact fun h => h.1
  · intro hx
    have := fvs_in h x hx
    exact ⟨hx, by omega, by omega⟩
end Go.Proofs.YtpfkhgiiojikbaaGreat
