/- Several texts in one: MT0, WF2, LB. -/
import Derived.Test.YtdkcbbhkoibplaaKLk4
import Derived.Test.YtdkcbbhkoibplaaKLk9
import Derived.Test.YtdkcbbhkoibplaaKLk3
import Derived.Test.YtdkcbbhkoibplaaKLk7

/-! MT0: Matching as plain data: what a pattern binds. Definitions and plain lemmas. -/
namespace Go.Proofs.Ytdkcbbhkoibplaa
open Go.RowKit Go.Deep

/-- Terms of a row without marks of where they lie. -/
def Zf (k : Fo) : Prop := fer k = k
theorem Zf.nil : Zf .nil := rfl
theorem zf_node {x y : Nat} {p : Int × Int} {k r : Fo} : Zf (.node x y p k r) ↔ x = 0 ∧ y = 0 ∧ Zf k ∧ Zf r := by
  simp only [Zf, fer, BT.node.injEq, true_and]
  constructor
  · rintro ⟨h1, h2, h3, h4⟩; exact ⟨h1.symm, h2.symm, h3, h4⟩
  · rintro ⟨h1, h2, h3, h4⟩; exact ⟨h1.symm, h2.symm, h3, h4⟩
theorem fer_fer : ∀ k : Fo, fer (fer k) = fer k
  | .nil => rfl
  | .node _ _ _ k r => by simp only [fer, fer_fer k, fer_fer r]
theorem zf_fer (k : Fo) : Zf (fer k) := fer_fer k
theorem fer_len : ∀ k : Fo, flen (fer k) = flen k
  | .nil => rfl
  | .node _ _ _ k r => by simp only [fer, flen, fer_len r]
theorem fer_sz : ∀ k : Fo, fsz (fer k) = fsz k
  | .nil => rfl
  | .node _ _ _ k r => by simp only [fer, fsz, fer_sz k, fer_sz r]
theorem fer_row {w : World} {lo B : Nat} : ∀ (k : Fo) (b o : Nat), Row w lo B k b o → Row w lo B (fer k) b o
  | .nil, _, _, _ => trivial
  | .node _ _ p k r, b, o, ⟨hl, h0, h1, h2, ⟨a, c, h3, h4⟩, h5⟩ => by
    refine ⟨hl, h0, h1, h2, ⟨a, c, by rw [fer_len]; exact h3, ?_⟩, fer_row r b (o + 3) h5⟩
    rcases h4 with rfl | ⟨b', o', e, h4⟩
    · exact .inl rfl
    · exact .inr ⟨b', o', e, fer_row k b' o' h4⟩
theorem Sl.fer {w : World} {lo B : Nat} {a : Option Addr} {k : Fo} (h : Sl w lo B a k) : Sl w lo B a (fer k) := by
  rcases h with rfl | ⟨b, o, e, h⟩
  · exact .inl rfl
  · exact .inr ⟨b, o, e, fer_row k b o h⟩
theorem feq_rfl : ∀ k : Fo, feq k k = true
  | .nil => rfl
  | .node _ _ p k r => by simp [feq, feq_rfl k, feq_rfl r]
theorem teq_rfl (s v : Int) (k : Fo) : teq s v k s v k = true := by simp [teq, feq_rfl]
theorem teq_z {s v : Int} {k : Fo} {s' v' : Int} {k' : Fo} (hk : Zf k) (hk' : Zf k') : teq s v k s' v' k' = true ↔ (s, v, k) = (s', v', k') := by
  rw [teq_iff, hk, hk']; simp

theorem sv_ladd {b : Bd} : ∀ {bs : List Bd}, sv bs b.1 = none → ∀ v, sv (ladd bs b) v = if b.1 = v then some b.2 else sv bs v
  | [], _, v => rfl
  | x :: r, h, v => by
    simp only [sv] at h
    by_cases e : x.1 = b.1
    · rw [if_pos e] at h; cases h
    · rw [if_neg e] at h
      simp only [ladd]
      by_cases hlt : b.1 < x.1
      · rw [if_pos hlt]; rfl
      · rw [if_neg hlt]
        simp only [sv]
        rw [sv_ladd h v]
        by_cases e2 : x.1 = v
        · rw [if_pos e2, if_neg (fun e' => e (e2.trans e'.symm))]; simp [e2]
        · rw [if_neg e2, if_neg e2]

/-- What a variable of a pattern binds. -/
def mtV (bs : List Bd) (x : Int) (t : Int × Int × Fo) : Option (List Bd) :=
  match sv bs x with
  | some u => if teq u.1 u.2.1 u.2.2 t.1 t.2.1 t.2.2 = true then some bs else none
  | none => some (ladd bs (x, t))
/-- What patterns of a row bind. -/
def fmt : List Bd → Fo → Fo → Option (List Bd)
  | bs, .nil, .nil => some bs
  | bs, .node _ _ p k r, .node _ _ q l m => (if p.1 = 0 then mtV bs p.2 (q.1, q.2, l) else if p.1 = q.1 then fmt bs k l else none).bind fun b1 => fmt b1 r m
  | _, _, _ => none
/-- What a pattern binds. -/
def tmt (bs : List Bd) (s v : Int) (k : Fo) (s' v' : Int) (k' : Fo) : Option (List Bd) := if s = 0 then mtV bs v (s', v', k') else if s = s' then fmt bs k k' else none
theorem fmt_node (bs : List Bd) (x y : Nat) (p : Int × Int) (k r : Fo) (x' y' : Nat) (q : Int × Int) (l m : Fo) : fmt bs (.node x y p k r) (.node x' y' q l m) = (tmt bs p.1 p.2 k q.1 q.2 l).bind fun b1 => fmt b1 r m := rfl

def Ext (bs bs' : List Bd) : Prop := ∀ x t, sv bs x = some t → sv bs' x = some t
def BZ (bs : List Bd) : Prop := ∀ x t, sv bs x = some t → Zf t.2.2
theorem BZ.nil : BZ [] := fun _ _ h => by simp [sv] at h
theorem ext_ladd {bs : List Bd} {b : Bd} (h : sv bs b.1 = none) : Ext bs (ladd bs b) := fun x t ht => by
  rw [sv_ladd h]
  by_cases e : b.1 = x
  · rw [← e, h] at ht; cases ht
  · rw [if_neg e]; exact ht
theorem mtV_cases {bs b1 : List Bd} {x : Int} {t : Int × Int × Fo} (h : mtV bs x t = some b1) : (∃ u, sv bs x = some u ∧ teq u.1 u.2.1 u.2.2 t.1 t.2.1 t.2.2 = true ∧ b1 = bs) ∨ (sv bs x = none ∧ b1 = ladd bs (x, t)) := by
  unfold mtV at h
  cases hs : sv bs x with
  | none => rw [hs] at h; exact .inr ⟨rfl, (Option.some.inj h).symm⟩
  | some u =>
    rw [hs] at h
    dsimp only at h
    split at h
    · rename_i he; exact .inl ⟨u, rfl, he, (Option.some.inj h).symm⟩
    · cases h
theorem mtV_sound {bs b1 : List Bd} {x : Int} {t : Int × Int × Fo} (h : mtV bs x t = some b1) (hz : BZ bs) (ht : Zf t.2.2) : Ext bs b1 ∧ BZ b1 ∧ sv b1 x = some t := by
  rcases mtV_cases h with ⟨u, hs, he, rfl⟩ | ⟨hs, rfl⟩
  · have := (teq_z (hz x u hs) ht).1 he
    have hu : u = t := this
    exact ⟨fun _ _ h => h, hz, by rw [hs, hu]⟩
  · refine ⟨ext_ladd hs, fun y u hu => ?_, by rw [sv_ladd (b := (x, t)) hs]; simp⟩
    rw [sv_ladd (b := (x, t)) hs] at hu
    split at hu
    · obtain rfl := Option.some.inj hu; exact ht
    · exact hz y u hu
theorem fsub_congr {σ τ : Int → Option (Int × Int × Fo)} : ∀ k : Fo, (∀ x ∈ fvl k, σ x = τ x) → fsub σ k = fsub τ k
  | .nil, _ => rfl
  | .node x y p k r, h => by
    simp only [fvl, List.mem_append] at h
    have hr := fsub_congr r (fun z hz => h z (.inr hz))
    simp only [fsub]
    by_cases e : p.1 = 0
    · have h0 := h p.2 (.inl (by rw [if_pos e]; simp))
      rw [if_pos e, if_pos e, h0, hr]
    · rw [if_neg e, if_neg e, fsub_congr k (fun z hz => h z (.inl (by rw [if_neg e]; exact hz))), hr]
theorem tsub_congr {σ τ : Int → Option (Int × Int × Fo)} {s v : Int} {k : Fo} (h : ∀ x ∈ fvs s v k, σ x = τ x) : tsub σ s v k = tsub τ s v k := by
  unfold tsub
  unfold fvs at h
  by_cases e : s = 0
  · rw [if_pos e] at h; rw [if_pos e, if_pos e, h v (by simp)]
  · rw [if_neg e] at h; rw [if_neg e, if_neg e, fsub_congr k h]

/-- What is bound makes the pattern the term. -/
theorem fmt_sound : ∀ (k l : Fo) (bs bs' : List Bd), fmt bs k l = some bs' → Zf k → Zf l → fok k = true → fok l = true → BZ bs → Ext bs bs' ∧ BZ bs' ∧ (∀ x ∈ fvl k, (sv bs' x).isSome = true) ∧ fsub (sv bs') k = l
  | .nil, .nil, bs, bs', h, _, _, _, _, hz => by
    obtain rfl := Option.some.inj h
    exact ⟨fun _ _ h => h, hz, fun x hx => by simp [fvl] at hx, rfl⟩
  | .nil, .node _ _ _ _ _, _, _, h, _, _, _, _, _ => by simp [fmt] at h
  | .node _ _ _ _ _, .nil, _, _, h, _, _, _, _, _ => by simp [fmt] at h
  | .node x y p k r, .node x' y' q l m, bs, bs', h, hzk, hzl, hok, hol, hz => by
    obtain ⟨rfl, rfl, hzk, hzr⟩ := zf_node.1 hzk
    obtain ⟨rfl, rfl, hzl, hzm⟩ := zf_node.1 hzl
    simp only [fok, Bool.and_eq_true] at hok hol
    rw [fmt_node] at h
    obtain ⟨b1, h1, h2⟩ := Option.bind_eq_some_iff.1 h
    unfold tmt at h1
    by_cases e : p.1 = 0
    · rw [if_pos e] at h1
      obtain ⟨g1, g2, g3⟩ := mtV_sound h1 hz hzl
      obtain ⟨i1, i2, i3, i4⟩ := fmt_sound r m b1 bs' h2 hzr hzm hok.2 hol.2 g2
      have h5 := i1 _ _ g3
      refine ⟨fun x t ht => i1 x t (g1 x t ht), i2, fun x hx => ?_, ?_⟩
      · simp only [fvl, if_pos e, List.mem_append, List.mem_singleton] at hx
        rcases hx with rfl | hx
        · rw [h5]; rfl
        · exact i3 x hx
      · simp only [fsub, if_pos e]; rw [h5, i4]
    · rw [if_neg e] at h1
      split at h1
      · rename_i e2
        obtain ⟨g1, g2, g3, g4⟩ := fmt_sound k l bs b1 h1 hzk hzl hok.1.2 hol.1.2 hz
        obtain ⟨i1, i2, i3, i4⟩ := fmt_sound r m b1 bs' h2 hzr hzm hok.2 hol.2 g2
        refine ⟨fun x t ht => i1 x t (g1 x t ht), i2, fun x hx => ?_, ?_⟩
        · simp only [fvl, if_neg e, List.mem_append] at hx
          rcases hx with hx | hx
          · obtain ⟨t, ht⟩ := Option.isSome_iff_exists.1 (g3 x hx)
            rw [i1 x t ht]; rfl
          · exact i3 x hx
        · have hc : fsub (sv bs') k = fsub (sv b1) k := fsub_congr k fun x hx => by
            obtain ⟨t, ht⟩ := Option.isSome_iff_exists.1 (g3 x hx)
            rw [ht, i1 x t ht]
          simp only [fsub, if_neg e]
          rw [hc, g4, i4]
          have v1 := ((okN_iff _ _ _).1 hok.1.1).2.2 e
          have v2 := ((okN_iff _ _ _).1 hol.1.1).2.2 (e2 ▸ e)
          have : p = q := Prod.ext e2 (v1.trans v2.symm)
          rw [this]
      · cases h1
theorem tmt_sound {bs bs' : List Bd} {s v : Int} {k : Fo} {s' v' : Int} {k' : Fo} (h : tmt bs s v k s' v' k' = some bs') (hk : Zf k) (hk' : Zf k') (h1 : okN s v (flen k) = true) (h2 : fok k = true) (h1' : okN s' v' (flen k') = true) (h2' : fok k' = true) (hz : BZ bs) :
    Ext bs bs' ∧ BZ bs' ∧ (∀ x ∈ fvs s v k, (sv bs' x).isSome = true) ∧ tsub (sv bs') s v k = (s', v', k') := by
  unfold tmt at h
  unfold fvs tsub
  by_cases e : s = 0
  · rw [if_pos e] at h
    obtain ⟨g1, g2, g3⟩ := mtV_sound h hz hk'
    refine ⟨g1, g2, fun x hx => ?_, ?_⟩
    · rw [if_pos e] at hx
      simp only [List.mem_singleton] at hx
      subst hx; rw [g3]; rfl
    · rw [if_pos e, g3]; rfl
  · rw [if_neg e] at h
    split at h
    · rename_i e2
      obtain ⟨g1, g2, g3, g4⟩ := fmt_sound k k' bs bs' h hk hk' h2 h2' hz
      refine ⟨g1, g2, fun x hx => g3 x (by rw [if_neg e] at hx; exact hx), ?_⟩
      have v1 := ((okN_iff _ _ _).1 h1).2.2 e
      have v2 := ((okN_iff _ _ _).1 h1').2.2 (e2 ▸ e)
      rw [if_neg e, g4, e2, v1, v2]
    · cases h

/-- Nothing bound says otherwise. -/
def Agrees (bs : List Bd) (σ : Int → Option (Int × Int × Fo)) : Prop := ∀ x t, sv bs x = some t → tsub σ 0 x .nil = t
theorem Agrees.nil (σ : Int → Option (Int × Int × Fo)) : Agrees [] σ := fun _ _ h => by simp [sv] at h
theorem tsub0 (σ : Int → Option (Int × Int × Fo)) (x : Int) (k : Fo) : tsub σ 0 x k = (σ x).getD (0, x, k) := by unfold tsub; rw [if_pos rfl]
theorem mtV_made {bs : List Bd} {σ : Int → Option (Int × Int × Fo)} (h : Agrees bs σ) (x : Int) : ∃ b1, mtV bs x (tsub σ 0 x .nil) = some b1 ∧ Agrees b1 σ := by
  unfold mtV
  cases hs : sv bs x with
  | some u =>
    dsimp only
    rw [h x u hs, if_pos (teq_rfl _ _ _)]
    exact ⟨bs, rfl, h⟩
  | none =>
    refine ⟨_, rfl, fun y t ht => ?_⟩
    rw [sv_ladd (b := (x, tsub σ 0 x .nil)) hs] at ht
    split at ht
    · rename_i e; dsimp only at e; rw [← e]; exact Option.some.inj ht
    · exact h y t ht
theorem fmt_made (σ : Int → Option (Int × Int × Fo)) : ∀ (k : Fo) (bs : List Bd), fok k = true → Agrees bs σ → ∃ bs', fmt bs k (fsub σ k) = some bs' ∧ Agrees bs' σ
  | .nil, bs, _, h => ⟨bs, rfl, h⟩
  | .node x y p k r, bs, hok, h => by
    simp only [fok, Bool.and_eq_true] at hok
    by_cases e : p.1 = 0
    · obtain ⟨b1, hb1, ha1⟩ := mtV_made h p.2
      obtain ⟨b2, hb2, ha2⟩ := fmt_made σ r b1 hok.2 ha1
      refine ⟨b2, ?_, ha2⟩
      have hk : k = .nil := kids_none (v := p.2) (by rw [← e]; exact hok.1.1)
      rw [tsub0] at hb1
      simp only [fsub, if_pos e]
      cases hs : σ p.2 with
      | some t =>
        rw [hs] at hb1
        rw [fmt_node, tmt, if_pos e]
        dsimp only
        have : mtV bs p.2 (t.1, t.2.1, t.2.2) = some b1 := hb1
        rw [this]; exact hb2
      | none =>
        rw [hs] at hb1
        rw [fmt_node, tmt, if_pos e, e, hk]
        have : mtV bs p.2 (0, p.2, .nil) = some b1 := hb1
        rw [this]; exact hb2
    · obtain ⟨b1, hb1, ha1⟩ := fmt_made σ k bs hok.1.2 h
      obtain ⟨b2, hb2, ha2⟩ := fmt_made σ r b1 hok.2 ha1
      refine ⟨b2, ?_, ha2⟩
      simp only [fsub, if_neg e]
      rw [fmt_node, tmt, if_neg e, if_pos rfl, hb1]
      exact hb2
theorem tmt_made (σ : Int → Option (Int × Int × Fo)) {bs : List Bd} {s v : Int} {k : Fo} (h1 : okN s v (flen k) = true) (h2 : fok k = true) (h : Agrees bs σ) {s' v' : Int} {k' : Fo} (he : tsub σ s v k = (s', v', k')) : ∃ bs', tmt bs s v k s' v' k' = some bs' ∧ Agrees bs' σ := by
  unfold tmt
  by_cases e : s = 0
  · subst e
    have hk := kids_none h1
    subst hk
    rw [if_pos rfl]
    obtain ⟨b1, hb1, ha1⟩ := mtV_made h v
    rw [he] at hb1
    exact ⟨b1, hb1, ha1⟩
  · rw [if_neg e]
    unfold tsub at he
    rw [if_neg e] at he
    simp only [Prod.mk.injEq] at he
    obtain ⟨rfl, rfl, rfl⟩ := he
    rw [if_pos rfl]
    exact fmt_made σ k bs h2 h

/-- Which variables are bound. -/
theorem mtV_dom {bs b1 : List Bd} {x : Int} {t : Int × Int × Fo} (h : mtV bs x t = some b1) (y : Int) : (sv b1 y).isSome = true ↔ (sv bs y).isSome = true ∨ y = x := by
  rcases mtV_cases h with ⟨u, hs, he, rfl⟩ | ⟨hs, rfl⟩
  · constructor
    · exact fun h => .inl h
    · rintro (h | rfl)
      · exact h
      · rw [hs]; rfl
  · rw [sv_ladd (b := (x, t)) hs]
    dsimp only
    split
    · rename_i e; simp [e]
    · rename_i e; exact ⟨fun h => .inl h, fun h => h.elim id fun h => absurd h.symm e⟩
theorem fmt_dom : ∀ (k l : Fo) (bs bs' : List Bd), fmt bs k l = some bs' → ∀ y, (sv bs' y).isSome = true ↔ (sv bs y).isSome = true ∨ y ∈ fvl k
  | .nil, .nil, bs, bs', h, y => by obtain rfl := Option.some.inj h; simp [fvl]
  | .nil, .node _ _ _ _ _, _, _, h, _ => by simp [fmt] at h
  | .node _ _ _ _ _, .nil, _, _, h, _ => by simp [fmt] at h
  | .node x' y' p k r, .node _ _ q l m, bs, bs', h, y => by
    rw [fmt_node] at h
    obtain ⟨b1, h1, h2⟩ := Option.bind_eq_some_iff.1 h
    unfold tmt at h1
    rw [fmt_dom r m b1 bs' h2 y]
    simp only [fvl, List.mem_append]
    by_cases e : p.1 = 0
    · rw [if_pos e] at h1
      rw [mtV_dom h1 y, if_pos e, List.mem_singleton, or_assoc]
    · rw [if_neg e] at h1
      split at h1
      · rw [fmt_dom k l bs b1 h1 y, if_neg e, or_assoc]
      · cases h1
theorem tmt_dom {bs bs' : List Bd} {s v : Int} {k : Fo} {s' v' : Int} {k' : Fo} (h : tmt bs s v k s' v' k' = some bs') (y : Int) : (sv bs' y).isSome = true ↔ (sv bs y).isSome = true ∨ y ∈ fvs s v k := by
  unfold tmt at h
  unfold fvs
  by_cases e : s = 0
  · rw [if_pos e] at h; rw [mtV_dom h y, if_pos e, List.mem_singleton]
  · rw [if_neg e] at h
    split at h
    · rw [fmt_dom k k' bs bs' h y, if_neg e]
    · cases h

/-- Ascending by variables. -/
def Asc (bs : List Bd) : Prop := bs.Pairwise fun x y => x.1 < y.1
theorem ladd_mem {b : Bd} : ∀ {bs : List Bd} {z : Bd}, z ∈ ladd bs b ↔ z = b ∨ z ∈ bs
  | [], z => by simp [ladd]
  | x :: r, z => by
    simp only [ladd]
    split
    · simp
    · simp only [List.mem_cons, ladd_mem (bs := r)]
      constructor
      · rintro (h | h | h)
        · exact .inr (.inl h)
        · exact .inl h
        · exact .inr (.inr h)
      · rintro (h | h | h)
        · exact .inr (.inl h)
        · exact .inl h
        · exact .inr (.inr h)
theorem asc_ladd {b : Bd} : ∀ {bs : List Bd}, Asc bs → sv bs b.1 = none → Asc (ladd bs b)
  | [], _, _ => List.pairwise_singleton _ _
  | x :: r, h, hs => by
    obtain ⟨h1, h2⟩ := List.pairwise_cons.1 h
    simp only [sv] at hs
    by_cases e : x.1 = b.1
    · rw [if_pos e] at hs; cases hs
    · rw [if_neg e] at hs
      simp only [ladd]
      by_cases hlt : b.1 < x.1
      · rw [if_pos hlt]
        refine List.pairwise_cons.2 ⟨fun z hz => ?_, h⟩
        rcases List.mem_cons.1 hz with rfl | hz
        · exact hlt
        · exact Int.lt_trans hlt (h1 z hz)
      · rw [if_neg hlt]
        refine List.pairwise_cons.2 ⟨fun z hz => ?_, asc_ladd h2 hs⟩
        rcases ladd_mem.1 hz with rfl | hz
        · omega
        · exact h1 z hz
theorem fmt_asc : ∀ (k l : Fo) (bs bs' : List Bd), fmt bs k l = some bs' → Asc bs → Asc bs'
  | .nil, .nil, bs, bs', h, ha => by obtain rfl := Option.some.inj h; exact ha
  | .nil, .node _ _ _ _ _, _, _, h, _ => by simp [fmt] at h
  | .node _ _ _ _ _, .nil, _, _, h, _ => by simp [fmt] at h
  | .node x' y' p k r, .node _ _ q l m, bs, bs', h, ha => by
    rw [fmt_node] at h
    obtain ⟨b1, h1, h2⟩ := Option.bind_eq_some_iff.1 h
    unfold tmt at h1
    refine fmt_asc r m b1 bs' h2 ?_
    by_cases e : p.1 = 0
    · rw [if_pos e] at h1
      rcases mtV_cases h1 with ⟨u, hs, he, rfl⟩ | ⟨hs, rfl⟩
      · exact ha
      · exact asc_ladd ha hs
    · rw [if_neg e] at h1
      split at h1
      · exact fmt_asc k l bs b1 h1 ha
      · cases h1
theorem tmt_asc {bs bs' : List Bd} {s v : Int} {k : Fo} {s' v' : Int} {k' : Fo} (h : tmt bs s v k s' v' k' = some bs') (ha : Asc bs) : Asc bs' := by
  unfold tmt at h
  by_cases e : s = 0
  · rw [if_pos e] at h
    rcases mtV_cases h with ⟨u, hs, he, rfl⟩ | ⟨hs, rfl⟩
    · exact ha
    · exact asc_ladd ha hs
  · rw [if_neg e] at h
    split at h
    · exact fmt_asc k k' bs bs' h ha
    · cases h

/-- What is bound is a part of the term. -/
def Bof (bs : List Bd) (M : Nat) : Prop := ∀ x t, sv bs x = some t → okN t.1 t.2.1 (flen t.2.2) = true ∧ fok t.2.2 = true ∧ fsz t.2.2 ≤ M
theorem Bof.nil (M : Nat) : Bof [] M := fun _ _ h => by simp [sv] at h
theorem mtV_of {bs b1 : List Bd} {x : Int} {t : Int × Int × Fo} {M : Nat} (h : mtV bs x t = some b1) (hb : Bof bs M) (h1 : okN t.1 t.2.1 (flen t.2.2) = true) (h2 : fok t.2.2 = true) (h3 : fsz t.2.2 ≤ M) : Bof b1 M := by
  rcases mtV_cases h with ⟨u, hs, he, rfl⟩ | ⟨hs, rfl⟩
  · exact hb
  · intro y u hu
    rw [sv_ladd (b := (x, t)) hs] at hu
    split at hu
    · obtain rfl := Option.some.inj hu; exact ⟨h1, h2, h3⟩
    · exact hb y u hu
theorem fmt_of {M : Nat} : ∀ (k l : Fo) (bs bs' : List Bd), fmt bs k l = some bs' → Bof bs M → fok l = true → fsz l ≤ M → Bof bs' M
  | .nil, .nil, bs, bs', h, ha, _, _ => by obtain rfl := Option.some.inj h; exact ha
  | .nil, .node _ _ _ _ _, _, _, h, _, _, _ => by simp [fmt] at h
  | .node _ _ _ _ _, .nil, _, _, h, _, _, _ => by simp [fmt] at h
  | .node x' y' p k r, .node _ _ q l m, bs, bs', h, ha, hol, hM => by
    simp only [fok, Bool.and_eq_true] at hol
    simp only [fsz] at hM
    rw [fmt_node] at h
    obtain ⟨b1, h1, h2⟩ := Option.bind_eq_some_iff.1 h
    unfold tmt at h1
    refine fmt_of r m b1 bs' h2 ?_ hol.2 (by omega)
    by_cases e : p.1 = 0
    · rw [if_pos e] at h1
      exact mtV_of h1 ha hol.1.1 hol.1.2 (by dsimp only; omega)
    · rw [if_neg e] at h1
      split at h1
      · exact fmt_of k l bs b1 h1 ha hol.1.2 (by omega)
      · cases h1
theorem tmt_of {bs bs' : List Bd} {s v : Int} {k : Fo} {s' v' : Int} {k' : Fo} {M : Nat} (h : tmt bs s v k s' v' k' = some bs') (ha : Bof bs M) (h1 : okN s' v' (flen k') = true) (h2 : fok k' = true) (h3 : fsz k' ≤ M) : Bof bs' M := by
  unfold tmt at h
  by_cases e : s = 0
  · rw [if_pos e] at h; exact mtV_of h ha h1 h2 h3
  · rw [if_neg e] at h
    split at h
    · exact fmt_of k k' bs bs' h ha h2 h3
    · cases h
theorem mtV_len {bs b1 : List Bd} {x : Int} {t : Int × Int × Fo} (h : mtV bs x t = some b1) : b1.length ≤ bs.length + 1 := by
  rcases mtV_cases h with ⟨u, hs, he, rfl⟩ | ⟨hs, rfl⟩
  · omega
  · rw [ladd_len]; omega
theorem fmt_blen : ∀ (k l : Fo) (bs bs' : List Bd), fmt bs k l = some bs' → bs'.length ≤ bs.length + fsz k
  | .nil, .nil, bs, bs', h => by obtain rfl := Option.some.inj h; omega
  | .nil, .node _ _ _ _ _, _, _, h => by simp [fmt] at h
  | .node _ _ _ _ _, .nil, _, _, h => by simp [fmt] at h
  | .node x' y' p k r, .node _ _ q l m, bs, bs', h => by
    rw [fmt_node] at h
    obtain ⟨b1, h1, h2⟩ := Option.bind_eq_some_iff.1 h
    unfold tmt at h1
    have := fmt_blen r m b1 bs' h2
    simp only [fsz]
    by_cases e : p.1 = 0
    · rw [if_pos e] at h1
      have := mtV_len h1
      omega
    · rw [if_neg e] at h1
      split at h1
      · have := fmt_blen k l bs b1 h1
        omega
      · cases h1
theorem tmt_blen {bs bs' : List Bd} {s v : Int} {k : Fo} {s' v' : Int} {k' : Fo} (h : tmt bs s v k s' v' k' = some bs') : bs'.length ≤ bs.length + (1 + fsz k) := by
  unfold tmt at h
  by_cases e : s = 0
  · rw [if_pos e] at h; have := mtV_len h; omega
  · rw [if_neg e] at h
    split at h
    · have := fmt_blen k k' bs bs' h; omega
    · cases h
/-- Row by row. -/
theorem fmt_step {bs : List Bd} {k l : Fo} {j x y x' y' : Nat} {s v s' v' : Int} {kk kk' : Fo} (h : fdrop j k = .node x y (s, v) kk (fdrop (j + 1) k)) (h' : fdrop j l = .node x' y' (s', v') kk' (fdrop (j + 1) l)) : fmt bs (fdrop j k) (fdrop j l) = (tmt bs s v kk s' v' kk').bind fun b1 => fmt b1 (fdrop (j + 1) k) (fdrop (j + 1) l) := by
  rw [h, h', fmt_node]

theorem sv_mem : ∀ {bs : List Bd} {x : Bd}, Asc bs → x ∈ bs → sv bs x.1 = some x.2
  | [], _, _, h => by cases h
  | y :: r, x, ha, h => by
    obtain ⟨h1, h2⟩ := List.pairwise_cons.1 ha
    simp only [sv]
    rcases List.mem_cons.1 h with rfl | h
    · rw [if_pos rfl]
    · rw [if_neg (by have := h1 x h; omega)]; exact sv_mem h2 h
theorem mem_sv : ∀ {bs : List Bd} {x : Int} {t : Int × Int × Fo}, sv bs x = some t → (x, t) ∈ bs
  | [], _, _, h => by simp [sv] at h
  | y :: r, x, t, h => by
    simp only [sv] at h
    split at h
    · rename_i e
      obtain rfl := Option.some.inj h
      rw [← e]; exact List.mem_cons_self
    · exact List.mem_cons_of_mem _ (mem_sv h)
theorem sokFrom_of : ∀ (bs : List Bd) (last : Int), Asc bs → (∀ x ∈ bs, last < x.1 ∧ x.1 < 12 ∧ okW x.2.1 x.2.2.1 x.2.2.2 16 = true) → sokFrom 16 last bs = true
  | [], _, _, _ => rfl
  | y :: r, last, ha, h => by
    obtain ⟨h1, h2⟩ := List.pairwise_cons.1 ha
    have hy := h y List.mem_cons_self
    simp only [sokFrom, Bool.and_eq_true, decide_eq_true_eq]
    exact ⟨hy.2.2, hy.1, hy.2.1, sokFrom_of r y.1 h2 fun x hx => ⟨h1 x hx, (h x (List.mem_cons_of_mem _ hx)).2⟩⟩
/-- In form. -/
theorem sok_of {bs : List Bd} (ha : Asc bs) (hr : ∀ x, (sv bs x).isSome = true → 0 ≤ x ∧ x ≤ 11) (hb : Bof bs 15) : sok 16 bs = true := by
  refine sokFrom_of bs (-1) ha fun x hx => ?_
  have hs := sv_mem ha hx
  have h1 := hr x.1 (by rw [hs]; rfl)
  have h2 := hb x.1 x.2 hs
  exact ⟨by omega, by omega, (okW_iff _ _ _ _).2 ⟨h2.1, h2.2.1, by have := h2.2.2; omega⟩⟩
/-- The answer of MatchOf. -/
def maR (s v : Int) (k : Fo) (s' v' : Int) (k' : Fo) : List Bd × Bool :=
  if okW s v k 16 = true ∧ okW s' v' k' 16 = true then (match tmt [] s v k s' v' k' with
    | some bs => (bs, true)
    | none => ([], false)) else ([], false)
theorem maR_cases {s v : Int} {k : Fo} {s' v' : Int} {k' : Fo} {bs : List Bd} {t : Bool} (h : maR s v k s' v' k' = (bs, t)) :
    (t = false ∧ bs = []) ∨ (t = true ∧ okW s v k 16 = true ∧ okW s' v' k' 16 = true ∧ tmt [] s v k s' v' k' = some bs) := by
  unfold maR at h
  split at h
  · rename_i hc
    cases ht : tmt [] s v k s' v' k' with
    | none => rw [ht] at h; simp only [Prod.mk.injEq] at h; exact .inl ⟨h.2.symm, h.1.symm⟩
    | some b =>
      rw [ht] at h
      simp only [Prod.mk.injEq] at h
      exact .inr ⟨h.2.symm, hc.1, hc.2, by rw [h.1]⟩
  · simp only [Prod.mk.injEq] at h; exact .inl ⟨h.2.symm, h.1.symm⟩
theorem maR_of {s v : Int} {k : Fo} {s' v' : Int} {k' : Fo} {bs : List Bd} (h1 : okW s v k 16 = true) (h2 : okW s' v' k' 16 = true) (h3 : tmt [] s v k s' v' k' = some bs) : maR s v k s' v' k' = (bs, true) := by
  unfold maR
  rw [if_pos ⟨h1, h2⟩, h3]
theorem maR_no {s v : Int} {k : Fo} {s' v' : Int} {k' : Fo} (h3 : tmt [] s v k s' v' k' = none) : maR s v k s' v' k' = ([], false) := by
  unfold maR
  rw [h3]; split <;> rfl
/-- What is known of an answer. -/
theorem maR_in {s v : Int} {k : Fo} {s' v' : Int} {k' : Fo} {bs : List Bd} {t : Bool} (h : maR s v k s' v' k' = (bs, t)) : Asc bs ∧ Bof bs 15 ∧ bs.length ≤ 16 ∧ (∀ x, (sv bs x).isSome = true → 0 ≤ x ∧ x ≤ 11) ∧ sok 16 bs = true := by
  rcases maR_cases h with ⟨_, rfl⟩ | ⟨_, h1, h2, h3⟩
  · exact ⟨List.Pairwise.nil, Bof.nil _, by simp, fun x h => by simp [sv] at h, rfl⟩
  · obtain ⟨o1, o2, o3⟩ := (okW_iff _ _ _ _).1 h1
    obtain ⟨p1, p2, p3⟩ := (okW_iff _ _ _ _).1 h2
    have g1 := tmt_asc h3 List.Pairwise.nil
    have g2 := tmt_of (M := 15) h3 (Bof.nil _) p1 p2 (by omega)
    have g3 := tmt_blen h3
    have g4 : ∀ x, (sv bs x).isSome = true → 0 ≤ x ∧ x ≤ 11 := fun x hx => by
      rcases (tmt_dom h3 x).1 hx with h | h
      · simp [sv] at h
      · exact fvs_in h1 x h
    exact ⟨g1, g2, by simp at g3; omega, g4, sok_of g1 g4 g2⟩
end Go.Proofs.Ytdkcbbhkoibplaa

/-! WF2: l71Term once more: what is drawn is a term in form, without marks, no larger than its depth lets. -/
namespace Go.Proofs.Ytdkcbbhkoibplaa
open Go.RowKit Go.Deep

/-- In form, without marks. -/
def OkZ (s v : Int) (k : Fo) : Prop := okN s v (flen k) = true ∧ fok k = true ∧ Zf k
theorem okz_a : OkZ 1 0 .nil := ⟨by decide, rfl, rfl⟩
theorem okz_b : OkZ 2 0 .nil := ⟨by decide, rfl, rfl⟩
theorem okz_var {v : Int} (h1 : 0 ≤ v) (h2 : v ≤ 11) : OkZ 0 v .nil := ⟨(okN_iff _ _ _).2 ⟨by simp [flen, ar], fun _ => ⟨h1, h2⟩, fun h => absurd rfl h⟩, rfl, rfl⟩
theorem okz_g {s v : Int} {k : Fo} (h : OkZ s v k) : OkZ 3 0 (.node 0 0 (s, v) k .nil) := by
  obtain ⟨h1, h2, h3⟩ := h
  exact ⟨by show okN 3 0 1 = true; decide, by simp [fok, h1, h2], zf_node.2 ⟨rfl, rfl, h3, rfl⟩⟩
theorem okz_f {s v s' v' : Int} {k k' : Fo} (h : OkZ s v k) (h' : OkZ s' v' k') : OkZ 4 0 (.node 0 0 (s, v) k (.node 0 0 (s', v') k' .nil)) := by
  obtain ⟨h1, h2, h3⟩ := h
  obtain ⟨h1', h2', h3'⟩ := h'
  exact ⟨by show okN 4 0 2 = true; decide, by simp [fok, h1, h2, h1', h2'], zf_node.2 ⟨rfl, rfl, h3, zf_node.2 ⟨rfl, rfl, h3', rfl⟩⟩⟩
def DrawnOk (br p K S : Nat) (w : World) (e : Ending) (w' : World) : Prop :=
  ∃ s v a c k p', e = .returned (.agg #[.int .i64 s, .int .i64 v, .slice a (flen k) c]) ∧ OkZ s v k ∧ p ≤ p' ∧ p' ≤ p + K ∧ 1 + fsz k ≤ S ∧ Adv w br p' w' ∧ Sl w' w.heap.size w'.heap.size a k
theorem drawn_ok {w w2 : World} {br p p' K S : Nat} {s v : Int} {a : Option Addr} {c : Nat} {k : Fo} {o : Obj} {x y z : Value} (hok : OkZ s v k) (ha : Adv (w.alloc o) br p' w2) (hbr : br < w.heap.size) (h1 : p ≤ p') (h2 : p' ≤ p + K) (h3 : 1 + fsz k ≤ S)
    (hl : Sl w2 (w.heap.size + 1) w2.heap.size a k) : DrawnOk br p K S w (.returned (.agg #[.int .i64 s, .int .i64 v, .slice a (flen k) c])) (((w2.setCell ⟨w.heap.size, 0, none⟩ x).setCell ⟨w.heap.size, 1, none⟩ y).setCell ⟨w.heap.size, 2, none⟩ z) := by
  refine ⟨s, v, a, c, k, p', rfl, hok, h1, h2, h3, (((ha.off hbr).store (by simp) _).store (by simp) _).store (by simp) _, ?_⟩
  have hs : Same (w.heap.size + 1) w2.heap.size w2 (((w2.setCell ⟨w.heap.size, 0, none⟩ x).setCell ⟨w.heap.size, 1, none⟩ y).setCell ⟨w.heap.size, 2, none⟩ z) :=
    (((Same.setCell (fun _ _ _ => rfl) (.inl (by simp)) _).setCell (.inl (by simp)) _).setCell (.inl (by simp)) _)
  exact (hl.same hs).mono (by omega) (by simp)

set_option maxRecDepth 100000 in
set_option maxHeartbeats 1000000 in
theorem l71Term_ok (D : Nat) : ∀ (deep vars : Int) (br p : Nat) (w : World), deep ≤ D + 1 → -1000 ≤ deep → D ≤ 20 → 1 ≤ vars → vars ≤ 12 → Rd w br p → p + pkN D ≤ 100000000 →
    Calls Try.prog 68 #[.pointer (some ⟨br, 0, none⟩), .int .i64 deep, .int .i64 vars] w (DrawnOk br p (pkN D) (szN D) w) := by
  induction D with
  | zero =>
    intro deep vars br p w h1 h2 h3 h4 h5 hr hp
    have hpk : pkN 0 = 3 := rfl
    have HPK := Lib.hid hpk
    have hk3 : 3 ≤ pkN 0 := by omega
    clear hpk
    have e1 : decide (deep < 2) = true := by simp; omega
    have HR0 := Lib.hid hr
    have hlt := hr.lt
    have hr' := hr.alloc (.cells #[.int .i64 0, .int .i64 0, .slice none 0 0] 35)
    have HA : Hid (Adv (w.alloc (.cells #[.int .i64 0, .int .i64 0, .slice none 0 0] 35)) br p (w.alloc (.cells #[.int .i64 0, .int .i64 0, .slice none 0 0] 35))) := Adv.start hr' (Below.refl _ _)
    have HR := Lib.hid hr'
    clear hr hr'
    go_enter Try.func68, Try.ntmps68
    go_wp2_with fail
    with_reducible refine (pick_any 5 br (p) _ HR.out (by omega) (by omega) (by omega)).mono ?_
    rintro e w1 ⟨x, rfl, hx, hb⟩
    have ha : Adv (w.alloc (.cells #[.int .i64 0, .int .i64 0, .slice none 0 0] 35)) br (p + 1) w1 := HA.out.trans hb
    have hr1 := ha.rd (HR0.out.alloc _)
    have HA1 := Lib.hid ha
    have HR1 := Lib.hid hr1
    clear ha hb hr1
    by_cases hx0 : x = 0
    · subst hx0
      go_wp2_with fail
      with_reducible refine (l71Of_any 1 none 0 0 _).mono ?_
      rintro e w2 ⟨rfl, hb2⟩
      have ha2 := HA1.out.more hb2
      obtain ⟨hc0, hc1, hc2, hf0, hf1, hf2⟩ := res_cells ha2 hlt
      clear hb2
      go_wp2_with fail
      refine bodyPost_ret (v := .agg #[.int .i64 1, .int .i64 0, .slice none 0 0]) ?_ rfl (drawn_ok (s := 1) (v := 0) (k := .nil) okz_a ha2 hlt (by omega) (by omega) (by simp [fsz, szN]) (.inl rfl))
      simp [results, Try.results68, go_sem, hc0, hc1, hc2]
    by_cases hx1 : x = 1
    · subst hx1
      go_wp2_with fail
      with_reducible refine (l71Of_any 2 none 0 0 _).mono ?_
      rintro e w2 ⟨rfl, hb2⟩
      have ha2 := HA1.out.more hb2
      obtain ⟨hc0, hc1, hc2, hf0, hf1, hf2⟩ := res_cells ha2 hlt
      clear hb2
      go_wp2_with fail
      refine bodyPost_ret (v := .agg #[.int .i64 2, .int .i64 0, .slice none 0 0]) ?_ rfl (drawn_ok (s := 2) (v := 0) (k := .nil) okz_b ha2 hlt (by omega) (by omega) (by simp [fsz, szN]) (.inl rfl))
      simp [results, Try.results68, go_sem, hc0, hc1, hc2]
    have x0 : ((x : Int) == 0) = false := by simpa using hx0
    have x1 : ((x : Int) == 1) = false := by simp; omega
    go_wp2_with fail
    with_reducible refine (pick_any vars br (p + 1) _ HR1.out (by omega) (by omega) (by omega)).mono ?_
    rintro e w2 ⟨y, rfl, hy, hb2⟩
    have ha2 := HA1.out.trans hb2
    have HA2 := Lib.hid ha2
    clear ha2 hb2
    go_wp2_with fail
    with_reducible refine (l71Var_any y _).mono ?_
    rintro e w3 ⟨rfl, hb3⟩
    have ha3 := HA2.out.more hb3
    obtain ⟨hc0, hc1, hc2, hf0, hf1, hf2⟩ := res_cells ha3 hlt
    clear hb3
    go_wp2_with fail
    refine bodyPost_ret (v := .agg #[.int .i64 0, .int .i64 y, .slice none 0 0]) ?_ rfl (drawn_ok (s := 0) (v := y) (k := .nil) (okz_var (by omega) (by omega)) ha3 hlt (by omega) (by omega) (by simp [fsz, szN]) (.inl rfl))
    simp [results, Try.results68, go_sem, hc0, hc1, hc2]
  | succ D ih =>
    intro deep vars br p w h1 h2 h3 h4 h5 hr hp
    have hk3 : 2 * pkN D + 3 ≤ pkN (D + 1) := Nat.le_refl _
    have hs1 : 2 * szN D + 1 ≤ szN (D + 1) := Nat.le_refl _
    have hs0 := szN_pos D
    have hdm : deep ≤ 1000 := by omega
    have IH := Lib.hid ih
    clear ih
    have HR0 := Lib.hid hr
    have hlt := hr.lt
    have hr' := hr.alloc (.cells #[.int .i64 0, .int .i64 0, .slice none 0 0] 35)
    have HA : Hid (Adv (w.alloc (.cells #[.int .i64 0, .int .i64 0, .slice none 0 0] 35)) br p (w.alloc (.cells #[.int .i64 0, .int .i64 0, .slice none 0 0] 35))) := Adv.start hr' (Below.refl _ _)
    have HR := Lib.hid hr'
    clear hr hr'
    by_cases hd : deep < 2
    · have e1 : decide (deep < 2) = true := by simp; omega
      go_enter Try.func68, Try.ntmps68
      go_wp2_with fail
      with_reducible refine (pick_any 5 br (p) _ HR.out (by omega) (by omega) (by omega)).mono ?_
      rintro e w1 ⟨x, rfl, hx, hb⟩
      have ha : Adv (w.alloc (.cells #[.int .i64 0, .int .i64 0, .slice none 0 0] 35)) br (p + 1) w1 := HA.out.trans hb
      have hr1 := ha.rd (HR0.out.alloc _)
      have HA1 := Lib.hid ha
      have HR1 := Lib.hid hr1
      clear ha hb hr1
      by_cases hx0 : x = 0
      · subst hx0
        go_wp2_with fail
        with_reducible refine (l71Of_any 1 none 0 0 _).mono ?_
        rintro e w2 ⟨rfl, hb2⟩
        have ha2 := HA1.out.more hb2
        obtain ⟨hc0, hc1, hc2, hf0, hf1, hf2⟩ := res_cells ha2 hlt
        clear hb2
        go_wp2_with fail
        refine bodyPost_ret (v := .agg #[.int .i64 1, .int .i64 0, .slice none 0 0]) ?_ rfl (drawn_ok (s := 1) (v := 0) (k := .nil) okz_a ha2 hlt (by omega) (by omega) (by simp only [fsz]; omega) (.inl rfl))
        simp [results, Try.results68, go_sem, hc0, hc1, hc2]
      by_cases hx1 : x = 1
      · subst hx1
        go_wp2_with fail
        with_reducible refine (l71Of_any 2 none 0 0 _).mono ?_
        rintro e w2 ⟨rfl, hb2⟩
        have ha2 := HA1.out.more hb2
        obtain ⟨hc0, hc1, hc2, hf0, hf1, hf2⟩ := res_cells ha2 hlt
        clear hb2
        go_wp2_with fail
        refine bodyPost_ret (v := .agg #[.int .i64 2, .int .i64 0, .slice none 0 0]) ?_ rfl (drawn_ok (s := 2) (v := 0) (k := .nil) okz_b ha2 hlt (by omega) (by omega) (by simp only [fsz]; omega) (.inl rfl))
        simp [results, Try.results68, go_sem, hc0, hc1, hc2]
      have x0 : ((x : Int) == 0) = false := by simpa using hx0
      have x1 : ((x : Int) == 1) = false := by simp; omega
      go_wp2_with fail
      with_reducible refine (pick_any vars br (p + 1) _ HR1.out (by omega) (by omega) (by omega)).mono ?_
      rintro e w2 ⟨y, rfl, hy, hb2⟩
      have ha2 := HA1.out.trans hb2
      have HA2 := Lib.hid ha2
      clear ha2 hb2
      go_wp2_with fail
      with_reducible refine (l71Var_any y _).mono ?_
      rintro e w3 ⟨rfl, hb3⟩
      have ha3 := HA2.out.more hb3
      obtain ⟨hc0, hc1, hc2, hf0, hf1, hf2⟩ := res_cells ha3 hlt
      clear hb3
      go_wp2_with fail
      refine bodyPost_ret (v := .agg #[.int .i64 0, .int .i64 y, .slice none 0 0]) ?_ rfl (drawn_ok (s := 0) (v := y) (k := .nil) (okz_var (by omega) (by omega)) ha3 hlt (by omega) (by omega) (by simp only [fsz]; omega) (.inl rfl))
      simp [results, Try.results68, go_sem, hc0, hc1, hc2]
    have e1 : decide (deep < 2) = false := by simp; omega
    go_enter Try.func68, Try.ntmps68
    go_wp2_with fail
    with_reducible refine (pick_any 4 br p _ HR.out (by omega) (by omega) (by omega)).mono ?_
    rintro e w0 ⟨x4, rfl, hx4, hb0⟩
    have ha0 : Adv (w.alloc (.cells #[.int .i64 0, .int .i64 0, .slice none 0 0] 35)) br (p + 1) w0 := HA.out.trans hb0
    have hr0 := ha0.rd (HR0.out.alloc _)
    clear HA HR
    have HA := Lib.hid ha0
    have HR := Lib.hid hr0
    clear ha0 hr0 hb0 hx4
    by_cases hx : x4 = 0
    · subst hx
      go_wp2_with fail
      with_reducible refine (pick_any 5 br (p + 1) _ HR.out (by omega) (by omega) (by omega)).mono ?_
      rintro e w1 ⟨x, rfl, hx, hb⟩
      have ha : Adv (w.alloc (.cells #[.int .i64 0, .int .i64 0, .slice none 0 0] 35)) br (p + 1 + 1) w1 := HA.out.trans hb
      have hr1 := ha.rd (HR0.out.alloc _)
      have HA1 := Lib.hid ha
      have HR1 := Lib.hid hr1
      clear ha hb hr1
      by_cases hx0 : x = 0
      · subst hx0
        go_wp2_with fail
        with_reducible refine (l71Of_any 1 none 0 0 _).mono ?_
        rintro e w2 ⟨rfl, hb2⟩
        have ha2 := HA1.out.more hb2
        obtain ⟨hc0, hc1, hc2, hf0, hf1, hf2⟩ := res_cells ha2 hlt
        clear hb2
        go_wp2_with fail
        refine bodyPost_ret (v := .agg #[.int .i64 1, .int .i64 0, .slice none 0 0]) ?_ rfl (drawn_ok (s := 1) (v := 0) (k := .nil) okz_a ha2 hlt (by omega) (by omega) (by simp only [fsz]; omega) (.inl rfl))
        simp [results, Try.results68, go_sem, hc0, hc1, hc2]
      by_cases hx1 : x = 1
      · subst hx1
        go_wp2_with fail
        with_reducible refine (l71Of_any 2 none 0 0 _).mono ?_
        rintro e w2 ⟨rfl, hb2⟩
        have ha2 := HA1.out.more hb2
        obtain ⟨hc0, hc1, hc2, hf0, hf1, hf2⟩ := res_cells ha2 hlt
        clear hb2
        go_wp2_with fail
        refine bodyPost_ret (v := .agg #[.int .i64 2, .int .i64 0, .slice none 0 0]) ?_ rfl (drawn_ok (s := 2) (v := 0) (k := .nil) okz_b ha2 hlt (by omega) (by omega) (by simp only [fsz]; omega) (.inl rfl))
        simp [results, Try.results68, go_sem, hc0, hc1, hc2]
      have x0 : ((x : Int) == 0) = false := by simpa using hx0
      have x1 : ((x : Int) == 1) = false := by simp; omega
      go_wp2_with fail
      with_reducible refine (pick_any vars br (p + 1 + 1) _ HR1.out (by omega) (by omega) (by omega)).mono ?_
      rintro e w2 ⟨y, rfl, hy, hb2⟩
      have ha2 := HA1.out.trans hb2
      have HA2 := Lib.hid ha2
      clear ha2 hb2
      go_wp2_with fail
      with_reducible refine (l71Var_any y _).mono ?_
      rintro e w3 ⟨rfl, hb3⟩
      have ha3 := HA2.out.more hb3
      obtain ⟨hc0, hc1, hc2, hf0, hf1, hf2⟩ := res_cells ha3 hlt
      clear hb3
      go_wp2_with fail
      refine bodyPost_ret (v := .agg #[.int .i64 0, .int .i64 y, .slice none 0 0]) ?_ rfl (drawn_ok (s := 0) (v := y) (k := .nil) (okz_var (by omega) (by omega)) ha3 hlt (by omega) (by omega) (by simp only [fsz]; omega) (.inl rfl))
      simp [results, Try.results68, go_sem, hc0, hc1, hc2]
    have x0 : ((x4 : Int) == 0) = false := by simpa using hx
    go_wp2_with fail
    with_reducible refine (pick_any 5 br (p + 1) _ HR.out (by omega) (by omega) (by omega)).mono ?_
    rintro e w1 ⟨x, rfl, hx5, hb⟩
    have ha : Adv (w.alloc (.cells #[.int .i64 0, .int .i64 0, .slice none 0 0] 35)) br (p + 1 + 1) w1 := HA.out.trans hb
    have hr1 := ha.rd (HR0.out.alloc _)
    have hsz1 := ha.size
    simp at hsz1
    have HA1 := Lib.hid ha
    have HR1 := Lib.hid hr1
    clear ha hb hr1 HA HR
    by_cases hx2 : x < 2
    · have g2 : decide ((x : Int) < 2) = true := by simp; omega
      go_wp2_with fail
      with_reducible refine (IH.out (deep - 1) vars br (p + 1 + 1) _ (by omega) (by omega) (by omega) h4 h5 HR1.out (by omega)).mono ?_
      rintro e w2 ⟨s', v', a', c', k', p', rfl, hok1, hp1, hp2, hsz, ha2, hl2⟩
      have ha3 := HA1.out.trans ha2
      have hsz2 := ha2.size
      have HA3 := Lib.hid ha3
      have HL := Lib.hid (kid1 (T := 35) (s := s') (v := v') (c := c') (hl2.mono (lo' := w.heap.size + 1) (by omega) (Nat.le_refl _)) (by omega))
      clear ha2 hl2 ha3
      go_wp2_with fail
      with_reducible refine (l71Of_any 3 _ 1 1 _).mono ?_
      rintro e w3 ⟨rfl, hb3⟩
      have ha4 := (HA3.out.alloc _).more hb3
      have HL3 := Lib.hid ((HL.out.below hb3).mono (Nat.le_refl _) hb3.size)
      obtain ⟨hc0, hc1, hc2, hf0, hf1, hf2⟩ := res_cells ha4 hlt
      clear hb3
      go_wp2_with fail
      refine bodyPost_ret (v := .agg #[.int .i64 3, .int .i64 0, .slice (some ⟨w2.heap.size, 0, none⟩) 1 1]) ?_ rfl (drawn_ok (s := 3) (v := 0) (k := .node 0 0 (s', v') k' .nil) (okz_g hok1) ha4 hlt (by omega) (by omega) (by simp only [fsz]; omega) HL3.out)
      simp [results, Try.results68, go_sem, hc0, hc1, hc2]
    · have g2 : decide ((x : Int) < 2) = false := by simp; omega
      go_wp2_with fail
      with_reducible refine (IH.out (deep - 1) vars br (p + 1 + 1) _ (by omega) (by omega) (by omega) h4 h5 HR1.out (by omega)).mono ?_
      rintro e w2 ⟨s', v', a', c', k', p', rfl, hok1, hp1, hp2, hsz, ha2, hl2⟩
      have ha3 := HA1.out.trans ha2
      have hsz2 := ha2.size
      have hr2 := ha2.rd HR1.out
      have HR2 := Lib.hid hr2
      have HA3 := Lib.hid ha3
      have HL := Lib.hid (hl2.mono (lo' := w.heap.size + 1) (by omega) (Nat.le_refl _))
      clear ha2 hl2 ha3 hr2
      go_wp2_with fail
      with_reducible refine (IH.out (deep - 1) vars br p' _ (by omega) (by omega) (by omega) h4 h5 HR2.out (by omega)).mono ?_
      rintro e w3 ⟨s2, v2, a2, c2, k2, p2, rfl, hok2, hp3, hp4, hszb, ha4, hl4⟩
      have ha5 := HA3.out.trans ha4
      have hsz3 := ha4.size
      have HA5 := Lib.hid ha5
      have HLK := Lib.hid (kid2 (T := 35) (s := s') (v := v') (c := c') (s' := s2) (v' := v2) (c' := c2) ((HL.out.same (ha4.same (Nat.le_refl _) (.inl (by omega)))).mono (Nat.le_refl _) hsz3) (hl4.mono (lo' := w.heap.size + 1) (by omega) (Nat.le_refl _)) (by omega))
      clear ha4 hl4 ha5
      go_wp2_with fail
      with_reducible refine (l71Of_any 4 _ 2 2 _).mono ?_
      rintro e w4 ⟨rfl, hb3⟩
      have ha6 := (HA5.out.alloc _).more hb3
      have HL3 := Lib.hid ((HLK.out.below hb3).mono (Nat.le_refl _) hb3.size)
      obtain ⟨hc0, hc1, hc2, hf0, hf1, hf2⟩ := res_cells ha6 hlt
      clear hb3
      go_wp2_with fail
      refine bodyPost_ret (v := .agg #[.int .i64 4, .int .i64 0, .slice (some ⟨w3.heap.size, 0, none⟩) 2 2]) ?_ rfl (drawn_ok (s := 4) (v := 0) (k := .node 0 0 (s', v') k' (.node 0 0 (s2, v2) k2 .nil)) (okz_f hok1 hok2) ha6 hlt (by omega) (by omega) (by simp only [fsz]; omega) HL3.out)
      simp [results, Try.results68, go_sem, hc0, hc1, hc2]
end Go.Proofs.Ytdkcbbhkoibplaa

/-! LB: What the walks of laws hold on to: boxes of terms, and what stays when memory is added. Plain lemmas. -/
namespace Go.Proofs.Ytdkcbbhkoibplaa
open Go.RowKit Go.Deep

/-- Block b is a box that holds the term s v k; what it leads to lies in memory. -/
structure Tb (b : Nat) (s v : Int) (a : Option Addr) (c : Nat) (k : Fo) (w : World) : Prop where
  c0 : w.cell? ⟨b, 0, none⟩ = some (.int .i64 s)
  c1 : w.cell? ⟨b, 1, none⟩ = some (.int .i64 v)
  c2 : w.cell? ⟨b, 2, none⟩ = some (.slice a (flen k) c)
  sl : Sl w 0 w.heap.size a k
theorem Tb.next {b : Nat} {s v : Int} {a : Option Addr} {c : Nat} {k : Fo} {w w2 : World} (h : Tb b s v a c k w) (hb : Below w.heap.size w w2) : Tb b s v a c k w2 :=
  ⟨cell_low hb h.c0, cell_low hb h.c1, cell_low hb h.c2, (h.sl.below hb).mono (Nat.le_refl _) hb.size⟩
theorem Tb.new {s v : Int} {a : Option Addr} {c : Nat} {k : Fo} {w : World} {lo : Nat} (h : Sl w lo w.heap.size a k) : Tb w.heap.size s v a c k (w.alloc (.cells #[.int .i64 s, .int .i64 v, .slice a (flen k) c] 35)) := by
  have hb : Below w.heap.size w (w.alloc (.cells #[.int .i64 s, .int .i64 v, .slice a (flen k) c] 35)) := (Below.refl _ _).alloc (Nat.le_refl _) _
  refine ⟨?_, ?_, ?_, ((h.mono (Nat.zero_le _) (Nat.le_refl _)).below hb).mono (Nat.le_refl _) hb.size⟩
  · rw [World.cell?_alloc_at _ _ _ _ (by simp)]; rfl
  · rw [World.cell?_alloc_at _ _ _ _ (by simp)]; rfl
  · rw [World.cell?_alloc_at _ _ _ _ (by simp)]; rfl
theorem box_low (w : World) (o : Obj) : Below w.heap.size w (w.alloc o) := (Below.refl _ _).alloc (Nat.le_refl _) o
theorem Sl.next {w w2 : World} {lo : Nat} {a : Option Addr} {k : Fo} (h : Sl w lo w.heap.size a k) (hb : Below w.heap.size w w2) : Sl w2 0 w2.heap.size a k := ((h.mono (Nat.zero_le _) (Nat.le_refl _)).below hb).mono (Nat.le_refl _) hb.size
theorem BSl.next {w w2 : World} {lo : Nat} {a : Option Addr} {bs : List Bd} (h : BSl w lo w.heap.size a bs) (hb : Below w.heap.size w w2) : BSl w2 0 w2.heap.size a bs := ((h.mono (Nat.zero_le _) (Nat.le_refl _)).below hb).mono (Nat.le_refl _) hb.size
theorem ISl.next {w w2 : World} {lo : Nat} {a : Option Addr} {xs : List Int} (h : ISl w lo w.heap.size a xs) (hb : Below w.heap.size w w2) : ISl w2 0 w2.heap.size a xs := ((h.mono (Nat.zero_le _) (Nat.le_refl _)).below hb).mono (Nat.le_refl _) hb.size
theorem ISc.next {w w2 : World} {lo : Nat} {a : Option Addr} {c : Nat} {xs : List Int} (h : ISc w lo w.heap.size a c xs) (hb : Below w.heap.size w w2) : ISc w2 0 w2.heap.size a c xs := ⟨h.1.next hb, h.2⟩
theorem RSl.next {w w2 : World} {lo : Nat} {a : Option Addr} {rows : List (List Int)} (h : RSl w lo w.heap.size a rows) (hb : Below w.heap.size w w2) : RSl w2 0 w2.heap.size a rows := ((h.mono (Nat.zero_le _) (Nat.le_refl _)).below hb).mono (Nat.le_refl _) hb.size
theorem below_next {w0 w w2 : World} (h : Below w0.heap.size w0 w) (hb : Below w.heap.size w w2) : Below w0.heap.size w0 w2 := h.trans (hb.mono h.size)
theorem Bytes.next {w wn : World} {a : Option Addr} {len : Nat} (h : Bytes w a len) (hb : Below w.heap.size w wn) : Bytes wn a len := by
  rcases h with h | ⟨b, o, e, h1, h2⟩
  · exact .inl h
  · refine .inr ⟨b, o, e, Nat.lt_of_lt_of_le h1 hb.size, fun i hi => ?_⟩
    obtain ⟨x, hx, hc⟩ := h2 i hi
    exact ⟨x, hx, cell_low hb hc⟩
end Go.Proofs.Ytdkcbbhkoibplaa
