/- Several texts in one: MT0, TP, WI, WJ0. -/
import Derived.Test.YtlaaihnokoeliabKPla4
import Derived.Test.YtlaaihnokoeliabKPla9
import Derived.Test.YtlaaihnokoeliabKPla6
import Derived.Test.YtlaaihnokoeliabKPla2
import Derived.Test.YtlaaihnokoeliabKPla5

/-! MT0: Matching as plain data: what a pattern binds. Definitions and plain lemmas. -/
namespace Go.Proofs.Ytlaaihnokoeliab
open Go.RowKit Go.Deep

/-- Terms of a row without marks of where they lie. -/
def Zf (k : Fo) : Prop := fer k = k
theorem Zf.nil : Zf .nil := rfl
theorem zf_node {x y : Nat} {p : Int × Int} {k r : Fo} : Zf (.node x y p k r) ↔ x = 0 ∧ y = 0 ∧ Zf k ∧ Zf r := by
  simp only [Zf, fer, BT.node.injEq, true_and]
  constructor
  · rintro ⟨h1, h2, h3, h4⟩; exact ⟨h1.symm, h2.symm, h3, h4⟩
  · rintro ⟨h1, h2, h3, h4⟩; exact ⟨h1.symm, h2.symm, h3, h4⟩
theorem fer_fer : ∀ k : Fo, fer (fer k) = fer k
  | .nil => rfl
  | .node _ _ _ k r => by simp only [fer, fer_fer k, fer_fer r]
theorem zf_fer (k : Fo) : Zf (fer k) := fer_fer k
theorem fer_len : ∀ k : Fo, flen (fer k) = flen k
  | .nil => rfl
  | .node _ _ _ k r => by simp only [fer, flen, fer_len r]
theorem fer_sz : ∀ k : Fo, fsz (fer k) = fsz k
  | .nil => rfl
  | .node _ _ _ k r => by simp only [fer, fsz, fer_sz k, fer_sz r]
theorem fer_row {w : World} {lo B : Nat} : ∀ (k : Fo) (b o : Nat), Row w lo B k b o → Row w lo B (fer k) b o
  | .nil, _, _, _ => trivial
  | .node _ _ p k r, b, o, ⟨hl, h0, h1, h2, ⟨a, c, h3, h4⟩, h5⟩ => by
    refine ⟨hl, h0, h1, h2, ⟨a, c, by rw [fer_len]; exact h3, ?_⟩, fer_row r b (o + 3) h5⟩
    rcases h4 with rfl | ⟨b', o', e, h4⟩
    · exact .inl rfl
    · exact .inr ⟨b', o', e, fer_row k b' o' h4⟩
theorem Sl.fer {w : World} {lo B : Nat} {a : Option Addr} {k : Fo} (h : Sl w lo B a k) : Sl w lo B a (fer k) := by
  rcases h with rfl | ⟨b, o, e, h⟩
  · exact .inl rfl
  · exact .inr ⟨b, o, e, fer_row k b o h⟩
theorem feq_rfl : ∀ k : Fo, feq k k = true
  | .nil => rfl
  | .node _ _ p k r => by simp [feq, feq_rfl k, feq_rfl r]
theorem teq_rfl (s v : Int) (k : Fo) : teq s v k s v k = true := by simp [teq, feq_rfl]
theorem teq_z {s v : Int} {k : Fo} {s' v' : Int} {k' : Fo} (hk : Zf k) (hk' : Zf k') : teq s v k s' v' k' = true ↔ (s, v, k) = (s', v', k') := by
  rw [teq_iff, hk, hk']; simp

theorem sv_ladd {b : Bd} : ∀ {bs : List Bd}, sv bs b.1 = none → ∀ v, sv (ladd bs b) v = if b.1 = v then some b.2 else sv bs v
  | [], _, v => rfl
  | x :: r, h, v => by
    simp only [sv] at h
    by_cases e : x.1 = b.1
    · rw [if_pos e] at h; cases h
    · rw [if_neg e] at h
      simp only [ladd]
      by_cases hlt : b.1 < x.1
      · rw [if_pos hlt]; rfl
      · rw [if_neg hlt]
        simp only [sv]
        rw [sv_ladd h v]
        by_cases e2 : x.1 = v
        · rw [if_pos e2, if_neg (fun e' => e (e2.trans e'.symm))]; simp [e2]
        · rw [if_neg e2, if_neg e2]

/-- What a variable of a pattern binds. -/
def mtV (bs : List Bd) (x : Int) (t : Int × Int × Fo) : Option (List Bd) :=
  match sv bs x with
  | some u => if teq u.1 u.2.1 u.2.2 t.1 t.2.1 t.2.2 = true then some bs else none
  | none => some (ladd bs (x, t))
/-- What patterns of a row bind. -/
def fmt : List Bd → Fo → Fo → Option (List Bd)
  | bs, .nil, .nil => some bs
  | bs, .node _ _ p k r, .node _ _ q l m => (if p.1 = 0 then mtV bs p.2 (q.1, q.2, l) else if p.1 = q.1 then fmt bs k l else none).bind fun b1 => fmt b1 r m
  | _, _, _ => none
/-- What a pattern binds. -/
def tmt (bs : List Bd) (s v : Int) (k : Fo) (s' v' : Int) (k' : Fo) : Option (List Bd) := if s = 0 then mtV bs v (s', v', k') else if s = s' then fmt bs k k' else none
theorem fmt_node (bs : List Bd) (x y : Nat) (p : Int × Int) (k r : Fo) (x' y' : Nat) (q : Int × Int) (l m : Fo) : fmt bs (.node x y p k r) (.node x' y' q l m) = (tmt bs p.1 p.2 k q.1 q.2 l).bind fun b1 => fmt b1 r m := rfl

def Ext (bs bs' : List Bd) : Prop := ∀ x t, sv bs x = some t → sv bs' x = some t
def BZ (bs : List Bd) : Prop := ∀ x t, sv bs x = some t → Zf t.2.2
theorem BZ.nil : BZ [] := fun _ _ h => by simp [sv] at h
theorem ext_ladd {bs : List Bd} {b : Bd} (h : sv bs b.1 = none) : Ext bs (ladd bs b) := fun x t ht => by
  rw [sv_ladd h]
  by_cases e : b.1 = x
  · rw [← e, h] at ht; cases ht
  · rw [if_neg e]; exact ht
theorem mtV_cases {bs b1 : List Bd} {x : Int} {t : Int × Int × Fo} (h : mtV bs x t = some b1) : (∃ u, sv bs x = some u ∧ teq u.1 u.2.1 u.2.2 t.1 t.2.1 t.2.2 = true ∧ b1 = bs) ∨ (sv bs x = none ∧ b1 = ladd bs (x, t)) := by
  unfold mtV at h
  cases hs : sv bs x with
  | none => rw [hs] at h; exact .inr ⟨rfl, (Option.some.inj h).symm⟩
  | some u =>
    rw [hs] at h
    dsimp only at h
    split at h
    · rename_i he; exact .inl ⟨u, rfl, he, (Option.some.inj h).symm⟩
    · cases h
theorem mtV_sound {bs b1 : List Bd} {x : Int} {t : Int × Int × Fo} (h : mtV bs x t = some b1) (hz : BZ bs) (ht : Zf t.2.2) : Ext bs b1 ∧ BZ b1 ∧ sv b1 x = some t := by
  rcases mtV_cases h with ⟨u, hs, he, rfl⟩ | ⟨hs, rfl⟩
  · have := (teq_z (hz x u hs) ht).1 he
    have hu : u = t := this
    exact ⟨fun _ _ h => h, hz, by rw [hs, hu]⟩
  · refine ⟨ext_ladd hs, fun y u hu => ?_, by rw [sv_ladd (b := (x, t)) hs]; simp⟩
    rw [sv_ladd (b := (x, t)) hs] at hu
    split at hu
    · obtain rfl := Option.some.inj hu; exact ht
    · exact hz y u hu
theorem fsub_congr {σ τ : Int → Option (Int × Int × Fo)} : ∀ k : Fo, (∀ x ∈ fvl k, σ x = τ x) → fsub σ k = fsub τ k
  | .nil, _ => rfl
  | .node x y p k r, h => by
    simp only [fvl, List.mem_append] at h
    have hr := fsub_congr r (fun z hz => h z (.inr hz))
    simp only [fsub]
    by_cases e : p.1 = 0
    · have h0 := h p.2 (.inl (by rw [if_pos e]; simp))
      rw [if_pos e, if_pos e, h0, hr]
    · rw [if_neg e, if_neg e, fsub_congr k (fun z hz => h z (.inl (by rw [if_neg e]; exact hz))), hr]
theorem tsub_congr {σ τ : Int → Option (Int × Int × Fo)} {s v : Int} {k : Fo} (h : ∀ x ∈ fvs s v k, σ x = τ x) : tsub σ s v k = tsub τ s v k := by
  unfold tsub
  unfold fvs at h
  by_cases e : s = 0
  · rw [if_pos e] at h; rw [if_pos e, if_pos e, h v (by simp)]
  · rw [if_neg e] at h; rw [if_neg e, if_neg e, fsub_congr k h]

/-- What is bound makes the pattern the term. -/
theorem fmt_sound : ∀ (k l : Fo) (bs bs' : List Bd), fmt bs k l = some bs' → Zf k → Zf l → fok k = true → fok l = true → BZ bs → Ext bs bs' ∧ BZ bs' ∧ (∀ x ∈ fvl k, (sv bs' x).isSome = true) ∧ fsub (sv bs') k = l
  | .nil, .nil, bs, bs', h, _, _, _, _, hz => by
    obtain rfl := Option.some.inj h
    exact ⟨fun _ _ h => h, hz, fun x hx => by simp [fvl] at hx, rfl⟩
  | .nil, .node _ _ _ _ _, _, _, h, _, _, _, _, _ => by simp [fmt] at h
  | .node _ _ _ _ _, .nil, _, _, h, _, _, _, _, _ => by simp [fmt] at h
  | .node x y p k r, .node x' y' q l m, bs, bs', h, hzk, hzl, hok, hol, hz => by
    obtain ⟨rfl, rfl, hzk, hzr⟩ := zf_node.1 hzk
    obtain ⟨rfl, rfl, hzl, hzm⟩ := zf_node.1 hzl
    simp only [fok, Bool.and_eq_true] at hok hol
    rw [fmt_node] at h
    obtain ⟨b1, h1, h2⟩ := Option.bind_eq_some_iff.1 h
    unfold tmt at h1
    by_cases e : p.1 = 0
    · rw [if_pos e] at h1
      obtain ⟨g1, g2, g3⟩ := mtV_sound h1 hz hzl
      obtain ⟨i1, i2, i3, i4⟩ := fmt_sound r m b1 bs' h2 hzr hzm hok.2 hol.2 g2
      have h5 := i1 _ _ g3
      refine ⟨fun x t ht => i1 x t (g1 x t ht), i2, fun x hx => ?_, ?_⟩
      · simp only [fvl, if_pos e, List.mem_append, List.mem_singleton] at hx
        rcases hx with rfl | hx
        · rw [h5]; rfl
        · exact i3 x hx
      · simp only [fsub, if_pos e]; rw [h5, i4]
    · rw [if_neg e] at h1
      split at h1
      · rename_i e2
        obtain ⟨g1, g2, g3, g4⟩ := fmt_sound k l bs b1 h1 hzk hzl hok.1.2 hol.1.2 hz
        obtain ⟨i1, i2, i3, i4⟩ := fmt_sound r m b1 bs' h2 hzr hzm hok.2 hol.2 g2
        refine ⟨fun x t ht => i1 x t (g1 x t ht), i2, fun x hx => ?_, ?_⟩
        · simp only [fvl, if_neg e, List.mem_append] at hx
          rcases hx with hx | hx
          · obtain ⟨t, ht⟩ := Option.isSome_iff_exists.1 (g3 x hx)
            rw [i1 x t ht]; rfl
          · exact i3 x hx
        · have hc : fsub (sv bs') k = fsub (sv b1) k := fsub_congr k fun x hx => by
            obtain ⟨t, ht⟩ := Option.isSome_iff_exists.1 (g3 x hx)
            rw [ht, i1 x t ht]
          simp only [fsub, if_neg e]
          rw [hc, g4, i4]
          have v1 := ((okN_iff _ _ _).1 hok.1.1).2.2 e
          have v2 := ((okN_iff _ _ _).1 hol.1.1).2.2 (e2 ▸ e)
          have : p = q := Prod.ext e2 (v1.trans v2.symm)
          rw [this]
      · cases h1
theorem tmt_sound {bs bs' : List Bd} {s v : Int} {k : Fo} {s' v' : Int} {k' : Fo} (h : tmt bs s v k s' v' k' = some bs') (hk : Zf k) (hk' : Zf k') (h1 : okN s v (flen k) = true) (h2 : fok k = true) (h1' : okN s' v' (flen k') = true) (h2' : fok k' = true) (hz : BZ bs) :
    Ext bs bs' ∧ BZ bs' ∧ (∀ x ∈ fvs s v k, (sv bs' x).isSome = true) ∧ tsub (sv bs') s v k = (s', v', k') := by
  unfold tmt at h
  unfold fvs tsub
  by_cases e : s = 0
  · rw [if_pos e] at h
    obtain ⟨g1, g2, g3⟩ := mtV_sound h hz hk'
    refine ⟨g1, g2, fun x hx => ?_, ?_⟩
    · rw [if_pos e] at hx
      simp only [List.mem_singleton] at hx
      subst hx; rw [g3]; rfl
    · rw [if_pos e, g3]; rfl
  · rw [if_neg e] at h
    split at h
    · rename_i e2
      obtain ⟨g1, g2, g3, g4⟩ := fmt_sound k k' bs bs' h hk hk' h2 h2' hz
      refine ⟨g1, g2, fun x hx => g3 x (by rw [if_neg e] at hx; exact hx), ?_⟩
      have v1 := ((okN_iff _ _ _).1 h1).2.2 e
      have v2 := ((okN_iff _ _ _).1 h1').2.2 (e2 ▸ e)
      rw [if_neg e, g4, e2, v1, v2]
    · cases h

/-- Nothing bound says otherwise. -/
def Agrees (bs : List Bd) (σ : Int → Option (Int × Int × Fo)) : Prop := ∀ x t, sv bs x = some t → tsub σ 0 x .nil = t
theorem Agrees.nil (σ : Int → Option (Int × Int × Fo)) : Agrees [] σ := fun _ _ h => by simp [sv] at h
theorem tsub0 (σ : Int → Option (Int × Int × Fo)) (x : Int) (k : Fo) : tsub σ 0 x k = (σ x).getD (0, x, k) := by unfold tsub; rw [if_pos rfl]
theorem mtV_made {bs : List Bd} {σ : Int → Option (Int × Int × Fo)} (h : Agrees bs σ) (x : Int) : ∃ b1, mtV bs x (tsub σ 0 x .nil) = some b1 ∧ Agrees b1 σ := by
  unfold mtV
  cases hs : sv bs x with
  | some u =>
    dsimp only
    rw [h x u hs, if_pos (teq_rfl _ _ _)]
    exact ⟨bs, rfl, h⟩
  | none =>
    refine ⟨_, rfl, fun y t ht => ?_⟩
    rw [sv_ladd (b := (x, tsub σ 0 x .nil)) hs] at ht
    split at ht
    · rename_i e; dsimp only at e; rw [← e]; exact Option.some.inj ht
    · exact h y t ht
theorem fmt_made (σ : Int → Option (Int × Int × Fo)) : ∀ (k : Fo) (bs : List Bd), fok k = true → Agrees bs σ → ∃ bs', fmt bs k (fsub σ k) = some bs' ∧ Agrees bs' σ
  | .nil, bs, _, h => ⟨bs, rfl, h⟩
  | .node x y p k r, bs, hok, h => by
    simp only [fok, Bool.and_eq_true] at hok
    by_cases e : p.1 = 0
    · obtain ⟨b1, hb1, ha1⟩ := mtV_made h p.2
      obtain ⟨b2, hb2, ha2⟩ := fmt_made σ r b1 hok.2 ha1
      refine ⟨b2, ?_, ha2⟩
      have hk : k = .nil := kids_none (v := p.2) (by rw [← e]; exact hok.1.1)
      rw [tsub0] at hb1
      simp only [fsub, if_pos e]
      cases hs : σ p.2 with
      | some t =>
        rw [hs] at hb1
        rw [fmt_node, tmt, if_pos e]
        dsimp only
        have : mtV bs p.2 (t.1, t.2.1, t.2.2) = some b1 := hb1
        rw [this]; exact hb2
      | none =>
        rw [hs] at hb1
        rw [fmt_node, tmt, if_pos e, e, hk]
        have : mtV bs p.2 (0, p.2, .nil) = some b1 := hb1
        rw [this]; exact hb2
    · obtain ⟨b1, hb1, ha1⟩ := fmt_made σ k bs hok.1.2 h
      obtain ⟨b2, hb2, ha2⟩ := fmt_made σ r b1 hok.2 ha1
      refine ⟨b2, ?_, ha2⟩
      simp only [fsub, if_neg e]
      rw [fmt_node, tmt, if_neg e, if_pos rfl, hb1]
      exact hb2
theorem tmt_made (σ : Int → Option (Int × Int × Fo)) {bs : List Bd} {s v : Int} {k : Fo} (h1 : okN s v (flen k) = true) (h2 : fok k = true) (h : Agrees bs σ) {s' v' : Int} {k' : Fo} (he : tsub σ s v k = (s', v', k')) : ∃ bs', tmt bs s v k s' v' k' = some bs' ∧ Agrees bs' σ := by
  unfold tmt
  by_cases e : s = 0
  · subst e
    have hk := kids_none h1
    subst hk
    rw [if_pos rfl]
    obtain ⟨b1, hb1, ha1⟩ := mtV_made h v
    rw [he] at hb1
    exact ⟨b1, hb1, ha1⟩
  · rw [if_neg e]
    unfold tsub at he
    rw [if_neg e] at he
    simp only [Prod.mk.injEq] at he
    obtain ⟨rfl, rfl, rfl⟩ := he
    rw [if_pos rfl]
    exact fmt_made σ k bs h2 h

/-- Which variables are bound. -/
theorem mtV_dom {bs b1 : List Bd} {x : Int} {t : Int × Int × Fo} (h : mtV bs x t = some b1) (y : Int) : (sv b1 y).isSome = true ↔ (sv bs y).isSome = true ∨ y = x := by
  rcases mtV_cases h with ⟨u, hs, he, rfl⟩ | ⟨hs, rfl⟩
  · constructor
    · exact fun h => .inl h
    · rintro (h | rfl)
      · exact h
      · rw [hs]; rfl
  · rw [sv_ladd (b := (x, t)) hs]
    dsimp only
    split
    · rename_i e; simp [e]
    · rename_i e; exact ⟨fun h => .inl h, fun h => h.elim id fun h => absurd h.symm e⟩
theorem fmt_dom : ∀ (k l : Fo) (bs bs' : List Bd), fmt bs k l = some bs' → ∀ y, (sv bs' y).isSome = true ↔ (sv bs y).isSome = true ∨ y ∈ fvl k
  | .nil, .nil, bs, bs', h, y => by obtain rfl := Option.some.inj h; simp [fvl]
  | .nil, .node _ _ _ _ _, _, _, h, _ => by simp [fmt] at h
  | .node _ _ _ _ _, .nil, _, _, h, _ => by simp [fmt] at h
  | .node x' y' p k r, .node _ _ q l m, bs, bs', h, y => by
    rw [fmt_node] at h
    obtain ⟨b1, h1, h2⟩ := Option.bind_eq_some_iff.1 h
    unfold tmt at h1
    rw [fmt_dom r m b1 bs' h2 y]
    simp only [fvl, List.mem_append]
    by_cases e : p.1 = 0
    · rw [if_pos e] at h1
      rw [mtV_dom h1 y, if_pos e, List.mem_singleton, or_assoc]
    · rw [if_neg e] at h1
      split at h1
      · rw [fmt_dom k l bs b1 h1 y, if_neg e, or_assoc]
      · cases h1
theorem tmt_dom {bs bs' : List Bd} {s v : Int} {k : Fo} {s' v' : Int} {k' : Fo} (h : tmt bs s v k s' v' k' = some bs') (y : Int) : (sv bs' y).isSome = true ↔ (sv bs y).isSome = true ∨ y ∈ fvs s v k := by
  unfold tmt at h
  unfold fvs
  by_cases e : s = 0
  · rw [if_pos e] at h; rw [mtV_dom h y, if_pos e, List.mem_singleton]
  · rw [if_neg e] at h
    split at h
    · rw [fmt_dom k k' bs bs' h y, if_neg e]
    · cases h

/-- Ascending by variables. -/
def Asc (bs : List Bd) : Prop := bs.Pairwise fun x y => x.1 < y.1
theorem ladd_mem {b : Bd} : ∀ {bs : List Bd} {z : Bd}, z ∈ ladd bs b ↔ z = b ∨ z ∈ bs
  | [], z => by simp [ladd]
  | x :: r, z => by
    simp only [ladd]
    split
    · simp
    · simp only [List.mem_cons, ladd_mem (bs := r)]
      constructor
      · rintro (h | h | h)
        · exact .inr (.inl h)
        · exact .inl h
        · exact .inr (.inr h)
      · rintro (h | h | h)
        · exact .inr (.inl h)
        · exact .inl h
        · exact .inr (.inr h)
theorem asc_ladd {b : Bd} : ∀ {bs : List Bd}, Asc bs → sv bs b.1 = none → Asc (ladd bs b)
  | [], _, _ => List.pairwise_singleton _ _
  | x :: r, h, hs => by
    obtain ⟨h1, h2⟩ := List.pairwise_cons.1 h
    simp only [sv] at hs
    by_cases e : x.1 = b.1
    · rw [if_pos e] at hs; cases hs
    · rw [if_neg e] at hs
      simp only [ladd]
      by_cases hlt : b.1 < x.1
      · rw [if_pos hlt]
        refine List.pairwise_cons.2 ⟨fun z hz => ?_, h⟩
        rcases List.mem_cons.1 hz with rfl | hz
        · exact hlt
        · exact Int.lt_trans hlt (h1 z hz)
      · rw [if_neg hlt]
        refine List.pairwise_cons.2 ⟨fun z hz => ?_, asc_ladd h2 hs⟩
        rcases ladd_mem.1 hz with rfl | hz
        · omega
        · exact h1 z hz
theorem fmt_asc : ∀ (k l : Fo) (bs bs' : List Bd), fmt bs k l = some bs' → Asc bs → Asc bs'
  | .nil, .nil, bs, bs', h, ha => by obtain rfl := Option.some.inj h; exact ha
  | .nil, .node _ _ _ _ _, _, _, h, _ => by simp [fmt] at h
  | .node _ _ _ _ _, .nil, _, _, h, _ => by simp [fmt] at h
  | .node x' y' p k r, .node _ _ q l m, bs, bs', h, ha => by
    rw [fmt_node] at h
    obtain ⟨b1, h1, h2⟩ := Option.bind_eq_some_iff.1 h
    unfold tmt at h1
    refine fmt_asc r m b1 bs' h2 ?_
    by_cases e : p.1 = 0
    · rw [if_pos e] at h1
      rcases mtV_cases h1 with ⟨u, hs, he, rfl⟩ | ⟨hs, rfl⟩
      · exact ha
      · exact asc_ladd ha hs
    · rw [if_neg e] at h1
      split at h1
      · exact fmt_asc k l bs b1 h1 ha
      · cases h1
theorem tmt_asc {bs bs' : List Bd} {s v : Int} {k : Fo} {s' v' : Int} {k' : Fo} (h : tmt bs s v k s' v' k' = some bs') (ha : Asc bs) : Asc bs' := by
  unfold tmt at h
  by_cases e : s = 0
  · rw [if_pos e] at h
    rcases mtV_cases h with ⟨u, hs, he, rfl⟩ | ⟨hs, rfl⟩
    · exact ha
    · exact asc_ladd ha hs
  · rw [if_neg e] at h
    split at h
    · exact fmt_asc k k' bs bs' h ha
    · cases h

/-- What is bound is a part of the term. -/
def Bof (bs : List Bd) (M : Nat) : Prop := ∀ x t, sv bs x = some t → okN t.1 t.2.1 (flen t.2.2) = true ∧ fok t.2.2 = true ∧ fsz t.2.2 ≤ M
theorem Bof.nil (M : Nat) : Bof [] M := fun _ _ h => by simp [sv] at h
theorem mtV_of {bs b1 : List Bd} {x : Int} {t : Int × Int × Fo} {M : Nat} (h : mtV bs x t = some b1) (hb : Bof bs M) (h1 : okN t.1 t.2.1 (flen t.2.2) = true) (h2 : fok t.2.2 = true) (h3 : fsz t.2.2 ≤ M) : Bof b1 M := by
  rcases mtV_cases h with ⟨u, hs, he, rfl⟩ | ⟨hs, rfl⟩
  · exact hb
  · intro y u hu
    rw [sv_ladd (b := (x, t)) hs] at hu
    split at hu
    · obtain rfl := Option.some.inj hu; exact ⟨h1, h2, h3⟩
    · exact hb y u hu
theorem fmt_of {M : Nat} : ∀ (k l : Fo) (bs bs' : List Bd), fmt bs k l = some bs' → Bof bs M → fok l = true → fsz l ≤ M → Bof bs' M
  | .nil, .nil, bs, bs', h, ha, _, _ => by obtain rfl := Option.some.inj h; exact ha
  | .nil, .node _ _ _ _ _, _, _, h, _, _, _ => by simp [fmt] at h
  | .node _ _ _ _ _, .nil, _, _, h, _, _, _ => by simp [fmt] at h
  | .node x' y' p k r, .node _ _ q l m, bs, bs', h, ha, hol, hM => by
    simp only [fok, Bool.and_eq_true] at hol
    simp only [fsz] at hM
    rw [fmt_node] at h
    obtain ⟨b1, h1, h2⟩ := Option.bind_eq_some_iff.1 h
    unfold tmt at h1
    refine fmt_of r m b1 bs' h2 ?_ hol.2 (by omega)
    by_cases e : p.1 = 0
    · rw [if_pos e] at h1
      exact mtV_of h1 ha hol.1.1 hol.1.2 (by dsimp only; omega)
    · rw [if_neg e] at h1
      split at h1
      · exact fmt_of k l bs b1 h1 ha hol.1.2 (by omega)
      · cases h1
theorem tmt_of {bs bs' : List Bd} {s v : Int} {k : Fo} {s' v' : Int} {k' : Fo} {M : Nat} (h : tmt bs s v k s' v' k' = some bs') (ha : Bof bs M) (h1 : okN s' v' (flen k') = true) (h2 : fok k' = true) (h3 : fsz k' ≤ M) : Bof bs' M := by
  unfold tmt at h
  by_cases e : s = 0
  · rw [if_pos e] at h; exact mtV_of h ha h1 h2 h3
  · rw [if_neg e] at h
    split at h
    · exact fmt_of k k' bs bs' h ha h2 h3
    · cases h
theorem mtV_len {bs b1 : List Bd} {x : Int} {t : Int × Int × Fo} (h : mtV bs x t = some b1) : b1.length ≤ bs.length + 1 := by
  rcases mtV_cases h with ⟨u, hs, he, rfl⟩ | ⟨hs, rfl⟩
  · omega
  · rw [ladd_len]; omega
theorem fmt_blen : ∀ (k l : Fo) (bs bs' : List Bd), fmt bs k l = some bs' → bs'.length ≤ bs.length + fsz k
  | .nil, .nil, bs, bs', h => by obtain rfl := Option.some.inj h; omega
  | .nil, .node _ _ _ _ _, _, _, h => by simp [fmt] at h
  | .node _ _ _ _ _, .nil, _, _, h => by simp [fmt] at h
  | .node x' y' p k r, .node _ _ q l m, bs, bs', h => by
    rw [fmt_node] at h
    obtain ⟨b1, h1, h2⟩ := Option.bind_eq_some_iff.1 h
    unfold tmt at h1
    have := fmt_blen r m b1 bs' h2
    simp only [fsz]
    by_cases e : p.1 = 0
    · rw [if_pos e] at h1
      have := mtV_len h1
      omega
    · rw [if_neg e] at h1
      split at h1
      · have := fmt_blen k l bs b1 h1
        omega
      · cases h1
theorem tmt_blen {bs bs' : List Bd} {s v : Int} {k : Fo} {s' v' : Int} {k' : Fo} (h : tmt bs s v k s' v' k' = some bs') : bs'.length ≤ bs.length + (1 + fsz k) := by
  unfold tmt at h
  by_cases e : s = 0
  · rw [if_pos e] at h; have := mtV_len h; omega
  · rw [if_neg e] at h
    split at h
    · have := fmt_blen k k' bs bs' h; omega
    · cases h
/-- Row by row. -/
theorem fmt_step {bs : List Bd} {k l : Fo} {j x y x' y' : Nat} {s v s' v' : Int} {kk kk' : Fo} (h : fdrop j k = .node x y (s, v) kk (fdrop (j + 1) k)) (h' : fdrop j l = .node x' y' (s', v') kk' (fdrop (j + 1) l)) : fmt bs (fdrop j k) (fdrop j l) = (tmt bs s v kk s' v' kk').bind fun b1 => fmt b1 (fdrop (j + 1) k) (fdrop (j + 1) l) := by
  rw [h, h', fmt_node]

theorem sv_mem : ∀ {bs : List Bd} {x : Bd}, Asc bs → x ∈ bs → sv bs x.1 = some x.2
  | [], _, _, h => by cases h
  | y :: r, x, ha, h => by
    obtain ⟨h1, h2⟩ := List.pairwise_cons.1 ha
    simp only [sv]
    rcases List.mem_cons.1 h with rfl | h
    · rw [if_pos rfl]
    · rw [if_neg (by have := h1 x h; omega)]; exact sv_mem h2 h
theorem mem_sv : ∀ {bs : List Bd} {x : Int} {t : Int × Int × Fo}, sv bs x = some t → (x, t) ∈ bs
  | [], _, _, h => by simp [sv] at h
  | y :: r, x, t, h => by
    simp only [sv] at h
    split at h
    · rename_i e
      obtain rfl := Option.some.inj h
      rw [← e]; exact List.mem_cons_self
    · exact List.mem_cons_of_mem _ (mem_sv h)
theorem sokFrom_of : ∀ (bs : List Bd) (last : Int), Asc bs → (∀ x ∈ bs, last < x.1 ∧ x.1 < 12 ∧ okW x.2.1 x.2.2.1 x.2.2.2 16 = true) → sokFrom 16 last bs = true
  | [], _, _, _ => rfl
  | y :: r, last, ha, h => by
    obtain ⟨h1, h2⟩ := List.pairwise_cons.1 ha
    have hy := h y List.mem_cons_self
    simp only [sokFrom, Bool.and_eq_true, decide_eq_true_eq]
    exact ⟨hy.2.2, hy.1, hy.2.1, sokFrom_of r y.1 h2 fun x hx => ⟨h1 x hx, (h x (List.mem_cons_of_mem _ hx)).2⟩⟩
/-- In form. -/
theorem sok_of {bs : List Bd} (ha : Asc bs) (hr : ∀ x, (sv bs x).isSome = true → 0 ≤ x ∧ x ≤ 11) (hb : Bof bs 15) : sok 16 bs = true := by
  refine sokFrom_of bs (-1) ha fun x hx => ?_
  have hs := sv_mem ha hx
  have h1 := hr x.1 (by rw [hs]; rfl)
  have h2 := hb x.1 x.2 hs
  exact ⟨by omega, by omega, (okW_iff _ _ _ _).2 ⟨h2.1, h2.2.1, by have := h2.2.2; omega⟩⟩
/-- The answer of MatchOf. -/
def maR (s v : Int) (k : Fo) (s' v' : Int) (k' : Fo) : List Bd × Bool :=
  if okW s v k 16 = true ∧ okW s' v' k' 16 = true then (match tmt [] s v k s' v' k' with
    | some bs => (bs, true)
    | none => ([], false)) else ([], false)
theorem maR_cases {s v : Int} {k : Fo} {s' v' : Int} {k' : Fo} {bs : List Bd} {t : Bool} (h : maR s v k s' v' k' = (bs, t)) :
    (t = false ∧ bs = []) ∨ (t = true ∧ okW s v k 16 = true ∧ okW s' v' k' 16 = true ∧ tmt [] s v k s' v' k' = some bs) := by
  unfold maR at h
  split at h
  · rename_i hc
    cases ht : tmt [] s v k s' v' k' with
    | none => rw [ht] at h; simp only [Prod.mk.injEq] at h; exact .inl ⟨h.2.symm, h.1.symm⟩
    | some b =>
      rw [ht] at h
      simp only [Prod.mk.injEq] at h
      exact .inr ⟨h.2.symm, hc.1, hc.2, by rw [h.1]⟩
  · simp only [Prod.mk.injEq] at h; exact .inl ⟨h.2.symm, h.1.symm⟩
theorem maR_of {s v : Int} {k : Fo} {s' v' : Int} {k' : Fo} {bs : List Bd} (h1 : okW s v k 16 = true) (h2 : okW s' v' k' 16 = true) (h3 : tmt [] s v k s' v' k' = some bs) : maR s v k s' v' k' = (bs, true) := by
  unfold maR
  rw [if_pos ⟨h1, h2⟩, h3]
theorem maR_no {s v : Int} {k : Fo} {s' v' : Int} {k' : Fo} (h3 : tmt [] s v k s' v' k' = none) : maR s v k s' v' k' = ([], false) := by
  unfold maR
  rw [h3]; split <;> rfl
/-- What is known of an answer. -/
theorem maR_in {s v : Int} {k : Fo} {s' v' : Int} {k' : Fo} {bs : List Bd} {t : Bool} (h : maR s v k s' v' k' = (bs, t)) : Asc bs ∧ Bof bs 15 ∧ bs.length ≤ 16 ∧ (∀ x, (sv bs x).isSome = true → 0 ≤ x ∧ x ≤ 11) ∧ sok 16 bs = true := by
  rcases maR_cases h with ⟨_, rfl⟩ | ⟨_, h1, h2, h3⟩
  · exact ⟨List.Pairwise.nil, Bof.nil _, by simp, fun x h => by simp [sv] at h, rfl⟩
  · obtain ⟨o1, o2, o3⟩ := (okW_iff _ _ _ _).1 h1
    obtain ⟨p1, p2, p3⟩ := (okW_iff _ _ _ _).1 h2
    have g1 := tmt_asc h3 List.Pairwise.nil
    have g2 := tmt_of (M := 15) h3 (Bof.nil _) p1 p2 (by omega)
    have g3 := tmt_blen h3
    have g4 : ∀ x, (sv bs x).isSome = true → 0 ≤ x ∧ x ≤ 11 := fun x hx => by
      rcases (tmt_dom h3 x).1 hx with h | h
      · simp [sv] at h
      · exact fvs_in h1 x h
    exact ⟨g1, g2, by simp at g3; omega, g4, sok_of g1 g4 g2⟩
end Go.Proofs.Ytlaaihnokoeliab

/-! TP: What TermPlaces answers. -/
namespace Go.Proofs.Ytlaaihnokoeliab
open Go.RowKit Go.Deep

theorem isl_nil {w : World} {lo B : Nat} {a : Option Addr} : ISl w lo B a [] := Or.inl rfl

def TpPost (s v : Int) (k : Fo) (w : World) (e : Ending) (w' : World) : Prop :=
  ∃ A C rows, e = .returned (.slice A rows.length C) ∧ rows = (if okW s v k 16 = true then places k else []) ∧ Below w.heap.size w w' ∧ RSl w' w.heap.size w'.heap.size A rows
end Go.Proofs.Ytlaaihnokoeliab

/-! WI: l71Bad. -/
namespace Go.Proofs.Ytlaaihnokoeliab
open Go.RowKit Go.Deep
attribute [local go_sem ↓] Go.wp_at_zero Go.wp_at_succ

theorem l1Count_n (N : Nat) (s v : Int) (a : Option Addr) (c : Nat) (k : Fo) (most : Int) (w : World) (n : Nat) (hn : flen k = n) (hl : Sl w 0 w.heap.size a k) (h1 : -1000 ≤ most) (h2 : most ≤ 1000) (h3 : most ≤ N) :
    Calls Try.prog 39 #[.agg #[.int .i64 s, .int .i64 v, .slice a n c], .int .i64 most] w fun e w' => e = .returned (.int .i64 (cntT s v k most)) ∧ Below w.heap.size w w' := by
  subst hn
  exact l1Count_any N s v a c k most w hl h1 h2 h3

/-- What holds at the head of the loop that doubles. -/
def BadLoop (w : World) (br p S j : Nat) (wr : World) : Prop :=
  ∃ s v A C k, BadAt w br p s v A (flen k) C wr ∧ Sl wr (w.heap.size + 2) wr.heap.size A k ∧ fsz k + 2 ≤ (S + 1) * 2 ^ j
theorem bad_size {n S j : Nat} (h : n + 2 ≤ (S + 1) * 2 ^ j) (hj : j ≤ 8) (hS : 1 ≤ S) : 1 + n ≤ 1000 * S := by
  have h2 : 2 ^ j ≤ 2 ^ 8 := Nat.pow_le_pow_right (by omega) hj
  have h3 : (S + 1) * 2 ^ j ≤ (S + 1) * 256 := Nat.mul_le_mul (Nat.le_refl _) h2
  omega

set_option maxRecDepth 100000 in
set_option maxHeartbeats 1000000 in
theorem l71Bad_any (s v : Int) (a : Option Addr) (c : Nat) (k : Fo) (br p S : Nat) (w : World) (hl : Sl w 0 w.heap.size a k) (hr : Rd w br p) (hp : p ≤ 100000000) (hS : 1 + fsz k ≤ S) (hS2 : S ≤ 1000) :
    Calls Try.prog 74 #[.pointer (some ⟨br, 0, none⟩), .agg #[.int .i64 s, .int .i64 v, .slice a (flen k) c]] w (DrawnPost br p 2 (1000 * S) w) := by
  have hlt := hr.lt
  have hfl := flen_le_sz k
  have HR := Lib.hid hr
  clear hr
  go_enter Try.func74, Try.ntmps74
  go_wp2_with fail
  with_reducible refine (l1Copy_any (fsz k) s v a c k _ ?_ (Nat.le_refl _) ?_).mono ?_
  · exact (hl.below (((Below.refl _ _).alloc (Nat.le_refl _) _).alloc (by simp) _)).mono (Nat.le_refl _) (by simp; omega)
  · omega
  rintro e w1 ⟨a1, c1, rfl, hb1, hown1⟩
  have hat := (BadAt.start HR.out s v a (flen k) c).more hlt hb1
  have ht0 := hat.t0
  have ht1 := hat.t1
  have ht2 := hat.t2
  have hf0 := hat.f0
  have hf1 := hat.f1
  have hf2 := hat.f2
  have HAT := Lib.hid (((hat.set0 hlt s).set1 hlt v).set2 hlt (A' := a1) (n' := flen k) (C' := c1))
  have HOWN : Hid (Own w1 (w.heap.size + 2) k (flen k) a1 c1) := hown1.low (Below.refl _ _) (by simp)
  clear hb1 hown1 hat
  go_wp2_with fail
  with_reducible refine (pick_any 6 br p _ HAT.out.rd (by omega) (by omega) (by omega)).mono ?_
  rintro e w2 ⟨x, rfl, hx, hb2⟩
  have ha2 : Adv _ br (p + 1) w2 := hb2
  have HAT2 := Lib.hid (HAT.out.call hlt ha2)
  have HOWN2 := Lib.hid ((((HOWN.out.store (by simp) (.int .i64 s) (q := ⟨w.heap.size, 0, none⟩)).store (by simp) (.int .i64 v) (q := ⟨w.heap.size, 1, none⟩)).store (by simp) (.slice a1 (flen k) c1) (q := ⟨w.heap.size, 2, none⟩)).adv ha2 (by omega))
  clear ht0 ht1 ht2 hf0 hf1 hf2 hb2 ha2 HAT HOWN
  by_cases hx0 : x = 0
  · subst hx0
    go_wp2_with fail
    with_reducible refine (pick_any 8 br (p + 1) _ HAT2.out.rd (by omega) (by omega) (by omega)).mono ?_
    rintro e w3 ⟨y, rfl, hy, hb3⟩
    have ha3 : Adv w2 br (p + 1 + 1) w3 := hb3
    have HAT3 := Lib.hid (HAT2.out.call hlt ha3)
    have HOWN3 := Lib.hid (HOWN2.out.adv ha3 (by omega))
    clear hb3 ha3
    have ht0 := HAT3.out.t0
    have ht1 := HAT3.out.t1
    have ht2 := HAT3.out.t2
    have hf0 := HAT3.out.f0
    have hf1 := HAT3.out.f1
    have hf2 := HAT3.out.f2
    have hr0 := HAT3.out.r0
    have hr1 := HAT3.out.r1
    have hr2 := HAT3.out.r2
    have hg0 := HAT3.out.g0
    have hg1 := HAT3.out.g1
    have hg2 := HAT3.out.g2
    have hy8 : (y : Int) < 8 := by omega
    go_wp2_with fail
    refine bodyPost_ret (v := .agg #[.int .i64 ((y : Int) - 1), .int .i64 v, .slice a1 (flen k) c1]) ?_ rfl ((HAT3.out.set0 hlt _).done (by omega) (by omega) (by omega) (HOWN3.out.store (by simp) _).sl)
    simp [results, Try.results74, go_sem, hr0, hr1, hr2]
  have x0 : ((x : Int) == 0) = false := by simpa using hx0
  by_cases hx1 : x = 1
  · subst hx1
    go_wp2_with fail
    with_reducible refine (pick_any 3 br (p + 1) _ (HAT2.out.rd.alloc _) (by omega) (by omega) (by omega)).mono ?_
    rintro e w3 ⟨y, rfl, hy, hb3⟩
    have ha3 : Adv (w2.alloc (.cells #[.int .i64 (-1), .int .i64 12, .int .i64 1] 3)) br (p + 1 + 1) w3 := hb3
    have hsz2 := HAT2.out.size
    have HAT3 := Lib.hid ((HAT2.out.more hlt ((Below.refl _ _).alloc (Nat.le_refl _) _)).call hlt ha3)
    have HOWN3 := Lib.hid ((HOWN2.out.low ((Below.refl _ _).alloc (Nat.le_refl _) _) (Nat.le_refl _)).adv ha3 (by omega))
    have hc0 := ha3.cell (q := ⟨w2.heap.size, 0, none⟩) (v := .int .i64 (-1)) (by simp) (by simp; omega)
    have hc1 := ha3.cell (q := ⟨w2.heap.size, 1, none⟩) (v := .int .i64 12) (by simp) (by simp; omega)
    have hc2 := ha3.cell (q := ⟨w2.heap.size, 2, none⟩) (v := .int .i64 1) (by simp) (by simp; omega)
    clear hb3 ha3
    have ht0 := HAT3.out.t0
    have ht1 := HAT3.out.t1
    have ht2 := HAT3.out.t2
    have hf0 := HAT3.out.f0
    have hf1 := HAT3.out.f1
    have hf2 := HAT3.out.f2
    have hr0 := HAT3.out.r0
    have hr1 := HAT3.out.r1
    have hr2 := HAT3.out.r2
    have hg0 := HAT3.out.g0
    have hg1 := HAT3.out.g1
    have hg2 := HAT3.out.g2
    have hy3 : y = 0 ∨ y = 1 ∨ y = 2 := by omega
    rcases hy3 with rfl | rfl | rfl
    · go_wp2_with fail
      refine bodyPost_ret (v := .agg #[.int .i64 s, .int .i64 (-1), .slice a1 (flen k) c1]) ?_ rfl ((HAT3.out.set1 hlt _).done (by omega) (by omega) (by omega) (HOWN3.out.store (by simp) _).sl)
      simp [results, Try.results74, go_sem, hr0, hr1, hr2]
    · go_wp2_with fail
      refine bodyPost_ret (v := .agg #[.int .i64 s, .int .i64 12, .slice a1 (flen k) c1]) ?_ rfl ((HAT3.out.set1 hlt _).done (by omega) (by omega) (by omega) (HOWN3.out.store (by simp) _).sl)
      simp [results, Try.results74, go_sem, hr0, hr1, hr2]
    · go_wp2_with fail
      refine bodyPost_ret (v := .agg #[.int .i64 s, .int .i64 1, .slice a1 (flen k) c1]) ?_ rfl ((HAT3.out.set1 hlt _).done (by omega) (by omega) (by omega) (HOWN3.out.store (by simp) _).sl)
      simp [results, Try.results74, go_sem, hr0, hr1, hr2]
  have x1 : ((x : Int) == 1) = false := by simp; omega
  by_cases hx2 : x = 2
  · subst hx2
    have ht2 := HAT2.out.t2
    have hf2 := HAT2.out.f2
    have hsz2 := HAT2.out.size
    have hu0 : ∀ u : After (w.heap.size + 2) w2, u.world.cell? ⟨w.heap.size, 2, none⟩ = some (.slice a1 (flen k) c1) := fun u => u.cell (by simp) ht2
    obtain ⟨ti, hti, htz, hts, htb⟩ := Try.infoTerm
    obtain ⟨xs, hown, hall⟩ := HOWN2.out
    have HTI := Lib.hid hti
    have HTZ := Lib.hid htz
    have HTS := Lib.hid hts
    have HTB := Lib.hid htb
    have HOWN := Lib.hid hown
    have HALL := Lib.hid hall
    have HLT : Hid (∀ g, (Value.slice a1 (flen k) c1).ownBlock = some g → w.heap.size + 2 ≤ g) := fun g hg => (hown.lt g hg).1
    clear hti htz hts htb hown hall
    go_wp2_with fail
    refine wp_region_mix (fun w' => ∃ u : After (w.heap.size + 2) w2, w' = u.world) [5, 6] [(0, 0), (1, 0), (2, 1), (3, 1), (4, 1), (5, 2), (6, 2)] (by kernel_rfl) (by kernel_rfl) ⟨⟨_, (Below.refl _ _).drew⟩, rfl⟩ ?_
    iterate 2
      refine mix_see rfl (fun K hK => ?_)
      go_simp
      refine hK _ ?_
      clear hK K
    clear hu0
    refine mix_hold rfl (fun K hK => ?_)
    go_simp
    with_reducible refine (l71Of_any 1 none 0 0 _).mono ?_
    rintro e w3 ⟨rfl, hb3'⟩
    have hb3 : Below w2.heap.size w2 w3 := bl_undrew hb3'
    have hs3 := hb3.size
    refine hK _ _ ⟨⟨_, hb3.mono (by omega)⟩, rfl⟩ ?_
    clear hK K hb3'
    refine mix_hold rfl (fun K hK => ?_)
    go_simp
    refine hK _ _ ⟨⟨_, (hb3.mono (by omega)).alloc (by omega) _⟩, rfl⟩ ?_
    clear hK K
    refine mix_hold rfl (fun K hK => ?_)
    refine step_append_lies _ (by rfl) _ _ _ (by rfl) (w.heap.size + 2) 25 ti _ 3 40 Try.underlying23 HTI.out HTZ.out HTS.out HTB.out rfl (by omega) (.slice a1 (flen k) c1) (flen k) xs (by rfl) (own_low ((Below.refl _ _).alloc (Nat.le_refl _) _) (own_low hb3 HOWN.out)) ⟨w3.heap.size, 0, none⟩ 1 1 [.int .i64 1, .int .i64 0, .slice none (flen .nil) 0] (by rfl) (by rfl) (World.news_of_block (heap_alloc_new _ _)) (by simp [Value.oneCell']) (by omega) (by unfold maxLen; omega) (by omega) (by simp; omega) (w3.heap.size + 1) (by simp) ?_
    intro g cap w4 hown4 hgrow hatg hg4
    have hlow : Below (w.heap.size + 2) w2 w4 := ((hb3.mono (by omega)).alloc (by omega) _).grown hgrow (by simp; omega) HLT.out
    have hz2 : w4.cell? ⟨w.heap.size, 2, none⟩ = some (.slice a1 (flen k) c1) := by rw [hlow.cell (by simp)]; exact ht2
    have hz3 : w4.frozen? ⟨w.heap.size, 2, none⟩ = false := by rw [hlow.frozen (by simp)]; exact hf2
    have hown5 : Own w4 (w.heap.size + 2) (fsnoc k (1, 0)) (flen k + 1) (some ⟨g, 0, none⟩) cap := by
      refine Own.append (k := fsnoc k (1, 0)) (kk := .nil) ⟨xs, HOWN.out, hown4, fun i hi => ?_⟩ hb3 (.inl rfl) (by omega) (fdrop_snoc_end (1, 0) k) hgrow hatg
      obtain ⟨x, y, s', v', kk, a', c', L, H, e, h0, h1, h2, hs, hL, hH, hg⟩ := HALL.out i hi
      exact ⟨x, y, s', v', kk, a', c', L, H, fdrop_snoc _ i k e, h0, h1, h2, hs, hL, hH, hg⟩
    have hat4 : BadAt w br (p + 1) s v a1 (flen k) c1 w4 := HAT2.out.keep hlt hlow (by have := hgrow.size; simp at this; omega)
    have HOWN5 := Lib.hid hown5
    have HAT4 := Lib.hid (hat4.set2 hlt (A' := some ⟨g, 0, none⟩) (n' := flen k + 1) (C' := cap))
    refine hK _ _ ⟨⟨_, hlow⟩, rfl⟩ ?_
    clear hK K hown4 hgrow hatg hown5
    refine mix_late rfl (fun K hK => ?_)
    go_simp
    refine hK _ _ ?_
    clear hK K
    refine mix_late rfl (fun K hK => ?_)
    go_simp
    refine hK _ _ ?_
    clear hK K
    refine mix_end ?_
    clear hz2 hz3 ht2 hf2
    have ht0 := HAT4.out.t0
    have ht1 := HAT4.out.t1
    have ht2 := HAT4.out.t2
    have hf0 := HAT4.out.f0
    have hf1 := HAT4.out.f1
    have hf2 := HAT4.out.f2
    have hr0 := HAT4.out.r0
    have hr1 := HAT4.out.r1
    have hr2 := HAT4.out.r2
    have hg0 := HAT4.out.g0
    have hg1 := HAT4.out.g1
    have hg2 := HAT4.out.g2
    have hkl := flen_snoc (1, 0) k
    have HKL := Lib.hid hkl
    have hks := fsz_snoc (1, 0) k
    have HKS := Lib.hid hks
    clear hkl hks
    go_wp2_with fail
    refine bodyPost_ret (v := .agg #[.int .i64 s, .int .i64 v, .slice (some ⟨g, 0, none⟩) (flen (fsnoc k (1, 0))) cap]) ?_ rfl (BadAt.done (k := fsnoc k (1, 0)) (by rw [HKL.out]; exact HAT4.out) (by omega) (by omega) (by rw [HKS.out]; omega) (Own.sl (by rw [HKL.out]; exact HOWN5.out.store (by simp) _)))
    rw [HKL.out]
    simp [results, Try.results74, go_sem, hr0, hr1, hr2]
  have x2 : ((x : Int) == 2) = false := by simp; omega
  by_cases hx3 : x = 3
  · subst hx3
    have HST : Hid (BadLoop w br (p + 1) S 0 w2) := ⟨s, v, a1, c1, k, HAT2.out, HOWN2.out.sl, by omega⟩
    clear HAT2 HOWN2
    go_wp2_with fail
    go_loopw [5] (fun i wr => ∃ j : Nat, j ≤ 8 ∧ i = .int .i64 j ∧ BadLoop w br (p + 1) S j wr) (fun i _ => 8 - (intOf i).toNat)
    case atStart => exact ⟨0, by omega, rfl, HST.out⟩
    case round =>
      clear HST
      obtain ⟨j, hj, rfl, s1, v1, A1, C1, k1, hat, hsl, hbd⟩ := hrel
      have ht0 := hat.t0
      have ht1 := hat.t1
      have ht2 := hat.t2
      have hf0 := hat.f0
      have hf1 := hat.f1
      have hf2 := hat.f2
      have hr0 := hat.r0
      have hr1 := hat.r1
      have hr2 := hat.r2
      have hg0 := hat.g0
      have hg1 := hat.g1
      have hg2 := hat.g2
      have hsz1 := hat.size
      by_cases hlt8 : j < 8
      · have HAT1 := Lib.hid hat
        have HL1 := Lib.hid (kid2 (T := 25) (s := s1) (v := v1) (c := C1) (s' := s1) (v' := v1) (c' := C1) hsl hsl hsz1)
        have HBD := Lib.hid hbd
        clear hat hsl hbd
        go_wp2_with fail
        with_reducible refine (l71Of_any 4 _ 2 2 _).mono ?_
        rintro e w3 ⟨rfl, hb3⟩
        have hat3 := (HAT1.out.more hlt ((Below.refl _ _).alloc (Nat.le_refl _) _)).more hlt hb3
        have hl3 := HL1.out.low hb3
        have hs3 := hat3.size
        have hat4 := ((hat3.set0 hlt 4).set1 hlt 0).set2 hlt (A' := some ⟨wr.heap.size, 0, none⟩) (n' := flen (.node 0 0 (s1, v1) k1 (.node 0 0 (s1, v1) k1 .nil))) (C' := 2)
        have hl4 := ((hl3.store (q := ⟨w.heap.size, 0, none⟩) (by simp) (.int .i64 4)).store (q := ⟨w.heap.size, 1, none⟩) (by simp) (.int .i64 0)).store (q := ⟨w.heap.size, 2, none⟩) (by simp) (.slice (some ⟨wr.heap.size, 0, none⟩) 2 2)
        have hbd4 : fsz (.node 0 0 (s1, v1) k1 (.node 0 0 (s1, v1) k1 .nil)) + 2 ≤ (S + 1) * 2 ^ (j + 1) := by
          have := HBD.out
          rw [Nat.pow_succ, ← Nat.mul_assoc]
          simp only [fsz]
          omega
        clear ht0 ht1 ht2 hf0 hf1 hf2 hr0 hr1 hr2 hg0 hg1 hg2
        have ht0 := hat3.t0
        have ht1 := hat3.t1
        have ht2 := hat3.t2
        have hf0 := hat3.f0
        have hf1 := hat3.f1
        have hf2 := hat3.f2
        have HAT4 := Lib.hid hat4
        have HL4 := Lib.hid hl4
        have HBD4 := Lib.hid hbd4
        clear hat3 hl3 hat4 hl4 hbd4 hb3
        go_wp2_with fail
        with_reducible refine (l1Count_n 60 4 0 (some ⟨wr.heap.size, 0, none⟩) 2 (.node 0 0 (s1, v1) k1 (.node 0 0 (s1, v1) k1 .nil)) 60 _ 2 rfl ?_ ?_ ?_ ?_).mono ?_
        · exact HL4.out.mono (Nat.zero_le _) (by simp)
        · omega
        · omega
        · omega
        rintro e w4 ⟨rfl, hb4⟩
        have hat5 := HAT4.out.more hlt hb4
        have hl5 := (HL4.out.mono (Nat.le_refl _) (show _ ≤ _ by simp)).low hb4
        clear ht0 ht1 ht2 hf0 hf1 hf2
        by_cases hcnt : 60 < cntT 4 0 (.node 0 0 (s1, v1) k1 (.node 0 0 (s1, v1) k1 .nil)) 60
        · have ht0 := hat5.t0
          have ht1 := hat5.t1
          have ht2 := hat5.t2
          have hf0 := hat5.f0
          have hf1 := hat5.f1
          have hf2 := hat5.f2
          have hr0 := hat5.r0
          have hr1 := hat5.r1
          have hr2 := hat5.r2
          have hg0 := hat5.g0
          have hg1 := hat5.g1
          have hg2 := hat5.g2
          have HAT5 := Lib.hid hat5
          have HL5 := Lib.hid hl5
          clear hat5 hl5 hb4
          go_wp2_with fail
          refine bodyPost_ret (v := .agg #[.int .i64 4, .int .i64 0, .slice (some ⟨wr.heap.size, 0, none⟩) 2 2]) ?_ rfl (HAT5.out.done (by omega) (by omega) (bad_size HBD4.out (by omega) (by omega)) HL5.out)
          simp [results, Try.results74, go_sem, hr0, hr1, hr2, flen]
        · have HREL : Hid (BadLoop w br (p + 1) S (j + 1) w4) := ⟨4, 0, _, 2, _, hat5, hl5, HBD4.out⟩
          clear hat5 hl5 hb4
          go_wp2_with fail
          go_roundw
          case rel => exact ⟨j + 1, by omega, by go_num, HREL.out⟩
          case measure => simp [intOf]; omega
      · have HAT1 := Lib.hid hat
        have HL1 := Lib.hid hsl
        have HBD := Lib.hid hbd
        clear hat hsl hbd
        go_wp2_with fail
        refine bodyPost_ret (v := .agg #[.int .i64 s1, .int .i64 v1, .slice A1 (flen k1) C1]) ?_ rfl (HAT1.out.done (by omega) (by omega) (bad_size HBD.out (by omega) (by omega)) HL1.out)
        simp [results, Try.results74, go_sem, hr0, hr1, hr2]
  have x3 : ((x : Int) == 3) = false := by simp; omega
  have ht0 := HAT2.out.t0
  have ht1 := HAT2.out.t1
  have ht2 := HAT2.out.t2
  have hf0 := HAT2.out.f0
  have hf1 := HAT2.out.f1
  have hf2 := HAT2.out.f2
  have hr0 := HAT2.out.r0
  have hr1 := HAT2.out.r1
  have hr2 := HAT2.out.r2
  have hg0 := HAT2.out.g0
  have hg1 := HAT2.out.g1
  have hg2 := HAT2.out.g2
  cases hk : k with
  | nil =>
    subst hk
    go_wp2_with fail
    refine bodyPost_ret (v := .agg #[.int .i64 s, .int .i64 v, .slice a1 (flen .nil) c1]) ?_ rfl (HAT2.out.done (by omega) (by omega) (by omega) HOWN2.out.sl)
    simp [results, Try.results74, go_sem, hr0, hr1, hr2]
  | node x' y' pk kk r =>
    subst hk
    have hpos : 0 < flen (.node x' y' pk kk r) := by simp [flen]
    obtain ⟨g, rfl, hgb, hgl, ⟨u0, hu0⟩, ⟨u1, hu1⟩, ⟨u2, hu2⟩, hz0, hz1, hz2⟩ := own_first HOWN2.out hpos
    have hne : g ≠ w.heap.size := by omega
    have hne1 : g ≠ w.heap.size + 1 := by omega
    have HSL := Lib.hid (own_put0 HOWN2.out 3 0)
    have HATF := Lib.hid (((HAT2.out.far hlt (q := ⟨g, 0, none⟩) hgb (.int .i64 3)).far hlt (q := ⟨g, 1, none⟩) hgb (.int .i64 0)).far hlt (q := ⟨g, 2, none⟩) hgb (.slice none 0 0))
    have hn : flen (.node x' y' pk kk r) = flen r + 1 := rfl
    have HN := Lib.hid hn
    clear hn
    have hS1 : 1 + fsz (BT.node 0 0 ((3 : Int), (0 : Int)) BT.nil r) ≤ 1000 * S := by
      have h3 : fsz (BT.node 0 0 ((3 : Int), (0 : Int)) BT.nil r) = fsz r + 1 := by simp [fsz]
      have h4 : fsz r + 1 ≤ fsz (.node x' y' pk kk r) := by simp only [fsz]; omega
      omega
    have hq0 := HATF.out.r0
    have hq1 := HATF.out.r1
    have hq2 := HATF.out.r2
    go_wp2_with fail
    refine bodyPost_ret (v := .agg #[.int .i64 s, .int .i64 v, .slice (some ⟨g, 0, none⟩) (flen (.node 0 0 (3, 0) .nil r)) c1]) ?_ rfl (BadAt.done (k := .node 0 0 (3, 0) .nil r) HATF.out (by omega) (by omega) hS1 (by simpa using HSL.out))
    simp [results, Try.results74, go_sem, hq0, hq1, hq2, flen]
end Go.Proofs.Ytlaaihnokoeliab

/-! WJ0: What the drawn functions of one term end with. -/
namespace Go.Proofs.Ytlaaihnokoeliab
open Go.RowKit Go.Deep

/-- A term of at most that size is handed back, in new memory. -/
def TermPost (S : Nat) (w : World) (e : Ending) (w' : World) : Prop :=
  ∃ s v a c k, e = .returned (.agg #[.int .i64 s, .int .i64 v, .slice a (flen k) c]) ∧ 1 + fsz k ≤ S ∧ Below w.heap.size w w' ∧ Sl w' w.heap.size w'.heap.size a k

theorem adv_low {w w1 w2 : World} {n br p : Nat} (hb : Below n w w1) (h1 : n ≤ br) (h2 : n ≤ w1.heap.size) (ha : Adv w1 br p w2) : Below n w w2 :=
  (hb.setCell (p := ⟨br, 1, none⟩) (by simpa using h1) (.int .i64 p)).trans (Below.mono ha h2)

/-- The result's cells, laid at the call's head, in a later world. -/
theorem res_low {w w2 : World} {x y z : Value} {T : TypeId} (hb : Below (w.heap.size + 1) (w.alloc (.cells #[x, y, z] T)) w2) :
    w2.cell? ⟨w.heap.size, 0, none⟩ = some x ∧ w2.cell? ⟨w.heap.size, 1, none⟩ = some y ∧ w2.cell? ⟨w.heap.size, 2, none⟩ = some z ∧
      w2.frozen? ⟨w.heap.size, 0, none⟩ = false ∧ w2.frozen? ⟨w.heap.size, 1, none⟩ = false ∧ w2.frozen? ⟨w.heap.size, 2, none⟩ = false := by
  refine ⟨?_, ?_, ?_, ?_, ?_, ?_⟩
  iterate 3
    · rw [hb.cell (by simp)]; simp
  iterate 3
    · rw [hb.frozen (by simp)]; simp
theorem term_end {w w2 : World} {S : Nat} {s v : Int} {a : Option Addr} {c : Nat} {k : Fo} {o : Obj} {x y z : Value} (hb : Below (w.heap.size + 1) (w.alloc o) w2) (hS : 1 + fsz k ≤ S) (hl : Sl w2 (w.heap.size + 1) w2.heap.size a k) :
    TermPost S w (.returned (.agg #[.int .i64 s, .int .i64 v, .slice a (flen k) c])) (((w2.setCell ⟨w.heap.size, 0, none⟩ x).setCell ⟨w.heap.size, 1, none⟩ y).setCell ⟨w.heap.size, 2, none⟩ z) := by
  refine ⟨s, v, a, c, k, rfl, hS, (((after_top hb).setCell (by simp) _).setCell (by simp) _).setCell (by simp) _, ?_⟩
  exact (((hl.store (q := ⟨w.heap.size, 0, none⟩) (by simp) x).store (q := ⟨w.heap.size, 1, none⟩) (by simp) y).store (q := ⟨w.heap.size, 2, none⟩) (by simp) z).mono (by omega) (by simp)

theorem Bytes.alloc {w : World} {a : Option Addr} {len : Nat} (h : Bytes w a len) (o : Obj) : Bytes (w.alloc o) a len := by
  rcases h with h | ⟨b, o', e, hb, h⟩
  · exact .inl h
  · refine .inr ⟨b, o', e, by simp; omega, fun i hi => ?_⟩
    obtain ⟨x, hx, hc⟩ := h i hi
    exact ⟨x, hx, by rw [World.cell?_alloc_lt _ _ _ hb]; exact hc⟩
end Go.Proofs.Ytlaaihnokoeliab
