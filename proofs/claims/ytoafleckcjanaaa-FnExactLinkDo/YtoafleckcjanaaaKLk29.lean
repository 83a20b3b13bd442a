/- Several texts in one: UN0, UN1, UB, UN2. -/
import Derived.Test.YtoafleckcjanaaaKLk28
import Derived.Test.YtoafleckcjanaaaKLk24

/-! UN0: What makes two terms the same: plain. Definitions and plain lemmas. -/
namespace Go.Proofs.Ytoafleckcjanaaa
open Go.RowKit Go.Deep

abbrev T3 := Int × Int × Fo
def ap (σ : Int → Option T3) (t : T3) : T3 := tsub σ t.1 t.2.1 t.2.2
def okT (t : T3) : Prop := okN t.1 t.2.1 (flen t.2.2) = true ∧ fok t.2.2 = true
def sz (t : T3) : Nat := 1 + fsz t.2.2
def vr (t : T3) : List Int := fvs t.1 t.2.1 t.2.2
def vT (x : Int) : T3 := (0, x, .nil)

/-- A variable stands for a term, beside what is known. -/
def unB (lim : Nat) (bs : List Bd) (v : Int) (t : T3) : Option (List Bd) :=
  if v ∈ vr t ∨ lim < sz t then none else if ∀ x ∈ thL bs [(v, t)], sz x.2 ≤ lim then some (thL bs [(v, t)]) else none
def unF (f : List Bd → T3 → T3 → Option (List Bd)) : List Bd → Fo → Fo → Option (List Bd)
  | bs, .nil, .nil => some bs
  | bs, .node _ _ p k r, .node _ _ q l m => (f bs (p.1, p.2, k) (q.1, q.2, l)).bind fun b1 => unF f b1 r m
  | _, _, _ => none
def tq (a b : T3) : Bool := teq a.1 a.2.1 a.2.2 b.1 b.2.1 b.2.2
/-- Two terms made the same, in so many steps down at most. -/
def unT (lim : Nat) : Nat → List Bd → T3 → T3 → Option (List Bd)
  | 0, _, _, _ => none
  | n + 1, bs, a, b =>
    if tq (ap (sv bs) a) (ap (sv bs) b) = true then some bs
    else if (ap (sv bs) a).1 = 0 then unB lim bs (ap (sv bs) a).2.1 (ap (sv bs) b)
    else if (ap (sv bs) b).1 = 0 then unB lim bs (ap (sv bs) b).2.1 (ap (sv bs) a)
    else if (ap (sv bs) a).1 = (ap (sv bs) b).1 then unF (unT lim n) bs (ap (sv bs) a).2.2 (ap (sv bs) b).2.2
    else none

theorem ap_th (σ τ : Int → Option T3) (t : T3) : ap τ (ap σ t) = ap (thS σ τ) t := tsub_th _ _ _
theorem ap_congr {σ τ : Int → Option T3} {t : T3} (h : ∀ x ∈ vr t, σ x = τ x) : ap σ t = ap τ t := tsub_congr h
theorem okT_var {x : Int} (h : 0 ≤ x ∧ x ≤ 11) : okT (vT x) := ⟨(okN_iff _ _ _).2 ⟨by simp [vT, flen, ar], fun _ => h, fun h => absurd rfl h⟩, rfl⟩
theorem okT_zero {t : T3} (h : okT t) (e : t.1 = 0) : t = vT t.2.1 ∧ 0 ≤ t.2.1 ∧ t.2.1 ≤ 11 := by
  obtain ⟨s, v, k⟩ := t
  dsimp only at e
  subst e
  have h1 := h.1
  dsimp only at h1
  have hk := kids_none h1
  subst hk
  exact ⟨rfl, ((okN_iff _ _ _).1 h1).2.1 rfl⟩
theorem okT_sym {t : T3} (h : okT t) (e : t.1 ≠ 0) : t = (t.1, 0, t.2.2) := by
  obtain ⟨s, v, k⟩ := t
  have := ((okN_iff _ _ _).1 h.1).2.2 e
  dsimp only at this ⊢
  rw [this]
theorem ap_sym {σ : Int → Option T3} {t : T3} (e : t.1 ≠ 0) : ap σ t = (t.1, t.2.1, fsub σ t.2.2) := tsub_sym e
theorem ap_var {σ : Int → Option T3} {x : Int} {t : T3} (h : σ x = some t) : ap σ (vT x) = t := tsub_var rfl h
theorem ap_none {σ : Int → Option T3} {x : Int} (h : σ x = none) : ap σ (vT x) = vT x := tsub_none rfl h
theorem vr_var (x : Int) : vr (vT x) = [x] := rfl
theorem ap_ok {σ : Int → Option T3} (h : ∀ x t, σ x = some t → okT t) {t : T3} (ht : okT t) : okT (ap σ t) := by
  by_cases e : t.1 = 0
  · rw [(okT_zero ht e).1]
    cases hx : σ t.2.1 with
    | some u => rw [ap_var hx]; exact h _ _ hx
    | none => rw [ap_none hx, ← (okT_zero ht e).1]; exact ht
  · rw [ap_sym e]
    exact ⟨by rw [show flen (t.1, t.2.1, fsub σ t.2.2).2.2 = flen t.2.2 from fsub_len σ _]; exact ht.1, fsub_ok h _ ht.2⟩
theorem ap_zf {σ : Int → Option T3} (h : ∀ x t, σ x = some t → Zf t.2.2) {t : T3} (ht : Zf t.2.2) : Zf (ap σ t).2.2 := by
  have hf : ∀ k : Fo, Zf k → Zf (fsub σ k) := fun k => by
    induction k with
    | nil => exact fun h => h
    | node x y p k r ih1 ih2 =>
      intro hz
      obtain ⟨rfl, rfl, hk, hr⟩ := zf_node.1 hz
      rw [fsub_sign]
      refine zf_node.2 ⟨rfl, rfl, ?_, ih2 hr⟩
      by_cases e : p.1 = 0
      · cases hx : σ p.2 with
        | some u => rw [tsub_var e hx]; exact h _ _ hx
        | none => rw [tsub_none e hx]; exact hk
      · rw [tsub_sym e]; exact ih1 hk
  unfold ap
  by_cases e : t.1 = 0
  · cases hx : σ t.2.1 with
    | some u => rw [tsub_var e hx]; exact h _ _ hx
    | none => rw [tsub_none e hx]; exact ht
  · rw [tsub_sym e]; exact hf _ ht
theorem okT_kn {t : T3} (h : okT t) : t.1 = 0 → t.2.2 = .nil := fun e => by rw [(okT_zero h e).1]; rfl
theorem vr_ap (σ : Int → Option T3) {t : T3} (h : okT t) (x : Int) : x ∈ vr (ap σ t) ↔ ∃ y ∈ vr t, x ∈ vr (ap σ (vT y)) := fvs_sub σ x t.1 t.2.1 t.2.2 (okT_kn h)
theorem sz_more (σ : Int → Option T3) {t : T3} (h : okT t) : sz t ≤ sz (ap σ t) := by
  by_cases e : t.1 = 0
  · rw [(okT_zero h e).1]; simp only [sz, vT, fsz]; omega
  · rw [ap_sym e]
    have := fsub_more (σ := σ) t.2.2 h.2
    simp only [sz]; omega
/-- What a variable stands for is not larger than a term in which it occurs. -/
theorem fsz_occ (σ : Int → Option T3) {x : Int} : ∀ k : Fo, fok k = true → x ∈ fvl k → sz (ap σ (vT x)) ≤ fsz (fsub σ k)
  | .nil, _, h => by simp [fvl] at h
  | .node a b p k r, ho, h => by
    simp only [fok, Bool.and_eq_true] at ho
    simp only [fvl, List.mem_append] at h
    rw [fsub_sign]
    simp only [fsz]
    rcases h with h | h
    · by_cases e : p.1 = 0
      · rw [if_pos e] at h
        simp only [List.mem_singleton] at h
        subst h
        have hk : k = .nil := kids_none (v := p.2) (by rw [← e]; exact ho.1.1)
        have : tsub σ p.1 p.2 k = ap σ (vT p.2) := by rw [hk, e]; rfl
        rw [this]; simp only [sz]; omega
      · rw [if_neg e] at h
        have := fsz_occ σ k ho.1.2 h
        rw [tsub_sym e]; dsimp only; omega
    · have := fsz_occ σ r ho.2 h
      omega
theorem sz_occ (σ : Int → Option T3) {x : Int} {t : T3} (h : okT t) (hx : x ∈ vr t) : sz (ap σ (vT x)) ≤ sz (ap σ t) ∧ (t.1 ≠ 0 → sz (ap σ (vT x)) < sz (ap σ t)) := by
  by_cases e : t.1 = 0
  · rw [(okT_zero h e).1] at hx ⊢
    rw [vr_var] at hx
    simp only [List.mem_singleton] at hx
    subst hx
    exact ⟨Nat.le_refl _, fun h => absurd rfl h⟩
  · unfold vr fvs at hx
    rw [if_neg e] at hx
    have := fsz_occ σ t.2.2 h.2 hx
    rw [ap_sym e]
    constructor
    · simp only [sz] at this ⊢; omega
    · intro _; simp only [sz] at this ⊢; omega

/-- What holds of what is known. -/
structure Wb (lim : Nat) (bs : List Bd) : Prop where
  asc : Asc bs
  ok : ∀ x t, sv bs x = some t → okT t
  small : ∀ x t, sv bs x = some t → sz t ≤ lim
  rng : ∀ x t, sv bs x = some t → 0 ≤ x ∧ x ≤ 11
  free : ∀ x t, sv bs x = some t → ∀ y ∈ vr t, sv bs y = none
theorem Wb.nil (lim : Nat) : Wb lim [] := ⟨List.Pairwise.nil, fun _ _ h => by simp [sv] at h, fun _ _ h => by simp [sv] at h, fun _ _ h => by simp [sv] at h, fun _ _ h => by simp [sv] at h⟩
theorem Wb.free_ap {lim : Nat} {bs : List Bd} (h : Wb lim bs) {t : T3} (ht : okT t) : ∀ y ∈ vr (ap (sv bs) t), sv bs y = none := fun y hy => by
  obtain ⟨z, _, hz⟩ := (vr_ap (sv bs) ht y).1 hy
  cases hs : sv bs z with
  | some u => rw [ap_var hs] at hz; exact h.free z u hs y hz
  | none =>
    rw [ap_none hs, vr_var] at hz
    simp only [List.mem_singleton] at hz
    rw [hz]; exact hs
theorem Wb.idem {lim : Nat} {bs : List Bd} (h : Wb lim bs) {t : T3} (ht : okT t) : ap (sv bs) (ap (sv bs) t) = ap (sv bs) t := tsub_id (h.free_ap ht)
theorem Wb.okA {lim : Nat} {bs : List Bd} (h : Wb lim bs) {t : T3} (ht : okT t) : okT (ap (sv bs) t) := ap_ok h.ok ht
theorem Wb.len {lim : Nat} {bs : List Bd} (h : Wb lim bs) : bs.length ≤ 12 := by
  have := asc_len bs (-1) (by omega) h.asc fun x hx => by
    have := h.rng x.1 x.2 (sv_mem h.asc hx); omega
  omega
theorem sv_one (v : Int) (t : T3) (x : Int) : sv [(v, t)] x = if v = x then some t else none := rfl
theorem asc_one (v : Int) (t : T3) : Asc [(v, t)] := List.pairwise_singleton _ _
theorem unB_in {lim : Nat} {bs out : List Bd} {v : Int} {t : T3} (h : unB lim bs v t = some out) : v ∉ vr t ∧ sz t ≤ lim ∧ out = thL bs [(v, t)] ∧ ∀ x ∈ out, sz x.2 ≤ lim := by
  unfold unB at h
  split at h
  · cases h
  · rename_i hn
    split at h
    · rename_i ha
      obtain rfl := Option.some.inj h
      exact ⟨fun h => hn (.inl h), Nat.le_of_not_lt fun h => hn (.inr h), rfl, ha⟩
    · cases h
theorem unB_wb {lim : Nat} {bs out : List Bd} {v : Int} {t : T3} (h : unB lim bs v t = some out) (hw : Wb lim bs) (hv : 0 ≤ v ∧ v ≤ 11) (hvn : sv bs v = none) (ht : okT t) (hf : ∀ y ∈ vr t, sv bs y = none) : Wb lim out := by
  obtain ⟨h1, h2, rfl, h4⟩ := unB_in h
  have hsv := thL_sv hw.asc (asc_one v t)
  have hasc := thL_asc hw.asc (asc_one v t)
  have hone : ∀ x u, sv [(v, t)] x = some u → okT u := fun x u hu => by
    rw [sv_one] at hu
    split at hu
    · obtain rfl := Option.some.inj hu; exact ht
    · cases hu
  -- what a variable stands for then, and how it came
  have key : ∀ x u, sv (thL bs [(v, t)]) x = some u → (∃ u0, sv bs x = some u0 ∧ u = ap (sv [(v, t)]) u0) ∨ (sv bs x = none ∧ x = v ∧ u = t) := fun x u hu => by
    rw [hsv x] at hu
    cases hb : sv bs x with
    | some u0 => rw [thS_some hb] at hu; exact .inl ⟨u0, rfl, (Option.some.inj hu).symm⟩
    | none =>
      rw [thS_none hb, sv_one] at hu
      split at hu
      · rename_i e; exact .inr ⟨rfl, e.symm, (Option.some.inj hu).symm⟩
      · cases hu
  refine ⟨hasc, fun x u hu => ?_, fun x u hu => h4 _ (mem_sv hu), fun x u hu => ?_, fun x u hu y hy => ?_⟩
  · rcases key x u hu with ⟨u0, hu0, rfl⟩ | ⟨_, _, rfl⟩
    · exact ap_ok hone (hw.ok x u0 hu0)
    · exact ht
  · rcases key x u hu with ⟨u0, hu0, _⟩ | ⟨_, rfl, _⟩
    · exact hw.rng x u0 hu0
    · exact hv
  · have hyt : y ∈ vr t → sv (thL bs [(v, t)]) y = none := fun hy => by
      rw [hsv y, thS_none (hf y hy), sv_one, if_neg (fun e : v = y => h1 (by rw [e]; exact hy))]
    rcases key x u hu with ⟨u0, hu0, rfl⟩ | ⟨_, _, rfl⟩
    · obtain ⟨z, hz, hyz⟩ := (vr_ap _ (hw.ok x u0 hu0) y).1 hy
      have hbz := hw.free x u0 hu0 z hz
      by_cases e : v = z
      · rw [ap_var (by rw [sv_one, if_pos e])] at hyz
        exact hyt hyz
      · rw [ap_none (by rw [sv_one, if_neg e]), vr_var] at hyz
        simp only [List.mem_singleton] at hyz
        subst hyz
        rw [hsv y, thS_none hbz, sv_one, if_neg e]
    · exact hyt hy

/-- The second goes on from the first. -/
def Le (bs bs' : List Bd) : Prop := ∀ a, okT a → ap (sv bs') (ap (sv bs) a) = ap (sv bs') a
theorem Le.trans {lim : Nat} {b0 b1 b2 : List Bd} (h : Le b0 b1) (h2 : Le b1 b2) (h0 : Wb lim b0) : Le b0 b2 := fun a ha => by
  have e1 := h2 _ (h0.okA ha)
  rw [← e1, h a ha, h2 a ha]
theorem Wb.le {lim : Nat} {bs : List Bd} (h : Wb lim bs) : Le bs bs := fun _ ha => h.idem ha
theorem unB_ap {lim : Nat} {bs out : List Bd} {v : Int} {t : T3} (h : unB lim bs v t = some out) (hw : Wb lim bs) (a : T3) : ap (sv out) a = ap (sv [(v, t)]) (ap (sv bs) a) := by
  obtain ⟨h1, h2, rfl, h4⟩ := unB_in h
  rw [ap_th]
  exact ap_congr fun x _ => thL_sv hw.asc (asc_one v t) x
theorem unB_le {lim : Nat} {bs out : List Bd} {v : Int} {t : T3} (h : unB lim bs v t = some out) (hw : Wb lim bs) : Le bs out := fun a ha => by
  rw [unB_ap h hw, unB_ap h hw, hw.idem ha]
theorem ap_one_self (v : Int) (t : T3) : ap (sv [(v, t)]) (vT v) = t := ap_var (by rw [sv_one, if_pos rfl])
theorem ap_one_out {v : Int} {t : T3} (h : v ∉ vr t) : ap (sv [(v, t)]) t = t := tsub_id fun x hx => by rw [sv_one, if_neg (fun e : v = x => h (by rw [e]; exact hx))]
/-- Behind a bind both sides are the same. -/
theorem unB_same {lim : Nat} {bs out : List Bd} {v : Int} {t a : T3} (h : unB lim bs v t = some out) (hw : Wb lim bs) (hav : ap (sv bs) a = vT v) {b : T3} (hbt : ap (sv bs) b = t) : ap (sv out) a = ap (sv out) b := by
  rw [unB_ap h hw, unB_ap h hw, hav, hbt, ap_one_self, ap_one_out (unB_in h).1]

theorem tq_of {a b : T3} (ha : Zf a.2.2) (hb : Zf b.2.2) : tq a b = true ↔ a = b := teq_z ha hb
def Bz (bs : List Bd) : Prop := ∀ x t, sv bs x = some t → Zf t.2.2
theorem unB_zf {lim : Nat} {bs out : List Bd} {v : Int} {t : T3} (h : unB lim bs v t = some out) (hw : Wb lim bs) (hz : Bz bs) (ht : Zf t.2.2) : Bz out := fun x u hu => by
  obtain ⟨_, _, rfl, _⟩ := unB_in h
  rw [thL_sv hw.asc (asc_one v t) x] at hu
  have hone : ∀ x u, sv [(v, t)] x = some u → Zf u.2.2 := fun x u hu => by
    rw [sv_one] at hu
    split at hu
    · obtain rfl := Option.some.inj hu; exact ht
    · cases hu
  cases hb : sv bs x with
  | some u0 =>
    rw [thS_some hb] at hu
    obtain rfl := Option.some.inj hu
    exact ap_zf (t := u0) hone (hz x u0 hb)
  | none => rw [thS_none hb] at hu; exact hone x u hu

/-- What one round of the walk does to what is known. -/
structure UnOk (lim : Nat) (bs bs' : List Bd) : Prop where
  wb : Wb lim bs'
  le : Le bs bs'
/-- Kept from bs on, without marks or with them. -/
theorem unF_wb {lim : Nat} {f : List Bd → T3 → T3 → Option (List Bd)} (hf : ∀ bs a b bs', Wb lim bs → okT a → okT b → f bs a b = some bs' → Wb lim bs' ∧ Le bs bs') :
    ∀ (k l : Fo) (bs bs' : List Bd), Wb lim bs → fok k = true → fok l = true → unF f bs k l = some bs' → Wb lim bs' ∧ Le bs bs'
  | .nil, .nil, bs, bs', hw, _, _, h => by obtain rfl := Option.some.inj h; exact ⟨hw, hw.le⟩
  | .nil, .node _ _ _ _ _, _, _, _, _, _, h => by simp [unF] at h
  | .node _ _ _ _ _, .nil, _, _, _, _, _, h => by simp [unF] at h
  | .node _ _ p k r, .node _ _ q l m, bs, bs', hw, hk, hl, h => by
    simp only [fok, Bool.and_eq_true] at hk hl
    simp only [unF] at h
    obtain ⟨b1, h1, h2⟩ := Option.bind_eq_some_iff.1 h
    obtain ⟨w1, l1⟩ := hf bs (p.1, p.2, k) (q.1, q.2, l) b1 hw ⟨hk.1.1, hk.1.2⟩ ⟨hl.1.1, hl.1.2⟩ h1
    obtain ⟨w2, l2⟩ := unF_wb hf r m b1 bs' w1 hk.2 hl.2 h2
    exact ⟨w2, l1.trans l2 hw⟩
theorem unT_wb {lim : Nat} : ∀ (n : Nat) (bs : List Bd) (a b : T3) (bs' : List Bd), Wb lim bs → okT a → okT b → unT lim n bs a b = some bs' → Wb lim bs' ∧ Le bs bs'
  | 0, _, _, _, _, _, _, _, h => by simp [unT] at h
  | n + 1, bs, a, b, bs', hw, ha, hb, h => by
    have oa := hw.okA ha
    have ob := hw.okA hb
    have fa := hw.free_ap ha
    have fb := hw.free_ap hb
    unfold unT at h
    split at h
    · obtain rfl := Option.some.inj h; exact ⟨hw, hw.le⟩
    · split at h
      · rename_i e
        have hz := okT_zero oa e
        exact ⟨unB_wb h hw hz.2 (fa _ (by rw [hz.1]; exact List.mem_singleton.2 rfl)) ob fb, unB_le h hw⟩
      · split at h
        · rename_i e
          have hz := okT_zero ob e
          exact ⟨unB_wb h hw hz.2 (fb _ (by rw [hz.1]; exact List.mem_singleton.2 rfl)) oa fa, unB_le h hw⟩
        · split at h
          · exact unF_wb (unT_wb n) _ _ bs bs' hw oa.2 ob.2 h
          · cases h
end Go.Proofs.Ytoafleckcjanaaa

/-! UN1: What makes two terms the same: it does, and goes before all else that does. Plain lemmas. -/
namespace Go.Proofs.Ytoafleckcjanaaa
open Go.RowKit Go.Deep

/-- With terms without marks: both sides are the same then. -/
theorem unF_same {lim : Nat} {f : List Bd → T3 → T3 → Option (List Bd)} (hf : ∀ bs a b bs', Wb lim bs → Bz bs → okT a → okT b → Zf a.2.2 → Zf b.2.2 → f bs a b = some bs' → Wb lim bs' ∧ Bz bs' ∧ Le bs bs' ∧ ap (sv bs') a = ap (sv bs') b) :
    ∀ (k l : Fo) (bs bs' : List Bd), Wb lim bs → Bz bs → fok k = true → fok l = true → Zf k → Zf l → unF f bs k l = some bs' → Wb lim bs' ∧ Bz bs' ∧ Le bs bs' ∧ fsub (sv bs') k = fsub (sv bs') l
  | .nil, .nil, bs, bs', hw, hz, _, _, _, _, h => by obtain rfl := Option.some.inj h; exact ⟨hw, hz, hw.le, rfl⟩
  | .nil, .node _ _ _ _ _, _, _, _, _, _, _, _, _, h => by simp [unF] at h
  | .node _ _ _ _ _, .nil, _, _, _, _, _, _, _, _, h => by simp [unF] at h
  | .node x y p k r, .node x' y' q l m, bs, bs', hw, hz, hk, hl, zk, zl, h => by
    obtain ⟨rfl, rfl, zk, zr⟩ := zf_node.1 zk
    obtain ⟨rfl, rfl, zl, zm⟩ := zf_node.1 zl
    simp only [fok, Bool.and_eq_true] at hk hl
    simp only [unF] at h
    obtain ⟨b1, h1, h2⟩ := Option.bind_eq_some_iff.1 h
    have oa : okT (p.1, p.2, k) := ⟨hk.1.1, hk.1.2⟩
    have ob : okT (q.1, q.2, l) := ⟨hl.1.1, hl.1.2⟩
    obtain ⟨w1, z1, l1, e1⟩ := hf bs (p.1, p.2, k) (q.1, q.2, l) b1 hw hz oa ob zk zl h1
    obtain ⟨w2, z2, l2, e2⟩ := unF_same hf r m b1 bs' w1 z1 hk.2 hl.2 zr zm h2
    refine ⟨w2, z2, l1.trans l2 hw, ?_⟩
    have e3 : ap (sv bs') (p.1, p.2, k) = ap (sv bs') (q.1, q.2, l) := by rw [← l2 _ oa, ← l2 _ ob, e1]
    rw [fsub_sign, fsub_sign, e2]
    have e4 : tsub (sv bs') p.1 p.2 k = tsub (sv bs') q.1 q.2 l := e3
    rw [e4]
theorem unT_same {lim : Nat} : ∀ (n : Nat) (bs : List Bd) (a b : T3) (bs' : List Bd), Wb lim bs → Bz bs → okT a → okT b → Zf a.2.2 → Zf b.2.2 → unT lim n bs a b = some bs' → Wb lim bs' ∧ Bz bs' ∧ Le bs bs' ∧ ap (sv bs') a = ap (sv bs') b
  | 0, _, _, _, _, _, _, _, _, _, _, h => by simp [unT] at h
  | n + 1, bs, a, b, bs', hw, hz, ha, hb, za, zb, h => by
    have oa := hw.okA ha
    have ob := hw.okA hb
    have fa := hw.free_ap ha
    have fb := hw.free_ap hb
    have za' := ap_zf hz za
    have zb' := ap_zf hz zb
    unfold unT at h
    split at h
    · rename_i e
      obtain rfl := Option.some.inj h
      exact ⟨hw, hz, hw.le, (tq_of za' zb').1 e⟩
    · split at h
      · rename_i e
        have h0 := okT_zero oa e
        have hv := fa (ap (sv bs) a).2.1 (by rw [h0.1]; exact List.mem_singleton.2 rfl)
        exact ⟨unB_wb h hw h0.2 hv ob fb, unB_zf h hw hz zb', unB_le h hw, unB_same h hw h0.1 rfl⟩
      · split at h
        · rename_i e
          have h0 := okT_zero ob e
          have hv := fb (ap (sv bs) b).2.1 (by rw [h0.1]; exact List.mem_singleton.2 rfl)
          exact ⟨unB_wb h hw h0.2 hv oa fa, unB_zf h hw hz za', unB_le h hw, (unB_same h hw h0.1 rfl).symm⟩
        · rename_i en1 en2
          split at h
          · rename_i e
            obtain ⟨w1, z1, l1, e1⟩ := unF_same (unT_same n) _ _ bs bs' hw hz oa.2 ob.2 za' zb' h
            refine ⟨w1, z1, l1, ?_⟩
            rw [← l1 a ha, ← l1 b hb, okT_sym oa en1, okT_sym ob en2, ap_sym (t := (_, 0, _)) en1, ap_sym (t := (_, 0, _)) en2]
            dsimp only
            rw [e1]
            exact Prod.ext e rfl
          · cases h

/-- What is put in says nothing else of what is known. -/
def Ag (τ : Int → Option T3) (bs : List Bd) : Prop := ∀ a, okT a → ap τ (ap (sv bs) a) = ap τ a
theorem Ag.nil (τ : Int → Option T3) : Ag τ [] := fun a _ => by
  have : ap (sv []) a = a := tsub_nil _ _ _
  rw [this]
theorem fsub_congrV {σ τ : Int → Option T3} : ∀ k : Fo, fok k = true → (∀ x ∈ fvl k, ap σ (vT x) = ap τ (vT x)) → fsub σ k = fsub τ k
  | .nil, _, _ => rfl
  | .node x y p k r, ho, h => by
    simp only [fok, Bool.and_eq_true] at ho
    simp only [fvl, List.mem_append] at h
    have hr := fsub_congrV r ho.2 (fun z hz => h z (.inr hz))
    rw [fsub_sign, fsub_sign, hr]
    by_cases e : p.1 = 0
    · have h0 : ap σ (vT p.2) = ap τ (vT p.2) := h p.2 (.inl (by rw [if_pos e]; simp))
      have hk : k = .nil := kids_none (v := p.2) (by rw [← e]; exact ho.1.1)
      have e1 : tsub σ p.1 p.2 k = tsub τ p.1 p.2 k := by rw [hk, e]; exact h0
      rw [e1]
    · rw [tsub_sym e, tsub_sym e, fsub_congrV k ho.1.2 (fun z hz => h z (.inl (by rw [if_neg e]; exact hz)))]
theorem ap_congrV {σ τ : Int → Option T3} {t : T3} (ht : okT t) (h : ∀ x ∈ vr t, ap σ (vT x) = ap τ (vT x)) : ap σ t = ap τ t := by
  by_cases e : t.1 = 0
  · rw [(okT_zero ht e).1]; exact h _ (by rw [(okT_zero ht e).1]; exact List.mem_singleton.2 rfl)
  · unfold vr fvs at h
    rw [if_neg e] at h
    rw [ap_sym e, ap_sym e, fsub_congrV _ ht.2 h]
theorem ag_one {τ : Int → Option T3} {v : Int} {t : T3} (h : ap τ (vT v) = ap τ t) {a : T3} (ha : okT a) : ap τ (ap (sv [(v, t)]) a) = ap τ a := by
  rw [ap_th]
  refine ap_congrV ha fun x _ => ?_
  by_cases e : v = x
  · subst e
    rw [ap_var (thS_some (by rw [sv_one, if_pos rfl]))]; exact h.symm
  · have : thS (sv [(v, t)]) τ x = τ x := thS_none (by rw [sv_one, if_neg e])
    show tsub _ 0 x .nil = tsub _ 0 x .nil
    rw [tsub0, tsub0, this]
theorem unB_ag {lim : Nat} {bs out : List Bd} {v : Int} {t : T3} {τ : Int → Option T3} (h : unB lim bs v t = some out) (hw : Wb lim bs) (hg : Ag τ bs) (he : ap τ (vT v) = ap τ t) : Ag τ out := fun a ha => by
  rw [unB_ap h hw, ag_one he (hw.okA ha), hg a ha]
theorem unF_ag {lim : Nat} {τ : Int → Option T3} {f : List Bd → T3 → T3 → Option (List Bd)} (hf : ∀ bs a b bs', Wb lim bs → okT a → okT b → Ag τ bs → ap τ a = ap τ b → f bs a b = some bs' → Ag τ bs')
    (hf2 : ∀ bs a b bs', Wb lim bs → okT a → okT b → f bs a b = some bs' → Wb lim bs' ∧ Le bs bs') :
    ∀ (k l : Fo) (bs bs' : List Bd), Wb lim bs → fok k = true → fok l = true → Ag τ bs → fsub τ k = fsub τ l → unF f bs k l = some bs' → Ag τ bs'
  | .nil, .nil, bs, bs', _, _, _, hg, _, h => by obtain rfl := Option.some.inj h; exact hg
  | .nil, .node _ _ _ _ _, _, _, _, _, _, _, _, h => by simp [unF] at h
  | .node _ _ _ _ _, .nil, _, _, _, _, _, _, _, h => by simp [unF] at h
  | .node _ _ p k r, .node _ _ q l m, bs, bs', hw, hk, hl, hg, he, h => by
    simp only [fok, Bool.and_eq_true] at hk hl
    simp only [unF] at h
    obtain ⟨b1, h1, h2⟩ := Option.bind_eq_some_iff.1 h
    rw [fsub_sign, fsub_sign] at he
    simp only [BT.node.injEq, Prod.mk.injEq] at he
    obtain ⟨_, _, ⟨e1, e2⟩, e3, e4⟩ := he
    have e5 : ap τ (p.1, p.2, k) = ap τ (q.1, q.2, l) := Prod.ext e1 (Prod.ext e2 e3)
    have g1 := hf bs (p.1, p.2, k) (q.1, q.2, l) b1 hw ⟨hk.1.1, hk.1.2⟩ ⟨hl.1.1, hl.1.2⟩ hg e5 h1
    exact unF_ag hf hf2 r m b1 bs' (hf2 _ _ _ _ hw ⟨hk.1.1, hk.1.2⟩ ⟨hl.1.1, hl.1.2⟩ h1).1 hk.2 hl.2 g1 e4 h2
theorem unT_ag {lim : Nat} {τ : Int → Option T3} : ∀ (n : Nat) (bs : List Bd) (a b : T3) (bs' : List Bd), Wb lim bs → okT a → okT b → Ag τ bs → ap τ a = ap τ b → unT lim n bs a b = some bs' → Ag τ bs'
  | 0, _, _, _, _, _, _, _, _, _, h => by simp [unT] at h
  | n + 1, bs, a, b, bs', hw, ha, hb, hg, he, h => by
    have oa := hw.okA ha
    have ob := hw.okA hb
    have he' : ap τ (ap (sv bs) a) = ap τ (ap (sv bs) b) := by rw [hg a ha, hg b hb, he]
    unfold unT at h
    split at h
    · obtain rfl := Option.some.inj h; exact hg
    · split at h
      · rename_i e
        exact unB_ag h hw hg (by rw [← (okT_zero oa e).1]; exact he')
      · split at h
        · rename_i e
          exact unB_ag h hw hg (by rw [← (okT_zero ob e).1]; exact he'.symm)
        · rename_i en1 en2
          split at h
          · rw [ap_sym en1, ap_sym en2] at he'
            simp only [Prod.mk.injEq] at he'
            exact unF_ag (unT_ag n) (unT_wb n) _ _ bs bs' hw oa.2 ob.2 hg he'.2.2 h
          · cases h
/-- It is found, if there is one, of which no term is too large. -/
theorem unF_done {lim n : Nat} {τ : Int → Option T3} {f : List Bd → T3 → T3 → Option (List Bd)} (hf : ∀ bs a b, Wb lim bs → okT a → okT b → Ag τ bs → ap τ a = ap τ b → sz (ap τ a) ≤ n → ∃ bs', f bs a b = some bs' ∧ Wb lim bs' ∧ Ag τ bs') :
    ∀ (k l : Fo) (bs : List Bd), Wb lim bs → fok k = true → fok l = true → Ag τ bs → fsub τ k = fsub τ l → fsz (fsub τ k) ≤ n → ∃ bs', unF f bs k l = some bs'
  | .nil, .nil, bs, _, _, _, _, _, _ => ⟨bs, rfl⟩
  | .nil, .node x y p k r, _, _, _, _, _, he, _ => by rw [fsub_sign] at he; cases he
  | .node x y p k r, .nil, _, _, _, _, _, he, _ => by rw [fsub_sign] at he; cases he
  | .node _ _ p k r, .node _ _ q l m, bs, hw, hk, hl, hg, he, hn => by
    simp only [fok, Bool.and_eq_true] at hk hl
    rw [fsub_sign, fsub_sign] at he
    simp only [BT.node.injEq, Prod.mk.injEq] at he
    obtain ⟨_, _, ⟨e1, e2⟩, e3, e4⟩ := he
    have e5 : ap τ (p.1, p.2, k) = ap τ (q.1, q.2, l) := Prod.ext e1 (Prod.ext e2 e3)
    rw [fsub_sign] at hn
    simp only [fsz] at hn
    obtain ⟨b1, h1, w1, g1⟩ := hf bs (p.1, p.2, k) (q.1, q.2, l) hw ⟨hk.1.1, hk.1.2⟩ ⟨hl.1.1, hl.1.2⟩ hg e5 (by unfold sz ap; dsimp only; omega)
    obtain ⟨b2, h2⟩ := unF_done hf r m b1 w1 hk.2 hl.2 g1 e4 (by omega)
    exact ⟨b2, by simp only [unF, h1]; exact h2⟩
theorem vr_sz {σ : Int → Option T3} {v : Int} {t : T3} (ht : okT t) (hv : v ∈ vr t) (he : ap σ (vT v) = ap σ t) : t = vT v := by
  by_cases e : t.1 = 0
  · have h0 := okT_zero ht e
    rw [h0.1, vr_var] at hv
    simp only [List.mem_singleton] at hv
    rw [h0.1, ← hv]
  · have := (sz_occ σ ht hv).2 e
    rw [he] at this
    omega
theorem unB_done {lim : Nat} {bs : List Bd} {v : Int} {t : T3} {τ : Int → Option T3} (hτ : ∀ x, sz (ap τ (vT x)) ≤ lim) (hw : Wb lim bs) (hg : Ag τ bs) (ht : okT t) (he : ap τ (vT v) = ap τ t) (hne : t ≠ vT v) : ∃ out, unB lim bs v t = some out := by
  have h1 : v ∉ vr t := fun hm => hne (vr_sz ht hm he)
  have h2 : sz t ≤ lim := Nat.le_trans (sz_more τ ht) (by rw [← he]; exact hτ v)
  have hasc := thL_asc hw.asc (asc_one v t)
  have h3 : ∀ x ∈ thL bs [(v, t)], sz x.2 ≤ lim := fun x hx => by
    have hs := sv_mem hasc hx
    rw [thL_sv hw.asc (asc_one v t)] at hs
    have hone : ∀ x u, sv [(v, t)] x = some u → okT u := fun x u hu => by
      rw [sv_one] at hu
      split at hu
      · obtain rfl := Option.some.inj hu; exact ht
      · cases hu
    cases hb : sv bs x.1 with
    | some u0 =>
      rw [thS_some hb] at hs
      have h5 : ap (sv [(v, t)]) u0 = x.2 := Option.some.inj hs
      have ho := hw.ok _ _ hb
      have h6 := sz_more τ (ap_ok hone ho)
      rw [h5] at h6
      have h7 : ap τ x.2 = ap τ (vT x.1) := by
        rw [← h5, ag_one he ho]
        have := hg (vT x.1) (okT_var (hw.rng _ _ hb))
        rw [ap_var hb] at this
        exact this
      rw [h7] at h6
      exact Nat.le_trans h6 (hτ _)
    | none =>
      rw [thS_none hb, sv_one] at hs
      split at hs
      · obtain h8 := Option.some.inj hs
        rw [← h8]; exact h2
      · cases hs
  unfold unB
  rw [if_neg (fun h => h.elim h1 (fun h => by omega)), if_pos h3]
  exact ⟨_, rfl⟩
theorem tq_rfl (t : T3) : tq t t = true := teq_rfl _ _ _
theorem unT_done {lim : Nat} {τ : Int → Option T3} (hτ : ∀ x, sz (ap τ (vT x)) ≤ lim) : ∀ (n : Nat) (bs : List Bd) (a b : T3), Wb lim bs → okT a → okT b → Ag τ bs → ap τ a = ap τ b → sz (ap τ a) ≤ n → ∃ bs', unT lim n bs a b = some bs' ∧ Wb lim bs' ∧ Ag τ bs'
  | 0, _, _, _, _, _, _, _, _, h => by simp only [sz] at h; omega
  | n + 1, bs, a, b, hw, ha, hb, hg, he, hn => by
    have oa := hw.okA ha
    have ob := hw.okA hb
    have he' : ap τ (ap (sv bs) a) = ap τ (ap (sv bs) b) := by rw [hg a ha, hg b hb, he]
    have main : ∃ bs', unT lim (n + 1) bs a b = some bs' := by
      unfold unT
      split
      · exact ⟨_, rfl⟩
      · rename_i hne
        split
        · rename_i e
          have h0 := okT_zero oa e
          exact unB_done hτ hw hg ob (by rw [← h0.1]; exact he') (fun h => hne (by rw [h0.1, h]; exact tq_rfl _))
        · split
          · rename_i e
            have h0 := okT_zero ob e
            exact unB_done hτ hw hg oa (by rw [← h0.1]; exact he'.symm) (fun h => hne (by rw [h0.1, h]; exact tq_rfl _))
          · rename_i en1 en2
            rw [ap_sym en1, ap_sym en2] at he'
            simp only [Prod.mk.injEq] at he'
            rw [if_pos he'.1]
            refine unF_done (unT_done hτ n) _ _ bs hw oa.2 ob.2 hg he'.2.2 ?_
            have h9 := hg a ha
            rw [ap_sym en1] at h9
            rw [← h9] at hn
            simp only [sz] at hn
            omega
    obtain ⟨bs', h⟩ := main
    exact ⟨bs', h, (unT_wb _ _ _ _ _ hw ha hb h).1, unT_ag _ _ _ _ _ hw ha hb hg he h⟩

/-- A lower limit: the same, if no term is larger. -/
theorem unB_lim {lim lim' : Nat} {bs out : List Bd} {v : Int} {t : T3} (h : unB lim bs v t = some out) (hs : ∀ x ∈ out, sz x.2 ≤ lim') (hvn : sv bs v = none) (hw : Wb lim bs) : unB lim' bs v t = some out := by
  obtain ⟨h1, h2, rfl, h4⟩ := unB_in h
  unfold unB
  have hm : sz t ≤ lim' := by
    have : sv (thL bs [(v, t)]) v = some t := by rw [thL_sv hw.asc (asc_one v t), thS_none hvn, sv_one, if_pos rfl]
    exact hs _ (mem_sv this)
  rw [if_neg (fun h => h.elim h1 (fun h => by omega)), if_pos hs]
def Sm (lim : Nat) (bs : List Bd) : Prop := ∀ x ∈ bs, sz x.2 ≤ lim
theorem sm_le {lim lim' : Nat} {bs bs' : List Bd} (hl : Le bs bs') (hw : Wb lim bs) (h : Sm lim' bs') (h1 : 1 ≤ lim') : Sm lim' bs := fun x hx => by
  have hs := sv_mem hw.asc hx
  have ho := hw.ok _ _ hs
  have e := hl (vT x.1) (okT_var (hw.rng _ _ hs))
  rw [ap_var hs] at e
  have h2 := sz_more (sv bs') ho
  rw [e] at h2
  refine Nat.le_trans h2 ?_
  cases hb : sv bs' x.1 with
  | some u => rw [ap_var hb]; exact h _ (mem_sv hb)
  | none => rw [ap_none hb]; exact h1
theorem unF_lim {lim lim' : Nat} {f g : List Bd → T3 → T3 → Option (List Bd)} (h1 : 1 ≤ lim') (hf : ∀ bs a b bs', Wb lim bs → okT a → okT b → f bs a b = some bs' → Wb lim bs' ∧ Le bs bs') (hg : ∀ bs a b bs', Wb lim bs → okT a → okT b → f bs a b = some bs' → Sm lim' bs' → g bs a b = some bs') :
    ∀ (k l : Fo) (bs bs' : List Bd), Wb lim bs → fok k = true → fok l = true → unF f bs k l = some bs' → Sm lim' bs' → unF g bs k l = some bs'
  | .nil, .nil, bs, bs', _, _, _, h, _ => h
  | .nil, .node _ _ _ _ _, _, _, _, _, _, h, _ => by simp [unF] at h
  | .node _ _ _ _ _, .nil, _, _, _, _, _, h, _ => by simp [unF] at h
  | .node _ _ p k r, .node _ _ q l m, bs, bs', hw, hk, hl, h, hs => by
    simp only [fok, Bool.and_eq_true] at hk hl
    simp only [unF] at h ⊢
    obtain ⟨b1, e1, e2⟩ := Option.bind_eq_some_iff.1 h
    have oa : okT (p.1, p.2, k) := ⟨hk.1.1, hk.1.2⟩
    have ob : okT (q.1, q.2, l) := ⟨hl.1.1, hl.1.2⟩
    obtain ⟨w1, l1⟩ := hf _ _ _ _ hw oa ob e1
    have l2 := (unF_wb hf r m b1 bs' w1 hk.2 hl.2 e2).2
    rw [hg _ _ _ _ hw oa ob e1 (sm_le l2 w1 hs h1)]
    exact unF_lim h1 hf hg r m b1 bs' w1 hk.2 hl.2 e2 hs
theorem unT_lim {lim lim' : Nat} (h1 : 1 ≤ lim') : ∀ (n : Nat) (bs : List Bd) (a b : T3) (bs' : List Bd), Wb lim bs → okT a → okT b → unT lim n bs a b = some bs' → Sm lim' bs' → unT lim' n bs a b = some bs'
  | 0, _, _, _, _, _, _, _, h, _ => by simp [unT] at h
  | n + 1, bs, a, b, bs', hw, ha, hb, h, hs => by
    have oa := hw.okA ha
    have ob := hw.okA hb
    have fa := hw.free_ap ha
    have fb := hw.free_ap hb
    unfold unT at h ⊢
    split at h
    · rename_i e; rw [if_pos e]; exact h
    · rename_i e; rw [if_neg e]
      split at h
      · rename_i e; rw [if_pos e]
        have h0 := okT_zero oa e
        exact unB_lim h (fun x hx => hs x hx) (fa _ (by rw [h0.1]; exact List.mem_singleton.2 rfl)) hw
      · rename_i e; rw [if_neg e]
        split at h
        · rename_i e; rw [if_pos e]
          have h0 := okT_zero ob e
          exact unB_lim h (fun x hx => hs x hx) (fb _ (by rw [h0.1]; exact List.mem_singleton.2 rfl)) hw
        · rename_i e; rw [if_neg e]
          split at h
          · rename_i e; rw [if_pos e]
            exact unF_lim h1 (unT_wb n) (unT_lim h1 n) _ _ bs bs' hw oa.2 ob.2 h hs
          · cases h
end Go.Proofs.Ytoafleckcjanaaa

/-! UB: - bind: a variable stands for a term, beside what is known. -/
namespace Go.Proofs.Ytoafleckcjanaaa
open Go.RowKit Go.Deep Go.Maps

def HasN (w : World) (D : DataW Value) (σ : Int → Option T3) : Prop := ∀ x : Int, (Lit.int .i64 x).wf = true →
    (σ x = none → Maps.has D (.int .i64 x) = false) ∧ ∀ s v k, σ x = some (s, v, k) → Maps.has D (.int .i64 x) = true ∧ ∃ nv, D.atKey (.int .i64 x) (.held .nilIface) = .held nv ∧ NodeIs w 0 w.heap.size nv s v k
theorem HasN.keep {w w' : World} {D : DataW Value} {σ : Int → Option T3} (h : HasN w D σ) (hk : ∀ q x, w.cell? q = some x → w'.cell? q = some x) (hs : w.heap.size ≤ w'.heap.size) : HasN w' D σ := fun x hw =>
  ⟨(h x hw).1, fun s v k hx => by
    obtain ⟨h1, nv, h2, h3⟩ := (h x hw).2 s v k hx
    exact ⟨h1, nv, h2, (h3.keep hk).mono (Nat.le_refl _) hs⟩⟩
theorem HasN.put {w : World} {D : DataW Value} {σ : Int → Option T3} (h : HasN w D σ) (hD : Maps.IsMap D) {x : Int} {nv : Value} {t : T3} (hn : NodeIs w 0 w.heap.size nv t.1 t.2.1 t.2.2) : HasN w (D.put (.int .i64 x) (.held nv)) (fun y => if x = y then some t else σ y) := fun y hy => by
  have hne : x ≠ y → (Lit.int .i64 y) ≠ (Lit.int .i64 x) := fun e h => by simp only [Lit.int.injEq, true_and] at h; exact e h.symm
  dsimp only
  by_cases e : x = y
  · subst e
    rw [if_pos rfl]
    refine ⟨fun h => (by cases h), fun s' v' k' h => ?_⟩
    obtain rfl := Option.some.inj h
    exact ⟨has_put_same hD (by trivial) _, nv, atKey_put_same hD (by trivial) _ _, hn⟩
  · rw [if_neg e]
    refine ⟨fun h2 => ?_, fun s' v' k' h2 => ?_⟩
    · rw [has_put_other (hne e)]; exact (h y hy).1 h2
    · obtain ⟨h3, nv', h4, h5⟩ := (h y hy).2 s' v' k' h2
      exact ⟨by rw [has_put_other (hne e)]; exact h3, nv', by rw [atKey_put_other (hne e)]; exact h4, h5⟩
theorem HasN.congr {w : World} {D : DataW Value} {σ τ : Int → Option T3} (h : HasN w D σ) (hs : ∀ x, (Lit.int .i64 x).wf = true → τ x = σ x) : HasN w D τ := fun x hw => by rw [hs x hw]; exact h x hw

/-- What is known while some are still to come. -/
def unL (bs : List Bd) (τ : Int → Option T3) (left : Lit → Bool) (y : Int) : Option T3 :=
  match sv bs y with
  | none => none
  | some u => if left (.int .i64 y) = true then some u else some (ap τ u)
theorem unL_step {bs : List Bd} {τ : Int → Option T3} {left : Lit → Bool} {x : Int} {t : T3} (hs : sv bs x = some t) (y : Int) : unL bs τ (fun z => left z && !z.sameKey (.int .i64 x)) y = if x = y then some (ap τ t) else unL bs τ left y := by
  unfold unL
  by_cases e : x = y
  · subst e
    rw [if_pos rfl, hs]
    dsimp only
    rw [if_neg (by simp [Lit.sameKey])]
  · rw [if_neg e]
    have : (Lit.int .i64 y).sameKey (.int .i64 x) = false := by simp [Lit.sameKey]; exact fun h => e h.symm
    simp only [this, Bool.not_false, Bool.and_true]
theorem unL_end {bs : List Bd} {v : Int} {t : T3} {left : Lit → Bool} (hl : ∀ kl, left kl = false) (hv : sv bs v = none) (y : Int) : thS (sv bs) (sv [(v, t)]) y = if v = y then some t else unL bs (sv [(v, t)]) left y := by
  unfold unL thS
  by_cases e : v = y
  · subst e
    rw [if_pos rfl, hv, sv_one, if_pos rfl]
  · rw [if_neg e]
    cases sv bs y with
    | none => dsimp only; rw [sv_one, if_neg e]
    | some u => dsimp only; rw [if_neg (by rw [hl]; simp)]; rfl
theorem unB_occ {lim : Nat} {bs : List Bd} {v : Int} {t : T3} (h : v ∈ vr t) : unB lim bs v t = none := by unfold unB; rw [if_pos (.inl h)]
theorem unB_big {lim : Nat} {bs : List Bd} {v : Int} {t : T3} (h : lim < sz t) : unB lim bs v t = none := by unfold unB; rw [if_pos (.inr h)]
theorem unB_over {lim : Nat} {bs : List Bd} {v y : Int} {t u : T3} (ha : Asc bs) (hy : sv bs y = some u) (h : lim < sz (ap (sv [(v, t)]) u)) : unB lim bs v t = none := by
  unfold unB
  split
  · rfl
  · rw [if_neg]
    intro hall
    have hs : sv (thL bs [(v, t)]) y = some (ap (sv [(v, t)]) u) := by rw [thL_sv ha (asc_one v t), thS_some hy]; rfl
    have := hall _ (mem_sv hs)
    dsimp only at this
    omega
theorem unB_fits {lim : Nat} {bs : List Bd} {v : Int} {t : T3} (ha : Asc bs) (h1 : v ∉ vr t) (h2 : sz t ≤ lim) (h : ∀ y u, sv bs y = some u → sz (ap (sv [(v, t)]) u) ≤ lim) : unB lim bs v t = some (thL bs [(v, t)]) := by
  unfold unB
  rw [if_neg (fun hc => hc.elim h1 (fun hc => by omega)), if_pos]
  intro x hx
  have hs := sv_mem (thL_asc ha (asc_one v t)) hx
  rw [thL_sv ha (asc_one v t)] at hs
  cases hb : sv bs x.1 with
  | some u => rw [thS_some hb] at hs; have := h _ _ hb; rw [← Option.some.inj hs]; exact this
  | none =>
    rw [thS_none hb, sv_one] at hs
    split at hs
    · rw [← Option.some.inj hs]; exact h2
    · cases hs

theorem fsub_szB {σ : Int → Option T3} (h : ∀ x u, σ x = some u → sz u ≤ 64) : ∀ k : Fo, fok k = true → fsz (fsub σ k) ≤ 33 * fsz k + 32 * flen k
  | .nil, _ => Nat.zero_le _
  | .node x y p k r, ho => by
    simp only [fok, Bool.and_eq_true] at ho
    have hr := fsub_szB h r ho.2
    rw [fsub_sign]
    simp only [fsz, flen]
    by_cases e : p.1 = 0
    · have hk : k = .nil := kids_none (v := p.2) (by rw [← e]; exact ho.1.1)
      subst hk
      have h1 : fsz (tsub σ p.1 p.2 .nil).2.2 + 1 ≤ 64 := by
        cases hs : σ p.2 with
        | some u => rw [tsub_var e hs]; have := h _ _ hs; simp only [sz] at this; omega
        | none => rw [tsub_none e hs]; simp [fsz]
      omega
    · have hk := fsub_szB h k ho.1.2
      have hl : flen k ≤ 2 := by
        have := ((okN_iff _ _ _).1 ho.1.1).1
        unfold ar at this
        split at this
        · omega
        · split at this
          · omega
          · split at this <;> omega
      rw [tsub_sym e]
      dsimp only
      omega
theorem ap_szB {σ : Int → Option T3} (h : ∀ x u, σ x = some u → sz u ≤ 64) {a : T3} (ha : okT a) : sz (ap σ a) ≤ 33 * sz a + 32 := by
  by_cases e : a.1 = 0
  · rw [(okT_zero ha e).1]
    cases hs : σ a.2.1 with
    | some u => rw [ap_var hs]; have := h _ _ hs; simp only [sz] at this ⊢; omega
    | none => rw [ap_none hs]; simp only [sz, vT, fsz]; omega
  · have hk := fsub_szB h a.2.2 ha.2
    have hl : flen a.2.2 ≤ 2 := by
      have := ((okN_iff _ _ _).1 ha.1).1
      unfold ar at this
      split at this
      · omega
      · split at this
        · omega
        · split at this <;> omega
    rw [ap_sym e]
    simp only [sz]
    omega

def UbPost (base b : Nat) (r : Option (List Bd)) (w : World) (e : Ending) (w' : World) : Prop :=
  Kp base w w' ∧ ((∃ bs', r = some bs' ∧ e = .returned (.bool true) ∧ MapIs w' b bs') ∨ (r = none ∧ e = .returned (.bool false)))
theorem Kp.grown {base c : Nat} {w w1 w2 : World} (h : Kp base w w1) (hg : w1.grownBy w2 (some c)) (hc : base ≤ c) (hb : base ≤ w1.heap.size) (hk : ∀ q x, w1.cell? q = some x → w2.cell? q = some x) : Kp base w w2 :=
  ⟨h.low.grown hg hb (fun j hj => by cases hj; exact hc), fun q x hq => hk q x (h.cell q x hq)⟩
theorem Kp.low2 {base : Nat} {w w1 w2 : World} (h : Kp base w w1) (hb : Below w1.heap.size w1 w2) (hs : base ≤ w1.heap.size) : Kp base w w2 := h.trans (Kp.of hb hs)

/-- Behind the making of the one bind. -/
structure UbS (base b g : Nat) (bs : List Bd) (x : Int) (t : T3) (nv : Value) (w w3 : World) : Prop where
  kp : Kp base w w3
  own : ∃ D, w3.ownsMap Try.prog 163 rdV b 12 D ∧ HasN w3 D (sv bs)
  step : MapF w3 g (sv [(x, t)])
  node : NodeIs w3 0 w3.heap.size nv t.1 t.2.1 t.2.2
  bg : b < g
  gl : g < w3.heap.size
  lo : base ≤ g
theorem ub_start {base b : Nat} {bs : List Bd} {x : Int} {t : T3} {nv : Value} {w w2 w3 : World} (hk : Kp base w w2) (hb : base ≤ w2.heap.size) (hf : MapF w2 b (sv bs)) (hn : NodeIs w2 0 w2.heap.size nv t.1 t.2.1 t.2.2) (hxr : 0 ≤ x ∧ x ≤ 11)
    (hown : w3.ownsMap Try.prog 163 rdV w2.heap.size (0 + 1) (DataW.put (.map []) (.int .i64 x) (.held nv))) (hg : (w2.alloc (.map #[] 0)).grownBy w3 (some w2.heap.size)) : UbS base b w2.heap.size bs x t nv w w3 := by
  have hal : Below w2.heap.size w2 (w2.alloc (.map #[] 0)) := (Below.refl _ _).alloc (Nat.le_refl _) _
  have hs3 := hg.size
  simp at hs3
  have hcm := cells_keep (World.ownsMap_made w2 Try.prog 163 rdV) hg
  have hk3 : Kp base w w3 := (hk.low2 hal hb).grown hg hb (by simp; omega) hcm
  have hkp2 : ∀ q y, w2.cell? q = some y → w3.cell? q = some y := fun q y hq => hcm q y (cell_low hal hq)
  obtain ⟨D, hm, hx⟩ := hf
  have hbl := hm.lt
  refine ⟨hk3, ⟨D, ?_, HasN.keep hx hkp2 (by omega)⟩, ?_, (hn.keep hkp2).mono (Nat.le_refl _) (by omega), hbl, by omega, hb⟩
  · obtain ⟨es, clock, h1, h2⟩ := hm
    refine ⟨es, clock, ?_, h2⟩
    rw [hg.block b (by simp; omega) (by simp; omega), Below.heap_alloc _ _ _ hbl]
    exact h1
  · have hp := MapF.put (w := w2.alloc (.map #[] 0)) (σ := fun _ => none) (t := t) (x := x) (World.ownsMap_made w2 Try.prog 163 rdV) (fun y _ => ⟨fun _ => rfl, fun s v k h => by cases h⟩) (fun y u h => by cases h) hxr hown hg ((hn.below hal).mono (Nat.le_refl _) hal.size)
    exact hp.congr fun y _ => by rw [sv_one]

end Go.Proofs.Ytoafleckcjanaaa

/-! UN2: How large terms become while they are made the same. Plain lemmas. -/
namespace Go.Proofs.Ytoafleckcjanaaa
open Go.RowKit Go.Deep

/-- Whatever is known further on, the term is so large at most. -/
def Un (lim n : Nat) (bs : List Bd) (a : T3) : Prop := ∀ bs', Wb lim bs' → Le bs bs' → sz (ap (sv bs') a) ≤ n
theorem Un.now {lim n : Nat} {bs : List Bd} {a : T3} (h : Un lim n bs a) (hw : Wb lim bs) : sz (ap (sv bs) a) ≤ n := h bs hw hw.le
theorem Un.self {lim n : Nat} {bs : List Bd} {a : T3} (h : Un lim n bs a) (hw : Wb lim bs) (ha : okT a) : sz a ≤ n := Nat.le_trans (sz_more (sv bs) ha) (h.now hw)
theorem Un.start {lim : Nat} (hlim : lim ≤ 64) {a : T3} (ha : okT a) (hz : sz a ≤ 16) : Un lim 600 [] a := fun bs' hw _ => by
  have := ap_szB (fun x u hu => Nat.le_trans (hw.small x u hu) hlim) ha
  omega
theorem Un.next {lim n : Nat} {bs b1 : List Bd} {a : T3} (h : Un lim n bs a) (hl : Le bs b1) (hw : Wb lim bs) : Un lim n b1 a := fun bs' hw' hl' => h bs' hw' (hl.trans hl' hw)
theorem Un.kid {lim n : Nat} {bs b1 : List Bd} {a : T3} (h : Un lim (n + 1) bs a) (hw : Wb lim bs) (hl : Le bs b1) (ha : okT a) (hs : (ap (sv bs) a).1 ≠ 0) {j x y : Nat} {s v : Int} {k r : Fo} (hd : fdrop j (ap (sv bs) a).2.2 = .node x y (s, v) k r) : Un lim n b1 (s, v, k) := fun bs' hw' hl' => by
  have h1 := h bs' hw' (hl.trans hl' hw)
  have h2 := (hl.trans hl' hw) a ha
  rw [ap_sym hs] at h2
  rw [← h2] at h1
  have h3 := fsz_kid (fsub_at (sv bs') j _ hd)
  simp only [sz] at h1 ⊢
  have h4 : (ap (sv bs') (s, v, k)).2.2 = (tsub (sv bs') s v k).2.2 := rfl
  rw [h4]
  omega
theorem unT_succ (lim n : Nat) (bs : List Bd) (a b : T3) : unT lim (n + 1) bs a b =
    if tq (ap (sv bs) a) (ap (sv bs) b) = true then some bs
    else if (ap (sv bs) a).1 = 0 then unB lim bs (ap (sv bs) a).2.1 (ap (sv bs) b)
    else if (ap (sv bs) b).1 = 0 then unB lim bs (ap (sv bs) b).2.1 (ap (sv bs) a)
    else if (ap (sv bs) a).1 = (ap (sv bs) b).1 then unF (unT lim n) bs (ap (sv bs) a).2.2 (ap (sv bs) b).2.2
    else none := rfl
theorem unF_step {f : List Bd → T3 → T3 → Option (List Bd)} {bs : List Bd} {k l : Fo} {j x y x' y' : Nat} {s v s' v' : Int} {kk kk' : Fo} (h : fdrop j k = .node x y (s, v) kk (fdrop (j + 1) k)) (h' : fdrop j l = .node x' y' (s', v') kk' (fdrop (j + 1) l)) :
    unF f bs (fdrop j k) (fdrop j l) = (f bs (s, v, kk) (s', v', kk')).bind fun b1 => unF f b1 (fdrop (j + 1) k) (fdrop (j + 1) l) := by rw [h, h']; rfl
end Go.Proofs.Ytoafleckcjanaaa
