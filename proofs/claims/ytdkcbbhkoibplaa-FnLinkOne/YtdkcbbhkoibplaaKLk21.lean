/- Several texts in one: UN1, UB, UN2, UR, V2, SB, BG. -/
import Derived.Test.YtdkcbbhkoibplaaKLk20
import Derived.Test.YtdkcbbhkoibplaaKLk18
import Derived.Test.YtdkcbbhkoibplaaKLk7
import Derived.Test.YtdkcbbhkoibplaaKLk2

/-! UN1: What makes two terms the same: it does, and goes before all else that does. Plain lemmas. -/
namespace Go.Proofs.Ytdkcbbhkoibplaa
open Go.RowKit Go.Deep

/-- With terms without marks: both sides are the same then. -/
theorem unF_same {lim : Nat} {f : List Bd → T3 → T3 → Option (List Bd)} (hf : ∀ bs a b bs', Wb lim bs → Bz bs → okT a → okT b → Zf a.2.2 → Zf b.2.2 → f bs a b = some bs' → Wb lim bs' ∧ Bz bs' ∧ Le bs bs' ∧ ap (sv bs') a = ap (sv bs') b) :
    ∀ (k l : Fo) (bs bs' : List Bd), Wb lim bs → Bz bs → fok k = true → fok l = true → Zf k → Zf l → unF f bs k l = some bs' → Wb lim bs' ∧ Bz bs' ∧ Le bs bs' ∧ fsub (sv bs') k = fsub (sv bs') l
  | .nil, .nil, bs, bs', hw, hz, _, _, _, _, h => by obtain rfl := Option.some.inj h; exact ⟨hw, hz, hw.le, rfl⟩
  | .nil, .node _ _ _ _ _, _, _, _, _, _, _, _, _, h => by simp [unF] at h
  | .node _ _ _ _ _, .nil, _, _, _, _, _, _, _, _, h => by simp [unF] at h
  | .node x y p k r, .node x' y' q l m, bs, bs', hw, hz, hk, hl, zk, zl, h => by
    obtain ⟨rfl, rfl, zk, zr⟩ := zf_node.1 zk
    obtain ⟨rfl, rfl, zl, zm⟩ := zf_node.1 zl
    simp only [fok, Bool.and_eq_true] at hk hl
    simp only [unF] at h
    obtain ⟨b1, h1, h2⟩ := Option.bind_eq_some_iff.1 h
    have oa : okT (p.1, p.2, k) := ⟨hk.1.1, hk.1.2⟩
    have ob : okT (q.1, q.2, l) := ⟨hl.1.1, hl.1.2⟩
    obtain ⟨w1, z1, l1, e1⟩ := hf bs (p.1, p.2, k) (q.1, q.2, l) b1 hw hz oa ob zk zl h1
    obtain ⟨w2, z2, l2, e2⟩ := unF_same hf r m b1 bs' w1 z1 hk.2 hl.2 zr zm h2
    refine ⟨w2, z2, l1.trans l2 hw, ?_⟩
    have e3 : ap (sv bs') (p.1, p.2, k) = ap (sv bs') (q.1, q.2, l) := by rw [← l2 _ oa, ← l2 _ ob, e1]
    rw [fsub_sign, fsub_sign, e2]
    have e4 : tsub (sv bs') p.1 p.2 k = tsub (sv bs') q.1 q.2 l := e3
    rw [e4]
theorem unT_same {lim : Nat} : ∀ (n : Nat) (bs : List Bd) (a b : T3) (bs' : List Bd), Wb lim bs → Bz bs → okT a → okT b → Zf a.2.2 → Zf b.2.2 → unT lim n bs a b = some bs' → Wb lim bs' ∧ Bz bs' ∧ Le bs bs' ∧ ap (sv bs') a = ap (sv bs') b
  | 0, _, _, _, _, _, _, _, _, _, _, h => by simp [unT] at h
  | n + 1, bs, a, b, bs', hw, hz, ha, hb, za, zb, h => by
    have oa := hw.okA ha
    have ob := hw.okA hb
    have fa := hw.free_ap ha
    have fb := hw.free_ap hb
    have za' := ap_zf hz za
    have zb' := ap_zf hz zb
    unfold unT at h
    split at h
    · rename_i e
      obtain rfl := Option.some.inj h
      exact ⟨hw, hz, hw.le, (tq_of za' zb').1 e⟩
    · split at h
      · rename_i e
        have h0 := okT_zero oa e
        have hv := fa (ap (sv bs) a).2.1 (by rw [h0.1]; exact List.mem_singleton.2 rfl)
        exact ⟨unB_wb h hw h0.2 hv ob fb, unB_zf h hw hz zb', unB_le h hw, unB_same h hw h0.1 rfl⟩
      · split at h
        · rename_i e
          have h0 := okT_zero ob e
          have hv := fb (ap (sv bs) b).2.1 (by rw [h0.1]; exact List.mem_singleton.2 rfl)
          exact ⟨unB_wb h hw h0.2 hv oa fa, unB_zf h hw hz za', unB_le h hw, (unB_same h hw h0.1 rfl).symm⟩
        · rename_i en1 en2
          split at h
          · rename_i e
            obtain ⟨w1, z1, l1, e1⟩ := unF_same (unT_same n) _ _ bs bs' hw hz oa.2 ob.2 za' zb' h
            refine ⟨w1, z1, l1, ?_⟩
            rw [← l1 a ha, ← l1 b hb, okT_sym oa en1, okT_sym ob en2, ap_sym (t := (_, 0, _)) en1, ap_sym (t := (_, 0, _)) en2]
            dsimp only
            rw [e1]
            exact Prod.ext e rfl
          · cases h

/-- What is put in says nothing else of what is known. -/
def Ag (τ : Int → Option T3) (bs : List Bd) : Prop := ∀ a, okT a → ap τ (ap (sv bs) a) = ap τ a
theorem Ag.nil (τ : Int → Option T3) : Ag τ [] := fun a _ => by
  have : ap (sv []) a = a := tsub_nil _ _ _
  rw [this]
theorem fsub_congrV {σ τ : Int → Option T3} : ∀ k : Fo, fok k = true → (∀ x ∈ fvl k, ap σ (vT x) = ap τ (vT x)) → fsub σ k = fsub τ k
  | .nil, _, _ => rfl
  | .node x y p k r, ho, h => by
    simp only [fok, Bool.and_eq_true] at ho
    simp only [fvl, List.mem_append] at h
    have hr := fsub_congrV r ho.2 (fun z hz => h z (.inr hz))
    rw [fsub_sign, fsub_sign, hr]
    by_cases e : p.1 = 0
    · have h0 : ap σ (vT p.2) = ap τ (vT p.2) := h p.2 (.inl (by rw [if_pos e]; simp))
      have hk : k = .nil := kids_none (v := p.2) (by rw [← e]; exact ho.1.1)
      have e1 : tsub σ p.1 p.2 k = tsub τ p.1 p.2 k := by rw [hk, e]; exact h0
      rw [e1]
    · rw [tsub_sym e, tsub_sym e, fsub_congrV k ho.1.2 (fun z hz => h z (.inl (by rw [if_neg e]; exact hz)))]
theorem ap_congrV {σ τ : Int → Option T3} {t : T3} (ht : okT t) (h : ∀ x ∈ vr t, ap σ (vT x) = ap τ (vT x)) : ap σ t = ap τ t := by
  by_cases e : t.1 = 0
  · rw [(okT_zero ht e).1]; exact h _ (by rw [(okT_zero ht e).1]; exact List.mem_singleton.2 rfl)
  · unfold vr fvs at h
    rw [if_neg e] at h
    rw [ap_sym e, ap_sym e, fsub_congrV _ ht.2 h]
theorem ag_one {τ : Int → Option T3} {v : Int} {t : T3} (h : ap τ (vT v) = ap τ t) {a : T3} (ha : okT a) : ap τ (ap (sv [(v, t)]) a) = ap τ a := by
  rw [ap_th]
  refine ap_congrV ha fun x _ => ?_
  by_cases e : v = x
  · subst e
    rw [ap_var (thS_some (by rw [sv_one, if_pos rfl]))]; exact h.symm
  · have : thS (sv [(v, t)]) τ x = τ x := thS_none (by rw [sv_one, if_neg e])
    show tsub _ 0 x .nil = tsub _ 0 x .nil
    rw [tsub0, tsub0, this]
theorem unB_ag {lim : Nat} {bs out : List Bd} {v : Int} {t : T3} {τ : Int → Option T3} (h : unB lim bs v t = some out) (hw : Wb lim bs) (hg : Ag τ bs) (he : ap τ (vT v) = ap τ t) : Ag τ out := fun a ha => by
  rw [unB_ap h hw, ag_one he (hw.okA ha), hg a ha]
theorem unF_ag {lim : Nat} {τ : Int → Option T3} {f : List Bd → T3 → T3 → Option (List Bd)} (hf : ∀ bs a b bs', Wb lim bs → okT a → okT b → Ag τ bs → ap τ a = ap τ b → f bs a b = some bs' → Ag τ bs')
    (hf2 : ∀ bs a b bs', Wb lim bs → okT a → okT b → f bs a b = some bs' → Wb lim bs' ∧ Le bs bs') :
    ∀ (k l : Fo) (bs bs' : List Bd), Wb lim bs → fok k = true → fok l = true → Ag τ bs → fsub τ k = fsub τ l → unF f bs k l = some bs' → Ag τ bs'
  | .nil, .nil, bs, bs', _, _, _, hg, _, h => by obtain rfl := Option.some.inj h; exact hg
  | .nil, .node _ _ _ _ _, _, _, _, _, _, _, _, h => by simp [unF] at h
  | .node _ _ _ _ _, .nil, _, _, _, _, _, _, _, h => by simp [unF] at h
  | .node _ _ p k r, .node _ _ q l m, bs, bs', hw, hk, hl, hg, he, h => by
    simp only [fok, Bool.and_eq_true] at hk hl
    simp only [unF] at h
    obtain ⟨b1, h1, h2⟩ := Option.bind_eq_some_iff.1 h
    rw [fsub_sign, fsub_sign] at he
    simp only [BT.node.injEq, Prod.mk.injEq] at he
    obtain ⟨_, _, ⟨e1, e2⟩, e3, e4⟩ := he
    have e5 : ap τ (p.1, p.2, k) = ap τ (q.1, q.2, l) := Prod.ext e1 (Prod.ext e2 e3)
    have g1 := hf bs (p.1, p.2, k) (q.1, q.2, l) b1 hw ⟨hk.1.1, hk.1.2⟩ ⟨hl.1.1, hl.1.2⟩ hg e5 h1
    exact unF_ag hf hf2 r m b1 bs' (hf2 _ _ _ _ hw ⟨hk.1.1, hk.1.2⟩ ⟨hl.1.1, hl.1.2⟩ h1).1 hk.2 hl.2 g1 e4 h2
theorem unT_ag {lim : Nat} {τ : Int → Option T3} : ∀ (n : Nat) (bs : List Bd) (a b : T3) (bs' : List Bd), Wb lim bs → okT a → okT b → Ag τ bs → ap τ a = ap τ b → unT lim n bs a b = some bs' → Ag τ bs'
  | 0, _, _, _, _, _, _, _, _, _, h => by simp [unT] at h
  | n + 1, bs, a, b, bs', hw, ha, hb, hg, he, h => by
    have oa := hw.okA ha
    have ob := hw.okA hb
    have he' : ap τ (ap (sv bs) a) = ap τ (ap (sv bs) b) := by rw [hg a ha, hg b hb, he]
    unfold unT at h
    split at h
    · obtain rfl := Option.some.inj h; exact hg
    · split at h
      · rename_i e
        exact unB_ag h hw hg (by rw [← (okT_zero oa e).1]; exact he')
      · split at h
        · rename_i e
          exact unB_ag h hw hg (by rw [← (okT_zero ob e).1]; exact he'.symm)
        · rename_i en1 en2
          split at h
          · rw [ap_sym en1, ap_sym en2] at he'
            simp only [Prod.mk.injEq] at he'
            exact unF_ag (unT_ag n) (unT_wb n) _ _ bs bs' hw oa.2 ob.2 hg he'.2.2 h
          · cases h
/-- It is found, if there is one, of which no term is too large. -/
theorem unF_done {lim n : Nat} {τ : Int → Option T3} {f : List Bd → T3 → T3 → Option (List Bd)} (hf : ∀ bs a b, Wb lim bs → okT a → okT b → Ag τ bs → ap τ a = ap τ b → sz (ap τ a) ≤ n → ∃ bs', f bs a b = some bs' ∧ Wb lim bs' ∧ Ag τ bs') :
    ∀ (k l : Fo) (bs : List Bd), Wb lim bs → fok k = true → fok l = true → Ag τ bs → fsub τ k = fsub τ l → fsz (fsub τ k) ≤ n → ∃ bs', unF f bs k l = some bs'
  | .nil, .nil, bs, _, _, _, _, _, _ => ⟨bs, rfl⟩
  | .nil, .node x y p k r, _, _, _, _, _, he, _ => by rw [fsub_sign] at he; cases he
  | .node x y p k r, .nil, _, _, _, _, _, he, _ => by rw [fsub_sign] at he; cases he
  | .node _ _ p k r, .node _ _ q l m, bs, hw, hk, hl, hg, he, hn => by
    simp only [fok, Bool.and_eq_true] at hk hl
    rw [fsub_sign, fsub_sign] at he
    simp only [BT.node.injEq, Prod.mk.injEq] at he
    obtain ⟨_, _, ⟨e1, e2⟩, e3, e4⟩ := he
    have e5 : ap τ (p.1, p.2, k) = ap τ (q.1, q.2, l) := Prod.ext e1 (Prod.ext e2 e3)
    rw [fsub_sign] at hn
    simp only [fsz] at hn
    obtain ⟨b1, h1, w1, g1⟩ := hf bs (p.1, p.2, k) (q.1, q.2, l) hw ⟨hk.1.1, hk.1.2⟩ ⟨hl.1.1, hl.1.2⟩ hg e5 (by unfold sz ap; dsimp only; omega)
    obtain ⟨b2, h2⟩ := unF_done hf r m b1 w1 hk.2 hl.2 g1 e4 (by omega)
    exact ⟨b2, by simp only [unF, h1]; exact h2⟩
theorem vr_sz {σ : Int → Option T3} {v : Int} {t : T3} (ht : okT t) (hv : v ∈ vr t) (he : ap σ (vT v) = ap σ t) : t = vT v := by
  by_cases e : t.1 = 0
  · have h0 := okT_zero ht e
    rw [h0.1, vr_var] at hv
    simp only [List.mem_singleton] at hv
    rw [h0.1, ← hv]
  · have := (sz_occ σ ht hv).2 e
    rw [he] at this
    omega
theorem unB_done {lim : Nat} {bs : List Bd} {v : Int} {t : T3} {τ : Int → Option T3} (hτ : ∀ x, sz (ap τ (vT x)) ≤ lim) (hw : Wb lim bs) (hg : Ag τ bs) (ht : okT t) (he : ap τ (vT v) = ap τ t) (hne : t ≠ vT v) : ∃ out, unB lim bs v t = some out := by
  have h1 : v ∉ vr t := fun hm => hne (vr_sz ht hm he)
  have h2 : sz t ≤ lim := Nat.le_trans (sz_more τ ht) (by rw [← he]; exact hτ v)
  have hasc := thL_asc hw.asc (asc_one v t)
  have h3 : ∀ x ∈ thL bs [(v, t)], sz x.2 ≤ lim := fun x hx => by
    have hs := sv_mem hasc hx
    rw [thL_sv hw.asc (asc_one v t)] at hs
    have hone : ∀ x u, sv [(v, t)] x = some u → okT u := fun x u hu => by
      rw [sv_one] at hu
      split at hu
      · obtain rfl := Option.some.inj hu; exact ht
      · cases hu
    cases hb : sv bs x.1 with
    | some u0 =>
      rw [thS_some hb] at hs
      have h5 : ap (sv [(v, t)]) u0 = x.2 := Option.some.inj hs
      have ho := hw.ok _ _ hb
      have h6 := sz_more τ (ap_ok hone ho)
      rw [h5] at h6
      have h7 : ap τ x.2 = ap τ (vT x.1) := by
        rw [← h5, ag_one he ho]
        have := hg (vT x.1) (okT_var (hw.rng _ _ hb))
        rw [ap_var hb] at this
        exact this
      rw [h7] at h6
      exact Nat.le_trans h6 (hτ _)
    | none =>
      rw [thS_none hb, sv_one] at hs
      split at hs
      · obtain h8 := Option.some.inj hs
        rw [← h8]; exact h2
      · cases hs
  unfold unB
  rw [if_neg (fun h => h.elim h1 (fun h => by omega)), if_pos h3]
  exact ⟨_, rfl⟩
theorem tq_rfl (t : T3) : tq t t = true := teq_rfl _ _ _
theorem unT_done {lim : Nat} {τ : Int → Option T3} (hτ : ∀ x, sz (ap τ (vT x)) ≤ lim) : ∀ (n : Nat) (bs : List Bd) (a b : T3), Wb lim bs → okT a → okT b → Ag τ bs → ap τ a = ap τ b → sz (ap τ a) ≤ n → ∃ bs', unT lim n bs a b = some bs' ∧ Wb lim bs' ∧ Ag τ bs'
  | 0, _, _, _, _, _, _, _, _, h => by simp only [sz] at h; omega
  | n + 1, bs, a, b, hw, ha, hb, hg, he, hn => by
    have oa := hw.okA ha
    have ob := hw.okA hb
    have he' : ap τ (ap (sv bs) a) = ap τ (ap (sv bs) b) := by rw [hg a ha, hg b hb, he]
    have main : ∃ bs', unT lim (n + 1) bs a b = some bs' := by
      unfold unT
      split
      · exact ⟨_, rfl⟩
      · rename_i hne
        split
        · rename_i e
          have h0 := okT_zero oa e
          exact unB_done hτ hw hg ob (by rw [← h0.1]; exact he') (fun h => hne (by rw [h0.1, h]; exact tq_rfl _))
        · split
          · rename_i e
            have h0 := okT_zero ob e
            exact unB_done hτ hw hg oa (by rw [← h0.1]; exact he'.symm) (fun h => hne (by rw [h0.1, h]; exact tq_rfl _))
          · rename_i en1 en2
            rw [ap_sym en1, ap_sym en2] at he'
            simp only [Prod.mk.injEq] at he'
            rw [if_pos he'.1]
            refine unF_done (unT_done hτ n) _ _ bs hw oa.2 ob.2 hg he'.2.2 ?_
            have h9 := hg a ha
            rw [ap_sym en1] at h9
            rw [← h9] at hn
            simp only [sz] at hn
            omega
    obtain ⟨bs', h⟩ := main
    exact ⟨bs', h, (unT_wb _ _ _ _ _ hw ha hb h).1, unT_ag _ _ _ _ _ hw ha hb hg he h⟩

/-- A lower limit: the same, if no term is larger. -/
theorem unB_lim {lim lim' : Nat} {bs out : List Bd} {v : Int} {t : T3} (h : unB lim bs v t = some out) (hs : ∀ x ∈ out, sz x.2 ≤ lim') (hvn : sv bs v = none) (hw : Wb lim bs) : unB lim' bs v t = some out := by
  obtain ⟨h1, h2, rfl, h4⟩ := unB_in h
  unfold unB
  have hm : sz t ≤ lim' := by
    have : sv (thL bs [(v, t)]) v = some t := by rw [thL_sv hw.asc (asc_one v t), thS_none hvn, sv_one, if_pos rfl]
    exact hs _ (mem_sv this)
  rw [if_neg (fun h => h.elim h1 (fun h => by omega)), if_pos hs]
def Sm (lim : Nat) (bs : List Bd) : Prop := ∀ x ∈ bs, sz x.2 ≤ lim
theorem sm_le {lim lim' : Nat} {bs bs' : List Bd} (hl : Le bs bs') (hw : Wb lim bs) (h : Sm lim' bs') (h1 : 1 ≤ lim') : Sm lim' bs := fun x hx => by
  have hs := sv_mem hw.asc hx
  have ho := hw.ok _ _ hs
  have e := hl (vT x.1) (okT_var (hw.rng _ _ hs))
  rw [ap_var hs] at e
  have h2 := sz_more (sv bs') ho
  rw [e] at h2
  refine Nat.le_trans h2 ?_
  cases hb : sv bs' x.1 with
  | some u => rw [ap_var hb]; exact h _ (mem_sv hb)
  | none => rw [ap_none hb]; exact h1
theorem unF_lim {lim lim' : Nat} {f g : List Bd → T3 → T3 → Option (List Bd)} (h1 : 1 ≤ lim') (hf : ∀ bs a b bs', Wb lim bs → okT a → okT b → f bs a b = some bs' → Wb lim bs' ∧ Le bs bs') (hg : ∀ bs a b bs', Wb lim bs → okT a → okT b → f bs a b = some bs' → Sm lim' bs' → g bs a b = some bs') :
    ∀ (k l : Fo) (bs bs' : List Bd), Wb lim bs → fok k = true → fok l = true → unF f bs k l = some bs' → Sm lim' bs' → unF g bs k l = some bs'
  | .nil, .nil, bs, bs', _, _, _, h, _ => h
  | .nil, .node _ _ _ _ _, _, _, _, _, _, h, _ => by simp [unF] at h
  | .node _ _ _ _ _, .nil, _, _, _, _, _, h, _ => by simp [unF] at h
  | .node _ _ p k r, .node _ _ q l m, bs, bs', hw, hk, hl, h, hs => by
    simp only [fok, Bool.and_eq_true] at hk hl
    simp only [unF] at h ⊢
    obtain ⟨b1, e1, e2⟩ := Option.bind_eq_some_iff.1 h
    have oa : okT (p.1, p.2, k) := ⟨hk.1.1, hk.1.2⟩
    have ob : okT (q.1, q.2, l) := ⟨hl.1.1, hl.1.2⟩
    obtain ⟨w1, l1⟩ := hf _ _ _ _ hw oa ob e1
    have l2 := (unF_wb hf r m b1 bs' w1 hk.2 hl.2 e2).2
    rw [hg _ _ _ _ hw oa ob e1 (sm_le l2 w1 hs h1)]
    exact unF_lim h1 hf hg r m b1 bs' w1 hk.2 hl.2 e2 hs
theorem unT_lim {lim lim' : Nat} (h1 : 1 ≤ lim') : ∀ (n : Nat) (bs : List Bd) (a b : T3) (bs' : List Bd), Wb lim bs → okT a → okT b → unT lim n bs a b = some bs' → Sm lim' bs' → unT lim' n bs a b = some bs'
  | 0, _, _, _, _, _, _, _, h, _ => by simp [unT] at h
  | n + 1, bs, a, b, bs', hw, ha, hb, h, hs => by
    have oa := hw.okA ha
    have ob := hw.okA hb
    have fa := hw.free_ap ha
    have fb := hw.free_ap hb
    unfold unT at h ⊢
    split at h
    · rename_i e; rw [if_pos e]; exact h
    · rename_i e; rw [if_neg e]
      split at h
      · rename_i e; rw [if_pos e]
        have h0 := okT_zero oa e
        exact unB_lim h (fun x hx => hs x hx) (fa _ (by rw [h0.1]; exact List.mem_singleton.2 rfl)) hw
      · rename_i e; rw [if_neg e]
        split at h
        · rename_i e; rw [if_pos e]
          have h0 := okT_zero ob e
          exact unB_lim h (fun x hx => hs x hx) (fb _ (by rw [h0.1]; exact List.mem_singleton.2 rfl)) hw
        · rename_i e; rw [if_neg e]
          split at h
          · rename_i e; rw [if_pos e]
            exact unF_lim h1 (unT_wb n) (unT_lim h1 n) _ _ bs bs' hw oa.2 ob.2 h hs
          · cases h
end Go.Proofs.Ytdkcbbhkoibplaa

/-! UB: - bind: a variable stands for a term, beside what is known. -/
namespace Go.Proofs.Ytdkcbbhkoibplaa
open Go.RowKit Go.Deep Go.Maps

def HasN (w : World) (D : DataW Value) (σ : Int → Option T3) : Prop := ∀ x : Int, (Lit.int .i64 x).wf = true →
    (σ x = none → Maps.has D (.int .i64 x) = false) ∧ ∀ s v k, σ x = some (s, v, k) → Maps.has D (.int .i64 x) = true ∧ ∃ nv, D.atKey (.int .i64 x) (.held .nilIface) = .held nv ∧ NodeIs w 0 w.heap.size nv s v k
theorem HasN.keep {w w' : World} {D : DataW Value} {σ : Int → Option T3} (h : HasN w D σ) (hk : ∀ q x, w.cell? q = some x → w'.cell? q = some x) (hs : w.heap.size ≤ w'.heap.size) : HasN w' D σ := fun x hw =>
  ⟨(h x hw).1, fun s v k hx => by
    obtain ⟨h1, nv, h2, h3⟩ := (h x hw).2 s v k hx
    exact ⟨h1, nv, h2, (h3.keep hk).mono (Nat.le_refl _) hs⟩⟩
theorem HasN.put {w : World} {D : DataW Value} {σ : Int → Option T3} (h : HasN w D σ) (hD : Maps.IsMap D) {x : Int} {nv : Value} {t : T3} (hn : NodeIs w 0 w.heap.size nv t.1 t.2.1 t.2.2) : HasN w (D.put (.int .i64 x) (.held nv)) (fun y => if x = y then some t else σ y) := fun y hy => by
  have hne : x ≠ y → (Lit.int .i64 y) ≠ (Lit.int .i64 x) := fun e h => by simp only [Lit.int.injEq, true_and] at h; exact e h.symm
  dsimp only
  by_cases e : x = y
  · subst e
    rw [if_pos rfl]
    refine ⟨fun h => (by cases h), fun s' v' k' h => ?_⟩
    obtain rfl := Option.some.inj h
    exact ⟨has_put_same hD (by trivial) _, nv, atKey_put_same hD (by trivial) _ _, hn⟩
  · rw [if_neg e]
    refine ⟨fun h2 => ?_, fun s' v' k' h2 => ?_⟩
    · rw [has_put_other (hne e)]; exact (h y hy).1 h2
    · obtain ⟨h3, nv', h4, h5⟩ := (h y hy).2 s' v' k' h2
      exact ⟨by rw [has_put_other (hne e)]; exact h3, nv', by rw [atKey_put_other (hne e)]; exact h4, h5⟩
theorem HasN.congr {w : World} {D : DataW Value} {σ τ : Int → Option T3} (h : HasN w D σ) (hs : ∀ x, (Lit.int .i64 x).wf = true → τ x = σ x) : HasN w D τ := fun x hw => by rw [hs x hw]; exact h x hw

/-- What is known while some are still to come. -/
def unL (bs : List Bd) (τ : Int → Option T3) (left : Lit → Bool) (y : Int) : Option T3 :=
  match sv bs y with
  | none => none
  | some u => if left (.int .i64 y) = true then some u else some (ap τ u)
theorem unL_step {bs : List Bd} {τ : Int → Option T3} {left : Lit → Bool} {x : Int} {t : T3} (hs : sv bs x = some t) (y : Int) : unL bs τ (fun z => left z && !z.sameKey (.int .i64 x)) y = if x = y then some (ap τ t) else unL bs τ left y := by
  unfold unL
  by_cases e : x = y
  · subst e
    rw [if_pos rfl, hs]
    dsimp only
    rw [if_neg (by simp [Lit.sameKey])]
  · rw [if_neg e]
    have : (Lit.int .i64 y).sameKey (.int .i64 x) = false := by simp [Lit.sameKey]; exact fun h => e h.symm
    simp only [this, Bool.not_false, Bool.and_true]
theorem unL_end {bs : List Bd} {v : Int} {t : T3} {left : Lit → Bool} (hl : ∀ kl, left kl = false) (hv : sv bs v = none) (y : Int) : thS (sv bs) (sv [(v, t)]) y = if v = y then some t else unL bs (sv [(v, t)]) left y := by
  unfold unL thS
  by_cases e : v = y
  · subst e
    rw [if_pos rfl, hv, sv_one, if_pos rfl]
  · rw [if_neg e]
    cases sv bs y with
    | none => dsimp only; rw [sv_one, if_neg e]
    | some u => dsimp only; rw [if_neg (by rw [hl]; simp)]; rfl
theorem unB_occ {lim : Nat} {bs : List Bd} {v : Int} {t : T3} (h : v ∈ vr t) : unB lim bs v t = none := by unfold unB; rw [if_pos (.inl h)]
theorem unB_big {lim : Nat} {bs : List Bd} {v : Int} {t : T3} (h : lim < sz t) : unB lim bs v t = none := by unfold unB; rw [if_pos (.inr h)]
theorem unB_over {lim : Nat} {bs : List Bd} {v y : Int} {t u : T3} (ha : Asc bs) (hy : sv bs y = some u) (h : lim < sz (ap (sv [(v, t)]) u)) : unB lim bs v t = none := by
  unfold unB
  split
  · rfl
  · rw [if_neg]
    intro hall
    have hs : sv (thL bs [(v, t)]) y = some (ap (sv [(v, t)]) u) := by rw [thL_sv ha (asc_one v t), thS_some hy]; rfl
    have := hall _ (mem_sv hs)
    dsimp only at this
    omega
theorem unB_fits {lim : Nat} {bs : List Bd} {v : Int} {t : T3} (ha : Asc bs) (h1 : v ∉ vr t) (h2 : sz t ≤ lim) (h : ∀ y u, sv bs y = some u → sz (ap (sv [(v, t)]) u) ≤ lim) : unB lim bs v t = some (thL bs [(v, t)]) := by
  unfold unB
  rw [if_neg (fun hc => hc.elim h1 (fun hc => by omega)), if_pos]
  intro x hx
  have hs := sv_mem (thL_asc ha (asc_one v t)) hx
  rw [thL_sv ha (asc_one v t)] at hs
  cases hb : sv bs x.1 with
  | some u => rw [thS_some hb] at hs; have := h _ _ hb; rw [← Option.some.inj hs]; exact this
  | none =>
    rw [thS_none hb, sv_one] at hs
    split at hs
    · rw [← Option.some.inj hs]; exact h2
    · cases hs

theorem fsub_szB {σ : Int → Option T3} (h : ∀ x u, σ x = some u → sz u ≤ 64) : ∀ k : Fo, fok k = true → fsz (fsub σ k) ≤ 33 * fsz k + 32 * flen k
  | .nil, _ => Nat.zero_le _
  | .node x y p k r, ho => by
    simp only [fok, Bool.and_eq_true] at ho
    have hr := fsub_szB h r ho.2
    rw [fsub_sign]
    simp only [fsz, flen]
    by_cases e : p.1 = 0
    · have hk : k = .nil := kids_none (v := p.2) (by rw [← e]; exact ho.1.1)
      subst hk
      have h1 : fsz (tsub σ p.1 p.2 .nil).2.2 + 1 ≤ 64 := by
        cases hs : σ p.2 with
        | some u => rw [tsub_var e hs]; have := h _ _ hs; simp only [sz] at this; omega
        | none => rw [tsub_none e hs]; simp [fsz]
      omega
    · have hk := fsub_szB h k ho.1.2
      have hl : flen k ≤ 2 := by
        have := ((okN_iff _ _ _).1 ho.1.1).1
        unfold ar at this
        split at this
        · omega
        · split at this
          · omega
          · split at this <;> omega
      rw [tsub_sym e]
      dsimp only
      omega
theorem ap_szB {σ : Int → Option T3} (h : ∀ x u, σ x = some u → sz u ≤ 64) {a : T3} (ha : okT a) : sz (ap σ a) ≤ 33 * sz a + 32 := by
  by_cases e : a.1 = 0
  · rw [(okT_zero ha e).1]
    cases hs : σ a.2.1 with
    | some u => rw [ap_var hs]; have := h _ _ hs; simp only [sz] at this ⊢; omega
    | none => rw [ap_none hs]; simp only [sz, vT, fsz]; omega
  · have hk := fsub_szB h a.2.2 ha.2
    have hl : flen a.2.2 ≤ 2 := by
      have := ((okN_iff _ _ _).1 ha.1).1
      unfold ar at this
      split at this
      · omega
      · split at this
        · omega
        · split at this <;> omega
    rw [ap_sym e]
    simp only [sz]
    omega

def UbPost (base b : Nat) (r : Option (List Bd)) (w : World) (e : Ending) (w' : World) : Prop :=
  Kp base w w' ∧ ((∃ bs', r = some bs' ∧ e = .returned (.bool true) ∧ MapIs w' b bs') ∨ (r = none ∧ e = .returned (.bool false)))
theorem Kp.grown {base c : Nat} {w w1 w2 : World} (h : Kp base w w1) (hg : w1.grownBy w2 (some c)) (hc : base ≤ c) (hb : base ≤ w1.heap.size) (hk : ∀ q x, w1.cell? q = some x → w2.cell? q = some x) : Kp base w w2 :=
  ⟨h.low.grown hg hb (fun j hj => by cases hj; exact hc), fun q x hq => hk q x (h.cell q x hq)⟩
theorem Kp.low2 {base : Nat} {w w1 w2 : World} (h : Kp base w w1) (hb : Below w1.heap.size w1 w2) (hs : base ≤ w1.heap.size) : Kp base w w2 := h.trans (Kp.of hb hs)

/-- Behind the making of the one bind. -/
structure UbS (base b g : Nat) (bs : List Bd) (x : Int) (t : T3) (nv : Value) (w w3 : World) : Prop where
  kp : Kp base w w3
  own : ∃ D, w3.ownsMap Try.prog 149 rdV b 12 D ∧ HasN w3 D (sv bs)
  step : MapF w3 g (sv [(x, t)])
  node : NodeIs w3 0 w3.heap.size nv t.1 t.2.1 t.2.2
  bg : b < g
  gl : g < w3.heap.size
  lo : base ≤ g
theorem ub_start {base b : Nat} {bs : List Bd} {x : Int} {t : T3} {nv : Value} {w w2 w3 : World} (hk : Kp base w w2) (hb : base ≤ w2.heap.size) (hf : MapF w2 b (sv bs)) (hn : NodeIs w2 0 w2.heap.size nv t.1 t.2.1 t.2.2) (hxr : 0 ≤ x ∧ x ≤ 11)
    (hown : w3.ownsMap Try.prog 149 rdV w2.heap.size (0 + 1) (DataW.put (.map []) (.int .i64 x) (.held nv))) (hg : (w2.alloc (.map #[] 0)).grownBy w3 (some w2.heap.size)) : UbS base b w2.heap.size bs x t nv w w3 := by
  have hal : Below w2.heap.size w2 (w2.alloc (.map #[] 0)) := (Below.refl _ _).alloc (Nat.le_refl _) _
  have hs3 := hg.size
  simp at hs3
  have hcm := cells_keep (World.ownsMap_made w2 Try.prog 149 rdV) hg
  have hk3 : Kp base w w3 := (hk.low2 hal hb).grown hg hb (by simp; omega) hcm
  have hkp2 : ∀ q y, w2.cell? q = some y → w3.cell? q = some y := fun q y hq => hcm q y (cell_low hal hq)
  obtain ⟨D, hm, hx⟩ := hf
  have hbl := hm.lt
  refine ⟨hk3, ⟨D, ?_, HasN.keep hx hkp2 (by omega)⟩, ?_, (hn.keep hkp2).mono (Nat.le_refl _) (by omega), hbl, by omega, hb⟩
  · obtain ⟨es, clock, h1, h2⟩ := hm
    refine ⟨es, clock, ?_, h2⟩
    rw [hg.block b (by simp; omega) (by simp; omega), Below.heap_alloc _ _ _ hbl]
    exact h1
  · have hp := MapF.put (w := w2.alloc (.map #[] 0)) (σ := fun _ => none) (t := t) (x := x) (World.ownsMap_made w2 Try.prog 149 rdV) (fun y _ => ⟨fun _ => rfl, fun s v k h => by cases h⟩) (fun y u h => by cases h) hxr hown hg ((hn.below hal).mono (Nat.le_refl _) hal.size)
    exact hp.congr fun y _ => by rw [sv_one]

end Go.Proofs.Ytdkcbbhkoibplaa

/-! UN2: How large terms become while they are made the same. Plain lemmas. -/
namespace Go.Proofs.Ytdkcbbhkoibplaa
open Go.RowKit Go.Deep

/-- Whatever is known further on, the term is so large at most. -/
def Un (lim n : Nat) (bs : List Bd) (a : T3) : Prop := ∀ bs', Wb lim bs' → Le bs bs' → sz (ap (sv bs') a) ≤ n
theorem Un.now {lim n : Nat} {bs : List Bd} {a : T3} (h : Un lim n bs a) (hw : Wb lim bs) : sz (ap (sv bs) a) ≤ n := h bs hw hw.le
theorem Un.self {lim n : Nat} {bs : List Bd} {a : T3} (h : Un lim n bs a) (hw : Wb lim bs) (ha : okT a) : sz a ≤ n := Nat.le_trans (sz_more (sv bs) ha) (h.now hw)
theorem Un.start {lim : Nat} (hlim : lim ≤ 64) {a : T3} (ha : okT a) (hz : sz a ≤ 16) : Un lim 600 [] a := fun bs' hw _ => by
  have := ap_szB (fun x u hu => Nat.le_trans (hw.small x u hu) hlim) ha
  omega
theorem Un.next {lim n : Nat} {bs b1 : List Bd} {a : T3} (h : Un lim n bs a) (hl : Le bs b1) (hw : Wb lim bs) : Un lim n b1 a := fun bs' hw' hl' => h bs' hw' (hl.trans hl' hw)
theorem Un.kid {lim n : Nat} {bs b1 : List Bd} {a : T3} (h : Un lim (n + 1) bs a) (hw : Wb lim bs) (hl : Le bs b1) (ha : okT a) (hs : (ap (sv bs) a).1 ≠ 0) {j x y : Nat} {s v : Int} {k r : Fo} (hd : fdrop j (ap (sv bs) a).2.2 = .node x y (s, v) k r) : Un lim n b1 (s, v, k) := fun bs' hw' hl' => by
  have h1 := h bs' hw' (hl.trans hl' hw)
  have h2 := (hl.trans hl' hw) a ha
  rw [ap_sym hs] at h2
  rw [← h2] at h1
  have h3 := fsz_kid (fsub_at (sv bs') j _ hd)
  simp only [sz] at h1 ⊢
  have h4 : (ap (sv bs') (s, v, k)).2.2 = (tsub (sv bs') s v k).2.2 := rfl
  rw [h4]
  omega
theorem unT_succ (lim n : Nat) (bs : List Bd) (a b : T3) : unT lim (n + 1) bs a b =
    if tq (ap (sv bs) a) (ap (sv bs) b) = true then some bs
    else if (ap (sv bs) a).1 = 0 then unB lim bs (ap (sv bs) a).2.1 (ap (sv bs) b)
    else if (ap (sv bs) b).1 = 0 then unB lim bs (ap (sv bs) b).2.1 (ap (sv bs) a)
    else if (ap (sv bs) a).1 = (ap (sv bs) b).1 then unF (unT lim n) bs (ap (sv bs) a).2.2 (ap (sv bs) b).2.2
    else none := rfl
theorem unF_step {f : List Bd → T3 → T3 → Option (List Bd)} {bs : List Bd} {k l : Fo} {j x y x' y' : Nat} {s v s' v' : Int} {kk kk' : Fo} (h : fdrop j k = .node x y (s, v) kk (fdrop (j + 1) k)) (h' : fdrop j l = .node x' y' (s', v') kk' (fdrop (j + 1) l)) :
    unF f bs (fdrop j k) (fdrop j l) = (f bs (s, v, kk) (s', v', kk')).bind fun b1 => unF f b1 (fdrop (j + 1) k) (fdrop (j + 1) l) := by rw [h, h']; rfl
end Go.Proofs.Ytdkcbbhkoibplaa

/-! UR: What UnifyOf answers: plain. -/
namespace Go.Proofs.Ytdkcbbhkoibplaa
open Go.RowKit Go.Deep

/-- What makes two terms the same, all terms of so many signs at most. -/
def uniR (lim : Nat) (a b : T3) : Option (List Bd) := (unT lim 600 [] a b).bind fun bs => if sz (ap (sv bs) a) ≤ lim then some bs else none
theorem uniR_some {lim : Nat} {a b : T3} {bs : List Bd} : uniR lim a b = some bs ↔ unT lim 600 [] a b = some bs ∧ sz (ap (sv bs) a) ≤ lim := by
  unfold uniR
  rw [Option.bind_eq_some_iff]
  constructor
  · rintro ⟨x, h1, h2⟩
    split at h2
    · obtain rfl := Option.some.inj h2; exact ⟨h1, by assumption⟩
    · cases h2
  · rintro ⟨h1, h2⟩
    exact ⟨bs, h1, by rw [if_pos h2]⟩
theorem uniR_none {lim : Nat} {a b : T3} : uniR lim a b = none ↔ ∀ bs, unT lim 600 [] a b = some bs → ¬ sz (ap (sv bs) a) ≤ lim := by
  constructor
  · intro h bs h1 h2
    rw [uniR_some.2 ⟨h1, h2⟩] at h; cases h
  · intro h
    cases hu : uniR lim a b with
    | none => rfl
    | some bs => obtain ⟨h1, h2⟩ := uniR_some.1 hu; exact absurd h2 (h bs h1)
/-- The answer of UnifyOf. -/
def unR (s v : Int) (k : Fo) (s' v' : Int) (k' : Fo) : List Bd × Bool :=
  if okW s v k 16 = true ∧ okW s' v' k' 16 = true then match uniR 16 (s, v, k) (s', v', k') with
    | some bs => (bs, true)
    | none => ([], false)
  else ([], false)
theorem unR_bad {s v : Int} {k : Fo} {s' v' : Int} {k' : Fo} (h : ¬ (okW s v k 16 = true ∧ okW s' v' k' 16 = true)) : unR s v k s' v' k' = ([], false) := by unfold unR; rw [if_neg h]
theorem unR_some {s v : Int} {k : Fo} {s' v' : Int} {k' : Fo} {bs : List Bd} (h1 : okW s v k 16 = true) (h2 : okW s' v' k' 16 = true) (h : uniR 16 (s, v, k) (s', v', k') = some bs) : unR s v k s' v' k' = (bs, true) := by unfold unR; rw [if_pos ⟨h1, h2⟩, h]
theorem unR_none {s v : Int} {k : Fo} {s' v' : Int} {k' : Fo} (h : uniR 16 (s, v, k) (s', v', k') = none) : unR s v k s' v' k' = ([], false) := by
  unfold unR
  split
  · rw [h]
  · rfl
theorem unR_cases {s v : Int} {k : Fo} {s' v' : Int} {k' : Fo} {bs : List Bd} {t : Bool} (h : unR s v k s' v' k' = (bs, t)) : (t = false ∧ bs = []) ∨ (t = true ∧ okW s v k 16 = true ∧ okW s' v' k' 16 = true ∧ uniR 16 (s, v, k) (s', v', k') = some bs) := by
  unfold unR at h
  split at h
  · rename_i hc
    split at h
    · rename_i b1 hu
      simp only [Prod.mk.injEq] at h
      obtain ⟨rfl, rfl⟩ := h
      exact .inr ⟨rfl, hc.1, hc.2, hu⟩
    · simp only [Prod.mk.injEq] at h
      exact .inl ⟨h.2.symm, h.1.symm⟩
  · simp only [Prod.mk.injEq] at h
    exact .inl ⟨h.2.symm, h.1.symm⟩
theorem okT_w {s v : Int} {k : Fo} {room : Int} (h : okW s v k room = true) : okT (s, v, k) := by
  have := (okW_iff _ _ _ _).1 h; exact ⟨this.1, this.2.1⟩
theorem sz_w {s v : Int} {k : Fo} (h : okW s v k 16 = true) : sz (s, v, k) ≤ 16 := by
  have := (okW_iff _ _ _ _).1 h; simp only [sz]; omega
theorem w_sz {t : T3} (h : okT t) {room : Nat} (hz : sz t ≤ room) : okW t.1 t.2.1 t.2.2 room = true := (okW_iff _ _ _ _).2 ⟨h.1, h.2, by simp only [sz] at hz; omega⟩
theorem Wb.sok {bs : List Bd} (h : Wb 16 bs) : sok 16 bs = true := sok_iff.2 ⟨h.asc, fun x hx => by
  have hs := sv_mem h.asc hx
  have hr := h.rng _ _ hs
  exact ⟨by omega, by omega, w_sz (h.ok _ _ hs) (h.small _ _ hs)⟩⟩
theorem Wb.bof {lim : Nat} {bs : List Bd} (h : Wb lim bs) : Bof bs lim := fun x t ht => by
  have h1 := h.ok x t ht
  have h2 := h.small x t ht
  simp only [sz] at h2
  exact ⟨h1.1, h1.2, by omega⟩
theorem uniR_wb {lim : Nat} {a b : T3} {bs : List Bd} (ha : okT a) (hb : okT b) (h : uniR lim a b = some bs) : Wb lim bs := (unT_wb _ _ _ _ _ (Wb.nil lim) ha hb (uniR_some.1 h).1).1
/-- The specification looks at the terms' sizes behind it. -/
theorem uniR_spec {a b : T3} (ha : okT a) (hb : okT b) {bs : List Bd} : uniR 16 a b = some bs ↔ unT 64 600 [] a b = some bs ∧ sok 16 bs = true ∧ sz (ap (sv bs) a) ≤ 16 := by
  constructor
  · intro h
    have hw := uniR_wb ha hb h
    obtain ⟨h1, h2⟩ := uniR_some.1 h
    refine ⟨unT_lim (by omega) _ _ _ _ _ (Wb.nil 16) ha hb h1 fun x hx => ?_, hw.sok, h2⟩
    have := hw.small _ _ (sv_mem hw.asc hx)
    omega
  · rintro ⟨h1, h2, h3⟩
    refine uniR_some.2 ⟨unT_lim (by omega) _ _ _ _ _ (Wb.nil 64) ha hb h1 fun x hx => ?_, h3⟩
    have := (okW_iff _ _ _ _).1 ((sok_in h2).2 x hx).2.2
    simp only [sz]; omega
end Go.Proofs.Ytdkcbbhkoibplaa

/-! V2: l1Has: whether a variable is in a term. -/
namespace Go.Proofs.Ytdkcbbhkoibplaa
open Go.RowKit Go.Deep

theorem one_box {w wr : World} {x y z : Value} (h : Below (w.heap.size + 1) (w.alloc (.cells #[x, y, z] 35)) wr) : wr.cell? ⟨w.heap.size, 2, none⟩ = some z := by
  rw [h.cell (by simp), World.cell?_alloc_at _ _ _ _ (by simp)]; rfl

theorem fvl_drop {x : Int} {j : Nat} {k : Fo} {a b : Nat} {s v : Int} {kk r : Fo} (h : fdrop j k = .node a b (s, v) kk r) : x ∈ fvl (fdrop j k) ↔ x ∈ fvs s v kk ∨ x ∈ fvl r := by
  rw [h]
  simp only [fvl, fvs, List.mem_append]

set_option maxRecDepth 100000 in
set_option maxHeartbeats 1000000 in
theorem l1Has_any (N : Nat) : ∀ (s v : Int) (a : Option Addr) (c : Nat) (k : Fo) (x : Int) (w : World), Sl w 0 w.heap.size a k → fsz k ≤ N → N ≤ 1000000 →
    Calls Try.prog 94 #[.agg #[.int .i64 s, .int .i64 v, .slice a (flen k) c], .int .i64 x] w fun e w' => e = .returned (.bool (decide (x ∈ fvs s v k))) ∧ Below w.heap.size w w' := by
  induction N using Nat.strongRecOn with
  | _ N ih =>
    intro s v a c k x w hl hN hN2
    have hfl := flen_le_sz k
    have IH := Lib.hid ih
    clear ih
    by_cases hs : s = 0
    · subst hs
      have HE : Hid ((v == x) = decide (x ∈ fvs 0 v k)) := by
        unfold Hid
        by_cases h : v = x
        · subst h; simp [fvs]
        · have : x ≠ v := fun e => h e.symm
          simp [fvs, h, this]
      go_enter Try.func94, Try.ntmps94
      go_wp2_with fail
      go_ret
      exact ⟨by rw [← HE.out]; rfl, (Below.refl _ _).alloc (Nat.le_refl _) _⟩
    · have gs : (s == 0) = false := by simpa using hs
      have hb0 : Below w.heap.size w (w.alloc (.cells #[.int .i64 s, .int .i64 v, .slice a (flen k) c] 35)) := (Below.refl _ _).alloc (Nat.le_refl _) _
      have HB0 := Lib.hid hb0
      have HV : Hid (fvs s v k = fvl k) := by unfold Hid fvs; rw [if_neg hs]
      clear hb0
      go_enter Try.func94, Try.ntmps94
      go_wp2_with fail
      go_loopw [5] (fun i wr => ∃ j : Nat, j ≤ flen k ∧ i = .int .i64 j ∧ Hid (x ∈ fvl k ↔ x ∈ fvl (fdrop j k)) ∧ Below (w.heap.size + 1) (w.alloc (.cells #[.int .i64 s, .int .i64 v, .slice a (flen k) c] 35)) wr) (fun i _ => flen k - (intOf i).toNat)
      case atStart => exact ⟨0, by omega, rfl, Iff.rfl, Below.refl _ _⟩
      case round =>
        obtain ⟨j, hj, rfl, hq, hbl⟩ := hrel
        have hsr := hbl.size
        simp at hsr
        have hx2 := one_box hbl
        have hbw := HB0.out.trans (hbl.mono (show w.heap.size ≤ w.heap.size + 1 by omega))
        by_cases hlt : j < flen k
        · rcases hl with rfl | ⟨b, o, rfl, hrow⟩
          · simp [flen] at hlt
          obtain ⟨s1, v1, kk, a1, c1, ⟨x1, y1, hd⟩, _, hbB, hk0, hk1, hk2, hsl⟩ := row_at (hrow.below hbw) hlt
          have hkN := fsz_kid hd
          have HQ : Hid (x ∈ fvl k ↔ x ∈ fvs s1 v1 kk ∨ x ∈ fvl (fdrop (j + 1) k)) := hq.out.trans (fvl_drop hd)
          have HS := Lib.hid hsl
          have HBL := Lib.hid hbl
          clear hd hsl hrow hbl hbw hq
          have g1 : (0 : Int) ≤ (j : Int) := by omega
          have g2 : (j : Int) < (flen k : Int) := by omega
          have HS1 := Lib.hid (HS.out.mono (lo' := 0) (Nat.le_refl _) (show w.heap.size ≤ wr.heap.size by omega))
          cases hin : decide (x ∈ fvs s1 v1 kk) with
          | true =>
            have HE : Hid (decide (x ∈ fvs s v k) = true) := by
              unfold Hid
              rw [HV.out]
              exact decide_eq_true (HQ.out.2 (.inl (of_decide_eq_true hin)))
            have HIN := Lib.hid hin
            clear hin
            go_wp2_with fail
            with_reducible refine (IH.out (fsz kk) (by omega) s1 v1 a1 c1 kk x _ HS1.out (Nat.le_refl _) (by omega)).mono ?_
            rw [HIN.out]
            rintro e u ⟨rfl, hu⟩
            clear hk0 hk1 hk2 hx2
            have HB2 := Lib.hid (HBL.out.trans (hu.mono hsr))
            clear hu
            go_wp2_with fail
            go_ret
            exact ⟨by rw [HE.out]; rfl, HB0.out.trans (HB2.out.mono (by omega))⟩
          | false =>
            have HE : Hid (x ∈ fvl k ↔ x ∈ fvl (fdrop (j + 1) k)) := by
              have := of_decide_eq_false hin
              unfold Hid
              rw [HQ.out]
              simp [this]
            have HIN := Lib.hid hin
            clear hin
            go_wp2_with fail
            with_reducible refine (IH.out (fsz kk) (by omega) s1 v1 a1 c1 kk x _ HS1.out (Nat.le_refl _) (by omega)).mono ?_
            rw [HIN.out]
            rintro e u ⟨rfl, hu⟩
            clear hk0 hk1 hk2 hx2
            have HB2 := Lib.hid (HBL.out.trans (hu.mono hsr))
            clear hu
            go_wp2_with fail
            go_roundw
            case rel => exact ⟨j + 1, by omega, by go_num, HE, HB2.out⟩
            case measure => simp [intOf]; omega
        · have HE : Hid (decide (x ∈ fvs s v k) = false) := by
            unfold Hid
            rw [HV.out]
            refine decide_eq_false fun h => ?_
            have := hq.out.1 h
            rw [fdrop_all (by omega)] at this
            simp [fvl] at this
          have HBW := Lib.hid hbw
          clear hbw hbl hq
          go_wp2_with fail
          go_ret
          exact ⟨by rw [HE.out]; rfl, HBW.out⟩
end Go.Proofs.Ytdkcbbhkoibplaa

/-! SB: - The specification's l2Big and l2Bind. -/
namespace Go.Proofs.Ytdkcbbhkoibplaa
open Go.RowKit Go.Deep

set_option maxRecDepth 100000 in
set_option maxHeartbeats 400000 in
theorem l2Big_any (s v : Int) (a : Option Addr) (c : Nat) (k : Fo) (w : World) (hl : Sl w 0 w.heap.size a k) (ho : okT (s, v, k)) (r : Bool) (hr : decide (64 < sz (s, v, k)) = r) :
    Calls Try.prog 46 #[.agg #[.int .i64 s, .int .i64 v, .slice a (flen k) c]] w fun e w' => e = .returned (.bool r) ∧ Below w.heap.size w w' := by
  have hb : Below w.heap.size w (w.alloc (.cells #[.int .i64 s, .int .i64 v, .slice a (flen k) c] 35)) := box_low _ _
  have HB := Lib.hid hb
  have HC := Lib.hid (l1Count_any 64 s v a c k 64 (w.alloc (.cells #[.int .i64 s, .int .i64 v, .slice a (flen k) c] 35)) (hl.next hb) (by omega) (by omega) (by omega))
  have HE : Hid (decide (cntT s v k 64 > 64) = r) := by
    have h1 := cntT_okW s v k 64
    have h2 : okW s v k 64 = decide (sz (s, v, k) ≤ 64) := by
      rw [Bool.eq_iff_iff, okW_iff, decide_eq_true_eq]
      constructor
      · intro h; simp only [sz]; omega
      · intro h; exact ⟨ho.1, ho.2, by simp only [sz] at h; omega⟩
    rw [Hid, ← hr, Bool.eq_iff_iff]
    rw [h2, Bool.eq_iff_iff] at h1
    simp only [decide_eq_true_eq] at h1 ⊢
    omega
  have hc0 : (w.alloc (.cells #[.int .i64 s, .int .i64 v, .slice a (flen k) c] 35)).cell? ⟨w.heap.size, 0, none⟩ = some (.int .i64 s) := by rw [World.cell?_alloc_at _ _ _ _ (by simp)]; rfl
  have hc1 : (w.alloc (.cells #[.int .i64 s, .int .i64 v, .slice a (flen k) c] 35)).cell? ⟨w.heap.size, 1, none⟩ = some (.int .i64 v) := by rw [World.cell?_alloc_at _ _ _ _ (by simp)]; rfl
  have hc2 : (w.alloc (.cells #[.int .i64 s, .int .i64 v, .slice a (flen k) c] 35)).cell? ⟨w.heap.size, 2, none⟩ = some (.slice a (flen k) c) := by rw [World.cell?_alloc_at _ _ _ _ (by simp)]; rfl
  clear hl hb ho hr
  go_enter Try.func46, Try.ntmps46
  go_wp2_with fail
  with_reducible refine HC.out.mono ?_
  rintro e w1 ⟨rfl, hb1⟩
  have HB1 := Lib.hid (below_next HB.out hb1)
  have he := HE.out
  clear hb1 HC hc0 hc1 hc2
  generalize cntT s v k 64 = n at *
  go_wp2_with fail
  go_ret
  exact ⟨rfl, HB1.out⟩

def LbPost (r : Option (List Bd)) (w : World) (e : Ending) (w' : World) : Prop :=
  ∃ A C l cd, e = .returned (.tuple #[.slice A (List.length l) C, .int .i64 cd]) ∧ Below w.heap.size w w' ∧ BSl w' 0 w'.heap.size A l ∧ ((cd = 0 ∧ r = some l) ∨ (0 < cd ∧ r = none))
theorem bsl_one {w : World} {x s v : Int} {a : Option Addr} {c : Nat} {k : Fo} (hl : Sl w 0 w.heap.size a k) : BSl (w.alloc (.cells #[.int .i64 x, .int .i64 s, .int .i64 v, .slice a (flen k) c] 131)) 0 (w.alloc (.cells #[.int .i64 x, .int .i64 s, .int .i64 v, .slice a (flen k) c] 131)).heap.size (some ⟨w.heap.size, 0, none⟩) [(x, s, v, k)] := by
  refine .inr ⟨w.heap.size, 0, rfl, Nat.zero_le _, by simp, fun i y hy => ?_⟩
  cases i with
  | succ i => simp at hy
  | zero =>
    simp only [List.getElem?_cons_zero, Option.some.injEq] at hy
    subst hy
    refine ⟨a, c, ?_, ?_, ?_, ?_, hl.next (box_low _ _)⟩
    · rw [World.cell?_alloc_at _ _ _ _ (by simp)]; rfl
    · rw [World.cell?_alloc_at _ _ _ _ (by simp)]; rfl
    · rw [World.cell?_alloc_at _ _ _ _ (by simp)]; rfl
    · rw [World.cell?_alloc_at _ _ _ _ (by simp)]; rfl
theorem unB_ok {lim : Nat} {bs : List Bd} {v : Int} {t : T3} (hw : Wb lim bs) (ht : okT t) : ∀ x ∈ thL bs [(v, t)], okT x.2 := fun x hx => by
  have hs := sv_mem (thL_asc hw.asc (asc_one v t)) hx
  rw [thL_sv hw.asc (asc_one v t)] at hs
  have hone : ∀ x u, sv [(v, t)] x = some u → okT u := fun x u hu => by
    rw [sv_one] at hu
    split at hu
    · obtain rfl := Option.some.inj hu; exact ht
    · cases hu
  cases hb : sv bs x.1 with
  | some u => rw [thS_some hb] at hs; rw [← Option.some.inj hs]; exact ap_ok hone (hw.ok _ _ hb)
  | none => rw [thS_none hb] at hs; exact hone _ _ hs

end Go.Proofs.Ytdkcbbhkoibplaa

/-! BG: l2Big at any term. -/
namespace Go.Proofs.Ytdkcbbhkoibplaa
open Go.RowKit Go.Deep

set_option maxRecDepth 100000 in
set_option maxHeartbeats 400000 in
theorem l2BigG_any (s v : Int) (a : Option Addr) (c : Nat) (k : Fo) (w : World) (hl : Sl w 0 w.heap.size a k) :
    Calls Try.prog 46 #[.agg #[.int .i64 s, .int .i64 v, .slice a (flen k) c]] w fun e w' => e = .returned (.bool (!okW s v k 64)) ∧ Below w.heap.size w w' := by
  have hb : Below w.heap.size w (w.alloc (.cells #[.int .i64 s, .int .i64 v, .slice a (flen k) c] 35)) := box_low _ _
  have HB := Lib.hid hb
  have HC := Lib.hid (l1Count_any 64 s v a c k 64 (w.alloc (.cells #[.int .i64 s, .int .i64 v, .slice a (flen k) c] 35)) (hl.next hb) (by omega) (by omega) (by omega))
  have HE : Hid (decide (cntT s v k 64 > 64) = !okW s v k 64) := by
    have h1 := cntT_okW s v k 64
    rw [Hid, ← h1]
    by_cases h : cntT s v k 64 ≤ 64
    · rw [decide_eq_true h, decide_eq_false (by omega)]; rfl
    · rw [decide_eq_false h, decide_eq_true (by omega)]; rfl
  have hc0 : (w.alloc (.cells #[.int .i64 s, .int .i64 v, .slice a (flen k) c] 35)).cell? ⟨w.heap.size, 0, none⟩ = some (.int .i64 s) := by rw [World.cell?_alloc_at _ _ _ _ (by simp)]; rfl
  have hc1 : (w.alloc (.cells #[.int .i64 s, .int .i64 v, .slice a (flen k) c] 35)).cell? ⟨w.heap.size, 1, none⟩ = some (.int .i64 v) := by rw [World.cell?_alloc_at _ _ _ _ (by simp)]; rfl
  have hc2 : (w.alloc (.cells #[.int .i64 s, .int .i64 v, .slice a (flen k) c] 35)).cell? ⟨w.heap.size, 2, none⟩ = some (.slice a (flen k) c) := by rw [World.cell?_alloc_at _ _ _ _ (by simp)]; rfl
  clear hl hb
  go_enter Try.func46, Try.ntmps46
  go_wp2_with fail
  with_reducible refine HC.out.mono ?_
  rintro e w1 ⟨rfl, hb1⟩
  have HB1 := Lib.hid (below_next HB.out hb1)
  have he := HE.out
  clear hb1 HC hc0 hc1 hc2
  generalize cntT s v k 64 = n at *
  go_wp2_with fail
  go_ret
  exact ⟨rfl, HB1.out⟩
end Go.Proofs.Ytdkcbbhkoibplaa
