/- Several texts in one: UB, UN2, MA0. -/
import Derived.Test.YtpfkhgiiojikbaaKUnify1
import Derived.Test.YtpfkhgiiojikbaaKUnify2
import Derived.Test.YtpfkhgiiojikbaaKThen12
import Derived.Test.YtpfkhgiiojikbaaKUnify3
import Derived.Test.YtpfkhgiiojikbaaKThen10

/-! UB: bind: a variable stands for a term, beside what is known. -/
namespace Go.Proofs.Ytpfkhgiiojikbaa
open Go.RowKit Go.Deep Go.Maps

def HasN (w : World) (D : DataW Value) (σ : Int → Option T3) : Prop := ∀ x : Int, (Lit.int .i64 x).wf = true →
    (σ x = none → Maps.has D (.int .i64 x) = false) ∧ ∀ s v k, σ x = some (s, v, k) → Maps.has D (.int .i64 x) = true ∧ ∃ nv, D.atKey (.int .i64 x) (.held .nilIface) = .held nv ∧ NodeIs w 0 w.heap.size nv s v k
theorem HasN.keep {w w' : World} {D : DataW Value} {σ : Int → Option T3} (h : HasN w D σ) (hk : ∀ q x, w.cell? q = some x → w'.cell? q = some x) (hs : w.heap.size ≤ w'.heap.size) : HasN w' D σ := fun x hw =>
  ⟨(h x hw).1, fun s v k hx => by
    obtain ⟨h1, nv, h2, h3⟩ := (h x hw).2 s v k hx
    exact ⟨h1, nv, h2, (h3.keep hk).mono (Nat.le_refl _) hs⟩⟩
theorem HasN.put {w : World} {D : DataW Value} {σ : Int → Option T3} (h : HasN w D σ) (hD : Maps.IsMap D) {x : Int} {nv : Value} {t : T3} (hn : NodeIs w 0 w.heap.size nv t.1 t.2.1 t.2.2) : HasN w (D.put (.int .i64 x) (.held nv)) (fun y => if x = y then some t else σ y) := fun y hy => by
  have hne : x ≠ y → (Lit.int .i64 y) ≠ (Lit.int .i64 x) := fun e h => by simp only [Lit.int.injEq, true_and] at h; exact e h.symm
  dsimp only
  by_cases e : x = y
  · subst e
    rw [if_pos rfl]
    refine ⟨fun h => (by cases h), fun s' v' k' h => ?_⟩
    obtain rfl := Option.some.inj h
    exact ⟨has_put_same hD (by trivial) _, nv, atKey_put_same hD (by trivial) _ _, hn⟩
  · rw [if_neg e]
    refine ⟨fun h2 => ?_, fun s' v' k' h2 => ?_⟩
    · rw [has_put_other (hne e)]; exact (h y hy).1 h2
    · obtain ⟨h3, nv', h4, h5⟩ := (h y hy).2 s' v' k' h2
      exact ⟨by rw [has_put_other (hne e)]; exact h3, nv', by rw [atKey_put_other (hne e)]; exact h4, h5⟩
theorem HasN.congr {w : World} {D : DataW Value} {σ τ : Int → Option T3} (h : HasN w D σ) (hs : ∀ x, (Lit.int .i64 x).wf = true → τ x = σ x) : HasN w D τ := fun x hw => by rw [hs x hw]; exact h x hw

/-- What is known while some are still to come. -/
def unL (bs : List Bd) (τ : Int → Option T3) (left : Lit → Bool) (y : Int) : Option T3 :=
  match sv bs y with
  | none => none
  | some u => if left (.int .i64 y) = true then some u else some (ap τ u)
theorem unL_step {bs : List Bd} {τ : Int → Option T3} {left : Lit → Bool} {x : Int} {t : T3} (hs : sv bs x = some t) (y : Int) : unL bs τ (fun z => left z && !z.sameKey (.int .i64 x)) y = if x = y then some (ap τ t) else unL bs τ left y := by
  unfold unL
  by_cases e : x = y
  · subst e
    rw [if_pos rfl, hs]
    dsimp only
    rw [if_neg (by simp [Lit.sameKey])]
  · rw [if_neg e]
    have : (Lit.int .i64 y).sameKey (.int .i64 x) = false := by simp [Lit.sameKey]; exact fun h => e h.symm
    simp only [this, Bool.not_false, Bool.and_true]
theorem unL_end {bs : List Bd} {v : Int} {t : T3} {left : Lit → Bool} (hl : ∀ kl, left kl = false) (hv : sv bs v = none) (y : Int) : thS (sv bs) (sv [(v, t)]) y = if v = y then some t else unL bs (sv [(v, t)]) left y := by
  unfold unL thS
  by_cases e : v = y
  · subst e
    rw [if_pos rfl, hv, sv_one, if_pos rfl]
  · rw [if_neg e]
    cases sv bs y with
    | none => dsimp only; rw [sv_one, if_neg e]
    | some u => dsimp only; rw [if_neg (by rw [hl]; simp)]; rfl
theorem unB_occ {lim : Nat} {bs : List Bd} {v : Int} {t : T3} (h : v ∈ vr t) : unB lim bs v t = none := by unfold unB; rw [if_pos (.inl h)]
theorem unB_big {lim : Nat} {bs : List Bd} {v : Int} {t : T3} (h : lim < sz t) : unB lim bs v t = none := by unfold unB; rw [if_pos (.inr h)]
theorem unB_over {lim : Nat} {bs : List Bd} {v y : Int} {t u : T3} (ha : Asc bs) (hy : sv bs y = some u) (h : lim < sz (ap (sv [(v, t)]) u)) : unB lim bs v t = none := by
  unfold unB
  split
  · rfl
  · rw [if_neg]
    intro hall
    have hs : sv (thL bs [(v, t)]) y = some (ap (sv [(v, t)]) u) := by rw [thL_sv ha (asc_one v t), thS_some hy]; rfl
    have := hall _ (mem_sv hs)
    dsimp only at this
    omega
theorem unB_fits {lim : Nat} {bs : List Bd} {v : Int} {t : T3} (ha : Asc bs) (h1 : v ∉ vr t) (h2 : sz t ≤ lim) (h : ∀ y u, sv bs y = some u → sz (ap (sv [(v, t)]) u) ≤ lim) : unB lim bs v t = some (thL bs [(v, t)]) := by
  unfold unB
  rw [if_neg (fun hc => hc.elim h1 (fun hc => by omega)), if_pos]
  intro x hx
  have hs := sv_mem (thL_asc ha (asc_one v t)) hx
  rw [thL_sv ha (asc_one v t)] at hs
  cases hb : sv bs x.1 with
  | some u => rw [thS_some hb] at hs; have := h _ _ hb; rw [← Option.some.inj hs]; exact this
  | none =>
    rw [thS_none hb, sv_one] at hs
    split at hs
    · rw [← Option.some.inj hs]; exact h2
    · cases hs

theorem fsub_szB {σ : Int → Option T3} (h : ∀ x u, σ x = some u → sz u ≤ 64) : ∀ k : Fo, fok k = true → fsz (fsub σ k) ≤ 33 * fsz k + 32 * flen k
  | .nil, _ => Nat.zero_le _
  | .node x y p k r, ho => by
    simp only [fok, Bool.and_eq_true] at ho
    have hr := fsub_szB h r ho.2
    rw [fsub_sign]
    simp only [fsz, flen]
    by_cases e : p.1 = 0
    · have hk : k = .nil := kids_none (v := p.2) (by rw [← e]; exact ho.1.1)
      subst hk
      have h1 : fsz (tsub σ p.1 p.2 .nil).2.2 + 1 ≤ 64 := by
        cases hs : σ p.2 with
        | some u => rw [tsub_var e hs]; have := h _ _ hs; simp only [sz] at this; omega
        | none => rw [tsub_none e hs]; simp [fsz]
      omega
    · have hk := fsub_szB h k ho.1.2
      have hl : flen k ≤ 2 := by
        have := ((okN_iff _ _ _).1 ho.1.1).1
        unfold ar at this
        split at this
        · omega
        · split at this
          · omega
          · split at this <;> omega
      rw [tsub_sym e]
      dsimp only
      omega
theorem ap_szB {σ : Int → Option T3} (h : ∀ x u, σ x = some u → sz u ≤ 64) {a : T3} (ha : okT a) : sz (ap σ a) ≤ 33 * sz a + 32 := by
  by_cases e : a.1 = 0
  · rw [(okT_zero ha e).1]
    cases hs : σ a.2.1 with
    | some u => rw [ap_var hs]; have := h _ _ hs; simp only [sz] at this ⊢; omega
    | none => rw [ap_none hs]; simp only [sz, vT, fsz]; omega
  · have hk := fsub_szB h a.2.2 ha.2
    have hl : flen a.2.2 ≤ 2 := by
      have := ((okN_iff _ _ _).1 ha.1).1
      unfold ar at this
      split at this
      · omega
      · split at this
        · omega
        · split at this <;> omega
    rw [ap_sym e]
    simp only [sz]
    omega

def UbPost (base b : Nat) (r : Option (List Bd)) (w : World) (e : Ending) (w' : World) : Prop :=
  Kp base w w' ∧ ((∃ bs', r = some bs' ∧ e = .returned (.bool true) ∧ MapIs w' b bs') ∨ (r = none ∧ e = .returned (.bool false)))
theorem Kp.grown {base c : Nat} {w w1 w2 : World} (h : Kp base w w1) (hg : w1.grownBy w2 (some c)) (hc : base ≤ c) (hb : base ≤ w1.heap.size) (hk : ∀ q x, w1.cell? q = some x → w2.cell? q = some x) : Kp base w w2 :=
  ⟨h.low.grown hg hb (fun j hj => by cases hj; exact hc), fun q x hq => hk q x (h.cell q x hq)⟩
theorem Kp.low2 {base : Nat} {w w1 w2 : World} (h : Kp base w w1) (hb : Below w1.heap.size w1 w2) (hs : base ≤ w1.heap.size) : Kp base w w2 := h.trans (Kp.of hb hs)

/-- Behind the making of the one bind. -/
structure UbS (base b g : Nat) (bs : List Bd) (x : Int) (t : T3) (nv : Value) (w w3 : World) : Prop where
  kp : Kp base w w3
  own : ∃ D, w3.ownsMap Try.prog 114 rdV b 12 D ∧ HasN w3 D (sv bs)
  step : MapF w3 g (sv [(x, t)])
  node : NodeIs w3 0 w3.heap.size nv t.1 t.2.1 t.2.2
  bg : b < g
  gl : g < w3.heap.size
  lo : base ≤ g
theorem ub_start {base b : Nat} {bs : List Bd} {x : Int} {t : T3} {nv : Value} {w w2 w3 : World} (hk : Kp base w w2) (hb : base ≤ w2.heap.size) (hf : MapF w2 b (sv bs)) (hn : NodeIs w2 0 w2.heap.size nv t.1 t.2.1 t.2.2) (hxr : 0 ≤ x ∧ x ≤ 11)
    (hown : w3.ownsMap Try.prog 114 rdV w2.heap.size (0 + 1) (DataW.put (.map []) (.int .i64 x) (.held nv))) (hg : (w2.alloc (.map #[] 0)).grownBy w3 (some w2.heap.size)) : UbS base b w2.heap.size bs x t nv w w3 := by
  have hal : Below w2.heap.size w2 (w2.alloc (.map #[] 0)) := (Below.refl _ _).alloc (Nat.le_refl _) _
  have hs3 := hg.size
  simp at hs3
  have hcm := cells_keep (World.ownsMap_made w2 Try.prog 114 rdV) hg
  have hk3 : Kp base w w3 := (hk.low2 hal hb).grown hg hb (by simp; omega) hcm
  have hkp2 : ∀ q y, w2.cell? q = some y → w3.cell? q = some y := fun q y hq => hcm q y (cell_low hal hq)
  obtain ⟨D, hm, hx⟩ := hf
  have hbl := hm.lt
  refine ⟨hk3, ⟨D, ?_, HasN.keep hx hkp2 (by omega)⟩, ?_, (hn.keep hkp2).mono (Nat.le_refl _) (by omega), hbl, by omega, hb⟩
  · obtain ⟨es, clock, h1, h2⟩ := hm
    refine ⟨es, clock, ?_, h2⟩
    rw [hg.block b (by simp; omega) (by simp; omega), Below.heap_alloc _ _ _ hbl]
    exact h1
  · have hp := MapF.put (w := w2.alloc (.map #[] 0)) (σ := fun _ => none) (t := t) (x := x) (World.ownsMap_made w2 Try.prog 114 rdV) (fun y _ => ⟨fun _ => rfl, fun s v k h => by cases h⟩) (fun y u h => by cases h) hxr hown hg ((hn.below hal).mono (Nat.le_refl _) hal.size)
    exact hp.congr fun y _ => by rw [sv_one]

set_option maxRecDepth 100000 in
set_option maxHeartbeats 4000000 in
theorem bind_any {base b : Nat} (hbb : base ≤ b) (lim : Nat) (hlim : lim ≤ 64) (bs : List Bd) (x : Int) (t : T3) (nv : Value) (w : World) (hm : MapIs w b bs) (hw : Wb lim bs) (hbw : base ≤ w.heap.size) (hn : NodeIs w 0 w.heap.size nv t.1 t.2.1 t.2.2) (ht : okT t) (hz : sz t ≤ 900) (hx : sv bs x = none) (hxr : 0 ≤ x ∧ x ≤ 11) :
    Calls Try.prog 101 #[.map (some b), .int .i64 x, nv, .int .i64 (lim : Int)] w (UbPost base b (unB lim bs x t) w) := by
  have HW := Lib.hid hw
  have HX := Lib.hid hx
  have HF0 : Hid (MapF w b (sv bs)) := hm.toF hw.rng
  have hfz : fsz t.2.2 ≤ 1000 := by simp only [sz] at hz; omega
  have hfz2 : fsz t.2.2 ≤ 100000 := by omega
  obtain ⟨ho1, ho2⟩ := ht
  have HO1 := Lib.hid ho1
  have HO2 := Lib.hid ho2
  have HN0 := Lib.hid hn
  have hmm := @run_makeMap Try.prog
  clear hw hx hm ho1 ho2 hn
  go_enter Try.func101, Try.ntmps101
  go_wp2_with fail
  with_reducible refine (occurs_any x t.1 t.2.1 t.2.2 nv w HN0.out HO1.out HO2.out hfz).mono ?_
  rintro e w1 ⟨rfl, hb1⟩
  have HK1 := Lib.hid (Kp.of hb1 hbw)
  have HF1 := Lib.hid (HF0.out.below hb1)
  have HN1 : Hid (NodeIs w1 0 w1.heap.size nv t.1 t.2.1 t.2.2) := (HN0.out.below hb1).mono (Nat.le_refl _) hb1.size
  have hbs1 : base ≤ w1.heap.size := Nat.le_trans hbw hb1.size
  clear hb1 HF0 HN0
  by_cases hocc : x ∈ fvs t.1 t.2.1 t.2.2
  · have ho : decide (x ∈ fvs t.1 t.2.1 t.2.2) = true := decide_eq_true hocc
    have HR := Lib.hid (unB_occ (lim := lim) (bs := bs) (v := x) (t := t) hocc)
    clear hocc
    rw [ho]
    clear ho
    go_wp2_with fail
    refine bodyPost_ret (v := .bool false) ?_ rfl ⟨HK1.out, .inr ⟨HR.out, rfl⟩⟩
    simp [results, Try.results101, go_sem]
  have ho : decide (x ∈ fvs t.1 t.2.1 t.2.2) = false := decide_eq_false hocc
  have HOC : Hid (x ∉ vr t) := hocc
  rw [ho]
  clear hocc ho
  have HSIZE : Hid (∀ (hb : lim < sz t), unB lim bs x t = none) := fun hb => unB_big hb
  by_cases hbig : lim < sz t
  · have eb : decide ((lim : Int) < 1 + ((fsz t.2.2 : Nat) : Int)) = true := decide_eq_true (by simp only [sz] at hbig; omega)
    have HR := Lib.hid (HSIZE.out hbig)
    clear hbig HSIZE
    go_wp2_with (refine wpList_size _ rfl _ rfl nv t.1 t.2.1 t.2.2 rfl HN1.out hfz2 ?_; intro w2 hb2; have HB2 := Lib.hid hb2; clear hb2)
    refine bodyPost_ret (v := .bool false) ?_ rfl ⟨HK1.out.low2 HB2.out hbs1, .inr ⟨HR.out, rfl⟩⟩
    simp [results, Try.results101, go_sem]
  have eb : decide ((lim : Int) < 1 + ((fsz t.2.2 : Nat) : Int)) = false := decide_eq_false (by simp only [sz] at hbig; omega)
  have HSM : Hid (sz t ≤ lim) := Nat.le_of_not_lt hbig
  have hm0 : 0 < maxLen := by unfold maxLen; omega
  have HKEY := Lib.hid (key_of (x := x) (WalkArith.wf_i64 (by omega)))
  clear hbig HSIZE
  go_wp2_with (first | (refine wpList_size _ rfl _ rfl nv t.1 t.2.1 t.2.2 rfl HN1.out hfz2 ?_; intro w2 hb2; have HB2 := Lib.hid hb2; clear hb2) | (refine wpList_insert_own (H := Value) _ rfl _ _ _ 69 rfl 114 77 law underM rdV w2.heap.size 0 (.map []) rfl (World.ownsMap_made w2 Try.prog 114 rdV) hm0 (.int .i64 x) nv (.int .i64 x) rfl rfl HKEY.out (.held nv) [] rfl ?_; intro w3 hown3 hgrow3; have HUS := Lib.hid (ub_start (HK1.out.low2 HB2.out hbs1) (Nat.le_trans hbs1 HB2.out.size) (HF1.out.below HB2.out) ((HN1.out.below HB2.out).mono (Nat.le_refl _) HB2.out.size) hxr hown3 hgrow3); clear hown3 hgrow3; obtain ⟨D3, hod, hhas⟩ := HUS.out.own; have HOD := Lib.hid hod; have HHAS := Lib.hid hhas; clear hod hhas; go_frame) | (at_range; refine wpList_range_own _ rfl _ 69 rfl 114 77 law underM rdV b 12 D3 rfl HOD.out ?_; intro w4 hrg0 hg0 hs0))
  go_frame
  obtain ⟨w2', hw2⟩ : ∃ z, z = w2.heap.size := ⟨_, rfl⟩
  have HRG := Lib.hid hrg0
  have hb0 : Below w3.heap.size w3 w4 := ⟨hg0.os, hg0.tape, hg0.output, hg0.size, fun i hi => hg0.block i hi (by simp)⟩
  have hbg := HUS.out.bg
  have hgl := HUS.out.gl
  have hlo := HUS.out.lo
  have HH4 : Hid (HasN w4 D3 (unL bs (sv [(x, t)]) (Maps.has D3))) := (HHAS.out.keep (fun q z hq => cell_low hb0 hq) hb0.size).congr fun y hy => by
    unfold unL
    cases hs : sv bs y with
    | none => rfl
    | some u => dsimp only; rw [if_pos ((HHAS.out y hy).2 _ _ _ hs).1]
  have HF4 := Lib.hid (HUS.out.step.below hb0)
  have HK4 := Lib.hid (HUS.out.kp.low2 hb0 (by omega))
  have HN4 : Hid (NodeIs w4 0 w4.heap.size nv t.1 t.2.1 t.2.2) := (HUS.out.node.below hb0).mono (Nat.le_refl _) hb0.size
  have HD4 : Hid (∀ y u, sv bs y = some u → Maps.has D3 (.int .i64 y) = false → sz (ap (sv [(x, t)]) u) ≤ lim) := fun y u hu hf => by
    have hr := HW.out.rng y u hu
    rw [((HHAS.out y (WalkArith.wf_i64 (by omega))).2 _ _ _ hu).1] at hf
    cases hf
  clear hrg0 hg0 hs0 hb0 HUS HHAS HOD HK1 HF1 HN1 HB2
  rw [← hw2] at hbg hgl hlo HF4 ⊢
  clear hw2
  generalize w3.heap.size = r at *
  go_loopw [10] (fun _ wr => ∃ (left : Lit → Bool) (cnt : Nat) (D : DataW Value), Hid (wr.ranges Try.prog 114 rdV b r 12 D left cnt) ∧ Hid (HasN wr D (unL bs (sv [(x, t)]) left)) ∧ Hid (MapF wr w2' (sv [(x, t)])) ∧ Hid (Kp base w wr) ∧ Hid (NodeIs wr 0 wr.heap.size nv t.1 t.2.1 t.2.2) ∧ Hid (∀ y u, sv bs y = some u → left (.int .i64 y) = false → sz (ap (sv [(x, t)]) u) ≤ lim)) (fun _ wr => wr.rangeLeft b r)
  case atStart => exact ⟨_, _, _, HRG, HH4, HF4, HK4, HN4, HD4⟩
  case round =>
    clear HRG HH4 HF4 HK4 HN4 HD4
    obtain ⟨left, cnt, D, HRG, HH, HF, HK, HN, HD⟩ := hrel
    have hbr : base ≤ wr.heap.size := Nat.le_trans hbw HK.out.low.size
    go_wp2_with (at_next; refine wpList_next_ranges (α := Int) (β := Value) _ rfl _ rfl 114 law rdV (Value.int .i64) (fun v => v) (fun key kl hkey => by obtain ⟨x, rfl, _⟩ := Maps.keyOf_int_inv (q := .i64) (by kernel_rfl) hkey; exact ⟨x, rfl⟩) (fun v y _ => ⟨v, rfl⟩) b r 12 D left cnt rfl HRG.out ?_ ?_)
    · intro hc0 hl0
      have HOWN := Lib.hid HRG.out.owns
      have hm12 : 12 < maxLen := by unfold maxLen; omega
      have HR : Hid (unB lim bs x t = some (thL bs [(x, t)])) := unB_fits HW.out.asc HOC.out HSM.out fun y u hu => HD.out y u hu (hl0 _)
      have HEND : Hid (∀ y, thS (sv bs) (sv [(x, t)]) y = if x = y then some t else unL bs (sv [(x, t)]) left y) := fun y => unL_end hl0 HX.out y
      have HRNG : Hid (Rng (unL bs (sv [(x, t)]) left)) := fun y u hu => by
        unfold unL at hu
        cases hs : sv bs y with
        | none => rw [hs] at hu; cases hu
        | some u0 => exact HW.out.rng y u0 hs
      clear hl0 hc0 HD HRG
      go_wp2_with (at_mapUpdate; refine wpList_mapUpdate_own (H := Value) _ rfl _ _ _ 69 rfl 114 77 law underM rdV b 12 D rfl HOWN.out hm12 (.int .i64 x) nv (.int .i64 x) rfl rfl HKEY.out (.held nv) [] rfl ?_; intro w6 hown6 hgrow6; have HF6 := Lib.hid (MapF.put (t := t) HOWN.out HH.out HRNG.out hxr hown6 hgrow6 HN.out); have HK6 := Lib.hid (HK.out.grown hgrow6 hbb hbr (cells_keep HOWN.out hgrow6)); clear hown6 hgrow6)
      refine bodyPost_ret (v := .bool true) ?_ rfl ⟨HK6.out, .inl ⟨_, HR.out, rfl, HF6.out.toIs fun y => by rw [thL_sv HW.out.asc (asc_one x t), HEND.out y]⟩⟩
      simp [results, Try.results101, go_sem]
    · intro y cv kl yd yl w5 cnt1 hkey hlx hv hat hrg5 hlt hg5 hs5 hen
      obtain ⟨y', ey, rfl, hwy⟩ := Maps.keyOf_int_inv (q := .i64) (by kernel_rfl) hkey
      obtain rfl : y = y' := by simpa using ey
      have hhy := ranges_has HRG.out law hlx
      obtain ⟨s, v, k, hsy, nu, hnode, rfl⟩ : ∃ s v k, sv bs y = some (s, v, k) ∧ ∃ nu, NodeIs wr 0 wr.heap.size nu s v k ∧ nu = cv := by
        cases hs : sv bs y with
        | none =>
          have := (HH.out y hwy).1 (by unfold unL; rw [hs])
          rw [this] at hhy; cases hhy
        | some u =>
          obtain ⟨_, nu, h2, h3⟩ := (HH.out y hwy).2 u.1 u.2.1 u.2.2 (by unfold unL; rw [hs]; dsimp only; rw [if_pos hlx])
          refine ⟨_, _, _, rfl, nu, h3, ?_⟩
          have h4 := hat (.held .nilIface)
          rw [h2] at h4
          simp only [rdV, Option.some.injEq, Prod.mk.injEq] at hv
          rw [← hv.1] at h4
          exact DataW.held.inj h4
      have hcell := ranges_cells HRG.out hg5
      have hrl := HRG.out.lt
      have hlf := HRG.out.left_eq
      have HK5 := Lib.hid (HK.out.grown hg5 (by omega) hbr hcell)
      have HF5 := Lib.hid (HF.out.keep hg5 (show w2' ≠ r by omega) hcell)
      have HH5 := Lib.hid (HH.out.keep hcell (by omega))
      have HN5 : Hid (NodeIs w5 0 w5.heap.size nv t.1 t.2.1 t.2.2) := (HN.out.keep hcell).mono (Nat.le_refl _) (by omega)
      have HU5 : Hid (NodeIs w5 0 w5.heap.size nu s v k) := (hnode.keep hcell).mono (Nat.le_refl _) (by omega)
      have hou := HW.out.ok y _ hsy
      have hsu := HW.out.small y _ hsy
      simp only [sz] at hsu
      have HC := Lib.hid (apply_any [(x, t)] w2' s v k nu w5 HU5.out (HF5.out.toIs fun _ => rfl) hou.1 hou.2 (by omega))
      have HRG5 := Lib.hid hrg5
      have HSY := Lib.hid hsy
      have hbr5 : base ≤ w5.heap.size := by omega
      have HKY := Lib.hid (key_of hwy)
      have hm12 : 12 < maxLen := by unfold maxLen; omega
      have HST := Lib.hid (fun z => unL_step (τ := sv [(x, t)]) (left := left) hsy z)
      have hlx2 := hlx
      clear hnode hat hv hkey hrg5 hg5 hcell hsy HRG HH HF HK HN hou hsu
      go_wp2_with fail
      with_reducible refine HC.out.mono ?_
      rintro e w6 ⟨n1, rfl, hb6, hn6⟩
      have hap : tsub (sv [(x, t)]) s v k = ap (sv [(x, t)]) (s, v, k) := rfl
      rw [hap] at hn6
      have HSW : Hid (ap (sv [(x, t)]) (s, v, k) = (ap (sv [(x, t)]) (s, v, k))) := rfl
      clear hap
      generalize hq : ap (sv [(x, t)]) (s, v, k) = q at *
      have HQ := Lib.hid hq
      clear hq HSW
      have HN6 := Lib.hid hn6
      have HK6 := Lib.hid (HK5.out.low2 hb6 hbr5)
      have HF6 := Lib.hid (HF5.out.below hb6)
      have HH6 := Lib.hid (HH5.out.keep (fun q z hq => cell_low hb6 hq) hb6.size)
      have HT6 : Hid (NodeIs w6 0 w6.heap.size nv t.1 t.2.1 t.2.2) := (HN5.out.below hb6).mono (Nat.le_refl _) hb6.size
      have HRG6 := Lib.hid (HRG5.out.kept (below_grown hb6 none) (by simp) (by simp))
      have hbr6 : base ≤ w6.heap.size := Nat.le_trans hbr5 hb6.size
      clear hb6 hn6 HC HK5 HF5 HH5 HN5 HU5 HRG5 hen
      have HHY := Lib.hid hhy
      have hisM := Lib.hid ((HRG6.out.owns.tidy law).isMap)
      have HQN : Hid (NodeIs w6 0 w6.heap.size n1 q.1 q.2.1 q.2.2) := HN6.out
      have hqz : fsz q.2.2 ≤ 100000 := by
        have h1 := ap_szB (σ := sv [(x, t)]) (fun z u hu => by
          rw [sv_one] at hu
          split at hu
          · obtain rfl := Option.some.inj hu; exact Nat.le_trans HSM.out hlim
          · cases hu) (HW.out.ok y _ HSY.out)
        rw [HQ.out] at h1
        have h2 := HW.out.small y _ HSY.out
        simp only [sz] at h1 h2
        omega
      clear hhy HN6
      have harm : Hid (∀ w7, w7.ranges Try.prog 114 rdV b r 12 (D.put (.int .i64 y) (.held n1)) (fun z => left z && !z.sameKey (.int .i64 y)) cnt1 → w6.grownBy w7 (some b) →
          HasN w7 (D.put (.int .i64 y) (.held n1)) (unL bs (sv [(x, t)]) (fun z => left z && !z.sameKey (.int .i64 y))) ∧ MapF w7 w2' (sv [(x, t)]) ∧ Kp base w w7 ∧ NodeIs w7 0 w7.heap.size nv t.1 t.2.1 t.2.2 ∧ NodeIs w7 0 w7.heap.size n1 q.1 q.2.1 q.2.2 ∧ base ≤ w7.heap.size) := fun w7 hr7 hg7 => by
        have hcell := cells_keep HRG6.out.owns hg7
        have hs7 := hg7.size
        refine ⟨((HH6.out.put hisM.out HQN.out).keep hcell hs7).congr fun z _ => HST.out z, HF6.out.keep hg7 (show w2' ≠ b by omega) hcell, HK6.out.grown hg7 hbb hbr6 hcell, (HT6.out.keep hcell).mono (Nat.le_refl _) hs7, (HQN.out.keep hcell).mono (Nat.le_refl _) hs7, by omega⟩
      have HAT : Hid (∀ n2 ps, rdV n2 = some ((D.put (.int .i64 y) (.held n1)).atKey (.int .i64 y) (.held .nilIface), ps) → n1 = n2) := fun n2 ps h => by
        rw [atKey_put_same hisM.out (by trivial)] at h
        simp only [rdV, Option.some.injEq, Prod.mk.injEq] at h
        exact (DataW.held.inj h.1).symm
      have HSYQ : Hid (lim < sz q → unB lim bs x t = none) := fun h => unB_over HW.out.asc HSY.out (by rw [HQ.out]; exact h)
      have HDN : Hid (¬ lim < sz q → ∀ z u, sv bs z = some u → (left (.int .i64 z) && !(Lit.int .i64 z).sameKey (.int .i64 y)) = false → sz (ap (sv [(x, t)]) u) ≤ lim) := fun hq z u hu hf => by
        by_cases e : y = z
        · subst e
          have := HSY.out
          rw [hu] at this
          rw [Option.some.inj this, HQ.out]
          exact Nat.le_of_not_lt hq
        · refine HD.out z u hu ?_
          have e2 : (Lit.int .i64 z).sameKey (.int .i64 y) = false := by simp [Lit.sameKey]; exact fun h => e h.symm
          rw [e2] at hf
          simpa using hf
      clear HQN HK6 HF6 HH6 HT6 HD HST hlx2 HSY HQ hisM
      by_cases hbig : lim < sz q
      · have eb2 : decide ((lim : Int) < 1 + ((fsz q.2.2 : Nat) : Int)) = true := decide_eq_true (by simp only [sz] at hbig; omega)
        have HR := Lib.hid (HSYQ.out hbig)
        clear hbig HSYQ HDN
        go_wp2_with (first | (at_mapUpdate; refine wpList_store_ranges (H := Value) _ rfl _ _ _ 69 rfl 114 77 law underM rdV b r 12 D _ cnt1 rfl HRG6.out hm12 (.int .i64 y) n1 (.int .i64 y) rfl rfl HKY.out (.held n1) [] rfl HHY.out ?_; intro w7 hrg7 hgrow7; have HA7 := Lib.hid (harm.out w7 hrg7 hgrow7); have HRG7 := Lib.hid hrg7; clear hrg7 hgrow7; go_frame) | (at_lookup; refine wpList_look_own (H := Value) _ rfl _ _ 69 rfl 114 77 law underM rdV (zeroE _) (.held .nilIface) [] rfl b 12 _ rfl HRG7.out.owns (.int .i64 y) (.int .i64 y) rfl HKY.out ?_; intro n2 ps hn2; obtain rfl : n1 = n2 := HAT.out n2 ps hn2; clear hn2; go_frame) | (refine wpList_size _ rfl _ rfl n1 q.1 q.2.1 q.2.2 rfl HA7.out.2.2.2.2.1 hqz ?_; intro w8 hb8; have HB8 := Lib.hid hb8; clear hb8))
        refine bodyPost_ret (v := .bool false) ?_ rfl ⟨HA7.out.2.2.1.low2 HB8.out HA7.out.2.2.2.2.2, .inr ⟨HR.out, rfl⟩⟩
        simp [results, Try.results101, go_sem]
      have eb2 : decide ((lim : Int) < 1 + ((fsz q.2.2 : Nat) : Int)) = false := decide_eq_false (by simp only [sz] at hbig; omega)
      have HDN2 := Lib.hid (HDN.out hbig)
      clear hbig HSYQ HDN
      go_wp2_with (first | (at_mapUpdate; refine wpList_store_ranges (H := Value) _ rfl _ _ _ 69 rfl 114 77 law underM rdV b r 12 D _ cnt1 rfl HRG6.out hm12 (.int .i64 y) n1 (.int .i64 y) rfl rfl HKY.out (.held n1) [] rfl HHY.out ?_; intro w7 hrg7 hgrow7; have HA7 := Lib.hid (harm.out w7 hrg7 hgrow7); have HRG7 := Lib.hid hrg7; clear hrg7 hgrow7; go_frame) | (at_lookup; refine wpList_look_own (H := Value) _ rfl _ _ 69 rfl 114 77 law underM rdV (zeroE _) (.held .nilIface) [] rfl b 12 _ rfl HRG7.out.owns (.int .i64 y) (.int .i64 y) rfl HKY.out ?_; intro n2 ps hn2; obtain rfl : n1 = n2 := HAT.out n2 ps hn2; clear hn2; go_frame) | (refine wpList_size _ rfl _ rfl n1 q.1 q.2.1 q.2.2 rfl HA7.out.2.2.2.2.1 hqz ?_; intro w8 hb8; have HB8 := Lib.hid hb8; clear hb8))
      have HRG8 := Lib.hid (HRG7.out.kept (below_grown HB8.out none) (by simp) (by simp))
      go_roundw
      case rel => exact ⟨_, cnt1, _, HRG8, HA7.out.1.keep (fun z u hz => cell_low HB8.out hz) HB8.out.size, HA7.out.2.1.below HB8.out, HA7.out.2.2.1.low2 HB8.out HA7.out.2.2.2.2.2, (HA7.out.2.2.2.1.below HB8.out).mono (Nat.le_refl _) HB8.out.size, HDN2⟩
      case measure => rw [HRG8.out.left_eq, hlf]; exact hlt
end Go.Proofs.Ytpfkhgiiojikbaa

/-! UN2: How large terms become while they are made the same. Plain lemmas. -/
namespace Go.Proofs.Ytpfkhgiiojikbaa
open Go.RowKit Go.Deep

/-- Whatever is known further on, the term is so large at most. -/
def Un (lim n : Nat) (bs : List Bd) (a : T3) : Prop := ∀ bs', Wb lim bs' → Le bs bs' → sz (ap (sv bs') a) ≤ n
theorem Un.now {lim n : Nat} {bs : List Bd} {a : T3} (h : Un lim n bs a) (hw : Wb lim bs) : sz (ap (sv bs) a) ≤ n := h bs hw hw.le
theorem Un.self {lim n : Nat} {bs : List Bd} {a : T3} (h : Un lim n bs a) (hw : Wb lim bs) (ha : okT a) : sz a ≤ n := Nat.le_trans (sz_more (sv bs) ha) (h.now hw)
theorem Un.start {lim : Nat} (hlim : lim ≤ 64) {a : T3} (ha : okT a) (hz : sz a ≤ 16) : Un lim 600 [] a := fun bs' hw _ => by
  have := ap_szB (fun x u hu => Nat.le_trans (hw.small x u hu) hlim) ha
  omega
theorem Un.next {lim n : Nat} {bs b1 : List Bd} {a : T3} (h : Un lim n bs a) (hl : Le bs b1) (hw : Wb lim bs) : Un lim n b1 a := fun bs' hw' hl' => h bs' hw' (hl.trans hl' hw)
theorem Un.kid {lim n : Nat} {bs b1 : List Bd} {a : T3} (h : Un lim (n + 1) bs a) (hw : Wb lim bs) (hl : Le bs b1) (ha : okT a) (hs : (ap (sv bs) a).1 ≠ 0) {j x y : Nat} {s v : Int} {k r : Fo} (hd : fdrop j (ap (sv bs) a).2.2 = .node x y (s, v) k r) : Un lim n b1 (s, v, k) := fun bs' hw' hl' => by
  have h1 := h bs' hw' (hl.trans hl' hw)
  have h2 := (hl.trans hl' hw) a ha
  rw [ap_sym hs] at h2
  rw [← h2] at h1
  have h3 := fsz_kid (fsub_at (sv bs') j _ hd)
  simp only [sz] at h1 ⊢
  have h4 : (ap (sv bs') (s, v, k)).2.2 = (tsub (sv bs') s v k).2.2 := rfl
  rw [h4]
  omega
theorem unT_succ (lim n : Nat) (bs : List Bd) (a b : T3) : unT lim (n + 1) bs a b =
    if tq (ap (sv bs) a) (ap (sv bs) b) = true then some bs
    else if (ap (sv bs) a).1 = 0 then unB lim bs (ap (sv bs) a).2.1 (ap (sv bs) b)
    else if (ap (sv bs) b).1 = 0 then unB lim bs (ap (sv bs) b).2.1 (ap (sv bs) a)
    else if (ap (sv bs) a).1 = (ap (sv bs) b).1 then unF (unT lim n) bs (ap (sv bs) a).2.2 (ap (sv bs) b).2.2
    else none := rfl
theorem unF_step {f : List Bd → T3 → T3 → Option (List Bd)} {bs : List Bd} {k l : Fo} {j x y x' y' : Nat} {s v s' v' : Int} {kk kk' : Fo} (h : fdrop j k = .node x y (s, v) kk (fdrop (j + 1) k)) (h' : fdrop j l = .node x' y' (s', v') kk' (fdrop (j + 1) l)) :
    unF f bs (fdrop j k) (fdrop j l) = (f bs (s, v, kk) (s', v', kk')).bind fun b1 => unF f b1 (fdrop (j + 1) k) (fdrop (j + 1) l) := by rw [h, h']; rfl
end Go.Proofs.Ytpfkhgiiojikbaa

/-! MA0: Matching, plain: steps of a row. -/
namespace Go.Proofs.Ytpfkhgiiojikbaa
open Go.RowKit Go.Deep

theorem flen_same {s v v' : Int} {k k' : Fo} (h : okN s v (flen k) = true) (h' : okN s v' (flen k') = true) : flen k = flen k' := by
  have h1 := ((okN_iff _ _ _).1 h).1
  have h2 := ((okN_iff _ _ _).1 h').1
  omega
theorem tmt_sym {bs : List Bd} {s v v' : Int} {k k' : Fo} (hs : s ≠ 0) : tmt bs s v k s v' k' = fmt bs k k' := by unfold tmt; rw [if_neg hs, if_pos rfl]
theorem tmt_other {bs : List Bd} {s v s' v' : Int} {k k' : Fo} (hs : s ≠ 0) (hne : s ≠ s') : tmt bs s v k s' v' k' = none := by unfold tmt; rw [if_neg hs, if_neg hne]
theorem fsz_dropN {j x y : Nat} {p : Int × Int} {k kk r : Fo} (h : fdrop j k = .node x y p kk r) : fsz (fdrop j k) = fsz kk + fsz r + 1 := by rw [h]; rfl

theorem mtV_found {bs : List Bd} {x : Int} {u t : Int × Int × Fo} (h : sv bs x = some u) : mtV bs x t = if teq u.1 u.2.1 u.2.2 t.1 t.2.1 t.2.2 = true then some bs else none := by unfold mtV; rw [h]
theorem mtV_none {bs : List Bd} {x : Int} {t : Int × Int × Fo} (h : sv bs x = none) : mtV bs x t = some (ladd bs (x, t)) := by unfold mtV; rw [h]
theorem tmt_zero {bs : List Bd} {v s' v' : Int} {k k' : Fo} : tmt bs 0 v k s' v' k' = mtV bs v (s', v', k') := by unfold tmt; rw [if_pos rfl]
end Go.Proofs.Ytpfkhgiiojikbaa
