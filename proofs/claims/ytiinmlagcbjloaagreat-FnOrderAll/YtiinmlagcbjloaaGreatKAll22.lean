/- Several texts in one: LO0, LO5, V0, V1, SHv, V3, LO2, V2, V4, V4b, V5d. -/
import Derived.Test.YtiinmlagcbjloaaGreatKAll15
import Derived.Test.YtiinmlagcbjloaaGreatKAll21
import Derived.Test.YtiinmlagcbjloaaGreatKAll16
import Derived.Lib.SlicesCompact
import Derived.Test.YtiinmlagcbjloaaGreatKAll6
import Derived.Test.YtiinmlagcbjloaaGreatProg
import Derived.Shelf.Sort.Plain
import Derived.Shelf.Slices.CompactI
import Derived.Shelf.Slices.In.SortNone
import Derived.Ground.NamesProg
import Derived.Ground.Names2Prog
import Derived.Sort.OwnSortedInts
import Derived.Lib.OwnBridge
import Derived.Test.YtiinmlagcbjloaaGreatKAll1
import Derived.Test.YtiinmlagcbjloaaGreatKAll17

/-! LO0: What the laws of the order hold on to: a ranking and the boxes of two terms. Plain lemmas. -/
namespace Go.Proofs.YtiinmlagcbjloaaGreat
open Go.RowKit Go.Deep

/-- The ranking and the boxes b, b' of two terms, in a world later than w. -/
structure Ob (A : Option Addr) (xs : List Int) (s v : Int) (a : Option Addr) (c : Nat) (k : Fo) (s' v' : Int) (a' : Option Addr) (c' : Nat) (k' : Fo) (b b' : Nat) (w wn : World) : Prop where
  ints : ISl wn 0 wn.heap.size A xs
  one : Sl wn 0 wn.heap.size a k
  two : Sl wn 0 wn.heap.size a' k'
  s0 : wn.cell? ⟨b, 0, none⟩ = some (.int .i64 s)
  s1 : wn.cell? ⟨b, 1, none⟩ = some (.int .i64 v)
  s2 : wn.cell? ⟨b, 2, none⟩ = some (.slice a (flen k) c)
  t0 : wn.cell? ⟨b', 0, none⟩ = some (.int .i64 s')
  t1 : wn.cell? ⟨b', 1, none⟩ = some (.int .i64 v')
  t2 : wn.cell? ⟨b', 2, none⟩ = some (.slice a' (flen k') c')
  low : Below w.heap.size w wn
  size : w.heap.size ≤ wn.heap.size
section
variable {A : Option Addr} {xs : List Int} {s v : Int} {a : Option Addr} {c : Nat} {k : Fo} {s' v' : Int} {a' : Option Addr} {c' : Nat} {k' : Fo} {b b' : Nat} {w wn wm : World}
theorem Ob.next (h : Ob A xs s v a c k s' v' a' c' k' b b' w wn) (hb : Below wn.heap.size wn wm) : Ob A xs s v a c k s' v' a' c' k' b b' w wm :=
  ⟨(h.ints.below hb).mono (Nat.le_refl _) hb.size, (h.one.below hb).mono (Nat.le_refl _) hb.size, (h.two.below hb).mono (Nat.le_refl _) hb.size, cell_low hb h.s0, cell_low hb h.s1, cell_low hb h.s2, cell_low hb h.t0, cell_low hb h.t1, cell_low hb h.t2, h.low.trans (hb.mono h.size), Nat.le_trans h.size hb.size⟩
end
/-- Behind the draw. -/
theorem ob_start {w w1 : World} {A : Option Addr} {C : Nat} {xs : List Int} {s v : Int} {a : Option Addr} {c : Nat} {k : Fo} {s' v' : Int} {a' : Option Addr} {c' : Nat} {k' : Fo} (hb : Below w.heap.size w w1) (hi : ISc w1 w.heap.size w1.heap.size A C xs) (hl : Sl w1 w.heap.size w1.heap.size a k) (hl' : Sl w1 w.heap.size w1.heap.size a' k') :
    Ob A xs s v a c k s' v' a' c' k' w1.heap.size (w1.heap.size + 1) w ((w1.alloc (.cells #[.int .i64 s, .int .i64 v, .slice a (flen k) c] 26)).alloc (.cells #[.int .i64 s', .int .i64 v', .slice a' (flen k') c'] 26)) := by
  have h2 : Below w1.heap.size w1 ((w1.alloc (.cells #[.int .i64 s, .int .i64 v, .slice a (flen k) c] 26)).alloc (.cells #[.int .i64 s', .int .i64 v', .slice a' (flen k') c'] 26)) := ((Below.refl _ _).alloc (Nat.le_refl _) _).alloc (by simp) _
  have hs := hb.size
  refine ⟨((hi.1.mono (Nat.zero_le _) (Nat.le_refl _)).below h2).mono (Nat.le_refl _) h2.size, ((hl.mono (Nat.zero_le _) (Nat.le_refl _)).below h2).mono (Nat.le_refl _) h2.size, ((hl'.mono (Nat.zero_le _) (Nat.le_refl _)).below h2).mono (Nat.le_refl _) h2.size, ?_, ?_, ?_, ?_, ?_, ?_, hb.trans (h2.mono hs), by simp; omega⟩
  iterate 3
    rw [World.cell?_alloc_lt _ _ _ (by simp), World.cell?_alloc_at _ _ _ _ rfl]; rfl
  iterate 3
    rw [World.cell?_alloc_at _ _ _ _ (by simp)]; rfl

theorem Bytes.low {w wn : World} {a : Option Addr} {len : Nat} (h : Bytes w a len) (hb : Below w.heap.size w wn) : Bytes wn a len := by
  rcases h with h | ⟨b, o, e, h1, h2⟩
  · exact .inl h
  · refine .inr ⟨b, o, e, Nat.lt_of_lt_of_le h1 hb.size, fun i hi => ?_⟩
    obtain ⟨x, hx, hc⟩ := h2 i hi
    exact ⟨x, hx, cell_low hb hc⟩
theorem moreR_self {xs : List Int} {s v : Int} {k : Fo} : moreR xs s v k s v k = false := by
  unfold moreR
  rw [pB_false Gt.ne]
  simp
theorem moreR_iff {xs : List Int} {s v : Int} {k : Fo} {s' v' : Int} {k' : Fo} : moreR xs s v k s' v' k' = true ↔ rkOk xs = true ∧ okW s v k 16 = true ∧ okW s' v' k' 16 = true ∧ Gt (rkN xs) (tmOf s v k) (tmOf s' v' k') := by
  unfold moreR
  simp only [Bool.and_eq_true, pB_t]
theorem moreR_turn {xs : List Int} {s v : Int} {k : Fo} {s' v' : Int} {k' : Fo} (h : moreR xs s v k s' v' k' = true) : moreR xs s' v' k' s v k = false := by
  cases h' : moreR xs s' v' k' s v k with
  | false => rfl
  | true => exact absurd ((moreR_iff.1 h).2.2.2.tr (moreR_iff.1 h').2.2.2) Gt.ne
theorem moreR_tr {xs : List Int} {s v : Int} {k : Fo} {s' v' : Int} {k' : Fo} {s2 v2 : Int} {k2 : Fo} (h : moreR xs s v k s' v' k' = true) (h' : moreR xs s' v' k' s2 v2 k2 = true) : moreR xs s v k s2 v2 k2 = true := by
  obtain ⟨r1, o1, _, g1⟩ := moreR_iff.1 h
  obtain ⟨_, _, o2, g2⟩ := moreR_iff.1 h'
  exact moreR_iff.2 ⟨r1, o1, o2, g1.tr g2⟩
end Go.Proofs.YtiinmlagcbjloaaGreat

/-! LO5: The path order is closed under what variables stand for, and total on terms without variables: plain. -/
namespace Go.Proofs.YtiinmlagcbjloaaGreat
open Go.RowKit Go.Deep

def Tm.subst (σ : Int → Tm) : Tm → Tm
  | .var v => σ v
  | .leaf s => .leaf s
  | .one t => .one (t.subst σ)
  | .two t u => .two (t.subst σ) (u.subst σ)
theorem Tm.subst_sign {σ : Int → Tm} {t : Tm} (h : t.sign ≠ 0) : (t.subst σ).sign = t.sign := by
  cases t with
  | var => exact absurd rfl h
  | leaf => rfl
  | one => rfl
  | two => rfl
theorem Tm.subst_kids {σ : Int → Tm} {t : Tm} (h : t.sign ≠ 0) : (t.subst σ).kids = t.kids.map (Tm.subst σ) := by
  cases t with
  | var => exact absurd rfl h
  | leaf => rfl
  | one => rfl
  | two => rfl
theorem Tm.subst_kid {σ : Int → Tm} {s u : Tm} (h : u ∈ s.kids) : u.subst σ ∈ (s.subst σ).kids := by
  cases s with
  | var => simp [Tm.kids] at h
  | leaf => simp [Tm.kids] at h
  | one t => simp only [Tm.kids, List.mem_singleton] at h; subst h; simp [Tm.subst, Tm.kids]
  | two t t' =>
    simp only [Tm.kids, List.mem_cons, List.not_mem_nil, or_false] at h
    rcases h with rfl | rfl <;> simp [Tm.subst, Tm.kids]
theorem Gt.subst {rk : Int → Nat} {s t : Tm} (σ : Int → Tm) (h : Gt rk s t) : Gt rk (s.subst σ) (t.subst σ) := by
  induction h with
  | kid hm => exact .kid (Tm.subst_kid hm)
  | sub hm _ ih => exact .sub (Tm.subst_kid hm) ih
  | rank h0 h1 hne hlt _ ih =>
    refine .rank (by rw [Tm.subst_sign h0]; exact h0) (by rw [Tm.subst_sign h1]; exact h1) (by rw [Tm.subst_sign h0, Tm.subst_sign h1]; exact hne) (by rw [Tm.subst_sign h0, Tm.subst_sign h1]; exact hlt) fun u hu => ?_
    rw [Tm.subst_kids h1, List.mem_map] at hu
    obtain ⟨u', hu', rfl⟩ := hu
    exact ih u' hu'
  | one _ _ ih1 ih2 =>
    refine .one ih1 fun u hu => ?_
    simp only [Tm.kids, List.mem_singleton] at hu
    subst hu
    exact ih2 _ (by simp [Tm.kids])
  | fst _ _ ih1 ih2 =>
    refine .fst ih1 fun u hu => ?_
    simp only [Tm.kids, List.mem_cons, List.not_mem_nil, or_false] at hu
    rcases hu with rfl | rfl
    · exact ih2 _ (by simp [Tm.kids])
    · exact ih2 _ (by simp [Tm.kids])
  | snd _ _ ih1 ih2 =>
    refine .snd ih1 fun u hu => ?_
    simp only [Tm.kids, List.mem_cons, List.not_mem_nil, or_false] at hu
    rcases hu with rfl | rfl
    · exact ih2 _ (by simp [Tm.kids])
    · exact ih2 _ (by simp [Tm.kids])

/-- No variable. -/
def Tm.ground : Tm → Prop
  | .var _ => False
  | .leaf _ => True
  | .one t => t.ground
  | .two t u => t.ground ∧ u.ground
theorem Tm.ground_kid {s u : Tm} (h : s.ground) (hu : u ∈ s.kids) : u.ground := by
  cases s with
  | var => exact h.elim
  | leaf => simp [Tm.kids] at hu
  | one t => simp only [Tm.kids, List.mem_singleton] at hu; subst hu; exact h
  | two t t' =>
    simp only [Tm.kids, List.mem_cons, List.not_mem_nil, or_false] at hu
    rcases hu with rfl | rfl
    · exact h.1
    · exact h.2
/-- Signs in form: leaves of 1 and 2. -/
def Tm.fine : Tm → Prop
  | .var _ => True
  | .leaf s => s = 1 ∨ s = 2
  | .one t => t.fine
  | .two t u => t.fine ∧ u.fine
theorem Tm.fine_kid {s u : Tm} (h : s.fine) (hu : u ∈ s.kids) : u.fine := by
  cases s with
  | var => simp [Tm.kids] at hu
  | leaf => simp [Tm.kids] at hu
  | one t => simp only [Tm.kids, List.mem_singleton] at hu; subst hu; exact h
  | two t t' =>
    simp only [Tm.kids, List.mem_cons, List.not_mem_nil, or_false] at hu
    rcases hu with rfl | rfl
    · exact h.1
    · exact h.2

/-- Of two terms without variables one is more, or they are the same. -/
theorem Gt.total {rk : Int → Nat} (hinj : ∀ a b : Int, 1 ≤ a → a ≤ 4 → 1 ≤ b → b ≤ 4 → rk a = rk b → a = b) (N : Nat) : ∀ {s t : Tm}, s.size + t.size ≤ N → s.ground → t.ground → s.fine → t.fine → s = t ∨ Gt rk s t ∨ Gt rk t s := by
  have hsg : ∀ {t : Tm}, t.ground → t.fine → 1 ≤ t.sign ∧ t.sign ≤ 4 := fun {t} h1 h2 => by
    cases t with
    | var => exact h1.elim
    | leaf s => rcases h2 with rfl | rfl <;> simp [Tm.sign]
    | one => simp [Tm.sign]
    | two => simp [Tm.sign]
  induction N using Nat.strongRecOn with
  | _ N ih =>
    intro s t hN gs gt fs ft
    -- a kid of one that is the other, or more
    by_cases h1 : ∃ u, u ∈ s.kids ∧ (u = t ∨ Gt rk u t)
    · obtain ⟨u, hu, rfl | h⟩ := h1
      · exact .inr (.inl (.kid hu))
      · exact .inr (.inl (.sub hu h))
    by_cases h2 : ∃ u, u ∈ t.kids ∧ (u = s ∨ Gt rk u s)
    · obtain ⟨u, hu, rfl | h⟩ := h2
      · exact .inr (.inr (.kid hu))
      · exact .inr (.inr (.sub hu h))
    have k1 : ∀ u, u ∈ s.kids → Gt rk t u := fun u hu => by
      have := Tm.kid_size hu
      rcases ih (u.size + t.size) (by omega) (Nat.le_refl _) (Tm.ground_kid gs hu) gt (Tm.fine_kid fs hu) ft with h | h | h
      · exact absurd ⟨u, hu, .inl h⟩ h1
      · exact absurd ⟨u, hu, .inr h⟩ h1
      · exact h
    have k2 : ∀ u, u ∈ t.kids → Gt rk s u := fun u hu => by
      have := Tm.kid_size hu
      rcases ih (u.size + s.size) (by omega) (Nat.le_refl _) (Tm.ground_kid gt hu) gs (Tm.fine_kid ft hu) fs with h | h | h
      · exact absurd ⟨u, hu, .inl h⟩ h2
      · exact absurd ⟨u, hu, .inr h⟩ h2
      · exact h
    have b1 := hsg gs fs
    have b2 := hsg gt ft
    by_cases hs : s.sign = t.sign
    · cases s with
      | var => exact gs.elim
      | leaf a =>
        cases t with
        | var => exact gt.elim
        | leaf b => simp only [Tm.sign] at hs; subst hs; exact .inl rfl
        | one => simp only [Tm.sign] at hs; rcases fs with rfl | rfl <;> omega
        | two => simp only [Tm.sign] at hs; rcases fs with rfl | rfl <;> omega
      | one a =>
        cases t with
        | var => exact gt.elim
        | leaf b => simp only [Tm.sign] at hs; rcases ft with rfl | rfl <;> omega
        | one b =>
          simp only [Tm.size] at hN
          rcases ih (a.size + b.size) (by omega) (Nat.le_refl _) gs gt fs ft with rfl | h | h
          · exact .inl rfl
          · exact .inr (.inl (.one h k2))
          · exact .inr (.inr (.one h k1))
        | two => simp [Tm.sign] at hs
      | two a b =>
        cases t with
        | var => exact gt.elim
        | leaf c => simp only [Tm.sign] at hs; rcases ft with rfl | rfl <;> omega
        | one => simp [Tm.sign] at hs
        | two a' b' =>
          simp only [Tm.size] at hN
          rcases ih (a.size + a'.size) (by omega) (Nat.le_refl _) gs.1 gt.1 fs.1 ft.1 with rfl | h | h
          · rcases ih (b.size + b'.size) (by omega) (Nat.le_refl _) gs.2 gt.2 fs.2 ft.2 with rfl | h | h
            · exact .inl rfl
            · exact .inr (.inl (.snd h k2))
            · exact .inr (.inr (.snd h k1))
          · exact .inr (.inl (.fst h k2))
          · exact .inr (.inr (.fst h k1))
    · rcases Nat.lt_trichotomy (rk s.sign) (rk t.sign) with h | h | h
      · exact .inr (.inl (.rank (by omega) (by omega) hs h k2))
      · exact absurd (hinj _ _ b1.1 b1.2 b2.1 b2.2 h) hs
      · exact .inr (.inr (.rank (by omega) (by omega) (fun e => hs e.symm) h k1))
end Go.Proofs.YtiinmlagcbjloaaGreat

/-! V0: The variables of a term: as they come; sorted, each once. Plain lemmas. -/
namespace Go.Proofs.YtiinmlagcbjloaaGreat
open Go.RowKit Go.Deep

/-- The variables of terms, as they come. -/
def fvl : Fo → List Int
  | .nil => []
  | .node _ _ p k r => (if p.1 = 0 then [p.2] else fvl k) ++ fvl r
/-- The variables of a term, as they come. -/
def fvs (s v : Int) (k : Fo) : List Int := if s = 0 then [v] else fvl k

theorem fvl_sz : ∀ k : Fo, (fvl k).length ≤ fsz k
  | .nil => Nat.le_refl _
  | .node _ _ p k r => by
    have h1 := fvl_sz k
    have h2 := fvl_sz r
    simp only [fvl, fsz, List.length_append]
    split
    · simp; omega
    · omega
/-- What stands ahead of the j-th has no more variables than room. -/
theorem fvl_ge : ∀ (j : Nat) (k : Fo), (fvl k).length + fsz (fdrop j k) ≤ fsz k + (fvl (fdrop j k)).length
  | 0, k => by simp [fdrop]; omega
  | _ + 1, .nil => by simp only [fdrop]; omega
  | n + 1, .node _ _ p kk r => by
    have h := fvl_ge n r
    have h1 := fvl_sz kk
    simp only [fdrop, fvl, fsz, List.length_append]
    split
    · simp; omega
    · omega
theorem fvs_sz (s v : Int) (k : Fo) : (fvs s v k).length ≤ 1 + fsz k := by
  have := fvl_sz k
  unfold fvs
  split
  · simp
  · omega
theorem fvl_in : ∀ (k : Fo), fok k = true → ∀ x ∈ fvl k, 0 ≤ x ∧ x ≤ 11
  | .nil, _, x, hx => by simp [fvl] at hx
  | .node _ _ p k r, h, x, hx => by
    simp only [fok, Bool.and_eq_true] at h
    simp only [fvl, List.mem_append] at hx
    rcases hx with hx | hx
    · split at hx
      · rename_i hp
        simp only [List.mem_singleton] at hx
        subst hx
        exact ((okN_iff _ _ _).1 h.1.1).2.1 hp
      · exact fvl_in k h.1.2 x hx
    · exact fvl_in r h.2 x hx
theorem fvs_in {s v : Int} {k : Fo} (h : okW s v k 16 = true) : ∀ x ∈ fvs s v k, 0 ≤ x ∧ x ≤ 11 := by
  have h' := (okW_iff _ _ _ _).1 h
  intro x hx
  unfold fvs at hx
  split at hx
  · rename_i hs
    simp only [List.mem_singleton] at hx
    subst hx
    exact ((okN_iff _ _ _).1 h'.1).2.1 hs
  · exact fvl_in k h'.2.1 x hx

theorem strict_ext : ∀ (l1 l2 : List Int), l1.Pairwise (· < ·) → l2.Pairwise (· < ·) → (∀ x, x ∈ l1 ↔ x ∈ l2) → l1 = l2
  | [], [], _, _, _ => rfl
  | [], b :: _, _, _, h => by have := (h b).2 (by simp); simp at this
  | a :: _, [], _, _, h => by have := (h a).1 (by simp); simp at this
  | a :: l1, b :: l2, h1, h2, h => by
    rw [List.pairwise_cons] at h1 h2
    have e : a = b := by
      rcases List.mem_cons.1 ((h a).1 (by simp)) with e | e
      · exact e
      · rcases List.mem_cons.1 ((h b).2 (by simp)) with e' | e'
        · exact e'.symm
        · have := h1.1 b e'; have := h2.1 a e; omega
    subst e
    rw [strict_ext l1 l2 h1.2 h2.2 fun x => ?_]
    constructor
    · intro hx
      rcases List.mem_cons.1 ((h x).1 (by simp [hx])) with e | e
      · have := h1.1 x hx; omega
      · exact e
    · intro hx
      rcases List.mem_cons.1 ((h x).2 (by simp [hx])) with e | e
      · have := h2.1 x hx; omega
      · exact e

/-- Of a sorted row each once, in order, and none is lost. -/
theorem compact_sorted (ys : List Int) (hs : ys.Pairwise (· ≤ ·)) : ∀ m, m ≤ ys.length →
    (Lib.compactUpTo ys.toArray m).Pairwise (· < ·) ∧ (∀ x, x ∈ Lib.compactUpTo ys.toArray m ↔ ∃ j, j < m ∧ ys[j]? = some x) := by
  have hget : ∀ j, j < ys.length → ys[j]? = some (ys.toArray[j]!) := fun j hj => by simp [hj]
  have hle : ∀ i j, i ≤ j → j < ys.length → ys.toArray[i]! ≤ ys.toArray[j]! := fun i j hij hj => by
    rcases Nat.lt_or_ge i j with h | h
    · have := List.pairwise_iff_getElem.1 hs i j (by omega) hj h
      simpa [hj, show i < ys.length by omega] using this
    · have : i = j := by omega
      subst this
      exact Int.le_refl _
  intro m
  induction m with
  | zero => intro _; exact ⟨by simp [Lib.compactUpTo], fun x => by simp [Lib.compactUpTo]⟩
  | succ m ih =>
    intro hm
    obtain ⟨h1, h2⟩ := ih (by omega)
    rw [Lib.compactUpTo_succ]
    by_cases hk : Lib.keeps ys.toArray m = true
    · rw [if_pos hk]
      refine ⟨List.pairwise_append.2 ⟨h1, List.pairwise_singleton _ _, fun a ha b hb => ?_⟩, fun x => ?_⟩
      · simp only [List.mem_singleton] at hb
        subst hb
        obtain ⟨j, hj, hja⟩ := (h2 a).1 ha
        rw [hget j (by omega)] at hja
        have hja' := Option.some.inj hja
        have hne : ys.toArray[m]! ≠ ys.toArray[m - 1]! := by
          simp only [Lib.keeps, decide_eq_true_eq] at hk
          rcases hk with hk | hk
          · omega
          · exact hk
        have a1 := hle j (m - 1) (by omega) (by omega)
        have a2 := hle (m - 1) m (by omega) (by omega)
        rw [← hja']
        omega
      · simp only [List.mem_append, List.mem_singleton]
        constructor
        · rintro (hx | rfl)
          · obtain ⟨j, hj, e⟩ := (h2 x).1 hx
            exact ⟨j, by omega, e⟩
          · exact ⟨m, by omega, hget m (by omega)⟩
        · rintro ⟨j, hj, e⟩
          by_cases hjm : j < m
          · exact .inl ((h2 x).2 ⟨j, hjm, e⟩)
          · have : j = m := by omega
            subst this
            rw [hget j (by omega)] at e
            exact .inr (Option.some.inj e).symm
    · rw [if_neg hk, List.append_nil]
      refine ⟨h1, fun x => ⟨fun hx => ?_, fun hx => ?_⟩⟩
      · obtain ⟨j, hj, e⟩ := (h2 x).1 hx
        exact ⟨j, by omega, e⟩
      · obtain ⟨j, hj, e⟩ := hx
        by_cases hjm : j < m
        · exact (h2 x).2 ⟨j, hjm, e⟩
        · have : j = m := by omega
          subst this
          have hk' : ¬(j = 0 ∨ ys.toArray[j]! ≠ ys.toArray[j - 1]!) := by simpa [Lib.keeps] using hk
          have h0 : j ≠ 0 := fun h => hk' (.inl h)
          have heq : ys.toArray[j]! = ys.toArray[j - 1]! := Classical.byContradiction fun h => hk' (.inr h)
          rw [hget j (by omega), heq, ← hget (j - 1) (by omega)] at e
          exact (h2 x).2 ⟨j - 1, by omega, e⟩

/-- The numbers from 0 to 11 that are in a list. -/
def among (xs : List Int) (n : Nat) : List Int := ((List.range n).map (fun (i : Nat) => (i : Int))).filter (fun x => decide (x ∈ xs))
theorem among_mem (xs : List Int) (n : Nat) (x : Int) : x ∈ among xs n ↔ x ∈ xs ∧ 0 ≤ x ∧ x < n := by
  simp only [among, List.mem_filter, List.mem_map, List.mem_range, decide_eq_true_eq]
  constructor
  · rintro ⟨⟨i, hi, rfl⟩, h⟩
    exact ⟨h, by omega, by omega⟩
  · rintro ⟨h, h0, h1⟩
    exact ⟨⟨x.toNat, by omega, by omega⟩, h⟩
theorem among_strict (xs : List Int) (n : Nat) : (among xs n).Pairwise (· < ·) := by
  refine List.Pairwise.filter _ ?_
  rw [List.pairwise_map]
  refine List.Pairwise.imp ?_ List.pairwise_lt_range
  intro a b h
  omega
theorem among_succ (xs : List Int) (n : Nat) : among xs (n + 1) = among xs n ++ (if (n : Int) ∈ xs then [(n : Int)] else []) := by
  simp only [among, List.range_succ, List.map_append, List.filter_append, List.map_cons, List.map_nil]
  congr 1
  by_cases h : (n : Int) ∈ xs <;> simp [h]
theorem compact_among (xs : List Int) (h : ∀ x ∈ xs, 0 ≤ x ∧ x ≤ 11) : Lib.compact (xs.mergeSort fun x y => decide (x ≤ y)) = among xs 12 := by
  have hs : (xs.mergeSort fun x y => decide (x ≤ y)).Pairwise (· ≤ ·) := by
    have := List.pairwise_mergeSort (le := fun (x y : Int) => decide (x ≤ y)) (fun a b c h1 h2 => by simp only [decide_eq_true_eq] at *; omega) (fun a b => by simp only [Bool.or_eq_true, decide_eq_true_eq]; omega) xs
    exact this.imp (fun h => by simpa using h)
  obtain ⟨h1, h2⟩ := compact_sorted _ hs _ (Nat.le_refl _)
  refine strict_ext _ _ h1 (among_strict xs 12) fun x => ?_
  rw [among_mem]
  have h3 : x ∈ Lib.compact (xs.mergeSort fun x y => decide (x ≤ y)) ↔ x ∈ xs := by
    rw [Lib.compact, h2 x, ← List.mem_mergeSort (le := fun (x y : Int) => decide (x ≤ y)) (l := xs)]
    constructor
    · rintro ⟨j, _, e⟩
      exact List.mem_of_getElem? e
    · intro hx
      obtain ⟨j, hj, e⟩ := List.getElem_of_mem hx
      exact ⟨j, hj, by rw [List.getElem?_eq_getElem hj, e]⟩
  rw [h3]
  constructor
  · intro hx
    have := h x hx
    exact ⟨hx, by omega, by omega⟩
  · exact fun hx => hx.1
end Go.Proofs.YtiinmlagcbjloaaGreat

/-! V1: addVars: the variables of a node, appended as they come. -/
namespace Go.Proofs.YtiinmlagcbjloaaGreat
open Go.RowKit Go.Deep

theorem assert_varV (v : Int) (w : World) : (Instr.typeAssert (.iface 87 (.int .i64 v)) 52 87 true).run Tryz.prog w = .ok (.tuple #[.int .i64 v, .bool true]) w := by kernel_rfl
theorem assert_symV (s : Int) (a : Option Addr) (n c : Nat) (w : World) : (Instr.typeAssert (.iface 99 (.agg #[.int .i64 s, .slice a n c])) 52 87 true).run Tryz.prog w = .ok (.tuple #[.int .i64 0, .bool false]) w := by kernel_rfl

/-- A row of numbers of the call's own. -/
def AvPost (base : Nat) (xs : List Int) (s v : Int) (k : Fo) (w : World) (e : Ending) (w' : World) : Prop :=
  ∃ ys A C, ys = xs ++ fvs s v k ∧ e = .returned (.slice A ys.length C) ∧ IOwn w' base ys A C ∧ Below base w w'

set_option maxRecDepth 100000 in
set_option maxHeartbeats 1000000 in
theorem addVars_any (base N : Nat) : ∀ (s v : Int) (k : Fo) (nv : Value) (xs : List Int) (A : Option Addr) (C : Nat) (w : World), base ≤ w.heap.size → NodeIs w 0 base nv s v k → IOwn w base xs A C → fsz k ≤ N → N ≤ 1000 → xs.length + fsz k ≤ 2000 →
    Calls Tryz.prog 27 #[.slice A xs.length C, nv] w (AvPost base xs s v k w) := by
  induction N using Nat.strongRecOn with
  | _ N ih =>
    intro s v k nv xs A C w hbase hn hown hN hN2 hlen
    have hfl := flen_le_sz k
    have IH := Lib.hid ih
    clear ih
    have hta := assert_varV
    have htb := assert_symV
    have htc := assert_sym
    obtain ⟨ti, hti, htz, hts, htb'⟩ := Tryz.infoI
    have HTI : Hid (Tryz.prog.info? 3 = some ti ∧ ti.zero = some (.int .i64 0) ∧ ti.size = 1 ∧ ti.bytes = 8) := ⟨hti, htz, hts, htb'⟩
    have HOWN := Lib.hid hown
    have HLT : Hid (∀ g, (Value.slice A xs.length C).ownBlock = some g → base ≤ g) := fun g hg => (hown.lt g hg).1
    clear hti htz hts htb' hown
    rcases hn with ⟨rfl, rfl, rfl⟩ | ⟨hs, a, c, rfl, hn⟩
    · have HO1 : Hid ((w.alloc (.cells #[.int .i64 v] 3)).ownsRow base 3 1 (.slice A xs.length C) xs.length (xs.map (Value.int .i64))) := HOWN.out.alloc _
      go_enter Tryz.func27, Tryz.ntmps27
      go_wp2_with (at_builtin; refine wpList_append_src _ rfl _ _ 23 rfl base 3 ti _ 1 8 Tryz.underlying23 HTI.out.1 HTI.out.2.1 HTI.out.2.2.1 HTI.out.2.2.2 rfl (by omega) (.slice A xs.length C) xs.length (xs.map (Value.int .i64)) rfl HO1.out (some ⟨w.heap.size, 0, none⟩) 1 1 [.int .i64 v] rfl ⟨rfl, .inr ⟨_, rfl, World.news_of_block (heap_alloc_new _ _)⟩⟩ (by simp [Value.oneCell']) (by unfold maxLen; omega) (by omega) (by simp; omega) ?_; intro A1 C1 w1 hown1 hgrow1 hat1)
      go_wp2_with fail
      go_ret
      have hlen' : (xs ++ [v]).length = xs.length + 1 := by simp
      refine ⟨xs ++ [v], A1, C1, by simp [fvs], by rw [hlen']; rfl, ?_, ((Below.refl _ _).alloc hbase _).grown hgrow1 (by simp; omega) HLT.out⟩
      unfold IOwn
      rw [hlen', List.map_append]
      exact hown1
    · have HN := Lib.hid hn
      have HV : Hid (fvs s v k = fvl k) := by unfold Hid fvs; rw [if_neg hs]
      have HST : Hid (IOwn (w.alloc (.cells #[.int .i64 s, .slice a (flen k) c] 99)) base xs A C) := HOWN.out.alloc _
      clear hn
      go_enter Tryz.func27, Tryz.ntmps27
      go_wp2_with fail
      go_loopw [0, 23] (fun t i wr => ∃ (j : Nat) (ys : List Int) (A' : Option Addr) (C' : Nat), j ≤ flen k ∧ i = .int .i64 j ∧ t = .slice A' ys.length C' ∧ Hid (xs ++ fvl k = ys ++ fvl (fdrop j k)) ∧ IOwn wr base ys A' C' ∧ Below base w wr) (fun _ i _ => flen k - (intOf i).toNat)
      case atStart => exact ⟨0, xs, A, C, by omega, rfl, rfl, rfl, HST.out, (Below.refl _ _).alloc hbase _⟩
      case round =>
        clear HST
        obtain ⟨j, ys, A', C', hj, rfl, rfl, hq, hio, hbl⟩ := hrel
        have hbs := hbl.size
        by_cases hlt : j < flen k
        · have hnr := HN.out.below hbl
          rcases hnr with rfl | ⟨b, o, rfl, hrow⟩
          · simp [flen] at hlt
          obtain ⟨s', v', kk, val, ⟨x, y, hd⟩, _, hbB, hk0, hnk⟩ := nrow_at hrow hlt
          obtain ⟨ty2, vv2, rfl⟩ : ∃ ty vv, val = .iface ty vv := by
            rcases hnk with ⟨_, _, rfl⟩ | ⟨_, _, _, rfl, _⟩
            · exact ⟨_, _, rfl⟩
            · exact ⟨_, _, rfl⟩
          have hkN := fsz_kid hd
          have hdl := fsz_drop j k
          have hq1 := hq.out
          have hlq := congrArg List.length hq1
          have hfv := fvl_sz k
          rw [hd] at hdl hq1 hlq
          have HQ : Hid (xs ++ fvl k = (ys ++ fvs s' v' kk) ++ fvl (fdrop (j + 1) k)) := by
            unfold Hid
            rw [hq1]
            simp [fvl, fvs]
          simp only [List.length_append] at hlq
          have hyl : ys.length + fsz kk ≤ 2000 := by
            have h2 := fvl_ge j k
            rw [hd] at h2
            simp only [fsz] at h2
            omega
          have HNK := Lib.hid hnk
          have HIO := Lib.hid hio
          have HBL := Lib.hid hbl
          clear hd hrow hq hq1 hnk hio hbl hlq
          go_wp2_with fail
          with_reducible refine (IH.out (fsz kk) (by omega) s' v' kk _ ys A' C' _ (by omega) HNK.out HIO.out (Nat.le_refl _) (by omega) hyl).mono ?_
          rintro e w2 ⟨zs, A2, C2, rfl, rfl, hio2, hb2⟩
          have HB2 := Lib.hid (HBL.out.trans hb2)
          have HIO2 := Lib.hid hio2
          clear hb2 hio2 hk0
          go_wp2_with fail
          go_roundw
          case rel => exact ⟨j + 1, ys ++ fvs s' v' kk, A2, C2, by omega, by go_num, by rw [List.length_append], HQ, HIO2.out, HB2.out⟩
          case measure => simp [intOf]; omega
        · have HE : Hid (ys = xs ++ fvs s v k) := by
            have h := hq.out
            rw [fdrop_all (by omega)] at h
            rw [Hid, HV.out, h]
            simp [fvl]
          clear hq
          go_wp2_with fail
          go_ret
          exact ⟨ys, A', C', HE.out, rfl, hio, hbl⟩
end Go.Proofs.YtiinmlagcbjloaaGreat

/-! SHv: The contracts of slices.Sort and slices.Compact at this program. -/
namespace Go.Proofs
open Go.Shelf
def Tryz.lays189_ren : Go.Shelf.Ren := ⟨fun | 189 => 28 | 125 => 52 | 257 => 51 | 128 => 69 | 129 => 70 | 294 => 60 | 295 => 61 | 296 => 62 | 297 => 63 | 298 => 64 | 299 => 65 | 216 => 66 | 300 => 67 | 301 => 68 | 328 => 74 | 329 => 75 | 330 => 76 | 331 => 77 | 332 => 78 | 215 => 79 | 343 => 80 | n => n, fun | 28 => 23 | 3 => 3 | 46 => 102 | 0 => 0 | 51 => 118 | 53 => 120 | 4 => 4 | 183 => 111 | 182 => 110 | 131 => 115 | 5 => 5 | 9 => 9 | 218 => 123 | 222 => 79 | 228 => 129 | 229 => 130 | n => n, fun | n => n⟩
theorem Tryz.lays189 : Go.Proofs.Lays.n189 Tryz.prog Tryz.lays189_ren := {
  mixed := by kernel_rfl
  f125 := Tryz.func52.trans (congrArg some (by kernel_rfl))
  f128 := Tryz.func69.trans (congrArg some (by kernel_rfl))
  f129 := Tryz.func70.trans (congrArg some (by kernel_rfl))
  f189 := Tryz.func28.trans (congrArg some (by kernel_rfl))
  f215 := Tryz.func79.trans (congrArg some (by kernel_rfl))
  f216 := Tryz.func66.trans (congrArg some (by kernel_rfl))
  f257 := Tryz.func51.trans (congrArg some (by kernel_rfl))
  f294 := Tryz.func60.trans (congrArg some (by kernel_rfl))
  f295 := Tryz.func61.trans (congrArg some (by kernel_rfl))
  f296 := Tryz.func62.trans (congrArg some (by kernel_rfl))
  f297 := Tryz.func63.trans (congrArg some (by kernel_rfl))
  f298 := Tryz.func64.trans (congrArg some (by kernel_rfl))
  f299 := Tryz.func65.trans (congrArg some (by kernel_rfl))
  f300 := Tryz.func67.trans (congrArg some (by kernel_rfl))
  f301 := Tryz.func68.trans (congrArg some (by kernel_rfl))
  f328 := Tryz.func74.trans (congrArg some (by kernel_rfl))
  f329 := Tryz.func75.trans (congrArg some (by kernel_rfl))
  f330 := Tryz.func76.trans (congrArg some (by kernel_rfl))
  f331 := Tryz.func77.trans (congrArg some (by kernel_rfl))
  f332 := Tryz.func78.trans (congrArg some (by kernel_rfl))
  f343 := Tryz.func80.trans (congrArg some (by kernel_rfl))
  t0 := Tryz.underlying0
  a0 := Tryz.isAgg0
  z0 := Tryz.sizeOf0
  v0 := Tryz.zeroValue0
  t3 := Tryz.underlying3
  a3 := Tryz.isAgg3
  z3 := Tryz.sizeOf3
  v3 := Tryz.zeroValue3
  t4 := Tryz.underlying4
  a4 := Tryz.isAgg4
  z4 := Tryz.sizeOf4
  v4 := Tryz.zeroValue4
  t5 := Tryz.underlying5
  a5 := Tryz.isAgg5
  z5 := Tryz.sizeOf5
  v5 := Tryz.zeroValue5
  t9 := Tryz.underlying9
  a9 := Tryz.isAgg9
  z9 := Tryz.sizeOf9
  v9 := Tryz.zeroValue9
  t28 := Tryz.underlying23
  a28 := Tryz.isAgg23
  z28 := Tryz.sizeOf23
  v28 := Tryz.zeroValue23
  t46 := Tryz.underlying102
  a46 := Tryz.isAgg102
  z46 := Tryz.sizeOf102
  v46 := Tryz.zeroValue102
  t51 := Tryz.underlying118
  a51 := Tryz.isAgg118
  z51 := Tryz.sizeOf118
  v51 := Tryz.zeroValue118
  t53 := Tryz.underlying120
  a53 := Tryz.isAgg120
  z53 := Tryz.sizeOf120
  v53 := Tryz.zeroValue120
  t131 := Tryz.underlying115
  a131 := Tryz.isAgg115
  z131 := Tryz.sizeOf115
  v131 := Tryz.zeroValue115
  t182 := Tryz.underlying110
  a182 := Tryz.isAgg110
  z182 := Tryz.sizeOf110
  v182 := Tryz.zeroValue110
  t183 := Tryz.underlying111
  a183 := Tryz.isAgg111
  z183 := Tryz.sizeOf111
  v183 := Tryz.zeroValue111
  t218 := Tryz.underlying123
  a218 := Tryz.isAgg123
  z218 := Tryz.sizeOf123
  v218 := Tryz.zeroValue123
  t222 := Tryz.underlying79
  a222 := Tryz.isAgg79
  z222 := Tryz.sizeOf79
  v222 := Tryz.zeroValue79
  t228 := Tryz.underlying129
  a228 := Tryz.isAgg129
  z228 := Tryz.sizeOf129
  v228 := Tryz.zeroValue129
  t229 := Tryz.underlying130
  a229 := Tryz.isAgg130
  z229 := Tryz.sizeOf130
  v229 := Tryz.zeroValue130 }
def Tryz.laysNm220_ren : Go.Shelf.Ren := ⟨fun | 20 => 29 | n => n, fun | 22 => 23 | 3 => 3 | 4 => 4 | 0 => 0 | n => n, fun | n => n⟩
theorem Tryz.laysNm220 : Go.Proofs.Lays2.n20 Tryz.prog Tryz.laysNm220_ren := {
  mixed := by kernel_rfl
  f20 := Tryz.func29.trans (congrArg some (by kernel_rfl))
  t0 := Tryz.underlying0
  a0 := Tryz.isAgg0
  z0 := Tryz.sizeOf0
  v0 := Tryz.zeroValue0
  t3 := Tryz.underlying3
  a3 := Tryz.isAgg3
  z3 := Tryz.sizeOf3
  v3 := Tryz.zeroValue3
  t4 := Tryz.underlying4
  a4 := Tryz.isAgg4
  z4 := Tryz.sizeOf4
  v4 := Tryz.zeroValue4
  t22 := Tryz.underlying23
  a22 := Tryz.isAgg23
  z22 := Tryz.sizeOf23
  v22 := Tryz.zeroValue23
  i3 := by kernel_rfl }
end Go.Proofs

/-! V3: slices.Sort and slices.Compact on numbers of the call's own; impl.TermVars. -/
namespace Go.Proofs.YtiinmlagcbjloaaGreat
open Go.RowKit Go.Deep Go.Sort

/-- Sorted. -/
def srt (xs : List Int) : List Int := xs.mergeSort fun x y => decide (x ≤ y)
theorem srt_len (xs : List Int) : (srt xs).length = xs.length := List.length_mergeSort _

theorem iown_some {w : World} {base : Nat} {xs : List Int} {A : Option Addr} {C : Nat} (h : IOwn w base xs A C) (hx : 0 < xs.length) :
    ∃ g cur, A = some ⟨g, 0, none⟩ ∧ base ≤ g ∧ g < w.heap.size ∧ xs.length ≤ C ∧ C ≤ maxLen ∧ cur.size = C * 1 ∧ w.heap[g]? = some (.cells cur 3 (0, 0)) ∧ Holds (Value.int .i64) w g 0 xs.toArray := by
  rcases h.2 with ⟨_, h0⟩ | ⟨g, cap, cur, hv, hb, hg, hn, hm, hs, ht⟩
  · omega
  · simp only [Value.slice.injEq] at hv
    obtain ⟨rfl, _, rfl⟩ := hv
    have hlt : g < w.heap.size := by
      rcases Nat.lt_or_ge g w.heap.size with h' | h'
      · exact h'
      · rw [Array.getElem?_eq_none h'] at hg; cases hg
    exact ⟨g, cur, rfl, hb, hlt, hn, hm, hs, hg, holds_of_blockI hg (by rw [Nat.mul_one] at ht; exact ht)⟩

theorem sort_any (base : Nat) (xs : List Int) (A : Option Addr) (C : Nat) (w : World) (h : IOwn w base xs A C) (hl : xs.length ≤ 2000) (hb : base ≤ w.heap.size) :
    Calls Tryz.prog 28 #[.slice A xs.length C] w fun e w' => e = .returned (.tuple #[]) ∧ w'.ownsRow base 3 1 (.slice A xs.length C) xs.length ((srt xs).map (Value.int .i64)) ∧ Below base w w' := by
  rcases Nat.eq_zero_or_pos xs.length with h0 | h0
  · have hx := List.eq_nil_of_length_eq_zero h0
    subst hx
    refine (Any.slices_Sort_int_none Tryz.lays189 A C w).mono ?_
    rintro e w' ⟨rfl, rfl⟩
    exact ⟨rfl, by simpa [srt, IOwn] using h, Below.refl _ _⟩
  · obtain ⟨g, cur, rfl, hbg, hgl, hc, hm, hs, hg, hH⟩ := iown_some h h0
    refine (Any.slices_Sort_int Tryz.lays189 g 0 C xs w hH hgl (by omega)).mono ?_
    rintro e w' ⟨rfl, n, os, rfl⟩
    exact ⟨rfl, ownsRow_sortedI (ss := xs) (ts := srt xs) (srt_len xs) hbg hg hc hm hs, (Below.refl _ _).grown (grownBy_sortedI _) hb (fun k hk => by simp at hk; omega)⟩

theorem compact_any (base : Nat) (zs : List Int) (A : Option Addr) (C : Nat) (w : World) (h : IOwn w base zs A C) (hl : zs.length ≤ 2000) (hb : base ≤ w.heap.size) :
    Calls Tryz.prog 29 #[.slice A zs.length C] w fun e w' => ∃ A' C', e = .returned (.slice A' (Lib.compact zs).length C') ∧ IOwn w' base (Lib.compact zs) A' C' ∧ Below base w w' := by
  rcases Nat.eq_zero_or_pos zs.length with h0 | h0
  · have hx := List.eq_nil_of_length_eq_zero h0
    subst hx
    refine (Any.slices_Compact_int_empty Tryz.laysNm220 A C w).mono ?_
    rintro e w' ⟨rfl, rfl⟩
    exact ⟨A, C, by simp [Lib.compact, Lib.compactUpTo], by simpa [Lib.compact, Lib.compactUpTo, IOwn] using h, Below.refl _ _⟩
  · obtain ⟨g, cur, rfl, hbg, hgl, hc, hm, hs, hg, hH⟩ := iown_some h h0
    refine (Any.slices_Compact_int Tryz.laysNm220 g 0 C zs w hH (by omega) hc).mono ?_
    rintro e w' ⟨rfl, q, rfl⟩
    have hle := Lib.compact_length_le zs
    have h1 := Lib.ownsRow_putRow (q := q) (ys := Lib.compact zs ++ List.replicate (zs.length - (Lib.compact zs).length) 0) (k := (Lib.compact zs).length) h (by simp; omega) hle
    refine ⟨_, _, rfl, ?_, Lib.below_putRow (Below.refl _ _) hbg⟩
    unfold IOwn
    rw [List.take_left' rfl] at h1
    exact h1

def tvR (s v : Int) (k : Fo) : List Int := if okW s v k 16 = true then among (fvs s v k) 12 else []
theorem among_len (xs : List Int) (n : Nat) : (among xs n).length ≤ n := by
  refine Nat.le_trans (List.length_filter_le _ _) ?_
  simp
theorem tvR_len (s v : Int) (k : Fo) : (tvR s v k).length ≤ 12 := by
  unfold tvR
  split
  · exact among_len _ _
  · simp
def TvPost (s v : Int) (k : Fo) (w : World) (e : Ending) (w' : World) : Prop :=
  ∃ A C xs, xs = tvR s v k ∧ e = .returned (.slice A (List.length xs) C) ∧ Below w.heap.size w w' ∧ IOwn w' w.heap.size xs A C

set_option maxRecDepth 100000 in
set_option maxHeartbeats 1000000 in
theorem iTermVars_any (s v : Int) (a : Option Addr) (c : Nat) (k : Fo) (w : World) (hl : Sl w 0 w.heap.size a k) :
    Calls Tryz.prog 9 #[.agg #[.int .i64 s, .int .i64 v, .slice a (flen k) c]] w (TvPost s v k w) := by
  have HL := Lib.hid hl
  clear hl
  have hb0 : Below w.heap.size w (w.alloc (.cells #[.int .i64 s, .int .i64 v, .slice a (flen k) c] 26)) := (Below.refl _ _).alloc (Nat.le_refl _) _
  have HB0 := Lib.hid hb0
  clear hb0
  go_enter Tryz.func9, Tryz.ntmps9
  go_wp2_with fail
  with_reducible refine (nodeOf_any s v a c k 16 _ ?_ (by omega) (by omega)).mono ?_
  · exact (HL.out.below HB0.out).mono (Nat.le_refl _) HB0.out.size
  rintro e w2 ⟨nv, rfl, hb, hyes⟩
  have hs2 := hb.size
  simp at hs2
  have HB2 := Lib.hid (HB0.out.trans (hb.mono HB0.out.size))
  clear hb
  cases hok : okW s v k 16 with
  | false =>
    have HR : Hid (tvR s v k = []) := by unfold Hid tvR; rw [hok]; rfl
    clear hok hyes
    go_wp2_with fail
    go_ret
    exact ⟨none, 0, [], HR.out.symm, rfl, HB2.out, World.ownsRow_nil _ _ _ _⟩
  | true =>
    have hsz := ((okW_iff _ _ _ _).1 hok).2.2
    have HN := Lib.hid ((hyes hok).mono (lo' := 0) (Nat.zero_le _) (Nat.le_refl _))
    have HR : Hid (tvR s v k = Lib.compact (srt (fvs s v k))) := by unfold Hid tvR srt; rw [hok, compact_among _ (fvs_in hok)]; rfl
    have HNIL : Hid (IOwn w2 w2.heap.size [] none 0) := World.ownsRow_nil _ _ _ _
    clear hok hyes
    obtain ⟨ty, vv, rfl⟩ : ∃ ty vv, nv = .iface ty vv := by
      rcases HN.out with ⟨_, _, rfl⟩ | ⟨_, _, _, rfl, _⟩
      · exact ⟨_, _, rfl⟩
      · exact ⟨_, _, rfl⟩
    have hfs := fvs_sz s v k
    have HCV : Hid (Calls Tryz.prog 27 #[.slice none 0 0, .iface ty vv] w2 (AvPost w2.heap.size [] s v k w2)) := addVars_any w2.heap.size (fsz k) s v k _ [] none 0 _ (Nat.le_refl _) HN.out HNIL.out (Nat.le_refl _) (by omega) (by simp; omega)
    go_wp2_with fail
    with_reducible refine HCV.out.mono ?_
    rintro e w3 ⟨ys, A3, C3, hys, rfl, hio3, hb3⟩
    rw [List.nil_append] at hys
    subst hys
    have hs3 := hb3.size
    have HIO3 := Lib.hid hio3
    have HB3 := Lib.hid (HB2.out.trans (hb3.mono (by omega)))
    clear hio3 hb3
    go_wp2_with fail
    with_reducible refine (sort_any w2.heap.size (fvs s v k) A3 C3 _ HIO3.out (by omega) (by omega)).mono ?_
    rintro e w4 ⟨rfl, hown4, hb4⟩
    have hs4 := hb4.size
    have HIO4 : Hid (IOwn w4 w2.heap.size (srt (fvs s v k)) A3 C3) := by unfold Hid IOwn; rw [srt_len]; exact hown4
    have HB4 := Lib.hid (HB3.out.trans (hb4.mono (by omega)))
    have HCALL := Lib.hid (compact_any w2.heap.size (srt (fvs s v k)) A3 C3 w4 HIO4.out (by rw [srt_len]; omega) (by omega))
    rw [srt_len] at HCALL
    clear hown4 hb4
    go_wp2_with fail
    with_reducible refine HCALL.out.mono ?_
    rintro e w5 ⟨A5, C5, rfl, hio5, hb5⟩
    have HIO5 := Lib.hid hio5
    have HB5 := Lib.hid (HB4.out.trans (hb5.mono (by omega)))
    clear hio5 hb5
    go_wp2_with fail
    go_ret
    exact ⟨A5, C5, _, HR.out.symm, rfl, HB5.out, HIO5.out.base (by omega)⟩
end Go.Proofs.YtiinmlagcbjloaaGreat

/-! LO2: What is less has no other variables: plain. -/
namespace Go.Proofs.YtiinmlagcbjloaaGreat
open Go.RowKit Go.Deep

def Tm.vars : Tm → List Int
  | .var v => [v]
  | .leaf _ => []
  | .one t => t.vars
  | .two t u => t.vars ++ u.vars
theorem Tm.vars_kid {s u : Tm} (h : u ∈ s.kids) : ∀ x, x ∈ u.vars → x ∈ s.vars := fun x hx => by
  cases s with
  | var => simp [Tm.kids] at h
  | leaf => simp [Tm.kids] at h
  | one t => simp only [Tm.kids, List.mem_singleton] at h; subst h; exact hx
  | two t u' =>
    simp only [Tm.kids, List.mem_cons, List.not_mem_nil, or_false] at h
    simp only [Tm.vars, List.mem_append]
    rcases h with rfl | rfl
    · exact .inl hx
    · exact .inr hx
theorem Tm.vars_of {t : Tm} (h : t.sign ≠ 0) {x : Int} (hx : x ∈ t.vars) : ∃ u, u ∈ t.kids ∧ x ∈ u.vars := by
  cases t with
  | var => exact absurd rfl h
  | leaf => simp [Tm.vars] at hx
  | one t => exact ⟨t, by simp [Tm.kids], hx⟩
  | two t u =>
    simp only [Tm.vars, List.mem_append] at hx
    rcases hx with hx | hx
    · exact ⟨t, by simp [Tm.kids], hx⟩
    · exact ⟨u, by simp [Tm.kids], hx⟩
theorem Gt.vars {rk : Int → Nat} {s t : Tm} (h : Gt rk s t) : ∀ x, x ∈ t.vars → x ∈ s.vars := by
  induction h with
  | kid hm => exact Tm.vars_kid hm
  | sub hm _ ih => exact fun x hx => Tm.vars_kid hm x (ih x hx)
  | rank _ h0 _ _ _ ih =>
    intro x hx
    obtain ⟨u, hu, hxu⟩ := Tm.vars_of h0 hx
    exact ih u hu x hxu
  | one _ _ _ ih =>
    intro x hx
    obtain ⟨u, hu, hxu⟩ := Tm.vars_of (by simp [Tm.sign]) hx
    exact ih u hu x hxu
  | fst _ _ _ ih =>
    intro x hx
    obtain ⟨u, hu, hxu⟩ := Tm.vars_of (by simp [Tm.sign]) hx
    exact ih u hu x hxu
  | snd _ _ _ ih =>
    intro x hx
    obtain ⟨u, hu, hxu⟩ := Tm.vars_of (by simp [Tm.sign]) hx
    exact ih u hu x hxu
theorem tm_vars {s v : Int} {k : Fo} (N : Nat) : Shape s v k → fsz k ≤ N → (tmOf s v k).vars = fvs s v k := by
  induction N using Nat.strongRecOn generalizing s v k with
  | _ N ih =>
    intro h hN
    cases h with
    | var => rfl
    | leaf _ hs => rw [tm_leaf hs]; rcases hs with rfl | rfl <;> rfl
    | one x y p k ho hk =>
      simp only [fsz] at hN
      rw [tm_one, Tm.vars, ih (fsz k) (by omega) (shape_of ho hk) (Nat.le_refl _)]
      simp [fvs, fvl]
    | two x y p k x2 y2 p2 k2 ho hk ho2 hk2 =>
      simp only [fsz] at hN
      rw [tm_two, Tm.vars, ih (fsz k) (by omega) (shape_of ho hk) (Nat.le_refl _), ih (fsz k2) (by omega) (shape_of ho2 hk2) (Nat.le_refl _)]
      simp [fvs, fvl]
theorem moreR_vars {xs : List Int} {s v : Int} {k : Fo} {s' v' : Int} {k' : Fo} (h : moreR xs s v k s' v' k' = true) : ∀ x, x ∈ tvR s' v' k' → x ∈ tvR s v k := fun x hx => by
  obtain ⟨_, o1, o2, g⟩ := moreR_iff.1 h
  obtain ⟨p1, p2, _⟩ := (okW_iff _ _ _ _).1 o1
  obtain ⟨q1, q2, _⟩ := (okW_iff _ _ _ _).1 o2
  unfold tvR at hx ⊢
  rw [if_pos o2] at hx
  rw [if_pos o1]
  rw [among_mem] at hx ⊢
  refine ⟨?_, hx.2⟩
  rw [← tm_vars _ (shape_of p1 p2) (Nat.le_refl _)]
  refine g.vars x ?_
  rw [tm_vars _ (shape_of q1 q2) (Nat.le_refl _)]
  exact hx.1
theorem moreR_sign {xs : List Int} {s v : Int} {k : Fo} {s' v' : Int} {k' : Fo} (h : moreR xs s v k s' v' k' = true) : 0 < s := by
  obtain ⟨_, o1, _, g⟩ := moreR_iff.1 h
  obtain ⟨p1, p2, _⟩ := (okW_iff _ _ _ _).1 o1
  have hsh := shape_of p1 p2
  cases hsh with
  | var => exact absurd g gt_var
  | leaf _ hs => rcases hs with rfl | rfl <;> omega
  | one => omega
  | two => omega
end Go.Proofs.YtiinmlagcbjloaaGreat

/-! V2: - l1Has: whether a variable is in a term. -/
namespace Go.Proofs.YtiinmlagcbjloaaGreat
open Go.RowKit Go.Deep

theorem one_box {w wr : World} {x y z : Value} (h : Below (w.heap.size + 1) (w.alloc (.cells #[x, y, z] 26)) wr) : wr.cell? ⟨w.heap.size, 2, none⟩ = some z := by
  rw [h.cell (by simp), World.cell?_alloc_at _ _ _ _ (by simp)]; rfl

theorem fvl_drop {x : Int} {j : Nat} {k : Fo} {a b : Nat} {s v : Int} {kk r : Fo} (h : fdrop j k = .node a b (s, v) kk r) : x ∈ fvl (fdrop j k) ↔ x ∈ fvs s v kk ∨ x ∈ fvl r := by
  rw [h]
  simp only [fvl, fvs, List.mem_append]

end Go.Proofs.YtiinmlagcbjloaaGreat

/-! V4: - spec.TermVars. -/
namespace Go.Proofs.YtiinmlagcbjloaaGreat
open Go.RowKit Go.Deep

theorem one_box3 {w wr : World} {x y z : Value} (h : Below (w.heap.size + 1) (w.alloc (.cells #[x, y, z] 26)) wr) :
    wr.cell? ⟨w.heap.size, 0, none⟩ = some x ∧ wr.cell? ⟨w.heap.size, 1, none⟩ = some y ∧ wr.cell? ⟨w.heap.size, 2, none⟩ = some z := by
  refine ⟨?_, ?_, ?_⟩
  · rw [h.cell (by simp), World.cell?_alloc_at _ _ _ _ (by simp)]; rfl
  · rw [h.cell (by simp), World.cell?_alloc_at _ _ _ _ (by simp)]; rfl
  · rw [h.cell (by simp), World.cell?_alloc_at _ _ _ _ (by simp)]; rfl

end Go.Proofs.YtiinmlagcbjloaaGreat

/-! V4b: - laIn: whether a number is among such. -/
namespace Go.Proofs.YtiinmlagcbjloaaGreat
open Go.RowKit Go.Deep

end Go.Proofs.YtiinmlagcbjloaaGreat

/-! V5d: - DrawTermVars. -/
namespace Go.Proofs.YtiinmlagcbjloaaGreat
open Go.RowKit Go.Deep

end Go.Proofs.YtiinmlagcbjloaaGreat
