/- Several texts in one: C1, PS, T0, T4, TE. -/
import Derived.Test.YtbnbogdglffkmaaKEw8
import Derived.Test.YtbnbogdglffkmaaKEw2
import Derived.Test.YtbnbogdglffkmaaKEw7
import Derived.Lib.Join
import Derived.Lib.ItoaNum

/-! C1: A term with another put to a place. Definitions and plain lemmas. -/
namespace Go.Proofs.Ytbnbogdglffkmaa
open Go.RowKit Go.Deep

/-- The terms, the n-th of them another. -/
def fset : Fo → Nat → Int × Int × Fo → Fo
  | .nil, _, _ => .nil
  | .node b o _ _ r, 0, x => .node b o (x.1, x.2.1) x.2.2 r
  | .node b o p k r, n + 1, x => .node b o p k (fset r n x)
theorem flen_set : ∀ (k : Fo) (n : Nat) (x : Int × Int × Fo), flen (fset k n x) = flen k
  | .nil, _, _ => rfl
  | .node _ _ _ _ _, 0, _ => rfl
  | .node _ _ _ _ r, n + 1, x => by simp only [fset, flen, flen_set r n x]
theorem fset_at : ∀ (k : Fo) (n : Nat) (x : Int × Int × Fo), n < flen k → ∃ b o, fdrop n (fset k n x) = .node b o (x.1, x.2.1) x.2.2 (fdrop (n + 1) (fset k n x))
  | .nil, _, _, h => by simp [flen] at h
  | .node b o _ _ _, 0, _, _ => ⟨b, o, rfl⟩
  | .node _ _ _ _ r, n + 1, x, h => by
    obtain ⟨b, o, e⟩ := fset_at r n x (by simp [flen] at h; omega)
    exact ⟨b, o, by simp only [fset, fdrop]; exact e⟩
theorem fset_same : ∀ (k : Fo) (n : Nat) {b o : Nat} {s v : Int} {kk r : Fo}, fdrop n k = .node b o (s, v) kk r → fset k n (s, v, kk) = k
  | .nil, _, _, _, _, _, _, _, _ => rfl
  | .node _ _ _ _ _, 0, _, _, _, _, _, _, h => by
    simp only [fdrop, BT.node.injEq] at h
    obtain ⟨_, _, rfl, rfl, _⟩ := h
    rfl
  | .node _ _ _ _ r, n + 1, _, _, _, _, _, _, h => by simp only [fset]; rw [fset_same r n (by simpa [fdrop] using h)]
theorem fset_set : ∀ (k : Fo) (n : Nat) (x y : Int × Int × Fo), fset (fset k n x) n y = fset k n y
  | .nil, _, _, _ => rfl
  | .node _ _ _ _ _, 0, _, _ => rfl
  | .node _ _ _ _ r, n + 1, x, y => by simp only [fset, fset_set r n x y]
theorem fset_sz : ∀ (k : Fo) (n : Nat) (x : Int × Int × Fo) {b o : Nat} {p : Int × Int} {kk r : Fo}, fdrop n k = .node b o p kk r → fsz (fset k n x) + fsz kk = fsz k + fsz x.2.2
  | .nil, n, _, _, _, _, _, _, h => by cases n <;> simp [fdrop] at h
  | .node _ _ _ _ _, 0, _, _, _, _, _, _, h => by
    simp only [fdrop, BT.node.injEq] at h
    obtain ⟨_, _, rfl, rfl, _⟩ := h
    simp only [fset, fsz]; omega
  | .node _ _ _ _ r, n + 1, x, _, _, _, _, _, h => by
    have := fset_sz r n x (by simpa [fdrop] using h)
    simp only [fset, fsz]; omega
theorem fset_ok : ∀ (k : Fo) (n : Nat) (x : Int × Int × Fo), fok k = true → okN x.1 x.2.1 (flen x.2.2) = true → fok x.2.2 = true → fok (fset k n x) = true
  | .nil, _, _, _, _, _ => rfl
  | .node _ _ _ _ _, 0, _, h, h1, h2 => by
    simp only [fok, Bool.and_eq_true] at h
    simp only [fset, fok, h1, h2, h.2, Bool.and_true]
  | .node _ _ _ _ r, n + 1, x, h, h1, h2 => by
    simp only [fok, Bool.and_eq_true] at h
    simp only [fset, fok, h.1.1, h.1.2, fset_ok r n x h.2 h1 h2, Bool.and_true]
theorem fset_far : ∀ (k : Fo) (n m : Nat) (x : Int × Int × Fo) {b o : Nat} {p : Int × Int} {kk r : Fo}, n ≠ m → fdrop m k = .node b o p kk r → ∃ r', fdrop m (fset k n x) = .node b o p kk r'
  | .nil, _, m, _, _, _, _, _, _, _, h => by cases m <;> simp [fdrop] at h
  | .node _ _ _ _ _, 0, 0, _, _, _, _, _, _, hne, _ => absurd rfl hne
  | .node _ _ _ _ r, 0, m + 1, _, _, _, _, _, _, _, h => ⟨_, by simp only [fset, fdrop] at h ⊢; exact h⟩
  | .node _ _ _ _ r, n + 1, 0, x, _, _, _, _, _, _, h => by
    simp only [fdrop, BT.node.injEq] at h
    obtain ⟨rfl, rfl, rfl, rfl, _⟩ := h
    exact ⟨_, rfl⟩
  | .node _ _ _ _ r, n + 1, m + 1, x, _, _, _, _, _, hne, h => by
    obtain ⟨r', e⟩ := fset_far r n m x (by omega) (by simpa [fdrop] using h)
    exact ⟨r', by simp only [fset, fdrop]; exact e⟩

/-- What comes of it if x is put to a place. -/
def fput : Int → Int → Fo → List Int → Int × Int × Fo → Option (Int × Int × Fo)
  | _, _, _, [], x => some x
  | s, v, k, i :: ps, x => if 0 ≤ i ∧ i < (flen k : Int) then (match fdrop i.toNat k with
    | .node _ _ (s', v') kk _ => (fput s' v' kk ps x).map fun y => (s, v, fset k i.toNat y)
    | .nil => none) else none

/-- One step of it. -/
theorem fput_cons {s v : Int} {k : Fo} {i : Int} {ps : List Int} {x z : Int × Int × Fo} (h : fput s v k (i :: ps) x = some z) :
    ∃ (n b o : Nat) (s' v' : Int) (kk : Fo) (y : Int × Int × Fo), i = n ∧ n < flen k ∧ fdrop n k = .node b o (s', v') kk (fdrop (n + 1) k) ∧ fput s' v' kk ps x = some y ∧ z = (s, v, fset k n y) := by
  simp only [fput] at h
  split at h
  · rename_i hi
    obtain ⟨b, o, s', v', kk, e⟩ := fdrop_succ i.toNat k (by omega)
    rw [e] at h
    obtain ⟨y, hy, rfl⟩ := Option.map_eq_some_iff.1 h
    exact ⟨i.toNat, b, o, s', v', kk, y, by omega, by omega, e, hy, rfl⟩
  · cases h
theorem fput_step {s v : Int} {k : Fo} {n b o : Nat} {ps : List Int} {s' v' : Int} {kk r : Fo} {x y : Int × Int × Fo} (hn : n < flen k) (hd : fdrop n k = .node b o (s', v') kk r) (hy : fput s' v' kk ps x = some y) :
    fput s v k ((n : Int) :: ps) x = some (s, v, fset k n y) := by
  simp only [fput, Int.toNat_natCast]
  rw [if_pos (by omega), hd]
  simp only [hy, Option.map_some]
theorem fput_none {s v : Int} {k : Fo} {n b o : Nat} {ps : List Int} {s' v' : Int} {kk r : Fo} {x : Int × Int × Fo} (hd : fdrop n k = .node b o (s', v') kk r) (hy : fput s' v' kk ps x = none) :
    fput s v k ((n : Int) :: ps) x = none := by
  simp only [fput, Int.toNat_natCast]
  rw [hd]
  simp only [hy, Option.map_none]
  split <;> rfl
theorem fput_out {s v : Int} {k : Fo} {i : Int} {ps : List Int} {x : Int × Int × Fo} (h : ¬(0 ≤ i ∧ i < (flen k : Int))) : fput s v k (i :: ps) x = none := by
  simp only [fput]
  rw [if_neg h]
theorem fat_step {s v : Int} {k : Fo} {n b o : Nat} {ps : List Int} {s' v' : Int} {kk r : Fo} (hn : n < flen k) (hd : fdrop n k = .node b o (s', v') kk r) : fat s v k ((n : Int) :: ps) = fat s' v' kk ps := by
  simp only [fat, Int.toNat_natCast]
  rw [if_pos (by omega), hd]
theorem fat_out {s v : Int} {k : Fo} {i : Int} {ps : List Int} (h : ¬(0 ≤ i ∧ i < (flen k : Int))) : fat s v k (i :: ps) = none := by
  simp only [fat]
  rw [if_neg h]

/-- It can be put just where something stands. -/
theorem fput_there : ∀ (p : List Int) (s v : Int) (k : Fo) (x : Int × Int × Fo), (fput s v k p x).isSome = (fat s v k p).isSome
  | [], _, _, _, _ => rfl
  | i :: ps, s, v, k, x => by
    by_cases hi : 0 ≤ i ∧ i < (flen k : Int)
    · obtain ⟨b, o, s', v', kk, e⟩ := fdrop_succ i.toNat k (by omega)
      have hin : i = (i.toNat : Int) := by omega
      rw [hin, fat_step (by omega) e, ← fput_there ps s' v' kk x]
      cases hy : fput s' v' kk ps x with
      | none => rw [fput_none e hy]
      | some y => rw [fput_step (by omega) e hy]; rfl
    · rw [fput_out hi, fat_out hi]
/-- What is put is there. -/
theorem fput_at : ∀ (p : List Int) (s v : Int) (k : Fo) (x : Int × Int × Fo) {s' v' : Int} {k' : Fo}, fput s v k p x = some (s', v', k') → fat s' v' k' p = some x
  | [], _, _, _, _, _, _, _, h => by simp only [fput, Option.some.injEq] at h; subst h; rfl
  | i :: ps, s, v, k, x, s', v', k', h => by
    obtain ⟨n, b, o, s1, v1, kk, y, rfl, hn, hd, hy, e⟩ := fput_cons h
    simp only [Prod.mk.injEq] at e
    obtain ⟨rfl, rfl, rfl⟩ := e
    obtain ⟨b', o', e'⟩ := fset_at k n y hn
    rw [fat_step (by rw [flen_set]; exact hn) e']
    exact fput_at ps s1 v1 kk x hy
/-- To put what was there changes nothing. -/
theorem fput_same : ∀ (p : List Int) (s v : Int) (k : Fo) {x : Int × Int × Fo}, fat s v k p = some x → fput s v k p x = some (s, v, k)
  | [], _, _, _, _, h => by simp only [fat, Option.some.injEq] at h; subst h; rfl
  | i :: ps, s, v, k, x, h => by
    by_cases hi : 0 ≤ i ∧ i < (flen k : Int)
    · obtain ⟨b, o, s', v', kk, e⟩ := fdrop_succ i.toNat k (by omega)
      have hin : i = (i.toNat : Int) := by omega
      rw [hin, fat_step (by omega) e] at h
      rw [hin, fput_step (by omega) e (fput_same ps s' v' kk h), fset_same k _ e]
    · rw [fat_out hi] at h; cases h
/-- What is put last counts. -/
theorem fput_twice : ∀ (p : List Int) (s v : Int) (k : Fo) (x y : Int × Int × Fo) {s' v' : Int} {k' : Fo}, fput s v k p x = some (s', v', k') → fput s' v' k' p y = fput s v k p y
  | [], _, _, _, _, _, _, _, _, _ => rfl
  | i :: ps, s, v, k, x, y, s', v', k', h => by
    obtain ⟨n, b, o, s1, v1, kk, z, rfl, hn, hd, hz, e⟩ := fput_cons h
    simp only [Prod.mk.injEq] at e
    obtain ⟨rfl, rfl, rfl⟩ := e
    obtain ⟨b', o', e'⟩ := fset_at k n z hn
    have ih := fput_twice ps s1 v1 kk x y hz
    cases hq : fput s1 v1 kk ps y with
    | none => rw [fput_none hd hq, fput_none e' (by rw [ih]; exact hq)]
    | some q => rw [fput_step hn hd hq, fput_step (by rw [flen_set]; exact hn) e' (by rw [ih]; exact hq), fset_set]
/-- The room that it takes. -/
theorem fput_sz : ∀ (p : List Int) (s v : Int) (k : Fo) (x : Int × Int × Fo) {s' v' s0 v0 : Int} {k' k0 : Fo}, fput s v k p x = some (s', v', k') → fat s v k p = some (s0, v0, k0) → fsz k' + fsz k0 = fsz k + fsz x.2.2
  | [], _, _, _, _, _, _, _, _, _, _, h, h0 => by
    simp only [fput, Option.some.injEq] at h
    simp only [fat, Option.some.injEq, Prod.mk.injEq] at h0
    obtain ⟨_, _, rfl⟩ := h0
    subst h
    exact Nat.add_comm _ _
  | i :: ps, s, v, k, x, s', v', s0, v0, k', k0, h, h0 => by
    obtain ⟨n, b, o, s1, v1, kk, ⟨z1, z2, z3⟩, rfl, hn, hd, hz, e⟩ := fput_cons h
    simp only [Prod.mk.injEq] at e
    obtain ⟨rfl, rfl, rfl⟩ := e
    rw [fat_step hn hd] at h0
    have h1 := fput_sz ps s1 v1 kk x hz h0
    have h2 := fset_sz k n (z1, z2, z3) hd
    dsimp only at h2
    omega
theorem fput_ok : ∀ (p : List Int) (s v : Int) (k : Fo) (x : Int × Int × Fo) {s' v' : Int} {k' : Fo}, okN s v (flen k) = true → fok k = true → okN x.1 x.2.1 (flen x.2.2) = true → fok x.2.2 = true → fput s v k p x = some (s', v', k') →
    okN s' v' (flen k') = true ∧ fok k' = true
  | [], _, _, _, _, _, _, _, _, _, h3, h4, h => by simp only [fput, Option.some.injEq] at h; subst h; exact ⟨h3, h4⟩
  | i :: ps, s, v, k, x, s', v', k', h1, h2, h3, h4, h => by
    obtain ⟨n, b, o, s1, v1, kk, z, rfl, hn, hd, hz, e⟩ := fput_cons h
    simp only [Prod.mk.injEq] at e
    obtain ⟨rfl, rfl, rfl⟩ := e
    have hk := fok_kid h2 hd
    have ih := fput_ok ps s1 v1 kk x hk.1 hk.2 h3 h4 hz
    exact ⟨by rw [flen_set]; exact h1, fset_ok k n z h2 ih.1 ih.2⟩

/-- No one of two places begins with the other. -/
def apart : List Int → List Int → Bool
  | i :: ps, j :: qs => i != j || apart ps qs
  | _, _ => false
/-- What stands apart from it stays. -/
theorem fput_far : ∀ (p q : List Int) (s v : Int) (k : Fo) (x : Int × Int × Fo) {s' v' : Int} {k' : Fo} {y : Int × Int × Fo}, apart q p = true → fput s v k p x = some (s', v', k') → fat s v k q = some y → fat s' v' k' q = some y
  | [], [], _, _, _, _, _, _, _, _, h, _, _ => by simp [apart] at h
  | [], _ :: _, _, _, _, _, _, _, _, _, h, _, _ => by simp [apart] at h
  | _ :: _, [], _, _, _, _, _, _, _, _, h, _, _ => by simp [apart] at h
  | i :: ps, j :: qs, s, v, k, x, s', v', k', y, ha, h, hq => by
    obtain ⟨n, b, o, s1, v1, kk, z, rfl, hn, hd, hz, e⟩ := fput_cons h
    simp only [Prod.mk.injEq] at e
    obtain ⟨rfl, rfl, rfl⟩ := e
    by_cases hj : 0 ≤ j ∧ j < (flen k : Int)
    · obtain ⟨m, rfl⟩ : ∃ m : Nat, j = m := ⟨j.toNat, by omega⟩
      obtain ⟨b2, o2, s2, v2, k2, e2⟩ := fdrop_succ m k (by omega)
      by_cases hne : n = m
      · subst hne
        obtain ⟨b', o', e'⟩ := fset_at k n z hn
        rw [fat_step hn hd] at hq
        rw [fat_step (by rw [flen_set]; exact hn) e']
        refine fput_far ps qs s1 v1 kk x ?_ hz hq
        simpa [apart] using ha
      · obtain ⟨r', e'⟩ := fset_far k n m z hne e2
        rw [fat_step (by omega) e2] at hq
        rw [fat_step (by rw [flen_set]; omega) e']
        exact hq
    · rw [fat_out hj] at hq; cases hq

/-- TermPut's answer. -/
def putR (s v : Int) (k : Fo) (place : List Int) (x : Int × Int × Fo) : Int × Int × Fo × Bool :=
  if okW s v k 16 = true ∧ okW x.1 x.2.1 x.2.2 16 = true then (match fput s v k place x with
    | some (s', v', k') => if 1 + fsz k' ≤ 16 then (s', v', k', true) else (0, 0, .nil, false)
    | none => (0, 0, .nil, false)) else (0, 0, .nil, false)
theorem putR_true {s v : Int} {k : Fo} {place : List Int} {x : Int × Int × Fo} {s' v' : Int} {k' : Fo} (h : putR s v k place x = (s', v', k', true)) :
    okW s v k 16 = true ∧ okW x.1 x.2.1 x.2.2 16 = true ∧ fput s v k place x = some (s', v', k') ∧ okW s' v' k' 16 = true := by
  unfold putR at h
  split at h
  · rename_i hok
    split at h
    · rename_i s2 v2 k2 hf
      split at h
      · rename_i hsz
        simp only [Prod.mk.injEq] at h
        obtain ⟨rfl, rfl, rfl, _⟩ := h
        have h1 := (okW_iff _ _ _ _).1 hok.1
        have h2 := (okW_iff _ _ _ _).1 hok.2
        have h3 := fput_ok place s v k x h1.1 h1.2.1 h2.1 h2.2.1 hf
        exact ⟨hok.1, hok.2, hf, (okW_iff _ _ _ _).2 ⟨h3.1, h3.2, by omega⟩⟩
      · simp at h
    · simp at h
  · simp at h
theorem putR_some {s v : Int} {k : Fo} {place : List Int} {x : Int × Int × Fo} {s' v' : Int} {k' : Fo} (h1 : okW s v k 16 = true) (h2 : okW x.1 x.2.1 x.2.2 16 = true) (h3 : fput s v k place x = some (s', v', k')) (h4 : 1 + fsz k' ≤ 16) :
    putR s v k place x = (s', v', k', true) := by
  unfold putR
  rw [if_pos ⟨h1, h2⟩, h3]
  dsimp only
  rw [if_pos h4]
theorem putR_sz {s v : Int} {k : Fo} {place : List Int} {x : Int × Int × Fo} {s' v' : Int} {k' : Fo} {t : Bool} (h : putR s v k place x = (s', v', k', t)) : fsz k' ≤ 15 := by
  cases t with
  | true => have := (okW_iff _ _ _ _).1 (putR_true h).2.2.2; omega
  | false =>
    unfold putR at h
    split at h
    · split at h
      · split at h
        · simp at h
        · simp only [Prod.mk.injEq] at h; obtain ⟨_, _, rfl, _⟩ := h; simp [fsz]
      · simp only [Prod.mk.injEq] at h; obtain ⟨_, _, rfl, _⟩ := h; simp [fsz]
    · simp only [Prod.mk.injEq] at h; obtain ⟨_, _, rfl, _⟩ := h; simp [fsz]
end Go.Proofs.Ytbnbogdglffkmaa

/-! PS: What is put into terms, plain: parts, places, sizes, variables. -/
namespace Go.Proofs.Ytbnbogdglffkmaa
open Go.RowKit Go.Deep

theorem fsub_id {σ : Int → Option (Int × Int × Fo)} : ∀ k : Fo, (∀ x ∈ fvl k, σ x = none) → fsub σ k = k
  | .nil, _ => rfl
  | .node x y p k r, h => by
    simp only [fvl, List.mem_append] at h
    have hr := fsub_id r (fun z hz => h z (.inr hz))
    simp only [fsub]
    by_cases e : p.1 = 0
    · have h0 := h p.2 (.inl (by rw [if_pos e]; simp))
      rw [if_pos e, h0, hr]
    · rw [if_neg e, fsub_id k (fun z hz => h z (.inl (by rw [if_neg e]; exact hz))), hr]
theorem tsub_id {σ : Int → Option (Int × Int × Fo)} {s v : Int} {k : Fo} (h : ∀ x ∈ fvs s v k, σ x = none) : tsub σ s v k = (s, v, k) := by
  unfold tsub
  unfold fvs at h
  by_cases e : s = 0
  · rw [if_pos e] at h ⊢
    rw [h v (by simp)]; rfl
  · rw [if_neg e] at h ⊢
    rw [fsub_id k h]
theorem tsub_nil (s v : Int) (k : Fo) : tsub (sv []) s v k = (s, v, k) := tsub_id fun _ _ => rfl

theorem sdR_nil {s v : Int} {k : Fo} (h : okW s v k 16 = true) : sdR [] s v k = (s, v, k, true) := by
  unfold sdR
  rw [tsub_nil, if_pos ⟨rfl, h, by have := ((okW_iff _ _ _ _).1 h).2.2; dsimp only; omega⟩]
theorem sdR_cases {bs : List Bd} {s v : Int} {k : Fo} {s' v' : Int} {k' : Fo} {t : Bool} (h : sdR bs s v k = (s', v', k', t)) :
    (t = false ∧ s' = 0 ∧ v' = 0 ∧ k' = .nil) ∨ (t = true ∧ sok 16 bs = true ∧ okW s v k 16 = true ∧ tsub (sv bs) s v k = (s', v', k') ∧ okW s' v' k' 16 = true) := by
  unfold sdR at h
  split at h
  · rename_i hc
    simp only [Prod.mk.injEq] at h
    obtain ⟨rfl, rfl, rfl, rfl⟩ := h
    have ht := tsub_ok hc.1 hc.2.1
    exact .inr ⟨rfl, hc.1, hc.2.1, rfl, (okW_iff _ _ _ _).2 ⟨ht.1, ht.2.1, by have := hc.2.2; omega⟩⟩
  · simp only [Prod.mk.injEq] at h
    obtain ⟨rfl, rfl, rfl, rfl⟩ := h
    exact .inl ⟨rfl, rfl, rfl, rfl⟩
theorem sdR_sz {bs : List Bd} {s v : Int} {k : Fo} {s' v' : Int} {k' : Fo} {t : Bool} (h : sdR bs s v k = (s', v', k', t)) : fsz k' ≤ 15 := by
  rcases sdR_cases h with ⟨_, _, _, rfl⟩ | ⟨_, _, _, _, ho⟩
  · simp [fsz]
  · have := ((okW_iff _ _ _ _).1 ho).2.2; omega
theorem sdR_of {bs : List Bd} {s v : Int} {k : Fo} {s' v' : Int} {k' : Fo} (h1 : sok 16 bs = true) (h2 : okW s v k 16 = true) (h3 : tsub (sv bs) s v k = (s', v', k')) (h4 : 1 + fsz k' ≤ 16) : sdR bs s v k = (s', v', k', true) := by
  unfold sdR
  rw [h3, if_pos ⟨h1, h2, h4⟩]
theorem sdR_big {bs : List Bd} {s v : Int} {k : Fo} {s' v' : Int} {k' : Fo} (h3 : tsub (sv bs) s v k = (s', v', k')) (h4 : ¬ 1 + fsz k' ≤ 16) : sdR bs s v k = (0, 0, .nil, false) := by
  unfold sdR
  rw [h3, if_neg fun h => h4 h.2.2]

theorem kids_none {v : Int} {k : Fo} (h : okN 0 v (flen k) = true) : k = .nil := by
  have h1 := ((okN_iff _ _ _).1 h).1
  cases k with
  | nil => rfl
  | node _ _ _ _ r => simp [flen, ar] at h1; omega
theorem sign_of_kid {s v : Int} {k : Fo} {n : Nat} (h : okN s v (flen k) = true) (hn : n < flen k) : s ≠ 0 := by
  rintro rfl
  rw [kids_none h] at hn
  simp [flen] at hn

theorem fat_sub (σ : Int → Option (Int × Int × Fo)) : ∀ (p : List Int) (s v : Int) (k : Fo) {s' v' : Int} {k' : Fo}, okN s v (flen k) = true → fok k = true → fat s v k p = some (s', v', k') →
    fat (tsub σ s v k).1 (tsub σ s v k).2.1 (tsub σ s v k).2.2 p = some (tsub σ s' v' k')
  | [], s, v, k, s', v', k', _, _, h => by
    simp only [fat, Option.some.injEq, Prod.mk.injEq] at h
    obtain ⟨rfl, rfl, rfl⟩ := h
    rfl
  | i :: ps, s, v, k, s', v', k', ho, hk, h => by
    rw [fat] at h
    split at h
    · rename_i hi
      obtain ⟨x, y, s1, v1, kk, hd⟩ := fdrop_succ i.toNat k (by omega)
      rw [hd] at h
      dsimp only at h
      have hs := sign_of_kid ho (n := i.toNat) (by omega)
      have hkk := fok_kid hk hd
      have ih := fat_sub σ ps s1 v1 kk hkk.1 hkk.2 h
      rw [tsub, if_neg hs]
      dsimp only
      rw [fat, if_pos (by rw [fsub_len]; exact hi), fsub_at σ i.toNat k hd]
      exact ih
    · cases h

theorem fset_sub (σ : Int → Option (Int × Int × Fo)) : ∀ (k : Fo) (n : Nat) (y : Int × Int × Fo), fsub σ (fset k n y) = fset (fsub σ k) n (tsub σ y.1 y.2.1 y.2.2)
  | .nil, _, _ => rfl
  | .node a b p k r, 0, y => by
    simp only [fset, fsub, tsub]
    by_cases e : y.1 = 0
    · rw [if_pos e, if_pos e]
      by_cases e2 : p.1 = 0
      · rw [if_pos e2]
        cases σ y.2.1 <;> cases σ p.2 <;> simp [fset]
      · rw [if_neg e2]
        cases σ y.2.1 <;> simp [fset]
    · rw [if_neg e, if_neg e]
      by_cases e2 : p.1 = 0
      · rw [if_pos e2]
        cases σ p.2 <;> simp [fset]
      · rw [if_neg e2]; simp [fset]
  | .node a b p k r, n + 1, y => by
    have ih := fset_sub σ r n y
    simp only [fset, fsub]
    by_cases e2 : p.1 = 0
    · rw [if_pos e2, if_pos e2]
      cases σ p.2 <;> simp [fset, ih]
    · rw [if_neg e2, if_neg e2]; simp [fset, ih]

theorem fput_sub (σ : Int → Option (Int × Int × Fo)) : ∀ (p : List Int) (s v : Int) (k : Fo) (y : Int × Int × Fo) {z : Int × Int × Fo}, okN s v (flen k) = true → fok k = true → fput s v k p y = some z →
    fput (tsub σ s v k).1 (tsub σ s v k).2.1 (tsub σ s v k).2.2 p (tsub σ y.1 y.2.1 y.2.2) = some (tsub σ z.1 z.2.1 z.2.2)
  | [], s, v, k, y, z, _, _, h => by
    simp only [fput, Option.some.injEq] at h
    subst h
    rfl
  | i :: ps, s, v, k, y, z, ho, hk, h => by
    obtain ⟨n, b, o, s', v', kk, y', rfl, hn, hd, hy, rfl⟩ := fput_cons h
    have hs := sign_of_kid ho hn
    have hkk := fok_kid hk hd
    have ih := fput_sub σ ps s' v' kk y hkk.1 hkk.2 hy
    have h1 : tsub σ s v k = (s, v, fsub σ k) := by rw [tsub, if_neg hs]
    have h2 : tsub σ s v (fset k n y') = (s, v, fset (fsub σ k) n (tsub σ y'.1 y'.2.1 y'.2.2)) := by rw [tsub, if_neg hs, fset_sub]
    rw [h1, h2]
    exact fput_step (by rw [fsub_len]; exact hn) (fsub_at σ n k hd) ih

theorem fvl_sub (σ : Int → Option (Int × Int × Fo)) (x : Int) : ∀ k : Fo, x ∈ fvl (fsub σ k) ↔ ∃ y ∈ fvl k, x ∈ fvs (tsub σ 0 y .nil).1 (tsub σ 0 y .nil).2.1 (tsub σ 0 y .nil).2.2
  | .nil => by simp [fsub, fvl]
  | .node a b p k r => by
    have ihr := fvl_sub σ x r
    have ihk := fvl_sub σ x k
    simp only [fsub]
    by_cases e : p.1 = 0
    · rw [if_pos e]
      have ht : tsub σ 0 p.2 .nil = (σ p.2).getD (0, p.2, .nil) := by rw [tsub, if_pos rfl]
      have hR : (∃ y ∈ fvl (.node a b p k r), x ∈ fvs (tsub σ 0 y .nil).1 (tsub σ 0 y .nil).2.1 (tsub σ 0 y .nil).2.2) ↔ (x ∈ fvs (tsub σ 0 p.2 .nil).1 (tsub σ 0 p.2 .nil).2.1 (tsub σ 0 p.2 .nil).2.2) ∨ x ∈ fvl (fsub σ r) := by
        rw [ihr]
        simp only [fvl, if_pos e, List.mem_append, List.mem_singleton]
        constructor
        · rintro ⟨y, rfl | hy, h⟩
          · exact .inl h
          · exact .inr ⟨y, hy, h⟩
        · rintro (h | ⟨y, hy, h⟩)
          · exact ⟨_, .inl rfl, h⟩
          · exact ⟨y, .inr hy, h⟩
      rw [hR, ht]
      cases hσ : σ p.2 with
      | none =>
        simp only [Option.getD_none, fvl, if_pos e, List.mem_append, List.mem_singleton, fvs, if_true]
      | some t =>
        simp only [Option.getD_some, fvl, List.mem_append]
        rfl
    · rw [if_neg e]
      simp only [fvl, if_neg e, List.mem_append, ihk, ihr]
      constructor
      · rintro (⟨y, hy, h⟩ | ⟨y, hy, h⟩)
        · exact ⟨y, .inl hy, h⟩
        · exact ⟨y, .inr hy, h⟩
      · rintro ⟨y, hy | hy, h⟩
        · exact .inl ⟨y, hy, h⟩
        · exact .inr ⟨y, hy, h⟩
theorem fvs_sub (σ : Int → Option (Int × Int × Fo)) (x s v : Int) (k : Fo) (hk : s = 0 → k = .nil) : x ∈ fvs (tsub σ s v k).1 (tsub σ s v k).2.1 (tsub σ s v k).2.2 ↔ ∃ y ∈ fvs s v k, x ∈ fvs (tsub σ 0 y .nil).1 (tsub σ 0 y .nil).2.1 (tsub σ 0 y .nil).2.2 := by
  by_cases e : s = 0
  · subst e
    obtain rfl := hk rfl
    simp [fvs]
  · have h1 : tsub σ s v k = (s, v, fsub σ k) := by rw [tsub, if_neg e]
    rw [h1]
    simp only [fvs, if_neg e]
    exact fvl_sub σ x k

/-- How many signs come of what stands at a place. -/
def pcnt (σ : Int → Option (Int × Int × Fo)) : Option (Int × Int × Fo) → Nat
  | some (s, v, _) => if s = 0 then 1 + fsz (tsub σ 0 v .nil).2.2 else 1
  | none => 0
theorem fpl_sum (σ : Int → Option (Int × Int × Fo)) (s v : Int) (K : Fo) : ∀ (r : Fo) (i : Nat), fdrop i K = r → fok r = true → ((fpl r i).map fun p => pcnt σ (fat s v K p)).sum = fsz (fsub σ r)
  | .nil, _, _, _ => by simp [fpl, fsub, fsz]
  | .node a b (s', v') kk r, i, hd, hk => by
    have hi : i < flen K := by
      have := flen_drop i K
      rw [hd] at this
      simp [flen] at this
      omega
    have hr : fdrop (i + 1) K = r := by
      obtain ⟨_, _, _, _, _, e⟩ := fdrop_succ i K hi
      rw [hd] at e
      simp only [BT.node.injEq] at e
      exact e.2.2.2.2.symm
    simp only [fok, Bool.and_eq_true] at hk
    have ihr := fpl_sum σ s v K r (i + 1) hr hk.2
    have ihk := fpl_sum σ s' v' kk kk 0 rfl hk.1.2
    have hst : ∀ q, fat s v K ((i : Int) :: q) = fat s' v' kk q := fun q => fat_step hi hd
    simp only [fpl, List.map_append, List.map_map, List.sum_append, ihr, List.map_cons, List.sum_cons, Function.comp_def, hst, ihk]
    simp only [fat, pcnt, fsub]
    by_cases e : s' = 0
    · subst e
      have hn : kk = .nil := kids_none hk.1.1
      subst hn
      simp only [if_true]
      have ht : tsub σ 0 v' .nil = (σ v').getD (0, v', .nil) := by rw [tsub, if_pos rfl]
      rw [ht]
      cases σ v' with
      | none => simp [fsz, fsub]; omega
      | some t => simp [fsz, fsub]; omega
    · rw [if_neg e, if_neg e]
      simp only [fsz]
      omega
theorem places_sum (σ : Int → Option (Int × Int × Fo)) {s v : Int} {k : Fo} (ho : okN s v (flen k) = true) (hk : fok k = true) : ((places k).map fun p => pcnt σ (fat s v k p)).sum = 1 + fsz (tsub σ s v k).2.2 := by
  have h := fpl_sum σ s v k k 0 rfl hk
  simp only [places, List.map_cons, List.sum_cons]
  rw [h]
  simp only [fat, pcnt]
  by_cases e : s = 0
  · subst e
    obtain rfl := kids_none ho
    simp [fsub, fsz]
  · rw [if_neg e, tsub, if_neg e]
end Go.Proofs.Ytbnbogdglffkmaa

/-! T0: The text of a term, as plain data. Definitions and plain lemmas. -/
namespace Go.Proofs.Ytbnbogdglffkmaa
open Go.RowKit Go.Deep

def ltr (s : Int) : List UInt8 := if s = 1 then [97] else if s = 2 then [98] else if s = 3 then [103] else [102]
def tx1 (s v : Int) (ks : List (List UInt8)) : List UInt8 :=
  if s = 0 then 120 :: Lib.decDigits v.toNat else if ks = [] then ltr s else ltr s ++ ([40] ++ (Lib.join ks [44] ++ [41]))
/-- The texts of a list of terms. -/
def fts : Fo → List (List UInt8)
  | .nil => []
  | .node _ _ p k r => tx1 p.1 p.2 (fts k) :: fts r
/-- The text of a term. -/
def tx (s v : Int) (k : Fo) : List UInt8 := tx1 s v (fts k)
def str (l : List UInt8) : ByteArray := ⟨l.toArray⟩

theorem fts_len : ∀ k : Fo, (fts k).length = flen k
  | .nil => rfl
  | .node _ _ _ _ r => by simp [fts, flen, fts_len r]
theorem fts_nil {k : Fo} : fts k = [] ↔ flen k = 0 := by rw [← fts_len, List.length_eq_zero_iff]
theorem tx_var (v : Int) : tx 0 v .nil = 120 :: Lib.decDigits v.toNat := by simp [tx, tx1]
theorem tx_leaf {s v : Int} {k : Fo} (hs : s ≠ 0) (hk : flen k = 0) : tx s v k = ltr s := by
  unfold tx tx1
  rw [if_neg hs, if_pos (fts_nil.2 hk)]
theorem tx_kids {s v : Int} {k : Fo} (hs : s ≠ 0) (hk : flen k ≠ 0) : tx s v k = ltr s ++ ([40] ++ (Lib.join (fts k) [44] ++ [41])) := by
  unfold tx tx1
  rw [if_neg hs, if_neg fun h => hk (fts_nil.1 h)]
theorem str_add (l m : List UInt8) : str l ++ str m = str (l ++ m) := by
  apply ByteArray.ext
  rw [ByteArray.data_append]
  simp [str]
theorem str_size (l : List UInt8) : (str l).size = l.length := by simp [str, ByteArray.size]

theorem fts_at : ∀ (j : Nat) (k : Fo) {x y : Nat} {s v : Int} {kk r : Fo}, fdrop j k = .node x y (s, v) kk r → (fts k)[j]? = some (tx s v kk)
  | 0, .nil, _, _, _, _, _, _, h => by simp [fdrop] at h
  | 0, .node _ _ p k r, x, y, s, v, kk, r', h => by
    simp only [fdrop, BT.node.injEq] at h
    obtain ⟨_, _, rfl, rfl, _⟩ := h
    rfl
  | _ + 1, .nil, _, _, _, _, _, _, h => by simp [fdrop] at h
  | n + 1, .node _ _ _ _ r, _, _, _, _, _, _, h => by
    simp only [fdrop] at h
    simpa [fts] using fts_at n r h

theorem dec_len {n : Nat} (h : n < 100) : (Lib.decDigits n).length ≤ 2 := by
  unfold Lib.decDigits
  split
  · simp
  · unfold Lib.decDigits
    rw [dif_pos (by omega)]
    simp
theorem ltr_len (s : Int) : (ltr s).length = 1 := by
  unfold ltr
  split
  · rfl
  · split
    · rfl
    · split <;> rfl
def lens (ks : List (List UInt8)) : Nat := (ks.map List.length).sum
theorem join_len : ∀ ks : List (List UInt8), (Lib.join ks [44]).length ≤ lens ks + ks.length
  | [] => by simp [Lib.join_nil]
  | [x] => by simp [Lib.join_one, lens]
  | x :: y :: r => by
    have := join_len (y :: r)
    rw [Lib.join_cons] at this ⊢
    simp only [Lib.joinTail, lens, List.map_cons, List.flatten_cons, List.length_append, List.sum_cons, List.length_cons, List.length_nil] at this ⊢
    omega
/-- Well-formed terms have short texts. -/
theorem fts_short : ∀ k : Fo, fok k = true → lens (fts k) + (fts k).length ≤ 6 * fsz k
  | .nil, _ => by simp [fts, lens]
  | .node x y p k r, h => by
    simp only [fok, Bool.and_eq_true] at h
    have hk := fts_short k h.1.2
    have hr := fts_short r h.2
    have hj := join_len (fts k)
    have hl := ltr_len p.1
    have : (tx1 p.1 p.2 (fts k)).length ≤ 5 + 6 * fsz k := by
      unfold tx1
      split
      · rename_i h0
        have hv := ((okN_iff _ _ _).1 h.1.1).2.1 h0
        have := dec_len (n := p.2.toNat) (by omega)
        simp; omega
      · split
        · omega
        · simp only [List.length_append, List.length_cons, List.length_nil]; omega
    simp only [fts, fsz, lens, List.map_cons, List.sum_cons, List.length_cons] at hr ⊢
    omega
end Go.Proofs.Ytbnbogdglffkmaa

/-! T4: Terms are the same just if their texts are: plain lemmas. -/
namespace Go.Proofs.Ytbnbogdglffkmaa
open Go.RowKit Go.Deep

/-- Terms without the marks of where they were. -/
def fer : Fo → Fo
  | .nil => .nil
  | .node _ _ p k r => .node 0 0 p (fer k) (fer r)

theorem fo_none {k : Fo} (h : flen k = 0) : k = .nil := by
  cases k with
  | nil => rfl
  | node => simp [flen] at h
theorem fo_one {k : Fo} (h : flen k = 1) : ∃ x y p kk, k = .node x y p kk .nil := by
  cases k with
  | nil => simp [flen] at h
  | node x y p kk r =>
    obtain rfl := fo_none (k := r) (by simp [flen] at h; omega)
    exact ⟨x, y, p, kk, rfl⟩
theorem fo_two {k : Fo} (h : flen k = 2) : ∃ x y p kk x' y' p' kk', k = .node x y p kk (.node x' y' p' kk' .nil) := by
  cases k with
  | nil => simp [flen] at h
  | node x y p kk r =>
    obtain ⟨x', y', p', kk', rfl⟩ := fo_one (k := r) (by simp [flen] at h; omega)
    exact ⟨x, y, p, kk, x', y', p', kk', rfl⟩

/-- What a well-formed term looks like. -/
inductive Shape : Int → Int → Fo → Prop
  | var (v : Int) (h0 : 0 ≤ v) (h1 : v ≤ 11) : Shape 0 v .nil
  | leaf (s : Int) (h : s = 1 ∨ s = 2) : Shape s 0 .nil
  | one (x y : Nat) (p : Int × Int) (k : Fo) (h : okN p.1 p.2 (flen k) = true) (hk : fok k = true) : Shape 3 0 (.node x y p k .nil)
  | two (x y : Nat) (p : Int × Int) (k : Fo) (x' y' : Nat) (p' : Int × Int) (k' : Fo) (h : okN p.1 p.2 (flen k) = true) (hk : fok k = true) (h' : okN p'.1 p'.2 (flen k') = true) (hk' : fok k' = true) : Shape 4 0 (.node x y p k (.node x' y' p' k' .nil))

theorem shape_of {s v : Int} {k : Fo} (h : okN s v (flen k) = true) (hk : fok k = true) : Shape s v k := by
  obtain ⟨h1, h2, h3⟩ := (okN_iff _ _ _).1 h
  unfold ar at h1
  by_cases h0 : s = 0
  · subst h0
    obtain rfl := fo_none (k := k) (by simp at h1; omega)
    exact .var v (h2 rfl).1 (h2 rfl).2
  · obtain rfl := h3 h0
    split at h1
    · obtain rfl := fo_none (k := k) (by omega)
      exact .leaf s (by omega)
    · split at h1
      · rename_i h3'
        subst h3'
        obtain ⟨x, y, p, kk, rfl⟩ := fo_one (k := k) (by omega)
        simp only [fok, Bool.and_eq_true] at hk
        exact .one x y p kk hk.1.1 hk.1.2
      · split at h1
        · rename_i h4'
          subst h4'
          obtain ⟨x, y, p, kk, x', y', p', kk', rfl⟩ := fo_two (k := k) (by omega)
          simp only [fok, Bool.and_eq_true] at hk
          exact .two x y p kk x' y' p' kk' hk.1.1 hk.1.2 hk.2.1.1 hk.2.1.2
        · omega

/-- It does not begin with a digit. -/
def nd (l : List UInt8) : Prop := ∀ b r, l = b :: r → b.toNat < 48 ∨ 57 < b.toNat
theorem nd_of {b : UInt8} {r : List UInt8} (h : b.toNat < 48 ∨ 57 < b.toNat) : nd (b :: r) := fun b' r' e => by
  obtain ⟨rfl, _⟩ := List.cons.inj e
  exact h
theorem nd_nil : nd [] := fun b r e => by cases e

theorem digit_toNat {n : Nat} (h : n < 10) : (UInt8.ofNat (48 + n)).toNat = 48 + n := by
  simp [UInt8.toNat_ofNat]
  omega
theorem dec_small {n : Nat} (h : n < 10) : Lib.decDigits n = [UInt8.ofNat (48 + n)] := by
  unfold Lib.decDigits
  rw [dif_pos h]
theorem dec_great {n : Nat} (h : 10 ≤ n) (h1 : n < 20) : Lib.decDigits n = [UInt8.ofNat (48 + 1), UInt8.ofNat (48 + (n - 10))] := by
  unfold Lib.decDigits
  rw [dif_neg (by omega), show n / 10 = 1 from by omega, dec_small (by omega), show n % 10 = n - 10 from by omega]
  rfl
theorem dec_inj {m n : Nat} {r r' : List UInt8} (hm : m < 12) (hn : n < 12) (hr : nd r) (hr' : nd r') (h : Lib.decDigits m ++ r = Lib.decDigits n ++ r') : m = n ∧ r = r' := by
  by_cases h1 : m < 10
  · rw [dec_small h1] at h
    by_cases h2 : n < 10
    · rw [dec_small h2] at h
      obtain ⟨e1, e2⟩ := List.cons.inj h
      have := congrArg UInt8.toNat e1
      rw [digit_toNat h1, digit_toNat h2] at this
      exact ⟨by omega, e2⟩
    · rw [dec_great (by omega) (by omega)] at h
      obtain ⟨_, e2⟩ := List.cons.inj h
      have := hr _ _ e2
      rw [digit_toNat (by omega)] at this
      omega
  · rw [dec_great (by omega) (by omega)] at h
    by_cases h2 : n < 10
    · rw [dec_small h2] at h
      obtain ⟨_, e2⟩ := List.cons.inj h
      have := hr' _ _ e2.symm
      rw [digit_toNat (by omega)] at this
      omega
    · rw [dec_great (by omega) (by omega)] at h
      obtain ⟨_, e2⟩ := List.cons.inj h
      obtain ⟨e3, e4⟩ := List.cons.inj e2
      have := congrArg UInt8.toNat e3
      rw [digit_toNat (by omega), digit_toNat (by omega)] at this
      exact ⟨by omega, e4⟩

theorem tx_l1 : tx 1 0 .nil = [97] := rfl
theorem tx_l2 : tx 2 0 .nil = [98] := rfl
theorem tx_one {x y : Nat} {p : Int × Int} {k : Fo} : tx 3 0 (.node x y p k .nil) = 103 :: 40 :: (tx p.1 p.2 k ++ [41]) := by
  rw [tx_kids (by decide) (by simp [flen])]
  simp only [fts, Lib.join_one]
  rfl
theorem tx_two {x y : Nat} {p : Int × Int} {k : Fo} {x' y' : Nat} {p' : Int × Int} {k' : Fo} : tx 4 0 (.node x y p k (.node x' y' p' k' .nil)) = 102 :: 40 :: (tx p.1 p.2 k ++ (44 :: (tx p'.1 p'.2 k' ++ [41]))) := by
  rw [tx_kids (by decide) (by simp [flen])]
  simp only [fts, Lib.join_cons, Lib.joinTail, List.map_cons, List.map_nil, List.flatten_cons, List.flatten_nil]
  simp [ltr, tx]

theorem tx_inj (N : Nat) : ∀ (s v : Int) (k : Fo) (s' v' : Int) (k' : Fo) (r r' : List UInt8), Shape s v k → Shape s' v' k' → fsz k ≤ N → nd r → nd r' → tx s v k ++ r = tx s' v' k' ++ r' → s = s' ∧ v = v' ∧ fer k = fer k' ∧ r = r' := by
  induction N using Nat.strongRecOn with
  | _ N ih =>
    intro s v k s' v' k' r r' h h' hN hr hr' he
    have nd41 : ∀ q, nd (41 :: q) := fun q => nd_of (by decide)
    have nd44 : ∀ q, nd (44 :: q) := fun q => nd_of (by decide)
    cases h with
    | var _ h0 h1 =>
      rw [tx_var] at he
      cases h' with
      | var _ h0' h1' =>
        rw [tx_var] at he
        obtain ⟨e1, e2⟩ := dec_inj (by omega) (by omega) hr hr' (List.cons.inj he).2
        exact ⟨rfl, by omega, rfl, e2⟩
      | leaf _ hs =>
        rcases hs with rfl | rfl
        · simp [tx_l1] at he
        · simp [tx_l2] at he
      | one => rw [tx_one] at he; simp at he
      | two => rw [tx_two] at he; simp at he
    | leaf _ hs =>
      cases h' with
      | var _ h0' h1' =>
        rw [tx_var] at he
        rcases hs with rfl | rfl
        · simp [tx_l1] at he
        · simp [tx_l2] at he
      | leaf _ hs' =>
        rcases hs with rfl | rfl <;> rcases hs' with rfl | rfl
        all_goals simp [tx_l1, tx_l2] at he
        all_goals exact ⟨rfl, rfl, rfl, he⟩
      | one =>
        rw [tx_one] at he
        rcases hs with rfl | rfl
        · simp [tx_l1] at he
        · simp [tx_l2] at he
      | two =>
        rw [tx_two] at he
        rcases hs with rfl | rfl
        · simp [tx_l1] at he
        · simp [tx_l2] at he
    | one x y p kk ho hk =>
      rw [tx_one] at he
      cases h' with
      | var => rw [tx_var] at he; simp at he
      | leaf _ hs =>
        rcases hs with rfl | rfl
        · simp [tx_l1] at he
        · simp [tx_l2] at he
      | one x' y' p' kk' ho' hk' =>
        rw [tx_one] at he
        simp only [List.append_assoc, List.cons_append, List.nil_append, List.cons.injEq, true_and] at he
        have he2 := he
        obtain ⟨e1, e2, e3, e4⟩ := ih (fsz kk) (by simp [fsz] at hN; omega) p.1 p.2 kk p'.1 p'.2 kk' _ _ (shape_of ho hk) (shape_of ho' hk') (Nat.le_refl _) (nd41 _) (nd41 _) he2
        exact ⟨rfl, rfl, by simp only [fer]; rw [e3, Prod.ext e1 e2], (List.cons.inj e4).2⟩
      | two => rw [tx_two] at he; simp at he
    | two x y p kk x2 y2 p2 kk2 ho hk ho2 hk2 =>
      rw [tx_two] at he
      cases h' with
      | var => rw [tx_var] at he; simp at he
      | leaf _ hs =>
        rcases hs with rfl | rfl
        · simp [tx_l1] at he
        · simp [tx_l2] at he
      | one => rw [tx_one] at he; simp at he
      | two x' y' p' kk' x2' y2' p2' kk2' ho' hk' ho2' hk2' =>
        rw [tx_two] at he
        simp only [List.append_assoc, List.cons_append, List.nil_append, List.cons.injEq, true_and] at he
        have he2 := he
        simp only [fsz] at hN
        obtain ⟨e1, e2, e3, e4⟩ := ih (fsz kk) (by omega) p.1 p.2 kk p'.1 p'.2 kk' _ _ (shape_of ho hk) (shape_of ho' hk') (Nat.le_refl _) (nd44 _) (nd44 _) he2
        obtain ⟨f1, f2, f3, f4⟩ := ih (fsz kk2) (by omega) p2.1 p2.2 kk2 p2'.1 p2'.2 kk2' _ _ (shape_of ho2 hk2) (shape_of ho2' hk2') (Nat.le_refl _) (nd41 _) (nd41 _) (List.cons.inj e4).2
        exact ⟨rfl, rfl, by simp only [fer]; rw [e3, Prod.ext e1 e2, f3, Prod.ext f1 f2], (List.cons.inj f4).2⟩

/-- Equal texts, equal terms. -/
theorem tx_inj' {s v : Int} {k : Fo} {s' v' : Int} {k' : Fo} (h : Shape s v k) (h' : Shape s' v' k') (he : tx s v k = tx s' v' k') : s = s' ∧ v = v' ∧ fer k = fer k' := by
  obtain ⟨h1, h2, h3, _⟩ := tx_inj (fsz k) s v k s' v' k' [] [] h h' (Nat.le_refl _) nd_nil nd_nil (by rw [he])
  exact ⟨h1, h2, h3⟩
theorem fts_fer : ∀ k : Fo, fts (fer k) = fts k
  | .nil => rfl
  | .node _ _ p k r => by simp only [fer, fts, fts_fer k, fts_fer r]
theorem tx_same {s v : Int} {k k' : Fo} (h : fer k = fer k') : tx s v k = tx s v k' := by
  unfold tx
  rw [← fts_fer k, h, fts_fer k']
end Go.Proofs.Ytbnbogdglffkmaa

/-! TE: Terms compared: plain lemmas. -/
namespace Go.Proofs.Ytbnbogdglffkmaa
open Go.RowKit Go.Deep

def feq : Fo → Fo → Bool
  | .nil, .nil => true
  | .node _ _ p k r, .node _ _ p' k' r' => decide (p = p') && (feq k k' && feq r r')
  | _, _ => false
/-- The same term. -/
def teq (s v : Int) (k : Fo) (s' v' : Int) (k' : Fo) : Bool := decide (s = s') && (decide (v = v') && feq k k')
theorem feq_iff : ∀ k k' : Fo, feq k k' = true ↔ fer k = fer k'
  | .nil, .nil => by simp [feq, fer]
  | .nil, .node _ _ _ _ _ => by simp [feq, fer]
  | .node _ _ _ _ _, .nil => by simp [feq, fer]
  | .node _ _ p k r, .node _ _ p' k' r' => by
    simp only [feq, fer, Bool.and_eq_true, decide_eq_true_eq, feq_iff k k', feq_iff r r', BT.node.injEq, true_and]
theorem feq_len : ∀ {k k' : Fo}, feq k k' = true → flen k = flen k'
  | .nil, .nil, _ => rfl
  | .nil, .node _ _ _ _ _, h => by simp [feq] at h
  | .node _ _ _ _ _, .nil, h => by simp [feq] at h
  | .node _ _ p k r, .node _ _ p' k' r', h => by
    simp only [feq, Bool.and_eq_true] at h
    simp [flen, feq_len h.2.2]
theorem teq_sign {s v : Int} {k : Fo} {s' v' : Int} {k' : Fo} (h : s ≠ s') : teq s v k s' v' k' = false := by simp [teq, h]
theorem teq_var {s v : Int} {k : Fo} {s' v' : Int} {k' : Fo} (h : v ≠ v') : teq s v k s' v' k' = false := by simp [teq, h]
theorem teq_len {s v : Int} {k : Fo} {s' v' : Int} {k' : Fo} (h : flen k ≠ flen k') : teq s v k s' v' k' = false := by
  cases hf : feq k k' with
  | false => simp [teq, hf]
  | true => exact absurd (feq_len hf) h
theorem teq_kids {s v : Int} {k k' : Fo} : teq s v k s v k' = feq k k' := by simp [teq]
theorem feq_drop {k k' : Fo} {j x y x' y' : Nat} {s v s' v' : Int} {kk kk' : Fo} (h : fdrop j k = .node x y (s, v) kk (fdrop (j + 1) k)) (h' : fdrop j k' = .node x' y' (s', v') kk' (fdrop (j + 1) k')) :
    feq (fdrop j k) (fdrop j k') = (teq s v kk s' v' kk' && feq (fdrop (j + 1) k) (fdrop (j + 1) k')) := by
  rw [h, h']
  simp only [feq, teq, Prod.mk.injEq, Bool.and_assoc]
  by_cases h1 : s = s' <;> by_cases h2 : v = v' <;> simp [h1, h2]
theorem teq_iff {s v : Int} {k : Fo} {s' v' : Int} {k' : Fo} : teq s v k s' v' k' = true ↔ s = s' ∧ v = v' ∧ fer k = fer k' := by
  simp only [teq, Bool.and_eq_true, decide_eq_true_eq, feq_iff]
/-- Texts are the same just if the terms are. -/
theorem tx_teq {s v : Int} {k : Fo} {s' v' : Int} {k' : Fo} (h : Shape s v k) (h' : Shape s' v' k') : (tx s v k = tx s' v' k') ↔ teq s v k s' v' k' = true := by
  rw [teq_iff]
  refine ⟨fun he => tx_inj' h h' he, ?_⟩
  rintro ⟨rfl, rfl, he⟩
  exact tx_same he
end Go.Proofs.Ytbnbogdglffkmaa
