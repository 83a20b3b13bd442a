/- Several texts in one: C1, C2, C3, C4. -/
import Derived.Test.YtiinmlagcbjloaaGreatKAll17
import Derived.Lib.SliceRun
import Derived.Deep.RegionHeld3

/-! C1: A term with another put to a place. Definitions and plain lemmas. -/
namespace Go.Proofs.YtiinmlagcbjloaaGreat
open Go.RowKit Go.Deep

/-- The terms, the n-th of them another. -/
def fset : Fo → Nat → Int × Int × Fo → Fo
  | .nil, _, _ => .nil
  | .node b o _ _ r, 0, x => .node b o (x.1, x.2.1) x.2.2 r
  | .node b o p k r, n + 1, x => .node b o p k (fset r n x)
theorem flen_set : ∀ (k : Fo) (n : Nat) (x : Int × Int × Fo), flen (fset k n x) = flen k
  | .nil, _, _ => rfl
  | .node _ _ _ _ _, 0, _ => rfl
  | .node _ _ _ _ r, n + 1, x => by simp only [fset, flen, flen_set r n x]
theorem fset_at : ∀ (k : Fo) (n : Nat) (x : Int × Int × Fo), n < flen k → ∃ b o, fdrop n (fset k n x) = .node b o (x.1, x.2.1) x.2.2 (fdrop (n + 1) (fset k n x))
  | .nil, _, _, h => by simp [flen] at h
  | .node b o _ _ _, 0, _, _ => ⟨b, o, rfl⟩
  | .node _ _ _ _ r, n + 1, x, h => by
    obtain ⟨b, o, e⟩ := fset_at r n x (by simp [flen] at h; omega)
    exact ⟨b, o, by simp only [fset, fdrop]; exact e⟩
theorem fset_same : ∀ (k : Fo) (n : Nat) {b o : Nat} {s v : Int} {kk r : Fo}, fdrop n k = .node b o (s, v) kk r → fset k n (s, v, kk) = k
  | .nil, _, _, _, _, _, _, _, _ => rfl
  | .node _ _ _ _ _, 0, _, _, _, _, _, _, h => by
    simp only [fdrop, BT.node.injEq] at h
    obtain ⟨_, _, rfl, rfl, _⟩ := h
    rfl
  | .node _ _ _ _ r, n + 1, _, _, _, _, _, _, h => by simp only [fset]; rw [fset_same r n (by simpa [fdrop] using h)]
theorem fset_set : ∀ (k : Fo) (n : Nat) (x y : Int × Int × Fo), fset (fset k n x) n y = fset k n y
  | .nil, _, _, _ => rfl
  | .node _ _ _ _ _, 0, _, _ => rfl
  | .node _ _ _ _ r, n + 1, x, y => by simp only [fset, fset_set r n x y]
theorem fset_sz : ∀ (k : Fo) (n : Nat) (x : Int × Int × Fo) {b o : Nat} {p : Int × Int} {kk r : Fo}, fdrop n k = .node b o p kk r → fsz (fset k n x) + fsz kk = fsz k + fsz x.2.2
  | .nil, n, _, _, _, _, _, _, h => by cases n <;> simp [fdrop] at h
  | .node _ _ _ _ _, 0, _, _, _, _, _, _, h => by
    simp only [fdrop, BT.node.injEq] at h
    obtain ⟨_, _, rfl, rfl, _⟩ := h
    simp only [fset, fsz]; omega
  | .node _ _ _ _ r, n + 1, x, _, _, _, _, _, h => by
    have := fset_sz r n x (by simpa [fdrop] using h)
    simp only [fset, fsz]; omega
theorem fset_ok : ∀ (k : Fo) (n : Nat) (x : Int × Int × Fo), fok k = true → okN x.1 x.2.1 (flen x.2.2) = true → fok x.2.2 = true → fok (fset k n x) = true
  | .nil, _, _, _, _, _ => rfl
  | .node _ _ _ _ _, 0, _, h, h1, h2 => by
    simp only [fok, Bool.and_eq_true] at h
    simp only [fset, fok, h1, h2, h.2, Bool.and_true]
  | .node _ _ _ _ r, n + 1, x, h, h1, h2 => by
    simp only [fok, Bool.and_eq_true] at h
    simp only [fset, fok, h.1.1, h.1.2, fset_ok r n x h.2 h1 h2, Bool.and_true]
theorem fset_far : ∀ (k : Fo) (n m : Nat) (x : Int × Int × Fo) {b o : Nat} {p : Int × Int} {kk r : Fo}, n ≠ m → fdrop m k = .node b o p kk r → ∃ r', fdrop m (fset k n x) = .node b o p kk r'
  | .nil, _, m, _, _, _, _, _, _, _, h => by cases m <;> simp [fdrop] at h
  | .node _ _ _ _ _, 0, 0, _, _, _, _, _, _, hne, _ => absurd rfl hne
  | .node _ _ _ _ r, 0, m + 1, _, _, _, _, _, _, _, h => ⟨_, by simp only [fset, fdrop] at h ⊢; exact h⟩
  | .node _ _ _ _ r, n + 1, 0, x, _, _, _, _, _, _, h => by
    simp only [fdrop, BT.node.injEq] at h
    obtain ⟨rfl, rfl, rfl, rfl, _⟩ := h
    exact ⟨_, rfl⟩
  | .node _ _ _ _ r, n + 1, m + 1, x, _, _, _, _, _, hne, h => by
    obtain ⟨r', e⟩ := fset_far r n m x (by omega) (by simpa [fdrop] using h)
    exact ⟨r', by simp only [fset, fdrop]; exact e⟩

/-- What comes of it if x is put to a place. -/
def fput : Int → Int → Fo → List Int → Int × Int × Fo → Option (Int × Int × Fo)
  | _, _, _, [], x => some x
  | s, v, k, i :: ps, x => if 0 ≤ i ∧ i < (flen k : Int) then (match fdrop i.toNat k with
    | .node _ _ (s', v') kk _ => (fput s' v' kk ps x).map fun y => (s, v, fset k i.toNat y)
    | .nil => none) else none

/-- One step of it. -/
theorem fput_cons {s v : Int} {k : Fo} {i : Int} {ps : List Int} {x z : Int × Int × Fo} (h : fput s v k (i :: ps) x = some z) :
    ∃ (n b o : Nat) (s' v' : Int) (kk : Fo) (y : Int × Int × Fo), i = n ∧ n < flen k ∧ fdrop n k = .node b o (s', v') kk (fdrop (n + 1) k) ∧ fput s' v' kk ps x = some y ∧ z = (s, v, fset k n y) := by
  simp only [fput] at h
  split at h
  · rename_i hi
    obtain ⟨b, o, s', v', kk, e⟩ := fdrop_succ i.toNat k (by omega)
    rw [e] at h
    obtain ⟨y, hy, rfl⟩ := Option.map_eq_some_iff.1 h
    exact ⟨i.toNat, b, o, s', v', kk, y, by omega, by omega, e, hy, rfl⟩
  · cases h
theorem fput_step {s v : Int} {k : Fo} {n b o : Nat} {ps : List Int} {s' v' : Int} {kk r : Fo} {x y : Int × Int × Fo} (hn : n < flen k) (hd : fdrop n k = .node b o (s', v') kk r) (hy : fput s' v' kk ps x = some y) :
    fput s v k ((n : Int) :: ps) x = some (s, v, fset k n y) := by
  simp only [fput, Int.toNat_natCast]
  rw [if_pos (by omega), hd]
  simp only [hy, Option.map_some]
theorem fput_none {s v : Int} {k : Fo} {n b o : Nat} {ps : List Int} {s' v' : Int} {kk r : Fo} {x : Int × Int × Fo} (hd : fdrop n k = .node b o (s', v') kk r) (hy : fput s' v' kk ps x = none) :
    fput s v k ((n : Int) :: ps) x = none := by
  simp only [fput, Int.toNat_natCast]
  rw [hd]
  simp only [hy, Option.map_none]
  split <;> rfl
theorem fput_out {s v : Int} {k : Fo} {i : Int} {ps : List Int} {x : Int × Int × Fo} (h : ¬(0 ≤ i ∧ i < (flen k : Int))) : fput s v k (i :: ps) x = none := by
  simp only [fput]
  rw [if_neg h]
theorem fat_step {s v : Int} {k : Fo} {n b o : Nat} {ps : List Int} {s' v' : Int} {kk r : Fo} (hn : n < flen k) (hd : fdrop n k = .node b o (s', v') kk r) : fat s v k ((n : Int) :: ps) = fat s' v' kk ps := by
  simp only [fat, Int.toNat_natCast]
  rw [if_pos (by omega), hd]
theorem fat_out {s v : Int} {k : Fo} {i : Int} {ps : List Int} (h : ¬(0 ≤ i ∧ i < (flen k : Int))) : fat s v k (i :: ps) = none := by
  simp only [fat]
  rw [if_neg h]

/-- It can be put just where something stands. -/
theorem fput_there : ∀ (p : List Int) (s v : Int) (k : Fo) (x : Int × Int × Fo), (fput s v k p x).isSome = (fat s v k p).isSome
  | [], _, _, _, _ => rfl
  | i :: ps, s, v, k, x => by
    by_cases hi : 0 ≤ i ∧ i < (flen k : Int)
    · obtain ⟨b, o, s', v', kk, e⟩ := fdrop_succ i.toNat k (by omega)
      have hin : i = (i.toNat : Int) := by omega
      rw [hin, fat_step (by omega) e, ← fput_there ps s' v' kk x]
      cases hy : fput s' v' kk ps x with
      | none => rw [fput_none e hy]
      | some y => rw [fput_step (by omega) e hy]; rfl
    · rw [fput_out hi, fat_out hi]
/-- What is put is there. -/
theorem fput_at : ∀ (p : List Int) (s v : Int) (k : Fo) (x : Int × Int × Fo) {s' v' : Int} {k' : Fo}, fput s v k p x = some (s', v', k') → fat s' v' k' p = some x
  | [], _, _, _, _, _, _, _, h => by simp only [fput, Option.some.injEq] at h; subst h; rfl
  | i :: ps, s, v, k, x, s', v', k', h => by
    obtain ⟨n, b, o, s1, v1, kk, y, rfl, hn, hd, hy, e⟩ := fput_cons h
    simp only [Prod.mk.injEq] at e
    obtain ⟨rfl, rfl, rfl⟩ := e
    obtain ⟨b', o', e'⟩ := fset_at k n y hn
    rw [fat_step (by rw [flen_set]; exact hn) e']
    exact fput_at ps s1 v1 kk x hy
/-- To put what was there changes nothing. -/
theorem fput_same : ∀ (p : List Int) (s v : Int) (k : Fo) {x : Int × Int × Fo}, fat s v k p = some x → fput s v k p x = some (s, v, k)
  | [], _, _, _, _, h => by simp only [fat, Option.some.injEq] at h; subst h; rfl
  | i :: ps, s, v, k, x, h => by
    by_cases hi : 0 ≤ i ∧ i < (flen k : Int)
    · obtain ⟨b, o, s', v', kk, e⟩ := fdrop_succ i.toNat k (by omega)
      have hin : i = (i.toNat : Int) := by omega
      rw [hin, fat_step (by omega) e] at h
      rw [hin, fput_step (by omega) e (fput_same ps s' v' kk h), fset_same k _ e]
    · rw [fat_out hi] at h; cases h
/-- What is put last counts. -/
theorem fput_twice : ∀ (p : List Int) (s v : Int) (k : Fo) (x y : Int × Int × Fo) {s' v' : Int} {k' : Fo}, fput s v k p x = some (s', v', k') → fput s' v' k' p y = fput s v k p y
  | [], _, _, _, _, _, _, _, _, _ => rfl
  | i :: ps, s, v, k, x, y, s', v', k', h => by
    obtain ⟨n, b, o, s1, v1, kk, z, rfl, hn, hd, hz, e⟩ := fput_cons h
    simp only [Prod.mk.injEq] at e
    obtain ⟨rfl, rfl, rfl⟩ := e
    obtain ⟨b', o', e'⟩ := fset_at k n z hn
    have ih := fput_twice ps s1 v1 kk x y hz
    cases hq : fput s1 v1 kk ps y with
    | none => rw [fput_none hd hq, fput_none e' (by rw [ih]; exact hq)]
    | some q => rw [fput_step hn hd hq, fput_step (by rw [flen_set]; exact hn) e' (by rw [ih]; exact hq), fset_set]
/-- The room that it takes. -/
theorem fput_sz : ∀ (p : List Int) (s v : Int) (k : Fo) (x : Int × Int × Fo) {s' v' s0 v0 : Int} {k' k0 : Fo}, fput s v k p x = some (s', v', k') → fat s v k p = some (s0, v0, k0) → fsz k' + fsz k0 = fsz k + fsz x.2.2
  | [], _, _, _, _, _, _, _, _, _, _, h, h0 => by
    simp only [fput, Option.some.injEq] at h
    simp only [fat, Option.some.injEq, Prod.mk.injEq] at h0
    obtain ⟨_, _, rfl⟩ := h0
    subst h
    exact Nat.add_comm _ _
  | i :: ps, s, v, k, x, s', v', s0, v0, k', k0, h, h0 => by
    obtain ⟨n, b, o, s1, v1, kk, ⟨z1, z2, z3⟩, rfl, hn, hd, hz, e⟩ := fput_cons h
    simp only [Prod.mk.injEq] at e
    obtain ⟨rfl, rfl, rfl⟩ := e
    rw [fat_step hn hd] at h0
    have h1 := fput_sz ps s1 v1 kk x hz h0
    have h2 := fset_sz k n (z1, z2, z3) hd
    dsimp only at h2
    omega
theorem fput_ok : ∀ (p : List Int) (s v : Int) (k : Fo) (x : Int × Int × Fo) {s' v' : Int} {k' : Fo}, okN s v (flen k) = true → fok k = true → okN x.1 x.2.1 (flen x.2.2) = true → fok x.2.2 = true → fput s v k p x = some (s', v', k') →
    okN s' v' (flen k') = true ∧ fok k' = true
  | [], _, _, _, _, _, _, _, _, _, h3, h4, h => by simp only [fput, Option.some.injEq] at h; subst h; exact ⟨h3, h4⟩
  | i :: ps, s, v, k, x, s', v', k', h1, h2, h3, h4, h => by
    obtain ⟨n, b, o, s1, v1, kk, z, rfl, hn, hd, hz, e⟩ := fput_cons h
    simp only [Prod.mk.injEq] at e
    obtain ⟨rfl, rfl, rfl⟩ := e
    have hk := fok_kid h2 hd
    have ih := fput_ok ps s1 v1 kk x hk.1 hk.2 h3 h4 hz
    exact ⟨by rw [flen_set]; exact h1, fset_ok k n z h2 ih.1 ih.2⟩

/-- No one of two places begins with the other. -/
def apart : List Int → List Int → Bool
  | i :: ps, j :: qs => i != j || apart ps qs
  | _, _ => false
/-- What stands apart from it stays. -/
theorem fput_far : ∀ (p q : List Int) (s v : Int) (k : Fo) (x : Int × Int × Fo) {s' v' : Int} {k' : Fo} {y : Int × Int × Fo}, apart q p = true → fput s v k p x = some (s', v', k') → fat s v k q = some y → fat s' v' k' q = some y
  | [], [], _, _, _, _, _, _, _, _, h, _, _ => by simp [apart] at h
  | [], _ :: _, _, _, _, _, _, _, _, _, h, _, _ => by simp [apart] at h
  | _ :: _, [], _, _, _, _, _, _, _, _, h, _, _ => by simp [apart] at h
  | i :: ps, j :: qs, s, v, k, x, s', v', k', y, ha, h, hq => by
    obtain ⟨n, b, o, s1, v1, kk, z, rfl, hn, hd, hz, e⟩ := fput_cons h
    simp only [Prod.mk.injEq] at e
    obtain ⟨rfl, rfl, rfl⟩ := e
    by_cases hj : 0 ≤ j ∧ j < (flen k : Int)
    · obtain ⟨m, rfl⟩ : ∃ m : Nat, j = m := ⟨j.toNat, by omega⟩
      obtain ⟨b2, o2, s2, v2, k2, e2⟩ := fdrop_succ m k (by omega)
      by_cases hne : n = m
      · subst hne
        obtain ⟨b', o', e'⟩ := fset_at k n z hn
        rw [fat_step hn hd] at hq
        rw [fat_step (by rw [flen_set]; exact hn) e']
        refine fput_far ps qs s1 v1 kk x ?_ hz hq
        simpa [apart] using ha
      · obtain ⟨r', e'⟩ := fset_far k n m z hne e2
        rw [fat_step (by omega) e2] at hq
        rw [fat_step (by rw [flen_set]; omega) e']
        exact hq
    · rw [fat_out hj] at hq; cases hq

/-- TermPut's answer. -/
def putR (s v : Int) (k : Fo) (place : List Int) (x : Int × Int × Fo) : Int × Int × Fo × Bool :=
  if okW s v k 16 = true ∧ okW x.1 x.2.1 x.2.2 16 = true then (match fput s v k place x with
    | some (s', v', k') => if 1 + fsz k' ≤ 16 then (s', v', k', true) else (0, 0, .nil, false)
    | none => (0, 0, .nil, false)) else (0, 0, .nil, false)
theorem putR_true {s v : Int} {k : Fo} {place : List Int} {x : Int × Int × Fo} {s' v' : Int} {k' : Fo} (h : putR s v k place x = (s', v', k', true)) :
    okW s v k 16 = true ∧ okW x.1 x.2.1 x.2.2 16 = true ∧ fput s v k place x = some (s', v', k') ∧ okW s' v' k' 16 = true := by
  unfold putR at h
  split at h
  · rename_i hok
    split at h
    · rename_i s2 v2 k2 hf
      split at h
      · rename_i hsz
        simp only [Prod.mk.injEq] at h
        obtain ⟨rfl, rfl, rfl, _⟩ := h
        have h1 := (okW_iff _ _ _ _).1 hok.1
        have h2 := (okW_iff _ _ _ _).1 hok.2
        have h3 := fput_ok place s v k x h1.1 h1.2.1 h2.1 h2.2.1 hf
        exact ⟨hok.1, hok.2, hf, (okW_iff _ _ _ _).2 ⟨h3.1, h3.2, by omega⟩⟩
      · simp at h
    · simp at h
  · simp at h
theorem putR_some {s v : Int} {k : Fo} {place : List Int} {x : Int × Int × Fo} {s' v' : Int} {k' : Fo} (h1 : okW s v k 16 = true) (h2 : okW x.1 x.2.1 x.2.2 16 = true) (h3 : fput s v k place x = some (s', v', k')) (h4 : 1 + fsz k' ≤ 16) :
    putR s v k place x = (s', v', k', true) := by
  unfold putR
  rw [if_pos ⟨h1, h2⟩, h3]
  dsimp only
  rw [if_pos h4]
theorem putR_sz {s v : Int} {k : Fo} {place : List Int} {x : Int × Int × Fo} {s' v' : Int} {k' : Fo} {t : Bool} (h : putR s v k place x = (s', v', k', t)) : fsz k' ≤ 15 := by
  cases t with
  | true => have := (okW_iff _ _ _ _).1 (putR_true h).2.2.2; omega
  | false =>
    unfold putR at h
    split at h
    · split at h
      · split at h
        · simp at h
        · simp only [Prod.mk.injEq] at h; obtain ⟨_, _, rfl, _⟩ := h; simp [fsz]
      · simp only [Prod.mk.injEq] at h; obtain ⟨_, _, rfl, _⟩ := h; simp [fsz]
    · simp only [Prod.mk.injEq] at h; obtain ⟨_, _, rfl, _⟩ := h; simp [fsz]
end Go.Proofs.YtiinmlagcbjloaaGreat

/-! C2: - A row of nodes, copied, with another node in the midst. -/
namespace Go.Proofs.YtiinmlagcbjloaaGreat
open Go.RowKit Go.Deep
attribute [local go_sem ↓] Go.wp_at_zero Go.wp_at_succ

theorem Tryz.infoN : ∃ i, Tryz.prog.info? 52 = some i ∧ i.zero = some .nilIface ∧ i.size = 1 ∧ i.bytes = 16 := by
  obtain ⟨i, hi, hz⟩ := Option.map_eq_some_iff.1 Tryz.infoNode
  simp only [Prod.mk.injEq] at hz
  exact ⟨i, hi, hz.1, hz.2.1, hz.2.2⟩

theorem node_one {w : World} {lo B : Nat} {val : Value} {s v : Int} {k : Fo} (h : NodeIs w lo B val s v k) : val.oneCell' = true := by
  rcases h with ⟨_, _, rfl⟩ | ⟨_, _, _, rfl, _⟩ <;> rfl
/-- What the cells of a row of nodes hold. -/
theorem nrow_cells {w : World} {lo B : Nat} : ∀ (k : Fo) (b o : Nat), NRow w lo B k b o → ∃ xs : List Value, xs.length = flen k ∧ (∀ u ∈ xs, u.oneCell' = true) ∧
    ∀ j u, xs[j]? = some u → w.cell? ⟨b, o + j, none⟩ = some u ∧ ∃ x y s v kk, fdrop j k = .node x y (s, v) kk (fdrop (j + 1) k) ∧ NodeIs w lo B u s v kk
  | .nil, _, _, _ => ⟨[], rfl, by simp, by simp⟩
  | .node x y (s, v) kk r, b, o, ⟨_, _, ⟨val, hc, hn⟩, hr⟩ => by
    obtain ⟨xs, hl, h1, h2⟩ := nrow_cells r b (o + 1) hr
    have hn' : NodeIs w lo B val s v kk := hn
    refine ⟨val :: xs, by simp [flen, hl], ?_, ?_⟩
    · intro u hu
      rcases List.mem_cons.1 hu with rfl | hu
      · exact node_one hn'
      · exact h1 u hu
    · intro j u hu
      cases j with
      | zero =>
        simp only [List.getElem?_cons_zero, Option.some.injEq] at hu
        subst hu
        exact ⟨hc, x, y, s, v, kk, rfl, hn'⟩
      | succ j =>
        simp only [List.getElem?_cons_succ] at hu
        obtain ⟨hc', e⟩ := h2 j u hu
        exact ⟨by rw [show o + (j + 1) = o + 1 + j from by omega]; exact hc', e⟩

/-- Copied, and the i-th is another. -/
theorem nrow_put {w w5 : World} {i g : Nat} {k : Fo} {xs : List Value} {n C : Nat} {val : Value} {x : Int × Int × Fo} (hb : Below w.heap.size w w5) (hxl : xs.length = flen k)
    (hall : ∀ j u, xs[j]? = some u → ∃ x y s v kk, fdrop j k = .node x y (s, v) kk (fdrop (j + 1) k) ∧ NodeIs w 0 w.heap.size u s v kk)
    (hown : w5.ownsRow w.heap.size 52 1 (.slice (some ⟨g, 0, none⟩) n C) n xs) (hval : NodeIs w 0 w.heap.size val x.1 x.2.1 x.2.2) :
    NRow (w5.setCell ⟨g, i, none⟩ val) 0 w5.heap.size (fset k i x) g 0 := by
  have hcells := hown.cells (g := g) rfl
  have ha : ∀ n, (⟨g, 0, none⟩ : Addr).add n = ⟨g, 0 + n, none⟩ := fun n => by unfold Addr.add; split <;> simp_all
  obtain ⟨hg, hglt⟩ := hown.lt g rfl
  have hsame : Same 0 w.heap.size w (w5.setCell ⟨g, i, none⟩ val) := Same.setCell (fun b _ hb' => hb.block b hb') (.inr hg) _
  refine nrow_of_all _ g 0 (Nat.zero_le _) hglt fun j hj => ?_
  rw [flen_set] at hj
  obtain ⟨u, hu⟩ : ∃ u, xs[j]? = some u := ⟨_, List.getElem?_eq_getElem (by omega)⟩
  obtain ⟨x1, y1, s1, v1, k1, e1, hn1⟩ := hall j u hu
  have hcu := hcells j u hu
  rw [ha] at hcu
  by_cases hij : i = j
  · subst hij
    obtain ⟨b', o', e'⟩ := fset_at k i x hj
    exact ⟨b', o', _, _, _, e', val, by rw [Nat.zero_add] at hcu ⊢; exact World.cell?_setCell_same _ _ _ hcu, (hval.same hsame).mono (Nat.le_refl _) hb.size⟩
  · obtain ⟨r', e'⟩ := fset_far k i j x hij e1
    obtain ⟨x2, y2, s2, v2, k2, e2⟩ := fdrop_succ j (fset k i x) (by rw [flen_set]; exact hj)
    rw [e'] at e2
    simp only [BT.node.injEq, Prod.mk.injEq] at e2
    obtain ⟨rfl, rfl, ⟨rfl, rfl⟩, rfl, hr'⟩ := e2
    refine ⟨x1, y1, s1, v1, k1, by rw [e', hr'], u, ?_, (hn1.same hsame).mono (Nat.le_refl _) hb.size⟩
    rw [World.cell?_setCell_other _ _ _ _ (by intro h; have := congrArg Addr.off h; simp at this; omega)]
    exact hcu
end Go.Proofs.YtiinmlagcbjloaaGreat

/-! C3: - nodePut: another node put to a place; the nodes on the way are made anew. -/
namespace Go.Proofs.YtiinmlagcbjloaaGreat
open Go.RowKit Go.Deep
attribute [local go_sem ↓] Go.wp_at_zero Go.wp_at_succ

def NpPost (s v : Int) (k : Fo) (place : List Int) (x : Int × Int × Fo) (w : World) (e : Ending) (w' : World) : Prop :=
  ∃ nv t, e = .returned (.tuple #[nv, .bool t]) ∧ Below w.heap.size w w' ∧ ((∃ s' v' k', fput s v k place x = some (s', v', k') ∧ t = true ∧ NodeIs w' 0 w'.heap.size nv s' v' k') ∨ (fput s v k place x = none ∧ t = false))

/-- A place from its n-th number on. -/
theorem cut_from {pA : Option Addr} {pC n : Nat} {place : List Int} (hn : n ≤ place.length) (hc : place.length ≤ pC) : ∃ A', (∀ w : World, (Instr.slice 23 (.slice pA place.length pC) (some (.int .i64 (n : Int))) none none).run Tryz.prog w = .ok (.slice A' (place.length - n) (pC - n)) w) ∧
    ∀ {w : World} {lo B : Nat}, ISl w lo B pA place → ISc w lo B A' (pC - n) (place.drop n) := by
  obtain ⟨ti, hti, htz, hts, htb⟩ := Tryz.infoI
  have hsz : ∀ w : World, (sizeOf (Tryz.prog.elem 23)).run Tryz.prog w = .ok 1 w := fun w => by
    have he : Tryz.prog.elem 23 = 3 := by kernel_rfl
    rw [he]
    simp [sizeOf, typeInfo, hti, hts]
  have hel : Tryz.prog.underlying 23 = some (.slice (Tryz.prog.elem 23)) := by kernel_rfl
  have hrun : ∀ w : World, (Instr.slice 23 (.slice pA place.length pC) (some (.int .i64 (n : Int))) none none).run Tryz.prog w = .ok (sliced pA n place.length pC 1) w := fun w => by
    rw [run_slice_l (P := Tryz.prog) w 23 pA place.length pC hel .i64 (n : Int) (by omega) (by omega), hsz]
    simp [Result.andThen]
  refine ⟨if pC = n then pA else pA.map (·.add (n * 1)), fun w => by rw [hrun w]; rfl, fun {w lo B} h => ⟨?_, by simp; omega⟩⟩
  split
  · exact .inl (List.drop_eq_nil_of_le (by omega))
  · rcases h with rfl | ⟨b, o, rfl, h1, h2, h3⟩
    · exact .inl (by simp)
    · refine .inr ⟨b, o + n, ?_, h1, h2, fun j x hx => ?_⟩
      · have ha : (⟨b, o, none⟩ : Addr).add n = ⟨b, o + n, none⟩ := by unfold Addr.add; split <;> simp_all
        simp only [Option.map_some, Nat.mul_one, ha]
      · rw [List.getElem?_drop] at hx
        rw [show o + n + j = o + (n + j) from by omega]
        exact h3 (n + j) x hx
/-- A place's first n numbers. -/
theorem cut_to {pA : Option Addr} {pC n : Nat} {place : List Int} (hn : n ≤ place.length) (hc : place.length ≤ pC) : (∀ w : World, (Instr.slice 23 (.slice pA place.length pC) none (some (.int .i64 (n : Int))) none).run Tryz.prog w = .ok (.slice pA n pC) w) ∧
    ∀ {w : World} {lo B : Nat}, ISl w lo B pA place → ISc w lo B pA pC (place.take n) := by
  obtain ⟨ti, hti, htz, hts, htb⟩ := Tryz.infoI
  have hsz : ∀ w : World, (sizeOf (Tryz.prog.elem 23)).run Tryz.prog w = .ok 1 w := fun w => by
    have he : Tryz.prog.elem 23 = 3 := by kernel_rfl
    rw [he]
    simp [sizeOf, typeInfo, hti, hts]
  have hel : Tryz.prog.underlying 23 = some (.slice (Tryz.prog.elem 23)) := by kernel_rfl
  refine ⟨fun w => ?_, fun {w lo B} h => ⟨?_, by simp; omega⟩⟩
  · rw [run_slice_h (P := Tryz.prog) w 23 pA place.length pC hel .i64 (n : Int) (by omega) (by omega), hsz]
    cases pA <;> simp [Result.andThen, sliced, Addr.add]
  · rcases h with rfl | ⟨b, o, rfl, h1, h2, h3⟩
    · exact .inl (by simp)
    · refine .inr ⟨b, o, rfl, h1, h2, fun j x hx => ?_⟩
      rw [List.getElem?_take] at hx
      split at hx
      · exact h3 j x hx
      · cases hx

end Go.Proofs.YtiinmlagcbjloaaGreat

/-! C4: - impl.TermPut: a term with another put to a place, made anew. -/
namespace Go.Proofs.YtiinmlagcbjloaaGreat
open Go.RowKit Go.Deep
attribute [local go_sem ↓] Go.wp_at_zero Go.wp_at_succ

def PutPost (s v : Int) (k : Fo) (place : List Int) (x : Int × Int × Fo) (w : World) (e : Ending) (w' : World) : Prop :=
  ∃ a c s' v' k' t, putR s v k place x = (s', v', k', t) ∧ e = .returned (.tuple #[.agg #[.int .i64 s', .int .i64 v', .slice a (flen k') c], .bool t]) ∧ Below w.heap.size w w' ∧ Sl w' w.heap.size w'.heap.size a k'

theorem put_end {w w1 : World} {s v s' v' : Int} {k k' : Fo} {t : Bool} {place : List Int} {x : Int × Int × Fo} {a : Option Addr} {c : Nat} (hr : putR s v k place x = (s', v', k', t)) (hb : Below w.heap.size w w1) (hl : Sl w1 (w.heap.size + 3) w1.heap.size a k') (p q r : Value) :
    PutPost s v k place x w (.returned (.tuple #[.agg #[.int .i64 s', .int .i64 v', .slice a (flen k') c], .bool t])) (((w1.setCell ⟨w.heap.size + 1 + 1, 0, none⟩ p).setCell ⟨w.heap.size + 1 + 1, 1, none⟩ q).setCell ⟨w.heap.size + 1 + 1, 2, none⟩ r) := by
  refine ⟨a, c, s', v', k', t, hr, rfl, ((hb.setCell (by simp; omega) _).setCell (by simp; omega) _).setCell (by simp; omega) _, ?_⟩
  have hs : Same (w.heap.size + 3) w1.heap.size w1 (((w1.setCell ⟨w.heap.size + 1 + 1, 0, none⟩ p).setCell ⟨w.heap.size + 1 + 1, 1, none⟩ q).setCell ⟨w.heap.size + 1 + 1, 2, none⟩ r) :=
    (((Same.setCell (fun _ _ _ => rfl) (.inl (by simp)) _).setCell (.inl (by simp)) _).setCell (.inl (by simp)) _)
  exact (hl.same hs).mono (by omega) (by simp)

/-- The cells that hold the answer, behind two boxes. -/
theorem put_cells {w w1 : World} {o o' : Obj} (hb : Below (w.heap.size + 3) (((w.alloc o).alloc o').alloc (.cells #[.int .i64 0, .int .i64 0, .slice none 0 0] 26)) w1) :
    w1.cell? ⟨w.heap.size + 1 + 1, 0, none⟩ = some (.int .i64 0) ∧ w1.cell? ⟨w.heap.size + 1 + 1, 1, none⟩ = some (.int .i64 0) ∧ w1.cell? ⟨w.heap.size + 1 + 1, 2, none⟩ = some (.slice none 0 0) ∧
      w1.frozen? ⟨w.heap.size + 1 + 1, 0, none⟩ = false ∧ w1.frozen? ⟨w.heap.size + 1 + 1, 1, none⟩ = false ∧ w1.frozen? ⟨w.heap.size + 1 + 1, 2, none⟩ = false := by
  refine ⟨?_, ?_, ?_, ?_, ?_, ?_⟩
  · rw [hb.cell (by simp), World.cell?_alloc_at _ _ _ _ (by simp)]; rfl
  · rw [hb.cell (by simp), World.cell?_alloc_at _ _ _ _ (by simp)]; rfl
  · rw [hb.cell (by simp), World.cell?_alloc_at _ _ _ _ (by simp)]; rfl
  · rw [hb.frozen (by simp), World.frozen?_alloc_at _ _ _ _ (by simp)]
  · rw [hb.frozen (by simp), World.frozen?_alloc_at _ _ _ _ (by simp)]
  · rw [hb.frozen (by simp), World.frozen?_alloc_at _ _ _ _ (by simp)]
/-- The cells of the second box. -/
theorem put_box {w w1 : World} {o Z : Obj} {x y z : Value} (hb : Below (w.heap.size + 3) (((w.alloc o).alloc (.cells #[x, y, z] 26)).alloc Z) w1) :
    w1.cell? ⟨w.heap.size + 1, 0, none⟩ = some x ∧ w1.cell? ⟨w.heap.size + 1, 1, none⟩ = some y ∧ w1.cell? ⟨w.heap.size + 1, 2, none⟩ = some z := by
  refine ⟨?_, ?_, ?_⟩
  · rw [hb.cell (by simp), World.cell?_alloc_lt _ _ _ (by simp), World.cell?_alloc_at _ _ _ _ (by simp)]; rfl
  · rw [hb.cell (by simp), World.cell?_alloc_lt _ _ _ (by simp), World.cell?_alloc_at _ _ _ _ (by simp)]; rfl
  · rw [hb.cell (by simp), World.cell?_alloc_lt _ _ _ (by simp), World.cell?_alloc_at _ _ _ _ (by simp)]; rfl

end Go.Proofs.YtiinmlagcbjloaaGreat
