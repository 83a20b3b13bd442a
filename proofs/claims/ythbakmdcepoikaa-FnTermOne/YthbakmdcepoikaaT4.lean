/- Terms are the same just if their texts are: plain lemmas. -/
import Derived.Test.YthbakmdcepoikaaT0
namespace Go.Proofs.Ythbakmdcepoikaa
open Go.RowKit Go.Deep

/-- Terms without the marks of where they were. -/
def fer : Fo → Fo
  | .nil => .nil
  | .node _ _ p k r => .node 0 0 p (fer k) (fer r)

theorem fo_none {k : Fo} (h : flen k = 0) : k = .nil := by
  cases k with
  | nil => rfl
  | node => simp [flen] at h
theorem fo_one {k : Fo} (h : flen k = 1) : ∃ x y p kk, k = .node x y p kk .nil := by
  cases k with
  | nil => simp [flen] at h
  | node x y p kk r =>
    obtain rfl := fo_none (k := r) (by simp [flen] at h; omega)
    exact ⟨x, y, p, kk, rfl⟩
theorem fo_two {k : Fo} (h : flen k = 2) : ∃ x y p kk x' y' p' kk', k = .node x y p kk (.node x' y' p' kk' .nil) := by
  cases k with
  | nil => simp [flen] at h
  | node x y p kk r =>
    obtain ⟨x', y', p', kk', rfl⟩ := fo_one (k := r) (by simp [flen] at h; omega)
    exact ⟨x, y, p, kk, x', y', p', kk', rfl⟩

/-- What a well-formed term looks like. -/
inductive Shape : Int → Int → Fo → Prop
  | var (v : Int) (h0 : 0 ≤ v) (h1 : v ≤ 11) : Shape 0 v .nil
  | leaf (s : Int) (h : s = 1 ∨ s = 2) : Shape s 0 .nil
  | one (x y : Nat) (p : Int × Int) (k : Fo) (h : okN p.1 p.2 (flen k) = true) (hk : fok k = true) : Shape 3 0 (.node x y p k .nil)
  | two (x y : Nat) (p : Int × Int) (k : Fo) (x' y' : Nat) (p' : Int × Int) (k' : Fo) (h : okN p.1 p.2 (flen k) = true) (hk : fok k = true) (h' : okN p'.1 p'.2 (flen k') = true) (hk' : fok k' = true) : Shape 4 0 (.node x y p k (.node x' y' p' k' .nil))

theorem shape_of {s v : Int} {k : Fo} (h : okN s v (flen k) = true) (hk : fok k = true) : Shape s v k := by
  obtain ⟨h1, h2, h3⟩ := (okN_iff _ _ _).1 h
  unfold ar at h1
  by_cases h0 : s = 0
  · subst h0
    obtain rfl := fo_none (k := k) (by simp at h1; omega)
    exact .var v (h2 rfl).1 (h2 rfl).2
  · obtain rfl := h3 h0
    split at h1
    · obtain rfl := fo_none (k := k) (by omega)
      exact .leaf s (by omega)
    · split at h1
      · rename_i h3'
        subst h3'
        obtain ⟨x, y, p, kk, rfl⟩ := fo_one (k := k) (by omega)
        simp only [fok, Bool.and_eq_true] at hk
        exact .one x y p kk hk.1.1 hk.1.2
      · split at h1
        · rename_i h4'
          subst h4'
          obtain ⟨x, y, p, kk, x', y', p', kk', rfl⟩ := fo_two (k := k) (by omega)
          simp only [fok, Bool.and_eq_true] at hk
          exact .two x y p kk x' y' p' kk' hk.1.1 hk.1.2 hk.2.1.1 hk.2.1.2
        · omega

/-- It does not begin with a digit. -/
def nd (l : List UInt8) : Prop := ∀ b r, l = b :: r → b.toNat < 48 ∨ 57 < b.toNat
theorem nd_of {b : UInt8} {r : List UInt8} (h : b.toNat < 48 ∨ 57 < b.toNat) : nd (b :: r) := fun b' r' e => by
  obtain ⟨rfl, _⟩ := List.cons.inj e
  exact h
theorem nd_nil : nd [] := fun b r e => by cases e

theorem digit_toNat {n : Nat} (h : n < 10) : (UInt8.ofNat (48 + n)).toNat = 48 + n := by
  simp [UInt8.toNat_ofNat]
  omega
theorem dec_small {n : Nat} (h : n < 10) : Lib.decDigits n = [UInt8.ofNat (48 + n)] := by
  unfold Lib.decDigits
  rw [dif_pos h]
theorem dec_great {n : Nat} (h : 10 ≤ n) (h1 : n < 20) : Lib.decDigits n = [UInt8.ofNat (48 + 1), UInt8.ofNat (48 + (n - 10))] := by
  unfold Lib.decDigits
  rw [dif_neg (by omega), show n / 10 = 1 from by omega, dec_small (by omega), show n % 10 = n - 10 from by omega]
  rfl
theorem dec_inj {m n : Nat} {r r' : List UInt8} (hm : m < 12) (hn : n < 12) (hr : nd r) (hr' : nd r') (h : Lib.decDigits m ++ r = Lib.decDigits n ++ r') : m = n ∧ r = r' := by
  by_cases h1 : m < 10
  · rw [dec_small h1] at h
    by_cases h2 : n < 10
    · rw [dec_small h2] at h
      obtain ⟨e1, e2⟩ := List.cons.inj h
      have := congrArg UInt8.toNat e1
      rw [digit_toNat h1, digit_toNat h2] at this
      exact ⟨by omega, e2⟩
    · rw [dec_great (by omega) (by omega)] at h
      obtain ⟨_, e2⟩ := List.cons.inj h
      have := hr _ _ e2
      rw [digit_toNat (by omega)] at this
      omega
  · rw [dec_great (by omega) (by omega)] at h
    by_cases h2 : n < 10
    · rw [dec_small h2] at h
      obtain ⟨_, e2⟩ := List.cons.inj h
      have := hr' _ _ e2.symm
      rw [digit_toNat (by omega)] at this
      omega
    · rw [dec_great (by omega) (by omega)] at h
      obtain ⟨_, e2⟩ := List.cons.inj h
      obtain ⟨e3, e4⟩ := List.cons.inj e2
      have := congrArg UInt8.toNat e3
      rw [digit_toNat (by omega), digit_toNat (by omega)] at this
      exact ⟨by omega, e4⟩

theorem tx_l1 : tx 1 0 .nil = [97] := rfl
theorem tx_l2 : tx 2 0 .nil = [98] := rfl
theorem tx_one {x y : Nat} {p : Int × Int} {k : Fo} : tx 3 0 (.node x y p k .nil) = 103 :: 40 :: (tx p.1 p.2 k ++ [41]) := by
  rw [tx_kids (by decide) (by simp [flen])]
  simp only [fts, Lib.join_one]
  rfl
theorem tx_two {x y : Nat} {p : Int × Int} {k : Fo} {x' y' : Nat} {p' : Int × Int} {k' : Fo} : tx 4 0 (.node x y p k (.node x' y' p' k' .nil)) = 102 :: 40 :: (tx p.1 p.2 k ++ (44 :: (tx p'.1 p'.2 k' ++ [41]))) := by
  rw [tx_kids (by decide) (by simp [flen])]
  simp only [fts, Lib.join_cons, Lib.joinTail, List.map_cons, List.map_nil, List.flatten_cons, List.flatten_nil]
  simp [ltr, tx]

theorem tx_inj (N : Nat) : ∀ (s v : Int) (k : Fo) (s' v' : Int) (k' : Fo) (r r' : List UInt8), Shape s v k → Shape s' v' k' → fsz k ≤ N → nd r → nd r' → tx s v k ++ r = tx s' v' k' ++ r' → s = s' ∧ v = v' ∧ fer k = fer k' ∧ r = r' := by
  induction N using Nat.strongRecOn with
  | _ N ih =>
    intro s v k s' v' k' r r' h h' hN hr hr' he
    have nd41 : ∀ q, nd (41 :: q) := fun q => nd_of (by decide)
    have nd44 : ∀ q, nd (44 :: q) := fun q => nd_of (by decide)
    cases h with
    | var _ h0 h1 =>
      rw [tx_var] at he
      cases h' with
      | var _ h0' h1' =>
        rw [tx_var] at he
        obtain ⟨e1, e2⟩ := dec_inj (by omega) (by omega) hr hr' (List.cons.inj he).2
        exact ⟨rfl, by omega, rfl, e2⟩
      | leaf _ hs =>
        rcases hs with rfl | rfl
        · simp [tx_l1] at he
        · simp [tx_l2] at he
      | one => rw [tx_one] at he; simp at he
      | two => rw [tx_two] at he; simp at he
    | leaf _ hs =>
      cases h' with
      | var _ h0' h1' =>
        rw [tx_var] at he
        rcases hs with rfl | rfl
        · simp [tx_l1] at he
        · simp [tx_l2] at he
      | leaf _ hs' =>
        rcases hs with rfl | rfl <;> rcases hs' with rfl | rfl
        all_goals simp [tx_l1, tx_l2] at he
        all_goals exact ⟨rfl, rfl, rfl, he⟩
      | one =>
        rw [tx_one] at he
        rcases hs with rfl | rfl
        · simp [tx_l1] at he
        · simp [tx_l2] at he
      | two =>
        rw [tx_two] at he
        rcases hs with rfl | rfl
        · simp [tx_l1] at he
        · simp [tx_l2] at he
    | one x y p kk ho hk =>
      rw [tx_one] at he
      cases h' with
      | var => rw [tx_var] at he; simp at he
      | leaf _ hs =>
        rcases hs with rfl | rfl
        · simp [tx_l1] at he
        · simp [tx_l2] at he
      | one x' y' p' kk' ho' hk' =>
        rw [tx_one] at he
        simp only [List.append_assoc, List.cons_append, List.nil_append, List.cons.injEq, true_and] at he
        have he2 := he
        obtain ⟨e1, e2, e3, e4⟩ := ih (fsz kk) (by simp [fsz] at hN; omega) p.1 p.2 kk p'.1 p'.2 kk' _ _ (shape_of ho hk) (shape_of ho' hk') (Nat.le_refl _) (nd41 _) (nd41 _) he2
        exact ⟨rfl, rfl, by simp only [fer]; rw [e3, Prod.ext e1 e2], (List.cons.inj e4).2⟩
      | two => rw [tx_two] at he; simp at he
    | two x y p kk x2 y2 p2 kk2 ho hk ho2 hk2 =>
      rw [tx_two] at he
      cases h' with
      | var => rw [tx_var] at he; simp at he
      | leaf _ hs =>
        rcases hs with rfl | rfl
        · simp [tx_l1] at he
        · simp [tx_l2] at he
      | one => rw [tx_one] at he; simp at he
      | two x' y' p' kk' x2' y2' p2' kk2' ho' hk' ho2' hk2' =>
        rw [tx_two] at he
        simp only [List.append_assoc, List.cons_append, List.nil_append, List.cons.injEq, true_and] at he
        have he2 := he
        simp only [fsz] at hN
        obtain ⟨e1, e2, e3, e4⟩ := ih (fsz kk) (by omega) p.1 p.2 kk p'.1 p'.2 kk' _ _ (shape_of ho hk) (shape_of ho' hk') (Nat.le_refl _) (nd44 _) (nd44 _) he2
        obtain ⟨f1, f2, f3, f4⟩ := ih (fsz kk2) (by omega) p2.1 p2.2 kk2 p2'.1 p2'.2 kk2' _ _ (shape_of ho2 hk2) (shape_of ho2' hk2') (Nat.le_refl _) (nd41 _) (nd41 _) (List.cons.inj e4).2
        exact ⟨rfl, rfl, by simp only [fer]; rw [e3, Prod.ext e1 e2, f3, Prod.ext f1 f2], (List.cons.inj f4).2⟩

/-- Equal texts, equal terms. -/
theorem tx_inj' {s v : Int} {k : Fo} {s' v' : Int} {k' : Fo} (h : Shape s v k) (h' : Shape s' v' k') (he : tx s v k = tx s' v' k') : s = s' ∧ v = v' ∧ fer k = fer k' := by
  obtain ⟨h1, h2, h3, _⟩ := tx_inj (fsz k) s v k s' v' k' [] [] h h' (Nat.le_refl _) nd_nil nd_nil (by rw [he])
  exact ⟨h1, h2, h3⟩
theorem fts_fer : ∀ k : Fo, fts (fer k) = fts k
  | .nil => rfl
  | .node _ _ p k r => by simp only [fer, fts, fts_fer k, fts_fer r]
theorem tx_same {s v : Int} {k k' : Fo} (h : fer k = fer k') : tx s v k = tx s v k' := by
  unfold tx
  rw [← fts_fer k, h, fts_fer k']
end Go.Proofs.Ythbakmdcepoikaa
