/- Several texts in one: T4, TE, MT0, PF2. -/
import Derived.Test.YtoafleckcjanaaaKLk11
import Derived.Test.YtoafleckcjanaaaKLk8
import Derived.Test.YtoafleckcjanaaaKLk7
import Derived.Test.YtoafleckcjanaaaKLk10

/-! T4: Terms are the same just if their texts are: plain lemmas. -/
namespace Go.Proofs.Ytoafleckcjanaaa
open Go.RowKit Go.Deep

/-- Terms without the marks of where they were. -/
def fer : Fo → Fo
  | .nil => .nil
  | .node _ _ p k r => .node 0 0 p (fer k) (fer r)

theorem fo_none {k : Fo} (h : flen k = 0) : k = .nil := by
  cases k with
  | nil => rfl
  | node => simp [flen] at h
theorem fo_one {k : Fo} (h : flen k = 1) : ∃ x y p kk, k = .node x y p kk .nil := by
  cases k with
  | nil => simp [flen] at h
  | node x y p kk r =>
    obtain rfl := fo_none (k := r) (by simp [flen] at h; omega)
    exact ⟨x, y, p, kk, rfl⟩
theorem fo_two {k : Fo} (h : flen k = 2) : ∃ x y p kk x' y' p' kk', k = .node x y p kk (.node x' y' p' kk' .nil) := by
  cases k with
  | nil => simp [flen] at h
  | node x y p kk r =>
    obtain ⟨x', y', p', kk', rfl⟩ := fo_one (k := r) (by simp [flen] at h; omega)
    exact ⟨x, y, p, kk, x', y', p', kk', rfl⟩

/-- What a well-formed term looks like. -/
inductive Shape : Int → Int → Fo → Prop
  | var (v : Int) (h0 : 0 ≤ v) (h1 : v ≤ 11) : Shape 0 v .nil
  | leaf (s : Int) (h : s = 1 ∨ s = 2) : Shape s 0 .nil
  | one (x y : Nat) (p : Int × Int) (k : Fo) (h : okN p.1 p.2 (flen k) = true) (hk : fok k = true) : Shape 3 0 (.node x y p k .nil)
  | two (x y : Nat) (p : Int × Int) (k : Fo) (x' y' : Nat) (p' : Int × Int) (k' : Fo) (h : okN p.1 p.2 (flen k) = true) (hk : fok k = true) (h' : okN p'.1 p'.2 (flen k') = true) (hk' : fok k' = true) : Shape 4 0 (.node x y p k (.node x' y' p' k' .nil))

theorem shape_of {s v : Int} {k : Fo} (h : okN s v (flen k) = true) (hk : fok k = true) : Shape s v k := by
  obtain ⟨h1, h2, h3⟩ := (okN_iff _ _ _).1 h
  unfold ar at h1
  by_cases h0 : s = 0
  · subst h0
    obtain rfl := fo_none (k := k) (by simp at h1; omega)
    exact .var v (h2 rfl).1 (h2 rfl).2
  · obtain rfl := h3 h0
    split at h1
    · obtain rfl := fo_none (k := k) (by omega)
      exact .leaf s (by omega)
    · split at h1
      · rename_i h3'
        subst h3'
        obtain ⟨x, y, p, kk, rfl⟩ := fo_one (k := k) (by omega)
        simp only [fok, Bool.and_eq_true] at hk
        exact .one x y p kk hk.1.1 hk.1.2
      · split at h1
        · rename_i h4'
          subst h4'
          obtain ⟨x, y, p, kk, x', y', p', kk', rfl⟩ := fo_two (k := k) (by omega)
          simp only [fok, Bool.and_eq_true] at hk
          exact .two x y p kk x' y' p' kk' hk.1.1 hk.1.2 hk.2.1.1 hk.2.1.2
        · omega

/-- It does not begin with a digit. -/
def nd (l : List UInt8) : Prop := ∀ b r, l = b :: r → b.toNat < 48 ∨ 57 < b.toNat
theorem nd_of {b : UInt8} {r : List UInt8} (h : b.toNat < 48 ∨ 57 < b.toNat) : nd (b :: r) := fun b' r' e => by
  obtain ⟨rfl, _⟩ := List.cons.inj e
  exact h
theorem nd_nil : nd [] := fun b r e => by cases e

theorem digit_toNat {n : Nat} (h : n < 10) : (UInt8.ofNat (48 + n)).toNat = 48 + n := by
  simp [UInt8.toNat_ofNat]
  omega
theorem dec_small {n : Nat} (h : n < 10) : Lib.decDigits n = [UInt8.ofNat (48 + n)] := by
  unfold Lib.decDigits
  rw [dif_pos h]
theorem dec_great {n : Nat} (h : 10 ≤ n) (h1 : n < 20) : Lib.decDigits n = [UInt8.ofNat (48 + 1), UInt8.ofNat (48 + (n - 10))] := by
  unfold Lib.decDigits
  rw [dif_neg (by omega), show n / 10 = 1 from by omega, dec_small (by omega), show n % 10 = n - 10 from by omega]
  rfl
theorem dec_inj {m n : Nat} {r r' : List UInt8} (hm : m < 12) (hn : n < 12) (hr : nd r) (hr' : nd r') (h : Lib.decDigits m ++ r = Lib.decDigits n ++ r') : m = n ∧ r = r' := by
  by_cases h1 : m < 10
  · rw [dec_small h1] at h
    by_cases h2 : n < 10
    · rw [dec_small h2] at h
      obtain ⟨e1, e2⟩ := List.cons.inj h
      have := congrArg UInt8.toNat e1
      rw [digit_toNat h1, digit_toNat h2] at this
      exact ⟨by omega, e2⟩
    · rw [dec_great (by omega) (by omega)] at h
      obtain ⟨_, e2⟩ := List.cons.inj h
      have := hr _ _ e2
      rw [digit_toNat (by omega)] at this
      omega
  · rw [dec_great (by omega) (by omega)] at h
    by_cases h2 : n < 10
    · rw [dec_small h2] at h
      obtain ⟨_, e2⟩ := List.cons.inj h
      have := hr' _ _ e2.symm
      rw [digit_toNat (by omega)] at this
      omega
    · rw [dec_great (by omega) (by omega)] at h
      obtain ⟨_, e2⟩ := List.cons.inj h
      obtain ⟨e3, e4⟩ := List.cons.inj e2
      have := congrArg UInt8.toNat e3
      rw [digit_toNat (by omega), digit_toNat (by omega)] at this
      exact ⟨by omega, e4⟩

theorem tx_l1 : tx 1 0 .nil = [97] := rfl
theorem tx_l2 : tx 2 0 .nil = [98] := rfl
theorem tx_one {x y : Nat} {p : Int × Int} {k : Fo} : tx 3 0 (.node x y p k .nil) = 103 :: 40 :: (tx p.1 p.2 k ++ [41]) := by
  rw [tx_kids (by decide) (by simp [flen])]
  simp only [fts, Lib.join_one]
  rfl
theorem tx_two {x y : Nat} {p : Int × Int} {k : Fo} {x' y' : Nat} {p' : Int × Int} {k' : Fo} : tx 4 0 (.node x y p k (.node x' y' p' k' .nil)) = 102 :: 40 :: (tx p.1 p.2 k ++ (44 :: (tx p'.1 p'.2 k' ++ [41]))) := by
  rw [tx_kids (by decide) (by simp [flen])]
  simp only [fts, Lib.join_cons, Lib.joinTail, List.map_cons, List.map_nil, List.flatten_cons, List.flatten_nil]
  simp [ltr, tx]

theorem tx_inj (N : Nat) : ∀ (s v : Int) (k : Fo) (s' v' : Int) (k' : Fo) (r r' : List UInt8), Shape s v k → Shape s' v' k' → fsz k ≤ N → nd r → nd r' → tx s v k ++ r = tx s' v' k' ++ r' → s = s' ∧ v = v' ∧ fer k = fer k' ∧ r = r' := by
  induction N using Nat.strongRecOn with
  | _ N ih =>
    intro s v k s' v' k' r r' h h' hN hr hr' he
    have nd41 : ∀ q, nd (41 :: q) := fun q => nd_of (by decide)
    have nd44 : ∀ q, nd (44 :: q) := fun q => nd_of (by decide)
    cases h with
    | var _ h0 h1 =>
      rw [tx_var] at he
      cases h' with
      | var _ h0' h1' =>
        rw [tx_var] at he
        obtain ⟨e1, e2⟩ := dec_inj (by omega) (by omega) hr hr' (List.cons.inj he).2
        exact ⟨rfl, by omega, rfl, e2⟩
      | leaf _ hs =>
        rcases hs with rfl | rfl
        · simp [tx_l1] at he
        · simp [tx_l2] at he
      | one => rw [tx_one] at he; simp at he
      | two => rw [tx_two] at he; simp at he
    | leaf _ hs =>
      cases h' with
      | var _ h0' h1' =>
        rw [tx_var] at he
        rcases hs with rfl | rfl
        · simp [tx_l1] at he
        · simp [tx_l2] at he
      | leaf _ hs' =>
        rcases hs with rfl | rfl <;> rcases hs' with rfl | rfl
        all_goals simp [tx_l1, tx_l2] at he
        all_goals exact ⟨rfl, rfl, rfl, he⟩
      | one =>
        rw [tx_one] at he
        rcases hs with rfl | rfl
        · simp [tx_l1] at he
        · simp [tx_l2] at he
      | two =>
        rw [tx_two] at he
        rcases hs with rfl | rfl
        · simp [tx_l1] at he
        · simp [tx_l2] at he
    | one x y p kk ho hk =>
      rw [tx_one] at he
      cases h' with
      | var => rw [tx_var] at he; simp at he
      | leaf _ hs =>
        rcases hs with rfl | rfl
        · simp [tx_l1] at he
        · simp [tx_l2] at he
      | one x' y' p' kk' ho' hk' =>
        rw [tx_one] at he
        simp only [List.append_assoc, List.cons_append, List.nil_append, List.cons.injEq, true_and] at he
        have he2 := he
        obtain ⟨e1, e2, e3, e4⟩ := ih (fsz kk) (by simp [fsz] at hN; omega) p.1 p.2 kk p'.1 p'.2 kk' _ _ (shape_of ho hk) (shape_of ho' hk') (Nat.le_refl _) (nd41 _) (nd41 _) he2
        exact ⟨rfl, rfl, by simp only [fer]; rw [e3, Prod.ext e1 e2], (List.cons.inj e4).2⟩
      | two => rw [tx_two] at he; simp at he
    | two x y p kk x2 y2 p2 kk2 ho hk ho2 hk2 =>
      rw [tx_two] at he
      cases h' with
      | var => rw [tx_var] at he; simp at he
      | leaf _ hs =>
        rcases hs with rfl | rfl
        · simp [tx_l1] at he
        · simp [tx_l2] at he
      | one => rw [tx_one] at he; simp at he
      | two x' y' p' kk' x2' y2' p2' kk2' ho' hk' ho2' hk2' =>
        rw [tx_two] at he
        simp only [List.append_assoc, List.cons_append, List.nil_append, List.cons.injEq, true_and] at he
        have he2 := he
        simp only [fsz] at hN
        obtain ⟨e1, e2, e3, e4⟩ := ih (fsz kk) (by omega) p.1 p.2 kk p'.1 p'.2 kk' _ _ (shape_of ho hk) (shape_of ho' hk') (Nat.le_refl _) (nd44 _) (nd44 _) he2
        obtain ⟨f1, f2, f3, f4⟩ := ih (fsz kk2) (by omega) p2.1 p2.2 kk2 p2'.1 p2'.2 kk2' _ _ (shape_of ho2 hk2) (shape_of ho2' hk2') (Nat.le_refl _) (nd41 _) (nd41 _) (List.cons.inj e4).2
        exact ⟨rfl, rfl, by simp only [fer]; rw [e3, Prod.ext e1 e2, f3, Prod.ext f1 f2], (List.cons.inj f4).2⟩

/-- Equal texts, equal terms. -/
theorem tx_inj' {s v : Int} {k : Fo} {s' v' : Int} {k' : Fo} (h : Shape s v k) (h' : Shape s' v' k') (he : tx s v k = tx s' v' k') : s = s' ∧ v = v' ∧ fer k = fer k' := by
  obtain ⟨h1, h2, h3, _⟩ := tx_inj (fsz k) s v k s' v' k' [] [] h h' (Nat.le_refl _) nd_nil nd_nil (by rw [he])
  exact ⟨h1, h2, h3⟩
theorem fts_fer : ∀ k : Fo, fts (fer k) = fts k
  | .nil => rfl
  | .node _ _ p k r => by simp only [fer, fts, fts_fer k, fts_fer r]
theorem tx_same {s v : Int} {k k' : Fo} (h : fer k = fer k') : tx s v k = tx s v k' := by
  unfold tx
  rw [← fts_fer k, h, fts_fer k']
end Go.Proofs.Ytoafleckcjanaaa

/-! TE: Terms compared: plain lemmas. -/
namespace Go.Proofs.Ytoafleckcjanaaa
open Go.RowKit Go.Deep

def feq : Fo → Fo → Bool
  | .nil, .nil => true
  | .node _ _ p k r, .node _ _ p' k' r' => decide (p = p') && (feq k k' && feq r r')
  | _, _ => false
/-- The same term. -/
def teq (s v : Int) (k : Fo) (s' v' : Int) (k' : Fo) : Bool := decide (s = s') && (decide (v = v') && feq k k')
theorem feq_iff : ∀ k k' : Fo, feq k k' = true ↔ fer k = fer k'
  | .nil, .nil => by simp [feq, fer]
  | .nil, .node _ _ _ _ _ => by simp [feq, fer]
  | .node _ _ _ _ _, .nil => by simp [feq, fer]
  | .node _ _ p k r, .node _ _ p' k' r' => by
    simp only [feq, fer, Bool.and_eq_true, decide_eq_true_eq, feq_iff k k', feq_iff r r', BT.node.injEq, true_and]
theorem feq_len : ∀ {k k' : Fo}, feq k k' = true → flen k = flen k'
  | .nil, .nil, _ => rfl
  | .nil, .node _ _ _ _ _, h => by simp [feq] at h
  | .node _ _ _ _ _, .nil, h => by simp [feq] at h
  | .node _ _ p k r, .node _ _ p' k' r', h => by
    simp only [feq, Bool.and_eq_true] at h
    simp [flen, feq_len h.2.2]
theorem teq_sign {s v : Int} {k : Fo} {s' v' : Int} {k' : Fo} (h : s ≠ s') : teq s v k s' v' k' = false := by simp [teq, h]
theorem teq_var {s v : Int} {k : Fo} {s' v' : Int} {k' : Fo} (h : v ≠ v') : teq s v k s' v' k' = false := by simp [teq, h]
theorem teq_len {s v : Int} {k : Fo} {s' v' : Int} {k' : Fo} (h : flen k ≠ flen k') : teq s v k s' v' k' = false := by
  cases hf : feq k k' with
  | false => simp [teq, hf]
  | true => exact absurd (feq_len hf) h
theorem teq_kids {s v : Int} {k k' : Fo} : teq s v k s v k' = feq k k' := by simp [teq]
theorem feq_drop {k k' : Fo} {j x y x' y' : Nat} {s v s' v' : Int} {kk kk' : Fo} (h : fdrop j k = .node x y (s, v) kk (fdrop (j + 1) k)) (h' : fdrop j k' = .node x' y' (s', v') kk' (fdrop (j + 1) k')) :
    feq (fdrop j k) (fdrop j k') = (teq s v kk s' v' kk' && feq (fdrop (j + 1) k) (fdrop (j + 1) k')) := by
  rw [h, h']
  simp only [feq, teq, Prod.mk.injEq, Bool.and_assoc]
  by_cases h1 : s = s' <;> by_cases h2 : v = v' <;> simp [h1, h2]
theorem teq_iff {s v : Int} {k : Fo} {s' v' : Int} {k' : Fo} : teq s v k s' v' k' = true ↔ s = s' ∧ v = v' ∧ fer k = fer k' := by
  simp only [teq, Bool.and_eq_true, decide_eq_true_eq, feq_iff]
/-- Texts are the same just if the terms are. -/
theorem tx_teq {s v : Int} {k : Fo} {s' v' : Int} {k' : Fo} (h : Shape s v k) (h' : Shape s' v' k') : (tx s v k = tx s' v' k') ↔ teq s v k s' v' k' = true := by
  rw [teq_iff]
  refine ⟨fun he => tx_inj' h h' he, ?_⟩
  rintro ⟨rfl, rfl, he⟩
  exact tx_same he
end Go.Proofs.Ytoafleckcjanaaa

/-! MT0: Matching as plain data: what a pattern binds. Definitions and plain lemmas. -/
namespace Go.Proofs.Ytoafleckcjanaaa
open Go.RowKit Go.Deep

/-- Terms of a row without marks of where they lie. -/
def Zf (k : Fo) : Prop := fer k = k
theorem Zf.nil : Zf .nil := rfl
theorem zf_node {x y : Nat} {p : Int × Int} {k r : Fo} : Zf (.node x y p k r) ↔ x = 0 ∧ y = 0 ∧ Zf k ∧ Zf r := by
  simp only [Zf, fer, BT.node.injEq, true_and]
  constructor
  · rintro ⟨h1, h2, h3, h4⟩; exact ⟨h1.symm, h2.symm, h3, h4⟩
  · rintro ⟨h1, h2, h3, h4⟩; exact ⟨h1.symm, h2.symm, h3, h4⟩
theorem fer_fer : ∀ k : Fo, fer (fer k) = fer k
  | .nil => rfl
  | .node _ _ _ k r => by simp only [fer, fer_fer k, fer_fer r]
theorem zf_fer (k : Fo) : Zf (fer k) := fer_fer k
theorem fer_len : ∀ k : Fo, flen (fer k) = flen k
  | .nil => rfl
  | .node _ _ _ k r => by simp only [fer, flen, fer_len r]
theorem fer_sz : ∀ k : Fo, fsz (fer k) = fsz k
  | .nil => rfl
  | .node _ _ _ k r => by simp only [fer, fsz, fer_sz k, fer_sz r]
theorem fer_row {w : World} {lo B : Nat} : ∀ (k : Fo) (b o : Nat), Row w lo B k b o → Row w lo B (fer k) b o
  | .nil, _, _, _ => trivial
  | .node _ _ p k r, b, o, ⟨hl, h0, h1, h2, ⟨a, c, h3, h4⟩, h5⟩ => by
    refine ⟨hl, h0, h1, h2, ⟨a, c, by rw [fer_len]; exact h3, ?_⟩, fer_row r b (o + 3) h5⟩
    rcases h4 with rfl | ⟨b', o', e, h4⟩
    · exact .inl rfl
    · exact .inr ⟨b', o', e, fer_row k b' o' h4⟩
theorem Sl.fer {w : World} {lo B : Nat} {a : Option Addr} {k : Fo} (h : Sl w lo B a k) : Sl w lo B a (fer k) := by
  rcases h with rfl | ⟨b, o, e, h⟩
  · exact .inl rfl
  · exact .inr ⟨b, o, e, fer_row k b o h⟩
theorem feq_rfl : ∀ k : Fo, feq k k = true
  | .nil => rfl
  | .node _ _ p k r => by simp [feq, feq_rfl k, feq_rfl r]
theorem teq_rfl (s v : Int) (k : Fo) : teq s v k s v k = true := by simp [teq, feq_rfl]
theorem teq_z {s v : Int} {k : Fo} {s' v' : Int} {k' : Fo} (hk : Zf k) (hk' : Zf k') : teq s v k s' v' k' = true ↔ (s, v, k) = (s', v', k') := by
  rw [teq_iff, hk, hk']; simp

theorem sv_ladd {b : Bd} : ∀ {bs : List Bd}, sv bs b.1 = none → ∀ v, sv (ladd bs b) v = if b.1 = v then some b.2 else sv bs v
  | [], _, v => rfl
  | x :: r, h, v => by
    simp only [sv] at h
    by_cases e : x.1 = b.1
    · rw [if_pos e] at h; cases h
    · rw [if_neg e] at h
      simp only [ladd]
      by_cases hlt : b.1 < x.1
      · rw [if_pos hlt]; rfl
      · rw [if_neg hlt]
        simp only [sv]
        rw [sv_ladd h v]
        by_cases e2 : x.1 = v
        · rw [if_pos e2, if_neg (fun e' => e (e2.trans e'.symm))]; simp [e2]
        · rw [if_neg e2, if_neg e2]

/-- What a variable of a pattern binds. -/
def mtV (bs : List Bd) (x : Int) (t : Int × Int × Fo) : Option (List Bd) :=
  match sv bs x with
  | some u => if teq u.1 u.2.1 u.2.2 t.1 t.2.1 t.2.2 = true then some bs else none
  | none => some (ladd bs (x, t))
/-- What patterns of a row bind. -/
def fmt : List Bd → Fo → Fo → Option (List Bd)
  | bs, .nil, .nil => some bs
  | bs, .node _ _ p k r, .node _ _ q l m => (if p.1 = 0 then mtV bs p.2 (q.1, q.2, l) else if p.1 = q.1 then fmt bs k l else none).bind fun b1 => fmt b1 r m
  | _, _, _ => none
/-- What a pattern binds. -/
def tmt (bs : List Bd) (s v : Int) (k : Fo) (s' v' : Int) (k' : Fo) : Option (List Bd) := if s = 0 then mtV bs v (s', v', k') else if s = s' then fmt bs k k' else none
theorem fmt_node (bs : List Bd) (x y : Nat) (p : Int × Int) (k r : Fo) (x' y' : Nat) (q : Int × Int) (l m : Fo) : fmt bs (.node x y p k r) (.node x' y' q l m) = (tmt bs p.1 p.2 k q.1 q.2 l).bind fun b1 => fmt b1 r m := rfl

def Ext (bs bs' : List Bd) : Prop := ∀ x t, sv bs x = some t → sv bs' x = some t
def BZ (bs : List Bd) : Prop := ∀ x t, sv bs x = some t → Zf t.2.2
theorem BZ.nil : BZ [] := fun _ _ h => by simp [sv] at h
theorem ext_ladd {bs : List Bd} {b : Bd} (h : sv bs b.1 = none) : Ext bs (ladd bs b) := fun x t ht => by
  rw [sv_ladd h]
  by_cases e : b.1 = x
  · rw [← e, h] at ht; cases ht
  · rw [if_neg e]; exact ht
theorem mtV_cases {bs b1 : List Bd} {x : Int} {t : Int × Int × Fo} (h : mtV bs x t = some b1) : (∃ u, sv bs x = some u ∧ teq u.1 u.2.1 u.2.2 t.1 t.2.1 t.2.2 = true ∧ b1 = bs) ∨ (sv bs x = none ∧ b1 = ladd bs (x, t)) := by
  unfold mtV at h
  cases hs : sv bs x with
  | none => rw [hs] at h; exact .inr ⟨rfl, (Option.some.inj h).symm⟩
  | some u =>
    rw [hs] at h
    dsimp only at h
    split at h
    · rename_i he; exact .inl ⟨u, rfl, he, (Option.some.inj h).symm⟩
    · cases h
theorem mtV_sound {bs b1 : List Bd} {x : Int} {t : Int × Int × Fo} (h : mtV bs x t = some b1) (hz : BZ bs) (ht : Zf t.2.2) : Ext bs b1 ∧ BZ b1 ∧ sv b1 x = some t := by
  rcases mtV_cases h with ⟨u, hs, he, rfl⟩ | ⟨hs, rfl⟩
  · have := (teq_z (hz x u hs) ht).1 he
    have hu : u = t := this
    exact ⟨fun _ _ h => h, hz, by rw [hs, hu]⟩
  · refine ⟨ext_ladd hs, fun y u hu => ?_, by rw [sv_ladd (b := (x, t)) hs]; simp⟩
    rw [sv_ladd (b := (x, t)) hs] at hu
    split at hu
    · obtain rfl := Option.some.inj hu; exact ht
    · exact hz y u hu
theorem fsub_congr {σ τ : Int → Option (Int × Int × Fo)} : ∀ k : Fo, (∀ x ∈ fvl k, σ x = τ x) → fsub σ k = fsub τ k
  | .nil, _ => rfl
  | .node x y p k r, h => by
    simp only [fvl, List.mem_append] at h
    have hr := fsub_congr r (fun z hz => h z (.inr hz))
    simp only [fsub]
    by_cases e : p.1 = 0
    · have h0 := h p.2 (.inl (by rw [if_pos e]; simp))
      rw [if_pos e, if_pos e, h0, hr]
    · rw [if_neg e, if_neg e, fsub_congr k (fun z hz => h z (.inl (by rw [if_neg e]; exact hz))), hr]
theorem tsub_congr {σ τ : Int → Option (Int × Int × Fo)} {s v : Int} {k : Fo} (h : ∀ x ∈ fvs s v k, σ x = τ x) : tsub σ s v k = tsub τ s v k := by
  unfold tsub
  unfold fvs at h
  by_cases e : s = 0
  · rw [if_pos e] at h; rw [if_pos e, if_pos e, h v (by simp)]
  · rw [if_neg e] at h; rw [if_neg e, if_neg e, fsub_congr k h]

/-- What is bound makes the pattern the term. -/
theorem fmt_sound : ∀ (k l : Fo) (bs bs' : List Bd), fmt bs k l = some bs' → Zf k → Zf l → fok k = true → fok l = true → BZ bs → Ext bs bs' ∧ BZ bs' ∧ (∀ x ∈ fvl k, (sv bs' x).isSome = true) ∧ fsub (sv bs') k = l
  | .nil, .nil, bs, bs', h, _, _, _, _, hz => by
    obtain rfl := Option.some.inj h
    exact ⟨fun _ _ h => h, hz, fun x hx => by simp [fvl] at hx, rfl⟩
  | .nil, .node _ _ _ _ _, _, _, h, _, _, _, _, _ => by simp [fmt] at h
  | .node _ _ _ _ _, .nil, _, _, h, _, _, _, _, _ => by simp [fmt] at h
  | .node x y p k r, .node x' y' q l m, bs, bs', h, hzk, hzl, hok, hol, hz => by
    obtain ⟨rfl, rfl, hzk, hzr⟩ := zf_node.1 hzk
    obtain ⟨rfl, rfl, hzl, hzm⟩ := zf_node.1 hzl
    simp only [fok, Bool.and_eq_true] at hok hol
    rw [fmt_node] at h
    obtain ⟨b1, h1, h2⟩ := Option.bind_eq_some_iff.1 h
    unfold tmt at h1
    by_cases e : p.1 = 0
    · rw [if_pos e] at h1
      obtain ⟨g1, g2, g3⟩ := mtV_sound h1 hz hzl
      obtain ⟨i1, i2, i3, i4⟩ := fmt_sound r m b1 bs' h2 hzr hzm hok.2 hol.2 g2
      have h5 := i1 _ _ g3
      refine ⟨fun x t ht => i1 x t (g1 x t ht), i2, fun x hx => ?_, ?_⟩
      · simp only [fvl, if_pos e, List.mem_append, List.mem_singleton] at hx
        rcases hx with rfl | hx
        · rw [h5]; rfl
        · exact i3 x hx
      · simp only [fsub, if_pos e]; rw [h5, i4]
    · rw [if_neg e] at h1
      split at h1
      · rename_i e2
        obtain ⟨g1, g2, g3, g4⟩ := fmt_sound k l bs b1 h1 hzk hzl hok.1.2 hol.1.2 hz
        obtain ⟨i1, i2, i3, i4⟩ := fmt_sound r m b1 bs' h2 hzr hzm hok.2 hol.2 g2
        refine ⟨fun x t ht => i1 x t (g1 x t ht), i2, fun x hx => ?_, ?_⟩
        · simp only [fvl, if_neg e, List.mem_append] at hx
          rcases hx with hx | hx
          · obtain ⟨t, ht⟩ := Option.isSome_iff_exists.1 (g3 x hx)
            rw [i1 x t ht]; rfl
          · exact i3 x hx
        · have hc : fsub (sv bs') k = fsub (sv b1) k := fsub_congr k fun x hx => by
            obtain ⟨t, ht⟩ := Option.isSome_iff_exists.1 (g3 x hx)
            rw [ht, i1 x t ht]
          simp only [fsub, if_neg e]
          rw [hc, g4, i4]
          have v1 := ((okN_iff _ _ _).1 hok.1.1).2.2 e
          have v2 := ((okN_iff _ _ _).1 hol.1.1).2.2 (e2 ▸ e)
          have : p = q := Prod.ext e2 (v1.trans v2.symm)
          rw [this]
      · cases h1
theorem tmt_sound {bs bs' : List Bd} {s v : Int} {k : Fo} {s' v' : Int} {k' : Fo} (h : tmt bs s v k s' v' k' = some bs') (hk : Zf k) (hk' : Zf k') (h1 : okN s v (flen k) = true) (h2 : fok k = true) (h1' : okN s' v' (flen k') = true) (h2' : fok k' = true) (hz : BZ bs) :
    Ext bs bs' ∧ BZ bs' ∧ (∀ x ∈ fvs s v k, (sv bs' x).isSome = true) ∧ tsub (sv bs') s v k = (s', v', k') := by
  unfold tmt at h
  unfold fvs tsub
  by_cases e : s = 0
  · rw [if_pos e] at h
    obtain ⟨g1, g2, g3⟩ := mtV_sound h hz hk'
    refine ⟨g1, g2, fun x hx => ?_, ?_⟩
    · rw [if_pos e] at hx
      simp only [List.mem_singleton] at hx
      subst hx; rw [g3]; rfl
    · rw [if_pos e, g3]; rfl
  · rw [if_neg e] at h
    split at h
    · rename_i e2
      obtain ⟨g1, g2, g3, g4⟩ := fmt_sound k k' bs bs' h hk hk' h2 h2' hz
      refine ⟨g1, g2, fun x hx => g3 x (by rw [if_neg e] at hx; exact hx), ?_⟩
      have v1 := ((okN_iff _ _ _).1 h1).2.2 e
      have v2 := ((okN_iff _ _ _).1 h1').2.2 (e2 ▸ e)
      rw [if_neg e, g4, e2, v1, v2]
    · cases h

/-- Nothing bound says otherwise. -/
def Agrees (bs : List Bd) (σ : Int → Option (Int × Int × Fo)) : Prop := ∀ x t, sv bs x = some t → tsub σ 0 x .nil = t
theorem Agrees.nil (σ : Int → Option (Int × Int × Fo)) : Agrees [] σ := fun _ _ h => by simp [sv] at h
theorem tsub0 (σ : Int → Option (Int × Int × Fo)) (x : Int) (k : Fo) : tsub σ 0 x k = (σ x).getD (0, x, k) := by unfold tsub; rw [if_pos rfl]
theorem mtV_made {bs : List Bd} {σ : Int → Option (Int × Int × Fo)} (h : Agrees bs σ) (x : Int) : ∃ b1, mtV bs x (tsub σ 0 x .nil) = some b1 ∧ Agrees b1 σ := by
  unfold mtV
  cases hs : sv bs x with
  | some u =>
    dsimp only
    rw [h x u hs, if_pos (teq_rfl _ _ _)]
    exact ⟨bs, rfl, h⟩
  | none =>
    refine ⟨_, rfl, fun y t ht => ?_⟩
    rw [sv_ladd (b := (x, tsub σ 0 x .nil)) hs] at ht
    split at ht
    · rename_i e; dsimp only at e; rw [← e]; exact Option.some.inj ht
    · exact h y t ht
theorem fmt_made (σ : Int → Option (Int × Int × Fo)) : ∀ (k : Fo) (bs : List Bd), fok k = true → Agrees bs σ → ∃ bs', fmt bs k (fsub σ k) = some bs' ∧ Agrees bs' σ
  | .nil, bs, _, h => ⟨bs, rfl, h⟩
  | .node x y p k r, bs, hok, h => by
    simp only [fok, Bool.and_eq_true] at hok
    by_cases e : p.1 = 0
    · obtain ⟨b1, hb1, ha1⟩ := mtV_made h p.2
      obtain ⟨b2, hb2, ha2⟩ := fmt_made σ r b1 hok.2 ha1
      refine ⟨b2, ?_, ha2⟩
      have hk : k = .nil := kids_none (v := p.2) (by rw [← e]; exact hok.1.1)
      rw [tsub0] at hb1
      simp only [fsub, if_pos e]
      cases hs : σ p.2 with
      | some t =>
        rw [hs] at hb1
        rw [fmt_node, tmt, if_pos e]
        dsimp only
        have : mtV bs p.2 (t.1, t.2.1, t.2.2) = some b1 := hb1
        rw [this]; exact hb2
      | none =>
        rw [hs] at hb1
        rw [fmt_node, tmt, if_pos e, e, hk]
        have : mtV bs p.2 (0, p.2, .nil) = some b1 := hb1
        rw [this]; exact hb2
    · obtain ⟨b1, hb1, ha1⟩ := fmt_made σ k bs hok.1.2 h
      obtain ⟨b2, hb2, ha2⟩ := fmt_made σ r b1 hok.2 ha1
      refine ⟨b2, ?_, ha2⟩
      simp only [fsub, if_neg e]
      rw [fmt_node, tmt, if_neg e, if_pos rfl, hb1]
      exact hb2
theorem tmt_made (σ : Int → Option (Int × Int × Fo)) {bs : List Bd} {s v : Int} {k : Fo} (h1 : okN s v (flen k) = true) (h2 : fok k = true) (h : Agrees bs σ) {s' v' : Int} {k' : Fo} (he : tsub σ s v k = (s', v', k')) : ∃ bs', tmt bs s v k s' v' k' = some bs' ∧ Agrees bs' σ := by
  unfold tmt
  by_cases e : s = 0
  · subst e
    have hk := kids_none h1
    subst hk
    rw [if_pos rfl]
    obtain ⟨b1, hb1, ha1⟩ := mtV_made h v
    rw [he] at hb1
    exact ⟨b1, hb1, ha1⟩
  · rw [if_neg e]
    unfold tsub at he
    rw [if_neg e] at he
    simp only [Prod.mk.injEq] at he
    obtain ⟨rfl, rfl, rfl⟩ := he
    rw [if_pos rfl]
    exact fmt_made σ k bs h2 h

/-- Which variables are bound. -/
theorem mtV_dom {bs b1 : List Bd} {x : Int} {t : Int × Int × Fo} (h : mtV bs x t = some b1) (y : Int) : (sv b1 y).isSome = true ↔ (sv bs y).isSome = true ∨ y = x := by
  rcases mtV_cases h with ⟨u, hs, he, rfl⟩ | ⟨hs, rfl⟩
  · constructor
    · exact fun h => .inl h
    · rintro (h | rfl)
      · exact h
      · rw [hs]; rfl
  · rw [sv_ladd (b := (x, t)) hs]
    dsimp only
    split
    · rename_i e; simp [e]
    · rename_i e; exact ⟨fun h => .inl h, fun h => h.elim id fun h => absurd h.symm e⟩
theorem fmt_dom : ∀ (k l : Fo) (bs bs' : List Bd), fmt bs k l = some bs' → ∀ y, (sv bs' y).isSome = true ↔ (sv bs y).isSome = true ∨ y ∈ fvl k
  | .nil, .nil, bs, bs', h, y => by obtain rfl := Option.some.inj h; simp [fvl]
  | .nil, .node _ _ _ _ _, _, _, h, _ => by simp [fmt] at h
  | .node _ _ _ _ _, .nil, _, _, h, _ => by simp [fmt] at h
  | .node x' y' p k r, .node _ _ q l m, bs, bs', h, y => by
    rw [fmt_node] at h
    obtain ⟨b1, h1, h2⟩ := Option.bind_eq_some_iff.1 h
    unfold tmt at h1
    rw [fmt_dom r m b1 bs' h2 y]
    simp only [fvl, List.mem_append]
    by_cases e : p.1 = 0
    · rw [if_pos e] at h1
      rw [mtV_dom h1 y, if_pos e, List.mem_singleton, or_assoc]
    · rw [if_neg e] at h1
      split at h1
      · rw [fmt_dom k l bs b1 h1 y, if_neg e, or_assoc]
      · cases h1
theorem tmt_dom {bs bs' : List Bd} {s v : Int} {k : Fo} {s' v' : Int} {k' : Fo} (h : tmt bs s v k s' v' k' = some bs') (y : Int) : (sv bs' y).isSome = true ↔ (sv bs y).isSome = true ∨ y ∈ fvs s v k := by
  unfold tmt at h
  unfold fvs
  by_cases e : s = 0
  · rw [if_pos e] at h; rw [mtV_dom h y, if_pos e, List.mem_singleton]
  · rw [if_neg e] at h
    split at h
    · rw [fmt_dom k k' bs bs' h y, if_neg e]
    · cases h

/-- Ascending by variables. -/
def Asc (bs : List Bd) : Prop := bs.Pairwise fun x y => x.1 < y.1
theorem ladd_mem {b : Bd} : ∀ {bs : List Bd} {z : Bd}, z ∈ ladd bs b ↔ z = b ∨ z ∈ bs
  | [], z => by simp [ladd]
  | x :: r, z => by
    simp only [ladd]
    split
    · simp
    · simp only [List.mem_cons, ladd_mem (bs := r)]
      constructor
      · rintro (h | h | h)
        · exact .inr (.inl h)
        · exact .inl h
        · exact .inr (.inr h)
      · rintro (h | h | h)
        · exact .inr (.inl h)
        · exact .inl h
        · exact .inr (.inr h)
theorem asc_ladd {b : Bd} : ∀ {bs : List Bd}, Asc bs → sv bs b.1 = none → Asc (ladd bs b)
  | [], _, _ => List.pairwise_singleton _ _
  | x :: r, h, hs => by
    obtain ⟨h1, h2⟩ := List.pairwise_cons.1 h
    simp only [sv] at hs
    by_cases e : x.1 = b.1
    · rw [if_pos e] at hs; cases hs
    · rw [if_neg e] at hs
      simp only [ladd]
      by_cases hlt : b.1 < x.1
      · rw [if_pos hlt]
        refine List.pairwise_cons.2 ⟨fun z hz => ?_, h⟩
        rcases List.mem_cons.1 hz with rfl | hz
        · exact hlt
        · exact Int.lt_trans hlt (h1 z hz)
      · rw [if_neg hlt]
        refine List.pairwise_cons.2 ⟨fun z hz => ?_, asc_ladd h2 hs⟩
        rcases ladd_mem.1 hz with rfl | hz
        · omega
        · exact h1 z hz
theorem fmt_asc : ∀ (k l : Fo) (bs bs' : List Bd), fmt bs k l = some bs' → Asc bs → Asc bs'
  | .nil, .nil, bs, bs', h, ha => by obtain rfl := Option.some.inj h; exact ha
  | .nil, .node _ _ _ _ _, _, _, h, _ => by simp [fmt] at h
  | .node _ _ _ _ _, .nil, _, _, h, _ => by simp [fmt] at h
  | .node x' y' p k r, .node _ _ q l m, bs, bs', h, ha => by
    rw [fmt_node] at h
    obtain ⟨b1, h1, h2⟩ := Option.bind_eq_some_iff.1 h
    unfold tmt at h1
    refine fmt_asc r m b1 bs' h2 ?_
    by_cases e : p.1 = 0
    · rw [if_pos e] at h1
      rcases mtV_cases h1 with ⟨u, hs, he, rfl⟩ | ⟨hs, rfl⟩
      · exact ha
      · exact asc_ladd ha hs
    · rw [if_neg e] at h1
      split at h1
      · exact fmt_asc k l bs b1 h1 ha
      · cases h1
theorem tmt_asc {bs bs' : List Bd} {s v : Int} {k : Fo} {s' v' : Int} {k' : Fo} (h : tmt bs s v k s' v' k' = some bs') (ha : Asc bs) : Asc bs' := by
  unfold tmt at h
  by_cases e : s = 0
  · rw [if_pos e] at h
    rcases mtV_cases h with ⟨u, hs, he, rfl⟩ | ⟨hs, rfl⟩
    · exact ha
    · exact asc_ladd ha hs
  · rw [if_neg e] at h
    split at h
    · exact fmt_asc k k' bs bs' h ha
    · cases h

/-- What is bound is a part of the term. -/
def Bof (bs : List Bd) (M : Nat) : Prop := ∀ x t, sv bs x = some t → okN t.1 t.2.1 (flen t.2.2) = true ∧ fok t.2.2 = true ∧ fsz t.2.2 ≤ M
theorem Bof.nil (M : Nat) : Bof [] M := fun _ _ h => by simp [sv] at h
theorem mtV_of {bs b1 : List Bd} {x : Int} {t : Int × Int × Fo} {M : Nat} (h : mtV bs x t = some b1) (hb : Bof bs M) (h1 : okN t.1 t.2.1 (flen t.2.2) = true) (h2 : fok t.2.2 = true) (h3 : fsz t.2.2 ≤ M) : Bof b1 M := by
  rcases mtV_cases h with ⟨u, hs, he, rfl⟩ | ⟨hs, rfl⟩
  · exact hb
  · intro y u hu
    rw [sv_ladd (b := (x, t)) hs] at hu
    split at hu
    · obtain rfl := Option.some.inj hu; exact ⟨h1, h2, h3⟩
    · exact hb y u hu
theorem fmt_of {M : Nat} : ∀ (k l : Fo) (bs bs' : List Bd), fmt bs k l = some bs' → Bof bs M → fok l = true → fsz l ≤ M → Bof bs' M
  | .nil, .nil, bs, bs', h, ha, _, _ => by obtain rfl := Option.some.inj h; exact ha
  | .nil, .node _ _ _ _ _, _, _, h, _, _, _ => by simp [fmt] at h
  | .node _ _ _ _ _, .nil, _, _, h, _, _, _ => by simp [fmt] at h
  | .node x' y' p k r, .node _ _ q l m, bs, bs', h, ha, hol, hM => by
    simp only [fok, Bool.and_eq_true] at hol
    simp only [fsz] at hM
    rw [fmt_node] at h
    obtain ⟨b1, h1, h2⟩ := Option.bind_eq_some_iff.1 h
    unfold tmt at h1
    refine fmt_of r m b1 bs' h2 ?_ hol.2 (by omega)
    by_cases e : p.1 = 0
    · rw [if_pos e] at h1
      exact mtV_of h1 ha hol.1.1 hol.1.2 (by dsimp only; omega)
    · rw [if_neg e] at h1
      split at h1
      · exact fmt_of k l bs b1 h1 ha hol.1.2 (by omega)
      · cases h1
theorem tmt_of {bs bs' : List Bd} {s v : Int} {k : Fo} {s' v' : Int} {k' : Fo} {M : Nat} (h : tmt bs s v k s' v' k' = some bs') (ha : Bof bs M) (h1 : okN s' v' (flen k') = true) (h2 : fok k' = true) (h3 : fsz k' ≤ M) : Bof bs' M := by
  unfold tmt at h
  by_cases e : s = 0
  · rw [if_pos e] at h; exact mtV_of h ha h1 h2 h3
  · rw [if_neg e] at h
    split at h
    · exact fmt_of k k' bs bs' h ha h2 h3
    · cases h
theorem mtV_len {bs b1 : List Bd} {x : Int} {t : Int × Int × Fo} (h : mtV bs x t = some b1) : b1.length ≤ bs.length + 1 := by
  rcases mtV_cases h with ⟨u, hs, he, rfl⟩ | ⟨hs, rfl⟩
  · omega
  · rw [ladd_len]; omega
theorem fmt_blen : ∀ (k l : Fo) (bs bs' : List Bd), fmt bs k l = some bs' → bs'.length ≤ bs.length + fsz k
  | .nil, .nil, bs, bs', h => by obtain rfl := Option.some.inj h; omega
  | .nil, .node _ _ _ _ _, _, _, h => by simp [fmt] at h
  | .node _ _ _ _ _, .nil, _, _, h => by simp [fmt] at h
  | .node x' y' p k r, .node _ _ q l m, bs, bs', h => by
    rw [fmt_node] at h
    obtain ⟨b1, h1, h2⟩ := Option.bind_eq_some_iff.1 h
    unfold tmt at h1
    have := fmt_blen r m b1 bs' h2
    simp only [fsz]
    by_cases e : p.1 = 0
    · rw [if_pos e] at h1
      have := mtV_len h1
      omega
    · rw [if_neg e] at h1
      split at h1
      · have := fmt_blen k l bs b1 h1
        omega
      · cases h1
theorem tmt_blen {bs bs' : List Bd} {s v : Int} {k : Fo} {s' v' : Int} {k' : Fo} (h : tmt bs s v k s' v' k' = some bs') : bs'.length ≤ bs.length + (1 + fsz k) := by
  unfold tmt at h
  by_cases e : s = 0
  · rw [if_pos e] at h; have := mtV_len h; omega
  · rw [if_neg e] at h
    split at h
    · have := fmt_blen k k' bs bs' h; omega
    · cases h
/-- Row by row. -/
theorem fmt_step {bs : List Bd} {k l : Fo} {j x y x' y' : Nat} {s v s' v' : Int} {kk kk' : Fo} (h : fdrop j k = .node x y (s, v) kk (fdrop (j + 1) k)) (h' : fdrop j l = .node x' y' (s', v') kk' (fdrop (j + 1) l)) : fmt bs (fdrop j k) (fdrop j l) = (tmt bs s v kk s' v' kk').bind fun b1 => fmt b1 (fdrop (j + 1) k) (fdrop (j + 1) l) := by
  rw [h, h', fmt_node]

theorem sv_mem : ∀ {bs : List Bd} {x : Bd}, Asc bs → x ∈ bs → sv bs x.1 = some x.2
  | [], _, _, h => by cases h
  | y :: r, x, ha, h => by
    obtain ⟨h1, h2⟩ := List.pairwise_cons.1 ha
    simp only [sv]
    rcases List.mem_cons.1 h with rfl | h
    · rw [if_pos rfl]
    · rw [if_neg (by have := h1 x h; omega)]; exact sv_mem h2 h
theorem mem_sv : ∀ {bs : List Bd} {x : Int} {t : Int × Int × Fo}, sv bs x = some t → (x, t) ∈ bs
  | [], _, _, h => by simp [sv] at h
  | y :: r, x, t, h => by
    simp only [sv] at h
    split at h
    · rename_i e
      obtain rfl := Option.some.inj h
      rw [← e]; exact List.mem_cons_self
    · exact List.mem_cons_of_mem _ (mem_sv h)
theorem sokFrom_of : ∀ (bs : List Bd) (last : Int), Asc bs → (∀ x ∈ bs, last < x.1 ∧ x.1 < 12 ∧ okW x.2.1 x.2.2.1 x.2.2.2 16 = true) → sokFrom 16 last bs = true
  | [], _, _, _ => rfl
  | y :: r, last, ha, h => by
    obtain ⟨h1, h2⟩ := List.pairwise_cons.1 ha
    have hy := h y List.mem_cons_self
    simp only [sokFrom, Bool.and_eq_true, decide_eq_true_eq]
    exact ⟨hy.2.2, hy.1, hy.2.1, sokFrom_of r y.1 h2 fun x hx => ⟨h1 x hx, (h x (List.mem_cons_of_mem _ hx)).2⟩⟩
/-- In form. -/
theorem sok_of {bs : List Bd} (ha : Asc bs) (hr : ∀ x, (sv bs x).isSome = true → 0 ≤ x ∧ x ≤ 11) (hb : Bof bs 15) : sok 16 bs = true := by
  refine sokFrom_of bs (-1) ha fun x hx => ?_
  have hs := sv_mem ha hx
  have h1 := hr x.1 (by rw [hs]; rfl)
  have h2 := hb x.1 x.2 hs
  exact ⟨by omega, by omega, (okW_iff _ _ _ _).2 ⟨h2.1, h2.2.1, by have := h2.2.2; omega⟩⟩
/-- The answer of MatchOf. -/
def maR (s v : Int) (k : Fo) (s' v' : Int) (k' : Fo) : List Bd × Bool :=
  if okW s v k 16 = true ∧ okW s' v' k' 16 = true then (match tmt [] s v k s' v' k' with
    | some bs => (bs, true)
    | none => ([], false)) else ([], false)
theorem maR_cases {s v : Int} {k : Fo} {s' v' : Int} {k' : Fo} {bs : List Bd} {t : Bool} (h : maR s v k s' v' k' = (bs, t)) :
    (t = false ∧ bs = []) ∨ (t = true ∧ okW s v k 16 = true ∧ okW s' v' k' 16 = true ∧ tmt [] s v k s' v' k' = some bs) := by
  unfold maR at h
  split at h
  · rename_i hc
    cases ht : tmt [] s v k s' v' k' with
    | none => rw [ht] at h; simp only [Prod.mk.injEq] at h; exact .inl ⟨h.2.symm, h.1.symm⟩
    | some b =>
      rw [ht] at h
      simp only [Prod.mk.injEq] at h
      exact .inr ⟨h.2.symm, hc.1, hc.2, by rw [h.1]⟩
  · simp only [Prod.mk.injEq] at h; exact .inl ⟨h.2.symm, h.1.symm⟩
theorem maR_of {s v : Int} {k : Fo} {s' v' : Int} {k' : Fo} {bs : List Bd} (h1 : okW s v k 16 = true) (h2 : okW s' v' k' 16 = true) (h3 : tmt [] s v k s' v' k' = some bs) : maR s v k s' v' k' = (bs, true) := by
  unfold maR
  rw [if_pos ⟨h1, h2⟩, h3]
theorem maR_no {s v : Int} {k : Fo} {s' v' : Int} {k' : Fo} (h3 : tmt [] s v k s' v' k' = none) : maR s v k s' v' k' = ([], false) := by
  unfold maR
  rw [h3]; split <;> rfl
/-- What is known of an answer. -/
theorem maR_in {s v : Int} {k : Fo} {s' v' : Int} {k' : Fo} {bs : List Bd} {t : Bool} (h : maR s v k s' v' k' = (bs, t)) : Asc bs ∧ Bof bs 15 ∧ bs.length ≤ 16 ∧ (∀ x, (sv bs x).isSome = true → 0 ≤ x ∧ x ≤ 11) ∧ sok 16 bs = true := by
  rcases maR_cases h with ⟨_, rfl⟩ | ⟨_, h1, h2, h3⟩
  · exact ⟨List.Pairwise.nil, Bof.nil _, by simp, fun x h => by simp [sv] at h, rfl⟩
  · obtain ⟨o1, o2, o3⟩ := (okW_iff _ _ _ _).1 h1
    obtain ⟨p1, p2, p3⟩ := (okW_iff _ _ _ _).1 h2
    have g1 := tmt_asc h3 List.Pairwise.nil
    have g2 := tmt_of (M := 15) h3 (Bof.nil _) p1 p2 (by omega)
    have g3 := tmt_blen h3
    have g4 : ∀ x, (sv bs x).isSome = true → 0 ≤ x ∧ x ≤ 11 := fun x hx => by
      rcases (tmt_dom h3 x).1 hx with h | h
      · simp [sv] at h
      · exact fvs_in h1 x h
    exact ⟨g1, g2, by simp at g3; omega, g4, sok_of g1 g4 g2⟩
end Go.Proofs.Ytoafleckcjanaaa

/-! PF2: Rows of rows of the call's own, each row in blocks of its own. Definitions and plain lemmas. -/
namespace Go.Proofs.Ytoafleckcjanaaa
open Go.RowKit Go.Deep

/-- A row of numbers of one's own, in blocks from L on below H. -/
structure RwF (w : World) (L H : Nat) (a : Option Addr) (c : Nat) (r : List Int) : Prop where
  own : IOwn w L r a c
  hi : ∀ g, (Value.slice a r.length c).ownBlock = some g → g < H
theorem RwF.same {w w2 : World} {L H : Nat} {a : Option Addr} {c : Nat} {r : List Int} (h : RwF w L H a c r) (hs : ∀ b, L ≤ b → b < H → w2.heap[b]? = w.heap[b]?) : RwF w2 L H a c r := by
  refine ⟨⟨h.own.1, ?_⟩, h.hi⟩
  rcases h.own.2 with h2 | ⟨g, cap, cur, h3, h4, h5, h6⟩
  · exact .inl h2
  · have hg : g < H := h.hi g (by rw [h3]; rfl)
    exact .inr ⟨g, cap, cur, h3, h4, by rw [hs g h4 hg]; exact h5, h6⟩
theorem RwF.sc {w : World} {L H : Nat} {a : Option Addr} {c : Nat} {r : List Int} (h : RwF w L H a c r) : ISc w L H a c r := by
  refine ⟨?_, (isc_of_own h.own).2⟩
  rcases Nat.eq_zero_or_pos r.length with h0 | h0
  · exact .inl (List.eq_nil_of_length_eq_zero h0)
  · obtain ⟨g, cap, hv, hb, hlt⟩ := h.own.form h0
    have hg : g < H := h.hi g (by rw [hv]; rfl)
    rcases h.own.sl with h1 | ⟨b, o, e, h1, h2, h3⟩
    · exact .inl h1
    · simp only [Value.slice.injEq] at hv
      rw [hv.1] at e
      simp only [Option.some.injEq, Addr.mk.injEq] at e
      refine .inr ⟨b, o, by rw [hv.1]; simp [e.1, e.2.1], h1, by omega, h3⟩

/-- The rows lie in row (A, C), row i from block lo i on below hi i, one behind the other. -/
structure RF (w : World) (base : Nat) (rows : List (List Int)) (A : Option Addr) (C : Nat) (xs : List Value) (lo hi : Nat → Nat) : Prop where
  own : w.ownsRow base 26 1 (.slice A rows.length C) rows.length xs
  up : ∀ i j, i < j → j < rows.length → hi i ≤ lo j
  at_ : ∀ (i : Nat) (r : List Int), rows[i]? = some r → ∃ a' c', xs[i]? = some (Value.slice a' r.length c') ∧ RwF w (lo i) (hi i) a' c' r ∧ base ≤ lo i ∧ hi i ≤ w.heap.size ∧ (∀ g, (Value.slice A rows.length C).ownBlock = some g → g < lo i ∨ hi i ≤ g)
def ROwnF (w : World) (base : Nat) (rows : List (List Int)) (A : Option Addr) (C : Nat) : Prop := ∃ xs lo hi, RF w base rows A C xs lo hi
theorem RF.all {w : World} {base : Nat} {rows : List (List Int)} {A : Option Addr} {C : Nat} {xs : List Value} {lo hi : Nat → Nat} (h : RF w base rows A C xs lo hi) :
    ∀ (i : Nat) (r : List Int), rows[i]? = some r → ∃ a' c' L H, xs[i]? = some (Value.slice a' r.length c') ∧ ISc w L H a' c' r ∧ base ≤ L ∧ H ≤ w.heap.size ∧ (∀ g, (Value.slice A rows.length C).ownBlock = some g → g < L ∨ H ≤ g) := fun i r hr => by
  obtain ⟨a', c', hx, hw, h1, h2, h3⟩ := h.at_ i r hr
  exact ⟨a', c', lo i, hi i, hx, hw.sc, h1, h2, h3⟩
theorem ROwnF.to {w : World} {base : Nat} {rows : List (List Int)} {A : Option Addr} {C : Nat} (h : ROwnF w base rows A C) : ROwn w base rows A C := by
  obtain ⟨xs, lo, hi, h⟩ := h
  exact ⟨xs, h.own, h.all⟩
theorem RF.low {w w2 : World} {base base' : Nat} {rows : List (List Int)} {A : Option Addr} {C : Nat} {xs : List Value} {lo hi : Nat → Nat} (h : RF w base rows A C xs lo hi) (hb : Below w.heap.size w w2) (hbase : base' ≤ base) : RF w2 base' rows A C xs lo hi := by
  refine ⟨own_base hbase (own_low hb h.own), h.up, fun i r hr => ?_⟩
  obtain ⟨a', c', hx, hw, h1, h2, h3⟩ := h.at_ i r hr
  exact ⟨a', c', hx, hw.same (fun b _ hb' => hb.block b (by omega)), by omega, Nat.le_trans h2 hb.size, h3⟩
theorem ROwnF.low {w w2 : World} {base base' : Nat} {rows : List (List Int)} {A : Option Addr} {C : Nat} (h : ROwnF w base rows A C) (hb : Below w.heap.size w w2) (hbase : base' ≤ base) : ROwnF w2 base' rows A C := by
  obtain ⟨xs, lo, hi, h⟩ := h
  exact ⟨xs, lo, hi, h.low hb hbase⟩
/-- One more row is appended. -/
theorem RF.append {w w2 w3 : World} {base : Nat} {rows : List (List Int)} {A A' : Option Addr} {C C' : Nat} {blk : Obj} {r : List Int} {a2 : Option Addr} {c2 : Nat} {xs : List Value} {lo hi : Nat → Nat} (h : RF w base rows A C xs lo hi)
    (hown3 : w3.ownsRow base 26 1 (.slice A' (rows.length + 1) C') (rows.length + 1) (xs ++ [.slice a2 r.length c2])) (hb2 : Below w.heap.size w w2) (hi2 : IOwn w2 w.heap.size r a2 c2) (hbase : base ≤ w.heap.size)
    (hgrow : (w2.alloc blk).grownBy w3 (Value.slice A rows.length C).ownBlock) (hat : (Value.slice A' (rows.length + 1) C').ownBlock = (Value.slice A rows.length C).ownBlock ∨ (Value.slice A' (rows.length + 1) C').ownBlock = some (w2.heap.size + 1)) : ROwnF w3 base (rows ++ [r]) A' C' := by
  have hs2 := hb2.size
  have hs3 := hgrow.size
  simp at hs3
  have hxl : xs.length = rows.length := by have := h.own.1; omega
  have hl : (rows ++ [r]).length = rows.length + 1 := by simp
  refine ⟨xs ++ [.slice a2 r.length c2], fun i => if i < rows.length then lo i else w.heap.size, fun i => if i < rows.length then hi i else w2.heap.size, by rw [hl]; exact hown3, fun i j hij hj => ?_, fun i r' hr => ?_⟩
  · rw [hl] at hj
    rw [if_pos (by omega)]
    split
    · exact h.up i j hij (by omega)
    · obtain ⟨a', c', _, _, _, h2, _⟩ := h.at_ i rows[i] (List.getElem?_eq_getElem (by omega))
      exact h2
  have hcond : ∀ {L H : Nat}, (∀ g, (Value.slice A rows.length C).ownBlock = some g → g < L ∨ H ≤ g) → H ≤ w2.heap.size → ∀ g', (Value.slice A' (rows.length + 1) C').ownBlock = some g' → g' < L ∨ H ≤ g' := fun hg hH g' hg' => by
    rcases hat with h1 | h1
    · exact hg g' (by rw [← h1]; exact hg')
    · rw [h1] at hg'; simp at hg'; omega
  by_cases hi' : i < rows.length
  · rw [List.getElem?_append_left hi'] at hr
    obtain ⟨a', c', hx, hsl, hL, hH, hg⟩ := h.at_ i r' hr
    simp only [if_pos hi']
    refine ⟨a', c', by rw [List.getElem?_append_left (by omega)]; exact hx, hsl.same (fun b h1 h2 => ?_), hL, by omega, by rw [hl]; exact hcond hg (by omega)⟩
    rw [hgrow.block b (by simp; omega) (fun e => by have := hg b e.symm; omega), Below.heap_alloc _ _ _ (by omega), hb2.block b (by omega)]
  · have hir : i = rows.length := by
      have := (List.getElem?_eq_some_iff.1 hr).1
      simp at this
      omega
    subst hir
    simp at hr
    subst hr
    simp only [if_neg hi']
    refine ⟨a2, c2, by rw [← hxl]; simp, RwF.same ⟨hi2, fun g hg => (hi2.lt g hg).2⟩ (fun b h1 h2 => ?_), hbase, by omega, by rw [hl]; exact hcond (fun g hg => .inl (h.own.lt _ hg).2) (Nat.le_refl _)⟩
    rw [hgrow.block b (by simp; omega) (fun e => by have := (h.own.lt b e.symm).2; omega), Below.heap_alloc _ _ _ (by omega)]

/-- The first row: the root's own. -/
theorem rownF_start {w w3 : World} (hb : Below ((w.alloc (.cells #[] 3)).alloc (.cells #[.slice (some ⟨w.heap.size, 0, none⟩) 0 0] 26)).heap.size ((w.alloc (.cells #[] 3)).alloc (.cells #[.slice (some ⟨w.heap.size, 0, none⟩) 0 0] 26)) w3) :
    ROwnF w3 w.heap.size [[]] (some ⟨w.heap.size + 1, 0, none⟩) 1 := by
  refine ROwnF.low (w := (w.alloc (.cells #[] 3)).alloc (.cells #[.slice (some ⟨w.heap.size, 0, none⟩) 0 0] 26)) ⟨[.slice (some ⟨w.heap.size, 0, none⟩) 0 0], fun _ => w.heap.size, fun _ => w.heap.size + 1, ⟨rfl, .inr ⟨w.heap.size + 1, 1, #[.slice (some ⟨w.heap.size, 0, none⟩) 0 0], rfl, by omega, ?_, Nat.le_refl _, by decide, rfl, rfl⟩⟩, fun i j h1 h2 => ?_, fun i r hr => ?_⟩ hb (Nat.le_refl _)
  · have := heap_alloc_new (w.alloc (.cells #[] 3)) (.cells #[.slice (some ⟨w.heap.size, 0, none⟩) 0 0] 26)
    simpa using this
  · simp at h2; omega
  · have hi : i = 0 := by
      have := (List.getElem?_eq_some_iff.1 hr).1
      simp at this
      exact this
    subst hi
    simp at hr
    subst hr
    refine ⟨_, 0, rfl, ⟨⟨rfl, .inr ⟨w.heap.size, 0, #[], rfl, Nat.le_refl _, ?_, Nat.le_refl _, by decide, rfl, rfl⟩⟩, fun g hg => by simp [Value.ownBlock] at hg; omega⟩, Nat.le_refl _, by simp, fun g hg => .inr (by simp [Value.ownBlock] at hg; omega)⟩
    rw [Below.heap_alloc _ _ _ (by simp)]
    exact heap_alloc_new _ _
end Go.Proofs.Ytoafleckcjanaaa
