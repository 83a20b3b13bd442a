/- Several texts in one: DT, T0, T4, TE, LT, SHt. -/
import Derived.Test.YtkmfnhoeigoajabKVar11
import Derived.Test.YtkmfnhoeigoajabKVar2
import Derived.Test.YtkmfnhoeigoajabKVar4
import Derived.Lib.Join
import Derived.Lib.ItoaNum
import Derived.Test.YtkmfnhoeigoajabProg
import Derived.Shelf.Strconv.Itoa3
import Derived.Shelf.Strings.OnBuilder
import Derived.Ground.NamesProg

/-! DT: DrawTermText. -/
namespace Go.Proofs.Ytkmfnhoeigoajab
open Go.RowKit Go.Deep

set_option maxRecDepth 100000 in
set_option maxHeartbeats 1000000 in
theorem DrawTermText_any (a : Option Addr) (len cap : Nat) (w : World) (hby : Bytes w a len) (hlen : len ≤ cap) :
    Calls Try.prog 21 #[.slice a len cap] w (TermPost 31000 w) := by
  have HBY := Lib.hid hby
  clear hby
  go_enter Try.func21, Try.ntmps21
  go_wp2_with fail
  with_reducible refine (DrawTermVars_any a len cap _ (HBY.out.alloc _) hlen).mono ?_
  rintro e w4 ⟨s4, v4, a4, c4, k4, rfl, hS4, hb4, hl4⟩
  have hb4' : Below (w.heap.size + 1) (w.alloc (.cells #[.int .i64 0, .int .i64 0, .slice none 0 0] 25)) w4 := hb4.mono (by simp)
  have HB4 := Lib.hid hb4'
  obtain ⟨hr0, hr1, hr2, hf0, hf1, hf2⟩ := res_low hb4'
  have HL4 := Lib.hid (hl4.mono (lo' := w.heap.size + 1) (by simp) (Nat.le_refl _))
  clear hl4 hb4 hb4'
  go_wp2_with fail
  refine bodyPost_ret (v := .agg #[.int .i64 s4, .int .i64 v4, .slice a4 (flen k4) c4]) ?_ rfl (term_end HB4.out hS4 HL4.out)
  simp [results, Try.results21, go_sem, hr0, hr1, hr2]
end Go.Proofs.Ytkmfnhoeigoajab

/-! T0: The text of a term, as plain data. Definitions and plain lemmas. -/
namespace Go.Proofs.Ytkmfnhoeigoajab
open Go.RowKit Go.Deep

def ltr (s : Int) : List UInt8 := if s = 1 then [97] else if s = 2 then [98] else if s = 3 then [103] else [102]
def tx1 (s v : Int) (ks : List (List UInt8)) : List UInt8 :=
  if s = 0 then 120 :: Lib.decDigits v.toNat else if ks = [] then ltr s else ltr s ++ ([40] ++ (Lib.join ks [44] ++ [41]))
/-- The texts of a list of terms. -/
def fts : Fo → List (List UInt8)
  | .nil => []
  | .node _ _ p k r => tx1 p.1 p.2 (fts k) :: fts r
/-- The text of a term. -/
def tx (s v : Int) (k : Fo) : List UInt8 := tx1 s v (fts k)
def str (l : List UInt8) : ByteArray := ⟨l.toArray⟩

theorem fts_len : ∀ k : Fo, (fts k).length = flen k
  | .nil => rfl
  | .node _ _ _ _ r => by simp [fts, flen, fts_len r]
theorem fts_nil {k : Fo} : fts k = [] ↔ flen k = 0 := by rw [← fts_len, List.length_eq_zero_iff]
theorem tx_var (v : Int) : tx 0 v .nil = 120 :: Lib.decDigits v.toNat := by simp [tx, tx1]
theorem tx_leaf {s v : Int} {k : Fo} (hs : s ≠ 0) (hk : flen k = 0) : tx s v k = ltr s := by
  unfold tx tx1
  rw [if_neg hs, if_pos (fts_nil.2 hk)]
theorem tx_kids {s v : Int} {k : Fo} (hs : s ≠ 0) (hk : flen k ≠ 0) : tx s v k = ltr s ++ ([40] ++ (Lib.join (fts k) [44] ++ [41])) := by
  unfold tx tx1
  rw [if_neg hs, if_neg fun h => hk (fts_nil.1 h)]
theorem str_add (l m : List UInt8) : str l ++ str m = str (l ++ m) := by
  apply ByteArray.ext
  rw [ByteArray.data_append]
  simp [str]
theorem str_size (l : List UInt8) : (str l).size = l.length := by simp [str, ByteArray.size]

theorem fts_at : ∀ (j : Nat) (k : Fo) {x y : Nat} {s v : Int} {kk r : Fo}, fdrop j k = .node x y (s, v) kk r → (fts k)[j]? = some (tx s v kk)
  | 0, .nil, _, _, _, _, _, _, h => by simp [fdrop] at h
  | 0, .node _ _ p k r, x, y, s, v, kk, r', h => by
    simp only [fdrop, BT.node.injEq] at h
    obtain ⟨_, _, rfl, rfl, _⟩ := h
    rfl
  | _ + 1, .nil, _, _, _, _, _, _, h => by simp [fdrop] at h
  | n + 1, .node _ _ _ _ r, _, _, _, _, _, _, h => by
    simp only [fdrop] at h
    simpa [fts] using fts_at n r h

theorem dec_len {n : Nat} (h : n < 100) : (Lib.decDigits n).length ≤ 2 := by
  unfold Lib.decDigits
  split
  · simp
  · unfold Lib.decDigits
    rw [dif_pos (by omega)]
    simp
theorem ltr_len (s : Int) : (ltr s).length = 1 := by
  unfold ltr
  split
  · rfl
  · split
    · rfl
    · split <;> rfl
def lens (ks : List (List UInt8)) : Nat := (ks.map List.length).sum
theorem join_len : ∀ ks : List (List UInt8), (Lib.join ks [44]).length ≤ lens ks + ks.length
  | [] => by simp [Lib.join_nil]
  | [x] => by simp [Lib.join_one, lens]
  | x :: y :: r => by
    have := join_len (y :: r)
    rw [Lib.join_cons] at this ⊢
    simp only [Lib.joinTail, lens, List.map_cons, List.flatten_cons, List.length_append, List.sum_cons, List.length_cons, List.length_nil] at this ⊢
    omega
/-- Well-formed terms have short texts. -/
theorem fts_short : ∀ k : Fo, fok k = true → lens (fts k) + (fts k).length ≤ 6 * fsz k
  | .nil, _ => by simp [fts, lens]
  | .node x y p k r, h => by
    simp only [fok, Bool.and_eq_true] at h
    have hk := fts_short k h.1.2
    have hr := fts_short r h.2
    have hj := join_len (fts k)
    have hl := ltr_len p.1
    have : (tx1 p.1 p.2 (fts k)).length ≤ 5 + 6 * fsz k := by
      unfold tx1
      split
      · rename_i h0
        have hv := ((okN_iff _ _ _).1 h.1.1).2.1 h0
        have := dec_len (n := p.2.toNat) (by omega)
        simp; omega
      · split
        · omega
        · simp only [List.length_append, List.length_cons, List.length_nil]; omega
    simp only [fts, fsz, lens, List.map_cons, List.sum_cons, List.length_cons] at hr ⊢
    omega
end Go.Proofs.Ytkmfnhoeigoajab

/-! T4: Terms are the same just if their texts are: plain lemmas. -/
namespace Go.Proofs.Ytkmfnhoeigoajab
open Go.RowKit Go.Deep

/-- Terms without the marks of where they were. -/
def fer : Fo → Fo
  | .nil => .nil
  | .node _ _ p k r => .node 0 0 p (fer k) (fer r)

theorem fo_none {k : Fo} (h : flen k = 0) : k = .nil := by
  cases k with
  | nil => rfl
  | node => simp [flen] at h
theorem fo_one {k : Fo} (h : flen k = 1) : ∃ x y p kk, k = .node x y p kk .nil := by
  cases k with
  | nil => simp [flen] at h
  | node x y p kk r =>
    obtain rfl := fo_none (k := r) (by simp [flen] at h; omega)
    exact ⟨x, y, p, kk, rfl⟩
theorem fo_two {k : Fo} (h : flen k = 2) : ∃ x y p kk x' y' p' kk', k = .node x y p kk (.node x' y' p' kk' .nil) := by
  cases k with
  | nil => simp [flen] at h
  | node x y p kk r =>
    obtain ⟨x', y', p', kk', rfl⟩ := fo_one (k := r) (by simp [flen] at h; omega)
    exact ⟨x, y, p, kk, x', y', p', kk', rfl⟩

/-- What a well-formed term looks like. -/
inductive Shape : Int → Int → Fo → Prop
  | var (v : Int) (h0 : 0 ≤ v) (h1 : v ≤ 11) : Shape 0 v .nil
  | leaf (s : Int) (h : s = 1 ∨ s = 2) : Shape s 0 .nil
  | one (x y : Nat) (p : Int × Int) (k : Fo) (h : okN p.1 p.2 (flen k) = true) (hk : fok k = true) : Shape 3 0 (.node x y p k .nil)
  | two (x y : Nat) (p : Int × Int) (k : Fo) (x' y' : Nat) (p' : Int × Int) (k' : Fo) (h : okN p.1 p.2 (flen k) = true) (hk : fok k = true) (h' : okN p'.1 p'.2 (flen k') = true) (hk' : fok k' = true) : Shape 4 0 (.node x y p k (.node x' y' p' k' .nil))

theorem shape_of {s v : Int} {k : Fo} (h : okN s v (flen k) = true) (hk : fok k = true) : Shape s v k := by
  obtain ⟨h1, h2, h3⟩ := (okN_iff _ _ _).1 h
  unfold ar at h1
  by_cases h0 : s = 0
  · subst h0
    obtain rfl := fo_none (k := k) (by simp at h1; omega)
    exact .var v (h2 rfl).1 (h2 rfl).2
  · obtain rfl := h3 h0
    split at h1
    · obtain rfl := fo_none (k := k) (by omega)
      exact .leaf s (by omega)
    · split at h1
      · rename_i h3'
        subst h3'
        obtain ⟨x, y, p, kk, rfl⟩ := fo_one (k := k) (by omega)
        simp only [fok, Bool.and_eq_true] at hk
        exact .one x y p kk hk.1.1 hk.1.2
      · split at h1
        · rename_i h4'
          subst h4'
          obtain ⟨x, y, p, kk, x', y', p', kk', rfl⟩ := fo_two (k := k) (by omega)
          simp only [fok, Bool.and_eq_true] at hk
          exact .two x y p kk x' y' p' kk' hk.1.1 hk.1.2 hk.2.1.1 hk.2.1.2
        · omega

/-- It does not begin with a digit. -/
def nd (l : List UInt8) : Prop := ∀ b r, l = b :: r → b.toNat < 48 ∨ 57 < b.toNat
theorem nd_of {b : UInt8} {r : List UInt8} (h : b.toNat < 48 ∨ 57 < b.toNat) : nd (b :: r) := fun b' r' e => by
  obtain ⟨rfl, _⟩ := List.cons.inj e
  exact h
theorem nd_nil : nd [] := fun b r e => by cases e

theorem digit_toNat {n : Nat} (h : n < 10) : (UInt8.ofNat (48 + n)).toNat = 48 + n := by
  simp [UInt8.toNat_ofNat]
  omega
theorem dec_small {n : Nat} (h : n < 10) : Lib.decDigits n = [UInt8.ofNat (48 + n)] := by
  unfold Lib.decDigits
  rw [dif_pos h]
theorem dec_great {n : Nat} (h : 10 ≤ n) (h1 : n < 20) : Lib.decDigits n = [UInt8.ofNat (48 + 1), UInt8.ofNat (48 + (n - 10))] := by
  unfold Lib.decDigits
  rw [dif_neg (by omega), show n / 10 = 1 from by omega, dec_small (by omega), show n % 10 = n - 10 from by omega]
  rfl
theorem dec_inj {m n : Nat} {r r' : List UInt8} (hm : m < 12) (hn : n < 12) (hr : nd r) (hr' : nd r') (h : Lib.decDigits m ++ r = Lib.decDigits n ++ r') : m = n ∧ r = r' := by
  by_cases h1 : m < 10
  · rw [dec_small h1] at h
    by_cases h2 : n < 10
    · rw [dec_small h2] at h
      obtain ⟨e1, e2⟩ := List.cons.inj h
      have := congrArg UInt8.toNat e1
      rw [digit_toNat h1, digit_toNat h2] at this
      exact ⟨by omega, e2⟩
    · rw [dec_great (by omega) (by omega)] at h
      obtain ⟨_, e2⟩ := List.cons.inj h
      have := hr _ _ e2
      rw [digit_toNat (by omega)] at this
      omega
  · rw [dec_great (by omega) (by omega)] at h
    by_cases h2 : n < 10
    · rw [dec_small h2] at h
      obtain ⟨_, e2⟩ := List.cons.inj h
      have := hr' _ _ e2.symm
      rw [digit_toNat (by omega)] at this
      omega
    · rw [dec_great (by omega) (by omega)] at h
      obtain ⟨_, e2⟩ := List.cons.inj h
      obtain ⟨e3, e4⟩ := List.cons.inj e2
      have := congrArg UInt8.toNat e3
      rw [digit_toNat (by omega), digit_toNat (by omega)] at this
      exact ⟨by omega, e4⟩

theorem tx_l1 : tx 1 0 .nil = [97] := rfl
theorem tx_l2 : tx 2 0 .nil = [98] := rfl
theorem tx_one {x y : Nat} {p : Int × Int} {k : Fo} : tx 3 0 (.node x y p k .nil) = 103 :: 40 :: (tx p.1 p.2 k ++ [41]) := by
  rw [tx_kids (by decide) (by simp [flen])]
  simp only [fts, Lib.join_one]
  rfl
theorem tx_two {x y : Nat} {p : Int × Int} {k : Fo} {x' y' : Nat} {p' : Int × Int} {k' : Fo} : tx 4 0 (.node x y p k (.node x' y' p' k' .nil)) = 102 :: 40 :: (tx p.1 p.2 k ++ (44 :: (tx p'.1 p'.2 k' ++ [41]))) := by
  rw [tx_kids (by decide) (by simp [flen])]
  simp only [fts, Lib.join_cons, Lib.joinTail, List.map_cons, List.map_nil, List.flatten_cons, List.flatten_nil]
  simp [ltr, tx]

theorem tx_inj (N : Nat) : ∀ (s v : Int) (k : Fo) (s' v' : Int) (k' : Fo) (r r' : List UInt8), Shape s v k → Shape s' v' k' → fsz k ≤ N → nd r → nd r' → tx s v k ++ r = tx s' v' k' ++ r' → s = s' ∧ v = v' ∧ fer k = fer k' ∧ r = r' := by
  induction N using Nat.strongRecOn with
  | _ N ih =>
    intro s v k s' v' k' r r' h h' hN hr hr' he
    have nd41 : ∀ q, nd (41 :: q) := fun q => nd_of (by decide)
    have nd44 : ∀ q, nd (44 :: q) := fun q => nd_of (by decide)
    cases h with
    | var _ h0 h1 =>
      rw [tx_var] at he
      cases h' with
      | var _ h0' h1' =>
        rw [tx_var] at he
        obtain ⟨e1, e2⟩ := dec_inj (by omega) (by omega) hr hr' (List.cons.inj he).2
        exact ⟨rfl, by omega, rfl, e2⟩
      | leaf _ hs =>
        rcases hs with rfl | rfl
        · simp [tx_l1] at he
        · simp [tx_l2] at he
      | one => rw [tx_one] at he; simp at he
      | two => rw [tx_two] at he; simp at he
    | leaf _ hs =>
      cases h' with
      | var _ h0' h1' =>
        rw [tx_var] at he
        rcases hs with rfl | rfl
        · simp [tx_l1] at he
        · simp [tx_l2] at he
      | leaf _ hs' =>
        rcases hs with rfl | rfl <;> rcases hs' with rfl | rfl
        all_goals simp [tx_l1, tx_l2] at he
        all_goals exact ⟨rfl, rfl, rfl, he⟩
      | one =>
        rw [tx_one] at he
        rcases hs with rfl | rfl
        · simp [tx_l1] at he
        · simp [tx_l2] at he
      | two =>
        rw [tx_two] at he
        rcases hs with rfl | rfl
        · simp [tx_l1] at he
        · simp [tx_l2] at he
    | one x y p kk ho hk =>
      rw [tx_one] at he
      cases h' with
      | var => rw [tx_var] at he; simp at he
      | leaf _ hs =>
        rcases hs with rfl | rfl
        · simp [tx_l1] at he
        · simp [tx_l2] at he
      | one x' y' p' kk' ho' hk' =>
        rw [tx_one] at he
        simp only [List.append_assoc, List.cons_append, List.nil_append, List.cons.injEq, true_and] at he
        have he2 := he
        obtain ⟨e1, e2, e3, e4⟩ := ih (fsz kk) (by simp [fsz] at hN; omega) p.1 p.2 kk p'.1 p'.2 kk' _ _ (shape_of ho hk) (shape_of ho' hk') (Nat.le_refl _) (nd41 _) (nd41 _) he2
        exact ⟨rfl, rfl, by simp only [fer]; rw [e3, Prod.ext e1 e2], (List.cons.inj e4).2⟩
      | two => rw [tx_two] at he; simp at he
    | two x y p kk x2 y2 p2 kk2 ho hk ho2 hk2 =>
      rw [tx_two] at he
      cases h' with
      | var => rw [tx_var] at he; simp at he
      | leaf _ hs =>
        rcases hs with rfl | rfl
        · simp [tx_l1] at he
        · simp [tx_l2] at he
      | one => rw [tx_one] at he; simp at he
      | two x' y' p' kk' x2' y2' p2' kk2' ho' hk' ho2' hk2' =>
        rw [tx_two] at he
        simp only [List.append_assoc, List.cons_append, List.nil_append, List.cons.injEq, true_and] at he
        have he2 := he
        simp only [fsz] at hN
        obtain ⟨e1, e2, e3, e4⟩ := ih (fsz kk) (by omega) p.1 p.2 kk p'.1 p'.2 kk' _ _ (shape_of ho hk) (shape_of ho' hk') (Nat.le_refl _) (nd44 _) (nd44 _) he2
        obtain ⟨f1, f2, f3, f4⟩ := ih (fsz kk2) (by omega) p2.1 p2.2 kk2 p2'.1 p2'.2 kk2' _ _ (shape_of ho2 hk2) (shape_of ho2' hk2') (Nat.le_refl _) (nd41 _) (nd41 _) (List.cons.inj e4).2
        exact ⟨rfl, rfl, by simp only [fer]; rw [e3, Prod.ext e1 e2, f3, Prod.ext f1 f2], (List.cons.inj f4).2⟩

/-- Equal texts, equal terms. -/
theorem tx_inj' {s v : Int} {k : Fo} {s' v' : Int} {k' : Fo} (h : Shape s v k) (h' : Shape s' v' k') (he : tx s v k = tx s' v' k') : s = s' ∧ v = v' ∧ fer k = fer k' := by
  obtain ⟨h1, h2, h3, _⟩ := tx_inj (fsz k) s v k s' v' k' [] [] h h' (Nat.le_refl _) nd_nil nd_nil (by rw [he])
  exact ⟨h1, h2, h3⟩
theorem fts_fer : ∀ k : Fo, fts (fer k) = fts k
  | .nil => rfl
  | .node _ _ p k r => by simp only [fer, fts, fts_fer k, fts_fer r]
theorem tx_same {s v : Int} {k k' : Fo} (h : fer k = fer k') : tx s v k = tx s v k' := by
  unfold tx
  rw [← fts_fer k, h, fts_fer k']
end Go.Proofs.Ytkmfnhoeigoajab

/-! TE: Terms compared: plain lemmas. -/
namespace Go.Proofs.Ytkmfnhoeigoajab
open Go.RowKit Go.Deep

def feq : Fo → Fo → Bool
  | .nil, .nil => true
  | .node _ _ p k r, .node _ _ p' k' r' => decide (p = p') && (feq k k' && feq r r')
  | _, _ => false
/-- The same term. -/
def teq (s v : Int) (k : Fo) (s' v' : Int) (k' : Fo) : Bool := decide (s = s') && (decide (v = v') && feq k k')
theorem feq_iff : ∀ k k' : Fo, feq k k' = true ↔ fer k = fer k'
  | .nil, .nil => by simp [feq, fer]
  | .nil, .node _ _ _ _ _ => by simp [feq, fer]
  | .node _ _ _ _ _, .nil => by simp [feq, fer]
  | .node _ _ p k r, .node _ _ p' k' r' => by
    simp only [feq, fer, Bool.and_eq_true, decide_eq_true_eq, feq_iff k k', feq_iff r r', BT.node.injEq, true_and]
theorem feq_len : ∀ {k k' : Fo}, feq k k' = true → flen k = flen k'
  | .nil, .nil, _ => rfl
  | .nil, .node _ _ _ _ _, h => by simp [feq] at h
  | .node _ _ _ _ _, .nil, h => by simp [feq] at h
  | .node _ _ p k r, .node _ _ p' k' r', h => by
    simp only [feq, Bool.and_eq_true] at h
    simp [flen, feq_len h.2.2]
theorem teq_sign {s v : Int} {k : Fo} {s' v' : Int} {k' : Fo} (h : s ≠ s') : teq s v k s' v' k' = false := by simp [teq, h]
theorem teq_var {s v : Int} {k : Fo} {s' v' : Int} {k' : Fo} (h : v ≠ v') : teq s v k s' v' k' = false := by simp [teq, h]
theorem teq_len {s v : Int} {k : Fo} {s' v' : Int} {k' : Fo} (h : flen k ≠ flen k') : teq s v k s' v' k' = false := by
  cases hf : feq k k' with
  | false => simp [teq, hf]
  | true => exact absurd (feq_len hf) h
theorem teq_kids {s v : Int} {k k' : Fo} : teq s v k s v k' = feq k k' := by simp [teq]
theorem feq_drop {k k' : Fo} {j x y x' y' : Nat} {s v s' v' : Int} {kk kk' : Fo} (h : fdrop j k = .node x y (s, v) kk (fdrop (j + 1) k)) (h' : fdrop j k' = .node x' y' (s', v') kk' (fdrop (j + 1) k')) :
    feq (fdrop j k) (fdrop j k') = (teq s v kk s' v' kk' && feq (fdrop (j + 1) k) (fdrop (j + 1) k')) := by
  rw [h, h']
  simp only [feq, teq, Prod.mk.injEq, Bool.and_assoc]
  by_cases h1 : s = s' <;> by_cases h2 : v = v' <;> simp [h1, h2]
theorem teq_iff {s v : Int} {k : Fo} {s' v' : Int} {k' : Fo} : teq s v k s' v' k' = true ↔ s = s' ∧ v = v' ∧ fer k = fer k' := by
  simp only [teq, Bool.and_eq_true, decide_eq_true_eq, feq_iff]
/-- Texts are the same just if the terms are. -/
theorem tx_teq {s v : Int} {k : Fo} {s' v' : Int} {k' : Fo} (h : Shape s v k) (h' : Shape s' v' k') : (tx s v k = tx s' v' k') ↔ teq s v k s' v' k' = true := by
  rw [teq_iff]
  refine ⟨fun he => tx_inj' h h' he, ?_⟩
  rintro ⟨rfl, rfl, he⟩
  exact tx_same he
end Go.Proofs.Ytkmfnhoeigoajab

/-! LT: laTerm on any two terms. -/
namespace Go.Proofs.Ytkmfnhoeigoajab
open Go.RowKit Go.Deep

theorem boxes_LT {w wr : World} {x y z x' y' z' : Value} (h : Below (w.heap.size + 2) ((w.alloc (.cells #[x, y, z] 25)).alloc (.cells #[x', y', z'] 25)) wr) :
    wr.cell? ⟨w.heap.size, 2, none⟩ = some z ∧ wr.cell? ⟨w.heap.size + 1, 2, none⟩ = some z' := by
  refine ⟨?_, ?_⟩
  · rw [h.cell (by simp), World.cell?_alloc_lt _ _ _ (by simp), World.cell?_alloc_at _ _ _ _ (by simp)]; rfl
  · rw [h.cell (by simp), World.cell?_alloc_at _ _ _ _ (by simp)]; rfl

set_option maxRecDepth 100000 in
set_option maxHeartbeats 2000000 in
theorem laTerm_any (N : Nat) : ∀ (s v : Int) (a : Option Addr) (c : Nat) (k : Fo) (s' v' : Int) (a' : Option Addr) (c' : Nat) (k' : Fo) (w : World), Sl w 0 w.heap.size a k → Sl w 0 w.heap.size a' k' → fsz k ≤ N → N ≤ 1000000 →
    Calls Try.prog 12 #[.agg #[.int .i64 s, .int .i64 v, .slice a (flen k) c], .agg #[.int .i64 s', .int .i64 v', .slice a' (flen k') c']] w fun e w' => e = .returned (.bool (teq s v k s' v' k')) ∧ Below w.heap.size w w' := by
  induction N using Nat.strongRecOn with
  | _ N ih =>
    intro s v a c k s' v' a' c' k' w hl hl' hN hN2
    have hfl := flen_le_sz k
    have IH := Lib.hid ih
    clear ih
    have hb0 : Below w.heap.size w ((w.alloc (.cells #[.int .i64 s, .int .i64 v, .slice a (flen k) c] 25)).alloc (.cells #[.int .i64 s', .int .i64 v', .slice a' (flen k') c'] 25)) := ((Below.refl _ _).alloc (Nat.le_refl _) _).alloc (by simp) _
    have HB0 := Lib.hid hb0
    clear hb0
    by_cases hs : s = s'
    case neg =>
      have e0 : (s != s') = true := by simp [hs]
      have HF := Lib.hid (teq_sign (v := v) (k := k) (v' := v') (k' := k') hs)
      clear hs
      go_enter Try.func12, Try.ntmps12
      go_wp2_with fail
      go_ret
      exact ⟨by rw [HF.out]; rfl, HB0.out⟩
    subst hs
    have e0 : (s != s) = false := by simp
    by_cases hv : v = v'
    case neg =>
      have e1 : (v != v') = true := by simp [hv]
      have HF := Lib.hid (teq_var (s := s) (k := k) (s' := s) (k' := k') hv)
      clear hv
      go_enter Try.func12, Try.ntmps12
      go_wp2_with fail
      go_ret
      exact ⟨by rw [HF.out]; rfl, HB0.out⟩
    subst hv
    have e1 : (v != v) = false := by simp
    by_cases hk : flen k = flen k'
    case neg =>
      have e2 : ((flen k : Int) != (flen k' : Int)) = true := by simp; omega
      have HF := Lib.hid (teq_len (s := s) (v := v) (s' := s) (v' := v) hk)
      clear hk
      go_enter Try.func12, Try.ntmps12
      go_wp2_with fail
      go_ret
      exact ⟨by rw [HF.out]; rfl, HB0.out⟩
    have e2 : ((flen k : Int) != (flen k' : Int)) = false := by simp [hk]
    have hkl : flen k ≤ flen k' := by omega
    have hkg : flen k' ≤ flen k := by omega
    clear hk
    rw [teq_kids]
    go_enter Try.func12, Try.ntmps12
    go_wp2_with fail
    go_loopw [5] (fun i wr => ∃ j : Nat, j ≤ flen k ∧ i = .int .i64 j ∧ Hid (feq k k' = feq (fdrop j k) (fdrop j k')) ∧ Below (w.heap.size + 2) ((w.alloc (.cells #[.int .i64 s, .int .i64 v, .slice a (flen k) c] 25)).alloc (.cells #[.int .i64 s, .int .i64 v, .slice a' (flen k') c'] 25)) wr) (fun i _ => flen k - (intOf i).toNat)
    case atStart => exact ⟨0, by omega, rfl, rfl, Below.refl _ _⟩
    case round =>
      obtain ⟨j, hj, rfl, hfe, hbl⟩ := hrel
      have hsr := hbl.size
      simp at hsr
      obtain ⟨hx2, hy2⟩ := boxes_LT hbl
      have hbw := HB0.out.trans (hbl.mono (show w.heap.size ≤ w.heap.size + 2 by omega))
      by_cases hlt : j < flen k
      · rcases hl with rfl | ⟨b, o, rfl, hrow⟩
        · simp [flen] at hlt
        rcases hl' with rfl | ⟨b', o', rfl, hrow'⟩
        · simp [flen] at hkl; omega
        obtain ⟨s1, v1, kk, a1, c1, ⟨x, y, hd⟩, _, hbB, hk0, hk1, hk2, hsl⟩ := row_at (hrow.below hbw) hlt
        obtain ⟨s2, v2, kk2, a2, c2, ⟨x2, y2, hd2⟩, _, hbB', hk3, hk4, hk5, hsl2⟩ := row_at (hrow'.below hbw) (show j < flen k' by omega)
        have hfd := feq_drop hd hd2
        have hkN := fsz_kid hd
        have HS := Lib.hid hsl
        have HS2 := Lib.hid hsl2
        have HBL := Lib.hid hbl
        clear hd hd2 hsl hsl2 hrow hrow' hbl hbw
        have g1 : (0 : Int) ≤ (j : Int) := by omega
        have g2 : (j : Int) < (flen k : Int) := by omega
        have g3 : (j : Int) < (flen k' : Int) := by omega
        have hu0 : ∀ u : After wr.heap.size wr, u.world.cell? ⟨b, o + j * 3, none⟩ = some (.int .i64 s1) := fun u => u.cell (by simp; omega) hk0
        have hu1 : ∀ u : After wr.heap.size wr, u.world.cell? ⟨b, o + j * 3 + 1, none⟩ = some (.int .i64 v1) := fun u => u.cell (by simp; omega) hk1
        have hu2 : ∀ u : After wr.heap.size wr, u.world.cell? ⟨b, o + j * 3 + 2, none⟩ = some (.slice a1 (flen kk) c1) := fun u => u.cell (by simp; omega) hk2
        have hu3 : ∀ u : After wr.heap.size wr, u.world.cell? ⟨b', o' + j * 3, none⟩ = some (.int .i64 s2) := fun u => u.cell (by simp; omega) hk3
        have hu4 : ∀ u : After wr.heap.size wr, u.world.cell? ⟨b', o' + j * 3 + 1, none⟩ = some (.int .i64 v2) := fun u => u.cell (by simp; omega) hk4
        have hu5 : ∀ u : After wr.heap.size wr, u.world.cell? ⟨b', o' + j * 3 + 2, none⟩ = some (.slice a2 (flen kk2) c2) := fun u => u.cell (by simp; omega) hk5
        have hu6 : ∀ u : After wr.heap.size wr, u.world.cell? ⟨w.heap.size, 2, none⟩ = some (.slice (some ⟨b, o, none⟩) (flen k) c) := fun u => u.cell (by simp; omega) hx2
        have hu7 : ∀ u : After wr.heap.size wr, u.world.cell? ⟨w.heap.size + 1, 2, none⟩ = some (.slice (some ⟨b', o', none⟩) (flen k') c') := fun u => u.cell (by simp; omega) hy2
        have HCALL : Hid (∀ u : After wr.heap.size wr, Calls Try.prog 12 #[.agg #[.int .i64 s1, .int .i64 v1, .slice a1 (flen kk) c1], .agg #[.int .i64 s2, .int .i64 v2, .slice a2 (flen kk2) c2]] u.world fun e w' => e = .returned (.bool (teq s1 v1 kk s2 v2 kk2)) ∧ Below u.world.heap.size u.world w') := fun u => by
          have hu := u.below
          have hus := hu.size
          refine IH.out (fsz kk) (by omega) s1 v1 a1 c1 kk s2 v2 a2 c2 kk2 u.world ?_ ?_ (Nat.le_refl _) (by omega)
          · exact (HS.out.below (hu.mono (by omega))).mono (Nat.le_refl _) (by omega)
          · exact (HS2.out.below (hu.mono (by omega))).mono (Nat.le_refl _) (by omega)
        cases hte : teq s1 v1 kk s2 v2 kk2 with
        | true =>
          have HFE : Hid (feq k k' = feq (fdrop (j + 1) k) (fdrop (j + 1) k')) := by unfold Hid; rw [hfe.out, hfd, hte, Bool.true_and]
          rw [hte] at HCALL
          clear hfe hfd hte
          go_wp2_with fail
          refine wp_region_after wr.heap.size (by kernel_rfl) (by kernel_rfl) ?_
          repeat (go_big_quiet_step ((go_at_call 12; exact Calls.after (After.below ‹_›).size (HCALL.out _))))
          refine wpQuiet_nil ?_
          rintro u ⟨⟨_, hu⟩, rfl⟩
          clear hu0 hu1 hu2 hu3 hu4 hu5 hu6 hu7 hk0 hk1 hk2 hk3 hk4 hk5 hx2 hy2
          have HB2 := Lib.hid (HBL.out.trans (hu.mono hsr))
          clear hu
          go_wp2_with fail
          go_roundw
          case rel => exact ⟨j + 1, by omega, by go_num, HFE, HB2.out⟩
          case measure => simp [intOf]; omega
        | false =>
          have HFE : Hid (feq k k' = false) := by unfold Hid; rw [hfe.out, hfd, hte, Bool.false_and]
          rw [hte] at HCALL
          clear hfe hfd hte
          go_wp2_with fail
          refine wp_region_after wr.heap.size (by kernel_rfl) (by kernel_rfl) ?_
          repeat (go_big_quiet_step ((go_at_call 12; exact Calls.after (After.below ‹_›).size (HCALL.out _))))
          refine wpQuiet_nil ?_
          rintro u ⟨⟨_, hu⟩, rfl⟩
          clear hu0 hu1 hu2 hu3 hu4 hu5 hu6 hu7 hk0 hk1 hk2 hk3 hk4 hk5 hx2 hy2
          have HB2 := Lib.hid (HB0.out.trans ((HBL.out.trans (hu.mono hsr)).mono (by omega)))
          clear hu
          go_wp2_with fail
          go_ret
          exact ⟨by rw [HFE.out]; rfl, HB2.out⟩
      · have HBW := Lib.hid hbw
        have HFE : Hid (feq k k' = true) := by unfold Hid; rw [hfe.out, fdrop_all (by omega), fdrop_all (by omega)]; rfl
        clear hbw hbl hfe
        go_wp2_with fail
        go_ret
        exact ⟨by rw [HFE.out]; rfl, HBW.out⟩
end Go.Proofs.Ytkmfnhoeigoajab

/-! SHt: The contracts of strconv.Itoa and strings.Builder at this program. -/
namespace Go.Proofs
open Go.Shelf
def Try.lays171_ren : Go.Shelf.Ren := ⟨fun | 171 => 117 | 243 => 118 | 246 => 119 | 283 => 120 | 284 => 121 | 285 => 122 | 286 => 123 | 129 => 80 | 317 => 124 | 318 => 125 | 319 => 126 | 320 => 127 | 337 => 128 | 338 => 129 | n => n, fun | 3 => 3 | 9 => 9 | 2 => 2 | 4 => 4 | 171 => 147 | 0 => 0 | 53 => 111 | 37 => 22 | 5 => 5 | 173 => 149 | 212 => 152 | 51 => 109 | 20 => 20 | 213 => 153 | 46 => 93 | 232 => 154 | 233 => 155 | n => n, fun | 17 => 1 | 18 => 2 | 19 => 3 | n => n⟩
theorem Try.lays171 : Go.Proofs.Lays.n171 Try.prog Try.lays171_ren := {
  mixed := by kernel_rfl
  f129 := Try.func80.trans (congrArg some (by kernel_rfl))
  f171 := Try.func117.trans (congrArg some (by kernel_rfl))
  f243 := Try.func118.trans (congrArg some (by kernel_rfl))
  f246 := Try.func119.trans (congrArg some (by kernel_rfl))
  f283 := Try.func120.trans (congrArg some (by kernel_rfl))
  f284 := Try.func121.trans (congrArg some (by kernel_rfl))
  f285 := Try.func122.trans (congrArg some (by kernel_rfl))
  f286 := Try.func123.trans (congrArg some (by kernel_rfl))
  f317 := Try.func124.trans (congrArg some (by kernel_rfl))
  f318 := Try.func125.trans (congrArg some (by kernel_rfl))
  f319 := Try.func126.trans (congrArg some (by kernel_rfl))
  f320 := Try.func127.trans (congrArg some (by kernel_rfl))
  f337 := Try.func128.trans (congrArg some (by kernel_rfl))
  f338 := Try.func129.trans (congrArg some (by kernel_rfl))
  t0 := Try.underlying0
  a0 := Try.isAgg0
  z0 := Try.sizeOf0
  v0 := Try.zeroValue0
  t2 := Try.underlying2
  a2 := Try.isAgg2
  z2 := Try.sizeOf2
  v2 := Try.zeroValue2
  t3 := Try.underlying3
  a3 := Try.isAgg3
  z3 := Try.sizeOf3
  v3 := Try.zeroValue3
  t4 := Try.underlying4
  a4 := Try.isAgg4
  z4 := Try.sizeOf4
  v4 := Try.zeroValue4
  t5 := Try.underlying5
  a5 := Try.isAgg5
  z5 := Try.sizeOf5
  v5 := Try.zeroValue5
  t9 := Try.underlying9
  a9 := Try.isAgg9
  z9 := Try.sizeOf9
  v9 := Try.zeroValue9
  t20 := Try.underlying20
  a20 := Try.isAgg20
  z20 := Try.sizeOf20
  v20 := Try.zeroValue20
  t37 := Try.underlying22
  a37 := Try.isAgg22
  z37 := Try.sizeOf22
  v37 := Try.zeroValue22
  t46 := Try.underlying93
  a46 := Try.isAgg93
  z46 := Try.sizeOf93
  v46 := Try.zeroValue93
  t51 := Try.underlying109
  a51 := Try.isAgg109
  z51 := Try.sizeOf109
  v51 := Try.zeroValue109
  t53 := Try.underlying111
  a53 := Try.isAgg111
  z53 := Try.sizeOf111
  v53 := Try.zeroValue111
  t171 := Try.underlying147
  a171 := Try.isAgg147
  z171 := Try.sizeOf147
  v171 := Try.zeroValue147
  t173 := Try.underlying149
  a173 := Try.isAgg149
  z173 := Try.sizeOf149
  v173 := Try.zeroValue149
  t212 := Try.underlying152
  a212 := Try.isAgg152
  z212 := Try.sizeOf152
  v212 := Try.zeroValue152
  t213 := Try.underlying153
  a213 := Try.isAgg153
  z213 := Try.sizeOf153
  t232 := Try.underlying154
  a232 := Try.isAgg154
  z232 := Try.sizeOf154
  v232 := Try.zeroValue154
  t233 := Try.underlying155
  a233 := Try.isAgg155
  z233 := Try.sizeOf155
  v233 := Try.zeroValue155
  g17 := by kernel_rfl
  g18 := by kernel_rfl
  g19 := by kernel_rfl }
def Try.lays156_ren : Go.Shelf.Ren := ⟨fun | 156 => 106 | 165 => 107 | 166 => 108 | 169 => 109 | 240 => 110 | 241 => 111 | 276 => 112 | 277 => 113 | n => n, fun | 31 => 98 | 9 => 9 | 3 => 3 | 4 => 4 | 0 => 0 | 20 => 20 | 72 => 137 | 76 => 141 | 70 => 135 | 37 => 22 | 75 => 140 | 127 => 129 | 164 => 143 | 5 => 5 | 80 => 73 | n => n, fun | n => n⟩
theorem Try.lays156 : Go.Proofs.Lays.n156 Try.prog Try.lays156_ren := {
  mixed := by kernel_rfl
  f156 := Try.func106.trans (congrArg some (by kernel_rfl))
  f165 := Try.func107.trans (congrArg some (by kernel_rfl))
  f166 := Try.func108.trans (congrArg some (by kernel_rfl))
  f169 := Try.func109.trans (congrArg some (by kernel_rfl))
  f240 := Try.func110.trans (congrArg some (by kernel_rfl))
  f241 := Try.func111.trans (congrArg some (by kernel_rfl))
  f276 := Try.func112.trans (congrArg some (by kernel_rfl))
  f277 := Try.func113.trans (congrArg some (by kernel_rfl))
  t0 := Try.underlying0
  a0 := Try.isAgg0
  z0 := Try.sizeOf0
  v0 := Try.zeroValue0
  t3 := Try.underlying3
  a3 := Try.isAgg3
  z3 := Try.sizeOf3
  v3 := Try.zeroValue3
  t4 := Try.underlying4
  a4 := Try.isAgg4
  z4 := Try.sizeOf4
  v4 := Try.zeroValue4
  t9 := Try.underlying9
  a9 := Try.isAgg9
  z9 := Try.sizeOf9
  v9 := Try.zeroValue9
  t20 := Try.underlying20
  a20 := Try.isAgg20
  z20 := Try.sizeOf20
  v20 := Try.zeroValue20
  t31 := Try.underlying98
  a31 := Try.isAgg98
  z31 := Try.sizeOf98
  v31 := Try.zeroValue98
  t37 := Try.underlying22
  a37 := Try.isAgg22
  z37 := Try.sizeOf22
  v37 := Try.zeroValue22
  t70 := Try.underlying135
  a70 := Try.isAgg135
  z70 := Try.sizeOf135
  v70 := Try.zeroValue135
  t72 := Try.underlying137
  a72 := Try.isAgg137
  z72 := Try.sizeOf137
  v72 := Try.zeroValue137
  t75 := Try.underlying140
  a75 := Try.isAgg140
  z75 := Try.sizeOf140
  v75 := Try.zeroValue140
  t76 := Try.underlying141
  a76 := Try.isAgg141
  z76 := Try.sizeOf141
  v76 := Try.zeroValue141
  t127 := Try.underlying129
  a127 := Try.isAgg129
  z127 := Try.sizeOf129
  v127 := Try.zeroValue129
  t164 := Try.underlying143
  a164 := Try.isAgg143
  z164 := Try.sizeOf143
  v164 := Try.zeroValue143 }
end Go.Proofs
