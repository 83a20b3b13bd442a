/- The text of a term, as plain data. Definitions and plain lemmas. -/
import Derived.Test.YthbakmdcepoikaaWC
import Derived.Test.YthbakmdcepoikaaFK
import Derived.Lib.Join
import Derived.Lib.ItoaNum
namespace Go.Proofs.Ythbakmdcepoikaa
open Go.RowKit Go.Deep

def ltr (s : Int) : List UInt8 := if s = 1 then [97] else if s = 2 then [98] else if s = 3 then [103] else [102]
def tx1 (s v : Int) (ks : List (List UInt8)) : List UInt8 :=
  if s = 0 then 120 :: Lib.decDigits v.toNat else if ks = [] then ltr s else ltr s ++ ([40] ++ (Lib.join ks [44] ++ [41]))
/-- The texts of a list of terms. -/
def fts : Fo → List (List UInt8)
  | .nil => []
  | .node _ _ p k r => tx1 p.1 p.2 (fts k) :: fts r
/-- The text of a term. -/
def tx (s v : Int) (k : Fo) : List UInt8 := tx1 s v (fts k)
def str (l : List UInt8) : ByteArray := ⟨l.toArray⟩

theorem fts_len : ∀ k : Fo, (fts k).length = flen k
  | .nil => rfl
  | .node _ _ _ _ r => by simp [fts, flen, fts_len r]
theorem fts_nil {k : Fo} : fts k = [] ↔ flen k = 0 := by rw [← fts_len, List.length_eq_zero_iff]
theorem tx_var (v : Int) : tx 0 v .nil = 120 :: Lib.decDigits v.toNat := by simp [tx, tx1]
theorem tx_leaf {s v : Int} {k : Fo} (hs : s ≠ 0) (hk : flen k = 0) : tx s v k = ltr s := by
  unfold tx tx1
  rw [if_neg hs, if_pos (fts_nil.2 hk)]
theorem tx_kids {s v : Int} {k : Fo} (hs : s ≠ 0) (hk : flen k ≠ 0) : tx s v k = ltr s ++ ([40] ++ (Lib.join (fts k) [44] ++ [41])) := by
  unfold tx tx1
  rw [if_neg hs, if_neg fun h => hk (fts_nil.1 h)]
theorem str_add (l m : List UInt8) : str l ++ str m = str (l ++ m) := by
  apply ByteArray.ext
  rw [ByteArray.data_append]
  simp [str]
theorem str_size (l : List UInt8) : (str l).size = l.length := by simp [str, ByteArray.size]

theorem fts_at : ∀ (j : Nat) (k : Fo) {x y : Nat} {s v : Int} {kk r : Fo}, fdrop j k = .node x y (s, v) kk r → (fts k)[j]? = some (tx s v kk)
  | 0, .nil, _, _, _, _, _, _, h => by simp [fdrop] at h
  | 0, .node _ _ p k r, x, y, s, v, kk, r', h => by
    simp only [fdrop, BT.node.injEq] at h
    obtain ⟨_, _, rfl, rfl, _⟩ := h
    rfl
  | _ + 1, .nil, _, _, _, _, _, _, h => by simp [fdrop] at h
  | n + 1, .node _ _ _ _ r, _, _, _, _, _, _, h => by
    simp only [fdrop] at h
    simpa [fts] using fts_at n r h

theorem dec_len {n : Nat} (h : n < 100) : (Lib.decDigits n).length ≤ 2 := by
  unfold Lib.decDigits
  split
  · simp
  · unfold Lib.decDigits
    rw [dif_pos (by omega)]
    simp
theorem ltr_len (s : Int) : (ltr s).length = 1 := by
  unfold ltr
  split
  · rfl
  · split
    · rfl
    · split <;> rfl
def lens (ks : List (List UInt8)) : Nat := (ks.map List.length).sum
theorem join_len : ∀ ks : List (List UInt8), (Lib.join ks [44]).length ≤ lens ks + ks.length
  | [] => by simp [Lib.join_nil]
  | [x] => by simp [Lib.join_one, lens]
  | x :: y :: r => by
    have := join_len (y :: r)
    rw [Lib.join_cons] at this ⊢
    simp only [Lib.joinTail, lens, List.map_cons, List.flatten_cons, List.length_append, List.sum_cons, List.length_cons, List.length_nil] at this ⊢
    omega
/-- Well-formed terms have short texts. -/
theorem fts_short : ∀ k : Fo, fok k = true → lens (fts k) + (fts k).length ≤ 6 * fsz k
  | .nil, _ => by simp [fts, lens]
  | .node x y p k r, h => by
    simp only [fok, Bool.and_eq_true] at h
    have hk := fts_short k h.1.2
    have hr := fts_short r h.2
    have hj := join_len (fts k)
    have hl := ltr_len p.1
    have : (tx1 p.1 p.2 (fts k)).length ≤ 5 + 6 * fsz k := by
      unfold tx1
      split
      · rename_i h0
        have hv := ((okN_iff _ _ _).1 h.1.1).2.1 h0
        have := dec_len (n := p.2.toNat) (by omega)
        simp; omega
      · split
        · omega
        · simp only [List.length_append, List.length_cons, List.length_nil]; omega
    simp only [fts, fsz, lens, List.map_cons, List.sum_cons, List.length_cons] at hr ⊢
    omega
end Go.Proofs.Ythbakmdcepoikaa
