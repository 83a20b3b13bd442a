/- Several texts in one: TXL, ER0, SHc, ER1, LB, EQ, ES1, XC. -/
import Derived.Test.YtbnbogdglffkmaaDoorKRd2
import Derived.Test.YtbnbogdglffkmaaDoorKRd15
import Derived.Lib.CutLaws
import Derived.Lib.IndexMore
import Derived.Lib.IndexLaws
import Derived.Test.YtbnbogdglffkmaaDoorProg
import Derived.Shelf.Strings.Cut
import Derived.Ground.NamesProg
import Derived.Test.YtbnbogdglffkmaaDoorKRd12
import Derived.Test.YtbnbogdglffkmaaDoorKRd6
import Derived.Test.YtbnbogdglffkmaaDoorKRd4
import Derived.Test.YtbnbogdglffkmaaDoorKRd13
import Derived.BigQuiet

/-! TXL: A term's text is short, and there is one. -/
namespace Go.Proofs.YtbnbogdglffkmaaDoor
open Go.RowKit Go.Deep
theorem tx_len {s v : Int} {k : Fo} (h : okW s v k 16 = true) : (tx s v k).length ≤ 200 := by
  obtain ⟨h1, h2, h3⟩ := (okW_iff _ _ _ _).1 h
  have h4 := fts_short k h2
  have h5 := join_len (fts k)
  have h6 := ltr_len s
  unfold tx tx1
  split
  · rename_i hs
    have hv := ((okN_iff _ _ _).1 h1).2.1 hs
    have := dec_len (n := v.toNat) (by omega)
    simp only [List.length_cons]
    omega
  · split
    · omega
    · simp only [List.length_append, List.length_cons, List.length_nil]
      omega
theorem tx_ne {s v : Int} {k : Fo} : tx s v k ≠ [] := by
  unfold tx tx1
  have := ltr_len s
  split
  · simp
  · split
    · intro h; rw [h] at this; simp at this
    · simp
theorem str_toList' (l : List UInt8) : (str l).data.toList = l := rfl
end Go.Proofs.YtbnbogdglffkmaaDoor

/-! ER0: An equation read from a text, as plain data. Definitions and plain lemmas. -/
namespace Go.Proofs.YtbnbogdglffkmaaDoor
open Go.RowKit Go.Deep

theorem dec_no32 {n : Nat} (h : n < 12) : (32 : UInt8) ∉ Lib.decDigits n := fun hm => by
  have := dec_dig h 32 hm
  exact absurd this (by decide)
theorem tx_no32 (N : Nat) : ∀ (s v : Int) (k : Fo), Shape s v k → fsz k ≤ N → (32 : UInt8) ∉ tx s v k := by
  induction N with
  | zero =>
    intro s v k hS hN
    cases hS with
    | var _ h0 h1 =>
      obtain ⟨n, rfl⟩ := Int.eq_ofNat_of_zero_le h0
      rw [show tx 0 (n : Int) .nil = 120 :: Lib.decDigits n from rfl]
      intro hm
      rcases List.mem_cons.1 hm with h | h
      · cases h
      · exact dec_no32 (by have : (n : Int) < 12 := by omega
                           omega) h
    | leaf _ hs =>
      rcases hs with rfl | rfl
      · decide
      · decide
    | one _ _ _ _ h1 h2 => simp [fsz] at hN
    | two _ _ _ _ _ _ _ _ h1 h2 h3 h4 => simp [fsz] at hN
  | succ N ih =>
    intro s v k hS hN
    cases hS with
    | var _ h0 h1 =>
      obtain ⟨n, rfl⟩ := Int.eq_ofNat_of_zero_le h0
      rw [show tx 0 (n : Int) .nil = 120 :: Lib.decDigits n from rfl]
      intro hm
      rcases List.mem_cons.1 hm with h | h
      · cases h
      · exact dec_no32 (by have : (n : Int) < 12 := by omega
                           omega) h
    | leaf _ hs =>
      rcases hs with rfl | rfl
      · decide
      · decide
    | one x y p kk h1 h2 =>
      have hz : fsz kk ≤ N := by simp [fsz] at hN; omega
      have := ih _ _ _ (shape_of h1 h2) hz
      rw [tx_one]
      simp [this]
    | two x y p kk x' y' p' kk' h1 h2 h3 h4 =>
      have hz : fsz kk ≤ N ∧ fsz kk' ≤ N := by simp [fsz] at hN; omega
      have i1 := ih _ _ _ (shape_of h1 h2) hz.1
      have i2 := ih _ _ _ (shape_of h3 h4) hz.2
      rw [tx_two]
      simp [i1, i2]
theorem okW_no32 {s v : Int} {k : Fo} (h : okW s v k 16 = true) : (32 : UInt8) ∉ tx s v k := by
  have ho := (okW_iff _ _ _ _).1 h
  exact tx_no32 _ _ _ _ (shape_of ho.1 ho.2.1) (Nat.le_refl _)

/-- The separator. -/
def sepE : List UInt8 := [32, 61, 32]
/-- The equation that is read from a text. -/
def eqR (l : List UInt8) : Option ((Int × Int × Fo) × (Int × Int × Fo)) :=
  if (Lib.cut l sepE).2.2 = true then (rdR (Lib.cut l sepE).1).bind fun x => (rdR (Lib.cut l sepE).2.1).map fun y => (x, y) else none
theorem cut_sound {l : List UInt8} (h : (Lib.cut l sepE).2.2 = true) : l = (Lib.cut l sepE).1 ++ (sepE ++ (Lib.cut l sepE).2.1) := by
  unfold Lib.cut at h ⊢
  by_cases hi : 0 ≤ Lib.index l sepE
  · rw [if_pos hi]
    rcases Lib.index_spec l sepE with ⟨h1, _⟩ | ⟨i, h1, h2, h3, _⟩
    · omega
    · rw [h1]
      have h4 : sepE <+: l.drop i := by unfold Lib.occAt at h3; exact List.isPrefixOf_iff_prefix.1 h3
      obtain ⟨r, hr⟩ := h4
      have h5 : l.drop (i + sepE.length) = r := by rw [← List.drop_drop, ← hr]; simp
      simp only [Int.toNat_natCast]
      rw [h5, hr, List.take_append_drop]
  · rw [if_neg hi] at h; cases h
theorem occ_no {a b : List UInt8} (ha : (32 : UInt8) ∉ a) {j : Nat} (hj : j < a.length) : Lib.occAt (a ++ b) sepE j = false := by
  unfold Lib.occAt
  have hne : (32 : UInt8) ≠ a[j] := fun e => ha (e ▸ List.getElem_mem _)
  have hd : (a ++ b).drop j = a[j] :: (a.drop (j + 1) ++ b) := by
    rw [List.drop_append_of_le_length (by omega), List.drop_eq_getElem_cons hj]; rfl
  rw [hd]
  show ((32 : UInt8) == a[j] && _) = false
  rw [beq_eq_false_iff_ne.2 hne]; rfl
theorem cut_made {a b : List UInt8} (ha : (32 : UInt8) ∉ a) : Lib.cut (a ++ (sepE ++ b)) sepE = (a, b, true) := by
  have hi : Lib.index (a ++ (sepE ++ b)) sepE = (a.length : Int) := by
    refine Lib.index_hit (fun j hj => occ_no ha hj) (by simp) ?_
    unfold Lib.occAt
    rw [List.drop_left]
    exact List.isPrefixOf_iff_prefix.2 ⟨b, rfl⟩
  unfold Lib.cut
  rw [hi, if_pos (by omega)]
  simp only [Int.toNat_natCast, List.take_left]
  rw [← List.drop_drop, List.drop_left, List.drop_left]
theorem eqR_some {l : List UInt8} {s v : Int} {k : Fo} {s' v' : Int} {k' : Fo} (h : eqR l = some ((s, v, k), s', v', k')) : okW s v k 16 = true ∧ fer k = k ∧ okW s' v' k' 16 = true ∧ fer k' = k' ∧ l = tx s v k ++ (sepE ++ tx s' v' k') := by
  unfold eqR at h
  by_cases hc : (Lib.cut l sepE).2.2 = true
  · rw [if_pos hc] at h
    cases h1 : rdR (Lib.cut l sepE).1 with
    | none => rw [h1] at h; cases h
    | some x =>
      cases h2 : rdR (Lib.cut l sepE).2.1 with
      | none => rw [h1, h2] at h; cases h
      | some y =>
        rw [h1, h2] at h
        simp only [Option.bind_some, Option.map_some, Option.some.injEq, Prod.mk.injEq] at h
        obtain ⟨rfl, rfl⟩ := h
        obtain ⟨a1, a2, a3⟩ := rdR_some h1
        obtain ⟨b1, b2, b3⟩ := rdR_some h2
        refine ⟨a1, a2, b1, b2, ?_⟩
        have := cut_sound hc
        rw [← a3, ← b3] at this
        exact this
  · rw [if_neg hc] at h; cases h
theorem eqR_made {s v : Int} {k : Fo} {s' v' : Int} {k' : Fo} (h : okW s v k 16 = true) (h' : okW s' v' k' 16 = true) : eqR (tx s v k ++ (sepE ++ tx s' v' k')) = some ((s, v, fer k), s', v', fer k') := by
  unfold eqR
  rw [cut_made (okW_no32 h)]
  simp only [if_true]
  rw [rdR_tx h, rdR_tx h']
  rfl
/-- What a reading answers. -/
def eqA (l : List UInt8) : (Int × Int × Fo) × (Int × Int × Fo) × Bool := match eqR l with
  | some (x, y) => (x, y, true)
  | none => ((0, 0, .nil), (0, 0, .nil), false)
theorem eqA_none {l : List UInt8} (h : eqR l = none) : eqA l = ((0, 0, .nil), (0, 0, .nil), false) := by unfold eqA; rw [h]
theorem eqA_some {l : List UInt8} {x y : Int × Int × Fo} (h : eqR l = some (x, y)) : eqA l = (x, y, true) := by unfold eqA; rw [h]
theorem rdA_cases (l : List UInt8) : (rdA l = (0, 0, .nil, false) ∧ rdR l = none) ∨ ∃ s v k, rdA l = (s, v, k, true) ∧ rdR l = some (s, v, k) := by
  unfold rdA
  cases h : rdR l with
  | none => exact .inl ⟨rfl, rfl⟩
  | some t => obtain ⟨s, v, k⟩ := t; exact .inr ⟨s, v, k, rfl, rfl⟩
theorem rdA_true {l : List UInt8} {s v : Int} {k : Fo} (h : rdA l = (s, v, k, true)) : rdR l = some (s, v, k) := by
  rcases rdA_cases l with ⟨h1, h2⟩ | ⟨s', v', k', h1, h2⟩
  · rw [h1] at h; cases h
  · rw [h1] at h; cases h; exact h2
theorem rdA_false {l : List UInt8} {s v : Int} {k : Fo} (h : rdA l = (s, v, k, false)) : rdR l = none := by
  rcases rdA_cases l with ⟨h1, h2⟩ | ⟨s', v', k', h1, h2⟩
  · exact h2
  · rw [h1] at h; cases h
/-- The program's way: its three tests. -/
theorem eqA_cut {l a b : List UInt8} {f t t' : Bool} {s v : Int} {k : Fo} {s' v' : Int} {k' : Fo} (hc : Lib.cut l sepE = (a, b, f)) (h : rdA a = (s, v, k, t)) (h' : rdA b = (s', v', k', t')) :
    eqA l = if f = true ∧ t = true ∧ t' = true then ((s, v, k), (s', v', k'), true) else ((0, 0, .nil), (0, 0, .nil), false) := by
  cases f with
  | false => rw [if_neg (by simp)]; exact eqA_none (by unfold eqR; rw [hc]; rfl)
  | true =>
    cases t with
    | false => rw [if_neg (by simp)]; exact eqA_none (by unfold eqR; rw [hc]; simp [rdA_false h])
    | true =>
      cases t' with
      | false => rw [if_neg (by simp)]; exact eqA_none (by unfold eqR; rw [hc]; simp [rdA_false h'])
      | true => rw [if_pos (by simp)]; exact eqA_some (by unfold eqR; rw [hc]; simp [rdA_true h, rdA_true h'])

/-- A text cut at each blank. -/
def spl : List UInt8 → List (List UInt8)
  | [] => [[]]
  | b :: r => if b = 32 then [] :: spl r else match spl r with
    | x :: xs => (b :: x) :: xs
    | [] => [[b]]
theorem spl_ne : ∀ l : List UInt8, spl l ≠ []
  | [] => by simp [spl]
  | b :: r => by
    unfold spl
    by_cases h : b = 32
    · rw [if_pos h]; simp
    · rw [if_neg h]; split <;> simp
theorem spl_no : ∀ {a : List UInt8}, (32 : UInt8) ∉ a → spl a = [a]
  | [], _ => rfl
  | b :: r, h => by
    have h1 : b ≠ 32 := fun e => h (e ▸ List.mem_cons_self ..)
    have h2 := spl_no fun hm => h (List.mem_cons_of_mem b hm)
    unfold spl
    rw [if_neg h1, h2]
theorem spl_cut : ∀ {a : List UInt8} (r : List UInt8), (32 : UInt8) ∉ a → spl (a ++ 32 :: r) = a :: spl r
  | [], r, _ => by simp [spl]
  | b :: q, r, h => by
    have h1 : b ≠ 32 := fun e => h (e ▸ List.mem_cons_self ..)
    have h2 := spl_cut r fun hm => h (List.mem_cons_of_mem b hm)
    show spl (b :: (q ++ 32 :: r)) = _
    rw [spl, if_neg h1, h2]
theorem spl_made {s v : Int} {k : Fo} {s' v' : Int} {k' : Fo} (h : okW s v k 16 = true) (h' : okW s' v' k' 16 = true) : spl (tx s v k ++ (sepE ++ tx s' v' k')) = [tx s v k, [61], tx s' v' k'] := by
  show spl (tx s v k ++ 32 :: ([61] ++ 32 :: tx s' v' k')) = _
  rw [spl_cut _ (okW_no32 h), spl_cut _ (by decide), spl_no (okW_no32 h')]
theorem spl_len : ∀ l : List UInt8, (spl l).length ≤ l.length + 1
  | [] => by simp [spl]
  | b :: r => by
    have := spl_len r
    unfold spl
    by_cases h : b = 32
    · rw [if_pos h]; simp; omega
    · rw [if_neg h]
      split
      · rename_i x xs e; rw [e] at this; simp at this ⊢; omega
      · simp
theorem spl_mem : ∀ {l x : List UInt8}, x ∈ spl l → x.length ≤ l.length
  | [], x, h => by simp [spl] at h; rw [h]; simp
  | b :: r, x, h => by
    unfold spl at h
    by_cases hb : b = 32
    · rw [if_pos hb] at h
      rcases List.mem_cons.1 h with rfl | h
      · simp
      · have := spl_mem h; simp; omega
    · rw [if_neg hb] at h
      split at h
      · rename_i y ys e
        rcases List.mem_cons.1 h with rfl | h
        · have := spl_mem (l := r) (x := y) (by rw [e]; exact List.mem_cons_self ..); simp; omega
        · have := spl_mem (l := r) (x := x) (by rw [e]; exact List.mem_cons_of_mem _ h); simp; omega
      · simp at h; rw [h]; simp
/-- The specification's way: three words. -/
theorem eqA_len {l : List UInt8} (h : (spl l).length ≠ 3) : eqA l = ((0, 0, .nil), (0, 0, .nil), false) := by
  refine eqA_none ?_
  cases hr : eqR l with
  | none => rfl
  | some x =>
    obtain ⟨⟨s, v, k⟩, s', v', k'⟩ := x
    obtain ⟨h1, _, h2, _, h3⟩ := eqR_some hr
    rw [h3, spl_made h1 h2] at h
    exact absurd rfl h
theorem eqA_no {l a m b : List UInt8} (hs : spl l = [a, m, b]) {s v : Int} {k : Fo} {s' v' : Int} {k' : Fo} {t t' : Bool} (h : rdA a = (s, v, k, t)) (h' : rdA b = (s', v', k', t')) (hno : t = false ∨ t' = false ∨ tx s v k ++ (sepE ++ tx s' v' k') ≠ l) : eqA l = ((0, 0, .nil), (0, 0, .nil), false) := by
  refine eqA_none ?_
  cases hr : eqR l with
  | none => rfl
  | some x =>
    obtain ⟨⟨s2, v2, k2⟩, s3, v3, k3⟩ := x
    obtain ⟨h1, f1, h2, f2, h3⟩ := eqR_some hr
    rw [h3, spl_made h1 h2] at hs
    simp only [List.cons.injEq, and_true] at hs
    obtain ⟨e1, _, e2⟩ := hs
    have r1 : rdA a = (s2, v2, k2, true) := by unfold rdA; rw [← e1, rdR_tx h1, f1]
    have r2 : rdA b = (s3, v3, k3, true) := by unfold rdA; rw [← e2, rdR_tx h2, f2]
    rw [r1] at h; rw [r2] at h'
    simp only [Prod.mk.injEq] at h h'
    obtain ⟨rfl, rfl, rfl, rfl⟩ := h
    obtain ⟨rfl, rfl, rfl, rfl⟩ := h'
    rcases hno with hno | hno | hno
    · cases hno
    · cases hno
    · exact absurd h3.symm hno
theorem eqA_yes {l a b : List UInt8} {s v : Int} {k : Fo} {s' v' : Int} {k' : Fo} (h : rdA a = (s, v, k, true)) (h' : rdA b = (s', v', k', true)) (he : tx s v k ++ (sepE ++ tx s' v' k') = l) : eqA l = ((s, v, k), (s', v', k'), true) := by
  obtain ⟨a1, a2, _⟩ := rdR_some (rdA_true h)
  obtain ⟨b1, b2, _⟩ := rdR_some (rdA_true h')
  refine eqA_some ?_
  rw [← he, eqR_made a1 b1, a2, b2]
end Go.Proofs.YtbnbogdglffkmaaDoor

/-! SHc: The contract of strings.Cut, at this program. -/
namespace Go.Proofs
open Go.Shelf
def Tryd.lays145_ren : Go.Shelf.Ren := ⟨fun | 145 => 53 | 220 => 62 | 219 => 73 | 217 => 72 | 225 => 85 | 224 => 86 | 267 => 87 | 266 => 84 | 314 => 97 | n => n, fun | 9 => 9 | 4 => 4 | 59 => 81 | 3 => 3 | 5 => 5 | 46 => 120 | 146 => 135 | 51 => 134 | n => n, fun | 1 => 0 | n => n⟩
theorem Tryd.lays145 : Go.Proofs.Lays.n145 Tryd.prog Tryd.lays145_ren := {
  mixed := by kernel_rfl
  f145 := Tryd.func53.trans (congrArg some (by kernel_rfl))
  f217 := Tryd.func72.trans (congrArg some (by kernel_rfl))
  f219 := Tryd.func73.trans (congrArg some (by kernel_rfl))
  f220 := Tryd.func62.trans (congrArg some (by kernel_rfl))
  f224 := Tryd.func86.trans (congrArg some (by kernel_rfl))
  f225 := Tryd.func85.trans (congrArg some (by kernel_rfl))
  f266 := Tryd.func84.trans (congrArg some (by kernel_rfl))
  f267 := Tryd.func87.trans (congrArg some (by kernel_rfl))
  f314 := Tryd.func97.trans (congrArg some (by kernel_rfl))
  t3 := Tryd.underlying3
  a3 := Tryd.isAgg3
  z3 := Tryd.sizeOf3
  v3 := Tryd.zeroValue3
  t4 := Tryd.underlying4
  a4 := Tryd.isAgg4
  z4 := Tryd.sizeOf4
  v4 := Tryd.zeroValue4
  t5 := Tryd.underlying5
  a5 := Tryd.isAgg5
  z5 := Tryd.sizeOf5
  v5 := Tryd.zeroValue5
  t9 := Tryd.underlying9
  a9 := Tryd.isAgg9
  z9 := Tryd.sizeOf9
  v9 := Tryd.zeroValue9
  t46 := Tryd.underlying120
  a46 := Tryd.isAgg120
  z46 := Tryd.sizeOf120
  v46 := Tryd.zeroValue120
  t51 := Tryd.underlying134
  a51 := Tryd.isAgg134
  z51 := Tryd.sizeOf134
  v51 := Tryd.zeroValue134
  t59 := Tryd.underlying81
  a59 := Tryd.isAgg81
  z59 := Tryd.sizeOf81
  v59 := Tryd.zeroValue81
  t146 := Tryd.underlying135
  a146 := Tryd.isAgg135
  z146 := Tryd.sizeOf135
  v146 := Tryd.zeroValue135
  g1 := by kernel_rfl }
end Go.Proofs

/-! ER1: A text cut at each blank: what the specification's l31Split answers. -/
namespace Go.Proofs.YtbnbogdglffkmaaDoor
open Go.RowKit Go.Deep
attribute [local go_sem ↓] Go.wp_at_zero Go.wp_at_succ

theorem Tryd.infoString : ∃ i, Tryd.prog.info? 9 = some i ∧ i.zero = some (.string ⟨#[]⟩) ∧ i.size = 1 ∧ i.bytes = 16 := by
  have h : (Tryd.prog.info? 9).map (fun i => (i.zero, i.size, i.bytes)) = some (some (.string ⟨#[]⟩), 1, 16) := by kernel_rfl
  obtain ⟨i, hi, hz⟩ := Option.map_eq_some_iff.1 h
  simp only [Prod.mk.injEq] at hz
  exact ⟨i, hi, hz.1, hz.2.1, hz.2.2⟩
def SOwn (w : World) (base : Nat) (xs : List (List UInt8)) (A : Option Addr) (C : Nat) : Prop := w.ownsRow base 9 1 (.slice A xs.length C) xs.length (xs.map fun l => Value.string (str l))
/-- Texts that lie in a block. -/
def Wd (w : World) (lo : Nat) (A : Option Addr) (xs : List (List UInt8)) : Prop := ∃ b, A = some ⟨b, 0, none⟩ ∧ lo ≤ b ∧ b < w.heap.size ∧ ∀ i x, xs[i]? = some x → w.cell? ⟨b, i, none⟩ = some (.string (str x))
theorem wd_of_own {w : World} {base : Nat} {A : Option Addr} {C n : Nat} {xs : List (List UInt8)} (h : w.ownsRow base 9 1 (.slice A n C) n (xs.map fun l => Value.string (str l))) (h0 : 0 < n) : Wd w base A xs := by
  obtain ⟨g, cap, hv, hb, hlt⟩ := h.form h0
  have hA : A = some ⟨g, 0, none⟩ := by simp only [Value.slice.injEq] at hv; exact hv.1
  have hc := h.cells (g := g) (by rw [hA]; rfl)
  have ha : ∀ n, (⟨g, 0, none⟩ : Addr).add n = ⟨g, 0 + n, none⟩ := fun n => by unfold Addr.add; split <;> simp_all
  refine ⟨g, hA, hb, hlt, fun i x hx => ?_⟩
  have := hc i (.string (str x)) (by simp [hx])
  rw [ha, Nat.zero_add] at this
  exact this
theorem own_emptyS {W : World} {base g : Nat} (h : W.heap[g]? = some (.cells #[] 9 (0, 0))) (hb : base ≤ g) : W.ownsRow base 9 1 (.slice (some ⟨g, 0, none⟩) 0 0) 0 [] :=
  ⟨rfl, .inr ⟨g, 0, #[], rfl, hb, h, Nat.le_refl _, Nat.zero_le _, rfl, rfl⟩⟩
theorem str_cut (l : List UInt8) (f p : Nat) : (str l).extract f p = str ((l.drop f).take (p - f)) := by
  apply ByteArray.ext
  rw [ByteArray.data_extract]
  apply Array.toList_inj.1
  rw [Array.toList_extract]
  show List.extract l f p = (l.drop f).take (p - f)
  rw [List.extract_eq_take_drop]
theorem str_sub {l : List UInt8} {f p : Nat} (h1 : f ≤ p) (h2 : p ≤ l.length) (wx : World) : (Instr.slice 9 (.string (str l)) (some (.int .i64 (f : Int))) (some (.int .i64 (p : Int))) none).run Tryd.prog wx = .ok (.string (str ((l.drop f).take (p - f)))) wx := by
  have hs := str_size l
  rw [run_slice_string _ _ _ _ _ _ _ Tryd.underlying9 (by omega) (by omega) (by omega), Int.toNat_natCast, Int.toNat_natCast, str_cut]
theorem str_from {l : List UInt8} {f : Nat} (h1 : f ≤ l.length) (wx : World) : (Instr.slice 9 (.string (str l)) (some (.int .i64 (f : Int))) none none).run Tryd.prog wx = .ok (.string (str (l.drop f))) wx := by
  have hs := str_size l
  rw [run_slice_string_l _ _ _ Tryd.underlying9 _ _ (by omega) (by omega), Int.toNat_natCast, hs, str_cut, List.take_of_length_le (by simp)]

def SplPost (l : List UInt8) (w : World) (e : Ending) (w' : World) : Prop :=
  ∃ A C, e = .returned (.slice A (spl l).length C) ∧ Below w.heap.size w w' ∧ Wd w' w.heap.size A (spl l)
/-- Where the cutting stands. -/
def SpSt (l : List UInt8) (ws : List (List UInt8)) (f p : Nat) : Prop := f ≤ p ∧ p ≤ l.length ∧ spl l = ws ++ spl (l.drop f) ∧ (32 : UInt8) ∉ (l.drop f).take (p - f) ∧ ws.length ≤ l.length
theorem spst_start (l : List UInt8) : SpSt l [] 0 0 := ⟨Nat.le_refl _, Nat.zero_le _, rfl, by simp, Nat.zero_le _⟩
theorem spst_len {l : List UInt8} {ws : List (List UInt8)} {f : Nat} (h : spl l = ws ++ spl (l.drop f)) : ws.length ≤ l.length := by
  have h1 := congrArg List.length h
  have h2 := spl_len l
  have h3 : 0 < (spl (l.drop f)).length := List.length_pos_iff.2 (spl_ne _)
  simp only [List.length_append] at h1
  omega
theorem spst_hit {l : List UInt8} {ws : List (List UInt8)} {f p : Nat} (h : SpSt l ws f p) (hb : l[p]? = some 32) : SpSt l (ws ++ [(l.drop f).take (p - f)]) (p + 1) (p + 1) := by
  obtain ⟨h1, h2, h3, h4, h5⟩ := h
  have hlt := (List.getElem?_eq_some_iff.1 hb).1
  have hd : l.drop p = 32 :: l.drop (p + 1) := by
    rw [List.drop_eq_getElem_cons hlt, (List.getElem?_eq_some_iff.1 hb).2]
  have hs : spl l = (ws ++ [(l.drop f).take (p - f)]) ++ spl (l.drop (p + 1)) := by
    rw [h3]
    have : l.drop f = (l.drop f).take (p - f) ++ 32 :: l.drop (p + 1) := by
      conv => lhs; rw [← List.take_append_drop (p - f) (l.drop f)]
      rw [List.drop_drop, show f + (p - f) = p from by omega, hd]
    rw [this, spl_cut _ h4, ← this]
    simp
  exact ⟨Nat.le_refl _, hlt, hs, by simp, spst_len hs⟩
theorem spst_miss {l : List UInt8} {ws : List (List UInt8)} {f p : Nat} {b : UInt8} (h : SpSt l ws f p) (hb : l[p]? = some b) (hne : b ≠ 32) : SpSt l ws f (p + 1) := by
  obtain ⟨h1, h2, h3, h4, h5⟩ := h
  have hlt := (List.getElem?_eq_some_iff.1 hb).1
  refine ⟨by omega, hlt, h3, ?_, h5⟩
  rw [show p + 1 - f = (p - f) + 1 from by omega, List.take_add_one, List.getElem?_drop, show f + (p - f) = p from by omega, hb]
  simp only [Option.toList_some, List.mem_append, List.mem_singleton, not_or]
  exact ⟨h4, fun e => hne e.symm⟩
theorem spst_end {l : List UInt8} {ws : List (List UInt8)} {f p : Nat} (h : SpSt l ws f p) (hp : l.length ≤ p) : spl l = ws ++ [l.drop f] ∧ f ≤ l.length := by
  obtain ⟨h1, h2, h3, h4, h5⟩ := h
  rw [List.take_of_length_le (by simp; omega)] at h4
  rw [spl_no h4] at h3
  exact ⟨h3, by omega⟩

set_option maxRecDepth 100000 in
set_option maxHeartbeats 1000000 in
theorem l31Split_any (l : List UInt8) (w : World) (hl : l.length ≤ 1048576) :
    Calls Tryd.prog 36 #[.string (str l), .int .u8 32] w (SplPost l w) := by
  have hz := str_size l
  obtain ⟨ti, hti, htz, hts, htb⟩ := Tryd.infoString
  have HTI : Hid (Tryd.prog.info? 9 = some ti ∧ ti.zero = some (.string ⟨#[]⟩) ∧ ti.size = 1 ∧ ti.bytes = 16) := ⟨hti, htz, hts, htb⟩
  have HST : Hid (SOwn (w.alloc (.cells #[] 9)) w.heap.size [] (some ⟨w.heap.size, 0, none⟩) 0) := own_emptyS (heap_alloc_new _ _) (Nat.le_refl _)
  have HST2 := Lib.hid (spst_start l)
  have HL := Lib.hid hl
  clear hti htz hts htb hl
  go_enter Tryd.func36, Tryd.ntmps36
  go_wp2_with fail
  go_loopw [5, 6, 7] (fun o f i wr => ∃ (ws : List (List UInt8)) (ff p : Nat) (A : Option Addr) (C : Nat), o = .slice A ws.length C ∧ f = .int .i64 (ff : Int) ∧ i = .int .i64 (p : Int) ∧ Hid (SpSt l ws ff p) ∧ Hid (SOwn wr w.heap.size ws A C) ∧ Hid (Below w.heap.size w wr)) (fun _ _ i _ => l.length - (intOf i).toNat)
  case atStart => exact ⟨[], 0, 0, _, 0, rfl, rfl, rfl, HST2, HST, (Below.refl _ _).alloc (Nat.le_refl _) _⟩
  case round =>
    clear HST HST2
    obtain ⟨ws, ff, p, A, C, rfl, rfl, rfl, HS, HO, HB⟩ := hrel
    have hbs := HB.out.size
    have hs := HS.out
    have hL := HL.out
    have HLT : Hid (∀ g, (Value.slice A ws.length C).ownBlock = some g → w.heap.size ≤ g) := fun g hg => (HO.out.lt g hg).1
    have hwl : ws.length ≤ 1048576 := by have := hs.2.2.2.2; omega
    by_cases hlt : p < l.length
    · obtain ⟨b, hb⟩ : ∃ b, l[p]? = some b := ⟨_, List.getElem?_eq_getElem hlt⟩
      have hidx := fun wx => str_index hb wx
      have e0 : decide ((p : Int) < (l.length : Int)) = true := decide_eq_true (by omega)
      have hf : ff ≤ p := hs.1
      have hsub := fun wx => str_sub hf (Nat.le_of_lt hlt) wx
      by_cases h32 : b = 32
      · subst h32
        have HS2 := Lib.hid (spst_hit hs hb)
        obtain ⟨seg, hseg⟩ : ∃ seg, seg = (l.drop ff).take (p - ff) := ⟨_, rfl⟩
        rw [← hseg] at hsub HS2
        have hlen : (ws ++ [seg]).length = ws.length + 1 := by simp
        clear hb hs hseg hf
        go_wp2_with (at_builtin; refine wpList_append_lies _ rfl _ _ 56 rfl w.heap.size 9 ti _ 1 16 Tryd.underlying56 HTI.out.1 HTI.out.2.1 HTI.out.2.2.1 HTI.out.2.2.2 rfl (by omega) (.slice A ws.length C) ws.length (ws.map fun l => Value.string (str l)) rfl (HO.out.alloc _) ⟨wr.heap.size, 0, none⟩ 1 1 [.string (str seg)] rfl rfl (World.news_of_block (heap_alloc_new _ _)) (by simp [Value.oneCell']) (by omega) (by unfold maxLen; omega) (by omega) (by simp; omega) (wr.heap.size + 1) (by simp) ?_; intro g cap w3 hown3 hgrow3 hat3 hg3; have HO3 : Hid (SOwn w3 w.heap.size (ws ++ [seg]) (some ⟨g, 0, none⟩) cap) := (by unfold Hid SOwn; rw [hlen, List.map_append]; exact hown3); have HB3 : Hid (Below w.heap.size w w3) := (HB.out.alloc hbs _).grown hgrow3 (by simp; omega) HLT.out; clear hown3 hgrow3 hat3 hg3)
        go_roundw
        case rel => exact ⟨ws ++ [seg], p + 1, p + 1, _, cap, by rw [hlen], by go_num, by go_num, HS2, HO3, HB3⟩
        case measure => simp [intOf]; omega
      · have HS2 := Lib.hid (spst_miss hs hb h32)
        have e1 : ((b.toNat : Int) == 32) = false := beq_eq_false_iff_ne.2 fun e => h32 (UInt8.toNat_inj.1 (by have : (32 : UInt8).toNat = 32 := rfl; omega))
        clear hb hs hf hsub h32
        go_wp2_with fail
        go_roundw
        case rel => exact ⟨ws, ff, p + 1, A, C, rfl, rfl, by go_num, HS2, HO, HB⟩
        case measure => simp [intOf]; omega
    · have e0 : decide ((p : Int) < (l.length : Int)) = false := decide_eq_false (by omega)
      obtain ⟨hE, hf⟩ := spst_end hs (by omega)
      have HE := Lib.hid hE
      have hsub := fun wx => str_from hf wx
      obtain ⟨seg, hseg⟩ : ∃ seg, seg = l.drop ff := ⟨_, rfl⟩
      rw [← hseg] at hsub HE
      have hlen : (ws ++ [seg]).length = ws.length + 1 := by simp
      clear hs hseg hE hf
      go_wp2_with (at_builtin; refine wpList_append_lies _ rfl _ _ 56 rfl w.heap.size 9 ti _ 1 16 Tryd.underlying56 HTI.out.1 HTI.out.2.1 HTI.out.2.2.1 HTI.out.2.2.2 rfl (by omega) (.slice A ws.length C) ws.length (ws.map fun l => Value.string (str l)) rfl (HO.out.alloc _) ⟨wr.heap.size, 0, none⟩ 1 1 [.string (str seg)] rfl rfl (World.news_of_block (heap_alloc_new _ _)) (by simp [Value.oneCell']) (by omega) (by unfold maxLen; omega) (by omega) (by simp; omega) (wr.heap.size + 1) (by simp) ?_; intro g cap w3 hown3 hgrow3 hat3 hg3; have HO3 : Hid (SOwn w3 w.heap.size (ws ++ [seg]) (some ⟨g, 0, none⟩) cap) := (by unfold Hid SOwn; rw [hlen, List.map_append]; exact hown3); have HB3 : Hid (Below w.heap.size w w3) := (HB.out.alloc hbs _).grown hgrow3 (by simp; omega) HLT.out; clear hown3 hgrow3 hat3 hg3)
      go_ret
      refine ⟨some ⟨g, 0, none⟩, cap, ?_, HB3.out, ?_⟩
      · rw [HE.out, hlen]; rfl
      · rw [HE.out]; exact wd_of_own HO3.out (by omega)
end Go.Proofs.YtbnbogdglffkmaaDoor

/-! LB: What the walks of laws hold on to: boxes of terms, and what stays when memory is added. Plain lemmas. -/
namespace Go.Proofs.YtbnbogdglffkmaaDoor
open Go.RowKit Go.Deep

/-- Block b is a box that holds the term s v k; what it leads to lies in memory. -/
structure Tb (b : Nat) (s v : Int) (a : Option Addr) (c : Nat) (k : Fo) (w : World) : Prop where
  c0 : w.cell? ⟨b, 0, none⟩ = some (.int .i64 s)
  c1 : w.cell? ⟨b, 1, none⟩ = some (.int .i64 v)
  c2 : w.cell? ⟨b, 2, none⟩ = some (.slice a (flen k) c)
  sl : Sl w 0 w.heap.size a k
theorem Tb.next {b : Nat} {s v : Int} {a : Option Addr} {c : Nat} {k : Fo} {w w2 : World} (h : Tb b s v a c k w) (hb : Below w.heap.size w w2) : Tb b s v a c k w2 :=
  ⟨cell_low hb h.c0, cell_low hb h.c1, cell_low hb h.c2, (h.sl.below hb).mono (Nat.le_refl _) hb.size⟩
theorem Tb.new {s v : Int} {a : Option Addr} {c : Nat} {k : Fo} {w : World} {lo : Nat} (h : Sl w lo w.heap.size a k) : Tb w.heap.size s v a c k (w.alloc (.cells #[.int .i64 s, .int .i64 v, .slice a (flen k) c] 25)) := by
  have hb : Below w.heap.size w (w.alloc (.cells #[.int .i64 s, .int .i64 v, .slice a (flen k) c] 25)) := (Below.refl _ _).alloc (Nat.le_refl _) _
  refine ⟨?_, ?_, ?_, ((h.mono (Nat.zero_le _) (Nat.le_refl _)).below hb).mono (Nat.le_refl _) hb.size⟩
  · rw [World.cell?_alloc_at _ _ _ _ (by simp)]; rfl
  · rw [World.cell?_alloc_at _ _ _ _ (by simp)]; rfl
  · rw [World.cell?_alloc_at _ _ _ _ (by simp)]; rfl
theorem box_low (w : World) (o : Obj) : Below w.heap.size w (w.alloc o) := (Below.refl _ _).alloc (Nat.le_refl _) o
theorem Sl.next {w w2 : World} {lo : Nat} {a : Option Addr} {k : Fo} (h : Sl w lo w.heap.size a k) (hb : Below w.heap.size w w2) : Sl w2 0 w2.heap.size a k := ((h.mono (Nat.zero_le _) (Nat.le_refl _)).below hb).mono (Nat.le_refl _) hb.size
theorem BSl.next {w w2 : World} {lo : Nat} {a : Option Addr} {bs : List Bd} (h : BSl w lo w.heap.size a bs) (hb : Below w.heap.size w w2) : BSl w2 0 w2.heap.size a bs := ((h.mono (Nat.zero_le _) (Nat.le_refl _)).below hb).mono (Nat.le_refl _) hb.size
theorem ISl.next {w w2 : World} {lo : Nat} {a : Option Addr} {xs : List Int} (h : ISl w lo w.heap.size a xs) (hb : Below w.heap.size w w2) : ISl w2 0 w2.heap.size a xs := ((h.mono (Nat.zero_le _) (Nat.le_refl _)).below hb).mono (Nat.le_refl _) hb.size
theorem ISc.next {w w2 : World} {lo : Nat} {a : Option Addr} {c : Nat} {xs : List Int} (h : ISc w lo w.heap.size a c xs) (hb : Below w.heap.size w w2) : ISc w2 0 w2.heap.size a c xs := ⟨h.1.next hb, h.2⟩
theorem RSl.next {w w2 : World} {lo : Nat} {a : Option Addr} {rows : List (List Int)} (h : RSl w lo w.heap.size a rows) (hb : Below w.heap.size w w2) : RSl w2 0 w2.heap.size a rows := ((h.mono (Nat.zero_le _) (Nat.le_refl _)).below hb).mono (Nat.le_refl _) hb.size
theorem below_next {w0 w w2 : World} (h : Below w0.heap.size w0 w) (hb : Below w.heap.size w w2) : Below w0.heap.size w0 w2 := h.trans (hb.mono h.size)
theorem Bytes.next {w wn : World} {a : Option Addr} {len : Nat} (h : Bytes w a len) (hb : Below w.heap.size w wn) : Bytes wn a len := by
  rcases h with h | ⟨b, o, e, h1, h2⟩
  · exact .inl h
  · refine .inr ⟨b, o, e, Nat.lt_of_lt_of_le h1 hb.size, fun i hi => ?_⟩
    obtain ⟨x, hx, hc⟩ := h2 i hi
    exact ⟨x, hx, cell_low hb hc⟩
end Go.Proofs.YtbnbogdglffkmaaDoor

/-! EQ: Lists of equations as plain data, and in memory as rows of six cells. Definitions and plain lemmas. -/
namespace Go.Proofs.YtbnbogdglffkmaaDoor
open Go.RowKit Go.Deep

/-- A sign, a variable, the kids. -/
abbrev Tm3 := Int × Int × Fo
/-- Both sides of an equation. -/
abbrev Eqd := Tm3 × Tm3
def okT3 (room : Int) (t : Tm3) : Bool := okW t.1 t.2.1 t.2.2 room
/-- A slice's address at which the equations es lie. -/
def ESl (w : World) (lo B : Nat) (a : Option Addr) (es : List Eqd) : Prop :=
  es = [] ∨ ∃ b o, a = some ⟨b, o, none⟩ ∧ lo ≤ b ∧ b < B ∧ ∀ (i : Nat) (x : Eqd), es[i]? = some x → ∃ a1 c1 a2 c2, w.cell? ⟨b, o + i * 6, none⟩ = some (.int .i64 x.1.1) ∧ w.cell? ⟨b, o + i * 6 + 1, none⟩ = some (.int .i64 x.1.2.1) ∧ w.cell? ⟨b, o + i * 6 + 2, none⟩ = some (.slice a1 (flen x.1.2.2) c1) ∧
    w.cell? ⟨b, o + i * 6 + 3, none⟩ = some (.int .i64 x.2.1) ∧ w.cell? ⟨b, o + i * 6 + 3 + 1, none⟩ = some (.int .i64 x.2.2.1) ∧ w.cell? ⟨b, o + i * 6 + 3 + 2, none⟩ = some (.slice a2 (flen x.2.2.2) c2) ∧ Sl w lo B a1 x.1.2.2 ∧ Sl w lo B a2 x.2.2.2
theorem ESl.same {w w' : World} {lo B : Nat} {a : Option Addr} {es : List Eqd} (hb : Same lo B w w') (h : ESl w lo B a es) : ESl w' lo B a es := by
  rcases h with h | ⟨b, o, e, h1, h2, h3⟩
  · exact .inl h
  · refine .inr ⟨b, o, e, h1, h2, fun i x hx => ?_⟩
    obtain ⟨a1, k1, a2, k2, c0, c1, c2, c3, c4, c5, hl, hl2⟩ := h3 i x hx
    exact ⟨a1, k1, a2, k2, by rw [hb.cell h1 h2]; exact c0, by rw [hb.cell h1 h2]; exact c1, by rw [hb.cell h1 h2]; exact c2, by rw [hb.cell h1 h2]; exact c3, by rw [hb.cell h1 h2]; exact c4, by rw [hb.cell h1 h2]; exact c5, hl.same hb, hl2.same hb⟩
theorem ESl.mono {w : World} {lo lo' B B' : Nat} {a : Option Addr} {es : List Eqd} (hlo : lo' ≤ lo) (hB : B ≤ B') (h : ESl w lo B a es) : ESl w lo' B' a es := by
  rcases h with h | ⟨b, o, e, h1, h2, h3⟩
  · exact .inl h
  · refine .inr ⟨b, o, e, by omega, by omega, fun i x hx => ?_⟩
    obtain ⟨a1, k1, a2, k2, c0, c1, c2, c3, c4, c5, hl, hl2⟩ := h3 i x hx
    exact ⟨a1, k1, a2, k2, c0, c1, c2, c3, c4, c5, hl.mono hlo hB, hl2.mono hlo hB⟩
theorem ESl.below {w w' : World} {lo B : Nat} {a : Option Addr} {es : List Eqd} (hb : Below B w w') (h : ESl w lo B a es) : ESl w' lo B a es := h.same (Same.of_below hb)
theorem ESl.next {w w' : World} {a : Option Addr} {es : List Eqd} (h : ESl w 0 w.heap.size a es) (hb : Below w.heap.size w w') : ESl w' 0 w'.heap.size a es := (h.below hb).mono (Nat.le_refl _) hb.size
/-- What the cells of an equation hold. -/
theorem ESl.at {w : World} {lo B : Nat} {a : Option Addr} {es : List Eqd} (h : ESl w lo B a es) {i : Nat} {x : Eqd} (hx : es[i]? = some x) :
    ∃ b o, a = some ⟨b, o, none⟩ ∧ lo ≤ b ∧ b < B ∧ ∃ a1 c1 a2 c2, w.cell? ⟨b, o + i * 6, none⟩ = some (.int .i64 x.1.1) ∧ w.cell? ⟨b, o + i * 6 + 1, none⟩ = some (.int .i64 x.1.2.1) ∧ w.cell? ⟨b, o + i * 6 + 2, none⟩ = some (.slice a1 (flen x.1.2.2) c1) ∧
    w.cell? ⟨b, o + i * 6 + 3, none⟩ = some (.int .i64 x.2.1) ∧ w.cell? ⟨b, o + i * 6 + 3 + 1, none⟩ = some (.int .i64 x.2.2.1) ∧ w.cell? ⟨b, o + i * 6 + 3 + 2, none⟩ = some (.slice a2 (flen x.2.2.2) c2) ∧ Sl w lo B a1 x.1.2.2 ∧ Sl w lo B a2 x.2.2.2 := by
  rcases h with rfl | ⟨b, o, e, h1, h2, h3⟩
  · simp at hx
  · exact ⟨b, o, e, h1, h2, h3 i x hx⟩

/-- An equation of valid terms. -/
def okE (x : Eqd) : Bool := okT3 16 x.1 && okT3 16 x.2
/-- A valid equation list. -/
def okEs (es : List Eqd) : Bool := decide (es.length ≤ 6) && es.all okE
theorem okEs_iff (es : List Eqd) : okEs es = true ↔ es.length ≤ 6 ∧ ∀ x ∈ es, okE x = true := by simp [okEs]
theorem all_take {es : List Eqd} {j : Nat} {x : Eqd} (h : (es.take j).all okE = true) (hx : es[j]? = some x) (h1 : okE x = true) : (es.take (j + 1)).all okE = true := by
  rw [List.take_add_one, hx]
  simp only [Option.toList_some, List.all_append, h, List.all_cons, h1, List.all_nil, Bool.and_true]
theorem all_no {es : List Eqd} {j : Nat} {x : Eqd} (hx : es[j]? = some x) (h1 : okE x = false) : okEs es = false := by
  cases h : okEs es with
  | false => rfl
  | true => rw [((okEs_iff es).1 h).2 x (List.mem_of_getElem? hx)] at h1; cases h1
end Go.Proofs.YtbnbogdglffkmaaDoor

/-! ES1: The specification's EqsOk. -/
namespace Go.Proofs.YtbnbogdglffkmaaDoor
open Go.RowKit Go.Deep

set_option maxRecDepth 100000 in
set_option maxHeartbeats 2000000 in
theorem sEqsOk_any (es : List Eqd) (A : Option Addr) (C : Nat) (w : World) (hb : ESl w 0 w.heap.size A es) (hl : es.length ≤ 9223372036854775807) :
    Calls Tryd.prog 51 #[.slice A es.length C] w fun e w' => e = .returned (.bool (okEs es)) ∧ Below w.heap.size w w' := by
  have HB := Lib.hid hb
  clear hb
  by_cases hbig : 6 < es.length
  · have HF : Hid (okEs es = false) := by
      cases h : okEs es with
      | false => exact rfl
      | true => have := ((okEs_iff es).1 h).1; omega
    go_enter Tryd.func51, Tryd.ntmps51
    go_wp2_with fail
    go_ret
    exact ⟨by rw [HF.out]; rfl, Below.refl _ _⟩
  go_enter Tryd.func51, Tryd.ntmps51
  go_wp2_with fail
  go_loopw [3] (fun i wr => ∃ j : Nat, i = .int .i64 j ∧ j ≤ es.length ∧ Hid ((es.take j).all okE = true) ∧ Hid (Below w.heap.size w wr)) (fun i _ => es.length - (intOf i).toNat)
  case atStart => exact ⟨0, rfl, Nat.zero_le _, rfl, Below.refl _ _⟩
  case round =>
    obtain ⟨j, rfl, hj, HS, HLW⟩ := hrel
    have hws := HLW.out.size
    by_cases hlt : j < es.length
    · obtain ⟨x, hx⟩ : ∃ x, es[j]? = some x := ⟨es[j], List.getElem?_eq_getElem hlt⟩
      obtain ⟨⟨s, v, k⟩, s', v', k'⟩ := x
      have hbr := HB.out.below HLW.out
      obtain ⟨b, o, rfl, _, hbB, a1, d1, a2, d2, c0, c1, c2, c3, c4, c5, hsl, hsl2⟩ := hbr.at hx
      dsimp only at c0 c1 c2 c3 c4 c5 hsl hsl2
      have g1 : (0 : Int) ≤ (j : Int) := by omega
      have g2 : (j : Int) < (es.length : Int) := by omega
      have HX := Lib.hid hx
      have HSL : Hid (Sl wr 0 wr.heap.size a1 k) := hsl.mono (Nat.le_refl _) hws
      have HSL2 : Hid (Sl wr 0 wr.heap.size a2 k') := hsl2.mono (Nat.le_refl _) hws
      clear hx hsl hsl2
      go_wp2_with fail
      with_reducible refine (sTermOk_any s v a1 d1 k _ HSL.out).mono ?_
      rintro e w2 ⟨rfl, hb2⟩
      have e3 := cell_low hb2 c3
      have e4 := cell_low hb2 c4
      have e5 := cell_low hb2 c5
      have HL2 := Lib.hid (HLW.out.trans (hb2.mono hws))
      have HSL3 := Lib.hid (HSL2.out.next hb2)
      clear hb2 c0 c1 c2 c3 c4 c5 HSL HSL2
      cases hok : okW s v k 16 with
      | false =>
        have HF : Hid (okEs es = false) := all_no HX.out (by simp only [okE, okT3, hok, Bool.false_and])
        clear hok
        go_wp2_with fail
        go_ret
        exact ⟨by rw [HF.out]; rfl, HL2.out⟩
      | true =>
        have HOK := Lib.hid hok
        clear hok
        go_wp2_with fail
        with_reducible refine (sTermOk_any s' v' a2 d2 k' _ HSL3.out).mono ?_
        rintro e w3 ⟨rfl, hb3⟩
        have HL3 := Lib.hid (HL2.out.trans (hb3.mono HL2.out.size))
        clear hb3 e3 e4 e5 HSL3
        cases hok : okW s' v' k' 16 with
        | false =>
          have HF : Hid (okEs es = false) := all_no HX.out (by simp only [okE, okT3, hok, Bool.and_false])
          clear hok
          go_wp2_with fail
          go_ret
          exact ⟨by rw [HF.out]; rfl, HL3.out⟩
        | true =>
          have HA : Hid ((es.take (j + 1)).all okE = true) := all_take HS.out HX.out (by simp only [okE, okT3, hok, HOK.out, Bool.and_self])
          clear hok
          go_wp2_with fail
          go_roundw
          case rel => exact ⟨j + 1, by go_num, by omega, HA, HL3⟩
          case measure => simp [intOf]; omega
    · have HE : Hid (okEs es = true) := by
        refine (okEs_iff es).2 ⟨by omega, fun x hx => ?_⟩
        have := HS.out
        rw [List.take_of_length_le (by omega)] at this
        exact List.all_eq_true.1 this x hx
      go_wp2_with fail
      go_ret
      exact ⟨by rw [HE.out]; rfl, HLW.out⟩
end Go.Proofs.YtbnbogdglffkmaaDoor

/-! XC: - eqTerm, eqTermS: two copies of one term are found the same. -/
namespace Go.Proofs.YtbnbogdglffkmaaDoor
open Go.RowKit Go.Deep

set_option maxRecDepth 100000 in
set_option maxHeartbeats 1000000 in
/-- eqTerm out of eqTermS. -/
theorem eqTerm_of (s v : Int) (a a' : Option Addr) (n c c' : Nat) (w : World)
    (hS : ∀ w1, Below w.heap.size w w1 → Calls Tryd.prog 33 #[.slice a n c, .slice a' n c'] w1 fun e w' => e = .returned (.bool true) ∧ Below w1.heap.size w1 w') :
    Calls Tryd.prog 15 #[.agg #[.int .i64 s, .int .i64 v, .slice a n c], .agg #[.int .i64 s, .int .i64 v, .slice a' n c']] w fun e w' => e = .returned (.bool true) ∧ Below w.heap.size w w' := by
  have HS := Lib.hid hS
  clear hS
  have e1 : (s != s) = false := by simp
  have e2 : (v != v) = false := by simp
  go_enter Tryd.func15, Tryd.ntmps15
  go_wp2_with fail
  with_reducible refine (HS.out _ ?_).mono ?_
  · exact (((Below.refl _ _).alloc (Nat.le_refl _) _).alloc (by simp) _)
  rintro e w1 ⟨rfl, hb⟩
  have HB : Hid (Below w.heap.size w w1) := (((Below.refl w.heap.size w).alloc (Nat.le_refl _) _).alloc (by simp) _).trans (hb.mono (by simp; omega))
  clear hb
  go_wp2_with fail
  go_ret
  exact ⟨rfl, HB.out⟩

set_option maxRecDepth 100000 in
set_option maxHeartbeats 1000000 in
theorem eqTermS_any (N : Nat) : ∀ (a a' : Option Addr) (c c' : Nat) (k : Fo) (w : World), Sl w 0 w.heap.size a k → Sl w 0 w.heap.size a' k → fsz k ≤ N → N ≤ 1048576 →
    Calls Tryd.prog 33 #[.slice a (flen k) c, .slice a' (flen k) c'] w fun e w' => e = .returned (.bool true) ∧ Below w.heap.size w w' := by
  induction N using Nat.strongRecOn with
  | _ N ih =>
    intro a a' c c' k w hl hl' hN hN2
    have hfl := flen_le (k := k)
    have IH := Lib.hid ih
    clear ih
    have e0 : ((flen k : Int) != (flen k : Int)) = false := by simp
    go_enter Tryd.func33, Tryd.ntmps33
    go_wp2_with fail
    go_loopw [5] (fun i wr => ∃ j : Nat, j ≤ flen k ∧ i = .int .i64 j ∧ Below w.heap.size w wr) (fun i _ => flen k - (intOf i).toNat)
    case atStart => exact ⟨0, by omega, rfl, Below.refl _ _⟩
    case round =>
      obtain ⟨j, hj, rfl, hbl⟩ := hrel
      have hbs := hbl.size
      by_cases hlt : j < flen k
      · rcases hl with rfl | ⟨b, o, rfl, hrow⟩
        · simp [flen] at hlt
        rcases hl' with rfl | ⟨b', o', rfl, hrow'⟩
        · simp [flen] at hlt
        obtain ⟨s1, v1, kk, a1, c1, ⟨x, y, hd⟩, _, hbB, hk0, hk1, hk2, hsl⟩ := row_at (hrow.below hbl) hlt
        obtain ⟨s2, v2, kk2, a2, c2, ⟨x2, y2, hd2⟩, _, hbB', hk3, hk4, hk5, hsl2⟩ := row_at (hrow'.below hbl) hlt
        have hdd := hd.symm.trans hd2
        simp only [BT.node.injEq, Prod.mk.injEq] at hdd
        obtain ⟨_, _, ⟨rfl, rfl⟩, rfl, _⟩ := hdd
        have hkN := fsz_kid' hd
        have HS := Lib.hid hsl
        have HS2 := Lib.hid hsl2
        have HBL := Lib.hid hbl
        clear hd hd2 hsl hsl2 hrow hrow' hbl
        have g1 : (0 : Int) ≤ (j : Int) := by omega
        have g2 : (j : Int) < (flen k : Int) := by omega
        have hu0 : ∀ u : After wr.heap.size wr, u.world.cell? ⟨b, o + j * 3, none⟩ = some (.int .i64 s1) := fun u => u.cell (by simp; omega) hk0
        have hu1 : ∀ u : After wr.heap.size wr, u.world.cell? ⟨b, o + j * 3 + 1, none⟩ = some (.int .i64 v1) := fun u => u.cell (by simp; omega) hk1
        have hu2 : ∀ u : After wr.heap.size wr, u.world.cell? ⟨b, o + j * 3 + 2, none⟩ = some (.slice a1 (flen kk) c1) := fun u => u.cell (by simp; omega) hk2
        have hu3 : ∀ u : After wr.heap.size wr, u.world.cell? ⟨b', o' + j * 3, none⟩ = some (.int .i64 s1) := fun u => u.cell (by simp; omega) hk3
        have hu4 : ∀ u : After wr.heap.size wr, u.world.cell? ⟨b', o' + j * 3 + 1, none⟩ = some (.int .i64 v1) := fun u => u.cell (by simp; omega) hk4
        have hu5 : ∀ u : After wr.heap.size wr, u.world.cell? ⟨b', o' + j * 3 + 2, none⟩ = some (.slice a2 (flen kk) c2) := fun u => u.cell (by simp; omega) hk5
        have HCALL : Hid (∀ u : After wr.heap.size wr, Calls Tryd.prog 15 #[.agg #[.int .i64 s1, .int .i64 v1, .slice a1 (flen kk) c1], .agg #[.int .i64 s1, .int .i64 v1, .slice a2 (flen kk) c2]] u.world fun e w' => e = .returned (.bool true) ∧ Below u.world.heap.size u.world w') := fun u => by
          refine eqTerm_of s1 v1 a1 a2 (flen kk) c1 c2 u.world fun w1 hb1 => ?_
          have hu := u.below
          have hus := hu.size
          have h1s := hb1.size
          refine IH.out (fsz kk) (by omega) a1 a2 c1 c2 kk w1 ?_ ?_ (Nat.le_refl _) (by omega)
          · exact ((HS.out.below (hu.mono (by omega))).below (hb1.mono (by omega))).mono (Nat.le_refl _) (by omega)
          · exact ((HS2.out.below (hu.mono (by omega))).below (hb1.mono (by omega))).mono (Nat.le_refl _) (by omega)
        go_wp2_with fail
        refine wp_region_after wr.heap.size (by kernel_rfl) (by kernel_rfl) ?_
        repeat (go_big_quiet_step ((go_at_call 15; exact Calls.after (After.below ‹_›).size (HCALL.out _))))
        refine wpQuiet_nil ?_
        rintro u ⟨⟨_, hu⟩, rfl⟩
        clear hu0 hu1 hu2 hu3 hu4 hu5 hk0 hk1 hk2 hk3 hk4 hk5
        have HB2 := Lib.hid (HBL.out.trans (hu.mono hbs))
        clear hu
        go_wp2_with fail
        go_roundw
        case rel => exact ⟨j + 1, by omega, by go_num, HB2.out⟩
        case measure => simp [intOf]; omega
      · go_wp2_with fail
        go_ret
        exact ⟨rfl, hbl⟩

theorem eqTerm_any {s v : Int} {a a' : Option Addr} {c c' : Nat} {k : Fo} {w : World} (hl : Sl w 0 w.heap.size a k) (hl' : Sl w 0 w.heap.size a' k) (hN : fsz k ≤ 1048576) :
    Calls Tryd.prog 15 #[.agg #[.int .i64 s, .int .i64 v, .slice a (flen k) c], .agg #[.int .i64 s, .int .i64 v, .slice a' (flen k) c']] w fun e w' => e = .returned (.bool true) ∧ Below w.heap.size w w' :=
  eqTerm_of s v a a' (flen k) c c' w fun _ hb => eqTermS_any (fsz k) a a' c c' k _ ((hl.below hb).mono (Nat.le_refl _) hb.size) ((hl'.below hb).mono (Nat.le_refl _) hb.size) (Nat.le_refl _) hN
end Go.Proofs.YtbnbogdglffkmaaDoor
