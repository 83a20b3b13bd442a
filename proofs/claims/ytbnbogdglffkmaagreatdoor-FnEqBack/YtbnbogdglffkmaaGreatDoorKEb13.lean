/- Several texts in one: ER0, SHc, RD9, RD9b. -/
import Derived.Test.YtbnbogdglffkmaaGreatDoorKEb12
import Derived.Lib.CutLaws
import Derived.Lib.IndexMore
import Derived.Lib.IndexLaws
import Derived.Test.YtbnbogdglffkmaaGreatDoorProg
import Derived.Shelf.Strings.Cut
import Derived.Ground.NamesProg
import Derived.Test.YtbnbogdglffkmaaGreatDoorKEb10
import Derived.Test.YtbnbogdglffkmaaGreatDoorKEb4

/-! ER0: An equation read from a text, as plain data. Definitions and plain lemmas. -/
namespace Go.Proofs.YtbnbogdglffkmaaGreatDoor
open Go.RowKit Go.Deep

theorem dec_no32 {n : Nat} (h : n < 12) : (32 : UInt8) ∉ Lib.decDigits n := fun hm => by
  have := dec_dig h 32 hm
  exact absurd this (by decide)
theorem tx_no32 (N : Nat) : ∀ (s v : Int) (k : Fo), Shape s v k → fsz k ≤ N → (32 : UInt8) ∉ tx s v k := by
  induction N with
  | zero =>
    intro s v k hS hN
    cases hS with
    | var _ h0 h1 =>
      obtain ⟨n, rfl⟩ := Int.eq_ofNat_of_zero_le h0
      rw [show tx 0 (n : Int) .nil = 120 :: Lib.decDigits n from rfl]
      intro hm
      rcases List.mem_cons.1 hm with h | h
      · cases h
      · exact dec_no32 (by have : (n : Int) < 12 := by omega
                           omega) h
    | leaf _ hs =>
      rcases hs with rfl | rfl
      · decide
      · decide
    | one _ _ _ _ h1 h2 => simp [fsz] at hN
    | two _ _ _ _ _ _ _ _ h1 h2 h3 h4 => simp [fsz] at hN
  | succ N ih =>
    intro s v k hS hN
    cases hS with
    | var _ h0 h1 =>
      obtain ⟨n, rfl⟩ := Int.eq_ofNat_of_zero_le h0
      rw [show tx 0 (n : Int) .nil = 120 :: Lib.decDigits n from rfl]
      intro hm
      rcases List.mem_cons.1 hm with h | h
      · cases h
      · exact dec_no32 (by have : (n : Int) < 12 := by omega
                           omega) h
    | leaf _ hs =>
      rcases hs with rfl | rfl
      · decide
      · decide
    | one x y p kk h1 h2 =>
      have hz : fsz kk ≤ N := by simp [fsz] at hN; omega
      have := ih _ _ _ (shape_of h1 h2) hz
      rw [tx_one]
      simp [this]
    | two x y p kk x' y' p' kk' h1 h2 h3 h4 =>
      have hz : fsz kk ≤ N ∧ fsz kk' ≤ N := by simp [fsz] at hN; omega
      have i1 := ih _ _ _ (shape_of h1 h2) hz.1
      have i2 := ih _ _ _ (shape_of h3 h4) hz.2
      rw [tx_two]
      simp [i1, i2]
theorem okW_no32 {s v : Int} {k : Fo} (h : okW s v k 16 = true) : (32 : UInt8) ∉ tx s v k := by
  have ho := (okW_iff _ _ _ _).1 h
  exact tx_no32 _ _ _ _ (shape_of ho.1 ho.2.1) (Nat.le_refl _)

/-- The separator. -/
def sepE : List UInt8 := [32, 61, 32]
/-- The equation that is read from a text. -/
def eqR (l : List UInt8) : Option ((Int × Int × Fo) × (Int × Int × Fo)) :=
  if (Lib.cut l sepE).2.2 = true then (rdR (Lib.cut l sepE).1).bind fun x => (rdR (Lib.cut l sepE).2.1).map fun y => (x, y) else none
theorem cut_sound {l : List UInt8} (h : (Lib.cut l sepE).2.2 = true) : l = (Lib.cut l sepE).1 ++ (sepE ++ (Lib.cut l sepE).2.1) := by
  unfold Lib.cut at h ⊢
  by_cases hi : 0 ≤ Lib.index l sepE
  · rw [if_pos hi]
    rcases Lib.index_spec l sepE with ⟨h1, _⟩ | ⟨i, h1, h2, h3, _⟩
    · omega
    · rw [h1]
      have h4 : sepE <+: l.drop i := by unfold Lib.occAt at h3; exact List.isPrefixOf_iff_prefix.1 h3
      obtain ⟨r, hr⟩ := h4
      have h5 : l.drop (i + sepE.length) = r := by rw [← List.drop_drop, ← hr]; simp
      simp only [Int.toNat_natCast]
      rw [h5, hr, List.take_append_drop]
  · rw [if_neg hi] at h; cases h
theorem occ_no {a b : List UInt8} (ha : (32 : UInt8) ∉ a) {j : Nat} (hj : j < a.length) : Lib.occAt (a ++ b) sepE j = false := by
  unfold Lib.occAt
  have hne : (32 : UInt8) ≠ a[j] := fun e => ha (e ▸ List.getElem_mem _)
  have hd : (a ++ b).drop j = a[j] :: (a.drop (j + 1) ++ b) := by
    rw [List.drop_append_of_le_length (by omega), List.drop_eq_getElem_cons hj]; rfl
  rw [hd]
  show ((32 : UInt8) == a[j] && _) = false
  rw [beq_eq_false_iff_ne.2 hne]; rfl
theorem cut_made {a b : List UInt8} (ha : (32 : UInt8) ∉ a) : Lib.cut (a ++ (sepE ++ b)) sepE = (a, b, true) := by
  have hi : Lib.index (a ++ (sepE ++ b)) sepE = (a.length : Int) := by
    refine Lib.index_hit (fun j hj => occ_no ha hj) (by simp) ?_
    unfold Lib.occAt
    rw [List.drop_left]
    exact List.isPrefixOf_iff_prefix.2 ⟨b, rfl⟩
  unfold Lib.cut
  rw [hi, if_pos (by omega)]
  simp only [Int.toNat_natCast, List.take_left]
  rw [← List.drop_drop, List.drop_left, List.drop_left]
theorem eqR_some {l : List UInt8} {s v : Int} {k : Fo} {s' v' : Int} {k' : Fo} (h : eqR l = some ((s, v, k), s', v', k')) : okW s v k 16 = true ∧ fer k = k ∧ okW s' v' k' 16 = true ∧ fer k' = k' ∧ l = tx s v k ++ (sepE ++ tx s' v' k') := by
  unfold eqR at h
  by_cases hc : (Lib.cut l sepE).2.2 = true
  · rw [if_pos hc] at h
    cases h1 : rdR (Lib.cut l sepE).1 with
    | none => rw [h1] at h; cases h
    | some x =>
      cases h2 : rdR (Lib.cut l sepE).2.1 with
      | none => rw [h1, h2] at h; cases h
      | some y =>
        rw [h1, h2] at h
        simp only [Option.bind_some, Option.map_some, Option.some.injEq, Prod.mk.injEq] at h
        obtain ⟨rfl, rfl⟩ := h
        obtain ⟨a1, a2, a3⟩ := rdR_some h1
        obtain ⟨b1, b2, b3⟩ := rdR_some h2
        refine ⟨a1, a2, b1, b2, ?_⟩
        have := cut_sound hc
        rw [← a3, ← b3] at this
        exact this
  · rw [if_neg hc] at h; cases h
theorem eqR_made {s v : Int} {k : Fo} {s' v' : Int} {k' : Fo} (h : okW s v k 16 = true) (h' : okW s' v' k' 16 = true) : eqR (tx s v k ++ (sepE ++ tx s' v' k')) = some ((s, v, fer k), s', v', fer k') := by
  unfold eqR
  rw [cut_made (okW_no32 h)]
  simp only [if_true]
  rw [rdR_tx h, rdR_tx h']
  rfl
/-- What a reading answers. -/
def eqA (l : List UInt8) : (Int × Int × Fo) × (Int × Int × Fo) × Bool := match eqR l with
  | some (x, y) => (x, y, true)
  | none => ((0, 0, .nil), (0, 0, .nil), false)
theorem eqA_none {l : List UInt8} (h : eqR l = none) : eqA l = ((0, 0, .nil), (0, 0, .nil), false) := by unfold eqA; rw [h]
theorem eqA_some {l : List UInt8} {x y : Int × Int × Fo} (h : eqR l = some (x, y)) : eqA l = (x, y, true) := by unfold eqA; rw [h]
theorem rdA_cases (l : List UInt8) : (rdA l = (0, 0, .nil, false) ∧ rdR l = none) ∨ ∃ s v k, rdA l = (s, v, k, true) ∧ rdR l = some (s, v, k) := by
  unfold rdA
  cases h : rdR l with
  | none => exact .inl ⟨rfl, rfl⟩
  | some t => obtain ⟨s, v, k⟩ := t; exact .inr ⟨s, v, k, rfl, rfl⟩
theorem rdA_true {l : List UInt8} {s v : Int} {k : Fo} (h : rdA l = (s, v, k, true)) : rdR l = some (s, v, k) := by
  rcases rdA_cases l with ⟨h1, h2⟩ | ⟨s', v', k', h1, h2⟩
  · rw [h1] at h; cases h
  · rw [h1] at h; cases h; exact h2
theorem rdA_false {l : List UInt8} {s v : Int} {k : Fo} (h : rdA l = (s, v, k, false)) : rdR l = none := by
  rcases rdA_cases l with ⟨h1, h2⟩ | ⟨s', v', k', h1, h2⟩
  · exact h2
  · rw [h1] at h; cases h
/-- The program's way: its three tests. -/
theorem eqA_cut {l a b : List UInt8} {f t t' : Bool} {s v : Int} {k : Fo} {s' v' : Int} {k' : Fo} (hc : Lib.cut l sepE = (a, b, f)) (h : rdA a = (s, v, k, t)) (h' : rdA b = (s', v', k', t')) :
    eqA l = if f = true ∧ t = true ∧ t' = true then ((s, v, k), (s', v', k'), true) else ((0, 0, .nil), (0, 0, .nil), false) := by
  cases f with
  | false => rw [if_neg (by simp)]; exact eqA_none (by unfold eqR; rw [hc]; rfl)
  | true =>
    cases t with
    | false => rw [if_neg (by simp)]; exact eqA_none (by unfold eqR; rw [hc]; simp [rdA_false h])
    | true =>
      cases t' with
      | false => rw [if_neg (by simp)]; exact eqA_none (by unfold eqR; rw [hc]; simp [rdA_false h'])
      | true => rw [if_pos (by simp)]; exact eqA_some (by unfold eqR; rw [hc]; simp [rdA_true h, rdA_true h'])

/-- A text cut at each blank. -/
def spl : List UInt8 → List (List UInt8)
  | [] => [[]]
  | b :: r => if b = 32 then [] :: spl r else match spl r with
    | x :: xs => (b :: x) :: xs
    | [] => [[b]]
theorem spl_ne : ∀ l : List UInt8, spl l ≠ []
  | [] => by simp [spl]
  | b :: r => by
    unfold spl
    by_cases h : b = 32
    · rw [if_pos h]; simp
    · rw [if_neg h]; split <;> simp
theorem spl_no : ∀ {a : List UInt8}, (32 : UInt8) ∉ a → spl a = [a]
  | [], _ => rfl
  | b :: r, h => by
    have h1 : b ≠ 32 := fun e => h (e ▸ List.mem_cons_self ..)
    have h2 := spl_no fun hm => h (List.mem_cons_of_mem b hm)
    unfold spl
    rw [if_neg h1, h2]
theorem spl_cut : ∀ {a : List UInt8} (r : List UInt8), (32 : UInt8) ∉ a → spl (a ++ 32 :: r) = a :: spl r
  | [], r, _ => by simp [spl]
  | b :: q, r, h => by
    have h1 : b ≠ 32 := fun e => h (e ▸ List.mem_cons_self ..)
    have h2 := spl_cut r fun hm => h (List.mem_cons_of_mem b hm)
    show spl (b :: (q ++ 32 :: r)) = _
    rw [spl, if_neg h1, h2]
theorem spl_made {s v : Int} {k : Fo} {s' v' : Int} {k' : Fo} (h : okW s v k 16 = true) (h' : okW s' v' k' 16 = true) : spl (tx s v k ++ (sepE ++ tx s' v' k')) = [tx s v k, [61], tx s' v' k'] := by
  show spl (tx s v k ++ 32 :: ([61] ++ 32 :: tx s' v' k')) = _
  rw [spl_cut _ (okW_no32 h), spl_cut _ (by decide), spl_no (okW_no32 h')]
theorem spl_len : ∀ l : List UInt8, (spl l).length ≤ l.length + 1
  | [] => by simp [spl]
  | b :: r => by
    have := spl_len r
    unfold spl
    by_cases h : b = 32
    · rw [if_pos h]; simp; omega
    · rw [if_neg h]
      split
      · rename_i x xs e; rw [e] at this; simp at this ⊢; omega
      · simp
theorem spl_mem : ∀ {l x : List UInt8}, x ∈ spl l → x.length ≤ l.length
  | [], x, h => by simp [spl] at h; rw [h]; simp
  | b :: r, x, h => by
    unfold spl at h
    by_cases hb : b = 32
    · rw [if_pos hb] at h
      rcases List.mem_cons.1 h with rfl | h
      · simp
      · have := spl_mem h; simp; omega
    · rw [if_neg hb] at h
      split at h
      · rename_i y ys e
        rcases List.mem_cons.1 h with rfl | h
        · have := spl_mem (l := r) (x := y) (by rw [e]; exact List.mem_cons_self ..); simp; omega
        · have := spl_mem (l := r) (x := x) (by rw [e]; exact List.mem_cons_of_mem _ h); simp; omega
      · simp at h; rw [h]; simp
/-- The specification's way: three words. -/
theorem eqA_len {l : List UInt8} (h : (spl l).length ≠ 3) : eqA l = ((0, 0, .nil), (0, 0, .nil), false) := by
  refine eqA_none ?_
  cases hr : eqR l with
  | none => rfl
  | some x =>
    obtain ⟨⟨s, v, k⟩, s', v', k'⟩ := x
    obtain ⟨h1, _, h2, _, h3⟩ := eqR_some hr
    rw [h3, spl_made h1 h2] at h
    exact absurd rfl h
theorem eqA_no {l a m b : List UInt8} (hs : spl l = [a, m, b]) {s v : Int} {k : Fo} {s' v' : Int} {k' : Fo} {t t' : Bool} (h : rdA a = (s, v, k, t)) (h' : rdA b = (s', v', k', t')) (hno : t = false ∨ t' = false ∨ tx s v k ++ (sepE ++ tx s' v' k') ≠ l) : eqA l = ((0, 0, .nil), (0, 0, .nil), false) := by
  refine eqA_none ?_
  cases hr : eqR l with
  | none => rfl
  | some x =>
    obtain ⟨⟨s2, v2, k2⟩, s3, v3, k3⟩ := x
    obtain ⟨h1, f1, h2, f2, h3⟩ := eqR_some hr
    rw [h3, spl_made h1 h2] at hs
    simp only [List.cons.injEq, and_true] at hs
    obtain ⟨e1, _, e2⟩ := hs
    have r1 : rdA a = (s2, v2, k2, true) := by unfold rdA; rw [← e1, rdR_tx h1, f1]
    have r2 : rdA b = (s3, v3, k3, true) := by unfold rdA; rw [← e2, rdR_tx h2, f2]
    rw [r1] at h; rw [r2] at h'
    simp only [Prod.mk.injEq] at h h'
    obtain ⟨rfl, rfl, rfl, rfl⟩ := h
    obtain ⟨rfl, rfl, rfl, rfl⟩ := h'
    rcases hno with hno | hno | hno
    · cases hno
    · cases hno
    · exact absurd h3.symm hno
theorem eqA_yes {l a b : List UInt8} {s v : Int} {k : Fo} {s' v' : Int} {k' : Fo} (h : rdA a = (s, v, k, true)) (h' : rdA b = (s', v', k', true)) (he : tx s v k ++ (sepE ++ tx s' v' k') = l) : eqA l = ((s, v, k), (s', v', k'), true) := by
  obtain ⟨a1, a2, _⟩ := rdR_some (rdA_true h)
  obtain ⟨b1, b2, _⟩ := rdR_some (rdA_true h')
  refine eqA_some ?_
  rw [← he, eqR_made a1 b1, a2, b2]
end Go.Proofs.YtbnbogdglffkmaaGreatDoor

/-! SHc: The contract of strings.Cut, at this program. -/
namespace Go.Proofs
open Go.Shelf
def Tryz.lays145_ren : Go.Shelf.Ren := ⟨fun | 145 => 30 | 220 => 40 | 219 => 45 | 217 => 50 | 225 => 51 | 224 => 52 | 267 => 53 | 266 => 59 | 314 => 60 | n => n, fun | 9 => 9 | 4 => 4 | 59 => 63 | 3 => 3 | 5 => 5 | 46 => 90 | 146 => 99 | 51 => 98 | n => n, fun | 1 => 0 | n => n⟩
theorem Tryz.lays145 : Go.Proofs.Lays.n145 Tryz.prog Tryz.lays145_ren := {
  mixed := by kernel_rfl
  f145 := Tryz.func30.trans (congrArg some (by kernel_rfl))
  f217 := Tryz.func50.trans (congrArg some (by kernel_rfl))
  f219 := Tryz.func45.trans (congrArg some (by kernel_rfl))
  f220 := Tryz.func40.trans (congrArg some (by kernel_rfl))
  f224 := Tryz.func52.trans (congrArg some (by kernel_rfl))
  f225 := Tryz.func51.trans (congrArg some (by kernel_rfl))
  f266 := Tryz.func59.trans (congrArg some (by kernel_rfl))
  f267 := Tryz.func53.trans (congrArg some (by kernel_rfl))
  f314 := Tryz.func60.trans (congrArg some (by kernel_rfl))
  t3 := Tryz.underlying3
  a3 := Tryz.isAgg3
  z3 := Tryz.sizeOf3
  v3 := Tryz.zeroValue3
  t4 := Tryz.underlying4
  a4 := Tryz.isAgg4
  z4 := Tryz.sizeOf4
  v4 := Tryz.zeroValue4
  t5 := Tryz.underlying5
  a5 := Tryz.isAgg5
  z5 := Tryz.sizeOf5
  v5 := Tryz.zeroValue5
  t9 := Tryz.underlying9
  a9 := Tryz.isAgg9
  z9 := Tryz.sizeOf9
  v9 := Tryz.zeroValue9
  t46 := Tryz.underlying90
  a46 := Tryz.isAgg90
  z46 := Tryz.sizeOf90
  v46 := Tryz.zeroValue90
  t51 := Tryz.underlying98
  a51 := Tryz.isAgg98
  z51 := Tryz.sizeOf98
  v51 := Tryz.zeroValue98
  t59 := Tryz.underlying63
  a59 := Tryz.isAgg63
  z59 := Tryz.sizeOf63
  v59 := Tryz.zeroValue63
  t146 := Tryz.underlying99
  a146 := Tryz.isAgg99
  z146 := Tryz.sizeOf99
  v146 := Tryz.zeroValue99
  g1 := by kernel_rfl }
end Go.Proofs

/-! RD9: What the specification reads from a place on, kid by kid. Plain lemmas. -/
namespace Go.Proofs.YtbnbogdglffkmaaGreatDoor
open Go.RowKit Go.Deep

def hearKs (most : Nat) : Nat → List UInt8 → Fo × Nat
  | 0, _ => (.nil, 0)
  | n + 1, l => (.node 0 0 ((hearN most (l.drop 1)).1.1, (hearN most (l.drop 1)).1.2.1) (hearN most (l.drop 1)).1.2.2 (hearKs most n (l.drop (1 + (hearN most (l.drop 1)).2))).1,
      1 + (hearN most (l.drop 1)).2 + (hearKs most n (l.drop (1 + (hearN most (l.drop 1)).2))).2)
theorem sgnB_range (b : UInt8) : sgnB b = -1 ∨ sgnB b = 1 ∨ sgnB b = 2 ∨ sgnB b = 3 ∨ sgnB b = 4 := by
  unfold sgnB
  split
  · exact .inr (.inl rfl)
  · split
    · exact .inr (.inr (.inl rfl))
    · split
      · exact .inr (.inr (.inr (.inl rfl)))
      · split
        · exact .inr (.inr (.inr (.inr rfl)))
        · exact .inl rfl
theorem hearN_sym {most : Nat} {b : UInt8} (hb : b ≠ 120) (r : List UInt8) {n : Nat} (hn : n = (ar (sgnB b)).toNat) :
    hearN (most + 1) (b :: r) = ((sgnB b, 0, (hearKs most n r).1), 1 + (hearKs most n r).2 + if 0 < n then 1 else 0) := by
  unfold hearN
  rw [if_neg hb]
  rcases sgnB_range b with h | h | h | h | h
  · rw [h] at hn ⊢
    obtain rfl : n = 0 := hn
    rw [if_neg (by decide), if_neg (by decide)]
    rfl
  · rw [h] at hn ⊢
    obtain rfl : n = 0 := hn
    rw [if_neg (by decide), if_neg (by decide)]
    rfl
  · rw [h] at hn ⊢
    obtain rfl : n = 0 := hn
    rw [if_neg (by decide), if_neg (by decide)]
    rfl
  · rw [h] at hn ⊢
    obtain rfl : n = 1 := hn
    rw [if_pos rfl]
    rfl
  · rw [h] at hn ⊢
    obtain rfl : n = 2 := hn
    rw [if_neg (by decide), if_pos rfl]
    simp only [hearKs, List.drop_drop, Nat.add_zero, if_pos (show 0 < 2 by decide)]
    rw [show 1 + (1 + (hearN most (List.drop 1 r)).2 + (1 + (hearN most (List.drop (1 + (hearN most (List.drop 1 r)).2 + 1) r)).2)) + 1 = 1 + (1 + (hearN most (List.drop 1 r)).2) + (1 + (hearN most (List.drop (1 + (hearN most (List.drop 1 r)).2 + 1) r)).2) + 1 from by omega]
theorem hearN_var {most : Nat} (r : List UInt8) : hearN (most + 1) (120 :: r) = ((0, ((hearD 0 r).1 : Int), .nil), 1 + (hearD 0 r).2) := by
  unfold hearN
  rw [if_pos rfl]
theorem hearN_nil (most : Nat) : hearN most [] = ((-1, 0, .nil), 0) := by cases most <;> rfl
theorem hearD_len : ∀ (n : Nat) (l : List UInt8), (hearD n l).2 ≤ l.length
  | _, [] => Nat.le_refl _
  | n, b :: r => by
    unfold hearD
    split
    · have := hearD_len (n * 10 + (b.toNat - 48)) r
      simp only [List.length_cons]
      omega
    · exact Nat.zero_le _
theorem hearD_val : ∀ (n : Nat) (l : List UInt8), n < 1000 → (hearD n l).1 < 1000
  | _, [], h => h
  | n, b :: r, h => by
    unfold hearD
    split
    · rename_i hc
      have hd := hc.1
      unfold isDig at hd
      simp only [Bool.and_eq_true, decide_eq_true_eq] at hd
      exact hearD_val _ r (by omega)
    · exact h
theorem hearN_len : ∀ (most : Nat) (l : List UInt8), (hearN most l).2 ≤ l.length + 3 * most
  | 0, _ => Nat.zero_le _
  | most + 1, [] => Nat.zero_le _
  | most + 1, b :: r => by
    by_cases hb : b = 120
    · subst hb
      rw [hearN_var]
      have := hearD_len 0 r
      simp only [List.length_cons]
      omega
    · rw [hearN_sym hb r rfl]
      have h1 := hearN_len most (r.drop 1)
      have h2 := hearN_len most ((r.drop (1 + (hearN most (r.drop 1)).2)).drop 1)
      have h2' : (hearN most ((r.drop (1 + (hearN most (r.drop 1)).2)).drop 1)).2 ≤ (r.length - (1 + (hearN most (r.drop 1)).2) - 1) + 3 * most := by
        rw [List.length_drop, List.length_drop] at h2
        exact h2
      have h1' : (hearN most (r.drop 1)).2 ≤ (r.length - 1) + 3 * most := by
        rw [List.length_drop] at h1
        exact h1
      have h3 : r.length ≤ 1 + (hearN most (r.drop 1)).2 + 1 → (hearN most ((r.drop (1 + (hearN most (r.drop 1)).2)).drop 1)).2 = 0 := fun h => by
        rw [List.drop_drop, List.drop_eq_nil_of_le (by omega), hearN_nil]
      have h4 : r.length ≤ 1 → (hearN most (r.drop 1)).2 = 0 := fun h => by rw [List.drop_eq_nil_of_le (by omega), hearN_nil]
      simp only [List.length_cons]
      have h12 : (ar (sgnB b)).toNat = 0 ∨ (ar (sgnB b)).toNat = 1 ∨ (ar (sgnB b)).toNat = 2 := by
        rcases sgnB_range b with h | h | h | h | h <;> rw [h] <;> decide
      rcases h12 with h | h | h
      · rw [h]
        simp only [hearKs, Nat.add_zero, Nat.lt_irrefl, if_false]
        omega
      · rw [h]
        simp only [hearKs, Nat.add_zero, if_pos (show 0 < 1 by decide)]
        by_cases hr : r.length ≤ 1
        · have := h4 hr
          omega
        · omega
      · rw [h]
        simp only [hearKs, Nat.add_zero, if_pos (show 0 < 2 by decide)]
        by_cases hr : r.length ≤ 1
        · have := h4 hr
          have := h3 (by omega)
          omega
        · by_cases hr2 : r.length ≤ 1 + (hearN most (r.drop 1)).2 + 1
          · have := h3 hr2
            omega
          · omega

/-- What is read so far, and what is still to be read. -/
def HrSt (most n : Nat) (l0 : List UInt8) (ks : List (Int × Int × Fo)) (d : Nat) : Prop :=
  hearKs most n l0 = (kpre ks (hearKs most (n - ks.length) (l0.drop d)).1, d + (hearKs most (n - ks.length) (l0.drop d)).2)
theorem HrSt.start (most n : Nat) (l0 : List UInt8) : HrSt most n l0 [] 0 := by
  unfold HrSt
  simp only [kpre, List.length_nil, Nat.sub_zero, List.drop_zero, Nat.zero_add]
theorem HrSt.step {most n : Nat} {l0 : List UInt8} {ks : List (Int × Int × Fo)} {d : Nat} {t : Int × Int × Fo} {m : Nat} (h : HrSt most n l0 ks d) (hn : ks.length < n) (hr : hearN most (l0.drop (d + 1)) = (t, m)) : HrSt most n l0 (ks ++ [t]) (d + (1 + m)) := by
  unfold HrSt at h ⊢
  obtain ⟨q, hq⟩ : ∃ q, n - ks.length = q + 1 := ⟨n - ks.length - 1, by omega⟩
  have hq' : n - (ks ++ [t]).length = q := by rw [List.length_append, List.length_singleton]; omega
  rw [h, hq, hq', hearKs, List.drop_drop, hr, List.drop_drop, kpre_snoc]
  simp only [Prod.mk.injEq, true_and]
  omega
theorem HrSt.done {most n : Nat} {l0 : List UInt8} {ks : List (Int × Int × Fo)} {d : Nat} (h : HrSt most n l0 ks d) (hn : ks.length = n) : hearKs most n l0 = (kpre ks .nil, d) := by
  unfold HrSt at h
  rw [h, show n - ks.length = 0 from by omega]
  rfl

theorem own_more {w : World} {base : Nat} {ks : List (Int × Int × Fo)} {f : Fo} {A : Option Addr} {C : Nat} (h : Own w base (kpre ks f) ks.length A C) (g : Fo) : Own w base (kpre ks g) ks.length A C := by
  obtain ⟨xs, hown, hall⟩ := h
  refine ⟨xs, hown, fun i hi => ?_⟩
  obtain ⟨x, y, s', v', kk, a', c', L, H, e, h0, h1, h2, hs, hL, hH, hg⟩ := hall i hi
  have hx : ks[i]? = some ks[i] := List.getElem?_eq_getElem hi
  rw [fdrop_kpre i ks f hx] at e
  simp only [BT.node.injEq, Prod.mk.injEq] at e
  obtain ⟨rfl, rfl, ⟨rfl, rfl⟩, rfl, _⟩ := e
  exact ⟨0, 0, _, _, _, a', c', L, H, fdrop_kpre i ks g hx, h0, h1, h2, hs, hL, hH, hg⟩
end Go.Proofs.YtbnbogdglffkmaaGreatDoor

/-! RD9b: What the specification reads from a place on: the kids so far. Plain lemmas. -/
namespace Go.Proofs.YtbnbogdglffkmaaGreatDoor
open Go.RowKit Go.Deep

/-- What holds at the head of the loop over kids: those of ks are read; the new term lies in block w1.heap.size. -/
structure HeAt (w1 : World) (s : Int) (ks : List (Int × Int × Fo)) (A : Option Addr) (C : Nat) (wr : World) : Prop where
  below : Below w1.heap.size w1 wr
  out0 : wr.cell? ⟨w1.heap.size, 0, none⟩ = some (.int .i64 s)
  out1 : wr.cell? ⟨w1.heap.size, 1, none⟩ = some (.int .i64 0)
  out2 : wr.cell? ⟨w1.heap.size, 2, none⟩ = some (.slice A ks.length C)
  free : wr.frozen? ⟨w1.heap.size, 2, none⟩ = false
  size : w1.heap.size + 1 ≤ wr.heap.size
  own : Own wr (w1.heap.size + 1) (kpre ks .nil) ks.length A C
theorem HeAt.start (w1 : World) (s : Int) : HeAt w1 s [] none 0 (w1.alloc (.cells #[.int .i64 s, .int .i64 0, .slice none 0 0] 25)) := by
  refine ⟨(Below.refl _ _).alloc (Nat.le_refl _) _, by simp, by simp, by simp, by simp, by simp, ⟨[], World.ownsRow_nil _ _ _ _, fun i hi => by simp at hi⟩⟩
theorem HeAt.low {w1 : World} {s : Int} {ks : List (Int × Int × Fo)} {A : Option Addr} {C : Nat} {wr w2 : World} (h : HeAt w1 s ks A C wr) (hb : Below wr.heap.size wr w2) : HeAt w1 s ks A C w2 := by
  have hs := h.size
  exact ⟨h.below.trans (hb.mono (by omega)), cell_low hb h.out0, cell_low hb h.out1, cell_low hb h.out2, by rw [hb.frozen (by simp; omega)]; exact h.free, Nat.le_trans hs hb.size, h.own.low hb (Nat.le_refl _)⟩
theorem own_sl' {w : World} {base : Nat} {ks : List (Int × Int × Fo)} {A : Option Addr} {C : Nat} (h : Own w base (kpre ks .nil) ks.length A C) : Sl w base w.heap.size A (kpre ks .nil) := by
  have hf : flen (kpre ks .nil) = ks.length := by rw [flen_kpre]; simp [flen]
  rw [← hf] at h
  exact h.sl
theorem fdrop_pre : ∀ (ks : List (Int × Int × Fo)) (f : Fo), fdrop ks.length (kpre ks f) = f
  | [], _ => rfl
  | _ :: r, f => by show fdrop (r.length + 1) (kpre (_ :: r) f) = f; rw [kpre, fdrop]; exact fdrop_pre r f
theorem fdrop_pre1 : ∀ (ks : List (Int × Int × Fo)) (p : Int × Int) (kk : Fo), fdrop (ks.length + 1) (kpre ks (.node 0 0 p kk .nil)) = .nil
  | [], _, _ => rfl
  | _ :: r, p, kk => by show fdrop (r.length + 1 + 1) (kpre (_ :: r) _) = _; rw [kpre, fdrop]; exact fdrop_pre1 r p kk
theorem HeAt.step {w1 wr w2 w3 : World} {s : Int} {ks : List (Int × Int × Fo)} {A : Option Addr} {C g cap : Nat} {blk : Obj} {xs : List Value} {s' v' : Int} {kk : Fo} {a2 : Option Addr} {c2 : Nat} (h : HeAt w1 s ks A C wr)
    (hb2 : Below wr.heap.size wr w2) (hl2 : Sl w2 wr.heap.size w2.heap.size a2 kk) (hown : wr.ownsRow (w1.heap.size + 1) 25 3 (.slice A ks.length C) ks.length xs)
    (hall : ∀ i, i < ks.length → ∃ x y s1 v1 k1 a' c' L H, fdrop i (kpre ks (.node 0 0 (s', v') kk .nil)) = .node x y (s1, v1) k1 (fdrop (i + 1) (kpre ks (.node 0 0 (s', v') kk .nil))) ∧
        xs[i * 3]? = some (.int .i64 s1) ∧ xs[i * 3 + 1]? = some (.int .i64 v1) ∧ xs[i * 3 + 2]? = some (.slice a' (flen k1) c') ∧ Sl wr L H a' k1 ∧ w1.heap.size + 1 ≤ L ∧ H ≤ wr.heap.size ∧ (∀ g, (Value.slice A ks.length C).ownBlock = some g → g < L ∨ H ≤ g))
    (hown3 : w3.ownsRow (w1.heap.size + 1) 25 3 (.slice (some ⟨g, 0, none⟩) (ks.length + 1) cap) (ks.length + 1) (xs ++ [.int .i64 s', .int .i64 v', .slice a2 (flen kk) c2]))
    (hgrow : (w2.alloc blk).grownBy w3 (Value.slice A ks.length C).ownBlock) (hatg : (Value.slice A ks.length C).ownBlock = some g ∨ g = w2.heap.size + 1) :
    HeAt w1 s (ks ++ [(s', v', kk)]) (some ⟨g, 0, none⟩) cap (w3.setCell ⟨w1.heap.size, 2, none⟩ (.slice (some ⟨g, 0, none⟩) (ks.length + 1) cap)) := by
  have hs1 := h.size
  have hs2 := hb2.size
  have hs3 := hgrow.size
  simp at hs3
  have hr : ∀ g, (Value.slice A ks.length C).ownBlock = some g → w1.heap.size + 1 ≤ g := fun g hg => (hown.lt g hg).1
  have hcell : ∀ {q : Addr} {u : Value}, wr.cell? q = some u → q.block < w1.heap.size + 1 → w3.cell? q = some u := fun hq hlt =>
    cell_grown hgrow hr (cell_low ((Below.refl _ _).alloc (Nat.le_refl _) _) (cell_low hb2 hq)) hlt
  have hlen : (ks ++ [(s', v', kk)]).length = ks.length + 1 := by simp
  refine ⟨?_, ?_, ?_, ?_, ?_, by simp; omega, ?_⟩
  · exact (((h.below.trans (hb2.mono (by omega))).alloc (by omega) _).grown hgrow (by simp; omega) (fun g hg => by have := hr g hg; omega)).setCell (by simp) _
  · rw [World.cell?_setCell_other _ _ _ _ (by intro h'; have := congrArg Addr.off h'; simp at this)]; exact hcell h.out0 (by simp)
  · rw [World.cell?_setCell_other _ _ _ _ (by intro h'; have := congrArg Addr.off h'; simp at this)]; exact hcell h.out1 (by simp)
  · rw [hlen]; exact World.cell?_setCell_same _ _ _ (hcell h.out2 (by simp))
  · rw [World.frozen?_setCell, hgrow.frozen_far _ (by simp; omega) (fun e => by have := hr _ e.symm; dsimp only at this; omega), World.frozen?_alloc_old _ _ _ (by simp; omega), hb2.frozen (by simp; omega)]
    exact h.free
  · rw [hlen, kpre_snoc]
    have hd : fdrop ks.length (kpre ks (.node 0 0 (s', v') kk .nil)) = .node 0 0 (s', v') kk (fdrop (ks.length + 1) (kpre ks (.node 0 0 (s', v') kk .nil))) := by rw [fdrop_pre, fdrop_pre1]
    exact (Own.append ⟨xs, hown, hown3, hall⟩ hb2 hl2 (by omega) hd hgrow hatg).store (by simp) _
end Go.Proofs.YtbnbogdglffkmaaGreatDoor
