/- Several texts in one: RD0, RD1, SHr, SHt. -/
import Derived.Test.YtbnbogdglffkmaaGreatDoorKEb2
import Derived.Test.YtbnbogdglffkmaaGreatDoorKEb8
import Derived.Lib.AtoiAll
import Derived.Lib.SlTrimSet
import Derived.Lib.Bytealg
import Derived.Lib.Strings
import Derived.Test.YtbnbogdglffkmaaGreatDoorProg
import Derived.Shelf.Small.Strs
import Derived.Shelf.Small.Wraps
import Derived.Shelf.Strings.SlTrimAscii
import Derived.Shelf.Strconv.AtoiAll
import Derived.Ground.NamesProg
import Derived.Shelf.Strconv.Itoa3
import Derived.Shelf.Strings.OnBuilder

/-! RD0: A term read from a text, as plain data: as the program does it, as the specification does. Definitions and plain lemmas. -/
namespace Go.Proofs.YtbnbogdglffkmaaGreatDoor
open Go.RowKit Go.Deep

def isDig (b : UInt8) : Bool := decide (48 ≤ b.toNat) && decide (b.toNat ≤ 57)
theorem nd_iff {l : List UInt8} : nd l ↔ l.takeWhile isDig = [] := by
  cases l with
  | nil => exact ⟨fun _ => rfl, fun _ => nd_nil⟩
  | cons b r =>
    constructor
    · intro h
      have h1 := h b r rfl
      have h2 : isDig b = false := by
        unfold isDig
        rcases h1 with h1 | h1
        · simp; omega
        · simp; omega
      rw [List.takeWhile_cons, h2]; rfl
    · intro h
      rw [List.takeWhile_cons] at h
      intro b' r' e
      obtain ⟨rfl, rfl⟩ := List.cons.inj e
      cases hd : isDig b with
      | true => rw [hd] at h; simp at h
      | false =>
        unfold isDig at hd
        simp at hd
        omega
/-- The number that digits are, if it is a variable's and has no other digits. -/
def numV (d : List UInt8) : Option Nat := (List.range 12).find? fun n => decide (Lib.decDigits n = d)
theorem numV_some {d : List UInt8} {n : Nat} (h : numV d = some n) : n < 12 ∧ Lib.decDigits n = d := by
  have h1 := List.find?_some h
  have h2 := List.mem_of_find?_eq_some h
  exact ⟨List.mem_range.1 h2, by simpa using h1⟩
theorem dec_dig {n : Nat} (h : n < 12) : ∀ b ∈ Lib.decDigits n, isDig b = true := by
  have : n = 0 ∨ n = 1 ∨ n = 2 ∨ n = 3 ∨ n = 4 ∨ n = 5 ∨ n = 6 ∨ n = 7 ∨ n = 8 ∨ n = 9 ∨ n = 10 ∨ n = 11 := by omega
  rcases this with rfl | rfl | rfl | rfl | rfl | rfl | rfl | rfl | rfl | rfl | rfl | rfl
  iterate 10
    · rw [dec_small (by decide)]; decide
  iterate 2
    · rw [dec_great (by decide) (by decide)]; decide
theorem dec_one {m n : Nat} (hm : m < 12) (hn : n < 12) (h : Lib.decDigits m = Lib.decDigits n) : m = n :=
  (dec_inj hm hn nd_nil nd_nil (by rw [h])).1
theorem numV_dec {n : Nat} (h : n < 12) : numV (Lib.decDigits n) = some n := by
  cases hf : numV (Lib.decDigits n) with
  | none =>
    have := List.find?_eq_none.1 hf n (List.mem_range.2 h)
    simp at this
  | some m =>
    obtain ⟨h1, h2⟩ := numV_some hf
    rw [dec_one h1 h h2]
theorem take_dec {n : Nat} (h : n < 12) {r : List UInt8} (hr : nd r) : (Lib.decDigits n ++ r).takeWhile isDig = Lib.decDigits n ∧ (Lib.decDigits n ++ r).dropWhile isDig = r := by
  have h1 : ∀ (d : List UInt8), (∀ b ∈ d, isDig b = true) → (d ++ r).takeWhile isDig = d ∧ (d ++ r).dropWhile isDig = r := by
    intro d
    induction d with
    | nil =>
      intro _
      have h2 := nd_iff.1 hr
      refine ⟨h2, ?_⟩
      cases r with
      | nil => rfl
      | cons b q =>
        rw [List.takeWhile_cons] at h2
        cases hd : isDig b with
        | true => rw [hd] at h2; simp at h2
        | false => simp [hd]
    | cons b d ih =>
      intro hall
      have hb := hall b (List.mem_cons_self ..)
      obtain ⟨i1, i2⟩ := ih fun x hx => hall x (List.mem_cons_of_mem _ hx)
      simp [hb, i1, i2]
  exact h1 _ (dec_dig h)

/-- The rest behind a mark. -/
def skp (m : UInt8) : List UInt8 → Option (List UInt8)
  | b :: r => if b = m then some r else none
  | [] => none
/-- A term from the front of a text; what room is left; what text is left. -/
def rdN : Nat → Nat → List UInt8 → Option ((Int × Int × Fo) × Nat × List UInt8)
  | 0, _, _ => none
  | _ + 1, _, [] => none
  | fuel + 1, room, b :: r =>
    if room < 1 then none
    else if b = 120 then (numV (r.takeWhile isDig)).map fun (n : Nat) => ((0, (n : Int), .nil), room - 1, r.dropWhile isDig)
    else if b = 97 then some ((1, 0, .nil), room - 1, r)
    else if b = 98 then some ((2, 0, .nil), room - 1, r)
    else if b = 103 then
      (skp 40 r).bind fun r1 => (rdN fuel (room - 1) r1).bind fun x => (skp 41 x.2.2).map fun r3 => ((3, 0, .node 0 0 (x.1.1, x.1.2.1) x.1.2.2 .nil), x.2.1, r3)
    else if b = 102 then
      (skp 40 r).bind fun r1 => (rdN fuel (room - 1) r1).bind fun x => (skp 44 x.2.2).bind fun r2 => (rdN fuel x.2.1 r2).bind fun y => (skp 41 y.2.2).map fun r3 =>
        ((4, 0, .node 0 0 (x.1.1, x.1.2.1) x.1.2.2 (.node 0 0 (y.1.1, y.1.2.1) y.1.2.2 .nil)), y.2.1, r3)
    else none
theorem skp_some {m : UInt8} {l r : List UInt8} (h : skp m l = some r) : l = m :: r := by
  cases l with
  | nil => cases h
  | cons b q =>
    have h' : (if b = m then some q else none) = some r := h
    by_cases e : b = m
    · rw [if_pos e] at h'; simp only [Option.some.injEq] at h'; rw [e, h']
    · rw [if_neg e] at h'; cases h'
theorem skp_self (m : UInt8) (r : List UInt8) : skp m (m :: r) = some r := by
  show (if m = m then some r else none) = some r
  rw [if_pos rfl]
theorem shape_ok {s v : Int} {k : Fo} (h : Shape s v k) : okN s v (flen k) = true ∧ fok k = true := by
  cases h with
  | var _ h0 h1 => exact ⟨(okN_iff _ _ _).2 ⟨by simp [flen, ar], fun _ => ⟨h0, h1⟩, fun h => absurd rfl h⟩, rfl⟩
  | leaf _ hs =>
    rcases hs with rfl | rfl
    · exact ⟨by decide, rfl⟩
    · exact ⟨by decide, rfl⟩
  | one _ _ _ _ h1 h2 => exact ⟨by show okN 3 0 1 = true; decide, by simp [fok, h1, h2]⟩
  | two _ _ _ _ _ _ _ _ h1 h2 h3 h4 => exact ⟨by show okN 4 0 2 = true; decide, by simp [fok, h1, h2, h3, h4]⟩
/-- What is read is a term, and its text stood there. -/
theorem rdN_sound : ∀ (fuel room : Nat) (l : List UInt8) {s v : Int} {k : Fo} {room' : Nat} {r : List UInt8}, rdN fuel room l = some ((s, v, k), room', r) → Shape s v k ∧ fer k = k ∧ room' + (1 + fsz k) = room ∧ l = tx s v k ++ r
  | 0, _, _, _, _, _, _, _, h => by simp [rdN] at h
  | _ + 1, _, [], _, _, _, _, _, h => by simp [rdN] at h
  | fuel + 1, room, b :: q, s, v, k, room', r, h => by
    unfold rdN at h
    split at h
    · cases h
    rename_i hroom
    split at h
    · rename_i hb
      obtain ⟨n, hn, h⟩ := Option.map_eq_some_iff.1 h
      simp only [Prod.mk.injEq] at h
      obtain ⟨⟨rfl, rfl, rfl⟩, rfl, rfl⟩ := h
      obtain ⟨h1, h2⟩ := numV_some hn
      refine ⟨.var _ (by omega) (by omega), rfl, by simp [fsz]; omega, ?_⟩
      rw [tx_var, hb, List.cons_append, show ((n : Nat) : Int).toNat = n from by omega, h2, List.takeWhile_append_dropWhile]
    split at h
    · rename_i hb
      simp only [Option.some.injEq, Prod.mk.injEq] at h
      obtain ⟨⟨rfl, rfl, rfl⟩, rfl, rfl⟩ := h
      exact ⟨.leaf _ (.inl rfl), rfl, by simp [fsz]; omega, by rw [tx_l1, hb]; rfl⟩
    split at h
    · rename_i hb
      simp only [Option.some.injEq, Prod.mk.injEq] at h
      obtain ⟨⟨rfl, rfl, rfl⟩, rfl, rfl⟩ := h
      exact ⟨.leaf _ (.inr rfl), rfl, by simp [fsz]; omega, by rw [tx_l2, hb]; rfl⟩
    split at h
    · rename_i hb
      obtain ⟨r1, hr1, h⟩ := Option.bind_eq_some_iff.1 h
      obtain ⟨⟨⟨s1, v1, k1⟩, m1, l1⟩, hx, h⟩ := Option.bind_eq_some_iff.1 h
      obtain ⟨r3, hr3, h⟩ := Option.map_eq_some_iff.1 h
      simp only [Prod.mk.injEq] at h
      obtain ⟨⟨rfl, rfl, rfl⟩, rfl, rfl⟩ := h
      obtain ⟨i1, i2, i3, i4⟩ := rdN_sound fuel _ _ hx
      have hok := shape_ok i1
      refine ⟨.one _ _ _ _ hok.1 hok.2, by simp only [fer, i2], by simp only [fsz]; omega, ?_⟩
      have e3 := skp_some hr3
      dsimp only at e3
      rw [tx_one, hb, skp_some hr1, i4, e3]
      simp
    split at h
    · rename_i hb
      obtain ⟨r1, hr1, h⟩ := Option.bind_eq_some_iff.1 h
      obtain ⟨⟨⟨s1, v1, k1⟩, m1, l1⟩, hx, h⟩ := Option.bind_eq_some_iff.1 h
      obtain ⟨r2, hr2, h⟩ := Option.bind_eq_some_iff.1 h
      obtain ⟨⟨⟨s2, v2, k2⟩, m2, l2⟩, hy, h⟩ := Option.bind_eq_some_iff.1 h
      obtain ⟨r3, hr3, h⟩ := Option.map_eq_some_iff.1 h
      simp only [Prod.mk.injEq] at h
      obtain ⟨⟨rfl, rfl, rfl⟩, rfl, rfl⟩ := h
      obtain ⟨i1, i2, i3, i4⟩ := rdN_sound fuel _ _ hx
      obtain ⟨j1, j2, j3, j4⟩ := rdN_sound fuel _ _ hy
      have hok := shape_ok i1
      have hok2 := shape_ok j1
      refine ⟨.two _ _ _ _ _ _ _ _ hok.1 hok.2 hok2.1 hok2.2, by simp only [fer, i2, j2], by simp only [fsz] at i3 j3 ⊢; omega, ?_⟩
      have e2 := skp_some hr2
      have e3 := skp_some hr3
      dsimp only at e2 e3
      rw [tx_two, hb, skp_some hr1, i4, e2, j4, e3]
      simp
    · cases h
/-- A term's text is read. -/
theorem rdN_tx : ∀ (fuel room : Nat) {s v : Int} {k : Fo} {r : List UInt8}, Shape s v k → 1 + fsz k ≤ room → room ≤ fuel → nd r → rdN fuel room (tx s v k ++ r) = some ((s, v, fer k), room - (1 + fsz k), r)
  | 0, _, _, _, _, _, _, h1, h2, _ => by omega
  | fuel + 1, room, s, v, k, r, h, h1, h2, hr => by
    have nd41 : ∀ q, nd (41 :: q) := fun q => nd_of (by decide)
    have nd44 : ∀ q, nd (44 :: q) := fun q => nd_of (by decide)
    cases h with
    | var _ g0 g1 =>
      rw [tx_var, List.cons_append]
      unfold rdN
      obtain ⟨t1, t2⟩ := take_dec (n := v.toNat) (by omega) hr
      rw [if_neg (by omega), if_pos rfl, t1, t2, numV_dec (by omega)]
      simp only [Option.map_some, fer, fsz]
      rw [show ((v.toNat : Nat) : Int) = v from by omega]
    | leaf _ hs =>
      rcases hs with rfl | rfl
      · rw [tx_l1]
        show rdN (fuel + 1) room (97 :: r) = _
        unfold rdN
        rw [if_neg (by omega), if_neg (by decide), if_pos rfl]
        simp [fsz, fer]
      · rw [tx_l2]
        show rdN (fuel + 1) room (98 :: r) = _
        unfold rdN
        rw [if_neg (by omega), if_neg (by decide), if_neg (by decide), if_pos rfl]
        simp [fsz, fer]
    | one x y p k h3 h4 =>
      simp only [fsz] at h1
      rw [tx_one]
      show rdN (fuel + 1) room (103 :: (40 :: (tx p.1 p.2 k ++ [41]) ++ r)) = _
      unfold rdN
      rw [if_neg (by omega), if_neg (by decide), if_neg (by decide), if_neg (by decide), if_pos rfl, List.cons_append, skp_self, List.append_assoc, List.singleton_append]
      simp only [Option.bind_some]
      rw [rdN_tx fuel (room - 1) (shape_of h3 h4) (by omega) (by omega) (nd41 _)]
      simp only [Option.bind_some, skp_self, Option.map_some, fer, fsz, Option.some.injEq, Prod.mk.injEq, and_true, true_and]
      omega
    | two x y p k x' y' p' k' h3 h4 h5 h6 =>
      simp only [fsz] at h1
      rw [tx_two]
      show rdN (fuel + 1) room (102 :: (40 :: (tx p.1 p.2 k ++ 44 :: (tx p'.1 p'.2 k' ++ [41])) ++ r)) = _
      unfold rdN
      rw [if_neg (by omega), if_neg (by decide), if_neg (by decide), if_neg (by decide), if_neg (by decide), if_pos rfl, List.cons_append, skp_self, List.append_assoc]
      simp only [Option.bind_some, List.cons_append]
      rw [rdN_tx fuel (room - 1) (shape_of h3 h4) (by omega) (by omega) (nd44 _)]
      simp only [Option.bind_some, skp_self, List.append_assoc, List.singleton_append]
      rw [rdN_tx fuel _ (shape_of h5 h6) (by omega) (by omega) (nd41 _)]
      simp only [Option.bind_some, skp_self, Option.map_some, fer, fsz, Option.some.injEq, Prod.mk.injEq, and_true, true_and]
      omega
/-- A text read whole. -/
def rdR (l : List UInt8) : Option (Int × Int × Fo) := match rdN 16 16 l with
  | some (t, _, []) => some t
  | _ => none
theorem rdR_some {l : List UInt8} {s v : Int} {k : Fo} (h : rdR l = some (s, v, k)) : okW s v k 16 = true ∧ fer k = k ∧ tx s v k = l := by
  unfold rdR at h
  split at h
  · rename_i t m hr
    simp only [Option.some.injEq] at h
    subst h
    obtain ⟨h1, h2, h3, h4⟩ := rdN_sound _ _ _ hr
    have hok := shape_ok h1
    exact ⟨(okW_iff _ _ _ _).2 ⟨hok.1, hok.2, by omega⟩, h2, by rw [h4, List.append_nil]⟩
  · cases h
theorem rdR_tx {s v : Int} {k : Fo} (h : okW s v k 16 = true) : rdR (tx s v k) = some (s, v, fer k) := by
  obtain ⟨h1, h2, h3⟩ := (okW_iff _ _ _ _).1 h
  have h4 := rdN_tx 16 16 (shape_of h1 h2) (by omega) (Nat.le_refl _) nd_nil
  rw [List.append_nil] at h4
  unfold rdR
  rw [h4]
theorem rdR_none {l : List UInt8} (h : rdR l = none) {s v : Int} {k : Fo} (hok : okW s v k 16 = true) : tx s v k ≠ l := fun e => by
  rw [← e, rdR_tx hok] at h
  cases h

/-- The number that the specification reads, and of how many digits. -/
def hearD : Nat → List UInt8 → Nat × Nat
  | n, [] => (n, 0)
  | n, b :: r => if isDig b = true ∧ n < 100 then ((hearD (n * 10 + (b.toNat - 48)) r).1, (hearD (n * 10 + (b.toNat - 48)) r).2 + 1) else (n, 0)
def sgnB (b : UInt8) : Int := if b = 97 then 1 else if b = 98 then 2 else if b = 103 then 3 else if b = 102 then 4 else -1
/-- What the specification reads from a place on, and how far. -/
def hearN : Nat → List UInt8 → (Int × Int × Fo) × Nat
  | 0, _ => ((-1, 0, .nil), 0)
  | _ + 1, [] => ((-1, 0, .nil), 0)
  | most + 1, b :: r =>
    if b = 120 then ((0, ((hearD 0 r).1 : Int), .nil), 1 + (hearD 0 r).2)
    else if sgnB b = 3 then
      ((3, 0, .node 0 0 ((hearN most (r.drop 1)).1.1, (hearN most (r.drop 1)).1.2.1) (hearN most (r.drop 1)).1.2.2 .nil), 1 + (1 + (hearN most (r.drop 1)).2) + 1)
    else if sgnB b = 4 then
      let x := hearN most (r.drop 1)
      let y := hearN most (r.drop (1 + x.2 + 1))
      ((4, 0, .node 0 0 (x.1.1, x.1.2.1) x.1.2.2 (.node 0 0 (y.1.1, y.1.2.1) y.1.2.2 .nil)), 1 + (1 + x.2) + (1 + y.2) + 1)
    else ((sgnB b, 0, .nil), 1)
theorem hearD_dec {n : Nat} (h : n < 12) {r : List UInt8} (hr : nd r) : hearD 0 (Lib.decDigits n ++ r) = (n, (Lib.decDigits n).length) := by
  have hz : ∀ m : Nat, hearD m r = (m, 0) := by
    intro m
    cases r with
    | nil => rfl
    | cons b q =>
      have h2 := nd_iff.1 hr
      rw [List.takeWhile_cons] at h2
      cases hd : isDig b with
      | true => rw [hd] at h2; simp at h2
      | false => unfold hearD; rw [if_neg (by rw [hd]; simp)]
  have : n = 0 ∨ n = 1 ∨ n = 2 ∨ n = 3 ∨ n = 4 ∨ n = 5 ∨ n = 6 ∨ n = 7 ∨ n = 8 ∨ n = 9 ∨ n = 10 ∨ n = 11 := by omega
  rcases this with rfl | rfl | rfl | rfl | rfl | rfl | rfl | rfl | rfl | rfl | rfl | rfl
  iterate 10
    · rw [dec_small (by decide)]
      simp only [List.singleton_append]
      unfold hearD
      rw [if_pos (by decide), hz]
      rfl
  iterate 2
    · rw [dec_great (by decide) (by decide)]
      simp only [List.cons_append, List.nil_append]
      unfold hearD
      rw [if_pos (by decide)]
      unfold hearD
      rw [if_pos (by decide), hz]
      rfl
theorem hearN_tx : ∀ (most : Nat) {s v : Int} {k : Fo} {r : List UInt8}, Shape s v k → 1 + fsz k ≤ most → nd r → hearN most (tx s v k ++ r) = ((s, v, fer k), (tx s v k).length)
  | 0, _, _, _, _, _, h1, _ => by omega
  | most + 1, s, v, k, r, h, h1, hr => by
    have nd41 : ∀ q, nd (41 :: q) := fun q => nd_of (by decide)
    have nd44 : ∀ q, nd (44 :: q) := fun q => nd_of (by decide)
    cases h with
    | var _ g0 g1 =>
      rw [tx_var, List.cons_append]
      unfold hearN
      rw [if_pos rfl, hearD_dec (n := v.toNat) (by omega) hr]
      simp only [fer, List.length_cons]
      rw [show ((v.toNat : Nat) : Int) = v from by omega, Nat.add_comm 1]
    | leaf _ hs =>
      rcases hs with rfl | rfl
      · rw [tx_l1]
        show hearN (most + 1) (97 :: r) = _
        unfold hearN
        rw [if_neg (by decide), if_neg (by decide), if_neg (by decide)]
        rfl
      · rw [tx_l2]
        show hearN (most + 1) (98 :: r) = _
        unfold hearN
        rw [if_neg (by decide), if_neg (by decide), if_neg (by decide)]
        rfl
    | one x y p k h3 h4 =>
      simp only [fsz] at h1
      rw [tx_one]
      show hearN (most + 1) (103 :: (40 :: (tx p.1 p.2 k ++ [41]) ++ r)) = _
      unfold hearN
      rw [if_neg (by decide), if_pos (by decide)]
      have e : (40 :: (tx p.1 p.2 k ++ [41]) ++ r : List UInt8).drop 1 = tx p.1 p.2 k ++ (41 :: r) := by simp
      rw [e, hearN_tx most (shape_of h3 h4) (by omega) (nd41 _)]
      simp only [fer, List.length_cons, List.length_append, List.length_nil]
      congr 1
      omega
    | two x y p k x' y' p' k' h3 h4 h5 h6 =>
      simp only [fsz] at h1
      rw [tx_two]
      show hearN (most + 1) (102 :: (40 :: (tx p.1 p.2 k ++ 44 :: (tx p'.1 p'.2 k' ++ [41])) ++ r)) = _
      unfold hearN
      rw [if_neg (by decide), if_neg (by decide), if_pos (by decide)]
      have e : (40 :: (tx p.1 p.2 k ++ 44 :: (tx p'.1 p'.2 k' ++ [41])) ++ r : List UInt8).drop 1 = tx p.1 p.2 k ++ (44 :: (tx p'.1 p'.2 k' ++ (41 :: r))) := by simp
      have e2 : (40 :: (tx p.1 p.2 k ++ 44 :: (tx p'.1 p'.2 k' ++ [41])) ++ r : List UInt8).drop (1 + (tx p.1 p.2 k).length + 1) = tx p'.1 p'.2 k' ++ (41 :: r) := by
        rw [show 1 + (tx p.1 p.2 k).length + 1 = ((tx p.1 p.2 k).length + 1) + 1 from by omega, List.cons_append, List.drop_succ_cons, List.append_assoc, List.cons_append, show (tx p.1 p.2 k).length + 1 = (tx p.1 p.2 k).length + 1 from rfl, ← List.drop_drop]
        simp
      rw [e, hearN_tx most (shape_of h3 h4) (by omega) (nd44 _)]
      dsimp only
      rw [e2, hearN_tx most (shape_of h5 h6) (by omega) (nd41 _)]
      simp only [fer, List.length_cons, List.length_append, List.length_nil]
      congr 1
      omega
/-- What the specification hears has this text just if the text is read so. -/
theorem hear_read (l : List UInt8) : (rdR l = none ∧ ¬ (okW (hearN 16 l).1.1 (hearN 16 l).1.2.1 (hearN 16 l).1.2.2 16 = true ∧ tx (hearN 16 l).1.1 (hearN 16 l).1.2.1 (hearN 16 l).1.2.2 = l)) ∨ (rdR l = some (hearN 16 l).1 ∧ okW (hearN 16 l).1.1 (hearN 16 l).1.2.1 (hearN 16 l).1.2.2 16 = true ∧ tx (hearN 16 l).1.1 (hearN 16 l).1.2.1 (hearN 16 l).1.2.2 = l) := by
  cases h : rdR l with
  | none => exact .inl ⟨rfl, fun h2 => rdR_none h h2.1 h2.2⟩
  | some t =>
    obtain ⟨s, v, k⟩ := t
    obtain ⟨h1, h2, h3⟩ := rdR_some h
    obtain ⟨g1, g2, g3⟩ := (okW_iff _ _ _ _).1 h1
    have h4 := hearN_tx 16 (shape_of g1 g2) (by omega) nd_nil
    rw [List.append_nil, h3, h2] at h4
    rw [h4]
    exact .inr ⟨rfl, h1, h3⟩
end Go.Proofs.YtbnbogdglffkmaaGreatDoor

/-! RD1: What the library's functions give on a text that is read: digits, marks, letters. Plain lemmas. -/
namespace Go.Proofs.YtbnbogdglffkmaaGreatDoor
open Go.RowKit Go.Deep

def digs : List UInt8 := [48, 49, 50, 51, 52, 53, 54, 55, 56, 57]
theorem digs_has (b : UInt8) : digs.contains b = isDig b := by
  by_cases h : 48 ≤ b.toNat ∧ b.toNat ≤ 57
  · have hb : isDig b = true := by simp [isDig, h]
    rw [hb]
    have : b.toNat = 48 ∨ b.toNat = 49 ∨ b.toNat = 50 ∨ b.toNat = 51 ∨ b.toNat = 52 ∨ b.toNat = 53 ∨ b.toNat = 54 ∨ b.toNat = 55 ∨ b.toNat = 56 ∨ b.toNat = 57 := by omega
    rcases this with e | e | e | e | e | e | e | e | e | e
    all_goals
      have e' := congrArg UInt8.ofNat e
      rw [UInt8.ofNat_toNat] at e'
      subst e'
      rfl
  · have hb : isDig b = false := by
      unfold isDig
      by_cases h1 : 48 ≤ b.toNat
      · have : ¬ b.toNat ≤ 57 := fun h2 => h ⟨h1, h2⟩
        simp [this]
      · simp [h1]
    rw [hb]
    cases hc : digs.contains b with
    | false => rfl
    | true =>
      exfalso
      have hm : b ∈ digs := by simpa using hc
      simp only [digs, List.mem_cons, List.not_mem_nil, or_false] at hm
      rcases hm with rfl | rfl | rfl | rfl | rfl | rfl | rfl | rfl | rfl | rfl <;> exact h (by decide)
theorem trim_digs (l : List UInt8) : Lib.trimLeftS l digs = l.dropWhile isDig := by
  unfold Lib.trimLeftS
  congr 1
  funext b
  exact digs_has b
theorem take_digs (l : List UInt8) : l.take (l.length - (l.dropWhile isDig).length) = l.takeWhile isDig := by
  have h : l = l.takeWhile isDig ++ l.dropWhile isDig := (List.takeWhile_append_dropWhile ..).symm
  have hl : l.length = (l.takeWhile isDig).length + (l.dropWhile isDig).length := by
    conv => lhs; rw [h]
    exact List.length_append ..
  rw [show l.length - (l.dropWhile isDig).length = (l.takeWhile isDig).length from by omega]
  have ht := List.take_left (l₁ := l.takeWhile isDig) (l₂ := l.dropWhile isDig)
  rw [List.takeWhile_append_dropWhile] at ht
  exact ht
theorem mem_take_dig {l : List UInt8} : ∀ b ∈ l.takeWhile isDig, isDig b = true := by
  induction l with
  | nil => intro b hb; cases hb
  | cons a r ih =>
    intro b hb
    rw [List.takeWhile_cons] at hb
    cases ha : isDig a with
    | false => rw [ha] at hb; cases hb
    | true =>
      rw [ha] at hb
      rcases List.mem_cons.1 hb with rfl | hb
      · exact ha
      · exact ih b hb

theorem atoi_dec {n : Nat} (h : n < 12) : Lib.atoiAll (Lib.decDigits n) = .ok (n : Int) := by
  by_cases h1 : n < 10
  · rw [dec_small h1]
    have : n = 0 ∨ n = 1 ∨ n = 2 ∨ n = 3 ∨ n = 4 ∨ n = 5 ∨ n = 6 ∨ n = 7 ∨ n = 8 ∨ n = 9 := by omega
    rcases this with rfl | rfl | rfl | rfl | rfl | rfl | rfl | rfl | rfl | rfl <;> rfl
  · rw [dec_great (by omega) (by omega)]
    have : n = 10 ∨ n = 11 := by omega
    rcases this with rfl | rfl <;> rfl
theorem atoi_num {d : List UInt8} {n : Nat} (h : numV d = some n) : Lib.atoiAll d = .ok (n : Int) := by
  obtain ⟨h1, h2⟩ := numV_some h
  rw [← h2]
  exact atoi_dec h1
theorem atoi_pos {d : List UInt8} {v : Int} (hd : ∀ b ∈ d, isDig b = true) (h : Lib.atoiAll d = .ok v) : 0 ≤ v := by
  cases d with
  | nil => cases h
  | cons c r =>
    have hc := hd c (List.mem_cons_self ..)
    have h45 : c.toNat ≠ 45 := by
      intro e
      unfold isDig at hc
      rw [e] at hc
      exact absurd hc (by decide)
    unfold Lib.atoiAll at h
    simp only [h45, false_and, if_false] at h
    split at h
    · cases h
    · cases h
    · split at h
      · cases h
      · injection h with h
        omega
/-- What is made of the digits: a variable's number, or none. -/
theorem num_small {d : List UInt8} {v : Int} (hd : ∀ b ∈ d, isDig b = true) (h : Lib.atoiAll d = .ok v) (h12 : v < 12) (he : Lib.decDigits v.toNat = d) : numV d = some v.toNat := by
  have h0 := atoi_pos hd h
  rw [← he]
  exact numV_dec (by omega)
theorem num_other {d : List UInt8} (h : ∀ n : Nat, n < 12 → Lib.decDigits n ≠ d) : numV d = none := by
  cases hn : numV d with
  | none => rfl
  | some n =>
    obtain ⟨h1, h2⟩ := numV_some hn
    exact absurd h2 (h n h1)

/-- A mark ahead of a text. -/
theorem skp_has {m : UInt8} {l : List UInt8} : (Lib.hasPrefix l [m] = true ∧ ∃ r, l = m :: r ∧ skp m l = some r ∧ Lib.trimPrefix l [m] = r) ∨ (Lib.hasPrefix l [m] = false ∧ skp m l = none ∧ Lib.trimPrefix l [m] = l) := by
  cases l with
  | nil => exact .inr ⟨rfl, rfl, rfl⟩
  | cons b r =>
    by_cases h : b = m
    · subst h
      have hp : Lib.hasPrefix (b :: r) [b] = true := by simp [Lib.hasPrefix]
      exact .inl ⟨hp, r, rfl, skp_self _ _, by simp [Lib.trimPrefix, hp]⟩
    · have hp : Lib.hasPrefix (b :: r) [m] = false := by
        have : (m == b) = false := by simpa using fun e => h e.symm
        show (m == b && ([] : List UInt8).isPrefixOf r) = false
        rw [this]; rfl
      exact .inr ⟨hp, by show (if b = m then some r else none) = none; rw [if_neg h], by simp [Lib.trimPrefix, hp]⟩

/-- The sign of a letter. -/
def sgnI (b : UInt8) : Int := if b = 97 then 1 else if b = 98 then 2 else if b = 103 then 3 else if b = 102 then 4 else 0
theorem index_letter (b : UInt8) : 1 + Lib.indexByte [97, 98, 103, 102] b = sgnI b := by
  unfold sgnI
  by_cases h1 : b = 97
  · subst h1; rfl
  by_cases h2 : b = 98
  · subst h2; rfl
  by_cases h3 : b = 103
  · subst h3; rfl
  by_cases h4 : b = 102
  · subst h4; rfl
  rw [if_neg h1, if_neg h2, if_neg h3, if_neg h4]
  have e1 : ((97 : UInt8) == b) = false := by simpa using fun e => h1 e.symm
  have e2 : ((98 : UInt8) == b) = false := by simpa using fun e => h2 e.symm
  have e3 : ((103 : UInt8) == b) = false := by simpa using fun e => h3 e.symm
  have e4 : ((102 : UInt8) == b) = false := by simpa using fun e => h4 e.symm
  simp [Lib.indexByte, e1, e2, e3, e4]

end Go.Proofs.YtbnbogdglffkmaaGreatDoor

/-! SHr: The contracts of the library's functions that the reader of texts calls, at this program. -/
namespace Go.Proofs
open Go.Shelf
def Tryz.lays103_ren : Go.Shelf.Ren := ⟨fun | 103 => 54 | 210 => 61 | 206 => 69 | n => n, fun | 9 => 9 | 4 => 4 | 24 => 91 | 3 => 3 | n => n, fun | n => n⟩
theorem Tryz.lays103 : Go.Proofs.Lays.n103 Tryz.prog Tryz.lays103_ren := {
  mixed := by kernel_rfl
  f103 := Tryz.func54.trans (congrArg some (by kernel_rfl))
  f206 := Tryz.func69.trans (congrArg some (by kernel_rfl))
  f210 := Tryz.func61.trans (congrArg some (by kernel_rfl))
  t3 := Tryz.underlying3
  a3 := Tryz.isAgg3
  z3 := Tryz.sizeOf3
  v3 := Tryz.zeroValue3
  t4 := Tryz.underlying4
  a4 := Tryz.isAgg4
  z4 := Tryz.sizeOf4
  v4 := Tryz.zeroValue4
  t9 := Tryz.underlying9
  a9 := Tryz.isAgg9
  z9 := Tryz.sizeOf9
  v9 := Tryz.zeroValue9
  t24 := Tryz.underlying91
  a24 := Tryz.isAgg91
  z24 := Tryz.sizeOf91
  v24 := Tryz.zeroValue91 }
def Tryz.lays137_ren : Go.Shelf.Ren := ⟨fun | 137 => 58 | 217 => 50 | 266 => 59 | n => n, fun | 9 => 9 | 5 => 5 | 3 => 3 | n => n, fun | n => n⟩
theorem Tryz.lays137 : Go.Proofs.Lays.n137 Tryz.prog Tryz.lays137_ren := {
  mixed := by kernel_rfl
  f137 := Tryz.func58.trans (congrArg some (by kernel_rfl))
  f217 := Tryz.func50.trans (congrArg some (by kernel_rfl))
  f266 := Tryz.func59.trans (congrArg some (by kernel_rfl))
  t3 := Tryz.underlying3
  a3 := Tryz.isAgg3
  z3 := Tryz.sizeOf3
  v3 := Tryz.zeroValue3
  t5 := Tryz.underlying5
  a5 := Tryz.isAgg5
  z5 := Tryz.sizeOf5
  v5 := Tryz.zeroValue5
  t9 := Tryz.underlying9
  a9 := Tryz.isAgg9
  z9 := Tryz.sizeOf9
  v9 := Tryz.zeroValue9 }
def Tryz.lays161_ren : Go.Shelf.Ren := ⟨fun | 161 => 55 | 231 => 62 | 227 => 63 | 233 => 64 | 235 => 65 | 228 => 70 | 197 => 71 | 151 => 72 | 260 => 79 | 152 => 80 | 137 => 58 | 119 => 88 | 224 => 52 | 225 => 51 | 217 => 50 | 266 => 59 | n => n, fun | 9 => 9 | 4 => 4 | 3 => 3 | 5 => 5 | 117 => 104 | 116 => 103 | 0 => 0 | 124 => 107 | 105 => 111 | 21 => 21 | 119 => 134 | 46 => 90 | 139 => 137 | 138 => 136 | n => n, fun | 3 => 3 | 4 => 4 | n => n⟩
theorem Tryz.lays161 : Go.Proofs.Lays.n161 Tryz.prog Tryz.lays161_ren := {
  mixed := by kernel_rfl
  f119 := Tryz.func88.trans (congrArg some (by kernel_rfl))
  f137 := Tryz.func58.trans (congrArg some (by kernel_rfl))
  f151 := Tryz.func72.trans (congrArg some (by kernel_rfl))
  f152 := Tryz.func80.trans (congrArg some (by kernel_rfl))
  f161 := Tryz.func55.trans (congrArg some (by kernel_rfl))
  f197 := Tryz.func71.trans (congrArg some (by kernel_rfl))
  f217 := Tryz.func50.trans (congrArg some (by kernel_rfl))
  f224 := Tryz.func52.trans (congrArg some (by kernel_rfl))
  f225 := Tryz.func51.trans (congrArg some (by kernel_rfl))
  f227 := Tryz.func63.trans (congrArg some (by kernel_rfl))
  f228 := Tryz.func70.trans (congrArg some (by kernel_rfl))
  f231 := Tryz.func62.trans (congrArg some (by kernel_rfl))
  f233 := Tryz.func64.trans (congrArg some (by kernel_rfl))
  f235 := Tryz.func65.trans (congrArg some (by kernel_rfl))
  f260 := Tryz.func79.trans (congrArg some (by kernel_rfl))
  f266 := Tryz.func59.trans (congrArg some (by kernel_rfl))
  t0 := Tryz.underlying0
  a0 := Tryz.isAgg0
  z0 := Tryz.sizeOf0
  v0 := Tryz.zeroValue0
  t3 := Tryz.underlying3
  a3 := Tryz.isAgg3
  z3 := Tryz.sizeOf3
  v3 := Tryz.zeroValue3
  t4 := Tryz.underlying4
  a4 := Tryz.isAgg4
  z4 := Tryz.sizeOf4
  v4 := Tryz.zeroValue4
  t5 := Tryz.underlying5
  a5 := Tryz.isAgg5
  z5 := Tryz.sizeOf5
  v5 := Tryz.zeroValue5
  t9 := Tryz.underlying9
  a9 := Tryz.isAgg9
  z9 := Tryz.sizeOf9
  v9 := Tryz.zeroValue9
  t21 := Tryz.underlying21
  a21 := Tryz.isAgg21
  z21 := Tryz.sizeOf21
  v21 := Tryz.zeroValue21
  t46 := Tryz.underlying90
  a46 := Tryz.isAgg90
  z46 := Tryz.sizeOf90
  v46 := Tryz.zeroValue90
  t105 := Tryz.underlying111
  a105 := Tryz.isAgg111
  z105 := Tryz.sizeOf111
  v105 := Tryz.zeroValue111
  t116 := Tryz.underlying103
  a116 := Tryz.isAgg103
  z116 := Tryz.sizeOf103
  t117 := Tryz.underlying104
  a117 := Tryz.isAgg104
  z117 := Tryz.sizeOf104
  v117 := Tryz.zeroValue104
  t119 := Tryz.underlying134
  a119 := Tryz.isAgg134
  z119 := Tryz.sizeOf134
  t124 := Tryz.underlying107
  a124 := Tryz.isAgg107
  z124 := Tryz.sizeOf107
  v124 := Tryz.zeroValue107
  t138 := Tryz.underlying136
  a138 := Tryz.isAgg136
  z138 := Tryz.sizeOf136
  v138 := Tryz.zeroValue136
  t139 := Tryz.underlying137
  a139 := Tryz.isAgg137
  z139 := Tryz.sizeOf137
  v139 := Tryz.zeroValue137
  g3 := by kernel_rfl
  g4 := by kernel_rfl }
def Tryz.laysC172_ren : Go.Shelf.Ren := ⟨fun | 172 => 56 | 244 => 66 | 245 => 67 | 247 => 73 | 279 => 74 | 280 => 75 | 281 => 76 | 282 => 77 | 287 => 81 | 316 => 82 | 171 => 57 | 205 => 83 | 321 => 89 | 322 => 90 | 243 => 68 | 246 => 78 | 283 => 84 | 284 => 85 | 285 => 86 | 286 => 87 | 129 => 92 | 317 => 91 | 318 => 93 | 319 => 94 | 320 => 95 | 337 => 96 | 338 => 97 | n => n, fun | 9 => 9 | 3 => 3 | 75 => 95 | 76 => 96 | 4 => 4 | 5 => 5 | 167 => 114 | 37 => 22 | 0 => 0 | 85 => 115 | 2 => 2 | 168 => 117 | 53 => 122 | 175 => 123 | 46 => 90 | 210 => 127 | 127 => 140 | 145 => 143 | 143 => 141 | 21 => 21 | 171 => 129 | 173 => 132 | 212 => 145 | 51 => 98 | 20 => 20 | 213 => 146 | 232 => 150 | 233 => 151 | 80 => 57 | n => n, fun | 15 => 1 | 16 => 2 | 17 => 5 | 18 => 6 | 19 => 7 | n => n⟩
theorem Tryz.laysC172 : Go.Proofs.LaysC.n172 Tryz.prog Tryz.laysC172_ren := {
  mixed := by kernel_rfl
  f129 := Tryz.func92.trans (congrArg some (by kernel_rfl))
  f171 := Tryz.func57.trans (congrArg some (by kernel_rfl))
  f172 := Tryz.func56.trans (congrArg some (by kernel_rfl))
  f205 := Tryz.func83.trans (congrArg some (by kernel_rfl))
  f243 := Tryz.func68.trans (congrArg some (by kernel_rfl))
  f244 := Tryz.func66.trans (congrArg some (by kernel_rfl))
  f245 := Tryz.func67.trans (congrArg some (by kernel_rfl))
  f246 := Tryz.func78.trans (congrArg some (by kernel_rfl))
  f247 := Tryz.func73.trans (congrArg some (by kernel_rfl))
  f279 := Tryz.func74.trans (congrArg some (by kernel_rfl))
  f280 := Tryz.func75.trans (congrArg some (by kernel_rfl))
  f281 := Tryz.func76.trans (congrArg some (by kernel_rfl))
  f282 := Tryz.func77.trans (congrArg some (by kernel_rfl))
  f283 := Tryz.func84.trans (congrArg some (by kernel_rfl))
  f284 := Tryz.func85.trans (congrArg some (by kernel_rfl))
  f285 := Tryz.func86.trans (congrArg some (by kernel_rfl))
  f286 := Tryz.func87.trans (congrArg some (by kernel_rfl))
  f287 := Tryz.func81.trans (congrArg some (by kernel_rfl))
  f316 := Tryz.func82.trans (congrArg some (by kernel_rfl))
  f317 := Tryz.func91.trans (congrArg some (by kernel_rfl))
  f318 := Tryz.func93.trans (congrArg some (by kernel_rfl))
  f319 := Tryz.func94.trans (congrArg some (by kernel_rfl))
  f320 := Tryz.func95.trans (congrArg some (by kernel_rfl))
  f321 := Tryz.func89.trans (congrArg some (by kernel_rfl))
  f322 := Tryz.func90.trans (congrArg some (by kernel_rfl))
  f337 := Tryz.func96.trans (congrArg some (by kernel_rfl))
  f338 := Tryz.func97.trans (congrArg some (by kernel_rfl))
  t0 := Tryz.underlying0
  a0 := Tryz.isAgg0
  z0 := Tryz.sizeOf0
  v0 := Tryz.zeroValue0
  t2 := Tryz.underlying2
  a2 := Tryz.isAgg2
  z2 := Tryz.sizeOf2
  v2 := Tryz.zeroValue2
  t3 := Tryz.underlying3
  a3 := Tryz.isAgg3
  z3 := Tryz.sizeOf3
  v3 := Tryz.zeroValue3
  t4 := Tryz.underlying4
  a4 := Tryz.isAgg4
  z4 := Tryz.sizeOf4
  v4 := Tryz.zeroValue4
  t5 := Tryz.underlying5
  a5 := Tryz.isAgg5
  z5 := Tryz.sizeOf5
  v5 := Tryz.zeroValue5
  t9 := Tryz.underlying9
  a9 := Tryz.isAgg9
  z9 := Tryz.sizeOf9
  v9 := Tryz.zeroValue9
  t20 := Tryz.underlying20
  a20 := Tryz.isAgg20
  z20 := Tryz.sizeOf20
  v20 := Tryz.zeroValue20
  t21 := Tryz.underlying21
  a21 := Tryz.isAgg21
  z21 := Tryz.sizeOf21
  v21 := Tryz.zeroValue21
  t37 := Tryz.underlying22
  a37 := Tryz.isAgg22
  z37 := Tryz.sizeOf22
  v37 := Tryz.zeroValue22
  t46 := Tryz.underlying90
  a46 := Tryz.isAgg90
  z46 := Tryz.sizeOf90
  v46 := Tryz.zeroValue90
  t51 := Tryz.underlying98
  a51 := Tryz.isAgg98
  z51 := Tryz.sizeOf98
  v51 := Tryz.zeroValue98
  t53 := Tryz.underlying122
  a53 := Tryz.isAgg122
  z53 := Tryz.sizeOf122
  v53 := Tryz.zeroValue122
  t75 := Tryz.underlying95
  a75 := Tryz.isAgg95
  z75 := Tryz.sizeOf95
  v75 := Tryz.zeroValue95
  t76 := Tryz.underlying96
  a76 := Tryz.isAgg96
  z76 := Tryz.sizeOf96
  v76 := Tryz.zeroValue96
  t85 := Tryz.underlying115
  a85 := Tryz.isAgg115
  z85 := Tryz.sizeOf115
  v85 := Tryz.zeroValue115
  t127 := Tryz.underlying140
  a127 := Tryz.isAgg140
  z127 := Tryz.sizeOf140
  v127 := Tryz.zeroValue140
  t143 := Tryz.underlying141
  a143 := Tryz.isAgg141
  z143 := Tryz.sizeOf141
  v143 := Tryz.zeroValue141
  t145 := Tryz.underlying143
  a145 := Tryz.isAgg143
  z145 := Tryz.sizeOf143
  v145 := Tryz.zeroValue143
  t167 := Tryz.underlying114
  a167 := Tryz.isAgg114
  z167 := Tryz.sizeOf114
  v167 := Tryz.zeroValue114
  t168 := Tryz.underlying117
  a168 := Tryz.isAgg117
  z168 := Tryz.sizeOf117
  v168 := Tryz.zeroValue117
  t171 := Tryz.underlying129
  a171 := Tryz.isAgg129
  z171 := Tryz.sizeOf129
  v171 := Tryz.zeroValue129
  t173 := Tryz.underlying132
  a173 := Tryz.isAgg132
  z173 := Tryz.sizeOf132
  v173 := Tryz.zeroValue132
  t175 := Tryz.underlying123
  a175 := Tryz.isAgg123
  z175 := Tryz.sizeOf123
  v175 := Tryz.zeroValue123
  t210 := Tryz.underlying127
  a210 := Tryz.isAgg127
  z210 := Tryz.sizeOf127
  v210 := Tryz.zeroValue127
  t212 := Tryz.underlying145
  a212 := Tryz.isAgg145
  z212 := Tryz.sizeOf145
  v212 := Tryz.zeroValue145
  t213 := Tryz.underlying146
  a213 := Tryz.isAgg146
  z213 := Tryz.sizeOf146
  t232 := Tryz.underlying150
  a232 := Tryz.isAgg150
  z232 := Tryz.sizeOf150
  v232 := Tryz.zeroValue150
  t233 := Tryz.underlying151
  a233 := Tryz.isAgg151
  z233 := Tryz.sizeOf151
  v233 := Tryz.zeroValue151
  g15 := by kernel_rfl
  g16 := by kernel_rfl
  g17 := by kernel_rfl
  g18 := by kernel_rfl
  g19 := by kernel_rfl
  t80 := Tryz.underlying57
  a80 := Tryz.isAgg57
  z80 := Tryz.sizeOf57
  v80 := Tryz.zeroValue57
  i0 := by kernel_rfl
  i2 := by kernel_rfl
  i3 := by kernel_rfl
  i4 := by kernel_rfl
  i5 := by kernel_rfl
  i9 := by kernel_rfl
  i20 := by kernel_rfl
  i21 := by kernel_rfl
  i37 := by kernel_rfl
  i46 := by kernel_rfl
  i51 := by kernel_rfl
  i53 := by kernel_rfl
  i75 := by kernel_rfl
  i76 := by kernel_rfl
  i80 := by kernel_rfl
  i85 := by kernel_rfl
  i127 := by kernel_rfl
  i143 := by kernel_rfl
  i145 := by kernel_rfl
  i167 := by kernel_rfl
  i168 := by kernel_rfl
  i171 := by kernel_rfl
  i173 := by kernel_rfl
  i175 := by kernel_rfl
  i210 := by kernel_rfl
  i212 := by kernel_rfl
  i232 := by kernel_rfl
  i233 := by kernel_rfl
  m15 := by kernel_rfl
  m16 := by kernel_rfl
  m17 := by kernel_rfl
  m18 := by kernel_rfl
  m19 := by kernel_rfl
  c0 := by kernel_rfl
  c2 := by kernel_rfl
  c3 := by kernel_rfl
  c4 := by kernel_rfl
  c5 := by kernel_rfl
  c9 := by kernel_rfl
  c20 := by kernel_rfl
  c21 := by kernel_rfl
  c37 := by kernel_rfl
  c46 := by kernel_rfl
  c51 := by kernel_rfl
  c53 := by kernel_rfl
  c75 := by kernel_rfl
  c76 := by kernel_rfl
  c80 := by kernel_rfl
  c85 := by kernel_rfl
  c127 := by kernel_rfl
  c143 := by kernel_rfl
  c145 := by kernel_rfl
  c167 := by kernel_rfl
  c168 := by kernel_rfl
  c171 := by kernel_rfl
  c173 := by kernel_rfl
  c175 := by kernel_rfl
  c210 := by kernel_rfl
  c212 := by kernel_rfl
  c213 := by kernel_rfl
  c232 := by kernel_rfl
  c233 := by kernel_rfl }
end Go.Proofs

/-! SHt: The contracts of strconv.Itoa and strings.Builder at this program. -/
namespace Go.Proofs
open Go.Shelf
def Tryz.lays171_ren : Go.Shelf.Ren := ⟨fun | 171 => 57 | 243 => 68 | 246 => 78 | 283 => 84 | 284 => 85 | 285 => 86 | 286 => 87 | 129 => 92 | 317 => 91 | 318 => 93 | 319 => 94 | 320 => 95 | 337 => 96 | 338 => 97 | n => n, fun | 3 => 3 | 9 => 9 | 2 => 2 | 4 => 4 | 171 => 129 | 0 => 0 | 53 => 122 | 37 => 22 | 5 => 5 | 173 => 132 | 212 => 145 | 51 => 98 | 20 => 20 | 213 => 146 | 46 => 90 | 232 => 150 | 233 => 151 | n => n, fun | 17 => 5 | 18 => 6 | 19 => 7 | n => n⟩
theorem Tryz.lays171 : Go.Proofs.Lays.n171 Tryz.prog Tryz.lays171_ren := {
  mixed := by kernel_rfl
  f129 := Tryz.func92.trans (congrArg some (by kernel_rfl))
  f171 := Tryz.func57.trans (congrArg some (by kernel_rfl))
  f243 := Tryz.func68.trans (congrArg some (by kernel_rfl))
  f246 := Tryz.func78.trans (congrArg some (by kernel_rfl))
  f283 := Tryz.func84.trans (congrArg some (by kernel_rfl))
  f284 := Tryz.func85.trans (congrArg some (by kernel_rfl))
  f285 := Tryz.func86.trans (congrArg some (by kernel_rfl))
  f286 := Tryz.func87.trans (congrArg some (by kernel_rfl))
  f317 := Tryz.func91.trans (congrArg some (by kernel_rfl))
  f318 := Tryz.func93.trans (congrArg some (by kernel_rfl))
  f319 := Tryz.func94.trans (congrArg some (by kernel_rfl))
  f320 := Tryz.func95.trans (congrArg some (by kernel_rfl))
  f337 := Tryz.func96.trans (congrArg some (by kernel_rfl))
  f338 := Tryz.func97.trans (congrArg some (by kernel_rfl))
  t0 := Tryz.underlying0
  a0 := Tryz.isAgg0
  z0 := Tryz.sizeOf0
  v0 := Tryz.zeroValue0
  t2 := Tryz.underlying2
  a2 := Tryz.isAgg2
  z2 := Tryz.sizeOf2
  v2 := Tryz.zeroValue2
  t3 := Tryz.underlying3
  a3 := Tryz.isAgg3
  z3 := Tryz.sizeOf3
  v3 := Tryz.zeroValue3
  t4 := Tryz.underlying4
  a4 := Tryz.isAgg4
  z4 := Tryz.sizeOf4
  v4 := Tryz.zeroValue4
  t5 := Tryz.underlying5
  a5 := Tryz.isAgg5
  z5 := Tryz.sizeOf5
  v5 := Tryz.zeroValue5
  t9 := Tryz.underlying9
  a9 := Tryz.isAgg9
  z9 := Tryz.sizeOf9
  v9 := Tryz.zeroValue9
  t20 := Tryz.underlying20
  a20 := Tryz.isAgg20
  z20 := Tryz.sizeOf20
  v20 := Tryz.zeroValue20
  t37 := Tryz.underlying22
  a37 := Tryz.isAgg22
  z37 := Tryz.sizeOf22
  v37 := Tryz.zeroValue22
  t46 := Tryz.underlying90
  a46 := Tryz.isAgg90
  z46 := Tryz.sizeOf90
  v46 := Tryz.zeroValue90
  t51 := Tryz.underlying98
  a51 := Tryz.isAgg98
  z51 := Tryz.sizeOf98
  v51 := Tryz.zeroValue98
  t53 := Tryz.underlying122
  a53 := Tryz.isAgg122
  z53 := Tryz.sizeOf122
  v53 := Tryz.zeroValue122
  t171 := Tryz.underlying129
  a171 := Tryz.isAgg129
  z171 := Tryz.sizeOf129
  v171 := Tryz.zeroValue129
  t173 := Tryz.underlying132
  a173 := Tryz.isAgg132
  z173 := Tryz.sizeOf132
  v173 := Tryz.zeroValue132
  t212 := Tryz.underlying145
  a212 := Tryz.isAgg145
  z212 := Tryz.sizeOf145
  v212 := Tryz.zeroValue145
  t213 := Tryz.underlying146
  a213 := Tryz.isAgg146
  z213 := Tryz.sizeOf146
  t232 := Tryz.underlying150
  a232 := Tryz.isAgg150
  z232 := Tryz.sizeOf150
  v232 := Tryz.zeroValue150
  t233 := Tryz.underlying151
  a233 := Tryz.isAgg151
  z233 := Tryz.sizeOf151
  v233 := Tryz.zeroValue151
  g17 := by kernel_rfl
  g18 := by kernel_rfl
  g19 := by kernel_rfl }
def Tryz.lays156_ren : Go.Shelf.Ren := ⟨fun | 156 => 120 | 165 => 121 | 166 => 122 | 169 => 123 | 240 => 124 | 241 => 125 | 276 => 126 | 277 => 127 | n => n, fun | 31 => 46 | 9 => 9 | 3 => 3 | 4 => 4 | 0 => 0 | 20 => 20 | 72 => 169 | 76 => 96 | 70 => 167 | 37 => 22 | 75 => 95 | 127 => 140 | 164 => 171 | 5 => 5 | 80 => 57 | n => n, fun | n => n⟩
theorem Tryz.lays156 : Go.Proofs.Lays.n156 Tryz.prog Tryz.lays156_ren := {
  mixed := by kernel_rfl
  f156 := Tryz.func120.trans (congrArg some (by kernel_rfl))
  f165 := Tryz.func121.trans (congrArg some (by kernel_rfl))
  f166 := Tryz.func122.trans (congrArg some (by kernel_rfl))
  f169 := Tryz.func123.trans (congrArg some (by kernel_rfl))
  f240 := Tryz.func124.trans (congrArg some (by kernel_rfl))
  f241 := Tryz.func125.trans (congrArg some (by kernel_rfl))
  f276 := Tryz.func126.trans (congrArg some (by kernel_rfl))
  f277 := Tryz.func127.trans (congrArg some (by kernel_rfl))
  t0 := Tryz.underlying0
  a0 := Tryz.isAgg0
  z0 := Tryz.sizeOf0
  v0 := Tryz.zeroValue0
  t3 := Tryz.underlying3
  a3 := Tryz.isAgg3
  z3 := Tryz.sizeOf3
  v3 := Tryz.zeroValue3
  t4 := Tryz.underlying4
  a4 := Tryz.isAgg4
  z4 := Tryz.sizeOf4
  v4 := Tryz.zeroValue4
  t9 := Tryz.underlying9
  a9 := Tryz.isAgg9
  z9 := Tryz.sizeOf9
  v9 := Tryz.zeroValue9
  t20 := Tryz.underlying20
  a20 := Tryz.isAgg20
  z20 := Tryz.sizeOf20
  v20 := Tryz.zeroValue20
  t31 := Tryz.underlying46
  a31 := Tryz.isAgg46
  z31 := Tryz.sizeOf46
  v31 := Tryz.zeroValue46
  t37 := Tryz.underlying22
  a37 := Tryz.isAgg22
  z37 := Tryz.sizeOf22
  v37 := Tryz.zeroValue22
  t70 := Tryz.underlying167
  a70 := Tryz.isAgg167
  z70 := Tryz.sizeOf167
  v70 := Tryz.zeroValue167
  t72 := Tryz.underlying169
  a72 := Tryz.isAgg169
  z72 := Tryz.sizeOf169
  v72 := Tryz.zeroValue169
  t75 := Tryz.underlying95
  a75 := Tryz.isAgg95
  z75 := Tryz.sizeOf95
  v75 := Tryz.zeroValue95
  t76 := Tryz.underlying96
  a76 := Tryz.isAgg96
  z76 := Tryz.sizeOf96
  v76 := Tryz.zeroValue96
  t127 := Tryz.underlying140
  a127 := Tryz.isAgg140
  z127 := Tryz.sizeOf140
  v127 := Tryz.zeroValue140
  t164 := Tryz.underlying171
  a164 := Tryz.isAgg171
  z164 := Tryz.sizeOf171
  v164 := Tryz.zeroValue171 }
end Go.Proofs
