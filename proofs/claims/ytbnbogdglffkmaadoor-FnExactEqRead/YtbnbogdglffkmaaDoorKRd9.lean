/- Several texts in one: RD0, RD1, RD3, RD9, RD9b. -/
import Derived.Test.YtbnbogdglffkmaaDoorKRd2
import Derived.Test.YtbnbogdglffkmaaDoorKRd8
import Derived.Lib.AtoiAll
import Derived.Lib.SlTrimSet
import Derived.Lib.Bytealg
import Derived.Lib.Strings
import Derived.Test.YtbnbogdglffkmaaDoorKRd4

/-! RD0: A term read from a text, as plain data: as the program does it, as the specification does. Definitions and plain lemmas. -/
namespace Go.Proofs.YtbnbogdglffkmaaDoor
open Go.RowKit Go.Deep

def isDig (b : UInt8) : Bool := decide (48 ≤ b.toNat) && decide (b.toNat ≤ 57)
theorem nd_iff {l : List UInt8} : nd l ↔ l.takeWhile isDig = [] := by
  cases l with
  | nil => exact ⟨fun _ => rfl, fun _ => nd_nil⟩
  | cons b r =>
    constructor
    · intro h
      have h1 := h b r rfl
      have h2 : isDig b = false := by
        unfold isDig
        rcases h1 with h1 | h1
        · simp; omega
        · simp; omega
      rw [List.takeWhile_cons, h2]; rfl
    · intro h
      rw [List.takeWhile_cons] at h
      intro b' r' e
      obtain ⟨rfl, rfl⟩ := List.cons.inj e
      cases hd : isDig b with
      | true => rw [hd] at h; simp at h
      | false =>
        unfold isDig at hd
        simp at hd
        omega
/-- The number that digits are, if it is a variable's and has no other digits. -/
def numV (d : List UInt8) : Option Nat := (List.range 12).find? fun n => decide (Lib.decDigits n = d)
theorem numV_some {d : List UInt8} {n : Nat} (h : numV d = some n) : n < 12 ∧ Lib.decDigits n = d := by
  have h1 := List.find?_some h
  have h2 := List.mem_of_find?_eq_some h
  exact ⟨List.mem_range.1 h2, by simpa using h1⟩
theorem dec_dig {n : Nat} (h : n < 12) : ∀ b ∈ Lib.decDigits n, isDig b = true := by
  have : n = 0 ∨ n = 1 ∨ n = 2 ∨ n = 3 ∨ n = 4 ∨ n = 5 ∨ n = 6 ∨ n = 7 ∨ n = 8 ∨ n = 9 ∨ n = 10 ∨ n = 11 := by omega
  rcases this with rfl | rfl | rfl | rfl | rfl | rfl | rfl | rfl | rfl | rfl | rfl | rfl
  iterate 10
    · rw [dec_small (by decide)]; decide
  iterate 2
    · rw [dec_great (by decide) (by decide)]; decide
theorem dec_one {m n : Nat} (hm : m < 12) (hn : n < 12) (h : Lib.decDigits m = Lib.decDigits n) : m = n :=
  (dec_inj hm hn nd_nil nd_nil (by rw [h])).1
theorem numV_dec {n : Nat} (h : n < 12) : numV (Lib.decDigits n) = some n := by
  cases hf : numV (Lib.decDigits n) with
  | none =>
    have := List.find?_eq_none.1 hf n (List.mem_range.2 h)
    simp at this
  | some m =>
    obtain ⟨h1, h2⟩ := numV_some hf
    rw [dec_one h1 h h2]
theorem take_dec {n : Nat} (h : n < 12) {r : List UInt8} (hr : nd r) : (Lib.decDigits n ++ r).takeWhile isDig = Lib.decDigits n ∧ (Lib.decDigits n ++ r).dropWhile isDig = r := by
  have h1 : ∀ (d : List UInt8), (∀ b ∈ d, isDig b = true) → (d ++ r).takeWhile isDig = d ∧ (d ++ r).dropWhile isDig = r := by
    intro d
    induction d with
    | nil =>
      intro _
      have h2 := nd_iff.1 hr
      refine ⟨h2, ?_⟩
      cases r with
      | nil => rfl
      | cons b q =>
        rw [List.takeWhile_cons] at h2
        cases hd : isDig b with
        | true => rw [hd] at h2; simp at h2
        | false => simp [hd]
    | cons b d ih =>
      intro hall
      have hb := hall b (List.mem_cons_self ..)
      obtain ⟨i1, i2⟩ := ih fun x hx => hall x (List.mem_cons_of_mem _ hx)
      simp [hb, i1, i2]
  exact h1 _ (dec_dig h)

/-- The rest behind a mark. -/
def skp (m : UInt8) : List UInt8 → Option (List UInt8)
  | b :: r => if b = m then some r else none
  | [] => none
/-- A term from the front of a text; what room is left; what text is left. -/
def rdN : Nat → Nat → List UInt8 → Option ((Int × Int × Fo) × Nat × List UInt8)
  | 0, _, _ => none
  | _ + 1, _, [] => none
  | fuel + 1, room, b :: r =>
    if room < 1 then none
    else if b = 120 then (numV (r.takeWhile isDig)).map fun (n : Nat) => ((0, (n : Int), .nil), room - 1, r.dropWhile isDig)
    else if b = 97 then some ((1, 0, .nil), room - 1, r)
    else if b = 98 then some ((2, 0, .nil), room - 1, r)
    else if b = 103 then
      (skp 40 r).bind fun r1 => (rdN fuel (room - 1) r1).bind fun x => (skp 41 x.2.2).map fun r3 => ((3, 0, .node 0 0 (x.1.1, x.1.2.1) x.1.2.2 .nil), x.2.1, r3)
    else if b = 102 then
      (skp 40 r).bind fun r1 => (rdN fuel (room - 1) r1).bind fun x => (skp 44 x.2.2).bind fun r2 => (rdN fuel x.2.1 r2).bind fun y => (skp 41 y.2.2).map fun r3 =>
        ((4, 0, .node 0 0 (x.1.1, x.1.2.1) x.1.2.2 (.node 0 0 (y.1.1, y.1.2.1) y.1.2.2 .nil)), y.2.1, r3)
    else none
theorem skp_some {m : UInt8} {l r : List UInt8} (h : skp m l = some r) : l = m :: r := by
  cases l with
  | nil => cases h
  | cons b q =>
    have h' : (if b = m then some q else none) = some r := h
    by_cases e : b = m
    · rw [if_pos e] at h'; simp only [Option.some.injEq] at h'; rw [e, h']
    · rw [if_neg e] at h'; cases h'
theorem skp_self (m : UInt8) (r : List UInt8) : skp m (m :: r) = some r := by
  show (if m = m then some r else none) = some r
  rw [if_pos rfl]
theorem shape_ok {s v : Int} {k : Fo} (h : Shape s v k) : okN s v (flen k) = true ∧ fok k = true := by
  cases h with
  | var _ h0 h1 => exact ⟨(okN_iff _ _ _).2 ⟨by simp [flen, ar], fun _ => ⟨h0, h1⟩, fun h => absurd rfl h⟩, rfl⟩
  | leaf _ hs =>
    rcases hs with rfl | rfl
    · exact ⟨by decide, rfl⟩
    · exact ⟨by decide, rfl⟩
  | one _ _ _ _ h1 h2 => exact ⟨by show okN 3 0 1 = true; decide, by simp [fok, h1, h2]⟩
  | two _ _ _ _ _ _ _ _ h1 h2 h3 h4 => exact ⟨by show okN 4 0 2 = true; decide, by simp [fok, h1, h2, h3, h4]⟩
/-- What is read is a term, and its text stood there. -/
theorem rdN_sound : ∀ (fuel room : Nat) (l : List UInt8) {s v : Int} {k : Fo} {room' : Nat} {r : List UInt8}, rdN fuel room l = some ((s, v, k), room', r) → Shape s v k ∧ fer k = k ∧ room' + (1 + fsz k) = room ∧ l = tx s v k ++ r
  | 0, _, _, _, _, _, _, _, h => by simp [rdN] at h
  | _ + 1, _, [], _, _, _, _, _, h => by simp [rdN] at h
  | fuel + 1, room, b :: q, s, v, k, room', r, h => by
    unfold rdN at h
    split at h
    · cases h
    rename_i hroom
    split at h
    · rename_i hb
      obtain ⟨n, hn, h⟩ := Option.map_eq_some_iff.1 h
      simp only [Prod.mk.injEq] at h
      obtain ⟨⟨rfl, rfl, rfl⟩, rfl, rfl⟩ := h
      obtain ⟨h1, h2⟩ := numV_some hn
      refine ⟨.var _ (by omega) (by omega), rfl, by simp [fsz]; omega, ?_⟩
      rw [tx_var, hb, List.cons_append, show ((n : Nat) : Int).toNat = n from by omega, h2, List.takeWhile_append_dropWhile]
    split at h
    · rename_i hb
      simp only [Option.some.injEq, Prod.mk.injEq] at h
      obtain ⟨⟨rfl, rfl, rfl⟩, rfl, rfl⟩ := h
      exact ⟨.leaf _ (.inl rfl), rfl, by simp [fsz]; omega, by rw [tx_l1, hb]; rfl⟩
    split at h
    · rename_i hb
      simp only [Option.some.injEq, Prod.mk.injEq] at h
      obtain ⟨⟨rfl, rfl, rfl⟩, rfl, rfl⟩ := h
      exact ⟨.leaf _ (.inr rfl), rfl, by simp [fsz]; omega, by rw [tx_l2, hb]; rfl⟩
    split at h
    · rename_i hb
      obtain ⟨r1, hr1, h⟩ := Option.bind_eq_some_iff.1 h
      obtain ⟨⟨⟨s1, v1, k1⟩, m1, l1⟩, hx, h⟩ := Option.bind_eq_some_iff.1 h
      obtain ⟨r3, hr3, h⟩ := Option.map_eq_some_iff.1 h
      simp only [Prod.mk.injEq] at h
      obtain ⟨⟨rfl, rfl, rfl⟩, rfl, rfl⟩ := h
      obtain ⟨i1, i2, i3, i4⟩ := rdN_sound fuel _ _ hx
      have hok := shape_ok i1
      refine ⟨.one _ _ _ _ hok.1 hok.2, by simp only [fer, i2], by simp only [fsz]; omega, ?_⟩
      have e3 := skp_some hr3
      dsimp only at e3
      rw [tx_one, hb, skp_some hr1, i4, e3]
      simp
    split at h
    · rename_i hb
      obtain ⟨r1, hr1, h⟩ := Option.bind_eq_some_iff.1 h
      obtain ⟨⟨⟨s1, v1, k1⟩, m1, l1⟩, hx, h⟩ := Option.bind_eq_some_iff.1 h
      obtain ⟨r2, hr2, h⟩ := Option.bind_eq_some_iff.1 h
      obtain ⟨⟨⟨s2, v2, k2⟩, m2, l2⟩, hy, h⟩ := Option.bind_eq_some_iff.1 h
      obtain ⟨r3, hr3, h⟩ := Option.map_eq_some_iff.1 h
      simp only [Prod.mk.injEq] at h
      obtain ⟨⟨rfl, rfl, rfl⟩, rfl, rfl⟩ := h
      obtain ⟨i1, i2, i3, i4⟩ := rdN_sound fuel _ _ hx
      obtain ⟨j1, j2, j3, j4⟩ := rdN_sound fuel _ _ hy
      have hok := shape_ok i1
      have hok2 := shape_ok j1
      refine ⟨.two _ _ _ _ _ _ _ _ hok.1 hok.2 hok2.1 hok2.2, by simp only [fer, i2, j2], by simp only [fsz] at i3 j3 ⊢; omega, ?_⟩
      have e2 := skp_some hr2
      have e3 := skp_some hr3
      dsimp only at e2 e3
      rw [tx_two, hb, skp_some hr1, i4, e2, j4, e3]
      simp
    · cases h
/-- A term's text is read. -/
theorem rdN_tx : ∀ (fuel room : Nat) {s v : Int} {k : Fo} {r : List UInt8}, Shape s v k → 1 + fsz k ≤ room → room ≤ fuel → nd r → rdN fuel room (tx s v k ++ r) = some ((s, v, fer k), room - (1 + fsz k), r)
  | 0, _, _, _, _, _, _, h1, h2, _ => by omega
  | fuel + 1, room, s, v, k, r, h, h1, h2, hr => by
    have nd41 : ∀ q, nd (41 :: q) := fun q => nd_of (by decide)
    have nd44 : ∀ q, nd (44 :: q) := fun q => nd_of (by decide)
    cases h with
    | var _ g0 g1 =>
      rw [tx_var, List.cons_append]
      unfold rdN
      obtain ⟨t1, t2⟩ := take_dec (n := v.toNat) (by omega) hr
      rw [if_neg (by omega), if_pos rfl, t1, t2, numV_dec (by omega)]
      simp only [Option.map_some, fer, fsz]
      rw [show ((v.toNat : Nat) : Int) = v from by omega]
    | leaf _ hs =>
      rcases hs with rfl | rfl
      · rw [tx_l1]
        show rdN (fuel + 1) room (97 :: r) = _
        unfold rdN
        rw [if_neg (by omega), if_neg (by decide), if_pos rfl]
        simp [fsz, fer]
      · rw [tx_l2]
        show rdN (fuel + 1) room (98 :: r) = _
        unfold rdN
        rw [if_neg (by omega), if_neg (by decide), if_neg (by decide), if_pos rfl]
        simp [fsz, fer]
    | one x y p k h3 h4 =>
      simp only [fsz] at h1
      rw [tx_one]
      show rdN (fuel + 1) room (103 :: (40 :: (tx p.1 p.2 k ++ [41]) ++ r)) = _
      unfold rdN
      rw [if_neg (by omega), if_neg (by decide), if_neg (by decide), if_neg (by decide), if_pos rfl, List.cons_append, skp_self, List.append_assoc, List.singleton_append]
      simp only [Option.bind_some]
      rw [rdN_tx fuel (room - 1) (shape_of h3 h4) (by omega) (by omega) (nd41 _)]
      simp only [Option.bind_some, skp_self, Option.map_some, fer, fsz, Option.some.injEq, Prod.mk.injEq, and_true, true_and]
      omega
    | two x y p k x' y' p' k' h3 h4 h5 h6 =>
      simp only [fsz] at h1
      rw [tx_two]
      show rdN (fuel + 1) room (102 :: (40 :: (tx p.1 p.2 k ++ 44 :: (tx p'.1 p'.2 k' ++ [41])) ++ r)) = _
      unfold rdN
      rw [if_neg (by omega), if_neg (by decide), if_neg (by decide), if_neg (by decide), if_neg (by decide), if_pos rfl, List.cons_append, skp_self, List.append_assoc]
      simp only [Option.bind_some, List.cons_append]
      rw [rdN_tx fuel (room - 1) (shape_of h3 h4) (by omega) (by omega) (nd44 _)]
      simp only [Option.bind_some, skp_self, List.append_assoc, List.singleton_append]
      rw [rdN_tx fuel _ (shape_of h5 h6) (by omega) (by omega) (nd41 _)]
      simp only [Option.bind_some, skp_self, Option.map_some, fer, fsz, Option.some.injEq, Prod.mk.injEq, and_true, true_and]
      omega
/-- A text read whole. -/
def rdR (l : List UInt8) : Option (Int × Int × Fo) := match rdN 16 16 l with
  | some (t, _, []) => some t
  | _ => none
theorem rdR_some {l : List UInt8} {s v : Int} {k : Fo} (h : rdR l = some (s, v, k)) : okW s v k 16 = true ∧ fer k = k ∧ tx s v k = l := by
  unfold rdR at h
  split at h
  · rename_i t m hr
    simp only [Option.some.injEq] at h
    subst h
    obtain ⟨h1, h2, h3, h4⟩ := rdN_sound _ _ _ hr
    have hok := shape_ok h1
    exact ⟨(okW_iff _ _ _ _).2 ⟨hok.1, hok.2, by omega⟩, h2, by rw [h4, List.append_nil]⟩
  · cases h
theorem rdR_tx {s v : Int} {k : Fo} (h : okW s v k 16 = true) : rdR (tx s v k) = some (s, v, fer k) := by
  obtain ⟨h1, h2, h3⟩ := (okW_iff _ _ _ _).1 h
  have h4 := rdN_tx 16 16 (shape_of h1 h2) (by omega) (Nat.le_refl _) nd_nil
  rw [List.append_nil] at h4
  unfold rdR
  rw [h4]
theorem rdR_none {l : List UInt8} (h : rdR l = none) {s v : Int} {k : Fo} (hok : okW s v k 16 = true) : tx s v k ≠ l := fun e => by
  rw [← e, rdR_tx hok] at h
  cases h

/-- The number that the specification reads, and of how many digits. -/
def hearD : Nat → List UInt8 → Nat × Nat
  | n, [] => (n, 0)
  | n, b :: r => if isDig b = true ∧ n < 100 then ((hearD (n * 10 + (b.toNat - 48)) r).1, (hearD (n * 10 + (b.toNat - 48)) r).2 + 1) else (n, 0)
def sgnB (b : UInt8) : Int := if b = 97 then 1 else if b = 98 then 2 else if b = 103 then 3 else if b = 102 then 4 else -1
/-- What the specification reads from a place on, and how far. -/
def hearN : Nat → List UInt8 → (Int × Int × Fo) × Nat
  | 0, _ => ((-1, 0, .nil), 0)
  | _ + 1, [] => ((-1, 0, .nil), 0)
  | most + 1, b :: r =>
    if b = 120 then ((0, ((hearD 0 r).1 : Int), .nil), 1 + (hearD 0 r).2)
    else if sgnB b = 3 then
      ((3, 0, .node 0 0 ((hearN most (r.drop 1)).1.1, (hearN most (r.drop 1)).1.2.1) (hearN most (r.drop 1)).1.2.2 .nil), 1 + (1 + (hearN most (r.drop 1)).2) + 1)
    else if sgnB b = 4 then
      let x := hearN most (r.drop 1)
      let y := hearN most (r.drop (1 + x.2 + 1))
      ((4, 0, .node 0 0 (x.1.1, x.1.2.1) x.1.2.2 (.node 0 0 (y.1.1, y.1.2.1) y.1.2.2 .nil)), 1 + (1 + x.2) + (1 + y.2) + 1)
    else ((sgnB b, 0, .nil), 1)
theorem hearD_dec {n : Nat} (h : n < 12) {r : List UInt8} (hr : nd r) : hearD 0 (Lib.decDigits n ++ r) = (n, (Lib.decDigits n).length) := by
  have hz : ∀ m : Nat, hearD m r = (m, 0) := by
    intro m
    cases r with
    | nil => rfl
    | cons b q =>
      have h2 := nd_iff.1 hr
      rw [List.takeWhile_cons] at h2
      cases hd : isDig b with
      | true => rw [hd] at h2; simp at h2
      | false => unfold hearD; rw [if_neg (by rw [hd]; simp)]
  have : n = 0 ∨ n = 1 ∨ n = 2 ∨ n = 3 ∨ n = 4 ∨ n = 5 ∨ n = 6 ∨ n = 7 ∨ n = 8 ∨ n = 9 ∨ n = 10 ∨ n = 11 := by omega
  rcases this with rfl | rfl | rfl | rfl | rfl | rfl | rfl | rfl | rfl | rfl | rfl | rfl
  iterate 10
    · rw [dec_small (by decide)]
      simp only [List.singleton_append]
      unfold hearD
      rw [if_pos (by decide), hz]
      rfl
  iterate 2
    · rw [dec_great (by decide) (by decide)]
      simp only [List.cons_append, List.nil_append]
      unfold hearD
      rw [if_pos (by decide)]
      unfold hearD
      rw [if_pos (by decide), hz]
      rfl
theorem hearN_tx : ∀ (most : Nat) {s v : Int} {k : Fo} {r : List UInt8}, Shape s v k → 1 + fsz k ≤ most → nd r → hearN most (tx s v k ++ r) = ((s, v, fer k), (tx s v k).length)
  | 0, _, _, _, _, _, h1, _ => by omega
  | most + 1, s, v, k, r, h, h1, hr => by
    have nd41 : ∀ q, nd (41 :: q) := fun q => nd_of (by decide)
    have nd44 : ∀ q, nd (44 :: q) := fun q => nd_of (by decide)
    cases h with
    | var _ g0 g1 =>
      rw [tx_var, List.cons_append]
      unfold hearN
      rw [if_pos rfl, hearD_dec (n := v.toNat) (by omega) hr]
      simp only [fer, List.length_cons]
      rw [show ((v.toNat : Nat) : Int) = v from by omega, Nat.add_comm 1]
    | leaf _ hs =>
      rcases hs with rfl | rfl
      · rw [tx_l1]
        show hearN (most + 1) (97 :: r) = _
        unfold hearN
        rw [if_neg (by decide), if_neg (by decide), if_neg (by decide)]
        rfl
      · rw [tx_l2]
        show hearN (most + 1) (98 :: r) = _
        unfold hearN
        rw [if_neg (by decide), if_neg (by decide), if_neg (by decide)]
        rfl
    | one x y p k h3 h4 =>
      simp only [fsz] at h1
      rw [tx_one]
      show hearN (most + 1) (103 :: (40 :: (tx p.1 p.2 k ++ [41]) ++ r)) = _
      unfold hearN
      rw [if_neg (by decide), if_pos (by decide)]
      have e : (40 :: (tx p.1 p.2 k ++ [41]) ++ r : List UInt8).drop 1 = tx p.1 p.2 k ++ (41 :: r) := by simp
      rw [e, hearN_tx most (shape_of h3 h4) (by omega) (nd41 _)]
      simp only [fer, List.length_cons, List.length_append, List.length_nil]
      congr 1
      omega
    | two x y p k x' y' p' k' h3 h4 h5 h6 =>
      simp only [fsz] at h1
      rw [tx_two]
      show hearN (most + 1) (102 :: (40 :: (tx p.1 p.2 k ++ 44 :: (tx p'.1 p'.2 k' ++ [41])) ++ r)) = _
      unfold hearN
      rw [if_neg (by decide), if_neg (by decide), if_pos (by decide)]
      have e : (40 :: (tx p.1 p.2 k ++ 44 :: (tx p'.1 p'.2 k' ++ [41])) ++ r : List UInt8).drop 1 = tx p.1 p.2 k ++ (44 :: (tx p'.1 p'.2 k' ++ (41 :: r))) := by simp
      have e2 : (40 :: (tx p.1 p.2 k ++ 44 :: (tx p'.1 p'.2 k' ++ [41])) ++ r : List UInt8).drop (1 + (tx p.1 p.2 k).length + 1) = tx p'.1 p'.2 k' ++ (41 :: r) := by
        rw [show 1 + (tx p.1 p.2 k).length + 1 = ((tx p.1 p.2 k).length + 1) + 1 from by omega, List.cons_append, List.drop_succ_cons, List.append_assoc, List.cons_append, show (tx p.1 p.2 k).length + 1 = (tx p.1 p.2 k).length + 1 from rfl, ← List.drop_drop]
        simp
      rw [e, hearN_tx most (shape_of h3 h4) (by omega) (nd44 _)]
      dsimp only
      rw [e2, hearN_tx most (shape_of h5 h6) (by omega) (nd41 _)]
      simp only [fer, List.length_cons, List.length_append, List.length_nil]
      congr 1
      omega
/-- What the specification hears has this text just if the text is read so. -/
theorem hear_read (l : List UInt8) : (rdR l = none ∧ ¬ (okW (hearN 16 l).1.1 (hearN 16 l).1.2.1 (hearN 16 l).1.2.2 16 = true ∧ tx (hearN 16 l).1.1 (hearN 16 l).1.2.1 (hearN 16 l).1.2.2 = l)) ∨ (rdR l = some (hearN 16 l).1 ∧ okW (hearN 16 l).1.1 (hearN 16 l).1.2.1 (hearN 16 l).1.2.2 16 = true ∧ tx (hearN 16 l).1.1 (hearN 16 l).1.2.1 (hearN 16 l).1.2.2 = l) := by
  cases h : rdR l with
  | none => exact .inl ⟨rfl, fun h2 => rdR_none h h2.1 h2.2⟩
  | some t =>
    obtain ⟨s, v, k⟩ := t
    obtain ⟨h1, h2, h3⟩ := rdR_some h
    obtain ⟨g1, g2, g3⟩ := (okW_iff _ _ _ _).1 h1
    have h4 := hearN_tx 16 (shape_of g1 g2) (by omega) nd_nil
    rw [List.append_nil, h3, h2] at h4
    rw [h4]
    exact .inr ⟨rfl, h1, h3⟩
end Go.Proofs.YtbnbogdglffkmaaDoor

/-! RD1: What the library's functions give on a text that is read: digits, marks, letters. Plain lemmas. -/
namespace Go.Proofs.YtbnbogdglffkmaaDoor
open Go.RowKit Go.Deep

def digs : List UInt8 := [48, 49, 50, 51, 52, 53, 54, 55, 56, 57]
theorem digs_has (b : UInt8) : digs.contains b = isDig b := by
  by_cases h : 48 ≤ b.toNat ∧ b.toNat ≤ 57
  · have hb : isDig b = true := by simp [isDig, h]
    rw [hb]
    have : b.toNat = 48 ∨ b.toNat = 49 ∨ b.toNat = 50 ∨ b.toNat = 51 ∨ b.toNat = 52 ∨ b.toNat = 53 ∨ b.toNat = 54 ∨ b.toNat = 55 ∨ b.toNat = 56 ∨ b.toNat = 57 := by omega
    rcases this with e | e | e | e | e | e | e | e | e | e
    all_goals
      have e' := congrArg UInt8.ofNat e
      rw [UInt8.ofNat_toNat] at e'
      subst e'
      rfl
  · have hb : isDig b = false := by
      unfold isDig
      by_cases h1 : 48 ≤ b.toNat
      · have : ¬ b.toNat ≤ 57 := fun h2 => h ⟨h1, h2⟩
        simp [this]
      · simp [h1]
    rw [hb]
    cases hc : digs.contains b with
    | false => rfl
    | true =>
      exfalso
      have hm : b ∈ digs := by simpa using hc
      simp only [digs, List.mem_cons, List.not_mem_nil, or_false] at hm
      rcases hm with rfl | rfl | rfl | rfl | rfl | rfl | rfl | rfl | rfl | rfl <;> exact h (by decide)
theorem trim_digs (l : List UInt8) : Lib.trimLeftS l digs = l.dropWhile isDig := by
  unfold Lib.trimLeftS
  congr 1
  funext b
  exact digs_has b
theorem take_digs (l : List UInt8) : l.take (l.length - (l.dropWhile isDig).length) = l.takeWhile isDig := by
  have h : l = l.takeWhile isDig ++ l.dropWhile isDig := (List.takeWhile_append_dropWhile ..).symm
  have hl : l.length = (l.takeWhile isDig).length + (l.dropWhile isDig).length := by
    conv => lhs; rw [h]
    exact List.length_append ..
  rw [show l.length - (l.dropWhile isDig).length = (l.takeWhile isDig).length from by omega]
  have ht := List.take_left (l₁ := l.takeWhile isDig) (l₂ := l.dropWhile isDig)
  rw [List.takeWhile_append_dropWhile] at ht
  exact ht
theorem mem_take_dig {l : List UInt8} : ∀ b ∈ l.takeWhile isDig, isDig b = true := by
  induction l with
  | nil => intro b hb; cases hb
  | cons a r ih =>
    intro b hb
    rw [List.takeWhile_cons] at hb
    cases ha : isDig a with
    | false => rw [ha] at hb; cases hb
    | true =>
      rw [ha] at hb
      rcases List.mem_cons.1 hb with rfl | hb
      · exact ha
      · exact ih b hb

theorem atoi_dec {n : Nat} (h : n < 12) : Lib.atoiAll (Lib.decDigits n) = .ok (n : Int) := by
  by_cases h1 : n < 10
  · rw [dec_small h1]
    have : n = 0 ∨ n = 1 ∨ n = 2 ∨ n = 3 ∨ n = 4 ∨ n = 5 ∨ n = 6 ∨ n = 7 ∨ n = 8 ∨ n = 9 := by omega
    rcases this with rfl | rfl | rfl | rfl | rfl | rfl | rfl | rfl | rfl | rfl <;> rfl
  · rw [dec_great (by omega) (by omega)]
    have : n = 10 ∨ n = 11 := by omega
    rcases this with rfl | rfl <;> rfl
theorem atoi_num {d : List UInt8} {n : Nat} (h : numV d = some n) : Lib.atoiAll d = .ok (n : Int) := by
  obtain ⟨h1, h2⟩ := numV_some h
  rw [← h2]
  exact atoi_dec h1
theorem atoi_pos {d : List UInt8} {v : Int} (hd : ∀ b ∈ d, isDig b = true) (h : Lib.atoiAll d = .ok v) : 0 ≤ v := by
  cases d with
  | nil => cases h
  | cons c r =>
    have hc := hd c (List.mem_cons_self ..)
    have h45 : c.toNat ≠ 45 := by
      intro e
      unfold isDig at hc
      rw [e] at hc
      exact absurd hc (by decide)
    unfold Lib.atoiAll at h
    simp only [h45, false_and, if_false] at h
    split at h
    · cases h
    · cases h
    · split at h
      · cases h
      · injection h with h
        omega
/-- What is made of the digits: a variable's number, or none. -/
theorem num_small {d : List UInt8} {v : Int} (hd : ∀ b ∈ d, isDig b = true) (h : Lib.atoiAll d = .ok v) (h12 : v < 12) (he : Lib.decDigits v.toNat = d) : numV d = some v.toNat := by
  have h0 := atoi_pos hd h
  rw [← he]
  exact numV_dec (by omega)
theorem num_other {d : List UInt8} (h : ∀ n : Nat, n < 12 → Lib.decDigits n ≠ d) : numV d = none := by
  cases hn : numV d with
  | none => rfl
  | some n =>
    obtain ⟨h1, h2⟩ := numV_some hn
    exact absurd h2 (h n h1)

/-- A mark ahead of a text. -/
theorem skp_has {m : UInt8} {l : List UInt8} : (Lib.hasPrefix l [m] = true ∧ ∃ r, l = m :: r ∧ skp m l = some r ∧ Lib.trimPrefix l [m] = r) ∨ (Lib.hasPrefix l [m] = false ∧ skp m l = none ∧ Lib.trimPrefix l [m] = l) := by
  cases l with
  | nil => exact .inr ⟨rfl, rfl, rfl⟩
  | cons b r =>
    by_cases h : b = m
    · subst h
      have hp : Lib.hasPrefix (b :: r) [b] = true := by simp [Lib.hasPrefix]
      exact .inl ⟨hp, r, rfl, skp_self _ _, by simp [Lib.trimPrefix, hp]⟩
    · have hp : Lib.hasPrefix (b :: r) [m] = false := by
        have : (m == b) = false := by simpa using fun e => h e.symm
        show (m == b && ([] : List UInt8).isPrefixOf r) = false
        rw [this]; rfl
      exact .inr ⟨hp, by show (if b = m then some r else none) = none; rw [if_neg h], by simp [Lib.trimPrefix, hp]⟩

/-- The sign of a letter. -/
def sgnI (b : UInt8) : Int := if b = 97 then 1 else if b = 98 then 2 else if b = 103 then 3 else if b = 102 then 4 else 0
theorem index_letter (b : UInt8) : 1 + Lib.indexByte [97, 98, 103, 102] b = sgnI b := by
  unfold sgnI
  by_cases h1 : b = 97
  · subst h1; rfl
  by_cases h2 : b = 98
  · subst h2; rfl
  by_cases h3 : b = 103
  · subst h3; rfl
  by_cases h4 : b = 102
  · subst h4; rfl
  rw [if_neg h1, if_neg h2, if_neg h3, if_neg h4]
  have e1 : ((97 : UInt8) == b) = false := by simpa using fun e => h1 e.symm
  have e2 : ((98 : UInt8) == b) = false := by simpa using fun e => h2 e.symm
  have e3 : ((103 : UInt8) == b) = false := by simpa using fun e => h3 e.symm
  have e4 : ((102 : UInt8) == b) = false := by simpa using fun e => h4 e.symm
  simp [Lib.indexByte, e1, e2, e3, e4]

end Go.Proofs.YtbnbogdglffkmaaDoor

/-! RD3: A term read from a text, kid by kid. Plain lemmas. -/
namespace Go.Proofs.YtbnbogdglffkmaaDoor
open Go.RowKit Go.Deep

/-- So many terms, each behind a mark: the first mark is m, the others commas. -/
def rdKs (fuel : Nat) : Nat → UInt8 → Nat → List UInt8 → Option (Fo × Nat × List UInt8)
  | 0, _, room, l => some (.nil, room, l)
  | n + 1, m, room, l => (skp m l).bind fun r1 => (rdN fuel room r1).bind fun x => (rdKs fuel n 44 x.2.1 x.2.2).map fun y => (.node 0 0 (x.1.1, x.1.2.1) x.1.2.2 y.1, y.2.1, y.2.2)
/-- What stands behind a sign. -/
def rdS (fuel : Nat) (s : Int) (room : Nat) (l : List UInt8) : Option ((Int × Int × Fo) × Nat × List UInt8) :=
  (rdKs fuel (ar s).toNat 40 room l).bind fun y => if ar s = 0 then some ((s, 0, y.1), y.2.1, y.2.2) else (skp 41 y.2.2).map fun r3 => ((s, 0, y.1), y.2.1, r3)

theorem rdN_none {fuel room : Nat} (h : room < 1) (l : List UInt8) : rdN fuel room l = none := by
  cases fuel with
  | zero => rfl
  | succ n => cases l with
    | nil => rfl
    | cons b r => simp only [rdN]; rw [if_pos h]
theorem rdN_nil (fuel room : Nat) : rdN fuel room [] = none := by cases fuel <;> rfl
theorem rdN_var {fuel room : Nat} (h : 1 ≤ room) (r : List UInt8) : rdN (fuel + 1) room (120 :: r) = (numV (r.takeWhile isDig)).map fun (n : Nat) => ((0, (n : Int), .nil), room - 1, r.dropWhile isDig) := by
  unfold rdN
  rw [if_neg (by omega), if_pos rfl]
theorem rdN_bad {fuel room : Nat} {b : UInt8} (hb : b ≠ 120) (hs : sgnI b = 0) (r : List UInt8) : rdN (fuel + 1) room (b :: r) = none := by
  have h1 : b ≠ 97 := fun e => by subst e; exact absurd hs (by decide)
  have h2 : b ≠ 98 := fun e => by subst e; exact absurd hs (by decide)
  have h3 : b ≠ 103 := fun e => by subst e; exact absurd hs (by decide)
  have h4 : b ≠ 102 := fun e => by subst e; exact absurd hs (by decide)
  unfold rdN
  rw [if_neg hb, if_neg h1, if_neg h2, if_neg h3, if_neg h4, ite_self]
theorem rdN_sym {fuel room : Nat} {b : UInt8} (h : 1 ≤ room) (hb : b ≠ 120) (hs : sgnI b ≠ 0) (r : List UInt8) : rdN (fuel + 1) room (b :: r) = rdS fuel (sgnI b) (room - 1) r := by
  have hc : b = 97 ∨ b = 98 ∨ b = 103 ∨ b = 102 := by
    unfold sgnI at hs
    by_cases h1 : b = 97
    · exact .inl h1
    by_cases h2 : b = 98
    · exact .inr (.inl h2)
    by_cases h3 : b = 103
    · exact .inr (.inr (.inl h3))
    by_cases h4 : b = 102
    · exact .inr (.inr (.inr h4))
    rw [if_neg h1, if_neg h2, if_neg h3, if_neg h4] at hs
    exact absurd rfl hs
  rcases hc with rfl | rfl | rfl | rfl
  · show rdN (fuel + 1) room (97 :: r) = rdS fuel 1 (room - 1) r
    unfold rdN
    rw [if_neg (by omega), if_neg (by decide), if_pos rfl]
    rfl
  · show rdN (fuel + 1) room (98 :: r) = rdS fuel 2 (room - 1) r
    unfold rdN
    rw [if_neg (by omega), if_neg (by decide), if_neg (by decide), if_pos rfl]
    rfl
  · show rdN (fuel + 1) room (103 :: r) = rdS fuel 3 (room - 1) r
    unfold rdN
    rw [if_neg (by omega), if_neg (by decide), if_neg (by decide), if_neg (by decide), if_pos rfl]
    show _ = (((skp 40 r).bind fun r1 => (rdN fuel (room - 1) r1).bind fun x => some (BT.node 0 0 (x.1.1, x.1.2.1) x.1.2.2 .nil, x.2.1, x.2.2)).bind fun y => (skp 41 y.2.2).map fun r3 => ((3, 0, y.1), y.2.1, r3))
    cases skp 40 r with
    | none => rfl
    | some r1 =>
      simp only [Option.bind_some]
      cases rdN fuel (room - 1) r1 with
      | none => rfl
      | some x => rfl
  · show rdN (fuel + 1) room (102 :: r) = rdS fuel 4 (room - 1) r
    unfold rdN
    rw [if_neg (by omega), if_neg (by decide), if_neg (by decide), if_neg (by decide), if_neg (by decide), if_pos rfl]
    show _ = (((skp 40 r).bind fun r1 => (rdN fuel (room - 1) r1).bind fun x => ((skp 44 x.2.2).bind fun r2 => (rdN fuel x.2.1 r2).bind fun y => some (BT.node 0 0 (y.1.1, y.1.2.1) y.1.2.2 .nil, y.2.1, y.2.2)).map fun y => (BT.node 0 0 (x.1.1, x.1.2.1) x.1.2.2 y.1, y.2.1, y.2.2)).bind fun y => (skp 41 y.2.2).map fun r3 => ((4, 0, y.1), y.2.1, r3))
    cases skp 40 r with
    | none => rfl
    | some r1 =>
      simp only [Option.bind_some]
      cases rdN fuel (room - 1) r1 with
      | none => rfl
      | some x =>
        simp only [Option.bind_some]
        cases skp 44 x.2.2 with
        | none => rfl
        | some r2 =>
          simp only [Option.bind_some]
          cases rdN fuel x.2.1 r2 with
          | none => rfl
          | some y => rfl
theorem rdN_room {fuel room : Nat} {l : List UInt8} {t : Int × Int × Fo} {room' : Nat} {r : List UInt8} (h : rdN fuel room l = some (t, room', r)) : room' ≤ room := by
  obtain ⟨s, v, k⟩ := t
  have := (rdN_sound fuel room l h).2.2.1
  omega
theorem rdN_len {fuel room : Nat} {l : List UInt8} {t : Int × Int × Fo} {room' : Nat} {r : List UInt8} (h : rdN fuel room l = some (t, room', r)) : r.length ≤ l.length := by
  obtain ⟨s, v, k⟩ := t
  have := (rdN_sound fuel room l h).2.2.2
  rw [this, List.length_append]
  omega
theorem skp_len {m : UInt8} {l r : List UInt8} (h : skp m l = some r) : r.length ≤ l.length := by
  rw [skp_some h, List.length_cons]
  omega

/-- Terms ahead of a row of terms. -/
def kpre : List (Int × Int × Fo) → Fo → Fo
  | [], f => f
  | x :: r, f => .node 0 0 (x.1, x.2.1) x.2.2 (kpre r f)
theorem kpre_snoc : ∀ (ks : List (Int × Int × Fo)) (x : Int × Int × Fo) (f : Fo), kpre (ks ++ [x]) f = kpre ks (.node 0 0 (x.1, x.2.1) x.2.2 f)
  | [], _, _ => rfl
  | y :: r, x, f => by show BT.node 0 0 _ _ (kpre (r ++ [x]) f) = _; rw [kpre_snoc r x f]; rfl
theorem flen_kpre : ∀ (ks : List (Int × Int × Fo)) (f : Fo), flen (kpre ks f) = ks.length + flen f
  | [], f => by simp [kpre]
  | y :: r, f => by simp only [kpre, flen, List.length_cons, flen_kpre r f]; omega
theorem fdrop_kpre : ∀ (i : Nat) (ks : List (Int × Int × Fo)) (f : Fo) {x : Int × Int × Fo}, ks[i]? = some x → fdrop i (kpre ks f) = .node 0 0 (x.1, x.2.1) x.2.2 (fdrop (i + 1) (kpre ks f))
  | _, [], _, _, h => by simp at h
  | 0, y :: r, f, x, h => by
    simp only [List.getElem?_cons_zero, Option.some.injEq] at h
    subst h
    simp only [kpre, fdrop]
  | i + 1, y :: r, f, x, h => by
    simp only [List.getElem?_cons_succ] at h
    simp only [kpre]
    rw [fdrop, fdrop]
    exact fdrop_kpre i r f h

/-- What is read so far, and what is still to be read. -/
def RdSt (fuel n room0 : Nat) (l0 : List UInt8) (ks : List (Int × Int × Fo)) (m : UInt8) (room : Nat) (l : List UInt8) : Prop :=
  rdKs fuel n 40 room0 l0 = (rdKs fuel (n - ks.length) m room l).map fun y => (kpre ks y.1, y.2.1, y.2.2)
theorem RdSt.start (fuel n room0 : Nat) (l0 : List UInt8) : RdSt fuel n room0 l0 [] 40 room0 l0 := by
  unfold RdSt
  show _ = (rdKs fuel n 40 room0 l0).map fun y => (y.1, y.2.1, y.2.2)
  cases rdKs fuel n 40 room0 l0 <;> rfl
theorem RdSt.no_mark {fuel n room0 room : Nat} {l0 l : List UInt8} {ks : List (Int × Int × Fo)} {m : UInt8} (h : RdSt fuel n room0 l0 ks m room l) (hn : ks.length < n) (hs : skp m l = none) : rdKs fuel n 40 room0 l0 = none := by
  unfold RdSt at h
  obtain ⟨q, hq⟩ : ∃ q, n - ks.length = q + 1 := ⟨n - ks.length - 1, by omega⟩
  rw [h, hq, rdKs, hs]
  rfl
theorem RdSt.no_kid {fuel n room0 room : Nat} {l0 l r : List UInt8} {ks : List (Int × Int × Fo)} {m : UInt8} (h : RdSt fuel n room0 l0 ks m room l) (hn : ks.length < n) (hs : skp m l = some r) (hr : rdN fuel room r = none) : rdKs fuel n 40 room0 l0 = none := by
  unfold RdSt at h
  obtain ⟨q, hq⟩ : ∃ q, n - ks.length = q + 1 := ⟨n - ks.length - 1, by omega⟩
  rw [h, hq, rdKs, hs]
  simp only [Option.bind_some, hr, Option.bind_none, Option.map_none]
theorem RdSt.step {fuel n room0 room : Nat} {l0 l r : List UInt8} {ks : List (Int × Int × Fo)} {m : UInt8} {t : Int × Int × Fo} {room' : Nat} {r' : List UInt8} (h : RdSt fuel n room0 l0 ks m room l) (hn : ks.length < n) (hs : skp m l = some r) (hr : rdN fuel room r = some (t, room', r')) :
    RdSt fuel n room0 l0 (ks ++ [t]) 44 room' r' := by
  unfold RdSt at h ⊢
  obtain ⟨q, hq⟩ : ∃ q, n - ks.length = q + 1 := ⟨n - ks.length - 1, by omega⟩
  have hq' : n - (ks ++ [t]).length = q := by rw [List.length_append, List.length_singleton]; omega
  rw [h, hq, hq', rdKs, hs]
  simp only [Option.bind_some, hr]
  cases rdKs fuel q 44 room' r' with
  | none => rfl
  | some y => simp only [Option.map_some, kpre_snoc]
theorem RdSt.done {fuel n room0 room : Nat} {l0 l : List UInt8} {ks : List (Int × Int × Fo)} {m : UInt8} (h : RdSt fuel n room0 l0 ks m room l) (hn : ks.length = n) : rdKs fuel n 40 room0 l0 = some (kpre ks .nil, room, l) := by
  unfold RdSt at h
  rw [h, show n - ks.length = 0 from by omega]
  rfl
end Go.Proofs.YtbnbogdglffkmaaDoor

/-! RD9: What the specification reads from a place on, kid by kid. Plain lemmas. -/
namespace Go.Proofs.YtbnbogdglffkmaaDoor
open Go.RowKit Go.Deep

def hearKs (most : Nat) : Nat → List UInt8 → Fo × Nat
  | 0, _ => (.nil, 0)
  | n + 1, l => (.node 0 0 ((hearN most (l.drop 1)).1.1, (hearN most (l.drop 1)).1.2.1) (hearN most (l.drop 1)).1.2.2 (hearKs most n (l.drop (1 + (hearN most (l.drop 1)).2))).1,
      1 + (hearN most (l.drop 1)).2 + (hearKs most n (l.drop (1 + (hearN most (l.drop 1)).2))).2)
theorem sgnB_range (b : UInt8) : sgnB b = -1 ∨ sgnB b = 1 ∨ sgnB b = 2 ∨ sgnB b = 3 ∨ sgnB b = 4 := by
  unfold sgnB
  split
  · exact .inr (.inl rfl)
  · split
    · exact .inr (.inr (.inl rfl))
    · split
      · exact .inr (.inr (.inr (.inl rfl)))
      · split
        · exact .inr (.inr (.inr (.inr rfl)))
        · exact .inl rfl
theorem hearN_sym {most : Nat} {b : UInt8} (hb : b ≠ 120) (r : List UInt8) {n : Nat} (hn : n = (ar (sgnB b)).toNat) :
    hearN (most + 1) (b :: r) = ((sgnB b, 0, (hearKs most n r).1), 1 + (hearKs most n r).2 + if 0 < n then 1 else 0) := by
  unfold hearN
  rw [if_neg hb]
  rcases sgnB_range b with h | h | h | h | h
  · rw [h] at hn ⊢
    obtain rfl : n = 0 := hn
    rw [if_neg (by decide), if_neg (by decide)]
    rfl
  · rw [h] at hn ⊢
    obtain rfl : n = 0 := hn
    rw [if_neg (by decide), if_neg (by decide)]
    rfl
  · rw [h] at hn ⊢
    obtain rfl : n = 0 := hn
    rw [if_neg (by decide), if_neg (by decide)]
    rfl
  · rw [h] at hn ⊢
    obtain rfl : n = 1 := hn
    rw [if_pos rfl]
    rfl
  · rw [h] at hn ⊢
    obtain rfl : n = 2 := hn
    rw [if_neg (by decide), if_pos rfl]
    simp only [hearKs, List.drop_drop, Nat.add_zero, if_pos (show 0 < 2 by decide)]
    rw [show 1 + (1 + (hearN most (List.drop 1 r)).2 + (1 + (hearN most (List.drop (1 + (hearN most (List.drop 1 r)).2 + 1) r)).2)) + 1 = 1 + (1 + (hearN most (List.drop 1 r)).2) + (1 + (hearN most (List.drop (1 + (hearN most (List.drop 1 r)).2 + 1) r)).2) + 1 from by omega]
theorem hearN_var {most : Nat} (r : List UInt8) : hearN (most + 1) (120 :: r) = ((0, ((hearD 0 r).1 : Int), .nil), 1 + (hearD 0 r).2) := by
  unfold hearN
  rw [if_pos rfl]
theorem hearN_nil (most : Nat) : hearN most [] = ((-1, 0, .nil), 0) := by cases most <;> rfl
theorem hearD_len : ∀ (n : Nat) (l : List UInt8), (hearD n l).2 ≤ l.length
  | _, [] => Nat.le_refl _
  | n, b :: r => by
    unfold hearD
    split
    · have := hearD_len (n * 10 + (b.toNat - 48)) r
      simp only [List.length_cons]
      omega
    · exact Nat.zero_le _
theorem hearD_val : ∀ (n : Nat) (l : List UInt8), n < 1000 → (hearD n l).1 < 1000
  | _, [], h => h
  | n, b :: r, h => by
    unfold hearD
    split
    · rename_i hc
      have hd := hc.1
      unfold isDig at hd
      simp only [Bool.and_eq_true, decide_eq_true_eq] at hd
      exact hearD_val _ r (by omega)
    · exact h
theorem hearN_len : ∀ (most : Nat) (l : List UInt8), (hearN most l).2 ≤ l.length + 3 * most
  | 0, _ => Nat.zero_le _
  | most + 1, [] => Nat.zero_le _
  | most + 1, b :: r => by
    by_cases hb : b = 120
    · subst hb
      rw [hearN_var]
      have := hearD_len 0 r
      simp only [List.length_cons]
      omega
    · rw [hearN_sym hb r rfl]
      have h1 := hearN_len most (r.drop 1)
      have h2 := hearN_len most ((r.drop (1 + (hearN most (r.drop 1)).2)).drop 1)
      have h2' : (hearN most ((r.drop (1 + (hearN most (r.drop 1)).2)).drop 1)).2 ≤ (r.length - (1 + (hearN most (r.drop 1)).2) - 1) + 3 * most := by
        rw [List.length_drop, List.length_drop] at h2
        exact h2
      have h1' : (hearN most (r.drop 1)).2 ≤ (r.length - 1) + 3 * most := by
        rw [List.length_drop] at h1
        exact h1
      have h3 : r.length ≤ 1 + (hearN most (r.drop 1)).2 + 1 → (hearN most ((r.drop (1 + (hearN most (r.drop 1)).2)).drop 1)).2 = 0 := fun h => by
        rw [List.drop_drop, List.drop_eq_nil_of_le (by omega), hearN_nil]
      have h4 : r.length ≤ 1 → (hearN most (r.drop 1)).2 = 0 := fun h => by rw [List.drop_eq_nil_of_le (by omega), hearN_nil]
      simp only [List.length_cons]
      have h12 : (ar (sgnB b)).toNat = 0 ∨ (ar (sgnB b)).toNat = 1 ∨ (ar (sgnB b)).toNat = 2 := by
        rcases sgnB_range b with h | h | h | h | h <;> rw [h] <;> decide
      rcases h12 with h | h | h
      · rw [h]
        simp only [hearKs, Nat.add_zero, Nat.lt_irrefl, if_false]
        omega
      · rw [h]
        simp only [hearKs, Nat.add_zero, if_pos (show 0 < 1 by decide)]
        by_cases hr : r.length ≤ 1
        · have := h4 hr
          omega
        · omega
      · rw [h]
        simp only [hearKs, Nat.add_zero, if_pos (show 0 < 2 by decide)]
        by_cases hr : r.length ≤ 1
        · have := h4 hr
          have := h3 (by omega)
          omega
        · by_cases hr2 : r.length ≤ 1 + (hearN most (r.drop 1)).2 + 1
          · have := h3 hr2
            omega
          · omega

/-- What is read so far, and what is still to be read. -/
def HrSt (most n : Nat) (l0 : List UInt8) (ks : List (Int × Int × Fo)) (d : Nat) : Prop :=
  hearKs most n l0 = (kpre ks (hearKs most (n - ks.length) (l0.drop d)).1, d + (hearKs most (n - ks.length) (l0.drop d)).2)
theorem HrSt.start (most n : Nat) (l0 : List UInt8) : HrSt most n l0 [] 0 := by
  unfold HrSt
  simp only [kpre, List.length_nil, Nat.sub_zero, List.drop_zero, Nat.zero_add]
theorem HrSt.step {most n : Nat} {l0 : List UInt8} {ks : List (Int × Int × Fo)} {d : Nat} {t : Int × Int × Fo} {m : Nat} (h : HrSt most n l0 ks d) (hn : ks.length < n) (hr : hearN most (l0.drop (d + 1)) = (t, m)) : HrSt most n l0 (ks ++ [t]) (d + (1 + m)) := by
  unfold HrSt at h ⊢
  obtain ⟨q, hq⟩ : ∃ q, n - ks.length = q + 1 := ⟨n - ks.length - 1, by omega⟩
  have hq' : n - (ks ++ [t]).length = q := by rw [List.length_append, List.length_singleton]; omega
  rw [h, hq, hq', hearKs, List.drop_drop, hr, List.drop_drop, kpre_snoc]
  simp only [Prod.mk.injEq, true_and]
  omega
theorem HrSt.done {most n : Nat} {l0 : List UInt8} {ks : List (Int × Int × Fo)} {d : Nat} (h : HrSt most n l0 ks d) (hn : ks.length = n) : hearKs most n l0 = (kpre ks .nil, d) := by
  unfold HrSt at h
  rw [h, show n - ks.length = 0 from by omega]
  rfl

theorem own_more {w : World} {base : Nat} {ks : List (Int × Int × Fo)} {f : Fo} {A : Option Addr} {C : Nat} (h : Own w base (kpre ks f) ks.length A C) (g : Fo) : Own w base (kpre ks g) ks.length A C := by
  obtain ⟨xs, hown, hall⟩ := h
  refine ⟨xs, hown, fun i hi => ?_⟩
  obtain ⟨x, y, s', v', kk, a', c', L, H, e, h0, h1, h2, hs, hL, hH, hg⟩ := hall i hi
  have hx : ks[i]? = some ks[i] := List.getElem?_eq_getElem hi
  rw [fdrop_kpre i ks f hx] at e
  simp only [BT.node.injEq, Prod.mk.injEq] at e
  obtain ⟨rfl, rfl, ⟨rfl, rfl⟩, rfl, _⟩ := e
  exact ⟨0, 0, _, _, _, a', c', L, H, fdrop_kpre i ks g hx, h0, h1, h2, hs, hL, hH, hg⟩
end Go.Proofs.YtbnbogdglffkmaaDoor

/-! RD9b: What the specification reads from a place on: the kids so far. Plain lemmas. -/
namespace Go.Proofs.YtbnbogdglffkmaaDoor
open Go.RowKit Go.Deep

/-- What holds at the head of the loop over kids: those of ks are read; the new term lies in block w1.heap.size. -/
structure HeAt (w1 : World) (s : Int) (ks : List (Int × Int × Fo)) (A : Option Addr) (C : Nat) (wr : World) : Prop where
  below : Below w1.heap.size w1 wr
  out0 : wr.cell? ⟨w1.heap.size, 0, none⟩ = some (.int .i64 s)
  out1 : wr.cell? ⟨w1.heap.size, 1, none⟩ = some (.int .i64 0)
  out2 : wr.cell? ⟨w1.heap.size, 2, none⟩ = some (.slice A ks.length C)
  free : wr.frozen? ⟨w1.heap.size, 2, none⟩ = false
  size : w1.heap.size + 1 ≤ wr.heap.size
  own : Own wr (w1.heap.size + 1) (kpre ks .nil) ks.length A C
theorem HeAt.start (w1 : World) (s : Int) : HeAt w1 s [] none 0 (w1.alloc (.cells #[.int .i64 s, .int .i64 0, .slice none 0 0] 25)) := by
  refine ⟨(Below.refl _ _).alloc (Nat.le_refl _) _, by simp, by simp, by simp, by simp, by simp, ⟨[], World.ownsRow_nil _ _ _ _, fun i hi => by simp at hi⟩⟩
theorem HeAt.low {w1 : World} {s : Int} {ks : List (Int × Int × Fo)} {A : Option Addr} {C : Nat} {wr w2 : World} (h : HeAt w1 s ks A C wr) (hb : Below wr.heap.size wr w2) : HeAt w1 s ks A C w2 := by
  have hs := h.size
  exact ⟨h.below.trans (hb.mono (by omega)), cell_low hb h.out0, cell_low hb h.out1, cell_low hb h.out2, by rw [hb.frozen (by simp; omega)]; exact h.free, Nat.le_trans hs hb.size, h.own.low hb (Nat.le_refl _)⟩
theorem own_sl' {w : World} {base : Nat} {ks : List (Int × Int × Fo)} {A : Option Addr} {C : Nat} (h : Own w base (kpre ks .nil) ks.length A C) : Sl w base w.heap.size A (kpre ks .nil) := by
  have hf : flen (kpre ks .nil) = ks.length := by rw [flen_kpre]; simp [flen]
  rw [← hf] at h
  exact h.sl
theorem fdrop_pre : ∀ (ks : List (Int × Int × Fo)) (f : Fo), fdrop ks.length (kpre ks f) = f
  | [], _ => rfl
  | _ :: r, f => by show fdrop (r.length + 1) (kpre (_ :: r) f) = f; rw [kpre, fdrop]; exact fdrop_pre r f
theorem fdrop_pre1 : ∀ (ks : List (Int × Int × Fo)) (p : Int × Int) (kk : Fo), fdrop (ks.length + 1) (kpre ks (.node 0 0 p kk .nil)) = .nil
  | [], _, _ => rfl
  | _ :: r, p, kk => by show fdrop (r.length + 1 + 1) (kpre (_ :: r) _) = _; rw [kpre, fdrop]; exact fdrop_pre1 r p kk
theorem HeAt.step {w1 wr w2 w3 : World} {s : Int} {ks : List (Int × Int × Fo)} {A : Option Addr} {C g cap : Nat} {blk : Obj} {xs : List Value} {s' v' : Int} {kk : Fo} {a2 : Option Addr} {c2 : Nat} (h : HeAt w1 s ks A C wr)
    (hb2 : Below wr.heap.size wr w2) (hl2 : Sl w2 wr.heap.size w2.heap.size a2 kk) (hown : wr.ownsRow (w1.heap.size + 1) 25 3 (.slice A ks.length C) ks.length xs)
    (hall : ∀ i, i < ks.length → ∃ x y s1 v1 k1 a' c' L H, fdrop i (kpre ks (.node 0 0 (s', v') kk .nil)) = .node x y (s1, v1) k1 (fdrop (i + 1) (kpre ks (.node 0 0 (s', v') kk .nil))) ∧
        xs[i * 3]? = some (.int .i64 s1) ∧ xs[i * 3 + 1]? = some (.int .i64 v1) ∧ xs[i * 3 + 2]? = some (.slice a' (flen k1) c') ∧ Sl wr L H a' k1 ∧ w1.heap.size + 1 ≤ L ∧ H ≤ wr.heap.size ∧ (∀ g, (Value.slice A ks.length C).ownBlock = some g → g < L ∨ H ≤ g))
    (hown3 : w3.ownsRow (w1.heap.size + 1) 25 3 (.slice (some ⟨g, 0, none⟩) (ks.length + 1) cap) (ks.length + 1) (xs ++ [.int .i64 s', .int .i64 v', .slice a2 (flen kk) c2]))
    (hgrow : (w2.alloc blk).grownBy w3 (Value.slice A ks.length C).ownBlock) (hatg : (Value.slice A ks.length C).ownBlock = some g ∨ g = w2.heap.size + 1) :
    HeAt w1 s (ks ++ [(s', v', kk)]) (some ⟨g, 0, none⟩) cap (w3.setCell ⟨w1.heap.size, 2, none⟩ (.slice (some ⟨g, 0, none⟩) (ks.length + 1) cap)) := by
  have hs1 := h.size
  have hs2 := hb2.size
  have hs3 := hgrow.size
  simp at hs3
  have hr : ∀ g, (Value.slice A ks.length C).ownBlock = some g → w1.heap.size + 1 ≤ g := fun g hg => (hown.lt g hg).1
  have hcell : ∀ {q : Addr} {u : Value}, wr.cell? q = some u → q.block < w1.heap.size + 1 → w3.cell? q = some u := fun hq hlt =>
    cell_grown hgrow hr (cell_low ((Below.refl _ _).alloc (Nat.le_refl _) _) (cell_low hb2 hq)) hlt
  have hlen : (ks ++ [(s', v', kk)]).length = ks.length + 1 := by simp
  refine ⟨?_, ?_, ?_, ?_, ?_, by simp; omega, ?_⟩
  · exact (((h.below.trans (hb2.mono (by omega))).alloc (by omega) _).grown hgrow (by simp; omega) (fun g hg => by have := hr g hg; omega)).setCell (by simp) _
  · rw [World.cell?_setCell_other _ _ _ _ (by intro h'; have := congrArg Addr.off h'; simp at this)]; exact hcell h.out0 (by simp)
  · rw [World.cell?_setCell_other _ _ _ _ (by intro h'; have := congrArg Addr.off h'; simp at this)]; exact hcell h.out1 (by simp)
  · rw [hlen]; exact World.cell?_setCell_same _ _ _ (hcell h.out2 (by simp))
  · rw [World.frozen?_setCell, hgrow.frozen_far _ (by simp; omega) (fun e => by have := hr _ e.symm; dsimp only at this; omega), World.frozen?_alloc_old _ _ _ (by simp; omega), hb2.frozen (by simp; omega)]
    exact h.free
  · rw [hlen, kpre_snoc]
    have hd : fdrop ks.length (kpre ks (.node 0 0 (s', v') kk .nil)) = .node 0 0 (s', v') kk (fdrop (ks.length + 1) (kpre ks (.node 0 0 (s', v') kk .nil))) := by rw [fdrop_pre, fdrop_pre1]
    exact (Own.append ⟨xs, hown, hown3, hall⟩ hb2 hl2 (by omega) hd hgrow hatg).store (by simp) _
end Go.Proofs.YtbnbogdglffkmaaDoor
