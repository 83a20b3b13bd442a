/- Several texts in one: EQ, ES1, Read, XA, XB. -/
import Derived.Test.YtbnbogdglffkmaaKEw2
import Derived.Test.YtbnbogdglffkmaaKEw4
import Derived.Test.YtbnbogdglffkmaaKEw1
import Derived.Test.YtbnbogdglffkmaaRows
import Derived.ProofKit
import Derived.Lib.SmallJoins
import Derived.WalkKit
import Derived.WalkSpells
import Derived.WalkLawsBesides
import Derived.Lib.Hide
import Derived.Deep.OwnRows

/-! EQ: Lists of equations as plain data, and in memory as rows of six cells. Definitions and plain lemmas. -/
namespace Go.Proofs.Ytbnbogdglffkmaa
open Go.RowKit Go.Deep

/-- A sign, a variable, the kids. -/
abbrev Tm3 := Int × Int × Fo
/-- Both sides of an equation. -/
abbrev Eqd := Tm3 × Tm3
def okT3 (room : Int) (t : Tm3) : Bool := okW t.1 t.2.1 t.2.2 room
/-- A slice's address at which the equations es lie. -/
def ESl (w : World) (lo B : Nat) (a : Option Addr) (es : List Eqd) : Prop :=
  es = [] ∨ ∃ b o, a = some ⟨b, o, none⟩ ∧ lo ≤ b ∧ b < B ∧ ∀ (i : Nat) (x : Eqd), es[i]? = some x → ∃ a1 c1 a2 c2, w.cell? ⟨b, o + i * 6, none⟩ = some (.int .i64 x.1.1) ∧ w.cell? ⟨b, o + i * 6 + 1, none⟩ = some (.int .i64 x.1.2.1) ∧ w.cell? ⟨b, o + i * 6 + 2, none⟩ = some (.slice a1 (flen x.1.2.2) c1) ∧
    w.cell? ⟨b, o + i * 6 + 3, none⟩ = some (.int .i64 x.2.1) ∧ w.cell? ⟨b, o + i * 6 + 3 + 1, none⟩ = some (.int .i64 x.2.2.1) ∧ w.cell? ⟨b, o + i * 6 + 3 + 2, none⟩ = some (.slice a2 (flen x.2.2.2) c2) ∧ Sl w lo B a1 x.1.2.2 ∧ Sl w lo B a2 x.2.2.2
theorem ESl.same {w w' : World} {lo B : Nat} {a : Option Addr} {es : List Eqd} (hb : Same lo B w w') (h : ESl w lo B a es) : ESl w' lo B a es := by
  rcases h with h | ⟨b, o, e, h1, h2, h3⟩
  · exact .inl h
  · refine .inr ⟨b, o, e, h1, h2, fun i x hx => ?_⟩
    obtain ⟨a1, k1, a2, k2, c0, c1, c2, c3, c4, c5, hl, hl2⟩ := h3 i x hx
    exact ⟨a1, k1, a2, k2, by rw [hb.cell h1 h2]; exact c0, by rw [hb.cell h1 h2]; exact c1, by rw [hb.cell h1 h2]; exact c2, by rw [hb.cell h1 h2]; exact c3, by rw [hb.cell h1 h2]; exact c4, by rw [hb.cell h1 h2]; exact c5, hl.same hb, hl2.same hb⟩
theorem ESl.mono {w : World} {lo lo' B B' : Nat} {a : Option Addr} {es : List Eqd} (hlo : lo' ≤ lo) (hB : B ≤ B') (h : ESl w lo B a es) : ESl w lo' B' a es := by
  rcases h with h | ⟨b, o, e, h1, h2, h3⟩
  · exact .inl h
  · refine .inr ⟨b, o, e, by omega, by omega, fun i x hx => ?_⟩
    obtain ⟨a1, k1, a2, k2, c0, c1, c2, c3, c4, c5, hl, hl2⟩ := h3 i x hx
    exact ⟨a1, k1, a2, k2, c0, c1, c2, c3, c4, c5, hl.mono hlo hB, hl2.mono hlo hB⟩
theorem ESl.below {w w' : World} {lo B : Nat} {a : Option Addr} {es : List Eqd} (hb : Below B w w') (h : ESl w lo B a es) : ESl w' lo B a es := h.same (Same.of_below hb)
theorem ESl.next {w w' : World} {a : Option Addr} {es : List Eqd} (h : ESl w 0 w.heap.size a es) (hb : Below w.heap.size w w') : ESl w' 0 w'.heap.size a es := (h.below hb).mono (Nat.le_refl _) hb.size
/-- What the cells of an equation hold. -/
theorem ESl.at {w : World} {lo B : Nat} {a : Option Addr} {es : List Eqd} (h : ESl w lo B a es) {i : Nat} {x : Eqd} (hx : es[i]? = some x) :
    ∃ b o, a = some ⟨b, o, none⟩ ∧ lo ≤ b ∧ b < B ∧ ∃ a1 c1 a2 c2, w.cell? ⟨b, o + i * 6, none⟩ = some (.int .i64 x.1.1) ∧ w.cell? ⟨b, o + i * 6 + 1, none⟩ = some (.int .i64 x.1.2.1) ∧ w.cell? ⟨b, o + i * 6 + 2, none⟩ = some (.slice a1 (flen x.1.2.2) c1) ∧
    w.cell? ⟨b, o + i * 6 + 3, none⟩ = some (.int .i64 x.2.1) ∧ w.cell? ⟨b, o + i * 6 + 3 + 1, none⟩ = some (.int .i64 x.2.2.1) ∧ w.cell? ⟨b, o + i * 6 + 3 + 2, none⟩ = some (.slice a2 (flen x.2.2.2) c2) ∧ Sl w lo B a1 x.1.2.2 ∧ Sl w lo B a2 x.2.2.2 := by
  rcases h with rfl | ⟨b, o, e, h1, h2, h3⟩
  · simp at hx
  · exact ⟨b, o, e, h1, h2, h3 i x hx⟩

/-- An equation of valid terms. -/
def okE (x : Eqd) : Bool := okT3 16 x.1 && okT3 16 x.2
/-- A valid equation list. -/
def okEs (es : List Eqd) : Bool := decide (es.length ≤ 6) && es.all okE
theorem okEs_iff (es : List Eqd) : okEs es = true ↔ es.length ≤ 6 ∧ ∀ x ∈ es, okE x = true := by simp [okEs]
theorem all_take {es : List Eqd} {j : Nat} {x : Eqd} (h : (es.take j).all okE = true) (hx : es[j]? = some x) (h1 : okE x = true) : (es.take (j + 1)).all okE = true := by
  rw [List.take_add_one, hx]
  simp only [Option.toList_some, List.all_append, h, List.all_cons, h1, List.all_nil, Bool.and_true]
theorem all_no {es : List Eqd} {j : Nat} {x : Eqd} (hx : es[j]? = some x) (h1 : okE x = false) : okEs es = false := by
  cases h : okEs es with
  | false => rfl
  | true => rw [((okEs_iff es).1 h).2 x (List.mem_of_getElem? hx)] at h1; cases h1
end Go.Proofs.Ytbnbogdglffkmaa

/-! ES1: The specification's EqsOk. -/
namespace Go.Proofs.Ytbnbogdglffkmaa
open Go.RowKit Go.Deep

set_option maxRecDepth 100000 in
set_option maxHeartbeats 2000000 in
theorem sEqsOk_any (es : List Eqd) (A : Option Addr) (C : Nat) (w : World) (hb : ESl w 0 w.heap.size A es) (hl : es.length ≤ 9223372036854775807) :
    Calls Try.prog 10 #[.slice A es.length C] w fun e w' => e = .returned (.bool (okEs es)) ∧ Below w.heap.size w w' := by
  have HB := Lib.hid hb
  clear hb
  by_cases hbig : 6 < es.length
  · have HF : Hid (okEs es = false) := by
      cases h : okEs es with
      | false => exact rfl
      | true => have := ((okEs_iff es).1 h).1; omega
    go_enter Try.func10, Try.ntmps10
    go_wp2_with fail
    go_ret
    exact ⟨by rw [HF.out]; rfl, Below.refl _ _⟩
  go_enter Try.func10, Try.ntmps10
  go_wp2_with fail
  go_loopw [3] (fun i wr => ∃ j : Nat, i = .int .i64 j ∧ j ≤ es.length ∧ Hid ((es.take j).all okE = true) ∧ Hid (Below w.heap.size w wr)) (fun i _ => es.length - (intOf i).toNat)
  case atStart => exact ⟨0, rfl, Nat.zero_le _, rfl, Below.refl _ _⟩
  case round =>
    obtain ⟨j, rfl, hj, HS, HLW⟩ := hrel
    have hws := HLW.out.size
    by_cases hlt : j < es.length
    · obtain ⟨x, hx⟩ : ∃ x, es[j]? = some x := ⟨es[j], List.getElem?_eq_getElem hlt⟩
      obtain ⟨⟨s, v, k⟩, s', v', k'⟩ := x
      have hbr := HB.out.below HLW.out
      obtain ⟨b, o, rfl, _, hbB, a1, d1, a2, d2, c0, c1, c2, c3, c4, c5, hsl, hsl2⟩ := hbr.at hx
      dsimp only at c0 c1 c2 c3 c4 c5 hsl hsl2
      have g1 : (0 : Int) ≤ (j : Int) := by omega
      have g2 : (j : Int) < (es.length : Int) := by omega
      have HX := Lib.hid hx
      have HSL : Hid (Sl wr 0 wr.heap.size a1 k) := hsl.mono (Nat.le_refl _) hws
      have HSL2 : Hid (Sl wr 0 wr.heap.size a2 k') := hsl2.mono (Nat.le_refl _) hws
      clear hx hsl hsl2
      go_wp2_with fail
      with_reducible refine (sTermOk_any s v a1 d1 k _ HSL.out).mono ?_
      rintro e w2 ⟨rfl, hb2⟩
      have e3 := cell_low hb2 c3
      have e4 := cell_low hb2 c4
      have e5 := cell_low hb2 c5
      have HL2 := Lib.hid (HLW.out.trans (hb2.mono hws))
      have HSL3 := Lib.hid (HSL2.out.next hb2)
      clear hb2 c0 c1 c2 c3 c4 c5 HSL HSL2
      cases hok : okW s v k 16 with
      | false =>
        have HF : Hid (okEs es = false) := all_no HX.out (by simp only [okE, okT3, hok, Bool.false_and])
        clear hok
        go_wp2_with fail
        go_ret
        exact ⟨by rw [HF.out]; rfl, HL2.out⟩
      | true =>
        have HOK := Lib.hid hok
        clear hok
        go_wp2_with fail
        with_reducible refine (sTermOk_any s' v' a2 d2 k' _ HSL3.out).mono ?_
        rintro e w3 ⟨rfl, hb3⟩
        have HL3 := Lib.hid (HL2.out.trans (hb3.mono HL2.out.size))
        clear hb3 e3 e4 e5 HSL3
        cases hok : okW s' v' k' 16 with
        | false =>
          have HF : Hid (okEs es = false) := all_no HX.out (by simp only [okE, okT3, hok, Bool.and_false])
          clear hok
          go_wp2_with fail
          go_ret
          exact ⟨by rw [HF.out]; rfl, HL3.out⟩
        | true =>
          have HA : Hid ((es.take (j + 1)).all okE = true) := all_take HS.out HX.out (by simp only [okE, okT3, hok, HOK.out, Bool.and_self])
          clear hok
          go_wp2_with fail
          go_roundw
          case rel => exact ⟨j + 1, by go_num, by omega, HA, HL3⟩
          case measure => simp [intOf]; omega
    · have HE : Hid (okEs es = true) := by
        refine (okEs_iff es).2 ⟨by omega, fun x hx => ?_⟩
        have := HS.out
        rw [List.take_of_length_le (by omega)] at this
        exact List.all_eq_true.1 this x hx
      go_wp2_with fail
      go_ret
      exact ⟨by rw [HE.out]; rfl, HLW.out⟩
end Go.Proofs.Ytbnbogdglffkmaa

/-! Read: A term that came in as an argument, as the walks take it. -/
namespace Go.Proofs.Ytbnbogdglffkmaa
open Go.ChangeShapes Go.WideShapes Go.RowKit Go.Deep Go.Joins

theorem add_none (b o n : Nat) : (⟨b, o, none⟩ : Addr).add n = ⟨b, o + n, none⟩ := by unfold Addr.add; split <;> simp_all

theorem Try.cellsTerm : Try.prog.cellsOf 24 = 3 := by kernel_rfl
theorem Try.cellsInt : Try.prog.cellsOf 3 = 1 := by kernel_rfl
theorem Try.cellsTerms : Try.prog.cellsOf 22 = 1 := by kernel_rfl

/-- No slice in it is longer than a slice can be. -/
def fcap : Fo → Prop
  | .nil => True
  | .node _ _ _ k r => flen k ≤ maxLen ∧ fcap k ∧ fcap r
theorem fcap_drop : ∀ (i : Nat) (k : Fo), fcap k → fcap (fdrop i k)
  | 0, _, h => h
  | _ + 1, .nil, h => h
  | n + 1, .node _ _ _ _ r, h => fcap_drop n r h.2.2

/-- Elements one by one: a row of terms. -/
theorem row_of_elems {w : World} {b o len : Nat} (h : ∀ i, i < len → ∃ s v a c k, w.cell? ⟨b, o + i * 3, none⟩ = some (.int .i64 s) ∧ w.cell? ⟨b, o + i * 3 + 1, none⟩ = some (.int .i64 v) ∧
      w.cell? ⟨b, o + i * 3 + 2, none⟩ = some (.slice a (flen k) c) ∧ Sl w 0 w.heap.size a k ∧ flen k ≤ maxLen ∧ fcap k) :
    ∀ m, m ≤ len → ∃ k, flen k = m ∧ fcap k ∧ Row w 0 w.heap.size k b (o + (len - m) * 3)
  | 0, _ => ⟨.nil, rfl, trivial, trivial⟩
  | m + 1, hm => by
    obtain ⟨r, hr, hrc, hrow⟩ := row_of_elems h m (by omega)
    obtain ⟨s, v, a, c, k, h0, h1, h2, hs, hk1, hk2⟩ := h (len - (m + 1)) (by omega)
    refine ⟨.node 0 0 (s, v) k r, by simp [flen, hr], ⟨hk1, hk2, hrc⟩, Nat.zero_le _, World.block_lt_of_cell? _ _ h0, h0, h1, ⟨a, c, h2, hs⟩, ?_⟩
    rw [show o + (len - (m + 1)) * 3 + 3 = o + (len - m) * 3 from by omega]
    exact hrow

set_option maxRecDepth 100000 in
theorem read_term {H : Type} {enc : TypeId × Value → H} {w : World} {sp : Nat → Bool} {hd : Bool} (fuel : Nat) : ∀ (cs : List Value) (x : DataW H × List MemPlace), DataW.trod enc Try.prog w 0 sp hd fuel 24 cs = some x →
    ∃ s v a c k, cs = [.int .i64 s, .int .i64 v, .slice a (flen k) c] ∧ Sl w 0 w.heap.size a k ∧ flen k ≤ maxLen ∧ fcap k := by
  induction fuel using Nat.strongRecOn with
  | _ fuel ih =>
    intro cs x h
    obtain ⟨xs, n, rfl, _, hlen, hxl, hf⟩ := DataW.trod_struct Try.underlying24 h
    rw [Try.cellsTerm] at hlen
    match cs, hlen with
    | [c0, c1, c2], _ =>
      have f0 : DataW.trod enc Try.prog w 0 sp hd n 3 (([c0, c1, c2].drop 0).take (Try.prog.cellsOf 3)) = xs[0]? := hf 0 _ rfl
      have f1 : DataW.trod enc Try.prog w 0 sp hd n 3 (([c0, c1, c2].drop 1).take (Try.prog.cellsOf 3)) = xs[1]? := hf 1 _ rfl
      have f2 : DataW.trod enc Try.prog w 0 sp hd n 22 (([c0, c1, c2].drop 2).take (Try.prog.cellsOf 22)) = xs[2]? := hf 2 _ rfl
      simp only [Try.cellsInt, Try.cellsTerms, List.drop_zero, List.take_succ_cons, List.take_zero, List.drop_succ_cons] at f0 f1 f2
      have hx0 : xs[0]? = some (xs[0]'(by rw [hxl]; decide)) := List.getElem?_eq_getElem _
      have hx1 : xs[1]? = some (xs[1]'(by rw [hxl]; decide)) := List.getElem?_eq_getElem _
      have hx2 : xs[2]? = some (xs[2]'(by rw [hxl]; decide)) := List.getElem?_eq_getElem _
      rw [hx0] at f0
      rw [hx1] at f1
      rw [hx2] at f2
      obtain ⟨s, e0, _, _⟩ := DataW.trod_int Try.underlying3 f0
      obtain ⟨v, e1, _, _⟩ := DataW.trod_int Try.underlying3 f1
      simp only [List.cons.injEq, and_true] at e0 e1
      subst e0 e1
      rcases DataW.trod_slice Try.underlying22 f2 with ⟨e2, _⟩ | ⟨a, len, cap, elems, rest, n', rfl, e2, _, _, hl, hcm, hel, hall, _⟩
      · simp only [List.cons.injEq, and_true] at e2
        subst e2
        exact ⟨s, v, none, 0, .nil, rfl, .inl rfl, Nat.zero_le _, trivial⟩
      · simp only [List.cons.injEq, and_true] at e2
        subst e2
        obtain ⟨b, o, spot⟩ := a
        rw [Try.cellsTerm] at hall
        by_cases hz : len = 0
        · subst hz
          exact ⟨s, v, _, cap, .nil, rfl, .inl rfl, Nat.zero_le _, trivial⟩
        have hsp : spot = none := by
          have h1 := hall 0 (by omega)
          have h2 : elems[0]? = some (elems[0]'(by omega)) := List.getElem?_eq_getElem _
          rw [h2] at h1
          obtain ⟨cs', hc, ht⟩ := Option.bind_eq_some_iff.1 h1
          obtain ⟨s', v', a', c', k', rfl, _⟩ := ih n' (by omega) cs' _ ht
          obtain ⟨_, _, hat⟩ := World.cells?_some hc
          have g0 := hat 0 (by omega)
          simpa [Addr.add] using World.cell?_spot g0
        subst hsp
        have key : ∀ i, i < len → ∃ s v a c k, w.cell? ⟨b, o + i * 3, none⟩ = some (.int .i64 s) ∧ w.cell? ⟨b, o + i * 3 + 1, none⟩ = some (.int .i64 v) ∧
            w.cell? ⟨b, o + i * 3 + 2, none⟩ = some (.slice a (flen k) c) ∧ Sl w 0 w.heap.size a k ∧ flen k ≤ maxLen ∧ fcap k := by
          intro i hi
          have h1 := hall i hi
          have h2 : elems[i]? = some (elems[i]'(by omega)) := List.getElem?_eq_getElem _
          rw [h2] at h1
          obtain ⟨cs', hc, ht⟩ := Option.bind_eq_some_iff.1 h1
          obtain ⟨s', v', a', c', k', rfl, hs, hk1, hk2⟩ := ih n' (by omega) cs' _ ht
          obtain ⟨_, _, hat⟩ := World.cells?_some hc
          have g0 := hat 0 (by omega)
          have g1 := hat 1 (by omega)
          have g2 := hat 2 (by omega)
          rw [add_none, add_none] at g0 g1 g2
          exact ⟨s', v', a', c', k', by simpa using g0, by simpa using g1, by simpa using g2, hs, hk1, hk2⟩
        obtain ⟨k, hk, hkc, hrow⟩ := row_of_elems key len (Nat.le_refl _)
        rw [Nat.sub_self, Nat.zero_mul, Nat.add_zero] at hrow
        exact ⟨s, v, _, cap, k, by rw [hk], .inr ⟨b, o, rfl, hrow⟩, by rw [hk]; omega, hkc⟩

end Go.Proofs.Ytbnbogdglffkmaa

/-! XA: szTerm, szTermS: how many terms there are below a term, as long as there are not too many. -/
namespace Go.Proofs.Ytbnbogdglffkmaa
open Go.RowKit Go.Deep

def szR (k : Fo) (left : Int) : Int := if (fsz k : Int) ≤ left then left - fsz k else -1
/-- .. with the terms r still to be looked below. -/
def szG (r : Fo) (l : Int) : Int := if (fsz r : Int) - flen r ≤ l then l - ((fsz r : Int) - flen r) else -1

theorem flen_le {k : Fo} : flen k ≤ fsz k := by
  induction k with
  | nil => exact Nat.le_refl _
  | node _ _ _ k r _ ih => simp only [flen, fsz]; omega
theorem szR_start (k : Fo) (left : Int) : szR k left = szG k (left - flen k) := by
  have := flen_le (k := k)
  unfold szR szG
  split <;> split <;> omega
theorem szR_over {k : Fo} {left : Int} (h : left < flen k) : szR k left = -1 := by
  have := flen_le (k := k)
  unfold szR
  rw [if_neg (by omega)]
theorem szG_node (x y : Nat) (p : Int × Int) (kk r : Fo) : (fsz (.node x y p kk r) : Int) - flen (.node x y p kk r) = fsz kk + ((fsz r : Int) - flen r) := by
  have e1 : fsz (.node x y p kk r) = fsz kk + fsz r + 1 := rfl
  have e2 : flen (.node x y p kk r) = flen r + 1 := rfl
  rw [e1, e2]
  omega
theorem szG_step {x y : Nat} {p : Int × Int} {kk r : Fo} {l : Int} (_h : (fsz kk : Int) ≤ l) : szG (.node x y p kk r) l = szG r (l - fsz kk) := by
  unfold szG
  rw [szG_node]
  split <;> split <;> omega
theorem szG_over {x y : Nat} {p : Int × Int} {kk r : Fo} {l : Int} (h : l < (fsz kk : Int)) : szG (.node x y p kk r) l = -1 := by
  have := flen_le (k := r)
  unfold szG
  rw [szG_node, if_neg (by omega)]
theorem szG_nil {l : Int} (h : 0 ≤ l) : szG .nil l = l := by
  unfold szG
  simp [fsz, flen, h]
theorem fsz_drop' : ∀ (i : Nat) (k : Fo), fsz (fdrop i k) ≤ fsz k
  | 0, _ => Nat.le_refl _
  | _ + 1, .nil => Nat.le_refl _
  | n + 1, .node _ _ _ _ r => by have := fsz_drop' n r; simp only [fdrop, fsz]; omega
theorem fsz_kid' {i : Nat} {k : Fo} {x y : Nat} {p : Int × Int} {kk r : Fo} (h : fdrop i k = .node x y p kk r) : fsz kk < fsz k := by
  have := fsz_drop' i k
  rw [h] at this
  simp only [fsz] at this
  omega
theorem sub_neg {left : Int} {n : Nat} (h0 : 0 ≤ left) (h1 : left ≤ 1048576) (h2 : 1048576 < n) (h3 : n ≤ maxLen) : decide (wrap64 (left - (n : Int)) < 0) = true := by
  unfold maxLen at h3
  have : wrap64 (left - (n : Int)) = left - n := by
    unfold wrap64
    omega
  rw [this]
  exact decide_eq_true (by omega)

theorem box_lowX {w w' : World} {o : Obj} (h : Below (w.heap.size + 1) (w.alloc o) w') : Below w.heap.size w w' :=
  ((Below.refl _ _).alloc (Nat.le_refl _) o).trans (h.mono (Nat.le_succ _))

/-- szTerm out of szTermS. -/
theorem szTerm_of (s v : Int) (a : Option Addr) (n c : Nat) (left z : Int) (w : World) (hz : z = -1 ∨ 0 ≤ z)
    (hS : ∀ w1, Below w.heap.size w w1 → Calls Try.prog 15 #[.slice a n c, .int .i64 left] w1 fun e w' => e = .returned (.int .i64 z) ∧ Below w1.heap.size w1 w') :
    Calls Try.prog 9 #[.agg #[.int .i64 s, .int .i64 v, .slice a n c], .int .i64 left] w fun e w' => e = .returned (.int .i64 z) ∧ Below w.heap.size w w' := by
  have HS := Lib.hid hS
  clear hS
  rcases hz with rfl | hz
  all_goals
    go_enter Try.func9, Try.ntmps9
    go_wp2_with fail
    with_reducible refine (HS.out _ ((Below.refl _ _).alloc (Nat.le_refl _) _)).mono ?_
    rintro e w1 ⟨rfl, hb⟩
    have HB := Lib.hid (((Below.refl w.heap.size w).alloc (Nat.le_refl _) _).trans (hb.mono (by simp)))
    clear hb
    go_wp2_with fail
    go_ret
    exact ⟨rfl, HB.out⟩
theorem szR_case (k : Fo) (left : Int) : szR k left = -1 ∨ 0 ≤ szR k left := by unfold szR; split <;> omega

set_option maxRecDepth 100000 in
set_option maxHeartbeats 1000000 in
theorem szTermS_any (N : Nat) : ∀ (a : Option Addr) (c : Nat) (k : Fo) (left : Int) (w : World), Sl w 0 w.heap.size a k → fcap k → flen k ≤ maxLen → fsz k ≤ N → 0 ≤ left → left ≤ 1048576 →
    Calls Try.prog 15 #[.slice a (flen k) c, .int .i64 left] w fun e w' => e = .returned (.int .i64 (szR k left)) ∧ Below w.heap.size w w' := by
  induction N using Nat.strongRecOn with
  | _ N ih =>
    intro a c k left w hl hfc hml hN h0 h1
    have IH := Lib.hid ih
    clear ih
    by_cases hbig : 1048576 < flen k
    · have hneg := sub_neg h0 h1 hbig hml
      have HE : Hid (szR k left = -1) := szR_over (by omega)
      clear hml
      go_enter Try.func15, Try.ntmps15
      go_wp2_with fail
      go_ret
      exact ⟨by rw [HE.out]; rfl, Below.refl _ _⟩
    clear hml
    by_cases hov : left < flen k
    · have HE : Hid (szR k left = -1) := szR_over hov
      go_enter Try.func15, Try.ntmps15
      go_wp2_with fail
      go_ret
      exact ⟨by rw [HE.out]; rfl, Below.refl _ _⟩
    have HST := Lib.hid (szR_start k left)
    have HFC := Lib.hid hfc
    clear hfc
    go_enter Try.func15, Try.ntmps15
    go_wp2_with fail
    go_loopw [1, 5] (fun t i wr => ∃ (j : Nat) (l : Int), j ≤ flen k ∧ i = .int .i64 j ∧ t = .int .i64 l ∧ 0 ≤ l ∧ l ≤ 1048576 ∧ Hid (szR k left = szG (fdrop j k) l) ∧ Below w.heap.size w wr) (fun _ i _ => flen k - (intOf i).toNat)
    case atStart => exact ⟨0, left - flen k, by omega, rfl, rfl, by omega, by omega, HST, Below.refl _ _⟩
    case round =>
      clear HST
      obtain ⟨j, l, hj, rfl, rfl, hl0, hl1, hsz, hbl⟩ := hrel
      by_cases hlt : j < flen k
      · rcases hl with rfl | ⟨b, o, rfl, hrow⟩
        · simp [flen] at hlt
        obtain ⟨s', v', kk, a', c', ⟨x, y, hd⟩, _, hbB, hk0, hk1, hk2, hsl⟩ := row_at (hrow.below hbl) hlt
        have hkN := fsz_kid' hd
        have hkc := fcap_drop j k HFC.out
        rw [hd] at hkc
        have HSZ : Hid (szR k left = szG (.node x y (s', v') kk (fdrop (j + 1) k)) l) := by rw [← hd]; exact hsz
        have HS := Lib.hid hsl
        have HKC : Hid (flen kk ≤ maxLen ∧ fcap kk) := ⟨hkc.1, hkc.2.1⟩
        have HBL := Lib.hid hbl
        have hbs := hbl.size
        clear hd hsl hrow hbl hsz hkc
        go_wp2_with fail
        with_reducible refine (szTerm_of s' v' a' (flen kk) c' l (szR kk l) _ (szR_case _ _) ?_).mono ?_
        · intro w1 hb1
          refine IH.out (fsz kk) (by omega) a' c' kk l w1 ?_ HKC.out.2 HKC.out.1 (Nat.le_refl _) hl0 hl1
          exact (HS.out.below (hb1.mono hbs)).mono (Nat.le_refl _) (Nat.le_trans hbs hb1.size)
        rintro e w2 ⟨rfl, hb2⟩
        have HB2 := Lib.hid (HBL.out.trans (hb2.mono hbs))
        clear hb2
        by_cases hok : (fsz kk : Int) ≤ l
        · have he : szR kk l = l - fsz kk := by unfold szR; rw [if_pos hok]
          rw [he]
          clear he
          have HSZ2 : Hid (szR k left = szG (fdrop (j + 1) k) (l - fsz kk)) := by rw [Hid, HSZ.out]; exact szG_step hok
          go_wp2_with fail
          go_roundw
          case rel => exact ⟨j + 1, _, by omega, by go_num, rfl, by omega, by omega, HSZ2, HB2.out⟩
          case measure => simp [intOf]; omega
        · have he : szR kk l = -1 := by unfold szR; rw [if_neg hok]
          rw [he]
          clear he
          have HSZ2 : Hid (szR k left = -1) := by rw [Hid, HSZ.out]; exact szG_over (by omega)
          go_wp2_with fail
          go_ret
          exact ⟨by rw [HSZ2.out]; rfl, HB2.out⟩
      · have HE : Hid (szR k left = l) := by
          rw [Hid, hsz.out, fdrop_all (by omega)]
          exact szG_nil hl0
        clear hsz
        go_wp2_with fail
        go_ret
        exact ⟨by rw [HE.out]; rfl, hbl⟩
end Go.Proofs.Ytbnbogdglffkmaa

/-! XB: toTerm, toTermS: a term copied into the program's own type. -/
namespace Go.Proofs.Ytbnbogdglffkmaa
open Go.RowKit Go.Deep

def ToPost (s v : Int) (k : Fo) (w : World) (e : Ending) (w' : World) : Prop :=
  ∃ a c, e = .returned (.agg #[.int .i64 s, .int .i64 v, .slice a (flen k) c]) ∧ Below w.heap.size w w' ∧ Sl w' w.heap.size w'.heap.size a k
def TosPost (k : Fo) (w : World) (e : Ending) (w' : World) : Prop :=
  ∃ a c, e = .returned (.slice a (flen k) c) ∧ Below w.heap.size w w' ∧ Sl w' w.heap.size w'.heap.size a k

theorem to_end {w w1 : World} {s v : Int} {k : Fo} {a : Option Addr} {c : Nat} {n : Nat} (hn : n = w.heap.size) (hb : Below n w w1) (hl : Sl w1 (n + 3) w1.heap.size a k) (u x y z : Value) :
    ToPost s v k w (.returned (.agg #[.int .i64 s, .int .i64 v, .slice a (flen k) c])) ((((w1.setCell ⟨n + 1 + 1, 2, none⟩ u).setCell ⟨n + 1, 0, none⟩ x).setCell ⟨n + 1, 1, none⟩ y).setCell ⟨n + 1, 2, none⟩ z) := by
  subst hn
  refine ⟨a, c, rfl, (((hb.setCell (by simp; omega) _).setCell (by simp) _).setCell (by simp) _).setCell (by simp) _, ?_⟩
  have hs : Same (w.heap.size + 3) w1.heap.size w1 ((((w1.setCell ⟨w.heap.size + 1 + 1, 2, none⟩ u).setCell ⟨w.heap.size + 1, 0, none⟩ x).setCell ⟨w.heap.size + 1, 1, none⟩ y).setCell ⟨w.heap.size + 1, 2, none⟩ z) :=
    ((((Same.setCell (fun _ _ _ => rfl) (.inl (by simp)) _).setCell (.inl (by simp)) _).setCell (.inl (by simp)) _).setCell (.inl (by simp)) _)
  exact (hl.same hs).mono (by omega) (by simp)

set_option maxRecDepth 100000 in
set_option maxHeartbeats 1000000 in
/-- toTerm out of toTermS. -/
theorem toTerm_of (s v : Int) (a : Option Addr) (c : Nat) (k : Fo) (w : World)
    (hS : ∀ w1, Below w.heap.size w w1 → Calls Try.prog 18 #[.slice a (flen k) c] w1 (TosPost k w1)) :
    Calls Try.prog 12 #[.agg #[.int .i64 s, .int .i64 v, .slice a (flen k) c]] w (ToPost s v k w) := by
  have HS := Lib.hid hS
  clear hS
  go_enter Try.func12, Try.ntmps12
  go_wp2_with fail
  with_reducible refine (HS.out _ ?_).mono ?_
  · exact ((((Below.refl _ _).alloc (Nat.le_refl _) _).alloc (by simp) _).alloc (by simp; omega) _)
  rintro e w1 ⟨a1, c1, rfl, hb, hl⟩
  have hs1 := hb.size
  simp at hs1
  have hlow : ∀ {q : Addr} {u : Value}, (((w.alloc (.cells #[.int .i64 s, .int .i64 v, .slice a (flen k) c] 24)).alloc (.cells #[.int .i64 0, .int .i64 0, .slice none 0 0] 31)).alloc (.cells #[.int .i64 s, .int .i64 v, .slice none 0 0] 31)).cell? q = some u → w1.cell? q = some u := fun h => by
    rw [hb.cell (World.block_lt_of_cell? _ _ h)]; exact h
  have hc0 := hlow (q := ⟨w.heap.size + 1 + 1, 0, none⟩) (u := .int .i64 s) (by rw [World.cell?_alloc_at _ _ _ _ (by simp)]; rfl)
  have hc1 := hlow (q := ⟨w.heap.size + 1 + 1, 1, none⟩) (u := .int .i64 v) (by rw [World.cell?_alloc_at _ _ _ _ (by simp)]; rfl)
  have hc2 := hlow (q := ⟨w.heap.size + 1 + 1, 2, none⟩) (u := .slice none 0 0) (by rw [World.cell?_alloc_at _ _ _ _ (by simp)]; rfl)
  have hr0 := hlow (q := ⟨w.heap.size + 1, 0, none⟩) (u := .int .i64 0) (by rw [World.cell?_alloc_lt _ _ _ (by simp), World.cell?_alloc_at _ _ _ _ (by simp)]; rfl)
  have hr1 := hlow (q := ⟨w.heap.size + 1, 1, none⟩) (u := .int .i64 0) (by rw [World.cell?_alloc_lt _ _ _ (by simp), World.cell?_alloc_at _ _ _ _ (by simp)]; rfl)
  have hr2 := hlow (q := ⟨w.heap.size + 1, 2, none⟩) (u := .slice none 0 0) (by rw [World.cell?_alloc_lt _ _ _ (by simp), World.cell?_alloc_at _ _ _ _ (by simp)]; rfl)
  have hf2 : w1.frozen? ⟨w.heap.size + 1 + 1, 2, none⟩ = false := by rw [hb.frozen (by simp), World.frozen?_alloc_at _ _ _ _ (by simp)]
  have hg0 : w1.frozen? ⟨w.heap.size + 1, 0, none⟩ = false := by rw [hb.frozen (by simp), World.frozen?_alloc_past _ _ _ (by simp), World.frozen?_alloc_at _ _ _ _ (by simp)]
  have hg1 : w1.frozen? ⟨w.heap.size + 1, 1, none⟩ = false := by rw [hb.frozen (by simp), World.frozen?_alloc_past _ _ _ (by simp), World.frozen?_alloc_at _ _ _ _ (by simp)]
  have hg2 : w1.frozen? ⟨w.heap.size + 1, 2, none⟩ = false := by rw [hb.frozen (by simp), World.frozen?_alloc_past _ _ _ (by simp), World.frozen?_alloc_at _ _ _ _ (by simp)]
  have HB : Hid (Below w.heap.size w w1) := ((((Below.refl w.heap.size w).alloc (Nat.le_refl _) _).alloc (by simp) _).alloc (by simp; omega) _).trans (hb.mono (by simp; omega))
  have HL : Hid (Sl w1 (w.heap.size + 3) w1.heap.size a1 k) := hl.mono (by simp) (Nat.le_refl _)
  clear hb hl hlow
  go_wp2_with fail
  refine bodyPost_ret (v := .agg #[.int .i64 s, .int .i64 v, .slice a1 (flen k) c1]) ?_ rfl (to_end rfl HB.out HL.out _ _ _ _)
  simp [results, Try.results12, go_sem, hr0, hr1, hr2]

theorem Try.infoTermX : ∃ i, Try.prog.info? 31 = some i ∧ i.zero = some (.agg #[.int .i64 0, .int .i64 0, .slice none 0 0]) ∧ i.size = 3 ∧ i.bytes = 40 := by
  have h : (Try.prog.info? 31).map (fun i => (i.zero, i.size, i.bytes)) = some (some (.agg #[.int .i64 0, .int .i64 0, .slice none 0 0]), 3, 40) := by kernel_rfl
  obtain ⟨i, hi, hz⟩ := Option.map_eq_some_iff.1 h
  simp only [Prod.mk.injEq] at hz
  exact ⟨i, hi, hz.1, hz.2.1, hz.2.2⟩
theorem make_terms (n : Nat) (hn : n ≤ 1048576) (w : World) :
    (Instr.makeSlice 29 (.int .i64 (n : Int)) (.int .i64 (n : Int))).run Try.prog w = .ok (.slice (some ⟨w.heap.size, 0, none⟩) n n) (w.alloc (.cells (madeCells #[.int .i64 0, .int .i64 0, .slice none 0 0] (n * 3)) 31)) := by
  obtain ⟨i, hi, hz, hs, hb⟩ := Try.infoTermX
  have := run_make (P := Try.prog) w 29 31 i _ Try.underlying29 hi hz .i64 .i64 (n : Int) (n : Int) (by omega) (by omega) (by rw [hb]; omega) (by omega)
  rw [hs] at this
  simpa [Value.cells] using this
theorem made_at (n i : Nat) (z : Array Value) (h : i < n) : (madeCells z n)[i]? = some (z[i % z.size]!) := by simp [madeCells, h]

/-- What holds at the head of toTermS's loop. -/
structure ToAt (w : World) (k : Fo) (j : Nat) (wr : World) : Prop where
  below : Below w.heap.size w wr
  size : w.heap.size < wr.heap.size
  row : ∃ f : Nat → Value, wr.rowIs w.heap.size 31 (flen k * 3) f ∧ ∀ i, i < j → ∃ x y s v kk a c, fdrop i k = .node x y (s, v) kk (fdrop (i + 1) k) ∧
    f (i * 3) = .int .i64 s ∧ f (i * 3 + 1) = .int .i64 v ∧ f (i * 3 + 2) = .slice a (flen kk) c ∧ Sl wr (w.heap.size + 1) wr.heap.size a kk

theorem ToAt.start (w : World) (k : Fo) : ToAt w k 0 (w.alloc (.cells (madeCells #[.int .i64 0, .int .i64 0, .slice none 0 0] (flen k * 3)) 31)) := by
  refine ⟨(Below.refl _ _).alloc (Nat.le_refl _) _, by simp, ⟨fun i => #[Value.int .i64 0, .int .i64 0, .slice none 0 0][i % 3]!, ?_, fun i hi => by omega⟩⟩
  have := World.rowIs_alloc w (madeCells #[.int .i64 0, .int .i64 0, .slice none 0 0] (flen k * 3)) 31 (fun i => #[Value.int .i64 0, .int .i64 0, .slice none 0 0][i % 3]!) (fun i hi => by
    rw [size_madeCells] at hi
    exact made_at _ _ _ hi)
  rw [size_madeCells] at this
  exact this
theorem ToAt.step {w wr w2 : World} {k : Fo} {j x y : Nat} {s v : Int} {kk : Fo} {a : Option Addr} {c : Nat} (h : ToAt w k j wr) (hd : fdrop j k = .node x y (s, v) kk (fdrop (j + 1) k)) (hb : Below wr.heap.size wr w2) (hl : Sl w2 wr.heap.size w2.heap.size a kk) :
    ToAt w k (j + 1) (((w2.setCell ⟨w.heap.size, j * 3, none⟩ (.int .i64 s)).setCell ⟨w.heap.size, j * 3 + 1, none⟩ (.int .i64 v)).setCell ⟨w.heap.size, j * 3 + 2, none⟩ (.slice a (flen kk) c)) := by
  have hs := h.size
  have hs2 := hb.size
  obtain ⟨f, hf, hall⟩ := h.row
  have hf2 := hf.of_block (hb.block _ hs)
  have hsame : ∀ {L H : Nat}, w.heap.size < L → Same L H w2 (((w2.setCell ⟨w.heap.size, j * 3, none⟩ (.int .i64 s)).setCell ⟨w.heap.size, j * 3 + 1, none⟩ (.int .i64 v)).setCell ⟨w.heap.size, j * 3 + 2, none⟩ (.slice a (flen kk) c)) := fun hL =>
    ((Same.setCell (fun _ _ _ => rfl) (.inl hL) _).setCell (.inl hL) _).setCell (.inl hL) _
  refine ⟨(((h.below.trans (hb.mono (by omega))).setCell (by simp) _).setCell (by simp) _).setCell (by simp) _, by simp; omega, ⟨_, ((hf2.set _ _).set _ _).set _ _, fun i hi => ?_⟩⟩
  by_cases hij : i = j
  · subst hij
    exact ⟨x, y, s, v, kk, a, c, hd, by simp, by simp, by simp, (hl.same (hsame (by omega))).mono (by omega) (by simp)⟩
  · obtain ⟨x', y', s', v', k', a', c', e, h0, h1, h2, hsl⟩ := hall i (by omega)
    refine ⟨x', y', s', v', k', a', c', e, ?_, ?_, ?_, ((hsl.same (fun b h1 h2 => hb.block b h2)).same (hsame (by omega))).mono (Nat.le_refl _) (by simp; omega)⟩
    · rw [if_neg (by omega), if_neg (by omega), if_neg (by omega)]; exact h0
    · rw [if_neg (by omega), if_neg (by omega), if_neg (by omega)]; exact h1
    · rw [if_neg (by omega), if_neg (by omega), if_neg (by omega)]; exact h2
theorem ToAt.sl {w wr : World} {k : Fo} {j : Nat} (h : ToAt w k j wr) (hj : flen k ≤ j) : Sl wr w.heap.size wr.heap.size (some ⟨w.heap.size, 0, none⟩) k := by
  obtain ⟨f, hf, hall⟩ := h.row
  have hrow : ∀ (k' : Fo) (o : Nat), (∀ i, i < flen k' → ∃ x y s v kk a c, fdrop i k' = .node x y (s, v) kk (fdrop (i + 1) k') ∧ wr.cell? ⟨w.heap.size, o + i * 3, none⟩ = some (.int .i64 s) ∧ wr.cell? ⟨w.heap.size, o + i * 3 + 1, none⟩ = some (.int .i64 v) ∧
      wr.cell? ⟨w.heap.size, o + i * 3 + 2, none⟩ = some (.slice a (flen kk) c) ∧ Sl wr w.heap.size wr.heap.size a kk) → Row wr w.heap.size wr.heap.size k' w.heap.size o := by
    intro k'
    induction k' with
    | nil => intro o _; trivial
    | node x y p kk r _ ih =>
      intro o h'
      obtain ⟨x', y', s, v, kk', a, c, e, c0, c1, c2, hs⟩ := h' 0 (by simp [flen])
      simp only [fdrop, BT.node.injEq] at e
      obtain ⟨_, _, rfl, rfl, _⟩ := e
      refine ⟨Nat.le_refl _, h.size, by simpa using c0, by simpa using c1, ⟨a, c, by simpa using c2, hs⟩, ih (o + 3) fun i hi => ?_⟩
      obtain ⟨x', y', s, v, kk', a, c, e, c0, c1, c2, hs⟩ := h' (i + 1) (by simp [flen]; omega)
      have e3 : o + 3 + i * 3 = o + (i + 1) * 3 := by omega
      exact ⟨x', y', s, v, kk', a, c, e, by rw [e3]; exact c0, by rw [e3]; exact c1, by rw [e3]; exact c2, hs⟩
  refine .inr ⟨_, 0, rfl, hrow k 0 fun i hi => ?_⟩
  obtain ⟨x, y, s, v, kk, a, c, e, h0, h1, h2, hs⟩ := hall i (by omega)
  refine ⟨x, y, s, v, kk, a, c, e, ?_, ?_, ?_, hs.mono (by omega) (Nat.le_refl _)⟩
  · rw [Nat.zero_add, ← h0]; exact hf.cell (by omega)
  · rw [Nat.zero_add, ← h1]; exact hf.cell (by omega)
  · rw [Nat.zero_add, ← h2]; exact hf.cell (by omega)

set_option maxRecDepth 100000 in
set_option maxHeartbeats 1000000 in
theorem toTermS_any (N : Nat) : ∀ (a : Option Addr) (c : Nat) (k : Fo) (w : World), Sl w 0 w.heap.size a k → fsz k ≤ N → N ≤ 1048576 →
    Calls Try.prog 18 #[.slice a (flen k) c] w (TosPost k w) := by
  induction N using Nat.strongRecOn with
  | _ N ih =>
    intro a c k w hl hN hN2
    have hfl := flen_le (k := k)
    have IH := Lib.hid ih
    clear ih
    have hmk := make_terms (flen k) (by omega)
    have HST := Lib.hid (ToAt.start w k)
    go_enter Try.func18, Try.ntmps18
    go_wp2_with fail
    clear hmk
    go_loopw [4] (fun i wr => ∃ j : Nat, j ≤ flen k ∧ i = .int .i64 j ∧ ToAt w k j wr) (fun i _ => flen k - (intOf i).toNat)
    case atStart => exact ⟨0, by omega, rfl, HST.out⟩
    case round =>
      clear HST
      obtain ⟨j, hj, rfl, hat⟩ := hrel
      have hsr := hat.size
      by_cases hlt : j < flen k
      · rcases hl with rfl | ⟨b, o, rfl, hrow⟩
        · simp [flen] at hlt
        obtain ⟨s', v', kk, a', c', ⟨x, y, hd⟩, _, hbB, hk0, hk1, hk2, hsl⟩ := row_at (hrow.below hat.below) hlt
        have hkN := fsz_kid' hd
        have HD := Lib.hid hd
        have HS := Lib.hid hsl
        have HAT := Lib.hid hat
        clear hd hsl hrow hat
        go_wp2_with fail
        with_reducible refine (toTerm_of s' v' a' c' kk _ ?_).mono ?_
        · intro w1 hb1
          refine IH.out (fsz kk) (by omega) a' c' kk w1 ?_ (Nat.le_refl _) (by omega)
          exact (HS.out.below (hb1.mono (by omega))).mono (Nat.le_refl _) (by have := hb1.size; omega)
        rintro e w2 ⟨a2, c2, rfl, hb2, hl2⟩
        obtain ⟨f, hf, _⟩ := HAT.out.row
        have hf2 := hf.of_block (hb2.block _ hsr)
        have hg0 := hf2.cell (i := j * 3) (by omega)
        have hg1 := hf2.cell (i := j * 3 + 1) (by omega)
        have hg2 := hf2.cell (i := j * 3 + 2) (by omega)
        have hz0 := hf2.frozen (j * 3)
        have hz1 := hf2.frozen (j * 3 + 1)
        have hz2 := hf2.frozen (j * 3 + 2)
        have HSTEP := Lib.hid (HAT.out.step (c := c2) HD.out hb2 hl2)
        clear hf hf2 hb2 hl2 hk0 hk1 hk2
        go_wp2_with fail
        go_roundw
        case rel => exact ⟨j + 1, by omega, by go_num, HSTEP.out⟩
        case measure => simp [intOf]; omega
      · have HE : Hid (TosPost k w (.returned (.slice (some ⟨w.heap.size, 0, none⟩) (flen k) (flen k))) wr) := ⟨_, _, rfl, hat.below, hat.sl (by omega)⟩
        clear hat
        go_wp2_with fail
        go_ret
        exact HE.out
end Go.Proofs.Ytbnbogdglffkmaa
