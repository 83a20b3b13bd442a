/- Several texts in one: LL, FrameI, ReadL, ZB. -/
import Derived.Test.YtoafleckcjanaaaKLk22
import Derived.Test.YtoafleckcjanaaaKLk20
import Derived.Test.YtoafleckcjanaaaKLk25
import Derived.Test.YtoafleckcjanaaaKLk15
import Derived.Test.YtoafleckcjanaaaKLk7
import Derived.Test.YtoafleckcjanaaaKLk14
import Derived.WalkKit
import Derived.ProofKit
import Derived.OpenShut
import Derived.Test.YtoafleckcjanaaaKLk21

/-! LL: What the walks of the laws of links hold on to; plain lemmas of links. -/
namespace Go.Proofs.Ytoafleckcjanaaa
open Go.RowKit Go.Deep

/-- Block b is a box that holds a link. -/
structure Lb (b : Nat) (eq : Int) (back : Bool) (pA : Option Addr) (pC : Nat) (place : List Int) (B : Option Addr) (D : Nat) (bs : List Bd) (w : World) : Prop where
  c0 : w.cell? ⟨b, 0, none⟩ = some (.int .i64 eq)
  c1 : w.cell? ⟨b, 1, none⟩ = some (.bool back)
  c2 : w.cell? ⟨b, 2, none⟩ = some (.slice pA place.length pC)
  c3 : w.cell? ⟨b, 3, none⟩ = some (.slice B bs.length D)
  hp : ISc w 0 w.heap.size pA pC place
  hb : BSl w 0 w.heap.size B bs
section
variable {b : Nat} {eq : Int} {back : Bool} {pA : Option Addr} {pC : Nat} {place : List Int} {B : Option Addr} {D : Nat} {bs : List Bd} {w w2 : World}
theorem Lb.next (h : Lb b eq back pA pC place B D bs w) (hb : Below w.heap.size w w2) : Lb b eq back pA pC place B D bs w2 :=
  ⟨cell_low hb h.c0, cell_low hb h.c1, cell_low hb h.c2, cell_low hb h.c3, h.hp.next hb, h.hb.next hb⟩
theorem Lb.new (h : ISc w 0 w.heap.size pA pC place) (h2 : BSl w 0 w.heap.size B bs) : Lb w.heap.size eq back pA pC place B D bs (w.alloc (.cells #[.int .i64 eq, .bool back, .slice pA place.length pC, .slice B bs.length D] 43)) := by
  have a1 : ∀ i, (w.alloc (.cells #[.int .i64 eq, .bool back, .slice pA place.length pC, .slice B bs.length D] 43)).cell? ⟨w.heap.size, i, none⟩ = #[Value.int .i64 eq, .bool back, .slice pA place.length pC, .slice B bs.length D][i]? := fun i => by rw [World.cell?_alloc_at _ _ _ _ (by simp)]
  exact ⟨a1 0, a1 1, a1 2, a1 3, h.next (box_low _ _), h2.next (box_low _ _)⟩
/-- A row of one link. -/
theorem Lb.row (h : Lb b eq back pA pC place B D bs w) (hlt : b < w.heap.size) : LSl w 0 w.heap.size (some ⟨b, 0, none⟩) [(eq, back, place, bs)] := by
  refine .inr ⟨b, 0, rfl, Nat.zero_le _, hlt, fun i x hx => ?_⟩
  cases i with
  | zero =>
    simp only [List.getElem?_cons_zero, Option.some.injEq] at hx
    subst hx
    exact ⟨pA, pC, B, D, h.c0, h.c1, h.c2, h.c3, h.hp, h.hb⟩
  | succ i => simp at hx
end
theorem ansR_cases {r : Option Tm3} {t : Tm3} {b : Bool} (h : ansR r = (t, b)) : (b = false ∧ r = none ∧ t = t0) ∨ (b = true ∧ r = some t) := by
  cases r with
  | none => simp only [ansR, Prod.mk.injEq] at h; exact .inl ⟨h.2.symm, rfl, h.1.symm⟩
  | some x => simp only [ansR, Prod.mk.injEq] at h; exact .inr ⟨h.2.symm, by rw [h.1]⟩
/-- What an answer is in size. -/
theorem lk_small {es : List Eqd} {t : Tm3} {l : Lk} {s v : Int} {k : Fo} {b : Bool} (h : ansR (lkR es t l) = ((s, v, k), b)) : fsz k ≤ 63 := by
  rcases ansR_cases h with ⟨_, _, h2⟩ | ⟨_, h2⟩
  · cases h2; simp [fsz]
  · unfold lkR at h2
    split at h2
    · have h3 := ((okW_iff _ _ _ _).1 (lk1_ok h2)).2.2
      dsimp only at h3
      omega
    · cases h2
theorem pr_small {es : List Eqd} {t : Tm3} {ls : List Lk} {s v : Int} {k : Fo} {b : Bool} (h : ansR (prR es t ls) = ((s, v, k), b)) (ht : fsz t.2.2 ≤ 63) : fsz k ≤ 63 := by
  rcases ansR_cases h with ⟨_, _, h2⟩ | ⟨_, h2⟩
  · cases h2; simp [fsz]
  · unfold prR at h2
    split at h2
    · rename_i hc
      have h3 : ∀ (ls : List Lk) (t x : Tm3), fsz t.2.2 ≤ 63 → lkF es t ls = some x → fsz x.2.2 ≤ 63 := by
        intro ls
        induction ls with
        | nil => intro t x h1 h2; simp only [lkF, Option.some.injEq] at h2; subst h2; exact h1
        | cons l r ih =>
          intro t x h1 h2
          simp only [lkF] at h2
          cases h4 : lk1 es t l with
          | none => rw [h4] at h2; simp at h2
          | some y =>
            rw [h4] at h2
            have h5 := ((okW_iff _ _ _ _).1 (lk1_ok h4)).2.2
            exact ih y x (by omega) h2
      exact h3 ls t _ ht h2
    · cases h2
end Go.Proofs.Ytoafleckcjanaaa

/-! FrameI: A slice of numbers that came in, as the walks take it. -/
namespace Go.Proofs.Ytoafleckcjanaaa
open Go.ChangeShapes Go.WideShapes Go.ChangeAt Go.RowKit

/-- Out of the reading of an argument. -/
theorem ints_of_trod {H : Type} {enc : TypeId × Value → H} {W : World} {a : Option Addr} {len cap : Nat} {d : DataW H} {p : List MemPlace} (h : DataW.Trod enc Try.prog W 0 (fun _ => true) true 26 (.slice a len cap) d p) : ∃ xs : List Int, len = xs.length ∧ ISl W 0 W.heap.size a xs ∧ xs.length ≤ maxLen := by
  obtain ⟨fuel, hf⟩ := h
  rcases open_ints Try.underlying26 Try.underlying3 (by kernel_rfl) hf with ⟨hcs, _⟩ | ⟨x, l, c, zs, hcs, _, hl, hm, hz, _, hcell, _⟩
  · simp [Value.cells] at hcs
    obtain ⟨rfl, rfl, rfl⟩ := hcs
    exact ⟨[], rfl, .inl rfl, Nat.zero_le _⟩
  · simp [Value.cells] at hcs
    obtain ⟨rfl, rfl, rfl⟩ := hcs
    have hz' : zs.length = cap := by simpa using hz
    have hl' : (zs.take len).length = len := by rw [List.length_take]; omega
    refine ⟨zs.take len, hl'.symm, ?_, by rw [hl']; omega⟩
    by_cases h0 : len = 0
    · subst h0; exact .inl (by simp)
    · obtain ⟨b, o, spot⟩ := x
      have c0 := hcell 0 (by omega)
      have hs : spot = none := by simpa [Addr.add] using World.cell?_spot c0
      subst hs
      have ha : ∀ n, (⟨b, o, none⟩ : Addr).add n = ⟨b, o + n, none⟩ := fun n => by unfold Addr.add; split <;> simp_all
      rw [ha] at c0
      refine .inr ⟨b, o, rfl, Nat.zero_le _, World.block_lt_of_cell? _ _ c0, fun i x hx => ?_⟩
      rw [List.getElem?_take] at hx
      split at hx
      · have ci := hcell i (by omega)
        rw [ha] at ci
        rw [ci, List.getD_eq_getElem?_getD, hx]
        rfl
      · cases hx
end Go.Proofs.Ytoafleckcjanaaa

/-! ReadL: A link that came in as an argument, as the walks take it. -/
namespace Go.Proofs.Ytoafleckcjanaaa
open Go.ChangeShapes Go.WideShapes Go.ChangeAt Go.RowKit Go.Deep Go.Joins

theorem Try.cellsLinkL : Try.prog.cellsOf 29 = 4 := by kernel_rfl
theorem Try.cellsBoolL : Try.prog.cellsOf 4 = 1 := by kernel_rfl
theorem Try.cellsIntsL : Try.prog.cellsOf 26 = 1 := by kernel_rfl
theorem Try.cellsBindsL : Try.prog.cellsOf 27 = 1 := by kernel_rfl
/-- What is known of a link that is read. -/
def LkIn (w : World) (place : List Int) (bs : List Bd) (pA : Option Addr) (B : Option Addr) : Prop :=
  ISl w 0 w.heap.size pA place ∧ place.length ≤ maxLen ∧ BSl w 0 w.heap.size B bs ∧ bs.length ≤ maxLen ∧ ∀ x ∈ bs, flen x.2.2.2 ≤ maxLen ∧ fcap x.2.2.2
set_option maxRecDepth 100000 in
theorem read_link {H : Type} {enc : TypeId × Value → H} {w : World} {fuel : Nat} {cs : List Value} {x : DataW H × List MemPlace} (h : DataW.trod enc Try.prog w 0 (fun _ => true) true fuel 29 cs = some x) :
    ∃ eq back pA pC place B D bs, cs = [.int .i64 eq, .bool back, .slice pA (List.length place) pC, .slice B (List.length bs) D] ∧ LkIn w place bs pA B := by
  obtain ⟨xs, n, rfl, _, hlen, hxl, hf⟩ := DataW.trod_struct Try.underlying29 h
  rw [Try.cellsLinkL] at hlen
  match cs, hlen with
  | [c0, c1, c2, c3], _ =>
    have f0 : DataW.trod enc Try.prog w 0 (fun _ => true) true n 3 (([c0, c1, c2, c3].drop 0).take (Try.prog.cellsOf 3)) = xs[0]? := hf 0 _ rfl
    have f1 : DataW.trod enc Try.prog w 0 (fun _ => true) true n 4 (([c0, c1, c2, c3].drop 1).take (Try.prog.cellsOf 4)) = xs[1]? := hf 1 _ rfl
    have f2 : DataW.trod enc Try.prog w 0 (fun _ => true) true n 26 (([c0, c1, c2, c3].drop 2).take (Try.prog.cellsOf 26)) = xs[2]? := hf 2 _ rfl
    have f3 : DataW.trod enc Try.prog w 0 (fun _ => true) true n 27 (([c0, c1, c2, c3].drop 3).take (Try.prog.cellsOf 27)) = xs[3]? := hf 3 _ rfl
    simp only [Try.cellsInt, Try.cellsBoolL, Try.cellsIntsL, Try.cellsBindsL, List.drop_zero, List.take_succ_cons, List.take_zero, List.drop_succ_cons] at f0 f1 f2 f3
    have hx0 : xs[0]? = some (xs[0]'(by rw [hxl]; decide)) := List.getElem?_eq_getElem _
    have hx1 : xs[1]? = some (xs[1]'(by rw [hxl]; decide)) := List.getElem?_eq_getElem _
    have hx2 : xs[2]? = some (xs[2]'(by rw [hxl]; decide)) := List.getElem?_eq_getElem _
    have hx3 : xs[3]? = some (xs[3]'(by rw [hxl]; decide)) := List.getElem?_eq_getElem _
    rw [hx0] at f0
    rw [hx1] at f1
    rw [hx2] at f2
    rw [hx3] at f3
    obtain ⟨eq, e0, _, _⟩ := DataW.trod_int Try.underlying3 f0
    obtain ⟨back, e1, _⟩ := DataW.trod_bool Try.underlying4 f1
    obtain ⟨pA, pl, pC, e2⟩ : ∃ a l c, c2 = .slice a l c := by
      rcases DataW.trod_slice Try.underlying26 f2 with ⟨e2, _⟩ | ⟨a', len', cap', _, _, _, _, e2, _⟩
      · exact ⟨none, 0, 0, by simpa using e2⟩
      · exact ⟨some a', len', cap', by simpa using e2⟩
    obtain ⟨B, bl, D, e3⟩ : ∃ a l c, c3 = .slice a l c := by
      rcases DataW.trod_slice Try.underlying27 f3 with ⟨e3, _⟩ | ⟨a', len', cap', _, _, _, _, e3, _⟩
      · exact ⟨none, 0, 0, by simpa using e3⟩
      · exact ⟨some a', len', cap', by simpa using e3⟩
    subst e2
    subst e3
    obtain ⟨place, rfl, hi, him⟩ := ints_of_trod (d := (xs[2]'(by rw [hxl]; decide)).1) (p := (xs[2]'(by rw [hxl]; decide)).2) ⟨n, f2⟩
    obtain ⟨bs, rfl, hb, hbm, hall⟩ := binds_of_trod (d := (xs[3]'(by rw [hxl]; decide)).1) (p := (xs[3]'(by rw [hxl]; decide)).2) ⟨n, f3⟩
    simp only [List.cons.injEq, and_true] at e0 e1
    subst e0
    subst e1
    exact ⟨eq, back, pA, pC, place, B, D, bs, rfl, hi, him, hb, hbm, hall⟩
end Go.Proofs.Ytoafleckcjanaaa

/-! ZB: A fresh box of a term, and what is stored into it. Plain lemmas. -/
namespace Go.Proofs.Ytoafleckcjanaaa
open Go.RowKit Go.Deep

/-- A fresh box. -/
structure Zb (b : Nat) (wn : World) : Prop where
  lt : b < wn.heap.size
  z0 : wn.cell? ⟨b, 0, none⟩ = some (.int .i64 0)
  z1 : wn.cell? ⟨b, 1, none⟩ = some (.int .i64 0)
  z2 : wn.cell? ⟨b, 2, none⟩ = some (.slice none 0 0)
  f : ∀ o, wn.frozen? ⟨b, o, none⟩ = false
theorem zb_new (X : World) : Zb X.heap.size (X.alloc (.cells #[.int .i64 0, .int .i64 0, .slice none 0 0] 35)) := by
  refine ⟨by simp, ?_, ?_, ?_, fun o => ?_⟩
  iterate 3
    rw [World.cell?_alloc_at _ _ _ _ rfl]; rfl
  rw [World.frozen?_alloc_at _ _ _ _ rfl]
theorem Zb.low {b : Nat} {wn wm : World} (h : Zb b wn) (hb : Below wn.heap.size wn wm) : Zb b wm :=
  ⟨Nat.lt_of_lt_of_le h.lt hb.size, cell_low hb h.z0, cell_low hb h.z1, cell_low hb h.z2, fun o => (hb.frozen h.lt).trans (h.f o)⟩
theorem box_set {b : Nat} {wn : World} (h : Zb b wn) (x y z : Value) : (((wn.setCell ⟨b, 0, none⟩ x).setCell ⟨b, 1, none⟩ y).setCell ⟨b, 2, none⟩ z).cell? ⟨b, 0, none⟩ = some x ∧ (((wn.setCell ⟨b, 0, none⟩ x).setCell ⟨b, 1, none⟩ y).setCell ⟨b, 2, none⟩ z).cell? ⟨b, 1, none⟩ = some y ∧ (((wn.setCell ⟨b, 0, none⟩ x).setCell ⟨b, 1, none⟩ y).setCell ⟨b, 2, none⟩ z).cell? ⟨b, 2, none⟩ = some z := by
  have d01 : (⟨b, 0, none⟩ : Addr) ≠ ⟨b, 1, none⟩ := by intro e; have := congrArg Addr.off e; simp at this
  have d02 : (⟨b, 0, none⟩ : Addr) ≠ ⟨b, 2, none⟩ := by intro e; have := congrArg Addr.off e; simp at this
  have d12 : (⟨b, 1, none⟩ : Addr) ≠ ⟨b, 2, none⟩ := by intro e; have := congrArg Addr.off e; simp at this
  refine ⟨?_, ?_, ?_⟩
  · rw [World.cell?_setCell_other _ _ _ _ d02.symm, World.cell?_setCell_other _ _ _ _ d01.symm]
    exact World.cell?_setCell_same _ _ _ h.z0
  · rw [World.cell?_setCell_other _ _ _ _ d12.symm]
    refine World.cell?_setCell_same _ _ _ (?_ : _ = some (.int .i64 0))
    rw [World.cell?_setCell_other _ _ _ _ d01]
    exact h.z1
  · refine World.cell?_setCell_same _ _ _ (?_ : _ = some (.slice none 0 0))
    rw [World.cell?_setCell_other _ _ _ _ d12, World.cell?_setCell_other _ _ _ _ d02]
    exact h.z2
theorem Sl.set3 {wn : World} {lo hi b : Nat} {a : Option Addr} {k : Fo} (h : Sl wn lo hi a k) (hb : b < lo ∨ hi ≤ b) (x y z : Value) : Sl (((wn.setCell ⟨b, 0, none⟩ x).setCell ⟨b, 1, none⟩ y).setCell ⟨b, 2, none⟩ z) lo hi a k := by
  have h0 : Same lo hi wn wn := fun _ _ _ => rfl
  exact h.same (((h0.setCell hb _).setCell hb _).setCell hb _)
/-- What is stored into a fresh box stands there; the rest is as it was. -/
theorem zb_fin {wr wz : World} {b lo hi : Nat} {s v : Int} {a : Option Addr} {c : Nat} {k : Fo} (hz : Zb b wz) (hb : Below wr.heap.size wr wz) (hlo : wr.heap.size ≤ b) (hl : Sl wz lo hi a k) (hh : hi ≤ wz.heap.size) (hd : b < lo ∨ hi ≤ b) :
    Below wr.heap.size wr (((wz.setCell ⟨b, 0, none⟩ (.int .i64 s)).setCell ⟨b, 1, none⟩ (.int .i64 v)).setCell ⟨b, 2, none⟩ (.slice a (flen k) c)) ∧ Tb b s v a c k (((wz.setCell ⟨b, 0, none⟩ (.int .i64 s)).setCell ⟨b, 1, none⟩ (.int .i64 v)).setCell ⟨b, 2, none⟩ (.slice a (flen k) c)) := by
  obtain ⟨h0, h1, h2⟩ := box_set hz (.int .i64 s) (.int .i64 v) (.slice a (flen k) c)
  exact ⟨((hb.setCell hlo _).setCell hlo _).setCell hlo _, h0, h1, h2, (hl.set3 hd _ _ _).mono (Nat.zero_le _) (by simpa using hh)⟩
end Go.Proofs.Ytoafleckcjanaaa
