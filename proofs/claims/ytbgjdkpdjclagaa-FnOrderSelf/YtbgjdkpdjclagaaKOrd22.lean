/- Several texts in one: LO0, FrameO, Frame. -/
import Derived.Test.YtbgjdkpdjclagaaKOrd15
import Derived.Test.YtbgjdkpdjclagaaKOrd21
import Derived.Test.YtbgjdkpdjclagaaRows
import Derived.WalkKit
import Derived.ProofKit
import Derived.OpenShut
import Derived.ShutString
import Derived.ChangeOld
import Derived.Below
import Derived.Test.YtbgjdkpdjclagaaKOrd3

/-! LO0: What the laws of the order hold on to: a ranking and the boxes of two terms. Plain lemmas. -/
namespace Go.Proofs.Ytbgjdkpdjclagaa
open Go.RowKit Go.Deep

/-- The ranking and the boxes b, b' of two terms, in a world later than w. -/
structure Ob (A : Option Addr) (xs : List Int) (s v : Int) (a : Option Addr) (c : Nat) (k : Fo) (s' v' : Int) (a' : Option Addr) (c' : Nat) (k' : Fo) (b b' : Nat) (w wn : World) : Prop where
  ints : ISl wn 0 wn.heap.size A xs
  one : Sl wn 0 wn.heap.size a k
  two : Sl wn 0 wn.heap.size a' k'
  s0 : wn.cell? ⟨b, 0, none⟩ = some (.int .i64 s)
  s1 : wn.cell? ⟨b, 1, none⟩ = some (.int .i64 v)
  s2 : wn.cell? ⟨b, 2, none⟩ = some (.slice a (flen k) c)
  t0 : wn.cell? ⟨b', 0, none⟩ = some (.int .i64 s')
  t1 : wn.cell? ⟨b', 1, none⟩ = some (.int .i64 v')
  t2 : wn.cell? ⟨b', 2, none⟩ = some (.slice a' (flen k') c')
  low : Below w.heap.size w wn
  size : w.heap.size ≤ wn.heap.size
section
variable {A : Option Addr} {xs : List Int} {s v : Int} {a : Option Addr} {c : Nat} {k : Fo} {s' v' : Int} {a' : Option Addr} {c' : Nat} {k' : Fo} {b b' : Nat} {w wn wm : World}
theorem Ob.next (h : Ob A xs s v a c k s' v' a' c' k' b b' w wn) (hb : Below wn.heap.size wn wm) : Ob A xs s v a c k s' v' a' c' k' b b' w wm :=
  ⟨(h.ints.below hb).mono (Nat.le_refl _) hb.size, (h.one.below hb).mono (Nat.le_refl _) hb.size, (h.two.below hb).mono (Nat.le_refl _) hb.size, cell_low hb h.s0, cell_low hb h.s1, cell_low hb h.s2, cell_low hb h.t0, cell_low hb h.t1, cell_low hb h.t2, h.low.trans (hb.mono h.size), Nat.le_trans h.size hb.size⟩
end
/-- Behind the draw. -/
theorem ob_start {w w1 : World} {A : Option Addr} {C : Nat} {xs : List Int} {s v : Int} {a : Option Addr} {c : Nat} {k : Fo} {s' v' : Int} {a' : Option Addr} {c' : Nat} {k' : Fo} (hb : Below w.heap.size w w1) (hi : ISc w1 w.heap.size w1.heap.size A C xs) (hl : Sl w1 w.heap.size w1.heap.size a k) (hl' : Sl w1 w.heap.size w1.heap.size a' k') :
    Ob A xs s v a c k s' v' a' c' k' w1.heap.size (w1.heap.size + 1) w ((w1.alloc (.cells #[.int .i64 s, .int .i64 v, .slice a (flen k) c] 26)).alloc (.cells #[.int .i64 s', .int .i64 v', .slice a' (flen k') c'] 26)) := by
  have h2 : Below w1.heap.size w1 ((w1.alloc (.cells #[.int .i64 s, .int .i64 v, .slice a (flen k) c] 26)).alloc (.cells #[.int .i64 s', .int .i64 v', .slice a' (flen k') c'] 26)) := ((Below.refl _ _).alloc (Nat.le_refl _) _).alloc (by simp) _
  have hs := hb.size
  refine ⟨((hi.1.mono (Nat.zero_le _) (Nat.le_refl _)).below h2).mono (Nat.le_refl _) h2.size, ((hl.mono (Nat.zero_le _) (Nat.le_refl _)).below h2).mono (Nat.le_refl _) h2.size, ((hl'.mono (Nat.zero_le _) (Nat.le_refl _)).below h2).mono (Nat.le_refl _) h2.size, ?_, ?_, ?_, ?_, ?_, ?_, hb.trans (h2.mono hs), by simp; omega⟩
  iterate 3
    rw [World.cell?_alloc_lt _ _ _ (by simp), World.cell?_alloc_at _ _ _ _ rfl]; rfl
  iterate 3
    rw [World.cell?_alloc_at _ _ _ _ (by simp)]; rfl

theorem Bytes.low {w wn : World} {a : Option Addr} {len : Nat} (h : Bytes w a len) (hb : Below w.heap.size w wn) : Bytes wn a len := by
  rcases h with h | ⟨b, o, e, h1, h2⟩
  · exact .inl h
  · refine .inr ⟨b, o, e, Nat.lt_of_lt_of_le h1 hb.size, fun i hi => ?_⟩
    obtain ⟨x, hx, hc⟩ := h2 i hi
    exact ⟨x, hx, cell_low hb hc⟩
theorem moreR_self {xs : List Int} {s v : Int} {k : Fo} : moreR xs s v k s v k = false := by
  unfold moreR
  rw [pB_false Gt.ne]
  simp
theorem moreR_iff {xs : List Int} {s v : Int} {k : Fo} {s' v' : Int} {k' : Fo} : moreR xs s v k s' v' k' = true ↔ rkOk xs = true ∧ okW s v k 16 = true ∧ okW s' v' k' 16 = true ∧ Gt (rkN xs) (tmOf s v k) (tmOf s' v' k') := by
  unfold moreR
  simp only [Bool.and_eq_true, pB_t]
theorem moreR_turn {xs : List Int} {s v : Int} {k : Fo} {s' v' : Int} {k' : Fo} (h : moreR xs s v k s' v' k' = true) : moreR xs s' v' k' s v k = false := by
  cases h' : moreR xs s' v' k' s v k with
  | false => rfl
  | true => exact absurd ((moreR_iff.1 h).2.2.2.tr (moreR_iff.1 h').2.2.2) Gt.ne
theorem moreR_tr {xs : List Int} {s v : Int} {k : Fo} {s' v' : Int} {k' : Fo} {s2 v2 : Int} {k2 : Fo} (h : moreR xs s v k s' v' k' = true) (h' : moreR xs s' v' k' s2 v2 k2 = true) : moreR xs s v k s2 v2 k2 = true := by
  obtain ⟨r1, o1, _, g1⟩ := moreR_iff.1 h
  obtain ⟨_, _, o2, g2⟩ := moreR_iff.1 h'
  exact moreR_iff.2 ⟨r1, o1, o2, g1.tr g2⟩
end Go.Proofs.Ytbgjdkpdjclagaa

/-! FrameO: What every row's closing text needs. -/
namespace Go.Proofs.Ytbgjdkpdjclagaa
theorem Try.own : ownKnob Try.prog.godebug = none := by kernel_rfl
theorem Try.laidOut : laidOutB Try.prog = true := by kernel_rfl
end Go.Proofs.Ytbgjdkpdjclagaa

/-! Frame: A slice of bytes that came in, as the walks take it. -/
namespace Go.Proofs.Ytbgjdkpdjclagaa
open Go.ChangeShapes Go.WideShapes Go.ChangeAt Go.RowKit

/-- A slice of bytes: it is nil; or it leads to a row of cap cells. -/
def IsRow (w : World) (a : Option Addr) (len cap : Nat) (zs : List Int) : Prop :=
  (a = none ∧ len = 0 ∧ cap = 0 ∧ zs = []) ∨
  ∃ x, a = some x ∧ len ≤ cap ∧ cap ≤ maxLen ∧ zs.length = cap ∧ (∀ i, i < zs.length → w.cell? (x.add i) = some (.int .u8 (zs.getD i 0))) ∧ ∀ n ∈ zs, (Lit.int .u8 n).wf = true

theorem bytes_of_row {w : World} {a : Option Addr} {len cap : Nat} {zs : List Int} (h : IsRow w a len cap zs) : Bytes w a len ∧ len ≤ cap := by
  rcases h with ⟨_, h1, h2, _⟩ | ⟨x, rfl, h1, _, h2, h3, h4⟩
  · exact ⟨.inl h1, by omega⟩
  · refine ⟨?_, h1⟩
    by_cases hl : len = 0
    · exact .inl hl
    · obtain ⟨b, o, spot⟩ := x
      have c0 := h3 0 (by omega)
      have hs : spot = none := by simpa [Addr.add] using World.cell?_spot c0
      subst hs
      have ha : ∀ n, (⟨b, o, none⟩ : Addr).add n = ⟨b, o + n, none⟩ := fun n => by unfold Addr.add; split <;> simp_all
      rw [ha] at c0
      refine .inr ⟨b, o, rfl, World.block_lt_of_cell? _ _ c0, fun i hi => ?_⟩
      have ci := h3 i (by omega)
      rw [ha] at ci
      have hm : zs.getD i 0 ∈ zs := by
        rw [List.getD_eq_getElem?_getD, List.getElem?_eq_getElem (by omega)]
        exact List.getElem_mem _
      have hb := bounds_u8 (h4 _ hm)
      obtain ⟨n, hn⟩ := Int.eq_ofNat_of_zero_le hb.1
      exact ⟨n, by omega, by rw [ci, hn]⟩

/-- Out of the reading of an argument. -/
theorem row_of_trod {H : Type} {enc : TypeId × Value → H} {W : World} {a : Option Addr} {len cap : Nat} {d : DataW H} {p : List MemPlace} (h : DataW.Trod enc Try.prog W 0 (fun _ => true) true 22 (.slice a len cap) d p) : ∃ zs, IsRow W a len cap zs := by
  obtain ⟨fuel, hf⟩ := h
  rcases open_ints Try.underlying22 Try.underlying5 (by kernel_rfl) hf with ⟨hcs, _⟩ | ⟨x, l, c, zs, hcs, _, hl, hm, hz, _, hcell, hwz⟩
  · simp [Value.cells] at hcs
    obtain ⟨rfl, rfl, rfl⟩ := hcs
    exact ⟨[], .inl ⟨rfl, rfl, rfl, rfl⟩⟩
  · simp [Value.cells] at hcs
    obtain ⟨rfl, rfl, rfl⟩ := hcs
    exact ⟨zs, .inr ⟨_, rfl, hl, hm, by simpa using hz, hcell, hwz⟩⟩

end Go.Proofs.Ytbgjdkpdjclagaa
