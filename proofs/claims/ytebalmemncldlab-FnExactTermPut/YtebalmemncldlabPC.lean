/- Regions of several calls in which a new box is made at any time: what is kept from call to call. -/
import Derived.Test.YtebalmemncldlabXAt
import Derived.Test.YtebalmemncldlabC4t
import Derived.Test.YtebalmemncldlabD2
namespace Go.Proofs.Ytebalmemncldlab
open Go.RowKit Go.Deep

structure PutCut (w0 wx : World) (g : Nat) (a : Option Addr) (c : Nat) (s v : Int) (k : Fo) : Prop where
  below : Below w0.heap.size w0 wx
  lo : w0.heap.size ≤ g
  hi : g < wx.heap.size
  c0 : wx.cell? ⟨g, 0, none⟩ = some (.int .i64 s)
  c1 : wx.cell? ⟨g, 1, none⟩ = some (.int .i64 v)
  c2 : wx.cell? ⟨g, 2, none⟩ = some (.slice a (flen k) c)
  sl : Sl wx 0 wx.heap.size a k
theorem PutCut.cells {w0 wx w' : World} {g : Nat} {a : Option Addr} {c : Nat} {s v : Int} {k : Fo} (h : PutCut w0 wx g a c s v k) (hb : Below wx.heap.size wx w') :
    w'.cell? ⟨g, 0, none⟩ = some (.int .i64 s) ∧ w'.cell? ⟨g, 1, none⟩ = some (.int .i64 v) ∧ w'.cell? ⟨g, 2, none⟩ = some (.slice a (flen k) c) :=
  ⟨cell_lowX hb h.c0, cell_lowX hb h.c1, cell_lowX hb h.c2⟩

theorem pc_one {W : World} {o : Obj} : Below W.heap.size W (W.alloc o) := (Below.refl _ _).alloc (Nat.le_refl _) o
theorem pc_tr {W0 W w2 : World} (h : Below W0.heap.size W0 W) (h2 : Below W.heap.size W w2) : Below W0.heap.size W0 w2 := h.trans (h2.mono h.size)
theorem pc_al {W0 W : World} {o : Obj} (h : Below W0.heap.size W0 W) : Below W0.heap.size W0 (W.alloc o) := h.alloc h.size o
theorem pc_sl {W0 W : World} {a : Option Addr} {k : Fo} (h : Sl W0 0 W0.heap.size a k) (hb : Below W0.heap.size W0 W) : Sl W 0 W.heap.size a k := (h.below hb).mono (Nat.le_refl _) hb.size
theorem pc_il {W0 W : World} {a : Option Addr} {xs : List Int} (h : ISl W0 0 W0.heap.size a xs) (hb : Below W0.heap.size W0 W) : ISl W 0 W.heap.size a xs := (h.below hb).mono (Nat.le_refl _) hb.size
theorem pc_ic {W0 W : World} {a : Option Addr} {c : Nat} {xs : List Int} (h : ISc W0 0 W0.heap.size a c xs) (hb : Below W0.heap.size W0 W) : ISc W 0 W.heap.size a c xs := (h.same (Same.of_below hb)).mono (Nat.le_refl _) hb.size
theorem pc_own {W : World} {base : Nat} {a : Option Addr} {c : Nat} {xs : List Int} (h : IOwn W base xs a c) : ISc W 0 W.heap.size a c xs := (isc_of_own h).mono (Nat.zero_le _) (Nat.le_refl _)
theorem pc_zero {W : World} {lo : Nat} {a : Option Addr} {k : Fo} (h : Sl W lo W.heap.size a k) : Sl W 0 W.heap.size a k := h.mono (Nat.zero_le _) (Nat.le_refl _)
theorem pc_lt {W : World} {o : Obj} : W.heap.size < (W.alloc o).heap.size := by simp

/-- A box of zeros. -/
structure PB (W : World) (g : Nat) : Prop where
  lt : g < W.heap.size
  c0 : W.cell? ⟨g, 0, none⟩ = some (.int .i64 0)
  c1 : W.cell? ⟨g, 1, none⟩ = some (.int .i64 0)
  c2 : W.cell? ⟨g, 2, none⟩ = some (.slice none 0 0)
  f0 : W.frozen? ⟨g, 0, none⟩ = false
  f1 : W.frozen? ⟨g, 1, none⟩ = false
  f2 : W.frozen? ⟨g, 2, none⟩ = false
theorem PB.keep {W w2 : World} {g : Nat} (h : PB W g) (hb : Below W.heap.size W w2) : PB w2 g :=
  ⟨Nat.lt_of_lt_of_le h.lt hb.size, cell_lowX hb h.c0, cell_lowX hb h.c1, cell_lowX hb h.c2, by rw [hb.frozen h.lt]; exact h.f0, by rw [hb.frozen h.lt]; exact h.f1, by rw [hb.frozen h.lt]; exact h.f2⟩
theorem pc_new {W : World} {T : TypeId} : PB (W.alloc (.cells #[.int .i64 0, .int .i64 0, .slice none 0 0] T)) W.heap.size := by
  refine ⟨by simp, ?_, ?_, ?_, ?_, ?_, ?_⟩
  · rw [World.cell?_alloc_at _ _ _ _ rfl]; rfl
  · rw [World.cell?_alloc_at _ _ _ _ rfl]; rfl
  · rw [World.cell?_alloc_at _ _ _ _ rfl]; rfl
  · rw [World.frozen?_alloc_at _ _ _ _ rfl]
  · rw [World.frozen?_alloc_at _ _ _ _ rfl]
  · rw [World.frozen?_alloc_at _ _ _ _ rfl]

theorem pc_set {W0 W : World} {g : Nat} {x y z : Value} (h : Below W0.heap.size W0 W) (hg : W0.heap.size ≤ g) : Below W0.heap.size W0 (((W.setCell ⟨g, 0, none⟩ x).setCell ⟨g, 1, none⟩ y).setCell ⟨g, 2, none⟩ z) :=
  ((h.setCell hg _).setCell hg _).setCell hg _
theorem pc_finS {W0 W : World} {g lo : Nat} {a : Option Addr} {c : Nat} {s v : Int} {k : Fo} (h : Below W0.heap.size W0 W) (hg : W0.heap.size ≤ g) (hq : PB W g) (hlo : g < lo) (hl : Sl W lo W.heap.size a k) :
    PutCut W0 (((W.setCell ⟨g, 0, none⟩ (.int .i64 s)).setCell ⟨g, 1, none⟩ (.int .i64 v)).setCell ⟨g, 2, none⟩ (.slice a (flen k) c)) g a c s v k := by
  have hs : Same lo W.heap.size W (((W.setCell ⟨g, 0, none⟩ (.int .i64 s)).setCell ⟨g, 1, none⟩ (.int .i64 v)).setCell ⟨g, 2, none⟩ (.slice a (flen k) c)) :=
    (((Same.setCell (fun _ _ _ => rfl) (.inl hlo) _).setCell (.inl hlo) _).setCell (.inl hlo) _)
  refine ⟨pc_set h hg, hg, by simpa using hq.lt, ?_, ?_, ?_, (hl.same hs).mono (Nat.zero_le _) (by simp)⟩
  · rw [World.cell?_setCell_other _ _ _ _ (by simp), World.cell?_setCell_other _ _ _ _ (by simp)]
    exact World.cell?_setCell_same _ _ _ hq.c0
  · rw [World.cell?_setCell_other _ _ _ _ (by simp)]
    exact World.cell?_setCell_same _ _ _ ((World.cell?_setCell_other _ _ _ _ (by simp)).trans hq.c1)
  · exact World.cell?_setCell_same _ _ _ ((World.cell?_setCell_other _ _ _ _ (by simp)).trans ((World.cell?_setCell_other _ _ _ _ (by simp)).trans hq.c2))
theorem pc_finA {W0 W : World} {lo : Nat} {a : Option Addr} {c : Nat} {s v : Int} {k : Fo} {T : TypeId} (h : Below W0.heap.size W0 W) (hl : Sl W lo W.heap.size a k) :
    PutCut W0 (W.alloc (.cells #[.int .i64 s, .int .i64 v, .slice a (flen k) c] T)) W.heap.size a c s v k := by
  refine ⟨pc_al h, h.size, by simp, ?_, ?_, ?_, pc_sl (pc_zero hl) pc_one⟩
  · rw [World.cell?_alloc_at _ _ _ _ rfl]; rfl
  · rw [World.cell?_alloc_at _ _ _ _ rfl]; rfl
  · rw [World.cell?_alloc_at _ _ _ _ rfl]; rfl

/-- The cells of two boxes that a region looks at. -/
structure Six (W : World) (n : Nat) (x y z x' y' z' : Value) : Prop where
  a0 : W.cell? ⟨n, 0, none⟩ = some x
  a1 : W.cell? ⟨n, 1, none⟩ = some y
  a2 : W.cell? ⟨n, 2, none⟩ = some z
  b0 : W.cell? ⟨n + 1, 0, none⟩ = some x'
  b1 : W.cell? ⟨n + 1, 1, none⟩ = some y'
  b2 : W.cell? ⟨n + 1, 2, none⟩ = some z'
theorem Six.on {W w' : World} {n : Nat} {x y z x' y' z' : Value} (h : Six W n x y z x' y' z') (hb : Below W.heap.size W w') :
    w'.cell? ⟨n, 0, none⟩ = some x ∧ w'.cell? ⟨n, 1, none⟩ = some y ∧ w'.cell? ⟨n, 2, none⟩ = some z ∧ w'.cell? ⟨n + 1, 0, none⟩ = some x' ∧ w'.cell? ⟨n + 1, 1, none⟩ = some y' ∧ w'.cell? ⟨n + 1, 2, none⟩ = some z' :=
  ⟨cell_lowX hb h.a0, cell_lowX hb h.a1, cell_lowX hb h.a2, cell_lowX hb h.b0, cell_lowX hb h.b1, cell_lowX hb h.b2⟩
end Go.Proofs.Ytebalmemncldlab
