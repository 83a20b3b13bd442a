/- What is left where a call and a new cell come in either order. Plain lemmas. -/
import Derived.Test.YtebalmemncldlabP7
import Derived.Deep.RegionHeld3
import Derived.Deep.DrawnRows
namespace Go.Proofs.Ytebalmemncldlab
open Go.RowKit Go.Deep
attribute [local go_sem ↓] Go.wp_at_zero Go.wp_at_succ

theorem lp_lowB {wo w8 : World} {Z : Obj} (h : Below (wo.alloc Z).drew.heap.size (wo.alloc Z).drew w8) : Below wo.heap.size wo w8 :=
  ((Below.refl _ _).alloc (Nat.le_refl _) Z).drew.trans (h.mono (by simp))
theorem lp_slB {wo w8 : World} {Z : Obj} {a : Option Addr} {k : Fo} (h : Sl w8 (wo.alloc Z).drew.heap.size w8.heap.size a k) : Sl w8 (wo.heap.size + 1) w8.heap.size a k := h.mono (by simp) (Nat.le_refl _)
theorem lp_cellB {wo w8 : World} (h : Below (wo.alloc (.cells #[.int .i64 0, .int .i64 0, .slice none 0 0] 25)).drew.heap.size (wo.alloc (.cells #[.int .i64 0, .int .i64 0, .slice none 0 0] 25)).drew w8) :
    w8.cell? ⟨wo.heap.size, 0, none⟩ = some (.int .i64 0) ∧ w8.cell? ⟨wo.heap.size, 1, none⟩ = some (.int .i64 0) ∧ w8.cell? ⟨wo.heap.size, 2, none⟩ = some (.slice none 0 0) ∧
      w8.frozen? ⟨wo.heap.size, 0, none⟩ = false ∧ w8.frozen? ⟨wo.heap.size, 1, none⟩ = false ∧ w8.frozen? ⟨wo.heap.size, 2, none⟩ = false := by
  have hb : Below (wo.heap.size + 1) (wo.alloc (.cells #[.int .i64 0, .int .i64 0, .slice none 0 0] 25)) w8 := ((Below.refl _ _).drew).trans (h.mono (by simp))
  refine ⟨?_, ?_, ?_, ?_, ?_, ?_⟩
  · rw [hb.cell (by simp), World.cell?_alloc_at _ _ _ _ (by simp)]; rfl
  · rw [hb.cell (by simp), World.cell?_alloc_at _ _ _ _ (by simp)]; rfl
  · rw [hb.cell (by simp), World.cell?_alloc_at _ _ _ _ (by simp)]; rfl
  · rw [hb.frozen (by simp), World.frozen?_alloc_at _ _ _ _ (by simp)]
  · rw [hb.frozen (by simp), World.frozen?_alloc_at _ _ _ _ (by simp)]
  · rw [hb.frozen (by simp), World.frozen?_alloc_at _ _ _ _ (by simp)]

theorem lp_goA {wo w8 : World} {x y : Value} {a : Option Addr} {k : Fo} {c : Nat} (hb : Below wo.heap.size wo w8) (hl : Sl w8 wo.heap.size w8.heap.size a k) :
    (w8.alloc (.cells #[x, y, .slice a (flen k) c] 25)).cell? ⟨w8.heap.size, 0, none⟩ = some x ∧ (w8.alloc (.cells #[x, y, .slice a (flen k) c] 25)).cell? ⟨w8.heap.size, 1, none⟩ = some y ∧ (w8.alloc (.cells #[x, y, .slice a (flen k) c] 25)).cell? ⟨w8.heap.size, 2, none⟩ = some (.slice a (flen k) c) ∧
      Below wo.heap.size wo (w8.alloc (.cells #[x, y, .slice a (flen k) c] 25)) ∧ Sl (w8.alloc (.cells #[x, y, .slice a (flen k) c] 25)) 0 (w8.alloc (.cells #[x, y, .slice a (flen k) c] 25)).heap.size a k := by
  refine ⟨?_, ?_, ?_, hb.alloc hb.size _, (hl.below ((Below.refl _ _).alloc (Nat.le_refl _) _)).mono (Nat.zero_le _) (by simp)⟩
  · rw [World.cell?_alloc_at _ _ _ _ (by simp)]; rfl
  · rw [World.cell?_alloc_at _ _ _ _ (by simp)]; rfl
  · rw [World.cell?_alloc_at _ _ _ _ (by simp)]; rfl
theorem lp_goB {wo w8 : World} {x y : Value} {a : Option Addr} {k : Fo} {c : Nat} {x0 y0 z0 : Value} (hb : Below wo.heap.size wo w8) (hl : Sl w8 (wo.heap.size + 1) w8.heap.size a k)
    (h0 : w8.cell? ⟨wo.heap.size, 0, none⟩ = some x0) (h1 : w8.cell? ⟨wo.heap.size, 1, none⟩ = some y0) (h2 : w8.cell? ⟨wo.heap.size, 2, none⟩ = some z0) :
    (((w8.setCell ⟨wo.heap.size, 0, none⟩ x).setCell ⟨wo.heap.size, 1, none⟩ y).setCell ⟨wo.heap.size, 2, none⟩ (.slice a (flen k) c)).cell? ⟨wo.heap.size, 0, none⟩ = some x ∧ (((w8.setCell ⟨wo.heap.size, 0, none⟩ x).setCell ⟨wo.heap.size, 1, none⟩ y).setCell ⟨wo.heap.size, 2, none⟩ (.slice a (flen k) c)).cell? ⟨wo.heap.size, 1, none⟩ = some y ∧
      (((w8.setCell ⟨wo.heap.size, 0, none⟩ x).setCell ⟨wo.heap.size, 1, none⟩ y).setCell ⟨wo.heap.size, 2, none⟩ (.slice a (flen k) c)).cell? ⟨wo.heap.size, 2, none⟩ = some (.slice a (flen k) c) ∧
      Below wo.heap.size wo (((w8.setCell ⟨wo.heap.size, 0, none⟩ x).setCell ⟨wo.heap.size, 1, none⟩ y).setCell ⟨wo.heap.size, 2, none⟩ (.slice a (flen k) c)) ∧ Sl (((w8.setCell ⟨wo.heap.size, 0, none⟩ x).setCell ⟨wo.heap.size, 1, none⟩ y).setCell ⟨wo.heap.size, 2, none⟩ (.slice a (flen k) c)) 0 (((w8.setCell ⟨wo.heap.size, 0, none⟩ x).setCell ⟨wo.heap.size, 1, none⟩ y).setCell ⟨wo.heap.size, 2, none⟩ (.slice a (flen k) c)).heap.size a k := by
  have hs : Same (wo.heap.size + 1) w8.heap.size w8 (((w8.setCell ⟨wo.heap.size, 0, none⟩ x).setCell ⟨wo.heap.size, 1, none⟩ y).setCell ⟨wo.heap.size, 2, none⟩ (.slice a (flen k) c)) :=
    (((Same.setCell (fun _ _ _ => rfl) (.inl (by simp)) _).setCell (.inl (by simp)) _).setCell (.inl (by simp)) _)
  refine ⟨?_, ?_, ?_, ((hb.setCell (Nat.le_refl _) _).setCell (Nat.le_refl _) _).setCell (Nat.le_refl _) _, (hl.same hs).mono (Nat.zero_le _) (by simp)⟩
  · rw [World.cell?_setCell_other _ _ _ _ (by intro h; have := congrArg Addr.off h; simp at this), World.cell?_setCell_other _ _ _ _ (by intro h; have := congrArg Addr.off h; simp at this)]
    exact World.cell?_setCell_same _ _ _ h0
  · rw [World.cell?_setCell_other _ _ _ _ (by intro h; have := congrArg Addr.off h; simp at this)]
    exact World.cell?_setCell_same _ _ _ (show World.cell? _ ⟨wo.heap.size, 1, none⟩ = some y0 from by rw [World.cell?_setCell_other _ _ _ _ (by intro h; have := congrArg Addr.off h; simp at this)]; exact h1)
  · exact World.cell?_setCell_same _ _ _ (show World.cell? _ ⟨wo.heap.size, 2, none⟩ = some z0 from by rw [World.cell?_setCell_other _ _ _ _ (by intro h; have := congrArg Addr.off h; simp at this), World.cell?_setCell_other _ _ _ _ (by intro h; have := congrArg Addr.off h; simp at this)]; exact h2)

end Go.Proofs.Ytebalmemncldlab
