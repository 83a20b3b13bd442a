/- nodeOf, TermOk of the program and of the specification. -/
import Derived.Test.YthbakmdcepoikaaWC
namespace Go.Proofs.Ythbakmdcepoikaa
open Go.RowKit Go.Deep

def NoPostC (s v : Int) (k : Fo) (room : Int) (w : World) (e : Ending) (w' : World) : Prop :=
  ∃ nv, e = .returned (.tuple #[nv, .bool (okW s v k room)]) ∧ Below w.heap.size w w' ∧ (okW s v k room = true → NodeC w' w.heap.size w'.heap.size nv s v k)
def NoPost (s v : Int) (k : Fo) (room : Int) (w : World) (e : Ending) (w' : World) : Prop :=
  ∃ nv, e = .returned (.tuple #[nv, .bool (okW s v k room)]) ∧ Below w.heap.size w w' ∧ (okW s v k room = true → NodeIs w' w.heap.size w'.heap.size nv s v k)

set_option maxRecDepth 100000 in
set_option maxHeartbeats 400000 in
theorem nodeOf_anyC (s v : Int) (a : Option Addr) (c : Nat) (k : Fo) (room : Int) (w : World) (hl : Sl w 0 w.heap.size a k) (h1 : 0 ≤ room) (h2 : room ≤ 1000) :
    Calls Try.prog 20 #[.agg #[.int .i64 s, .int .i64 v, .slice a (flen k) c], .int .i64 room] w (NoPostC s v k room w) := by
  go_enter Try.func20, Try.ntmps20
  go_wp2_with fail
  with_reducible refine (nodeWithin_any room.toNat s v a c k room (w.heap.size + 1) w.heap.size _ ?_ ?_ ?_ ?_ ?_ ?_ ?_ ?_).mono ?_
  · exact hl.below (((Below.refl _ _).alloc (Nat.le_refl _) _).alloc (by simp) _)
  · omega
  · simp
  · omega
  · omega
  · omega
  · simp [World.cell?_alloc_at]
  · simp [World.frozen?_alloc_at]
  rintro e w2 ⟨nv, r', rfl, hb, hyes⟩
  have hfin : NoPostC s v k room w (.returned (.tuple #[nv, .bool (okW s v k room)])) w2 := by
    refine ⟨nv, rfl, ?_, fun h => (hyes h).2.mono (by simp; omega) (Nat.le_refl _)⟩
    exact ((((Below.refl _ _).alloc (Nat.le_refl _) _).alloc (by simp) _).setCell (by simp) _).trans (hb.mono (by simp; omega))
  have HF := Lib.hid hfin
  clear hfin hyes
  go_wp2_with fail
  go_ret2
  exact HF.out
theorem nodeOf_any (s v : Int) (a : Option Addr) (c : Nat) (k : Fo) (room : Int) (w : World) (hl : Sl w 0 w.heap.size a k) (h1 : 0 ≤ room) (h2 : room ≤ 1000) :
    Calls Try.prog 20 #[.agg #[.int .i64 s, .int .i64 v, .slice a (flen k) c], .int .i64 room] w (NoPost s v k room w) :=
  (nodeOf_anyC s v a c k room w hl h1 h2).mono fun _ _ ⟨nv, h1, h2, h3⟩ => ⟨nv, h1, h2, fun h => (h3 h).to⟩

theorem cntT_okW (s v : Int) (k : Fo) (m : Int) : decide (cntT s v k m ≤ m) = okW s v k m := by
  cases h : okW s v k m with
  | true =>
    have h' := (okW_iff _ _ _ _).1 h
    unfold cntT
    rw [if_pos h']
    exact decide_eq_true h'.2.2
  | false =>
    unfold cntT
    rw [if_neg fun h' => by rw [(okW_iff _ _ _ _).2 h'] at h; cases h]
    exact decide_eq_false (by omega)

set_option maxHeartbeats 400000 in
theorem sTermOk_any (s v : Int) (a : Option Addr) (c : Nat) (k : Fo) (w : World) (hl : Sl w 0 w.heap.size a k) :
    Calls Try.prog 21 #[.agg #[.int .i64 s, .int .i64 v, .slice a (flen k) c]] w fun e w' => e = .returned (.bool (okW s v k 16)) ∧ Below w.heap.size w w' := by
  have hc := cntT_okW s v k 16
  have HC := Lib.hid hc
  clear hc
  go_enter Try.func21, Try.ntmps21
  go_wp2_with fail
  with_reducible refine (l1Count_any 16 s v a c k 16 _ ?_ ?_ ?_ ?_).mono ?_
  · exact (hl.below ((Below.refl _ _).alloc (Nat.le_refl _) _)).mono (Nat.le_refl _) (by simp)
  · omega
  · omega
  · omega
  rintro e w2 ⟨rfl, hb⟩
  go_wp2_with fail
  go_ret
  exact ⟨by rw [← HC.out]; rfl, ((Below.refl _ _).alloc (Nat.le_refl _) _).trans (hb.mono (by simp))⟩
end Go.Proofs.Ythbakmdcepoikaa
