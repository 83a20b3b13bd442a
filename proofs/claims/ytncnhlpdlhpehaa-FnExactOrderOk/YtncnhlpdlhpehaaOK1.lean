/- rankingOf and OrderOk of the program; OrderOk of the specification. -/
import Derived.Test.YtncnhlpdlhpehaaOK0
import Derived.Test.YtncnhlpdlhpehaaWA
import Derived.Shelf.Lay
import Derived.Shelf.Slices.Turned
import Derived.Ground.NamesProg
namespace Go.Proofs
open Go.Shelf
shelf_lay Lays.n107 Nm 107 at Try as Try.lays107
end Go.Proofs

namespace Go.Proofs.Ytncnhlpdlhpehaa
open Go.RowKit Go.Deep

theorem contains_any (xs : List Int) (A : Option Addr) (C : Nat) (x : Int) (w : World) (h : ISl w 0 w.heap.size A xs) (hx : xs.length ≤ 9223372036854775807) :
    Calls Try.prog 69 #[.slice A xs.length C, .int .i64 x] w fun e w' => e = .returned (.bool (xs.contains x)) ∧ w' = w := by
  rcases h with rfl | ⟨b, o, rfl, _, _, hc⟩
  · exact Any.slices_Contains_int_empty Try.lays107 A C x w
  · have := Any.slices_Contains_int Try.lays107 b o xs.length C xs x w (Nat.le_refl _) hx (fun j hj => by rw [getD_of hj]; exact hc j _ (List.getElem?_eq_getElem hj))
    rw [List.take_length] at this
    exact this

def RkPost (xs : List Int) (A : Option Addr) (C : Nat) (w : World) (e : Ending) (w' : World) : Prop :=
  ∃ val, e = .returned (.tuple #[val, .bool (rkOk xs)]) ∧ (rkOk xs = true → val = .slice A xs.length C) ∧ w' = w

set_option maxRecDepth 100000 in
set_option maxHeartbeats 1000000 in
theorem rankingOf_any (xs : List Int) (A : Option Addr) (C : Nat) (w : World) (h : ISl w 0 w.heap.size A xs) :
    Calls Try.prog 41 #[.slice A xs.length C] w (RkPost xs A C w) := by
  by_cases h4 : xs.length = 4
  · have HI := Lib.hid h
    have e4 : ((xs.length : Int) != 4) = false := by simp [h4]
    have H4 := Lib.hid h4
    clear h h4
    go_enter Try.func41, Try.ntmps41
    go_wp2_with fail
    go_loopw [4] (fun i wr => ∃ j : Int, i = .int .i64 j ∧ 1 ≤ j ∧ j ≤ 5 ∧ Hid (RkTo xs j) ∧ wr = w) (fun i _ => (5 - intOf i).toNat)
    case atStart => exact ⟨1, rfl, by omega, by omega, fun q h1 h2 => by omega, rfl⟩
    case round =>
      obtain ⟨j, rfl, hj1, hj5, hto, rfl⟩ := hrel
      by_cases hlt : j ≤ 4
      · cases hcb : xs.contains j with
        | true =>
          have HN : Hid (RkTo xs (j + 1)) := hto.out.next hcb
          have HCB := Lib.hid hcb
          clear hcb hto
          go_wp2_with fail
          with_reducible refine (contains_any xs A C j _ HI.out (by have := H4.out; omega)).mono ?_
          rw [HCB.out]
          rintro e w2 ⟨rfl, rfl⟩
          go_wp2_with fail
          go_roundw
          case rel => exact ⟨j + 1, by go_num, by omega, by omega, HN, by first | trivial | rfl⟩
          case measure => simp [intOf]; omega
        | false =>
          have HN : Hid (RkPost xs A C wr (.returned (.tuple #[.slice none 0 0, .bool false])) wr) := by
            have hm := rk_miss hj1 hlt hcb
            exact ⟨_, by rw [hm], fun h => (by rw [hm] at h; cases h), rfl⟩
          have HCB := Lib.hid hcb
          clear hcb hto
          go_wp2_with fail
          with_reducible refine (contains_any xs A C j _ HI.out (by have := H4.out; omega)).mono ?_
          rw [HCB.out]
          rintro e w2 ⟨rfl, rfl⟩
          go_wp2_with fail
          go_ret2
          exact HN.out
      · have hj : j = 5 := by omega
        subst hj
        have HN : Hid (RkPost xs A C wr (.returned (.tuple #[.slice A xs.length C, .bool true])) wr) := ⟨_, by rw [rk_all H4.out hto.out], fun _ => rfl, rfl⟩
        clear hto
        go_wp2_with fail
        go_ret2
        exact HN.out
  · have e4 : ((xs.length : Int) != 4) = true := by simp; omega
    have HN : Hid (RkPost xs A C w (.returned (.tuple #[.slice none 0 0, .bool false])) w) := ⟨_, by rw [rk_no h4], fun h => (by rw [rk_no h4] at h; cases h), rfl⟩
    clear h h4
    go_enter Try.func41, Try.ntmps41
    go_wp2_with fail
    go_ret2
    exact HN.out

set_option maxHeartbeats 400000 in
theorem iOrderOk_any (xs : List Int) (A : Option Addr) (C : Nat) (w : World) (h : ISl w 0 w.heap.size A xs) :
    Calls Try.prog 16 #[.slice A xs.length C] w fun e w' => e = .returned (.bool (rkOk xs)) ∧ Below w.heap.size w w' := by
  have HI := Lib.hid h
  clear h
  go_enter Try.func16, Try.ntmps16
  go_wp2_with fail
  with_reducible refine (rankingOf_any xs A C _ HI.out).mono ?_
  rintro e w2 ⟨val, rfl, _, rfl⟩
  go_wp2_with fail
  go_ret
  exact ⟨rfl, Below.refl _ _⟩
end Go.Proofs.Ytncnhlpdlhpehaa
