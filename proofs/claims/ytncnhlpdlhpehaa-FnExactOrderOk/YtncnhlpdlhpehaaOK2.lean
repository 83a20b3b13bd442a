/- OrderOk of the specification. -/
import Derived.Test.YtncnhlpdlhpehaaOK0
import Derived.Test.YtncnhlpdlhpehaaWA
import Derived.Test.YtncnhlpdlhpehaaKit
namespace Go.Proofs.Ytncnhlpdlhpehaa
open Go.RowKit Go.Deep

/-- What is known of the first j numbers. -/
def RkUp (xs : List Int) (j : Nat) : Prop := (∀ (i : Nat) (x : Int), i < j → xs[i]? = some x → 1 ≤ x ∧ x ≤ 4) ∧ ∀ (i k : Nat) (x y : Int), i < j → k < i → xs[k]? = some x → xs[i]? = some y → x ≠ y
def RkNe (xs : List Int) (j k : Nat) : Prop := ∀ (q : Nat) (x y : Int), q < k → xs[q]? = some x → xs[j]? = some y → x ≠ y
theorem RkUp.next {xs : List Int} {j : Nat} {z : Int} (h : RkUp xs j) (hz : xs[j]? = some z) (h1 : 1 ≤ z ∧ z ≤ 4) (hn : RkNe xs j j) : RkUp xs (j + 1) := by
  refine ⟨fun i x hi hx => ?_, fun i k x y hi hk hx hy => ?_⟩
  · by_cases e : i = j
    · subst e; rw [hz] at hx; obtain rfl := Option.some.inj hx; exact h1
    · exact h.1 i x (by omega) hx
  · by_cases e : i = j
    · subst e; exact hn k x y hk hx hy
    · exact h.2 i k x y (by omega) hk hx hy
theorem RkUp.all {xs : List Int} (h4 : xs.length = 4) (h : RkUp xs 4) : rkOk xs = true := by
  refine (rk_iff h4).2 ⟨fun i x hx => h.1 i x ?_ hx, fun i k x y hk hx hy => h.2 i k x y ?_ hk hx hy⟩
  · have := (List.getElem?_eq_some_iff.1 hx).1; omega
  · have := (List.getElem?_eq_some_iff.1 hy).1; omega
theorem RkNe.next {xs : List Int} {j k : Nat} {x y : Int} (h : RkNe xs j k) (hx : xs[k]? = some x) (hy : xs[j]? = some y) (hne : x ≠ y) : RkNe xs j (k + 1) := fun q x' y' hq h1 h2 => by
  by_cases e : q = k
  · subst e; rw [hx] at h1; rw [hy] at h2; obtain rfl := Option.some.inj h1; obtain rfl := Option.some.inj h2; exact hne
  · exact h q x' y' (by omega) h1 h2
theorem rk_out {xs : List Int} {j : Nat} {z : Int} (h4 : xs.length = 4) (hz : xs[j]? = some z) (h : ¬(1 ≤ z ∧ z ≤ 4)) : rkOk xs = false := by
  cases hr : rkOk xs with
  | false => rfl
  | true => exact absurd (((rk_iff h4).1 hr).1 j z hz) h
theorem rk_two {xs : List Int} {j k : Nat} {x y : Int} (h4 : xs.length = 4) (hk : k < j) (hx : xs[k]? = some x) (hy : xs[j]? = some y) (h : x = y) : rkOk xs = false := by
  cases hr : rkOk xs with
  | false => rfl
  | true => exact absurd h (((rk_iff h4).1 hr).2 j k x y hk hx hy)

set_option maxRecDepth 100000 in
set_option maxHeartbeats 2000000 in
theorem sOrderOk_any (xs : List Int) (A : Option Addr) (C : Nat) (w : World) (h : ISl w 0 w.heap.size A xs) :
    Calls Try.prog 14 #[.slice A xs.length C] w fun e w' => e = .returned (.bool (rkOk xs)) ∧ Below w.heap.size w w' := by
  by_cases h4 : xs.length = 4
  · have HI := Lib.hid h
    have e4 : ((xs.length : Int) != 4) = false := by simp [h4]
    have H4 := Lib.hid h4
    have h4' : (xs.length : Int) = 4 := by omega
    clear h h4
    go_enter Try.func14, Try.ntmps14
    go_wp2_with fail
    go_loopw [3] (fun i wr => ∃ j : Nat, i = .int .i64 j ∧ j ≤ 4 ∧ Hid (RkUp xs j) ∧ Below w.heap.size w wr) (fun i _ => 4 - (intOf i).toNat)
    case atStart => exact ⟨0, rfl, by omega, ⟨fun i x hi => by omega, fun i k x y hi => by omega⟩, Below.refl _ _⟩
    case round =>
      obtain ⟨j, rfl, hj, hup, hbl⟩ := hrel
      by_cases hlt : j < 4
      · have hlt' : j < xs.length := by have := H4.out; omega
        obtain ⟨b, o, rfl, _, hb1, hc⟩ := isl_at (HI.out.below hbl) hlt'
        have HZ : Hid (xs[j]? = some xs[j]) := List.getElem?_eq_getElem hlt'
        generalize xs[j] = z at hc HZ
        have g1 : (0 : Int) ≤ (j : Int) := by omega
        have g2 : (j : Int) < (xs.length : Int) := by omega
        have hbs := hbl.size
        have HBL := Lib.hid hbl
        clear hbl hlt'
        by_cases hr : 1 ≤ z ∧ z ≤ 4
        · have HR := Lib.hid hr
          have ht : Hid (decide (1 ≤ z ∧ z ≤ 4) = true) := decide_eq_true hr
          clear hr
          go_wp2_with (go_at_call 40; refine (l6In_is ht.out).mono ?_; rintro e w' ⟨rfl, rfl⟩)
          go_loopw [4] (fun i wi => ∃ k : Nat, i = .int .i64 k ∧ k ≤ j ∧ Hid (RkNe xs j k) ∧ Below w.heap.size w wi) (fun i _ => j - (intOf i).toNat)
          case atStart => exact ⟨0, rfl, by omega, fun q x y hq => by omega, HBL.out⟩
          case round =>
            obtain ⟨k, rfl, hk, hne, hbi⟩ := hrel
            have hbis := hbi.size
            by_cases hkj : k < j
            · have hk' : k < xs.length := by have := H4.out; omega
              have hj' : j < xs.length := by have := H4.out; omega
              obtain ⟨b', o', e', _, _, hck⟩ := isl_at (HI.out.below hbi) hk'
              obtain ⟨b2, o2, e2, _, _, hcj⟩ := isl_at (HI.out.below hbi) hj'
              obtain ⟨rfl, rfl, _⟩ : b = b' ∧ o = o' ∧ True := by simpa using e'
              obtain ⟨rfl, rfl, _⟩ : b = b2 ∧ o = o2 ∧ True := by simpa using e2
              have HX : Hid (xs[k]? = some xs[k]) := List.getElem?_eq_getElem hk'
              have hzj : xs[j] = z := by have := HZ.out; rw [List.getElem?_eq_getElem hj'] at this; exact Option.some.inj this
              rw [hzj] at hcj
              generalize xs[k] = x at hck HX
              have g3 : (0 : Int) ≤ (k : Int) := by omega
              have g4 : (k : Int) < (xs.length : Int) := by omega
              have hu0 : ∀ u : After wr.heap.size wr, u.world.cell? ⟨b, o + k, none⟩ = some (.int .i64 x) := fun u => u.cell (by simp; omega) hck
              have hu1 : ∀ u : After wr.heap.size wr, u.world.cell? ⟨b, o + j, none⟩ = some (.int .i64 z) := fun u => u.cell (by simp; omega) hcj
              have HBI := Lib.hid hbi
              clear hbi hzj hk' hj' e' e2
              by_cases hxz : x = z
              · have HF : Hid (rkOk xs = false) := rk_two H4.out hkj HX.out HZ.out hxz
                have ex : (x == z) = true := by simp [hxz]
                clear hxz hne
                go_wp2_with fail
                refine wp_region_after wr.heap.size (by kernel_rfl) (by kernel_rfl) ?_
                repeat (go_big_quiet_step (fail))
                refine wpQuiet_nil ?_
                rintro u ⟨⟨_, hu⟩, rfl⟩
                have HB2 := Lib.hid (HBI.out.trans (hu.mono hbis))
                clear hu0 hu1 hck hcj hu hc
                go_wp2_with fail
                go_ret
                exact ⟨by rw [HF.out]; rfl, HB2.out⟩
              · have HNE : Hid (RkNe xs j (k + 1)) := hne.out.next HX.out HZ.out hxz
                have ex : (x == z) = false := by simp [hxz]
                clear hxz hne
                go_wp2_with fail
                refine wp_region_after wr.heap.size (by kernel_rfl) (by kernel_rfl) ?_
                repeat (go_big_quiet_step (fail))
                refine wpQuiet_nil ?_
                rintro u ⟨⟨_, hu⟩, rfl⟩
                have HB2 := Lib.hid (HBI.out.trans (hu.mono hbis))
                clear hu0 hu1 hck hcj hu hc
                go_wp2_with fail
                go_roundw
                case rel => exact ⟨k + 1, by go_num, by omega, HNE, HB2.out⟩
                case measure => simp [intOf]; omega
            · have hkj' : k = j := by omega
              subst hkj'
              have HUP : Hid (RkUp xs (k + 1)) := hup.out.next HZ.out HR.out hne.out
              have HBI := Lib.hid hbi
              clear hup hne hbi hc
              go_wp2_with fail
              go_roundw
              case rel => exact ⟨k + 1, by go_num, by omega, HUP, HBI.out⟩
              case measure => simp [intOf]; omega
        · have HF : Hid (rkOk xs = false) := rk_out H4.out HZ.out hr
          have ht : Hid (decide (1 ≤ z ∧ z ≤ 4) = false) := decide_eq_false hr
          clear hr
          go_wp2_with (go_at_call 40; refine (l6In_is ht.out).mono ?_; rintro e w' ⟨rfl, rfl⟩)
          go_ret
          exact ⟨by rw [HF.out]; rfl, HBL.out⟩
      · have hj4 : j = 4 := by omega
        subst hj4
        have HT : Hid (rkOk xs = true) := hup.out.all H4.out
        clear hup
        go_wp2_with fail
        go_ret
        exact ⟨by rw [HT.out]; rfl, hbl⟩
  · have e4 : ((xs.length : Int) != 4) = true := by simp; omega
    have HN : Hid (rkOk xs = false) := rk_no h4
    clear h h4
    go_enter Try.func14, Try.ntmps14
    go_wp2_with fail
    go_ret
    exact ⟨by rw [HN.out]; rfl, Below.refl _ _⟩
end Go.Proofs.Ytncnhlpdlhpehaa
