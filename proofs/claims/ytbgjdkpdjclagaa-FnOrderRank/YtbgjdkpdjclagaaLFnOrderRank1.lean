/- Several texts in one: LO4, J3, LawORank. -/
import Derived.Test.YtbgjdkpdjclagaaKOrd22
import Derived.Test.YtbgjdkpdjclagaaKOrd15
import Derived.Test.YtbgjdkpdjclagaaKOrd19
import Derived.Test.YtbgjdkpdjclagaaKOrd17

/-! LO4: A sign is more than one ranked behind it: plain. -/
namespace Go.Proofs.Ytbgjdkpdjclagaa
open Go.RowKit Go.Deep

def K3 : Fo := .node 0 0 (0, 0) .nil .nil
def K4 : Fo := .node 0 0 (0, 0) .nil (.node 0 0 (0, 0) .nil .nil)
/-- The kids of sign x applied to variable 0. -/
def topK (x : Nat) : Fo := if x = 3 then K3 else if x = 4 then K4 else .nil

theorem top_ok {x : Nat} (h1 : 1 ≤ x) (h2 : x ≤ 4) : okW (x : Int) 0 (topK x) 16 = true := by
  have : x = 1 ∨ x = 2 ∨ x = 3 ∨ x = 4 := by omega
  rcases this with rfl | rfl | rfl | rfl <;> rfl
theorem leaf_not {rk : Int → Nat} {s : Int} {t : Tm} (h : Gt rk (.leaf s) t) : t.sign ≠ 0 ∧ ∀ u, u ∈ t.kids → Gt rk (.leaf s) u := by
  cases h with
  | kid hm => simp [Tm.kids] at hm
  | sub hm => simp [Tm.kids] at hm
  | rank _ h0 _ _ hk => exact ⟨h0, hk⟩
theorem leaf_var {rk : Int → Nat} {s v : Int} : ¬ Gt rk (.leaf s) (.var v) := fun h => (leaf_not h).1 rfl
/-- x ranked ahead of y. -/
theorem top_more {xs : List Int} {x y : Nat} (hr : rkOk xs = true) (hx : 1 ≤ x ∧ x ≤ 4) (hy : 1 ≤ y ∧ y ≤ 4) (hne : x ≠ y) (hlt : rkN xs (x : Int) < rkN xs (y : Int)) : moreR xs (x : Int) 0 (topK x) (y : Int) 0 (topK y) = decide (3 ≤ x ∨ y ≤ 2) := by
  have ox := top_ok hx.1 hx.2
  have oy := top_ok hy.1 hy.2
  have key : Gt (rkN xs) (tmOf (x : Int) 0 (topK x)) (tmOf (y : Int) 0 (topK y)) ↔ (3 ≤ x ∨ y ≤ 2) := by
    have hx' : x = 1 ∨ x = 2 ∨ x = 3 ∨ x = 4 := by omega
    have hy' : y = 1 ∨ y = 2 ∨ y = 3 ∨ y = 4 := by omega
    have e1 : tmOf ((1 : Nat) : Int) 0 (topK 1) = .leaf 1 := rfl
    have e2 : tmOf ((2 : Nat) : Int) 0 (topK 2) = .leaf 2 := rfl
    have e3 : tmOf ((3 : Nat) : Int) 0 (topK 3) = .one (.var 0) := rfl
    have e4 : tmOf ((4 : Nat) : Int) 0 (topK 4) = .two (.var 0) (.var 0) := rfl
    rcases hx' with rfl | rfl | rfl | rfl <;> rcases hy' with rfl | rfl | rfl | rfl <;> simp only [e1, e2, e3, e4] <;> first
      | (exact absurd rfl hne)
      | (refine iff_of_true (.rank (by simp [Tm.sign]) (by simp [Tm.sign]) (by simp [Tm.sign]) hlt fun u hu => ?_) (by omega)
         first
           | (simp [Tm.kids] at hu; done)
           | (simp [Tm.kids] at hu; subst hu; exact .kid (by simp [Tm.kids])))
      | (refine iff_of_false (fun h => ?_) (by omega)
         exact leaf_var ((leaf_not h).2 (.var 0) (by simp [Tm.kids])))
  unfold moreR
  rw [hr, ox, oy]
  simp only [Bool.true_and]
  rw [pB_congr key]
  unfold pB
  congr
/-- Where the number at a place of a ranking first stands. -/
theorem rk_at {xs : List Int} {i k : Nat} (hr : rkOk xs = true) (hik : i < k) (hk : k < xs.length) :
    ∃ x y : Nat, xs[i]? = some (x : Int) ∧ xs[k]? = some (y : Int) ∧ (1 ≤ x ∧ x ≤ 4) ∧ (1 ≤ y ∧ y ≤ 4) ∧ x ≠ y ∧ rkN xs (x : Int) < rkN xs (y : Int) := by
  have h4 : xs.length = 4 := by simp only [rkOk, Bool.and_eq_true, decide_eq_true_eq] at hr; exact hr.1
  obtain ⟨r1, r2⟩ := (rk_iff h4).1 hr
  have hi : i < xs.length := by omega
  have ei : xs[i]? = some xs[i] := List.getElem?_eq_getElem hi
  have ek : xs[k]? = some xs[k] := List.getElem?_eq_getElem hk
  have bi := r1 i _ ei
  have bk := r1 k _ ek
  have hne := r2 k i _ _ hik ei ek
  refine ⟨(xs[i]).toNat, (xs[k]).toNat, by rw [ei]; congr; omega, by rw [ek]; congr; omega, by omega, by omega, by omega, ?_⟩
  have ci : ((xs[i]).toNat : Int) = xs[i] := by omega
  have ck : ((xs[k]).toNat : Int) = xs[k] := by omega
  rw [ci, ck]
  have f : ∀ (j : Nat) (z : Int), xs[j]? = some z → rkN xs z = j := fun j z hz => idx_hit (fun q y hq hy => r2 j q y z hq hy hz) hz
  rw [f i _ ei, f k _ ek]
  exact hik
end Go.Proofs.Ytbgjdkpdjclagaa

/-! J3: DrawOrderOk. -/
namespace Go.Proofs.Ytbgjdkpdjclagaa
open Go.RowKit Go.Deep

def DokPost (w : World) (e : Ending) (w' : World) : Prop :=
  ∃ xs A C, e = .returned (.slice A (List.length xs) C) ∧ xs.length ≤ 4 ∧ Below w.heap.size w w' ∧ ISc w' w.heap.size w'.heap.size A C xs

set_option maxRecDepth 100000 in
set_option maxHeartbeats 1600000 in
theorem DrawOrderOk_any (a0 : Option Addr) (len cap : Nat) (w : World) (hby : Bytes w a0 len) (hlen : len ≤ cap) :
    Calls Try.prog 18 #[.slice a0 len cap] w (DokPost w) := by
  have HBY := Lib.hid hby
  clear hby
  go_enter Try.func18, Try.ntmps18
  go_wp2_with fail
  with_reducible refine (l6Open_any a0 len cap _ HBY.out hlen).mono ?_
  rintro e w1 ⟨rfl, hb1, hrd⟩
  have hs1 := hb1.size
  have HRD := Lib.hid hrd
  have HB1 := Lib.hid hb1
  have hlt1 := hrd.lt
  clear hb1 hrd
  go_wp2_with fail
  with_reducible refine (l71Rank_any w.heap.size 0 _ HRD.out (by omega)).mono ?_
  rintro e w2 ⟨xs, A, C, p1, rfl, hx4, _, hp1, ha1, hio⟩
  have HX4 := Lib.hid hx4
  have HR1 := Lib.hid (ha1.rd HRD.out)
  have hs2 := ha1.size
  have HB2 := Lib.hid (adv_low HB1.out (Nat.le_refl _) (by omega) ha1)
  have HIO := Lib.hid (hio.base (base' := w.heap.size + 1) (by omega))
  have hxp : 0 < xs.length := by omega
  have hx4' : (xs.length : Int) = 4 := by omega
  clear ha1 hio hx4
  go_wp2_with fail
  with_reducible refine (pick_any 6 w.heap.size p1 _ HR1.out (by omega) (by omega) (by omega)).mono ?_
  rintro e w3 ⟨y, rfl, hy, hb3⟩
  have ha3 : Adv w2 w.heap.size (p1 + 1) w3 := hb3
  have HB3 := Lib.hid (adv_low HB2.out (Nat.le_refl _) (by omega) ha3)
  have HR3 := Lib.hid (ha3.rd HR1.out)
  have hs3 := ha3.size
  have HIO3 : Hid (IOwn w3 (w.heap.size + 1) xs A C) := own_block HIO.out fun g hg => by
    have h1 := HIO.out.lt g hg
    exact ha3.same (lo := g) (B := g + 1) (by omega) (by omega) g (Nat.le_refl _) (by omega)
  clear hb3 ha3 hy HIO
  by_cases hy0 : y = 0
  · subst hy0
    obtain ⟨hto, htoI⟩ := cut_to (pA := A) (pC := C) (n := 3) (place := xs) (by have := HX4.out; omega) (isc_of_own HIO3.out).2
    have HTO := Lib.hid (htoI (isc_of_own HIO3.out).1)
    have hto3 : ∀ w : World, (Instr.slice 23 (.slice A xs.length C) none (some (.int .i64 3)) none).run Try.prog w = .ok (.slice A 3 C) w := hto
    clear hto htoI
    go_wp2_with fail
    go_ret
    have hl3 : (xs.take 3).length = 3 := by rw [List.length_take]; have := HX4.out; omega
    exact ⟨xs.take 3, A, C, by rw [hl3]; rfl, by omega, HB3.out, HTO.out.mono (by omega) (Nat.le_refl _)⟩
  have y0 : ((y : Int) == 0) = false := by simpa using hy0
  by_cases hy1 : y = 1
  · subst hy1
    obtain ⟨g, cp, hv, hgb, hgl⟩ := HIO3.out.form hxp
    simp only [Value.slice.injEq] at hv
    obtain ⟨rfl, _, rfl⟩ := hv
    go_wp2_with fail
    with_reducible refine (pick_any 4 w.heap.size (p1 + 1) _ HR3.out (by omega) (by omega) (by omega)).mono ?_
    rintro e w4 ⟨i, rfl, hi, hb4⟩
    have ha4 : Adv w3 w.heap.size (p1 + 1 + 1) w4 := hb4
    have HR4 := Lib.hid (ha4.rd HR3.out)
    have HB4 := Lib.hid (adv_low HB3.out (Nat.le_refl _) (by omega) ha4)
    have hs4 := ha4.size
    have hi4 : i < 4 := by omega
    have HIO4 : Hid (IOwn w4 (w.heap.size + 1) xs (some ⟨g, 0, none⟩) C) := own_block HIO3.out fun q hq => by
      have h1 := HIO3.out.lt q hq
      exact ha4.same (lo := q) (B := q + 1) (by omega) (by omega) q (Nat.le_refl _) (by omega)
    clear hb4 ha4 hi
    go_wp2_with fail
    with_reducible refine (pick_any 6 w.heap.size (p1 + 1 + 1) _ HR4.out (by omega) (by omega) (by omega)).mono ?_
    rintro e w5 ⟨z, rfl, hz, hb5⟩
    have ha5 : Adv w4 w.heap.size (p1 + 1 + 1 + 1) w5 := hb5
    have HB5 := Lib.hid (adv_low HB4.out (Nat.le_refl _) (by omega) ha5)
    have hs5 := ha5.size
    have HIO5 : Hid (IOwn w5 (w.heap.size + 1) xs (some ⟨g, 0, none⟩) C) := own_block HIO4.out fun q hq => by
      have h1 := HIO4.out.lt q hq
      exact ha5.same (lo := q) (B := q + 1) (by omega) (by omega) q (Nat.le_refl _) (by omega)
    have hil : i < xs.length := by have := HX4.out; omega
    have hc : w5.cell? ⟨g, i, none⟩ = some (.int .i64 xs[i]) := by
      rw [HIO5.out.cellAt i (by omega), List.getElem?_map, List.getElem?_eq_getElem hil]; rfl
    have hf : w5.frozen? ⟨g, i, none⟩ = false := HIO5.out.frozenAt i
    have HF : Hid (IOwn (w5.setCell ⟨g, i, none⟩ (.int .i64 z)) (w.heap.size + 1) (xs.set i (z : Int)) (some ⟨g, 0, none⟩) C) := by
      unfold Hid IOwn
      rw [List.length_set, List.map_set]
      exact (HIO5.out.stored i (.int .i64 z)).1
    have HBF : Hid (Below w.heap.size w (w5.setCell ⟨g, i, none⟩ (.int .i64 z))) := HB5.out.setCell (by simp only; omega) _
    have g1 : (0 : Int) ≤ (i : Int) := by omega
    have g2 : (i : Int) < (xs.length : Int) := by omega
    clear hb5 ha5 hz
    go_wp2_with fail
    go_ret
    exact ⟨xs.set i (z : Int), some ⟨g, 0, none⟩, C, by rw [List.length_set]; rfl, by rw [List.length_set]; have := HX4.out; omega, HBF.out, (isc_of_own HF.out).mono (by omega) (Nat.le_refl _)⟩
  · have y1 : ((y : Int) == 1) = false := by simp; omega
    go_wp2_with fail
    go_ret
    exact ⟨xs, A, C, rfl, by have := HX4.out; omega, HB3.out, (isc_of_own HIO3.out).mono (by omega) (Nat.le_refl _)⟩
end Go.Proofs.Ytbgjdkpdjclagaa

/-! LawORank: laws.FnOrderRank answers true at every code. -/
namespace Go.Proofs.Ytbgjdkpdjclagaa
open Go.RowKit Go.Deep

/-- The five terms, in block b. -/
def TopsAt (b : Nat) (wn : World) : Prop := ∀ x : Nat, 1 ≤ x → x ≤ 4 → ∃ a c, wn.cell? ⟨b, x * 3, none⟩ = some (.int .i64 (x : Int)) ∧ wn.cell? ⟨b, x * 3 + 1, none⟩ = some (.int .i64 0) ∧ wn.cell? ⟨b, x * 3 + 2, none⟩ = some (.slice a (flen (topK x)) c) ∧ Sl wn 0 wn.heap.size a (topK x)
theorem TopsAt.next {b : Nat} {wn wm : World} (h : TopsAt b wn) (hb : Below wn.heap.size wn wm) : TopsAt b wm := fun x h1 h2 => by
  obtain ⟨a, c, c0, c1, c2, hl⟩ := h x h1 h2
  exact ⟨a, c, cell_low hb c0, cell_low hb c1, cell_low hb c2, (hl.below hb).mono (Nat.le_refl _) hb.size⟩
theorem tops_start (w3 : World) : TopsAt (w3.heap.size + 1 + 1 + 1) ((((w3.alloc (.cells #[.int .i64 1, .int .i64 0, .slice none 0 0] 26)).alloc (.cells #[.int .i64 0, .int .i64 0, .slice none 0 0] 26)).alloc (.cells #[.int .i64 0, .int .i64 0, .slice none 0 0, .int .i64 0, .int .i64 0, .slice none 0 0] 26)).alloc
    (.cells #[.int .i64 0, .int .i64 0, .slice none 0 0, .int .i64 1, .int .i64 0, .slice none 0 0, .int .i64 2, .int .i64 0, .slice none 0 0, .int .i64 3, .int .i64 0, .slice (some ⟨w3.heap.size + 1, 0, none⟩) 1 1, .int .i64 4, .int .i64 0, .slice (some ⟨w3.heap.size + 1 + 1, 0, none⟩) 2 2] 26)) := by
  intro x h1 h2
  have : x = 1 ∨ x = 2 ∨ x = 3 ∨ x = 4 := by omega
  rcases this with rfl | rfl | rfl | rfl
  · exact ⟨none, 0, by rw [World.cell?_alloc_at _ _ _ _ (by simp)]; rfl, by rw [World.cell?_alloc_at _ _ _ _ (by simp)]; rfl, by rw [World.cell?_alloc_at _ _ _ _ (by simp)]; rfl, .inl rfl⟩
  · exact ⟨none, 0, by rw [World.cell?_alloc_at _ _ _ _ (by simp)]; rfl, by rw [World.cell?_alloc_at _ _ _ _ (by simp)]; rfl, by rw [World.cell?_alloc_at _ _ _ _ (by simp)]; rfl, .inl rfl⟩
  · refine ⟨some ⟨w3.heap.size + 1, 0, none⟩, 1, by rw [World.cell?_alloc_at _ _ _ _ (by simp)]; rfl, by rw [World.cell?_alloc_at _ _ _ _ (by simp)]; rfl, by rw [World.cell?_alloc_at _ _ _ _ (by simp)]; rfl, .inr ⟨w3.heap.size + 1, 0, rfl, Nat.zero_le _, by simp, ?_, ?_, ⟨none, 0, ?_, .inl rfl⟩, trivial⟩⟩
    iterate 3
      rw [World.cell?_alloc_lt _ _ _ (by simp), World.cell?_alloc_lt _ _ _ (by simp), World.cell?_alloc_at _ _ _ _ (by simp)]; rfl
  · refine ⟨some ⟨w3.heap.size + 1 + 1, 0, none⟩, 2, by rw [World.cell?_alloc_at _ _ _ _ (by simp)]; rfl, by rw [World.cell?_alloc_at _ _ _ _ (by simp)]; rfl, by rw [World.cell?_alloc_at _ _ _ _ (by simp)]; rfl, .inr ⟨w3.heap.size + 1 + 1, 0, rfl, Nat.zero_le _, by simp, ?_, ?_, ⟨none, 0, ?_, .inl rfl⟩, Nat.zero_le _, by simp, ?_, ?_, ⟨none, 0, ?_, .inl rfl⟩, trivial⟩⟩
    iterate 6
      rw [World.cell?_alloc_lt _ _ _ (by simp), World.cell?_alloc_at _ _ _ _ (by simp)]; rfl

set_option maxRecDepth 100000 in
set_option maxHeartbeats 2000000 in
theorem orderRank_walk (a0 : Option Addr) (len cap : Nat) (w : World) (hby : Bytes w a0 len) (hlen : len ≤ cap) :
    Calls Try.prog 5 #[.slice a0 len cap] w fun e w' => e = .returned (.bool true) ∧ Below w.heap.size w w' := by
  have HBY := Lib.hid hby
  clear hby
  by_cases hbig : 1048576 < len
  · go_enter Try.func5, Try.ntmps5
    go_wp2_with fail
    go_ret
    exact ⟨rfl, Below.refl _ _⟩
  go_enter Try.func5, Try.ntmps5
  go_wp2_with fail
  with_reducible refine (DrawOrderOk_any a0 len cap _ HBY.out hlen).mono ?_
  rintro e w1 ⟨xs, A, C, rfl, hx4, hb1, hi1⟩
  have HI1 := Lib.hid (hi1.1.mono (lo' := 0) (Nat.zero_le _) (Nat.le_refl _))
  have hs1 := hb1.size
  have HB1 := Lib.hid hb1
  clear hb1 hi1
  cases hrk : rkOk xs with
  | false =>
    have HRK := Lib.hid hrk
    clear hrk
    go_wp2_with fail
    with_reducible refine (iOrderOk_any xs A C _ HI1.out).mono ?_
    rw [HRK.out]
    rintro e w2 ⟨rfl, hb2⟩
    have hs2 := hb2.size
    have HI2 := Lib.hid ((HI1.out.below hb2).mono (Nat.le_refl _) hb2.size)
    have HB2 := Lib.hid (HB1.out.trans (hb2.mono (by omega)))
    clear hb2
    go_wp2_with fail
    with_reducible refine (sOrderOk_any xs A C _ HI2.out).mono ?_
    rw [HRK.out]
    rintro e w3 ⟨rfl, hb3⟩
    have hs3 := hb3.size
    have HI3 := Lib.hid ((HI2.out.below hb3).mono (Nat.le_refl _) hb3.size)
    have HB3 := Lib.hid (HB2.out.trans (hb3.mono (by omega)))
    clear hb3
    go_wp2_with fail
    with_reducible refine (sOrderOk_any xs A C _ HI3.out).mono ?_
    rw [HRK.out]
    rintro e w4 ⟨rfl, hb4⟩
    have HB4 := Lib.hid (HB3.out.trans (hb4.mono (by omega)))
    clear hb4
    go_wp2_with fail
    go_ret
    exact ⟨rfl, HB4.out⟩
  | true =>
    have HRK := Lib.hid hrk
    clear hrk
    go_wp2_with fail
    with_reducible refine (iOrderOk_any xs A C _ HI1.out).mono ?_
    rw [HRK.out]
    rintro e w2 ⟨rfl, hb2⟩
    have hs2 := hb2.size
    have HI2 := Lib.hid ((HI1.out.below hb2).mono (Nat.le_refl _) hb2.size)
    have HB2 := Lib.hid (HB1.out.trans (hb2.mono (by omega)))
    clear hb2
    go_wp2_with fail
    with_reducible refine (sOrderOk_any xs A C _ HI2.out).mono ?_
    rw [HRK.out]
    rintro e w3 ⟨rfl, hb3⟩
    have hs3 := hb3.size
    have HI3 := Lib.hid ((HI2.out.below hb3).mono (Nat.le_refl _) hb3.size)
    have HB3 := Lib.hid (HB2.out.trans (hb3.mono (by omega)))
    clear hb3
    go_wp2_with fail
    have hb4 : Below w3.heap.size w3 ((((w3.alloc (.cells #[.int .i64 1, .int .i64 0, .slice none 0 0] 26)).alloc (.cells #[.int .i64 0, .int .i64 0, .slice none 0 0] 26)).alloc (.cells #[.int .i64 0, .int .i64 0, .slice none 0 0, .int .i64 0, .int .i64 0, .slice none 0 0] 26)).alloc (.cells #[.int .i64 0, .int .i64 0, .slice none 0 0, .int .i64 1, .int .i64 0, .slice none 0 0, .int .i64 2, .int .i64 0, .slice none 0 0, .int .i64 3, .int .i64 0, .slice (some ⟨w3.heap.size + 1, 0, none⟩) 1 1, .int .i64 4, .int .i64 0, .slice (some ⟨w3.heap.size + 1 + 1, 0, none⟩) 2 2] 26)) := ((((Below.refl _ _).alloc (Nat.le_refl _) _).alloc (by simp) _).alloc (by simp; omega) _).alloc (by simp; omega) _
    have HT4 := Lib.hid (tops_start w3)
    have HI4 := Lib.hid ((HI3.out.below hb4).mono (Nat.le_refl _) hb4.size)
    have HB4 := Lib.hid (HB3.out.trans (hb4.mono (by omega)))
    have hs4 : w.heap.size ≤ ((((w3.alloc (.cells #[.int .i64 1, .int .i64 0, .slice none 0 0] 26)).alloc (.cells #[.int .i64 0, .int .i64 0, .slice none 0 0] 26)).alloc (.cells #[.int .i64 0, .int .i64 0, .slice none 0 0, .int .i64 0, .int .i64 0, .slice none 0 0] 26)).alloc (.cells #[.int .i64 0, .int .i64 0, .slice none 0 0, .int .i64 1, .int .i64 0, .slice none 0 0, .int .i64 2, .int .i64 0, .slice none 0 0, .int .i64 3, .int .i64 0, .slice (some ⟨w3.heap.size + 1, 0, none⟩) 1 1, .int .i64 4, .int .i64 0, .slice (some ⟨w3.heap.size + 1 + 1, 0, none⟩) 2 2] 26)).heap.size := Nat.le_trans (by omega) hb4.size
    clear hb4
    generalize ((((w3.alloc (.cells #[.int .i64 1, .int .i64 0, .slice none 0 0] 26)).alloc (.cells #[.int .i64 0, .int .i64 0, .slice none 0 0] 26)).alloc (.cells #[.int .i64 0, .int .i64 0, .slice none 0 0, .int .i64 0, .int .i64 0, .slice none 0 0] 26)).alloc (.cells #[.int .i64 0, .int .i64 0, .slice none 0 0, .int .i64 1, .int .i64 0, .slice none 0 0, .int .i64 2, .int .i64 0, .slice none 0 0, .int .i64 3, .int .i64 0, .slice (some ⟨w3.heap.size + 1, 0, none⟩) 1 1, .int .i64 4, .int .i64 0, .slice (some ⟨w3.heap.size + 1 + 1, 0, none⟩) 2 2] 26)) = w4 at *
    generalize w3.heap.size + 1 + 1 + 1 = b3 at *
    go_loopw [7] (fun i wr => ∃ j : Nat, i = .int .i64 j ∧ j ≤ xs.length ∧ Hid (TopsAt b3 wr) ∧ Hid (ISl wr 0 wr.heap.size A xs) ∧ Hid (Below w.heap.size w wr) ∧ w.heap.size ≤ wr.heap.size) (fun i _ => xs.length - (intOf i).toNat)
    case atStart => exact ⟨0, rfl, Nat.zero_le _, HT4, HI4, HB4, hs4⟩
    case round =>
      clear HT4 HI4 HB4 hs4
      obtain ⟨j, rfl, hj, HT, HI, HB, hsz⟩ := hrel
      by_cases hlt : j < xs.length
      · have g2 : (j : Int) < (xs.length : Int) := by omega
        go_wp2_with fail
        go_loopw [8] (fun i wr => ∃ m : Nat, i = .int .i64 m ∧ j + 1 ≤ m ∧ m ≤ xs.length ∧ Hid (TopsAt b3 wr) ∧ Hid (ISl wr 0 wr.heap.size A xs) ∧ Hid (Below w.heap.size w wr) ∧ w.heap.size ≤ wr.heap.size) (fun i _ => xs.length - (intOf i).toNat)
        case atStart => exact ⟨j + 1, by go_num, Nat.le_refl _, by omega, HT, HI, HB, hsz⟩
        case round =>
          clear HT HI HB hsz
          obtain ⟨m, rfl, hm1, hm2, HT, HI, HB, hsz⟩ := hrel
          by_cases hltm : m < xs.length
          · obtain ⟨x, y, hxi, hyk, bx, hby, hne, hrlt⟩ := rk_at HRK.out (show j < m by omega) hltm
            have HMR := Lib.hid (top_more HRK.out bx hby hne hrlt)
            obtain ⟨rb, ro, hA, _, _, hcx⟩ := isl_at HI.out hlt
            have hcy := (isl_at HI.out hltm)
            rw [hA] at hcy
            obtain ⟨rb', ro', hA', _, _, hcy⟩ := hcy
            simp only [Option.some.injEq, Addr.mk.injEq, and_true] at hA'
            obtain ⟨rfl, rfl⟩ := hA'
            subst hA
            rw [List.getElem?_eq_getElem hlt, Option.some.injEq] at hxi
            rw [List.getElem?_eq_getElem hltm, Option.some.injEq] at hyk
            rw [hxi] at hcx
            rw [hyk] at hcy
            obtain ⟨ax, cx, tx0, tx1, tx2, hlx⟩ := HT.out x bx.1 bx.2
            obtain ⟨ay, cy, ty0, ty1, ty2, hly⟩ := HT.out y hby.1 hby.2
            have HLX := Lib.hid hlx
            have HLY := Lib.hid hly
            have hu0 : ∀ u : After wr.heap.size wr, u.world.cell? ⟨rb, ro + j, none⟩ = some (.int .i64 (x : Int)) := fun u => cell_low u.below hcx
            have hu1 : ∀ u : After wr.heap.size wr, u.world.cell? ⟨rb, ro + m, none⟩ = some (.int .i64 (y : Int)) := fun u => cell_low u.below hcy
            have hu2 : ∀ u : After wr.heap.size wr, u.world.cell? ⟨b3, x * 3, none⟩ = some (.int .i64 (x : Int)) := fun u => cell_low u.below tx0
            have hu3 : ∀ u : After wr.heap.size wr, u.world.cell? ⟨b3, x * 3 + 1, none⟩ = some (.int .i64 0) := fun u => cell_low u.below tx1
            have hu4 : ∀ u : After wr.heap.size wr, u.world.cell? ⟨b3, x * 3 + 2, none⟩ = some (.slice ax (flen (topK x)) cx) := fun u => cell_low u.below tx2
            have hu5 : ∀ u : After wr.heap.size wr, u.world.cell? ⟨b3, y * 3, none⟩ = some (.int .i64 (y : Int)) := fun u => cell_low u.below ty0
            have hu6 : ∀ u : After wr.heap.size wr, u.world.cell? ⟨b3, y * 3 + 1, none⟩ = some (.int .i64 0) := fun u => cell_low u.below ty1
            have hu7 : ∀ u : After wr.heap.size wr, u.world.cell? ⟨b3, y * 3 + 2, none⟩ = some (.slice ay (flen (topK y)) cy) := fun u => cell_low u.below ty2
            clear hcx hcy tx0 tx1 tx2 ty0 ty1 ty2 hlx hly hxi hyk
            have HCALL : Hid (∀ u : After wr.heap.size wr, Calls Try.prog 10 #[.slice (some ⟨rb, ro, none⟩) xs.length C, .agg #[.int .i64 (x : Int), .int .i64 0, .slice ax (flen (topK x)) cx], .agg #[.int .i64 (y : Int), .int .i64 0, .slice ay (flen (topK y)) cy]] u.world fun e w' => e = .returned (.bool (decide (3 ≤ x ∨ y ≤ 2))) ∧ Below u.world.heap.size u.world w') := fun u => by
              have := iOrderMore_any xs (some ⟨rb, ro, none⟩) C (x : Int) 0 ax cx (topK x) (y : Int) 0 ay cy (topK y) u.world ((HI.out.below u.below).mono (Nat.le_refl _) u.below.size) ((HLX.out.below u.below).mono (Nat.le_refl _) u.below.size) ((HLY.out.below u.below).mono (Nat.le_refl _) u.below.size)
              rwa [HMR.out] at this
            have g3 : (0 : Int) ≤ (j : Int) := by omega
            have g4 : (m : Int) < (xs.length : Int) := by omega
            have g5 : (0 : Int) ≤ (m : Int) := by omega
            have g6 : (x : Int) < 5 := by omega
            have g7 : (y : Int) < 5 := by omega
            have g8 : (0 : Int) ≤ (x : Int) := by omega
            have g9 : (0 : Int) ≤ (y : Int) := by omega
            by_cases hcase : 3 ≤ x ∨ y ≤ 2
            · rw [decide_eq_true hcase] at HCALL
              go_wp2_with fail
              refine wp_region_after wr.heap.size (by kernel_rfl) (by kernel_rfl) ?_
              repeat (go_big_quiet_step ((go_at_call 10; exact Calls.after (by have := After.below ‹_›; exact this.size) (HCALL.out _))))
              refine wpQuiet_nil ?_
              rintro u ⟨⟨_, hu⟩, rfl⟩
              have HT2 := Lib.hid (HT.out.next hu)
              have HI2' := Lib.hid ((HI.out.below hu).mono (Nat.le_refl _) hu.size)
              have HB2' := Lib.hid (HB.out.trans (hu.mono hsz))
              have hsz2 := Nat.le_trans hsz hu.size
              clear hu0 hu1 hu2 hu3 hu4 hu5 hu6 hu7 hu
              go_wp2_with fail
              go_roundw
              case rel => exact ⟨m + 1, by go_num, by omega, by omega, HT2, HI2', HB2', hsz2⟩
              case measure => simp [intOf]; omega
            · rw [decide_eq_false hcase] at HCALL
              have hfy : 0 < flen (topK y) := by
                have hy34 : y = 3 ∨ y = 4 := by omega
                rcases hy34 with rfl | rfl <;> decide
              have hfx : flen (topK x) = 0 := by
                have hx12 : x = 1 ∨ x = 2 := by omega
                rcases hx12 with rfl | rfl <;> rfl
              have h0 : ((flen (topK y) : Int) == 0) = false := by simp; omega
              have h00 : decide ((0 : Int) < (flen (topK x) : Int)) = false := by rw [hfx]; rfl
              have h01 : decide (0 < flen (topK x)) = false := by rw [hfx]; rfl
              have h02 : ¬ 0 < flen (topK x) := by omega
              clear hfx
              go_wp2_with fail
              refine wp_region_after wr.heap.size (by kernel_rfl) (by kernel_rfl) ?_
              repeat (go_big_quiet_step ((go_at_call 10; exact Calls.after (by have := After.below ‹_›; exact this.size) (HCALL.out _))))
              refine wpQuiet_nil ?_
              rintro u ⟨⟨_, hu⟩, rfl⟩
              have HT2 := Lib.hid (HT.out.next hu)
              have HI2' := Lib.hid ((HI.out.below hu).mono (Nat.le_refl _) hu.size)
              have HB2' := Lib.hid (HB.out.trans (hu.mono hsz))
              have hsz2 := Nat.le_trans hsz hu.size
              clear hu0 hu1 hu2 hu3 hu4 hu5 hu6 hu7 hu
              go_wp2_with fail
              go_roundw
              case rel => exact ⟨m + 1, by go_num, by omega, by omega, HT2, HI2', HB2', hsz2⟩
              case measure => simp [intOf]; omega
          · go_wp2_with fail
            go_roundw
            case rel => exact ⟨j + 1, by go_num, by omega, HT, HI, HB, hsz⟩
            case measure => simp [intOf]; omega
      · go_wp2_with fail
        go_ret
        exact ⟨rfl, HB.out⟩
end Go.Proofs.Ytbgjdkpdjclagaa
