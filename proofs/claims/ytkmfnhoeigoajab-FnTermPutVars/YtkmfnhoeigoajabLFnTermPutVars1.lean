/- Several texts in one: B3, B4, B5, B6, D3. -/
import Derived.Test.YtkmfnhoeigoajabKVar4
import Derived.Test.YtkmfnhoeigoajabKVar1
import Derived.Test.YtkmfnhoeigoajabKVar9
import Derived.Test.YtkmfnhoeigoajabKVar10
import Derived.Deep.RegionHeld3
import Derived.Deep.DrawnRows

/-! B3: laTerm: what is the same comes out the same. -/
namespace Go.Proofs.Ytkmfnhoeigoajab
open Go.RowKit Go.Deep

theorem two_boxes {w wr : World} {x y z x' y' z' : Value} (h : Below (w.heap.size + 2) ((w.alloc (.cells #[x, y, z] 25)).alloc (.cells #[x', y', z'] 25)) wr) :
    wr.cell? ⟨w.heap.size, 2, none⟩ = some z ∧ wr.cell? ⟨w.heap.size + 1, 2, none⟩ = some z' := by
  refine ⟨?_, ?_⟩
  · rw [h.cell (by simp), World.cell?_alloc_lt _ _ _ (by simp), World.cell?_alloc_at _ _ _ _ (by simp)]; rfl
  · rw [h.cell (by simp), World.cell?_alloc_at _ _ _ _ (by simp)]; rfl

set_option maxRecDepth 100000 in
set_option maxHeartbeats 1000000 in
theorem laTerm_same (N : Nat) : ∀ (s v : Int) (a a' : Option Addr) (c c' : Nat) (k : Fo) (w : World), Sl w 0 w.heap.size a k → Sl w 0 w.heap.size a' k → fsz k ≤ N → N ≤ 1000000 →
    Calls Try.prog 12 #[.agg #[.int .i64 s, .int .i64 v, .slice a (flen k) c], .agg #[.int .i64 s, .int .i64 v, .slice a' (flen k) c']] w fun e w' => e = .returned (.bool true) ∧ Below w.heap.size w w' := by
  induction N using Nat.strongRecOn with
  | _ N ih =>
    intro s v a a' c c' k w hl hl' hN hN2
    have hfl := flen_le_sz k
    have IH := Lib.hid ih
    clear ih
    have e0 : (s != s) = false := by simp
    have e1 : (v != v) = false := by simp
    have e2 : ((flen k : Int) != (flen k : Int)) = false := by simp
    have hb0 : Below w.heap.size w ((w.alloc (.cells #[.int .i64 s, .int .i64 v, .slice a (flen k) c] 25)).alloc (.cells #[.int .i64 s, .int .i64 v, .slice a' (flen k) c'] 25)) := ((Below.refl _ _).alloc (Nat.le_refl _) _).alloc (by simp) _
    have HB0 := Lib.hid hb0
    clear hb0
    go_enter Try.func12, Try.ntmps12
    go_wp2_with fail
    go_loopw [5] (fun i wr => ∃ j : Nat, j ≤ flen k ∧ i = .int .i64 j ∧ Below (w.heap.size + 2) ((w.alloc (.cells #[.int .i64 s, .int .i64 v, .slice a (flen k) c] 25)).alloc (.cells #[.int .i64 s, .int .i64 v, .slice a' (flen k) c'] 25)) wr) (fun i _ => flen k - (intOf i).toNat)
    case atStart => exact ⟨0, by omega, rfl, Below.refl _ _⟩
    case round =>
      obtain ⟨j, hj, rfl, hbl⟩ := hrel
      have hsr := hbl.size
      simp at hsr
      obtain ⟨hx2, hy2⟩ := two_boxes hbl
      have hbw := HB0.out.trans (hbl.mono (show w.heap.size ≤ w.heap.size + 2 by omega))
      by_cases hlt : j < flen k
      · rcases hl with rfl | ⟨b, o, rfl, hrow⟩
        · simp [flen] at hlt
        rcases hl' with rfl | ⟨b', o', rfl, hrow'⟩
        · simp [flen] at hlt
        obtain ⟨s1, v1, kk, a1, c1, ⟨x, y, hd⟩, _, hbB, hk0, hk1, hk2, hsl⟩ := row_at (hrow.below hbw) hlt
        obtain ⟨s2, v2, kk2, a2, c2, ⟨x2, y2, hd2⟩, _, hbB', hk3, hk4, hk5, hsl2⟩ := row_at (hrow'.below hbw) hlt
        have hdd := hd.symm.trans hd2
        simp only [BT.node.injEq, Prod.mk.injEq] at hdd
        obtain ⟨_, _, ⟨rfl, rfl⟩, rfl, _⟩ := hdd
        have hkN := fsz_kid hd
        have HS := Lib.hid hsl
        have HS2 := Lib.hid hsl2
        have HBL := Lib.hid hbl
        clear hd hd2 hsl hsl2 hrow hrow' hbl hbw
        have g1 : (0 : Int) ≤ (j : Int) := by omega
        have g2 : (j : Int) < (flen k : Int) := by omega
        have hu0 : ∀ u : After wr.heap.size wr, u.world.cell? ⟨b, o + j * 3, none⟩ = some (.int .i64 s1) := fun u => u.cell (by simp; omega) hk0
        have hu1 : ∀ u : After wr.heap.size wr, u.world.cell? ⟨b, o + j * 3 + 1, none⟩ = some (.int .i64 v1) := fun u => u.cell (by simp; omega) hk1
        have hu2 : ∀ u : After wr.heap.size wr, u.world.cell? ⟨b, o + j * 3 + 2, none⟩ = some (.slice a1 (flen kk) c1) := fun u => u.cell (by simp; omega) hk2
        have hu3 : ∀ u : After wr.heap.size wr, u.world.cell? ⟨b', o' + j * 3, none⟩ = some (.int .i64 s1) := fun u => u.cell (by simp; omega) hk3
        have hu4 : ∀ u : After wr.heap.size wr, u.world.cell? ⟨b', o' + j * 3 + 1, none⟩ = some (.int .i64 v1) := fun u => u.cell (by simp; omega) hk4
        have hu5 : ∀ u : After wr.heap.size wr, u.world.cell? ⟨b', o' + j * 3 + 2, none⟩ = some (.slice a2 (flen kk) c2) := fun u => u.cell (by simp; omega) hk5
        have hu6 : ∀ u : After wr.heap.size wr, u.world.cell? ⟨w.heap.size, 2, none⟩ = some (.slice (some ⟨b, o, none⟩) (flen k) c) := fun u => u.cell (by simp; omega) hx2
        have hu7 : ∀ u : After wr.heap.size wr, u.world.cell? ⟨w.heap.size + 1, 2, none⟩ = some (.slice (some ⟨b', o', none⟩) (flen k) c') := fun u => u.cell (by simp; omega) hy2
        have HCALL : Hid (∀ u : After wr.heap.size wr, Calls Try.prog 12 #[.agg #[.int .i64 s1, .int .i64 v1, .slice a1 (flen kk) c1], .agg #[.int .i64 s1, .int .i64 v1, .slice a2 (flen kk) c2]] u.world fun e w' => e = .returned (.bool true) ∧ Below u.world.heap.size u.world w') := fun u => by
          have hu := u.below
          have hus := hu.size
          refine IH.out (fsz kk) (by omega) s1 v1 a1 a2 c1 c2 kk u.world ?_ ?_ (Nat.le_refl _) (by omega)
          · exact (HS.out.below (hu.mono (by omega))).mono (Nat.le_refl _) (by omega)
          · exact (HS2.out.below (hu.mono (by omega))).mono (Nat.le_refl _) (by omega)
        go_wp2_with fail
        refine wp_region_after wr.heap.size (by kernel_rfl) (by kernel_rfl) ?_
        repeat (go_big_quiet_step ((go_at_call 12; exact Calls.after (After.below ‹_›).size (HCALL.out _))))
        refine wpQuiet_nil ?_
        rintro u ⟨⟨_, hu⟩, rfl⟩
        clear hu0 hu1 hu2 hu3 hu4 hu5 hu6 hu7 hk0 hk1 hk2 hk3 hk4 hk5 hx2 hy2
        have HB2 := Lib.hid (HBL.out.trans (hu.mono hsr))
        clear hu
        go_wp2_with fail
        go_roundw
        case rel => exact ⟨j + 1, by omega, by go_num, HB2.out⟩
        case measure => simp [intOf]; omega
      · have HBW := Lib.hid hbw
        clear hbw hbl
        go_wp2_with fail
        go_ret
        exact ⟨rfl, HBW.out⟩
end Go.Proofs.Ytkmfnhoeigoajab

/-! B4: l71Place, DrawTermAt. -/
namespace Go.Proofs.Ytkmfnhoeigoajab
open Go.RowKit Go.Deep

def PlcPost (br p : Nat) (w : World) (e : Ending) (w' : World) : Prop :=
  ∃ A C place p', e = .returned (.slice A (List.length place) C) ∧ p ≤ p' ∧ p' ≤ p + 100 ∧ place.length ≤ 2000 ∧ Adv w br p' w' ∧ ISc w' w.heap.size w'.heap.size A C place

theorem plc_end {w w6 w7 : World} {o : Obj} {br p p' p'' C : Nat} {x y : Int} (ha : Adv (w.alloc o) br p' w6) (hb : Adv (w6.alloc (.cells #[.int .i64 x, .int .i64 y] 3)) br p'' w7) (hlt : br < w.heap.size) (h1 : p ≤ p'') (h2 : p'' ≤ p + 100) (hlt6 : br < w6.heap.size) (hs : 2 ≤ C) :
    PlcPost br p w (.returned (.slice (some ⟨w6.heap.size, 0, none⟩) 1 C)) w7 ∧ PlcPost br p w (.returned (.slice (some ⟨w6.heap.size, 0, none⟩) 2 C)) w7 := by
  have hsz := ha.size
  simp at hsz
  have hs7 := hb.size
  simp at hs7
  have hA : Adv w br p'' w7 := ((ha.alloc (.cells #[.int .i64 x, .int .i64 y] 3)).trans hb).off hlt
  have c0 : w7.cell? ⟨w6.heap.size, 0, none⟩ = some (.int .i64 x) := hb.cell (by simp) (by simp; omega)
  have c1 : w7.cell? ⟨w6.heap.size, 1, none⟩ = some (.int .i64 y) := hb.cell (by simp) (by simp; omega)
  refine ⟨⟨_, C, [x], p'', rfl, h1, h2, by simp, hA, .inr ⟨_, 0, rfl, by omega, by omega, fun i u hu => ?_⟩, by simp; omega⟩, ⟨_, C, [x, y], p'', rfl, h1, h2, by simp, hA, .inr ⟨_, 0, rfl, by omega, by omega, fun i u hu => ?_⟩, by simpa using hs⟩⟩
  · match i with
    | 0 => simp at hu; subst hu; exact c0
    | n + 1 => simp at hu
  · match i with
    | 0 => simp at hu; subst hu; exact c0
    | 1 => simp at hu; subst hu; exact c1
    | n + 2 => simp at hu

set_option maxRecDepth 100000 in
set_option maxHeartbeats 1000000 in
theorem l71Place_any (br p : Nat) (s v : Int) (a : Option Addr) (c : Nat) (k : Fo) (w : World) (hr : Rd w br p) (hp : p ≤ 10000000) (hl : Sl w (br + 1) w.heap.size a k) :
    Calls Try.prog 36 #[.pointer (some ⟨br, 0, none⟩), .agg #[.int .i64 s, .int .i64 v, .slice a (flen k) c]] w (PlcPost br p w) := by
  have hlt := hr.lt
  have hr' := hr.alloc (.cells #[.int .i64 s, .int .i64 v, .slice a (flen k) c] 25)
  have hl' := hl.low ((Below.refl _ _).alloc (Nat.le_refl _) (.cells #[.int .i64 s, .int .i64 v, .slice a (flen k) c] 25))
  have HL0 := Lib.hid hl'
  have HA0 := Lib.hid (Adv.start hr' (Below.refl _ _))
  have HR0 := Lib.hid hr'
  clear hr hr' hl hl'
  go_enter Try.func36, Try.ntmps36
  go_wp2_with fail
  with_reducible refine (sTermOk_any s v a c k _ (HL0.out.mono (Nat.zero_le _) (Nat.le_refl _))).mono ?_
  rintro e w2 ⟨rfl, hb2⟩
  have HA2 := Lib.hid (HA0.out.more hb2)
  have HR2 := Lib.hid (HA2.out.rd HR0.out)
  have HL2 := Lib.hid (HL0.out.low hb2)
  have hs2 := hb2.size
  simp at hs2
  clear hb2
  cases hok : okW s v k 16 with
  | false =>
    clear hok
    go_wp2_with fail
    with_reducible refine (pick_any 4 br (p) _ HR2.out (by omega) (by omega) (by omega)).mono ?_
    rintro e w5 ⟨x4, rfl, hx4, hb5⟩
    have HR5 := Lib.hid (Adv.rd hb5 HR2.out)
    have HA5 := Lib.hid (HA2.out.trans hb5)
    clear hb5
    go_wp2_with fail
    with_reducible refine (pick_any 3 br (p + 1) _ HR5.out (by omega) (by omega) (by omega)).mono ?_
    rintro e w6 ⟨x3, rfl, hx3, hb6⟩
    have HR6 := Lib.hid (Adv.rd hb6 HR5.out)
    have HA6 := Lib.hid (HA5.out.trans hb6)
    have hlt6 : br < w6.heap.size := HR6.out.lt
    have hs6 := HA6.out.size
    simp at hs6
    clear hb6
    go_wp2_with fail
    with_reducible refine (pick_any 2 br (p + 1 + 1) _ (HR6.out.alloc _) (by omega) (by omega) (by omega)).mono ?_
    rintro e w7 ⟨x2, rfl, hx2, hb7⟩
    have hb7' : Adv (w6.alloc (.cells #[.int .i64 ((x4 : Int) - 1), .int .i64 (x3 : Int)] 3)) br (p + 1 + 1 + 1) w7 := hb7
    have HP := Lib.hid (plc_end (p := p) (C := 2) HA6.out hb7' hlt (by omega) (by omega) hlt6 (by simp))
    clear hb7 hb7'
    have hx2' : x2 < 2 := by omega
    rcases (show x2 = 0 ∨ x2 = 1 by omega) with rfl | rfl
    · go_wp2_with fail
      go_ret
      exact HP.out.1
    · go_wp2_with fail
      go_ret
      exact HP.out.2
  | true =>
    have hsz := ((okW_iff _ _ _ _).1 hok).2.2
    clear hok
    go_wp2_with fail
    with_reducible refine (pick_any 10 br p _ HR2.out (by omega) (by omega) (by omega)).mono ?_
    rintro e w3 ⟨y, rfl, hy, hb3⟩
    have HR3 := Lib.hid (Adv.rd hb3 HR2.out)
    have ha3 : Adv w2 br (p + 1) w3 := hb3
    have HA3 := Lib.hid (HA2.out.trans hb3)
    have HL3 := Lib.hid (HL2.out.adv ha3 (Nat.lt_succ_self _))
    have hs3 := ha3.size
    clear hb3 ha3 hy
    by_cases hy0 : y = 0
    · subst hy0
      go_wp2_with fail
      with_reducible refine (pick_any 4 br (p + 1) _ HR3.out (by omega) (by omega) (by omega)).mono ?_
      rintro e w5 ⟨x4, rfl, hx4, hb5⟩
      have HR5 := Lib.hid (Adv.rd hb5 HR3.out)
      have HA5 := Lib.hid (HA3.out.trans hb5)
      clear hb5
      go_wp2_with fail
      with_reducible refine (pick_any 3 br (p + 1 + 1) _ HR5.out (by omega) (by omega) (by omega)).mono ?_
      rintro e w6 ⟨x3, rfl, hx3, hb6⟩
      have HR6 := Lib.hid (Adv.rd hb6 HR5.out)
      have HA6 := Lib.hid (HA5.out.trans hb6)
      have hlt6 : br < w6.heap.size := HR6.out.lt
      have hs6 := HA6.out.size
      simp at hs6
      clear hb6
      go_wp2_with fail
      with_reducible refine (pick_any 2 br (p + 1 + 1 + 1) _ (HR6.out.alloc _) (by omega) (by omega) (by omega)).mono ?_
      rintro e w7 ⟨x2, rfl, hx2, hb7⟩
      have hb7' : Adv (w6.alloc (.cells #[.int .i64 ((x4 : Int) - 1), .int .i64 (x3 : Int)] 3)) br (p + 1 + 1 + 1 + 1) w7 := hb7
      have HP := Lib.hid (plc_end (p := p) (C := 2) HA6.out hb7' hlt (by omega) (by omega) hlt6 (by simp))
      clear hb7 hb7'
      have hx2' : x2 < 2 := by omega
      rcases (show x2 = 0 ∨ x2 = 1 by omega) with rfl | rfl
      · go_wp2_with fail
        go_ret
        exact HP.out.1
      · go_wp2_with fail
        go_ret
        exact HP.out.2
    · have y0 : ((y : Int) == 0) = false := by simpa using hy0
      obtain ⟨hr0, hr1, hr2, hf0, hf1, hf2⟩ := res_cells HA3.out hlt
      go_wp2_with fail
      with_reducible refine (l1Places_any (fsz k) s v a c k none 0 0 [] _ (HL3.out.mono (Nat.zero_le _) (Nat.le_refl _)) isl_nil rfl (Nat.le_refl _) (by omega) (by simp; omega)).mono ?_
      rintro e w4 ⟨A4, C4, rfl, hb4, hr4⟩
      have hr4' : RSl w4 w3.heap.size w4.heap.size A4 (places k) := by simpa using hr4
      have HA4 := Lib.hid (HA3.out.more hb4)
      have HR4 := Lib.hid (Rd.next HR3.out (bl_self hb4 HR3.out.place))
      have hs4 := hb4.size
      have hlt3 : br < w3.heap.size := HR3.out.lt
      have HRS := Lib.hid hr4'
      clear hb4 hr4 hr4' hr0 hr1 hr2 hf0 hf1 hf2
      go_wp2_with fail
      with_reducible refine (pick_any (1 + fsz k) br (p + 1) _ HR4.out (by omega) (by omega) (by omega)).mono ?_
      rintro e w5 ⟨z, rfl, hz, hb5⟩
      have ha5 : Adv w4 br (p + 1 + 1) w5 := hb5
      have hs5 := ha5.size
      have hz2 : z < (places k).length := by rw [places_len]; omega
      have hrs5 : RSl w5 w3.heap.size w5.heap.size A4 (places k) := (HRS.out.same (ha5.same (Nat.le_refl _) (.inl hlt3))).mono (Nat.le_refl _) hs5
      obtain ⟨b, o, a6, c6, r, rfl, _, hbB, hrz, hk0, hi6⟩ := rsl_at2 hrs5 hz2
      have hdp := places_deep (List.mem_of_getElem? hrz)
      have HP : Hid (PlcPost br p w (.returned (.slice a6 r.length c6)) w5) := ⟨a6, c6, r, p + 1 + 1, rfl, by omega, by omega, by omega, (HA4.out.trans hb5).off hlt, hi6.mono (by omega) (Nat.le_refl _)⟩
      have g1 : (0 : Int) ≤ (z : Int) := by omega
      have g2 : (z : Int) < 1 + (fsz k : Int) := by omega
      clear hb5 ha5 hrs5 hrz hi6
      go_wp2_with fail
      go_ret
      exact HP.out
end Go.Proofs.Ytkmfnhoeigoajab

/-! B5: - DrawTermAt. -/
namespace Go.Proofs.Ytkmfnhoeigoajab
open Go.RowKit Go.Deep
attribute [local go_sem ↓] Go.wp_at_zero Go.wp_at_succ

theorem keep_set {w3 : World} {b n : Nat} {x y z x' y' z' : Value} (h0 : w3.cell? ⟨b, 0, none⟩ = some x) (h1 : w3.cell? ⟨b, 1, none⟩ = some y) (h2 : w3.cell? ⟨b, 2, none⟩ = some z) (hne : n < b) :
    (((w3.setCell ⟨n, 0, none⟩ x').setCell ⟨n, 1, none⟩ y').setCell ⟨n, 2, none⟩ z').cell? ⟨b, 0, none⟩ = some x ∧ (((w3.setCell ⟨n, 0, none⟩ x').setCell ⟨n, 1, none⟩ y').setCell ⟨n, 2, none⟩ z').cell? ⟨b, 1, none⟩ = some y ∧ (((w3.setCell ⟨n, 0, none⟩ x').setCell ⟨n, 1, none⟩ y').setCell ⟨n, 2, none⟩ z').cell? ⟨b, 2, none⟩ = some z := by
  have hc : ∀ {q : Addr} {u : Value}, w3.cell? q = some u → q.block ≠ n → (((w3.setCell ⟨n, 0, none⟩ x').setCell ⟨n, 1, none⟩ y').setCell ⟨n, 2, none⟩ z').cell? q = some u := fun {q u} hq hne => by
    rw [World.cell?_setCell_other _ _ _ _ (by intro e; exact hne (congrArg Addr.block e).symm), World.cell?_setCell_other _ _ _ _ (by intro e; exact hne (congrArg Addr.block e).symm), World.cell?_setCell_other _ _ _ _ (by intro e; exact hne (congrArg Addr.block e).symm)]
    exact hq
  exact ⟨hc h0 (by simp; omega), hc h1 (by simp; omega), hc h2 (by simp; omega)⟩

def TaPost (w : World) (e : Ending) (w' : World) : Prop :=
  ∃ s v a c k A C place, e = .returned (.tuple #[.agg #[.int .i64 s, .int .i64 v, .slice a (flen k) c], .slice A (List.length place) C]) ∧ 1 + fsz k ≤ 31000 ∧ place.length ≤ 2000 ∧ Below w.heap.size w w' ∧ Sl w' w.heap.size w'.heap.size a k ∧ ISc w' w.heap.size w'.heap.size A C place

theorem ta_end {w w1 : World} {o : Obj} {s v : Int} {a A : Option Addr} {c C : Nat} {k : Fo} {place : List Int} (hb : Below (w.heap.size + 1) (w.alloc o) w1) (hS : 1 + fsz k ≤ 31000) (hpl : place.length ≤ 2000) (hl : Sl w1 (w.heap.size + 1) w1.heap.size a k) (hi : ISc w1 (w.heap.size + 1) w1.heap.size A C place) (x y z : Value) :
    TaPost w (.returned (.tuple #[.agg #[.int .i64 s, .int .i64 v, .slice a (flen k) c], .slice A place.length C])) (((w1.setCell ⟨w.heap.size, 0, none⟩ x).setCell ⟨w.heap.size, 1, none⟩ y).setCell ⟨w.heap.size, 2, none⟩ z) := by
  have hs : Same (w.heap.size + 1) w1.heap.size w1 (((w1.setCell ⟨w.heap.size, 0, none⟩ x).setCell ⟨w.heap.size, 1, none⟩ y).setCell ⟨w.heap.size, 2, none⟩ z) :=
    (((Same.setCell (fun _ _ _ => rfl) (.inl (by simp)) _).setCell (.inl (by simp)) _).setCell (.inl (by simp)) _)
  have hb' : Below w.heap.size w w1 := ((Below.refl _ _).alloc (Nat.le_refl _) o).trans (hb.mono (by omega))
  exact ⟨s, v, a, c, k, A, C, place, rfl, hS, hpl, ((hb'.setCell (Nat.le_refl _) _).setCell (Nat.le_refl _) _).setCell (Nat.le_refl _) _, (hl.same hs).mono (by omega) (by simp), (hi.same hs).mono (by omega) (by simp)⟩

end Go.Proofs.Ytkmfnhoeigoajab

/-! B6: A place cut in two; the size of TermAt's answer. -/
namespace Go.Proofs.Ytkmfnhoeigoajab
open Go.RowKit Go.Deep

theorem fat_append : ∀ (p q : List Int) (s v : Int) (k : Fo), fat s v k (p ++ q) = (fat s v k p).bind fun x => fat x.1 x.2.1 x.2.2 q
  | [], _, _, _, _ => rfl
  | i :: ps, q, s, v, k => by
    simp only [List.cons_append, fat]
    split
    · split
      · exact fat_append ps q _ _ _
      · rfl
    · rfl

theorem atR_sz {s v : Int} {k : Fo} {place : List Int} {s' v' : Int} {k' : Fo} {t : Bool} (h : atR s v k place = (s', v', k', t)) : fsz k' ≤ 15 := by
  unfold atR at h
  split at h
  · rename_i hok
    have hok' := (okW_iff _ _ _ _).1 hok
    split at h
    · rename_i s2 v2 k2 hf
      simp only [Prod.mk.injEq] at h
      obtain ⟨_, _, rfl, _⟩ := h
      have := (fat_ok place s v k hok'.1 hok'.2.1 hf).2.2
      have := hok'.2.2
      omega
    · simp only [Prod.mk.injEq] at h
      obtain ⟨_, _, rfl, _⟩ := h
      simp [fsz]
  · simp only [Prod.mk.injEq] at h
    obtain ⟨_, _, rfl, _⟩ := h
    simp [fsz]
theorem atR_true {s v : Int} {k : Fo} {place : List Int} {s' v' : Int} {k' : Fo} (h : atR s v k place = (s', v', k', true)) : okW s v k 16 = true ∧ fat s v k place = some (s', v', k') := by
  unfold atR at h
  split at h
  · rename_i hok
    refine ⟨hok, ?_⟩
    split at h
    · rename_i s2 v2 k2 hf
      simp only [Prod.mk.injEq] at h
      obtain ⟨rfl, rfl, rfl, _⟩ := h
      exact hf
    · simp at h
  · simp at h
/-- A place cut in two. -/
theorem atR_cut {s v : Int} {k : Fo} {place : List Int} {s' v' : Int} {k' : Fo} (n : Nat) (h : atR s v k place = (s', v', k', true)) : ∃ s1 v1 k1, atR s v k (place.take n) = (s1, v1, k1, true) ∧ atR s1 v1 k1 (place.drop n) = (s', v', k', true) := by
  obtain ⟨hok, hf⟩ := atR_true h
  rw [← List.take_append_drop n place, fat_append] at hf
  obtain ⟨⟨s1, v1, k1⟩, h1, h2⟩ := Option.bind_eq_some_iff.1 hf
  have hok' := (okW_iff _ _ _ _).1 hok
  have hfo := fat_ok _ s v k hok'.1 hok'.2.1 h1
  have hok1 : okW s1 v1 k1 16 = true := (okW_iff _ _ _ _).2 ⟨hfo.1, hfo.2.1, by have := hok'.2.2; have := hfo.2.2; omega⟩
  refine ⟨s1, v1, k1, ?_, ?_⟩
  · unfold atR; rw [hok, h1]; rfl
  · unfold atR; rw [hok1]; simp only [if_true]; dsimp only at h2; rw [h2]
end Go.Proofs.Ytkmfnhoeigoajab

/-! D3: DrawTermPut. -/
namespace Go.Proofs.Ytkmfnhoeigoajab
open Go.RowKit Go.Deep
attribute [local go_sem ↓] Go.wp_at_zero Go.wp_at_succ

/-- The cells of two boxes. -/
theorem tb_cells {w w' : World} {x y z x' y' z' : Value} {T T' : TypeId} (h : Below (w.heap.size + 2) ((w.alloc (.cells #[x, y, z] T)).alloc (.cells #[x', y', z'] T')) w') :
    w'.cell? ⟨w.heap.size, 0, none⟩ = some x ∧ w'.cell? ⟨w.heap.size, 1, none⟩ = some y ∧ w'.cell? ⟨w.heap.size, 2, none⟩ = some z ∧
      w'.cell? ⟨w.heap.size + 1, 0, none⟩ = some x' ∧ w'.cell? ⟨w.heap.size + 1, 1, none⟩ = some y' ∧ w'.cell? ⟨w.heap.size + 1, 2, none⟩ = some z' := by
  refine ⟨?_, ?_, ?_, ?_, ?_, ?_⟩
  · rw [h.cell (by simp), World.cell?_alloc_lt _ _ _ (by simp), World.cell?_alloc_at _ _ _ _ (by simp)]; rfl
  · rw [h.cell (by simp), World.cell?_alloc_lt _ _ _ (by simp), World.cell?_alloc_at _ _ _ _ (by simp)]; rfl
  · rw [h.cell (by simp), World.cell?_alloc_lt _ _ _ (by simp), World.cell?_alloc_at _ _ _ _ (by simp)]; rfl
  · rw [h.cell (by simp), World.cell?_alloc_at _ _ _ _ (by simp)]; rfl
  · rw [h.cell (by simp), World.cell?_alloc_at _ _ _ _ (by simp)]; rfl
  · rw [h.cell (by simp), World.cell?_alloc_at _ _ _ _ (by simp)]; rfl
theorem tb_free {w w' : World} {o o' : Obj} (h : Below (w.heap.size + 2) ((w.alloc o).alloc o') w') (j : Nat) {c c' : Array Value} {T T' : TypeId} (ho : o = .cells c T) (ho' : o' = .cells c' T') :
    w'.frozen? ⟨w.heap.size, j, none⟩ = false ∧ w'.frozen? ⟨w.heap.size + 1, j, none⟩ = false := by
  subst ho
  subst ho'
  constructor
  · rw [h.frozen (by simp), World.frozen?_alloc_past _ _ _ (by simp), World.frozen?_alloc_at _ _ _ _ (by simp)]
  · rw [h.frozen (by simp), World.frozen?_alloc_at _ _ _ _ (by simp)]

/-- A world in which a box holds three values. -/
structure Box3 (b : Nat) (x y z : Value) where
  world : World
  cells : world.cell? ⟨b, 0, none⟩ = some x ∧ world.cell? ⟨b, 1, none⟩ = some y ∧ world.cell? ⟨b, 2, none⟩ = some z

def TputPost (w : World) (e : Ending) (w' : World) : Prop :=
  ∃ s v a c k A C place s2 v2 a2 c2 k2, e = .returned (.tuple #[.agg #[.int .i64 s, .int .i64 v, .slice a (flen k) c], .slice A (List.length place) C, .agg #[.int .i64 s2, .int .i64 v2, .slice a2 (flen k2) c2]]) ∧ 1 + fsz k ≤ 31000 ∧ place.length ≤ 2000 ∧ 1 + fsz k2 ≤ 31000 ∧ Below w.heap.size w w' ∧ Sl w' w.heap.size w'.heap.size a k ∧ ISc w' w.heap.size w'.heap.size A C place ∧ Sl w' w.heap.size w'.heap.size a2 k2

theorem keep_set6 {w3 : World} {b n m : Nat} {x y z x' y' z' x2 y2 z2 : Value} (h0 : w3.cell? ⟨b, 0, none⟩ = some x) (h1 : w3.cell? ⟨b, 1, none⟩ = some y) (h2 : w3.cell? ⟨b, 2, none⟩ = some z) (hne : n < b) (hme : m < b) :
    ((((((w3.setCell ⟨n, 0, none⟩ x').setCell ⟨n, 1, none⟩ y').setCell ⟨n, 2, none⟩ z').setCell ⟨m, 0, none⟩ x2).setCell ⟨m, 1, none⟩ y2).setCell ⟨m, 2, none⟩ z2).cell? ⟨b, 0, none⟩ = some x ∧ ((((((w3.setCell ⟨n, 0, none⟩ x').setCell ⟨n, 1, none⟩ y').setCell ⟨n, 2, none⟩ z').setCell ⟨m, 0, none⟩ x2).setCell ⟨m, 1, none⟩ y2).setCell ⟨m, 2, none⟩ z2).cell? ⟨b, 1, none⟩ = some y ∧
      ((((((w3.setCell ⟨n, 0, none⟩ x').setCell ⟨n, 1, none⟩ y').setCell ⟨n, 2, none⟩ z').setCell ⟨m, 0, none⟩ x2).setCell ⟨m, 1, none⟩ y2).setCell ⟨m, 2, none⟩ z2).cell? ⟨b, 2, none⟩ = some z := by
  obtain ⟨g0, g1, g2⟩ := keep_set (x' := x') (y' := y') (z' := z') h0 h1 h2 hne
  exact keep_set g0 g1 g2 hme
theorem tput_end {w w1 : World} {o o' : Obj} {s v s2 v2 : Int} {a A a2 : Option Addr} {c C c2 : Nat} {k k2 : Fo} {place : List Int} (hb : Below (w.heap.size + 2) ((w.alloc o).alloc o') w1) (hS : 1 + fsz k ≤ 31000) (hpl : place.length ≤ 2000) (hS2 : 1 + fsz k2 ≤ 31000) (hl : Sl w1 (w.heap.size + 2) w1.heap.size a k) (hi : ISc w1 (w.heap.size + 2) w1.heap.size A C place) (hl2 : Sl w1 (w.heap.size + 2) w1.heap.size a2 k2) (p q r p' q' r' : Value) :
    TputPost w (.returned (.tuple #[.agg #[.int .i64 s, .int .i64 v, .slice a (flen k) c], .slice A place.length C, .agg #[.int .i64 s2, .int .i64 v2, .slice a2 (flen k2) c2]])) ((((((w1.setCell ⟨w.heap.size, 0, none⟩ p).setCell ⟨w.heap.size, 1, none⟩ q).setCell ⟨w.heap.size, 2, none⟩ r).setCell ⟨w.heap.size + 1, 0, none⟩ p').setCell ⟨w.heap.size + 1, 1, none⟩ q').setCell ⟨w.heap.size + 1, 2, none⟩ r') := by
  have hs : Same (w.heap.size + 2) w1.heap.size w1 ((((((w1.setCell ⟨w.heap.size, 0, none⟩ p).setCell ⟨w.heap.size, 1, none⟩ q).setCell ⟨w.heap.size, 2, none⟩ r).setCell ⟨w.heap.size + 1, 0, none⟩ p').setCell ⟨w.heap.size + 1, 1, none⟩ q').setCell ⟨w.heap.size + 1, 2, none⟩ r') :=
    ((((((Same.setCell (fun _ _ _ => rfl) (.inl (by simp)) _).setCell (.inl (by simp)) _).setCell (.inl (by simp)) _).setCell (.inl (by simp)) _).setCell (.inl (by simp)) _).setCell (.inl (by simp)) _)
  have hb' : Below w.heap.size w w1 := (((Below.refl _ _).alloc (Nat.le_refl _) o).alloc (by simp) o').trans (hb.mono (by omega))
  exact ⟨s, v, a, c, k, A, C, place, s2, v2, a2, c2, k2, rfl, hS, hpl, hS2, (((((hb'.setCell (Nat.le_refl _) _).setCell (Nat.le_refl _) _).setCell (Nat.le_refl _) _).setCell (by simp) _).setCell (by simp) _).setCell (by simp) _, (hl.same hs).mono (by omega) (by simp), (hi.same hs).mono (by omega) (by simp), (hl2.same hs).mono (by omega) (by simp)⟩

set_option maxRecDepth 100000 in
set_option maxHeartbeats 1000000 in
theorem DrawTermPut_any (a : Option Addr) (len cap : Nat) (w : World) (hby : Bytes w a len) (hlen : len ≤ cap) :
    Calls Try.prog 9 #[.slice a len cap] w (TputPost w) := by
  have HBY := Lib.hid hby
  clear hby
  go_enter Try.func9, Try.ntmps9
  go_wp2_with fail
  with_reducible refine (l6Open_any a len cap _ ((HBY.out.alloc _).alloc _) hlen).mono ?_
  rintro e w1 ⟨rfl, hb1, hrd⟩
  have hs1 := hb1.size
  simp at hs1
  simp only [World.size_alloc] at hrd
  have hlt1 := hrd.lt
  have HRD := Lib.hid hrd
  have HB1 : Hid (Below (w.heap.size + 2) ((w.alloc (.cells #[.int .i64 0, .int .i64 0, .slice none 0 0] 25)).alloc (.cells #[.int .i64 0, .int .i64 0, .slice none 0 0] 25)) w1) := hb1.mono (by simp)
  clear hb1 hrd
  simp only [World.size_alloc]
  go_wp2_with fail
  with_reducible refine (l71Some_any (w.heap.size + 1 + 1) 0 _ HRD.out (by omega)).mono ?_
  rintro e w2 ⟨s, v, a2, c2, k, p2, rfl, _, hp2, hS2, ha2, hl2⟩
  have hs2 := ha2.size
  have HB2 := Lib.hid (adv_low HB1.out (by omega) (by omega) ha2)
  have HR2 := Lib.hid ((ha2.rd HRD.out).alloc (.cells #[.int .i64 s, .int .i64 v, .slice a2 (flen k) c2] 25))
  have hl2' : Sl w2 (w.heap.size + 1 + 1 + 1) w2.heap.size a2 k := hl2.mono (by omega) (Nat.le_refl _)
  have HL2 := Lib.hid (hl2'.low ((Below.refl _ _).alloc (Nat.le_refl _) (.cells #[.int .i64 s, .int .i64 v, .slice a2 (flen k) c2] 25)))
  clear ha2 hl2 hl2'
  obtain ⟨hc0, hc1, hc2⟩ := box_cells (w := w2) (x := .int .i64 s) (y := .int .i64 v) (z := .slice a2 (flen k) c2) (T := 25) ⟨_, Below.refl _ _⟩
  dsimp only at hc0 hc1 hc2
  have HRX : Hid (Rd (w2.alloc (.cells #[.int .i64 s, .int .i64 v, .slice a2 (flen k) c2] 25)).drew (w.heap.size + 1 + 1) p2) := Rd.next HR2.out (bl_self (Below.refl _ _).drew HR2.out.place)
  have HLX : Hid (Sl (w2.alloc (.cells #[.int .i64 s, .int .i64 v, .slice a2 (flen k) c2] 25)).drew ((w.heap.size + 1 + 1) + 1) (w2.alloc (.cells #[.int .i64 s, .int .i64 v, .slice a2 (flen k) c2] 25)).drew.heap.size a2 k) := HL2.out.below (Below.refl _ _).drew
  have HP2 : Hid (p2 ≤ 10000000) := by unfold Hid; omega
  have HW : Hid (∀ w3 p3, Adv (w2.alloc (.cells #[.int .i64 s, .int .i64 v, .slice a2 (flen k) c2] 25)).drew (w.heap.size + 1 + 1) p3 w3 → Adv (w2.alloc (.cells #[.int .i64 s, .int .i64 v, .slice a2 (flen k) c2] 25)) (w.heap.size + 1 + 1) p3 w3) := fun w3 p3 h => (Adv.start HR2.out (Below.refl _ _).drew).trans h
  have HW2 : Hid (∀ w3 p3, Adv (w2.alloc (.cells #[.int .i64 s, .int .i64 v, .slice a2 (flen k) c2] 25)) (w.heap.size + 1 + 1) p3 w3 → Below (w.heap.size + 2) ((w.alloc (.cells #[.int .i64 0, .int .i64 0, .slice none 0 0] 25)).alloc (.cells #[.int .i64 0, .int .i64 0, .slice none 0 0] 25)) w3 ∧ Sl w3 (w.heap.size + 2) w3.heap.size a2 k ∧ w3.cell? ⟨w2.heap.size, 0, none⟩ = some (.int .i64 s) ∧ w3.cell? ⟨w2.heap.size, 1, none⟩ = some (.int .i64 v) ∧ w3.cell? ⟨w2.heap.size, 2, none⟩ = some (.slice a2 (flen k) c2)) := fun w3 p3 h =>
    ⟨adv_low (HB2.out.alloc (by omega) (.cells #[.int .i64 s, .int .i64 v, .slice a2 (flen k) c2] 25)) (by omega) (by simp; omega) h, (HL2.out.adv h (Nat.lt_succ_self _)).mono (by omega) (Nat.le_refl _), h.cell hc0 (by simp; omega), h.cell hc1 (by simp; omega), h.cell hc2 (by simp; omega)⟩
  have hs2' : w.heap.size + 1 + 1 + 1 ≤ w2.heap.size := by omega
  have hu0 : ∀ u : Box3 w2.heap.size (.int .i64 s) (.int .i64 v) (.slice a2 (flen k) c2), u.world.cell? ⟨w2.heap.size, 0, none⟩ = some (.int .i64 s) := fun u => u.cells.1
  have hu1 : ∀ u : Box3 w2.heap.size (.int .i64 s) (.int .i64 v) (.slice a2 (flen k) c2), u.world.cell? ⟨w2.heap.size, 1, none⟩ = some (.int .i64 v) := fun u => u.cells.2.1
  have hu2 : ∀ u : Box3 w2.heap.size (.int .i64 s) (.int .i64 v) (.slice a2 (flen k) c2), u.world.cell? ⟨w2.heap.size, 2, none⟩ = some (.slice a2 (flen k) c2) := fun u => u.cells.2.2
  have HC : Hid ((w2.alloc (.cells #[.int .i64 s, .int .i64 v, .slice a2 (flen k) c2] 25)).drew.cell? ⟨w2.heap.size, 0, none⟩ = some (.int .i64 s) ∧ (w2.alloc (.cells #[.int .i64 s, .int .i64 v, .slice a2 (flen k) c2] 25)).drew.cell? ⟨w2.heap.size, 1, none⟩ = some (.int .i64 v) ∧ (w2.alloc (.cells #[.int .i64 s, .int .i64 v, .slice a2 (flen k) c2] 25)).drew.cell? ⟨w2.heap.size, 2, none⟩ = some (.slice a2 (flen k) c2)) := ⟨cell_low (Below.refl _ _).drew hc0, cell_low (Below.refl _ _).drew hc1, cell_low (Below.refl _ _).drew hc2⟩
  have hne : Nonempty (Box3 w2.heap.size (.int .i64 s) (.int .i64 v) (.slice a2 (flen k) c2)) := ⟨⟨_, HC.out⟩⟩
  go_wp2_with fail
  clear hc0 hc1 hc2
  refine wp_region_mix (fun w' => ∃ u : Box3 w2.heap.size (.int .i64 s) (.int .i64 v) (.slice a2 (flen k) c2), w' = u.world) [] [(0, 0), (1, 0), (2, 0), (4, 0), (3, 1), (5, 1), (6, 1), (7, 1), (8, 1)] (by kernel_rfl) (by kernel_rfl) ⟨⟨_, HC.out⟩, rfl⟩ ?_
  iterate 4
    refine mix_see rfl (fun K hK => ?_)
    go_simp
    refine hK _ ?_
    clear hK K
  clear hu0 hu1 hu2 hne
  refine mix_hold rfl (fun K hK => ?_)
  go_simp
  with_reducible refine (l71Place_any (w.heap.size + 1 + 1) p2 s v a2 c2 k _ HRX.out HP2.out HLX.out).mono ?_
  rintro e w3 ⟨A3, C3, place, p3, rfl, _, hp3, hpl, ha3', hi3⟩
  have ha3 := HW.out _ _ ha3'
  have hs3 : w2.heap.size + 1 ≤ w3.heap.size := by have := ha3.size; simpa using this
  obtain ⟨_, _, hd0, hd1, hd2⟩ := HW2.out _ _ ha3
  have HI3 : Hid (ISc w3 (w.heap.size + 1 + 1 + 1) w3.heap.size A3 C3 place) := hi3.mono (by simp; omega) (Nat.le_refl _)
  have HR3 : Hid (Rd w3 (w.heap.size + 1 + 1) p3) := ha3'.rd HRX.out
  have HA3 := Lib.hid ha3
  have hp3' : p3 ≤ 10000000 := by omega
  refine hK _ _ ⟨⟨_, ⟨hd0, hd1, hd2⟩⟩, rfl⟩ ?_
  clear hK K ha3 ha3' hi3 hd0 hd1 hd2
  refine mix_hold rfl (fun K hK => ?_)
  go_simp
  with_reducible refine (l71Some_any (w.heap.size + 1 + 1) p3 w3 HR3.out hp3').mono ?_
  rintro e w4 ⟨s5, v5, a5, c5, k5, p5, rfl, _, hp5, hS5, ha5, hl5⟩
  have hs5 := ha5.size
  obtain ⟨hb4, hl4, he0, he1, he2⟩ := HW2.out _ _ (HA3.out.trans ha5)
  obtain ⟨hr0, hr1, hr2, hr3, hr4, hr5⟩ := tb_cells hb4
  obtain ⟨hf0, hf3⟩ := tb_free hb4 0 rfl rfl
  obtain ⟨hf1, hf4⟩ := tb_free hb4 1 rfl rfl
  obtain ⟨hf2, hf5⟩ := tb_free hb4 2 rfl rfl
  have HL4 := Lib.hid hl4
  have HB4 := Lib.hid hb4
  have HI4 : Hid (ISc w4 (w.heap.size + 2) w4.heap.size A3 C3 place) := (HI3.out.same (ha5.same (Nat.le_refl _) (.inl (by omega)))).mono (by omega) hs5
  have HL5 : Hid (Sl w4 (w.heap.size + 2) w4.heap.size a5 k5) := hl5.mono (by omega) (Nat.le_refl _)
  have HC4 : Hid (w4.cell? ⟨w2.heap.size, 0, none⟩ = some (.int .i64 s) ∧ w4.cell? ⟨w2.heap.size, 1, none⟩ = some (.int .i64 v) ∧ w4.cell? ⟨w2.heap.size, 2, none⟩ = some (.slice a2 (flen k) c2)) := ⟨he0, he1, he2⟩
  refine hK _ _ ⟨⟨_, HC4.out⟩, rfl⟩ ?_
  clear hK K hb4 hl4 hl5 ha5 he0 he1 he2
  refine mix_hold rfl (fun K hK => ?_)
  go_simp
  refine hK _ _ ⟨⟨_, keep_set HC4.out.1 HC4.out.2.1 HC4.out.2.2 (by omega)⟩, rfl⟩ ?_
  clear hK K
  refine mix_hold rfl (fun K hK => ?_)
  go_simp
  refine hK _ _ ⟨⟨_, keep_set HC4.out.1 HC4.out.2.1 HC4.out.2.2 (by omega)⟩, rfl⟩ ?_
  clear hK K
  refine mix_hold rfl (fun K hK => ?_)
  go_simp
  refine hK _ _ ⟨⟨_, keep_set6 HC4.out.1 HC4.out.2.1 HC4.out.2.2 (by omega) (by omega)⟩, rfl⟩ ?_
  clear hK K
  refine mix_end ?_
  go_wp2_with fail
  refine bodyPost_ret (v := .tuple #[.agg #[.int .i64 s, .int .i64 v, .slice a2 (flen k) c2], .slice A3 place.length C3, .agg #[.int .i64 s5, .int .i64 v5, .slice a5 (flen k5) c5]]) ?_ rfl (tput_end HB4.out hS2 hpl hS5 HL4.out HI4.out HL5.out _ _ _ _ _ _)
  simp [results, Try.results9, go_sem, hr0, hr1, hr2, hr3, hr4, hr5]
end Go.Proofs.Ytkmfnhoeigoajab
