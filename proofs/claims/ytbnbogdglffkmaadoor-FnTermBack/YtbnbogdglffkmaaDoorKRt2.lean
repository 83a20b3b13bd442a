/- Several texts in one: T1b, B3, LawTBack, DTR, WDi, Frame. -/
import Derived.Test.YtbnbogdglffkmaaDoorKRd10
import Derived.Test.YtbnbogdglffkmaaDoorKRd4
import Derived.Test.YtbnbogdglffkmaaDoorKRd1
import Derived.Test.YtbnbogdglffkmaaDoorKRt1
import Derived.Test.YtbnbogdglffkmaaDoorKRd16
import Derived.Test.YtbnbogdglffkmaaDoorKRd15
import Derived.Test.YtbnbogdglffkmaaDoorKRd3
import Derived.Test.YtbnbogdglffkmaaDoorKRd2
import Derived.WalkKit
import Derived.ProofKit
import Derived.OpenShut
import Derived.ShutString
import Derived.ChangeOld
import Derived.Below

/-! T1b: TermText of the program. -/
namespace Go.Proofs.YtbnbogdglffkmaaDoor
open Go.RowKit Go.Deep

set_option maxRecDepth 100000 in
set_option maxHeartbeats 1000000 in
theorem iTermText_any (s v : Int) (a : Option Addr) (c : Nat) (k : Fo) (w : World) (hl : Sl w 0 w.heap.size a k) :
    Calls Tryd.prog 8 #[.agg #[.int .i64 s, .int .i64 v, .slice a (flen k) c]] w fun e w' => e = .returned (.string (str (if okW s v k 16 = true then tx s v k else []))) ∧ Below w.heap.size w w' := by
  cases hok : okW s v k 16 with
  | false =>
    have HOK := Lib.hid hok
    clear hok
    go_enter Tryd.func8, Tryd.ntmps8
    go_wp2_with fail
    with_reducible refine (nodeOf_any s v a c k 16 _ ?_ (by omega) (by omega)).mono ?_
    · exact (hl.below ((Below.refl _ _).alloc (Nat.le_refl _) _)).mono (Nat.le_refl _) (by simp)
    rintro e w2 ⟨nv, he, hb, hyes⟩
    rw [HOK.out] at he
    subst he
    clear hyes
    go_wp2_with fail
    go_ret
    exact ⟨rfl, ((Below.refl _ _).alloc (Nat.le_refl _) _).trans (hb.mono (by simp))⟩
  | true =>
    have HOK := Lib.hid hok
    obtain ⟨hoN, hof, hsz⟩ := (okW_iff _ _ _ _).1 hok
    clear hok
    go_enter Tryd.func8, Tryd.ntmps8
    go_wp2_with fail
    with_reducible refine (nodeOf_any s v a c k 16 _ ?_ (by omega) (by omega)).mono ?_
    · exact (hl.below ((Below.refl _ _).alloc (Nat.le_refl _) _)).mono (Nat.le_refl _) (by simp)
    rintro e w2 ⟨nv, he, hb, hyes⟩
    rw [HOK.out] at he
    subst he
    have hn := hyes HOK.out
    have HB := Lib.hid (((Below.refl _ _).alloc (Nat.le_refl _) _).trans (hb.mono (by simp)))
    clear hyes hb
    rcases hn with ⟨rfl, rfl, rfl⟩ | ⟨hs', a2, c2, rfl, hn2⟩
    · have hv := ((okN_iff _ _ _).1 hoN).2.1 rfl
      go_wp2_with fail
      refine upon_method 126 (by kernel_rfl) (by kernel_rfl) ?_
      go_simp
      with_reducible refine (varText_any v hv.1 (by omega) _).mono ?_
      rintro e w3 ⟨rfl, rfl⟩
      go_wp2_with fail
      go_ret
      exact ⟨by simp [tx_var], HB.out⟩
    · have HN2 := Lib.hid hn2
      have hv0 : v = 0 := ((okN_iff _ _ _).1 hoN).2.2 hs'
      subst hv0
      have HHO := Lib.hid hoN
      have HHF := Lib.hid hof
      have HS := Lib.hid hs'
      clear hn2 hoN hof hs'
      go_wp2_with fail
      refine upon_method 129 (by kernel_rfl) (by kernel_rfl) ?_
      go_simp
      with_reducible refine (symText_any (fsz k) s a2 c2 k _ ?_ HS.out HHO.out HHF.out (Nat.le_refl _) (by omega)).mono ?_
      · exact HN2.out.mono (Nat.zero_le _) (Nat.le_refl _)
      rintro e w3 ⟨rfl, hb3⟩
      go_wp2_with fail
      go_ret
      exact ⟨by simp, HB.out.trans (hb3.mono HB.out.size)⟩
end Go.Proofs.YtbnbogdglffkmaaDoor

/-! B3: laTerm: what is the same comes out the same. -/
namespace Go.Proofs.YtbnbogdglffkmaaDoor
open Go.RowKit Go.Deep

theorem two_boxes {w wr : World} {x y z x' y' z' : Value} (h : Below (w.heap.size + 2) ((w.alloc (.cells #[x, y, z] 25)).alloc (.cells #[x', y', z'] 25)) wr) :
    wr.cell? ⟨w.heap.size, 2, none⟩ = some z ∧ wr.cell? ⟨w.heap.size + 1, 2, none⟩ = some z' := by
  refine ⟨?_, ?_⟩
  · rw [h.cell (by simp), World.cell?_alloc_lt _ _ _ (by simp), World.cell?_alloc_at _ _ _ _ (by simp)]; rfl
  · rw [h.cell (by simp), World.cell?_alloc_at _ _ _ _ (by simp)]; rfl

set_option maxRecDepth 100000 in
set_option maxHeartbeats 1000000 in
theorem laTerm_same (N : Nat) : ∀ (s v : Int) (a a' : Option Addr) (c c' : Nat) (k : Fo) (w : World), Sl w 0 w.heap.size a k → Sl w 0 w.heap.size a' k → fsz k ≤ N → N ≤ 1000000 →
    Calls Tryd.prog 11 #[.agg #[.int .i64 s, .int .i64 v, .slice a (flen k) c], .agg #[.int .i64 s, .int .i64 v, .slice a' (flen k) c']] w fun e w' => e = .returned (.bool true) ∧ Below w.heap.size w w' := by
  induction N using Nat.strongRecOn with
  | _ N ih =>
    intro s v a a' c c' k w hl hl' hN hN2
    have hfl := flen_le_sz k
    have IH := Lib.hid ih
    clear ih
    have e0 : (s != s) = false := by simp
    have e1 : (v != v) = false := by simp
    have e2 : ((flen k : Int) != (flen k : Int)) = false := by simp
    have hb0 : Below w.heap.size w ((w.alloc (.cells #[.int .i64 s, .int .i64 v, .slice a (flen k) c] 25)).alloc (.cells #[.int .i64 s, .int .i64 v, .slice a' (flen k) c'] 25)) := ((Below.refl _ _).alloc (Nat.le_refl _) _).alloc (by simp) _
    have HB0 := Lib.hid hb0
    clear hb0
    go_enter Tryd.func11, Tryd.ntmps11
    go_wp2_with fail
    go_loopw [5] (fun i wr => ∃ j : Nat, j ≤ flen k ∧ i = .int .i64 j ∧ Below (w.heap.size + 2) ((w.alloc (.cells #[.int .i64 s, .int .i64 v, .slice a (flen k) c] 25)).alloc (.cells #[.int .i64 s, .int .i64 v, .slice a' (flen k) c'] 25)) wr) (fun i _ => flen k - (intOf i).toNat)
    case atStart => exact ⟨0, by omega, rfl, Below.refl _ _⟩
    case round =>
      obtain ⟨j, hj, rfl, hbl⟩ := hrel
      have hsr := hbl.size
      simp at hsr
      obtain ⟨hx2, hy2⟩ := two_boxes hbl
      have hbw := HB0.out.trans (hbl.mono (show w.heap.size ≤ w.heap.size + 2 by omega))
      by_cases hlt : j < flen k
      · rcases hl with rfl | ⟨b, o, rfl, hrow⟩
        · simp [flen] at hlt
        rcases hl' with rfl | ⟨b', o', rfl, hrow'⟩
        · simp [flen] at hlt
        obtain ⟨s1, v1, kk, a1, c1, ⟨x, y, hd⟩, _, hbB, hk0, hk1, hk2, hsl⟩ := row_at (hrow.below hbw) hlt
        obtain ⟨s2, v2, kk2, a2, c2, ⟨x2, y2, hd2⟩, _, hbB', hk3, hk4, hk5, hsl2⟩ := row_at (hrow'.below hbw) hlt
        have hdd := hd.symm.trans hd2
        simp only [BT.node.injEq, Prod.mk.injEq] at hdd
        obtain ⟨_, _, ⟨rfl, rfl⟩, rfl, _⟩ := hdd
        have hkN := fsz_kid hd
        have HS := Lib.hid hsl
        have HS2 := Lib.hid hsl2
        have HBL := Lib.hid hbl
        clear hd hd2 hsl hsl2 hrow hrow' hbl hbw
        have g1 : (0 : Int) ≤ (j : Int) := by omega
        have g2 : (j : Int) < (flen k : Int) := by omega
        have hu0 : ∀ u : After wr.heap.size wr, u.world.cell? ⟨b, o + j * 3, none⟩ = some (.int .i64 s1) := fun u => u.cell (by simp; omega) hk0
        have hu1 : ∀ u : After wr.heap.size wr, u.world.cell? ⟨b, o + j * 3 + 1, none⟩ = some (.int .i64 v1) := fun u => u.cell (by simp; omega) hk1
        have hu2 : ∀ u : After wr.heap.size wr, u.world.cell? ⟨b, o + j * 3 + 2, none⟩ = some (.slice a1 (flen kk) c1) := fun u => u.cell (by simp; omega) hk2
        have hu3 : ∀ u : After wr.heap.size wr, u.world.cell? ⟨b', o' + j * 3, none⟩ = some (.int .i64 s1) := fun u => u.cell (by simp; omega) hk3
        have hu4 : ∀ u : After wr.heap.size wr, u.world.cell? ⟨b', o' + j * 3 + 1, none⟩ = some (.int .i64 v1) := fun u => u.cell (by simp; omega) hk4
        have hu5 : ∀ u : After wr.heap.size wr, u.world.cell? ⟨b', o' + j * 3 + 2, none⟩ = some (.slice a2 (flen kk) c2) := fun u => u.cell (by simp; omega) hk5
        have hu6 : ∀ u : After wr.heap.size wr, u.world.cell? ⟨w.heap.size, 2, none⟩ = some (.slice (some ⟨b, o, none⟩) (flen k) c) := fun u => u.cell (by simp; omega) hx2
        have hu7 : ∀ u : After wr.heap.size wr, u.world.cell? ⟨w.heap.size + 1, 2, none⟩ = some (.slice (some ⟨b', o', none⟩) (flen k) c') := fun u => u.cell (by simp; omega) hy2
        have HCALL : Hid (∀ u : After wr.heap.size wr, Calls Tryd.prog 11 #[.agg #[.int .i64 s1, .int .i64 v1, .slice a1 (flen kk) c1], .agg #[.int .i64 s1, .int .i64 v1, .slice a2 (flen kk) c2]] u.world fun e w' => e = .returned (.bool true) ∧ Below u.world.heap.size u.world w') := fun u => by
          have hu := u.below
          have hus := hu.size
          refine IH.out (fsz kk) (by omega) s1 v1 a1 a2 c1 c2 kk u.world ?_ ?_ (Nat.le_refl _) (by omega)
          · exact (HS.out.below (hu.mono (by omega))).mono (Nat.le_refl _) (by omega)
          · exact (HS2.out.below (hu.mono (by omega))).mono (Nat.le_refl _) (by omega)
        go_wp2_with fail
        refine wp_region_after wr.heap.size (by kernel_rfl) (by kernel_rfl) ?_
        repeat (go_big_quiet_step ((go_at_call 11; exact Calls.after (After.below ‹_›).size (HCALL.out _))))
        refine wpQuiet_nil ?_
        rintro u ⟨⟨_, hu⟩, rfl⟩
        clear hu0 hu1 hu2 hu3 hu4 hu5 hu6 hu7 hk0 hk1 hk2 hk3 hk4 hk5 hx2 hy2
        have HB2 := Lib.hid (HBL.out.trans (hu.mono hsr))
        clear hu
        go_wp2_with fail
        go_roundw
        case rel => exact ⟨j + 1, by omega, by go_num, HB2.out⟩
        case measure => simp [intOf]; omega
      · have HBW := Lib.hid hbw
        clear hbw hbl
        go_wp2_with fail
        go_ret
        exact ⟨rfl, HBW.out⟩
end Go.Proofs.YtbnbogdglffkmaaDoor

/-! LawTBack: For every code, laws.FnTermBack answers true and writes nothing that was there. -/
namespace Go.Proofs.YtbnbogdglffkmaaDoor
open Go.RowKit Go.Deep

theorem tx_len {s v : Int} {k : Fo} (h : okW s v k 16 = true) : (tx s v k).length ≤ 200 := by
  obtain ⟨h1, h2, h3⟩ := (okW_iff _ _ _ _).1 h
  have h4 := fts_short k h2
  have h5 := join_len (fts k)
  have h6 := ltr_len s
  unfold tx tx1
  split
  · rename_i hs
    have hv := ((okN_iff _ _ _).1 h1).2.1 hs
    have := dec_len (n := v.toNat) (by omega)
    simp only [List.length_cons]
    omega
  · split
    · omega
    · simp only [List.length_append, List.length_cons, List.length_nil]
      omega
theorem rdA_tx {s v : Int} {k : Fo} (h : okW s v k 16 = true) : rdA (tx s v k) = (s, v, fer k, true) := by unfold rdA; rw [rdR_tx h]
theorem tx_ne {s v : Int} {k : Fo} : tx s v k ≠ [] := by
  unfold tx tx1
  have := ltr_len s
  split
  · simp
  · split
    · intro h; rw [h] at this; simp at this
    · simp

set_option maxRecDepth 100000 in
set_option maxHeartbeats 2000000 in
theorem lawTBack_walk (a : Option Addr) (len cap : Nat) (w : World) (hby : Bytes w a len) (hlen : len ≤ cap) (hE : ErrAt w w.heap.size) :
    Calls Tryd.prog 3 #[.slice a len cap] w fun e w' => e = .returned (.bool true) ∧ Below w.heap.size w w' := by
  have HBY := Lib.hid hby
  have HE := Lib.hid hE
  clear hby hE
  by_cases hbig : 1048576 < len
  · go_enter Tryd.func3, Tryd.ntmps3
    go_wp2_with fail
    go_ret
    exact ⟨rfl, Below.refl _ _⟩
  go_enter Tryd.func3, Tryd.ntmps3
  go_wp2_with fail
  with_reducible refine (DrawTermText_any a len cap _ HBY.out hlen).mono ?_
  rintro e w1 ⟨s, v, a1, c1, k, rfl, hS, hb1, hl1⟩
  have hs1 := hb1.size
  have hb2 := hb1.alloc hs1 (.cells #[.int .i64 s, .int .i64 v, .slice a1 (flen k) c1] 25)
  have HB2 := Lib.hid hb2
  have HW2 : Hid (Below (w1.heap.size + 1) (w1.alloc (.cells #[.int .i64 s, .int .i64 v, .slice a1 (flen k) c1] 25)) (w1.alloc (.cells #[.int .i64 s, .int .i64 v, .slice a1 (flen k) c1] 25))) := Below.refl _ _
  have HL2 : Hid (Sl (w1.alloc (.cells #[.int .i64 s, .int .i64 v, .slice a1 (flen k) c1] 25)) 0 w1.heap.size a1 k) := (hl1.below ((Below.refl _ _).alloc (Nat.le_refl _) _)).mono (Nat.zero_le _) (Nat.le_refl _)
  clear hb1 hb2 hl1
  go_wp2_with fail
  with_reducible refine (iTermText_any s v a1 c1 k _ (HL2.out.mono (Nat.le_refl _) (by simp))).mono ?_
  rintro e w3 ⟨rfl, hb3⟩
  have hs3 := hb3.size
  simp at hs3
  have HB3 := Lib.hid (HB2.out.trans (hb3.mono (by simp; omega)))
  have HW3 := Lib.hid (HW2.out.trans (hb3.mono (by simp)))
  clear hb3
  obtain ⟨hc0, hc1, hc2⟩ := box_cells ⟨_, HW3.out⟩
  dsimp only at hc0 hc1 hc2
  obtain ⟨X, hX⟩ : ∃ X, X = if okW s v k 16 = true then tx s v k else [] := ⟨_, rfl⟩
  rw [← hX]
  have HX := Lib.hid hX
  clear hX
  have e0 : ((str X).toList != (str X).toList) = false := by simp
  have e1 : ((str X).toList == (str X).toList) = true := by simp
  have e2 : (!((str X).toList == (str X).toList)) = false := by simp
  go_wp2_with fail
  with_reducible refine (sTermText_any s v a1 c1 k _ ((HL2.out.below (HW3.out.mono (by omega))).mono (Nat.le_refl _) (by omega))).mono ?_
  rintro e w4 ⟨rfl, hb4⟩
  rw [← HX.out]
  have hs4 := hb4.size
  have HB4 := Lib.hid (HB3.out.trans (hb4.mono (by omega)))
  have HW4 := Lib.hid (HW3.out.trans (hb4.mono (by omega)))
  clear hb4 hc0 hc1 hc2
  obtain ⟨hc0, hc1, hc2⟩ := box_cells ⟨_, HW4.out⟩
  dsimp only at hc0 hc1 hc2
  cases hok : okW s v k 16 with
  | false =>
    have hXn : X = [] := by rw [HX.out, hok]; rfl
    have e3 : (str X).toList.isEmpty = true := by rw [hXn]; rw [Lib.toList_data, str_toList]; rfl
    clear hXn hok
    go_wp2_with fail
    with_reducible refine (sTermText_any s v a1 c1 k _ ((HL2.out.below (HW4.out.mono (by omega))).mono (Nat.le_refl _) (by omega))).mono ?_
    rintro e w5 ⟨rfl, hb5⟩
    rw [← HX.out]
    have HB5 := Lib.hid (HB4.out.trans (hb5.mono (by omega)))
    clear hb5
    go_wp2_with fail
    go_ret
    exact ⟨rfl, HB5.out⟩
  | true =>
    have hXn : X = tx s v k := by rw [HX.out, hok]; rfl
    have e3 : (str X).toList.isEmpty = false := by
      rw [hXn, Lib.toList_data, str_toList]
      cases ht : tx s v k with
      | nil => exact absurd ht tx_ne
      | cons => rfl
    have hA : rdA X = (s, v, fer k, true) := by rw [hXn]; exact rdA_tx hok
    have hXl : X.length ≤ 1048576 := by rw [hXn]; have := tx_len hok; omega
    have hsz : fsz k ≤ 15 := by have := ((okW_iff _ _ _ _).1 hok).2.2; omega
    have HA := Lib.hid hA
    have HXL := Lib.hid hXl
    have hE4 : ErrAt w4 w4.heap.size := (HE.out.same (Same.of_below HB4.out)).mono HB4.out.size
    have HE4 := Lib.hid hE4
    clear HX hXn hok hA hXl hE4
    go_wp2_with fail
    with_reducible refine (iTermReadT_any X _ HXL.out HE4.out).mono ?_
    rintro e w7 ⟨a7, c7, s7, v7, k7, t7, hR7, rfl, hb7, hl7⟩
    rw [HA.out] at hR7
    simp only [Prod.mk.injEq] at hR7
    obtain ⟨rfl, rfl, rfl, rfl⟩ := hR7
    have hs7 := hb7.size
    have hb8 := hb7.alloc hs7 (.cells #[.int .i64 s, .int .i64 v, .slice a7 (flen (fer k)) c7] 25)
    have HB8 := Lib.hid (HB4.out.trans (hb8.mono (by omega)))
    have HW8 := Lib.hid (HW4.out.trans (hb8.mono (by omega)))
    have HL8 : Hid (Sl (w7.alloc (.cells #[.int .i64 s, .int .i64 v, .slice a7 (flen (fer k)) c7] 25)) 0 (w7.alloc (.cells #[.int .i64 s, .int .i64 v, .slice a7 (flen (fer k)) c7] 25)).heap.size a7 (fer k)) := (hl7.1.below ((Below.refl _ _).alloc (Nat.le_refl _) _)).mono (Nat.zero_le _) (by simp)
    have HLT : Hid (Sl (w7.alloc (.cells #[.int .i64 s, .int .i64 v, .slice a7 (flen (fer k)) c7] 25)) 0 (w7.alloc (.cells #[.int .i64 s, .int .i64 v, .slice a7 (flen (fer k)) c7] 25)).heap.size a1 (fer k)) := (HL2.out.fer.below (HW8.out.mono (by omega))).mono (Nat.le_refl _) (by simp; omega)
    clear hb7 hb8 hl7 hc0 hc1 hc2
    obtain ⟨hc0, hc1, hc2⟩ := box_cells ⟨_, HW8.out⟩
    dsimp only at hc0 hc1 hc2
    rw [← fer_len k] at hc2
    have hsf : fsz (fer k) ≤ 15 := by rw [fer_sz]; exact hsz
    go_wp2_with fail
    with_reducible refine (laTerm_same 15 s v a7 a1 c7 c1 (fer k) _ HL8.out HLT.out hsf (by omega)).mono ?_
    rintro e w9 ⟨rfl, hb9⟩
    have HB9 := Lib.hid (HB8.out.trans (hb9.mono (by simp; omega)))
    clear hb9
    go_wp2_with fail
    go_ret
    exact ⟨rfl, HB9.out⟩
end Go.Proofs.YtbnbogdglffkmaaDoor

/-! DTR: DrawTermRead: a text of at most 1000 bytes. -/
namespace Go.Proofs.YtbnbogdglffkmaaDoor
open Go.RowKit Go.Deep

/-- A row of short strings. -/
def StrRow (w : World) (b n : Nat) : Prop := ∀ j, j < n → ∃ X : ByteArray, w.cell? ⟨b, j, none⟩ = some (.string X) ∧ X.size ≤ 20
set_option maxRecDepth 100000 in
set_option maxHeartbeats 1000000 in
theorem of_any (br p b n c : Nat) (w : World) (h : Rd w br p) (hp : p ≤ 1000000000) (hr : StrRow w b n) (hbr : b ≠ br) (hn1 : 1 ≤ n) (hn : n ≤ 100) :
    Calls Tryd.prog 31 #[.pointer (some ⟨br, 0, none⟩), .slice (some ⟨b, 0, none⟩) n c] w fun e w' => ∃ X : ByteArray, e = .returned (.string X) ∧ X.size ≤ 20 ∧ Adv w br (p + 1) w' := by
  have HR := Lib.hid hr
  have HP := Lib.hid (pick_any (n : Int) br p w h hp (by omega) (by omega))
  clear hr h
  go_enter Tryd.func31, Tryd.ntmps31
  go_wp2_with fail
  with_reducible refine HP.out.mono ?_
  rintro e w2 ⟨x, rfl, hx, hb2⟩
  have ha2 : Adv w br (p + 1) w2 := hb2
  have hxn : x < n := by omega
  obtain ⟨X, hX, hXs⟩ := HR.out x hxn
  have hcell : w2.cell? ⟨b, x, none⟩ = some (.string X) := ha2.cell hX (by simpa using hbr)
  have HA := Lib.hid ha2
  clear hX ha2 hb2 hx
  go_wp2_with fail
  go_ret
  exact ⟨X, rfl, hXs, HA.out⟩

theorem strRow_new (w : World) (cs : List ByteArray) (hs : (cs.all fun X => decide (X.size ≤ 20)) = true) (T : TypeId) : StrRow (w.alloc (.cells (cs.map Value.string).toArray T)) w.heap.size cs.length := fun j hj => by
  refine ⟨cs[j], ?_, of_decide_eq_true (List.all_eq_true.1 hs _ (List.getElem_mem hj))⟩
  rw [World.cell?_alloc_at _ _ _ _ rfl]
  simp [hj]

def DtrPost (w : World) (e : Ending) (w' : World) : Prop := ∃ X : ByteArray, e = .returned (.string X) ∧ X.size ≤ 1000 ∧ Below w.heap.size w w'
set_option maxRecDepth 100000 in
set_option maxHeartbeats 2000000 in
theorem DrawTermRead_any (a : Option Addr) (len cap : Nat) (w : World) (hby : Bytes w a len) (hlen : len ≤ cap) :
    Calls Tryd.prog 12 #[.slice a len cap] w (DtrPost w) := by
  have HBY := Lib.hid hby
  clear hby
  go_enter Tryd.func12, Tryd.ntmps12
  go_wp2_with fail
  with_reducible refine (l6Open_any a len cap _ HBY.out hlen).mono ?_
  rintro e w1 ⟨rfl, hb1, hrd⟩
  have hlt1 := hrd.lt
  have HRD := Lib.hid hrd
  have HB1 := Lib.hid hb1
  clear hb1 hrd
  go_wp2_with fail
  with_reducible refine (l71Term_ok 3 4 12 w.heap.size 0 _ (by omega) (by omega) (by omega) (by omega) (by omega) HRD.out (by decide)).mono ?_
  rintro e w2 ⟨s2, v2, a2, c2, k2, p2, rfl, hok, _, hp2, hS2, ha2, hl2⟩
  have hp2 : p2 ≤ 100000 := by
    have : pkN 3 ≤ 100000 := by decide
    omega
  have hS2' : fsz k2 ≤ 15 := by
    have : szN 3 ≤ 16 := by decide
    omega
  have hs2 := ha2.size
  have HRD2 := Lib.hid (ha2.rd HRD.out)
  have HB2 := Lib.hid (adv_low HB1.out (Nat.le_refl _) (by omega) ha2)
  have HL2 := Lib.hid (hl2.mono (lo' := 0) (Nat.zero_le _) (Nat.le_refl _))
  have HOK := Lib.hid hok
  have hok1 : okN s2 v2 (flen k2) = true := hok.1
  have hok2 : fok k2 = true := hok.2.1
  have HO1 := Lib.hid hok1
  have HO2 := Lib.hid hok2
  clear ha2 hl2 hok hok1 hok2
  go_wp2_with fail
  with_reducible refine (l1Say_any 15 s2 v2 a2 c2 k2 _ HL2.out HO1.out HO2.out hS2' (by omega)).mono ?_
  rintro e w3 ⟨rfl, hb3⟩
  have hs3 := hb3.size
  have hokW : okW s2 v2 k2 16 = true := (okW_iff _ _ _ _).2 ⟨HO1.out, HO2.out, by omega⟩
  obtain ⟨T, hT⟩ : ∃ T, T = str (tx s2 v2 k2) := ⟨_, rfl⟩
  have hT1 : 1 ≤ T.size := by
    rw [hT, str_size]
    cases ht : tx s2 v2 k2 with
    | nil => exact absurd ht tx_ne
    | cons => simp
  have hT2 : T.size ≤ 200 := by rw [hT, str_size]; exact tx_len hokW
  have HRD3 := Lib.hid (HRD2.out.next (bl_self hb3 HRD2.out.place))
  have HB3 := Lib.hid (HB2.out.trans (hb3.mono (by omega)))
  rw [← hT]
  clear hb3 hT hokW HOK
  go_wp2_with fail
  with_reducible refine (pick_any 2 w.heap.size p2 _ HRD3.out (by omega) (by omega) (by omega)).mono ?_
  rintro e w4 ⟨x4, rfl, hx4, hb4⟩
  have ha4 : Adv w3 w.heap.size (p2 + 1) w4 := hb4
  have hs4 := ha4.size
  have HRD4 := Lib.hid (ha4.rd HRD3.out)
  have HB4 := Lib.hid (adv_low HB3.out (Nat.le_refl _) (by omega) ha4)
  clear ha4 hb4
  by_cases hx : x4 = 0
  · subst hx
    go_wp2_with fail
    go_ret
    exact ⟨T, rfl, by omega, HB4.out⟩
  have x0 : ((x4 : Int) == 0) = false := by simpa using hx
  go_wp2_with fail
  with_reducible refine (pick_any (T.size : Int) w.heap.size (p2 + 1) _ HRD4.out (by omega) (by omega) (by omega)).mono ?_
  rintro e w5 ⟨i, rfl, hi, hb5⟩
  have ha5 : Adv w4 w.heap.size (p2 + 1 + 1) w5 := hb5
  have hs5 := ha5.size
  have HRD5 := Lib.hid (ha5.rd HRD4.out)
  have HB5 := Lib.hid (adv_low HB4.out (Nat.le_refl _) (by omega) ha5)
  have hiT : i < T.size := by omega
  clear ha5 hb5 hi
  go_wp2_with fail
  with_reducible refine (pick_any 5 w.heap.size (p2 + 1 + 1) _ HRD5.out (by omega) (by omega) (by omega)).mono ?_
  rintro e w6 ⟨y, rfl, hy, hb6⟩
  have ha6 : Adv w5 w.heap.size (p2 + 1 + 1 + 1) w6 := hb6
  have hs6 := ha6.size
  have HRD6 := Lib.hid (ha6.rd HRD5.out)
  have HB6 := Lib.hid (adv_low HB5.out (Nat.le_refl _) (by omega) ha6)
  clear ha6 hb6
  have hy5 : y = 0 ∨ y = 1 ∨ y = 2 ∨ y = 3 ∨ y = 4 := by omega
  clear hy
  have hlt6 : w.heap.size < w6.heap.size := by omega
  have hile : i ≤ T.size := by omega
  have HRDX : ∀ cs : Array Value, Hid (Rd (w6.alloc (.cells cs 9)).drew w.heap.size (p2 + 1 + 1 + 1)) := fun cs => HRD6.out.next (bl_self ((Below.refl _ _).alloc (Nat.le_refl _) _).drew HRD6.out.place)
  have HRDY : ∀ cs : Array Value, Hid (Rd (w6.alloc (.cells cs 9)) w.heap.size (p2 + 1 + 1 + 1)) := fun cs => HRD6.out.alloc _
  rcases hy5 with rfl | rfl | rfl | rfl | rfl
  · go_wp2_with fail
    refine wp_region_after w6.heap.size (by kernel_rfl) (by kernel_rfl) ?_
    repeat (go_big_quiet_step (fail))
    refine wpQuiet_nil ?_
    rintro _ ⟨u, rfl⟩
    go_wp2_with fail
    go_ret
    exact ⟨_, rfl, by simp [ByteArray.size_append, ByteArray.size_extract]; omega, HB6.out.trans (u.below.mono (by omega))⟩
  · go_wp2_with fail
    refine wp_region_mix (fun w' => ∃ u : After w.heap.size w6, w' = u.world) [] [(0, 0), (1, 0), (2, 0), (3, 0), (7, 0), (8, 0), (9, 0), (4, 1), (5, 1), (6, 1), (10, 1), (11, 1)] (by kernel_rfl) (by kernel_rfl) ⟨⟨_, (Below.refl _ _).drew⟩, rfl⟩ ?_
    iterate 7
      refine mix_see rfl (fun K hK => ?_)
      go_simp
      refine hK _ ?_
      clear hK K
    refine mix_hold rfl (fun K hK => ?_)
    go_simp
    refine hK _ _ ⟨⟨_, ((Below.refl w.heap.size w6).alloc (by omega) _).drew⟩, rfl⟩ ?_
    clear hK K
    refine mix_hold rfl (fun K hK => ?_)
    go_simp
    have hsr : StrRow (w6.alloc (.cells #[.string ⟨#[40]⟩, .string ⟨#[41]⟩, .string ⟨#[44]⟩, .string ⟨#[120]⟩, .string ⟨#[48]⟩, .string ⟨#[97]⟩, .string ⟨#[32]⟩] 9)).drew w6.heap.size 7 := strRow_new w6 [⟨#[40]⟩, ⟨#[41]⟩, ⟨#[44]⟩, ⟨#[120]⟩, ⟨#[48]⟩, ⟨#[97]⟩, ⟨#[32]⟩] (by decide) _
    have hrx := (HRDX #[.string ⟨#[40]⟩, .string ⟨#[41]⟩, .string ⟨#[44]⟩, .string ⟨#[120]⟩, .string ⟨#[48]⟩, .string ⟨#[97]⟩, .string ⟨#[32]⟩]).out
    have hwx : w6.heap.size ≤ (w6.alloc (.cells #[.string ⟨#[40]⟩, .string ⟨#[41]⟩, .string ⟨#[44]⟩, .string ⟨#[120]⟩, .string ⟨#[48]⟩, .string ⟨#[97]⟩, .string ⟨#[32]⟩] 9)).drew.heap.size := by
      show w6.heap.size ≤ (w6.alloc _).heap.size
      simp
    with_reducible refine (of_any w.heap.size (p2 + 1 + 1 + 1) w6.heap.size 7 7 _ hrx (by omega) hsr (by omega) (by omega) (by omega)).mono ?_
    rintro e w7 ⟨X7, rfl, hX7, ha7⟩
    have hbw : Below w.heap.size w w7 := adv_low (HB6.out.trans (((Below.refl _ _).alloc (Nat.le_refl _) _).drew.mono (by omega))) (Nat.le_refl _) (by omega) ha7
    have hbS : ∃ u : After w.heap.size w6, w7 = u.world := ⟨⟨w7, adv_low (((Below.refl w.heap.size w6).alloc (by omega) _).drew) (Nat.le_refl _) (by omega) ha7⟩, rfl⟩
    have hadd : ¬ 9223372036854775807 < i + X7.size := by omega
    have hadd2 : ¬ 9223372036854775807 < i + X7.size + (T.size - i) := by omega
    have HBW := Lib.hid hbw
    have HBS := Lib.hid hbS
    clear ha7 hbw hbS hsr hrx hwx
    refine hK _ _ HBS.out ?_
    clear hK K
    iterate 3
      refine mix_hold rfl (fun K hK => ?_)
      go_simp
      refine hK _ _ HBS.out ?_
      clear hK K
    refine mix_end ?_
    go_wp2_with fail
    go_ret
    exact ⟨_, rfl, by simp [ByteArray.size_append, ByteArray.size_extract]; omega, HBW.out⟩
  · go_wp2_with fail
    go_ret
    exact ⟨_, rfl, by simp [ByteArray.size_append]; omega, HB6.out⟩
  · go_wp2_with fail
    with_reducible refine (of_any w.heap.size (p2 + 1 + 1 + 1) w6.heap.size 9 9 _ (HRDY _).out (by omega) (strRow_new w6 [⟨#[]⟩, ⟨#[120]⟩, ⟨#[120, 49, 50]⟩, ⟨#[120, 48, 49]⟩, ⟨#[103]⟩, ⟨#[103, 40, 41]⟩, ⟨#[102, 40, 97, 41]⟩, ⟨#[102, 40, 97, 44, 98]⟩, ⟨#[103, 40, 97, 41, 98]⟩] (by decide) _) (by omega) (by omega) (by omega)).mono ?_
    rintro e w7 ⟨X7, rfl, hX7, ha7⟩
    have HBW := Lib.hid (adv_low (HB6.out.trans (((Below.refl _ _).alloc (Nat.le_refl _) _).mono (by omega))) (Nat.le_refl _) (by simp; omega) ha7)
    clear ha7
    go_wp2_with fail
    go_ret
    exact ⟨_, rfl, by omega, HBW.out⟩
  · go_wp2_with fail
    go_ret
    exact ⟨_, rfl, by simp [ByteArray.size_extract]; omega, HB6.out⟩
end Go.Proofs.YtbnbogdglffkmaaDoor

/-! WDi: TermOk of the program. -/
namespace Go.Proofs.YtbnbogdglffkmaaDoor
open Go.RowKit Go.Deep

set_option maxHeartbeats 400000 in
theorem iTermOk_any (s v : Int) (a : Option Addr) (c : Nat) (k : Fo) (w : World) (hl : Sl w 0 w.heap.size a k) :
    Calls Tryd.prog 14 #[.agg #[.int .i64 s, .int .i64 v, .slice a (flen k) c]] w fun e w' => e = .returned (.bool (okW s v k 16)) ∧ Below w.heap.size w w' := by
  go_enter Tryd.func14, Tryd.ntmps14
  go_wp2_with fail
  with_reducible refine (nodeOf_any s v a c k 16 _ ?_ ?_ ?_).mono ?_
  · exact (hl.below ((Below.refl _ _).alloc (Nat.le_refl _) _)).mono (Nat.le_refl _) (by simp)
  · omega
  · omega
  rintro e w2 ⟨nv, rfl, hb, hyes⟩
  clear hyes
  go_wp2_with fail
  go_ret
  exact ⟨rfl, ((Below.refl _ _).alloc (Nat.le_refl _) _).trans (hb.mono (by simp))⟩
end Go.Proofs.YtbnbogdglffkmaaDoor

/-! Frame: A slice of bytes that came in, as the walks take it. -/
namespace Go.Proofs.YtbnbogdglffkmaaDoor
open Go.ChangeShapes Go.WideShapes Go.ChangeAt Go.RowKit

/-- A slice of bytes: it is nil; or it leads to a row of cap cells. -/
def IsRow (w : World) (a : Option Addr) (len cap : Nat) (zs : List Int) : Prop :=
  (a = none ∧ len = 0 ∧ cap = 0 ∧ zs = []) ∨
  ∃ x, a = some x ∧ len ≤ cap ∧ cap ≤ maxLen ∧ zs.length = cap ∧ (∀ i, i < zs.length → w.cell? (x.add i) = some (.int .u8 (zs.getD i 0))) ∧ ∀ n ∈ zs, (Lit.int .u8 n).wf = true

theorem bytes_of_row {w : World} {a : Option Addr} {len cap : Nat} {zs : List Int} (h : IsRow w a len cap zs) : Bytes w a len ∧ len ≤ cap := by
  rcases h with ⟨_, h1, h2, _⟩ | ⟨x, rfl, h1, _, h2, h3, h4⟩
  · exact ⟨.inl h1, by omega⟩
  · refine ⟨?_, h1⟩
    by_cases hl : len = 0
    · exact .inl hl
    · obtain ⟨b, o, spot⟩ := x
      have c0 := h3 0 (by omega)
      have hs : spot = none := by simpa [Addr.add] using World.cell?_spot c0
      subst hs
      have ha : ∀ n, (⟨b, o, none⟩ : Addr).add n = ⟨b, o + n, none⟩ := fun n => by unfold Addr.add; split <;> simp_all
      rw [ha] at c0
      refine .inr ⟨b, o, rfl, World.block_lt_of_cell? _ _ c0, fun i hi => ?_⟩
      have ci := h3 i (by omega)
      rw [ha] at ci
      have hm : zs.getD i 0 ∈ zs := by
        rw [List.getD_eq_getElem?_getD, List.getElem?_eq_getElem (by omega)]
        exact List.getElem_mem _
      have hb := bounds_u8 (h4 _ hm)
      obtain ⟨n, hn⟩ := Int.eq_ofNat_of_zero_le hb.1
      exact ⟨n, by omega, by rw [ci, hn]⟩

/-- Out of the reading of an argument. -/
theorem row_of_trod {H : Type} {enc : TypeId × Value → H} {W : World} {a : Option Addr} {len cap : Nat} {d : DataW H} {p : List MemPlace} (h : DataW.Trod enc Tryd.prog W 0 (fun _ => true) true 22 (.slice a len cap) d p) : ∃ zs, IsRow W a len cap zs := by
  obtain ⟨fuel, hf⟩ := h
  rcases open_ints Tryd.underlying22 Tryd.underlying5 (by kernel_rfl) hf with ⟨hcs, _⟩ | ⟨x, l, c, zs, hcs, _, hl, hm, hz, _, hcell, hwz⟩
  · simp [Value.cells] at hcs
    obtain ⟨rfl, rfl, rfl⟩ := hcs
    exact ⟨[], .inl ⟨rfl, rfl, rfl, rfl⟩⟩
  · simp [Value.cells] at hcs
    obtain ⟨rfl, rfl, rfl⟩ := hcs
    exact ⟨zs, .inr ⟨_, rfl, hl, hm, by simpa using hz, hcell, hwz⟩⟩

end Go.Proofs.YtbnbogdglffkmaaDoor
