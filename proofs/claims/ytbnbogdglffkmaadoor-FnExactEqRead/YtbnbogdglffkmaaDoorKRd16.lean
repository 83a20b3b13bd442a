/- Several texts in one: T3, RD11, FrameO, FrameD. -/
import Derived.Test.YtbnbogdglffkmaaDoorKRd15
import Derived.Test.YtbnbogdglffkmaaDoorKRd12
import Derived.Test.YtbnbogdglffkmaaDoorRows
import Derived.WalkKit
import Derived.ProofKit
import Derived.OpenShut
import Derived.ShutString
import Derived.ChangeOld
import Derived.Below
import Derived.Test.YtbnbogdglffkmaaDoorTie
import Derived.Test.YtbnbogdglffkmaaDoorCards
import Derived.Test.YtbnbogdglffkmaaDoorKRd10
import Derived.Stop.LaidErr
import Derived.Stop.Joined
import Derived.LaidMore
import Derived.Lay
import Derived.SevenTiedAt

/-! T3: The specification's text of a term. -/
namespace Go.Proofs.YtbnbogdglffkmaaDoor
open Go.RowKit Go.Deep

theorem keepT {W w2 : World} {B : Nat} {b1 o1 b2 o2 : Nat} {x1 x2 x3 x4 : Value} (hb : Below B W w2) (h1 : W.cell? ⟨b1, o1, none⟩ = some x1) (h2 : W.cell? ⟨b2, o2, none⟩ = some x2) (h3 : W.cell? ⟨b2, o2 + 1, none⟩ = some x3) (h4 : W.cell? ⟨b2, o2 + 2, none⟩ = some x4)
    (g1 : b1 < B) (g2 : b2 < B) : w2.cell? ⟨b1, o1, none⟩ = some x1 ∧ w2.cell? ⟨b2, o2, none⟩ = some x2 ∧ w2.cell? ⟨b2, o2 + 1, none⟩ = some x3 ∧ w2.cell? ⟨b2, o2 + 2, none⟩ = some x4 :=
  ⟨by rw [hb.cell g1]; exact h1, by rw [hb.cell g2]; exact h2, by rw [hb.cell g2]; exact h3, by rw [hb.cell g2]; exact h4⟩

set_option maxRecDepth 100000 in
set_option maxHeartbeats 2000000 in
theorem l1Say_any (N : Nat) : ∀ (s v : Int) (a : Option Addr) (c : Nat) (k : Fo) (w : World), Sl w 0 w.heap.size a k → okN s v (flen k) = true → fok k = true → fsz k ≤ N → N ≤ 1000 →
    Calls Tryd.prog 26 #[.agg #[.int .i64 s, .int .i64 v, .slice a (flen k) c]] w fun e w' => e = .returned (.string (str (tx s v k))) ∧ Below w.heap.size w w' := by
  induction N using Nat.strongRecOn with
  | _ N ih =>
    intro s v a c k w hl hokN hok hN hN2
    have hfl := flen_le_sz k
    have hshort := fts_short k hok
    have HOK := Lib.hid hok
    have HSH := Lib.hid hshort
    have IH := Lib.hid ih
    obtain ⟨har, hv0, _⟩ := (okN_iff _ _ _).1 hokN
    clear ih hok hshort
    by_cases hs : s = 0
    · subst hs
      have hk0 : flen k = 0 := by simp [ar] at har; omega
      have hk : k = .nil := by cases k with
        | nil => rfl
        | node => simp [flen] at hk0
      subst hk
      have hv := hv0 rfl
      have hz : (str (Lib.decDigits v.toNat)).size ≤ 2 := by rw [str_size]; exact dec_len (by omega)
      clear hl hfl hN har hokN hv0
      go_enter Tryd.func26, Tryd.ntmps26
      go_wp2_with fail
      with_reducible refine (l6Dec_any v hv.1 (by omega) _).mono ?_
      rintro e w2 ⟨rfl, hb⟩
      go_wp2_with fail
      go_ret
      exact ⟨by rw [tx_var, show (120 :: Lib.decDigits v.toNat) = [120] ++ Lib.decDigits v.toNat from rfl, ← str_add]; rfl, ((Below.refl _ _).alloc (Nat.le_refl _) _).trans (hb.mono (by simp))⟩
    · have hsr : (1 ≤ s ∧ s ≤ 4) ∧ flen k ≤ 2 := by
        unfold ar at har
        split at har
        · omega
        · split at har
          · omega
          · split at har <;> omega
      obtain ⟨⟨hs1, hs4⟩, hk2⟩ := hsr
      have HS := Lib.hid hs
      have es : (s == 0) = false := by simp [hs]
      have hco := say_out_cell (w.alloc (.cells #[.int .i64 s, .int .i64 v, .slice a (flen k) c] 25)) hs1 hs4
      obtain ⟨m, rfl⟩ : ∃ m : Nat, s = m := ⟨s.toNat, by omega⟩
      rw [show Int.toNat (m : Int) = m from rfl] at hco
      simp only [World.size_alloc] at hco
      have HF2 : Hid ((fts k).length = flen k) := fts_len k
      clear har hokN hv0 hs
      go_enter Tryd.func26, Tryd.ntmps26
      go_wp2_with fail
      clear hco
      go_loopw [3, 4] (fun o i wr => ∃ j : Nat, j ≤ flen k ∧ i = .int .i64 j ∧ o = .string (str (pre m (fts k) j)) ∧ Below (w.heap.size + 1) (w.alloc (.cells #[.int .i64 (m : Int), .int .i64 v, .slice a (flen k) c] 25)) wr) (fun _ i _ => flen k - (intOf i).toNat)
      case atStart => exact ⟨0, by omega, rfl, by simp [pre], (Below.refl _ _).alloc (by simp) _⟩
      case round =>
        obtain ⟨j, hj, rfl, rfl, hbl⟩ := hrel
        obtain ⟨hc0, hc1, hc2⟩ : wr.cell? ⟨w.heap.size, 0, none⟩ = some (.int .i64 m) ∧ wr.cell? ⟨w.heap.size, 1, none⟩ = some (.int .i64 v) ∧ wr.cell? ⟨w.heap.size, 2, none⟩ = some (.slice a (flen k) c) := box_cells ⟨wr, hbl⟩
        have hsr := hbl.size
        simp at hsr
        have hpl := pre_len m (fts k) j
        have hz1 : (str (pre m (fts k) j)).size ≤ 100000 := by rw [str_size]; have := HSH.out; omega
        by_cases hlt : j < flen k
        · rcases hl with rfl | ⟨b, o, rfl, hrow⟩
          · simp [flen] at hlt
          obtain ⟨s', v', kk, a', c', ⟨x, y, hd⟩, _, hbB, hk0, hk1, hk2', hsl⟩ := row_at (hrow.below (after_top hbl)) hlt
          have hkN := fsz_kid hd
          have HKO := Lib.hid (fok_kid HOK.out hd)
          have hat := fts_at j k hd
          have HST := Lib.hid (pre_step (s := m) hat)
          have hz2 : (str (pre m (fts k) j) ++ str (sp j)).size ≤ 100001 := by rw [str_add, str_size]; rw [str_size] at hz1; simp [sp]; omega
          have hz3 : (str (sp j)).size = 1 := rfl
          have hn1 : ¬ 9223372036854775807 < (str (pre m (fts k) j)).size + (str (sp j)).size := by rw [str_size] at hz1 ⊢; rw [hz3]; omega
          have hz4 : (str (tx s' v' kk)).size ≤ 100000 := by rw [str_size]; have := lens_at hat; have := HSH.out; omega
          have g1 : (0 : Int) ≤ (j : Int) := by omega
          have g2 : (j : Int) < (flen k : Int) := by omega
          have g3 : (j : Int) < 2 := by omega
          have hB1 : Below wr.heap.size wr (wr.alloc (.cells #[.string ⟨#[40]⟩, .string ⟨#[44]⟩] 9)).drew := ((Below.refl _ _).alloc (Nat.le_refl _) _).drew
          have hB0 : Below wr.heap.size wr wr.drew := (Below.refl _ _).drew
          have hcA : (wr.alloc (.cells #[.string ⟨#[40]⟩, .string ⟨#[44]⟩] 9)).drew.cell? ⟨wr.heap.size, j, none⟩ = some (.string (str (sp j))) := sp_cell wr (by omega)
          have HS0 : Hid (Sl wr.drew 0 wr.drew.heap.size a' kk) := (hsl.below (hB0.mono (by omega))).mono (Nat.le_refl _) (by simp; omega)
          have HS1 : Hid (Sl (wr.alloc (.cells #[.string ⟨#[40]⟩, .string ⟨#[44]⟩] 9)).drew 0 (wr.alloc (.cells #[.string ⟨#[40]⟩, .string ⟨#[44]⟩] 9)).drew.heap.size a' kk) := (hsl.below (hB1.mono (by omega))).mono (Nat.le_refl _) (by simp; omega)
          obtain ⟨hq2, hq3, hq4, hq5⟩ := keepT (B := w.heap.size + 1) (hB1.mono (by omega)) hc2 hk0 hk1 hk2' (by omega) (by omega)
          have hq2' : (wr.alloc (.cells #[.string ⟨#[40]⟩, .string ⟨#[44]⟩] 9)).cell? ⟨w.heap.size, 2, none⟩ = some (.slice (some ⟨b, o, none⟩) (flen k) c) := hq2
          have hq3' : (wr.alloc (.cells #[.string ⟨#[40]⟩, .string ⟨#[44]⟩] 9)).cell? ⟨b, o + j * 3, none⟩ = some (.int .i64 s') := hq3
          have hq4' : (wr.alloc (.cells #[.string ⟨#[40]⟩, .string ⟨#[44]⟩] 9)).cell? ⟨b, o + j * 3 + 1, none⟩ = some (.int .i64 v') := hq4
          have hq5' : (wr.alloc (.cells #[.string ⟨#[40]⟩, .string ⟨#[44]⟩] 9)).cell? ⟨b, o + j * 3 + 2, none⟩ = some (.slice a' (flen kk) c') := hq5
          have hcA' : (wr.alloc (.cells #[.string ⟨#[40]⟩, .string ⟨#[44]⟩] 9)).cell? ⟨wr.heap.size, j, none⟩ = some (.string (str (sp j))) := hcA
          have HB0 := Lib.hid hB0
          have HB1 := Lib.hid hB1
          have HBL := Lib.hid hbl
          have HSP : Hid (∀ W : World, (W.alloc (.cells #[.string ⟨#[40]⟩, .string ⟨#[44]⟩] 9)).cell? ⟨W.heap.size, j, none⟩ = some (.string (str (sp j)))) := fun W => sp_cell W (by omega)
          have HN' : Hid (fsz kk < N) := by unfold Hid; omega
          have HN3 : Hid (fsz kk ≤ 1000) := by unfold Hid; omega
          clear hd hrow hbl hsl hat hpl hB0 hB1
          go_wp2_with fail
          go_region_with (first
              | ((go_at_call 26; refine (IH.out (fsz kk) HN'.out s' v' a' c' kk _ HS1.out HKO.out.1 HKO.out.2 (Nat.le_refl _) HN3.out).mono ?_); rintro e w2 ⟨rfl, hb2⟩; have hW2 := HB1.out.trans (hb2.mono (by simp)); have hW2s := hW2.size; have hcB := cell_lowS hb2 hcA)
              | ((go_at_call 26; refine (IH.out (fsz kk) HN'.out s' v' a' c' kk _ HS0.out HKO.out.1 HKO.out.2 (Nat.le_refl _) HN3.out).mono ?_); rintro e w2 ⟨rfl, hb2⟩; have hW2 := HB0.out.trans (hb2.mono (by simp)); have hW2s := hW2.size; have hcC := HSP.out w2))
          all_goals
            go_wp2_with fail
            go_roundw
            case rel => exact ⟨j + 1, by omega, by go_num, by rw [HST.out, ← str_add, ← str_add], by first | exact HBL.out.trans (hW2.mono hsr) | exact (HBL.out.trans (hW2.mono hsr)).alloc (by omega) _⟩
            case measure => simp [intOf]; omega
        · have hje : j = flen k := by omega
          subst hje
          have HBL := Lib.hid hbl
          by_cases hk0 : flen k = 0
          · have HT := Lib.hid (tx_leaf (v := v) HS.out hk0)
            have HPZ : Hid (pre m (fts k) (flen k) = ltr m) := by rw [hk0]; simp [Hid, pre]
            have hkz : (flen k : Int) ≤ 0 := by omega
            clear hbl hl
            go_wp2_with fail
            go_ret
            exact ⟨by rw [HT.out, ← HPZ.out]; rfl, after_top HBL.out⟩
          · have HT := Lib.hid (tx_pre (v := v) HS.out hk0)
            have hkp : (0 : Int) < (flen k : Int) := by omega
            have HJ : Hid (str (pre m (fts k) (flen k)) ++ ⟨#[41]⟩ = str (pre m (fts k) (flen k) ++ [41])) := str_add _ [41]
            clear hbl hl
            go_wp2_with fail
            rw [HJ.out]
            go_wp2_with fail
            go_ret
            exact ⟨by rw [HT.out]; rfl, after_top HBL.out⟩

set_option maxRecDepth 100000 in
set_option maxHeartbeats 1000000 in
theorem sTermText_any (s v : Int) (a : Option Addr) (c : Nat) (k : Fo) (w : World) (hl : Sl w 0 w.heap.size a k) :
    Calls Tryd.prog 9 #[.agg #[.int .i64 s, .int .i64 v, .slice a (flen k) c]] w fun e w' => e = .returned (.string (str (if okW s v k 16 = true then tx s v k else []))) ∧ Below w.heap.size w w' := by
  have hl1 := (hl.below ((Below.refl _ _).alloc (Nat.le_refl _) (.cells #[.int .i64 s, .int .i64 v, .slice a (flen k) c] 25))).mono (Nat.le_refl _) (show w.heap.size ≤ (w.alloc (.cells #[.int .i64 s, .int .i64 v, .slice a (flen k) c] 25)).heap.size by simp)
  have HL1 := Lib.hid hl1
  clear hl1
  cases hok : okW s v k 16 with
  | false =>
    have HOK := Lib.hid hok
    clear hok
    go_enter Tryd.func9, Tryd.ntmps9
    go_wp2_with fail
    with_reducible refine (sTermOk_any s v a c k _ HL1.out).mono ?_
    rw [HOK.out]
    rintro e w2 ⟨rfl, hb⟩
    go_wp2_with fail
    go_ret
    exact ⟨rfl, ((Below.refl _ _).alloc (Nat.le_refl _) _).trans (hb.mono (by simp))⟩
  | true =>
    have HOK := Lib.hid hok
    have HOW := Lib.hid ((okW_iff _ _ _ _).1 hok)
    clear hok
    go_enter Tryd.func9, Tryd.ntmps9
    go_wp2_with fail
    with_reducible refine (sTermOk_any s v a c k _ HL1.out).mono ?_
    rw [HOK.out]
    rintro e w2 ⟨rfl, hb⟩
    obtain ⟨hc0, hc1, hc2⟩ := box_cells (w := w) ⟨w2, by simpa using hb⟩
    dsimp only at hc0 hc1 hc2
    have HL2 := Lib.hid ((HL1.out.below hb).mono (Nat.le_refl _) hb.size)
    have HB := Lib.hid (((Below.refl w.heap.size w).alloc (Nat.le_refl _) _).trans (hb.mono (by simp)))
    clear hb
    go_wp2_with fail
    with_reducible refine (l1Say_any (fsz k) s v a c k _ HL2.out HOW.out.1 HOW.out.2.1 (Nat.le_refl _) (by have := HOW.out.2.2; omega)).mono ?_
    rintro e w3 ⟨rfl, hb3⟩
    go_wp2_with fail
    go_ret
    exact ⟨by simp, HB.out.trans (hb3.mono HB.out.size)⟩
end Go.Proofs.YtbnbogdglffkmaaDoor

/-! RD11: TermRead of the specification. -/
namespace Go.Proofs.YtbnbogdglffkmaaDoor
open Go.RowKit Go.Deep

def RsPost (l : List UInt8) (w : World) (e : Ending) (w' : World) : Prop :=
  ∃ a c s v k t, rdA l = (s, v, k, t) ∧ e = .returned (.tuple #[.agg #[.int .i64 s, .int .i64 v, .slice a (flen k) c], .bool t]) ∧ Below w.heap.size w w' ∧ Sl w' w.heap.size w'.heap.size a k
theorem rs_end {w w1 : World} {l : List UInt8} {s v : Int} {k : Fo} {t : Bool} {a : Option Addr} {c : Nat} (hr : rdA l = (s, v, k, t)) (hb : Below w.heap.size w w1) (hl : Sl w1 (w.heap.size + 1) w1.heap.size a k) (x y z : Value) :
    RsPost l w (.returned (.tuple #[.agg #[.int .i64 s, .int .i64 v, .slice a (flen k) c], .bool t])) (((w1.setCell ⟨w.heap.size, 0, none⟩ x).setCell ⟨w.heap.size, 1, none⟩ y).setCell ⟨w.heap.size, 2, none⟩ z) := by
  refine ⟨a, c, s, v, k, t, hr, rfl, ((hb.setCell (by simp) _).setCell (by simp) _).setCell (by simp) _, ?_⟩
  have hs : Same (w.heap.size + 1) w1.heap.size w1 (((w1.setCell ⟨w.heap.size, 0, none⟩ x).setCell ⟨w.heap.size, 1, none⟩ y).setCell ⟨w.heap.size, 2, none⟩ z) :=
    (((Same.setCell (fun _ _ _ => rfl) (.inl (by simp)) _).setCell (.inl (by simp)) _).setCell (.inl (by simp)) _)
  exact (hl.same hs).mono (by omega) (by simp)

set_option maxRecDepth 100000 in
set_option maxHeartbeats 1000000 in
theorem sTermRead_any (l : List UInt8) (w : World) (hl : l.length ≤ 1048576) :
    Calls Tryd.prog 13 #[.string (str l)] w (RsPost l w) := by
  have hb0 : Below w.heap.size w (w.alloc (.cells #[.int .i64 0, .int .i64 0, .slice none 0 0] 25)) := (Below.refl _ _).alloc (Nat.le_refl _) _
  have hhear : Calls Tryd.prog 32 #[.string (str l), .int .i64 0, .int .i64 16] (w.alloc (.cells #[.int .i64 0, .int .i64 0, .slice none 0 0] 25)) (HePost l 0 16 (w.alloc (.cells #[.int .i64 0, .int .i64 0, .slice none 0 0] 25))) := l1Hear_any 16 (by omega) l 0 (w.alloc (.cells #[.int .i64 0, .int .i64 0, .slice none 0 0] 25)) hl (by omega)
  have HH := Lib.hid hhear
  have HB0 := Lib.hid hb0
  clear hhear hb0 hl
  go_enter Tryd.func13, Tryd.ntmps13
  go_wp2_with fail
  with_reducible refine HH.out.mono ?_
  rintro e w2 ⟨a2, c2, s, v, k, n', z, hr, hz, rfl, hb2, hl2⟩
  rw [List.drop_zero] at hr
  have hs2 := hb2.size
  simp at hs2
  have hb2' : Below (w.heap.size + 1) (w.alloc (.cells #[.int .i64 0, .int .i64 0, .slice none 0 0] 25)) w2 := by simpa using hb2
  have hb3 : Below (w.heap.size + 1) (w.alloc (.cells #[.int .i64 0, .int .i64 0, .slice none 0 0] 25)) (w2.alloc (.cells #[.int .i64 s, .int .i64 v, .slice a2 (flen k) c2] 25)) := hb2'.alloc (by omega) _
  have HB3 := Lib.hid hb3
  have HB3' := Lib.hid (HB0.out.trans (hb3.mono (Nat.le_succ _)))
  have hl3 : Sl (w2.alloc (.cells #[.int .i64 s, .int .i64 v, .slice a2 (flen k) c2] 25)) (w.heap.size + 1) (w2.alloc (.cells #[.int .i64 s, .int .i64 v, .slice a2 (flen k) c2] 25)).heap.size a2 k := (hl2.below ((Below.refl _ _).alloc (Nat.le_refl _) _)).mono (by simp) (by simp)
  have HL3 := Lib.hid hl3
  clear hb2 hb2' hb3 hl2 hl3 hz
  obtain ⟨hr0, hr1, hr2, hq0, hq1, hq2⟩ := he_cells HB3.out
  have hx0 : (w2.alloc (.cells #[.int .i64 s, .int .i64 v, .slice a2 (flen k) c2] 25)).heap.size = w2.heap.size + 1 := World.size_alloc _ _
  have HX0 := Lib.hid hx0
  clear hx0
  cases l with
  | nil =>
    have HA : Hid (rdA [] = (0, 0, .nil, false)) := rfl
    have e2 : (str []).toList.isEmpty = true := by rw [Lib.toList_data, str_toList]; rfl
    go_wp2_with fail
    refine bodyPost_ret (v := .tuple #[.agg #[.int .i64 0, .int .i64 0, .slice none 0 0], .bool false]) ?_ rfl (rs_end (k := .nil) HA.out HB3'.out (.inl rfl) _ _ _)
    simp [results, Tryd.results13, go_sem, hr0, hr1, hr2]
  | cons b r =>
    have e2 : (str (b :: r)).toList.isEmpty = false := by rw [Lib.toList_data, str_toList]; rfl
    have hcase := hear_read (b :: r)
    rw [hr] at hcase
    have HC := Lib.hid hcase
    clear hcase hr
    go_wp2_with fail
    with_reducible refine (sTermText_any s v a2 c2 k _ ?_).mono ?_
    · exact HL3.out.mono (Nat.zero_le _) (Nat.le_refl _)
    rintro e w4 ⟨rfl, hb4⟩
    have HB4 := Lib.hid (HB3'.out.trans (hb4.mono (by have := HX0.out; omega)))
    have hb4' := HB3.out.trans (hb4.mono (by have := HX0.out; omega))
    obtain ⟨hg0, hg1, hg2, hp0, hp1, hp2⟩ := he_cells hb4'
    have HL4 := Lib.hid ((HL3.out.below hb4).mono (Nat.le_refl _) hb4.size)
    have ht0 : w4.cell? ⟨w2.heap.size, 0, none⟩ = some (.int .i64 s) := by rw [hb4.cell (by simp)]; simp
    have ht1 : w4.cell? ⟨w2.heap.size, 1, none⟩ = some (.int .i64 v) := by rw [hb4.cell (by simp)]; simp
    have ht2 : w4.cell? ⟨w2.heap.size, 2, none⟩ = some (.slice a2 (flen k) c2) := by rw [hb4.cell (by simp)]; simp
    clear hb4 hb4' hr0 hr1 hr2 hq0 hq1 hq2
    obtain ⟨X, hX⟩ : ∃ X, X = if okW s v k 16 = true then tx s v k else [] := ⟨_, rfl⟩
    rw [← hX]
    rcases HC.out with ⟨h1, h2⟩ | ⟨h1, h2, h3⟩
    · have HA : Hid (rdA (b :: r) = (0, 0, .nil, false)) := by unfold Hid rdA; rw [h1]
      have hne : X ≠ b :: r := by
        rw [hX]
        by_cases hok : okW s v k 16 = true
        · rw [if_pos hok]; exact fun e => h2 ⟨hok, e⟩
        · rw [if_neg hok]; exact fun e => by cases e
      have hq : ((str X).toList == (str (b :: r)).toList) = false := by
        rw [Lib.toList_data, Lib.toList_data, str_toList, str_toList]
        simpa using hne
      clear hne hX h1 h2
      go_wp2_with fail
      refine bodyPost_ret (v := .tuple #[.agg #[.int .i64 0, .int .i64 0, .slice none 0 0], .bool false]) ?_ rfl (rs_end (k := .nil) HA.out HB4.out (.inl rfl) _ _ _)
      simp [results, Tryd.results13, go_sem, hg0, hg1, hg2]
    · have HA : Hid (rdA (b :: r) = (s, v, k, true)) := by unfold Hid rdA; rw [h1]
      have hXl : X = b :: r := by rw [hX, if_pos h2]; exact h3
      have hq : ((str X).toList == (str (b :: r)).toList) = true := by rw [hXl]; simp
      clear hXl hX h1 h2 h3
      go_wp2_with fail
      refine bodyPost_ret (v := .tuple #[.agg #[.int .i64 s, .int .i64 v, .slice a2 (flen k) c2], .bool true]) ?_ rfl (rs_end HA.out HB4.out HL4.out _ _ _)
      simp [results, Tryd.results13, go_sem, hg0, hg1, hg2]
end Go.Proofs.YtbnbogdglffkmaaDoor

/-! FrameO: What every row's closing text needs. -/
namespace Go.Proofs.YtbnbogdglffkmaaDoor
theorem Tryd.own : ownKnob Tryd.prog.godebug = none := by kernel_rfl
theorem Tryd.laidOut : laidOutB Tryd.prog = true := by kernel_rfl
end Go.Proofs.YtbnbogdglffkmaaDoor

/-! FrameD: What the rows that list the library's two errors give their walks. -/
namespace Go.Proofs
open Go.RowKit

theorem Tryd.gES : Tryd.prog.globalNamed "strconv.ErrSyntax" = some 1 := by kernel_rfl
theorem Tryd.gER : Tryd.prog.globalNamed "strconv.ErrRange" = some 2 := by kernel_rfl
theorem Tryd.gESType : (Tryd.prog.globals[1]?).map (·.type) = some 93 := by kernel_rfl
theorem Tryd.gERType : (Tryd.prog.globals[2]?).map (·.type) = some 93 := by kernel_rfl
theorem Tryd.cellsEs : Tryd.prog.cellsOf 146 = 1 := by kernel_rfl
theorem Tryd.cellsStr : Tryd.prog.cellsOf 9 = 1 := by kernel_rfl
theorem Tryd.starEs : "*" ++ "errors.errorString" = "*errors.errorString" := by decide
theorem Tryd.rowEs (u : TypeId) (h : Tryd.prog.typeName? 3 u = some "*errors.errorString") : u = 144 :=
  typeName_ptr_named (nm := "errors.errorString") (by rw [Tryd.starEs]; kernel_rfl) (by kernel_rfl) (by decide) u (by rw [Tryd.starEs]; exact h)
end Go.Proofs

namespace Go.Proofs.YtbnbogdglffkmaaDoor
open Go.RowKit Go.Deep

theorem errAt_of_laid {x1 x2 x3 x4 : String × DataW Unit} {r : List (String × DataW Unit)} {W : World} (h : laidMet Tryd.prog (x1 :: x2 :: x3 :: x4 :: ("strconv.ErrRange", Rows.laid_strconv_ErrRange) :: ("strconv.ErrSyntax", Rows.laid_strconv_ErrSyntax) :: r) W) : ErrAt W W.heap.size := by
  have h5 := h.tail.tail.tail.tail
  obtain ⟨a0, s0, hv0, -, -, -⟩ := laid_sentinel h5 Tryd.gER Tryd.gERType Tryd.underlying93 Tryd.rowEs Tryd.underlying144 Tryd.underlying146 rfl rfl Tryd.underlying9 Tryd.cellsEs Tryd.cellsStr
  obtain ⟨a1, s1, hv1, -, -, -⟩ := laid_sentinel h5.tail Tryd.gES Tryd.gESType Tryd.underlying93 Tryd.rowEs Tryd.underlying144 Tryd.underlying146 rfl rfl Tryd.underlying9 Tryd.cellsEs Tryd.cellsStr
  have c0 : W.cell? ⟨2, 0, none⟩ = some (.iface 144 (.pointer (some a0))) := by have h0 := World.var?_cell Tryd.gER hv0 0; simpa using h0
  have c1 : W.cell? ⟨1, 0, none⟩ = some (.iface 144 (.pointer (some a1))) := by have h0 := World.var?_cell Tryd.gES hv1 0; simpa using h0
  exact ⟨⟨_, _, c1⟩, ⟨_, _, c0⟩, World.block_lt_of_cell? _ _ c1, World.block_lt_of_cell? _ _ c0⟩
end Go.Proofs.YtbnbogdglffkmaaDoor
