/- Several texts in one: LT, WDi, D2, B2, B4, B5, B6, D3, D4, FrameO, Frame. -/
import Derived.Test.YtdkcbbhkoibplaaKLk9
import Derived.Test.YtdkcbbhkoibplaaKLk5
import Derived.Test.YtdkcbbhkoibplaaKLk2
import Derived.Test.YtdkcbbhkoibplaaKLk23
import Derived.Test.YtdkcbbhkoibplaaKLk17
import Derived.Test.YtdkcbbhkoibplaaKLk14
import Derived.Deep.RegionHeld3
import Derived.Deep.DrawnRows
import Derived.Test.YtdkcbbhkoibplaaKLk7
import Derived.Test.YtdkcbbhkoibplaaRows
import Derived.WalkKit
import Derived.ProofKit
import Derived.OpenShut
import Derived.ShutString
import Derived.ChangeOld
import Derived.Below

/-! LT: laTerm on any two terms. -/
namespace Go.Proofs.Ytdkcbbhkoibplaa
open Go.RowKit Go.Deep

theorem boxes_LT {w wr : World} {x y z x' y' z' : Value} (h : Below (w.heap.size + 2) ((w.alloc (.cells #[x, y, z] 35)).alloc (.cells #[x', y', z'] 35)) wr) :
    wr.cell? ⟨w.heap.size, 2, none⟩ = some z ∧ wr.cell? ⟨w.heap.size + 1, 2, none⟩ = some z' := by
  refine ⟨?_, ?_⟩
  · rw [h.cell (by simp), World.cell?_alloc_lt _ _ _ (by simp), World.cell?_alloc_at _ _ _ _ (by simp)]; rfl
  · rw [h.cell (by simp), World.cell?_alloc_at _ _ _ _ (by simp)]; rfl

set_option maxRecDepth 100000 in
set_option maxHeartbeats 2000000 in
theorem laTerm_any (N : Nat) : ∀ (s v : Int) (a : Option Addr) (c : Nat) (k : Fo) (s' v' : Int) (a' : Option Addr) (c' : Nat) (k' : Fo) (w : World), Sl w 0 w.heap.size a k → Sl w 0 w.heap.size a' k' → fsz k ≤ N → N ≤ 1000000 →
    Calls Try.prog 29 #[.agg #[.int .i64 s, .int .i64 v, .slice a (flen k) c], .agg #[.int .i64 s', .int .i64 v', .slice a' (flen k') c']] w fun e w' => e = .returned (.bool (teq s v k s' v' k')) ∧ Below w.heap.size w w' := by
  induction N using Nat.strongRecOn with
  | _ N ih =>
    intro s v a c k s' v' a' c' k' w hl hl' hN hN2
    have hfl := flen_le_sz k
    have IH := Lib.hid ih
    clear ih
    have hb0 : Below w.heap.size w ((w.alloc (.cells #[.int .i64 s, .int .i64 v, .slice a (flen k) c] 35)).alloc (.cells #[.int .i64 s', .int .i64 v', .slice a' (flen k') c'] 35)) := ((Below.refl _ _).alloc (Nat.le_refl _) _).alloc (by simp) _
    have HB0 := Lib.hid hb0
    clear hb0
    by_cases hs : s = s'
    case neg =>
      have e0 : (s != s') = true := by simp [hs]
      have HF := Lib.hid (teq_sign (v := v) (k := k) (v' := v') (k' := k') hs)
      clear hs
      go_enter Try.func29, Try.ntmps29
      go_wp2_with fail
      go_ret
      exact ⟨by rw [HF.out]; rfl, HB0.out⟩
    subst hs
    have e0 : (s != s) = false := by simp
    by_cases hv : v = v'
    case neg =>
      have e1 : (v != v') = true := by simp [hv]
      have HF := Lib.hid (teq_var (s := s) (k := k) (s' := s) (k' := k') hv)
      clear hv
      go_enter Try.func29, Try.ntmps29
      go_wp2_with fail
      go_ret
      exact ⟨by rw [HF.out]; rfl, HB0.out⟩
    subst hv
    have e1 : (v != v) = false := by simp
    by_cases hk : flen k = flen k'
    case neg =>
      have e2 : ((flen k : Int) != (flen k' : Int)) = true := by simp; omega
      have HF := Lib.hid (teq_len (s := s) (v := v) (s' := s) (v' := v) hk)
      clear hk
      go_enter Try.func29, Try.ntmps29
      go_wp2_with fail
      go_ret
      exact ⟨by rw [HF.out]; rfl, HB0.out⟩
    have e2 : ((flen k : Int) != (flen k' : Int)) = false := by simp [hk]
    have hkl : flen k ≤ flen k' := by omega
    have hkg : flen k' ≤ flen k := by omega
    clear hk
    rw [teq_kids]
    go_enter Try.func29, Try.ntmps29
    go_wp2_with fail
    go_loopw [5] (fun i wr => ∃ j : Nat, j ≤ flen k ∧ i = .int .i64 j ∧ Hid (feq k k' = feq (fdrop j k) (fdrop j k')) ∧ Below (w.heap.size + 2) ((w.alloc (.cells #[.int .i64 s, .int .i64 v, .slice a (flen k) c] 35)).alloc (.cells #[.int .i64 s, .int .i64 v, .slice a' (flen k') c'] 35)) wr) (fun i _ => flen k - (intOf i).toNat)
    case atStart => exact ⟨0, by omega, rfl, rfl, Below.refl _ _⟩
    case round =>
      obtain ⟨j, hj, rfl, hfe, hbl⟩ := hrel
      have hsr := hbl.size
      simp at hsr
      obtain ⟨hx2, hy2⟩ := boxes_LT hbl
      have hbw := HB0.out.trans (hbl.mono (show w.heap.size ≤ w.heap.size + 2 by omega))
      by_cases hlt : j < flen k
      · rcases hl with rfl | ⟨b, o, rfl, hrow⟩
        · simp [flen] at hlt
        rcases hl' with rfl | ⟨b', o', rfl, hrow'⟩
        · simp [flen] at hkl; omega
        obtain ⟨s1, v1, kk, a1, c1, ⟨x, y, hd⟩, _, hbB, hk0, hk1, hk2, hsl⟩ := row_at (hrow.below hbw) hlt
        obtain ⟨s2, v2, kk2, a2, c2, ⟨x2, y2, hd2⟩, _, hbB', hk3, hk4, hk5, hsl2⟩ := row_at (hrow'.below hbw) (show j < flen k' by omega)
        have hfd := feq_drop hd hd2
        have hkN := fsz_kid hd
        have HS := Lib.hid hsl
        have HS2 := Lib.hid hsl2
        have HBL := Lib.hid hbl
        clear hd hd2 hsl hsl2 hrow hrow' hbl hbw
        have g1 : (0 : Int) ≤ (j : Int) := by omega
        have g2 : (j : Int) < (flen k : Int) := by omega
        have g3 : (j : Int) < (flen k' : Int) := by omega
        have hu0 : ∀ u : After wr.heap.size wr, u.world.cell? ⟨b, o + j * 3, none⟩ = some (.int .i64 s1) := fun u => u.cell (by simp; omega) hk0
        have hu1 : ∀ u : After wr.heap.size wr, u.world.cell? ⟨b, o + j * 3 + 1, none⟩ = some (.int .i64 v1) := fun u => u.cell (by simp; omega) hk1
        have hu2 : ∀ u : After wr.heap.size wr, u.world.cell? ⟨b, o + j * 3 + 2, none⟩ = some (.slice a1 (flen kk) c1) := fun u => u.cell (by simp; omega) hk2
        have hu3 : ∀ u : After wr.heap.size wr, u.world.cell? ⟨b', o' + j * 3, none⟩ = some (.int .i64 s2) := fun u => u.cell (by simp; omega) hk3
        have hu4 : ∀ u : After wr.heap.size wr, u.world.cell? ⟨b', o' + j * 3 + 1, none⟩ = some (.int .i64 v2) := fun u => u.cell (by simp; omega) hk4
        have hu5 : ∀ u : After wr.heap.size wr, u.world.cell? ⟨b', o' + j * 3 + 2, none⟩ = some (.slice a2 (flen kk2) c2) := fun u => u.cell (by simp; omega) hk5
        have hu6 : ∀ u : After wr.heap.size wr, u.world.cell? ⟨w.heap.size, 2, none⟩ = some (.slice (some ⟨b, o, none⟩) (flen k) c) := fun u => u.cell (by simp; omega) hx2
        have hu7 : ∀ u : After wr.heap.size wr, u.world.cell? ⟨w.heap.size + 1, 2, none⟩ = some (.slice (some ⟨b', o', none⟩) (flen k') c') := fun u => u.cell (by simp; omega) hy2
        have HCALL : Hid (∀ u : After wr.heap.size wr, Calls Try.prog 29 #[.agg #[.int .i64 s1, .int .i64 v1, .slice a1 (flen kk) c1], .agg #[.int .i64 s2, .int .i64 v2, .slice a2 (flen kk2) c2]] u.world fun e w' => e = .returned (.bool (teq s1 v1 kk s2 v2 kk2)) ∧ Below u.world.heap.size u.world w') := fun u => by
          have hu := u.below
          have hus := hu.size
          refine IH.out (fsz kk) (by omega) s1 v1 a1 c1 kk s2 v2 a2 c2 kk2 u.world ?_ ?_ (Nat.le_refl _) (by omega)
          · exact (HS.out.below (hu.mono (by omega))).mono (Nat.le_refl _) (by omega)
          · exact (HS2.out.below (hu.mono (by omega))).mono (Nat.le_refl _) (by omega)
        cases hte : teq s1 v1 kk s2 v2 kk2 with
        | true =>
          have HFE : Hid (feq k k' = feq (fdrop (j + 1) k) (fdrop (j + 1) k')) := by unfold Hid; rw [hfe.out, hfd, hte, Bool.true_and]
          rw [hte] at HCALL
          clear hfe hfd hte
          go_wp2_with fail
          refine wp_region_after wr.heap.size (by kernel_rfl) (by kernel_rfl) ?_
          repeat (go_big_quiet_step ((go_at_call 29; exact Calls.after (After.below ‹_›).size (HCALL.out _))))
          refine wpQuiet_nil ?_
          rintro u ⟨⟨_, hu⟩, rfl⟩
          clear hu0 hu1 hu2 hu3 hu4 hu5 hu6 hu7 hk0 hk1 hk2 hk3 hk4 hk5 hx2 hy2
          have HB2 := Lib.hid (HBL.out.trans (hu.mono hsr))
          clear hu
          go_wp2_with fail
          go_roundw
          case rel => exact ⟨j + 1, by omega, by go_num, HFE, HB2.out⟩
          case measure => simp [intOf]; omega
        | false =>
          have HFE : Hid (feq k k' = false) := by unfold Hid; rw [hfe.out, hfd, hte, Bool.false_and]
          rw [hte] at HCALL
          clear hfe hfd hte
          go_wp2_with fail
          refine wp_region_after wr.heap.size (by kernel_rfl) (by kernel_rfl) ?_
          repeat (go_big_quiet_step ((go_at_call 29; exact Calls.after (After.below ‹_›).size (HCALL.out _))))
          refine wpQuiet_nil ?_
          rintro u ⟨⟨_, hu⟩, rfl⟩
          clear hu0 hu1 hu2 hu3 hu4 hu5 hu6 hu7 hk0 hk1 hk2 hk3 hk4 hk5 hx2 hy2
          have HB2 := Lib.hid (HB0.out.trans ((HBL.out.trans (hu.mono hsr)).mono (by omega)))
          clear hu
          go_wp2_with fail
          go_ret
          exact ⟨by rw [HFE.out]; rfl, HB2.out⟩
      · have HBW := Lib.hid hbw
        have HFE : Hid (feq k k' = true) := by unfold Hid; rw [hfe.out, fdrop_all (by omega), fdrop_all (by omega)]; rfl
        clear hbw hbl hfe
        go_wp2_with fail
        go_ret
        exact ⟨by rw [HFE.out]; rfl, HBW.out⟩
end Go.Proofs.Ytdkcbbhkoibplaa

/-! WDi: TermOk of the program. -/
namespace Go.Proofs.Ytdkcbbhkoibplaa
open Go.RowKit Go.Deep

set_option maxHeartbeats 400000 in
theorem iTermOk_any (s v : Int) (a : Option Addr) (c : Nat) (k : Fo) (w : World) (hl : Sl w 0 w.heap.size a k) :
    Calls Try.prog 30 #[.agg #[.int .i64 s, .int .i64 v, .slice a (flen k) c]] w fun e w' => e = .returned (.bool (okW s v k 16)) ∧ Below w.heap.size w w' := by
  go_enter Try.func30, Try.ntmps30
  go_wp2_with fail
  with_reducible refine (nodeOf_any s v a c k 16 _ ?_ ?_ ?_).mono ?_
  · exact (hl.below ((Below.refl _ _).alloc (Nat.le_refl _) _)).mono (Nat.le_refl _) (by simp)
  · omega
  · omega
  rintro e w2 ⟨nv, rfl, hb, hyes⟩
  clear hyes
  go_wp2_with fail
  go_ret
  exact ⟨rfl, ((Below.refl _ _).alloc (Nat.le_refl _) _).trans (hb.mono (by simp))⟩
end Go.Proofs.Ytdkcbbhkoibplaa

/-! D2: - spec.TermPut. -/
namespace Go.Proofs.Ytdkcbbhkoibplaa
open Go.RowKit Go.Deep
attribute [local go_sem ↓] Go.wp_at_zero Go.wp_at_succ

/-- The cells of the first box of three. -/
theorem put_box0 {w w1 : World} {o Z : Obj} {x y z : Value} (hb : Below (w.heap.size + 3) (((w.alloc (.cells #[x, y, z] 35)).alloc o).alloc Z) w1) :
    w1.cell? ⟨w.heap.size, 0, none⟩ = some x ∧ w1.cell? ⟨w.heap.size, 1, none⟩ = some y ∧ w1.cell? ⟨w.heap.size, 2, none⟩ = some z := by
  refine ⟨?_, ?_, ?_⟩
  · rw [hb.cell (by simp), World.cell?_alloc_lt _ _ _ (by first | (simp; done) | (simp; omega)), World.cell?_alloc_lt _ _ _ (by simp), World.cell?_alloc_at _ _ _ _ (by simp)]; rfl
  · rw [hb.cell (by simp), World.cell?_alloc_lt _ _ _ (by first | (simp; done) | (simp; omega)), World.cell?_alloc_lt _ _ _ (by simp), World.cell?_alloc_at _ _ _ _ (by simp)]; rfl
  · rw [hb.cell (by simp), World.cell?_alloc_lt _ _ _ (by first | (simp; done) | (simp; omega)), World.cell?_alloc_lt _ _ _ (by simp), World.cell?_alloc_at _ _ _ _ (by simp)]; rfl

end Go.Proofs.Ytdkcbbhkoibplaa

/-! B2: - spec.TermAt. -/
namespace Go.Proofs.Ytdkcbbhkoibplaa
open Go.RowKit Go.Deep

end Go.Proofs.Ytdkcbbhkoibplaa

/-! B4: - l71Place, DrawTermAt. -/
namespace Go.Proofs.Ytdkcbbhkoibplaa
open Go.RowKit Go.Deep

def PlcPost (br p : Nat) (w : World) (e : Ending) (w' : World) : Prop :=
  ∃ A C place p', e = .returned (.slice A (List.length place) C) ∧ p ≤ p' ∧ p' ≤ p + 100 ∧ place.length ≤ 2000 ∧ Adv w br p' w' ∧ ISc w' w.heap.size w'.heap.size A C place

theorem plc_end {w w6 w7 : World} {o : Obj} {br p p' p'' C : Nat} {x y : Int} (ha : Adv (w.alloc o) br p' w6) (hb : Adv (w6.alloc (.cells #[.int .i64 x, .int .i64 y] 3)) br p'' w7) (hlt : br < w.heap.size) (h1 : p ≤ p'') (h2 : p'' ≤ p + 100) (hlt6 : br < w6.heap.size) (hs : 2 ≤ C) :
    PlcPost br p w (.returned (.slice (some ⟨w6.heap.size, 0, none⟩) 1 C)) w7 ∧ PlcPost br p w (.returned (.slice (some ⟨w6.heap.size, 0, none⟩) 2 C)) w7 := by
  have hsz := ha.size
  simp at hsz
  have hs7 := hb.size
  simp at hs7
  have hA : Adv w br p'' w7 := ((ha.alloc (.cells #[.int .i64 x, .int .i64 y] 3)).trans hb).off hlt
  have c0 : w7.cell? ⟨w6.heap.size, 0, none⟩ = some (.int .i64 x) := hb.cell (by simp) (by simp; omega)
  have c1 : w7.cell? ⟨w6.heap.size, 1, none⟩ = some (.int .i64 y) := hb.cell (by simp) (by simp; omega)
  refine ⟨⟨_, C, [x], p'', rfl, h1, h2, by simp, hA, .inr ⟨_, 0, rfl, by omega, by omega, fun i u hu => ?_⟩, by simp; omega⟩, ⟨_, C, [x, y], p'', rfl, h1, h2, by simp, hA, .inr ⟨_, 0, rfl, by omega, by omega, fun i u hu => ?_⟩, by simpa using hs⟩⟩
  · match i with
    | 0 => simp at hu; subst hu; exact c0
    | n + 1 => simp at hu
  · match i with
    | 0 => simp at hu; subst hu; exact c0
    | 1 => simp at hu; subst hu; exact c1
    | n + 2 => simp at hu

end Go.Proofs.Ytdkcbbhkoibplaa

/-! B5: - DrawTermAt. -/
namespace Go.Proofs.Ytdkcbbhkoibplaa
open Go.RowKit Go.Deep
attribute [local go_sem ↓] Go.wp_at_zero Go.wp_at_succ

theorem keep_set {w3 : World} {b n : Nat} {x y z x' y' z' : Value} (h0 : w3.cell? ⟨b, 0, none⟩ = some x) (h1 : w3.cell? ⟨b, 1, none⟩ = some y) (h2 : w3.cell? ⟨b, 2, none⟩ = some z) (hne : n < b) :
    (((w3.setCell ⟨n, 0, none⟩ x').setCell ⟨n, 1, none⟩ y').setCell ⟨n, 2, none⟩ z').cell? ⟨b, 0, none⟩ = some x ∧ (((w3.setCell ⟨n, 0, none⟩ x').setCell ⟨n, 1, none⟩ y').setCell ⟨n, 2, none⟩ z').cell? ⟨b, 1, none⟩ = some y ∧ (((w3.setCell ⟨n, 0, none⟩ x').setCell ⟨n, 1, none⟩ y').setCell ⟨n, 2, none⟩ z').cell? ⟨b, 2, none⟩ = some z := by
  have hc : ∀ {q : Addr} {u : Value}, w3.cell? q = some u → q.block ≠ n → (((w3.setCell ⟨n, 0, none⟩ x').setCell ⟨n, 1, none⟩ y').setCell ⟨n, 2, none⟩ z').cell? q = some u := fun {q u} hq hne => by
    rw [World.cell?_setCell_other _ _ _ _ (by intro e; exact hne (congrArg Addr.block e).symm), World.cell?_setCell_other _ _ _ _ (by intro e; exact hne (congrArg Addr.block e).symm), World.cell?_setCell_other _ _ _ _ (by intro e; exact hne (congrArg Addr.block e).symm)]
    exact hq
  exact ⟨hc h0 (by simp; omega), hc h1 (by simp; omega), hc h2 (by simp; omega)⟩

def TaPost (w : World) (e : Ending) (w' : World) : Prop :=
  ∃ s v a c k A C place, e = .returned (.tuple #[.agg #[.int .i64 s, .int .i64 v, .slice a (flen k) c], .slice A (List.length place) C]) ∧ 1 + fsz k ≤ 31000 ∧ place.length ≤ 2000 ∧ Below w.heap.size w w' ∧ Sl w' w.heap.size w'.heap.size a k ∧ ISc w' w.heap.size w'.heap.size A C place

theorem ta_end {w w1 : World} {o : Obj} {s v : Int} {a A : Option Addr} {c C : Nat} {k : Fo} {place : List Int} (hb : Below (w.heap.size + 1) (w.alloc o) w1) (hS : 1 + fsz k ≤ 31000) (hpl : place.length ≤ 2000) (hl : Sl w1 (w.heap.size + 1) w1.heap.size a k) (hi : ISc w1 (w.heap.size + 1) w1.heap.size A C place) (x y z : Value) :
    TaPost w (.returned (.tuple #[.agg #[.int .i64 s, .int .i64 v, .slice a (flen k) c], .slice A place.length C])) (((w1.setCell ⟨w.heap.size, 0, none⟩ x).setCell ⟨w.heap.size, 1, none⟩ y).setCell ⟨w.heap.size, 2, none⟩ z) := by
  have hs : Same (w.heap.size + 1) w1.heap.size w1 (((w1.setCell ⟨w.heap.size, 0, none⟩ x).setCell ⟨w.heap.size, 1, none⟩ y).setCell ⟨w.heap.size, 2, none⟩ z) :=
    (((Same.setCell (fun _ _ _ => rfl) (.inl (by simp)) _).setCell (.inl (by simp)) _).setCell (.inl (by simp)) _)
  have hb' : Below w.heap.size w w1 := ((Below.refl _ _).alloc (Nat.le_refl _) o).trans (hb.mono (by omega))
  exact ⟨s, v, a, c, k, A, C, place, rfl, hS, hpl, ((hb'.setCell (Nat.le_refl _) _).setCell (Nat.le_refl _) _).setCell (Nat.le_refl _) _, (hl.same hs).mono (by omega) (by simp), (hi.same hs).mono (by omega) (by simp)⟩

end Go.Proofs.Ytdkcbbhkoibplaa

/-! B6: A place cut in two; the size of TermAt's answer. -/
namespace Go.Proofs.Ytdkcbbhkoibplaa
open Go.RowKit Go.Deep

theorem fat_append : ∀ (p q : List Int) (s v : Int) (k : Fo), fat s v k (p ++ q) = (fat s v k p).bind fun x => fat x.1 x.2.1 x.2.2 q
  | [], _, _, _, _ => rfl
  | i :: ps, q, s, v, k => by
    simp only [List.cons_append, fat]
    split
    · split
      · exact fat_append ps q _ _ _
      · rfl
    · rfl

theorem atR_sz {s v : Int} {k : Fo} {place : List Int} {s' v' : Int} {k' : Fo} {t : Bool} (h : atR s v k place = (s', v', k', t)) : fsz k' ≤ 15 := by
  unfold atR at h
  split at h
  · rename_i hok
    have hok' := (okW_iff _ _ _ _).1 hok
    split at h
    · rename_i s2 v2 k2 hf
      simp only [Prod.mk.injEq] at h
      obtain ⟨_, _, rfl, _⟩ := h
      have := (fat_ok place s v k hok'.1 hok'.2.1 hf).2.2
      have := hok'.2.2
      omega
    · simp only [Prod.mk.injEq] at h
      obtain ⟨_, _, rfl, _⟩ := h
      simp [fsz]
  · simp only [Prod.mk.injEq] at h
    obtain ⟨_, _, rfl, _⟩ := h
    simp [fsz]
theorem atR_true {s v : Int} {k : Fo} {place : List Int} {s' v' : Int} {k' : Fo} (h : atR s v k place = (s', v', k', true)) : okW s v k 16 = true ∧ fat s v k place = some (s', v', k') := by
  unfold atR at h
  split at h
  · rename_i hok
    refine ⟨hok, ?_⟩
    split at h
    · rename_i s2 v2 k2 hf
      simp only [Prod.mk.injEq] at h
      obtain ⟨rfl, rfl, rfl, _⟩ := h
      exact hf
    · simp at h
  · simp at h
/-- A place cut in two. -/
theorem atR_cut {s v : Int} {k : Fo} {place : List Int} {s' v' : Int} {k' : Fo} (n : Nat) (h : atR s v k place = (s', v', k', true)) : ∃ s1 v1 k1, atR s v k (place.take n) = (s1, v1, k1, true) ∧ atR s1 v1 k1 (place.drop n) = (s', v', k', true) := by
  obtain ⟨hok, hf⟩ := atR_true h
  rw [← List.take_append_drop n place, fat_append] at hf
  obtain ⟨⟨s1, v1, k1⟩, h1, h2⟩ := Option.bind_eq_some_iff.1 hf
  have hok' := (okW_iff _ _ _ _).1 hok
  have hfo := fat_ok _ s v k hok'.1 hok'.2.1 h1
  have hok1 : okW s1 v1 k1 16 = true := (okW_iff _ _ _ _).2 ⟨hfo.1, hfo.2.1, by have := hok'.2.2; have := hfo.2.2; omega⟩
  refine ⟨s1, v1, k1, ?_, ?_⟩
  · unfold atR; rw [hok, h1]; rfl
  · unfold atR; rw [hok1]; simp only [if_true]; dsimp only at h2; rw [h2]
end Go.Proofs.Ytdkcbbhkoibplaa

/-! D3: - DrawTermPut. -/
namespace Go.Proofs.Ytdkcbbhkoibplaa
open Go.RowKit Go.Deep
attribute [local go_sem ↓] Go.wp_at_zero Go.wp_at_succ

/-- The cells of two boxes. -/
theorem tb_cells {w w' : World} {x y z x' y' z' : Value} {T T' : TypeId} (h : Below (w.heap.size + 2) ((w.alloc (.cells #[x, y, z] T)).alloc (.cells #[x', y', z'] T')) w') :
    w'.cell? ⟨w.heap.size, 0, none⟩ = some x ∧ w'.cell? ⟨w.heap.size, 1, none⟩ = some y ∧ w'.cell? ⟨w.heap.size, 2, none⟩ = some z ∧
      w'.cell? ⟨w.heap.size + 1, 0, none⟩ = some x' ∧ w'.cell? ⟨w.heap.size + 1, 1, none⟩ = some y' ∧ w'.cell? ⟨w.heap.size + 1, 2, none⟩ = some z' := by
  refine ⟨?_, ?_, ?_, ?_, ?_, ?_⟩
  · rw [h.cell (by simp), World.cell?_alloc_lt _ _ _ (by simp), World.cell?_alloc_at _ _ _ _ (by simp)]; rfl
  · rw [h.cell (by simp), World.cell?_alloc_lt _ _ _ (by simp), World.cell?_alloc_at _ _ _ _ (by simp)]; rfl
  · rw [h.cell (by simp), World.cell?_alloc_lt _ _ _ (by simp), World.cell?_alloc_at _ _ _ _ (by simp)]; rfl
  · rw [h.cell (by simp), World.cell?_alloc_at _ _ _ _ (by simp)]; rfl
  · rw [h.cell (by simp), World.cell?_alloc_at _ _ _ _ (by simp)]; rfl
  · rw [h.cell (by simp), World.cell?_alloc_at _ _ _ _ (by simp)]; rfl
theorem tb_free {w w' : World} {o o' : Obj} (h : Below (w.heap.size + 2) ((w.alloc o).alloc o') w') (j : Nat) {c c' : Array Value} {T T' : TypeId} (ho : o = .cells c T) (ho' : o' = .cells c' T') :
    w'.frozen? ⟨w.heap.size, j, none⟩ = false ∧ w'.frozen? ⟨w.heap.size + 1, j, none⟩ = false := by
  subst ho
  subst ho'
  constructor
  · rw [h.frozen (by simp), World.frozen?_alloc_past _ _ _ (by simp), World.frozen?_alloc_at _ _ _ _ (by simp)]
  · rw [h.frozen (by simp), World.frozen?_alloc_at _ _ _ _ (by simp)]

/-- A world in which a box holds three values. -/
structure Box3 (b : Nat) (x y z : Value) where
  world : World
  cells : world.cell? ⟨b, 0, none⟩ = some x ∧ world.cell? ⟨b, 1, none⟩ = some y ∧ world.cell? ⟨b, 2, none⟩ = some z

def TputPost (w : World) (e : Ending) (w' : World) : Prop :=
  ∃ s v a c k A C place s2 v2 a2 c2 k2, e = .returned (.tuple #[.agg #[.int .i64 s, .int .i64 v, .slice a (flen k) c], .slice A (List.length place) C, .agg #[.int .i64 s2, .int .i64 v2, .slice a2 (flen k2) c2]]) ∧ 1 + fsz k ≤ 31000 ∧ place.length ≤ 2000 ∧ 1 + fsz k2 ≤ 31000 ∧ Below w.heap.size w w' ∧ Sl w' w.heap.size w'.heap.size a k ∧ ISc w' w.heap.size w'.heap.size A C place ∧ Sl w' w.heap.size w'.heap.size a2 k2

theorem keep_set6 {w3 : World} {b n m : Nat} {x y z x' y' z' x2 y2 z2 : Value} (h0 : w3.cell? ⟨b, 0, none⟩ = some x) (h1 : w3.cell? ⟨b, 1, none⟩ = some y) (h2 : w3.cell? ⟨b, 2, none⟩ = some z) (hne : n < b) (hme : m < b) :
    ((((((w3.setCell ⟨n, 0, none⟩ x').setCell ⟨n, 1, none⟩ y').setCell ⟨n, 2, none⟩ z').setCell ⟨m, 0, none⟩ x2).setCell ⟨m, 1, none⟩ y2).setCell ⟨m, 2, none⟩ z2).cell? ⟨b, 0, none⟩ = some x ∧ ((((((w3.setCell ⟨n, 0, none⟩ x').setCell ⟨n, 1, none⟩ y').setCell ⟨n, 2, none⟩ z').setCell ⟨m, 0, none⟩ x2).setCell ⟨m, 1, none⟩ y2).setCell ⟨m, 2, none⟩ z2).cell? ⟨b, 1, none⟩ = some y ∧
      ((((((w3.setCell ⟨n, 0, none⟩ x').setCell ⟨n, 1, none⟩ y').setCell ⟨n, 2, none⟩ z').setCell ⟨m, 0, none⟩ x2).setCell ⟨m, 1, none⟩ y2).setCell ⟨m, 2, none⟩ z2).cell? ⟨b, 2, none⟩ = some z := by
  obtain ⟨g0, g1, g2⟩ := keep_set (x' := x') (y' := y') (z' := z') h0 h1 h2 hne
  exact keep_set g0 g1 g2 hme
theorem tput_end {w w1 : World} {o o' : Obj} {s v s2 v2 : Int} {a A a2 : Option Addr} {c C c2 : Nat} {k k2 : Fo} {place : List Int} (hb : Below (w.heap.size + 2) ((w.alloc o).alloc o') w1) (hS : 1 + fsz k ≤ 31000) (hpl : place.length ≤ 2000) (hS2 : 1 + fsz k2 ≤ 31000) (hl : Sl w1 (w.heap.size + 2) w1.heap.size a k) (hi : ISc w1 (w.heap.size + 2) w1.heap.size A C place) (hl2 : Sl w1 (w.heap.size + 2) w1.heap.size a2 k2) (p q r p' q' r' : Value) :
    TputPost w (.returned (.tuple #[.agg #[.int .i64 s, .int .i64 v, .slice a (flen k) c], .slice A place.length C, .agg #[.int .i64 s2, .int .i64 v2, .slice a2 (flen k2) c2]])) ((((((w1.setCell ⟨w.heap.size, 0, none⟩ p).setCell ⟨w.heap.size, 1, none⟩ q).setCell ⟨w.heap.size, 2, none⟩ r).setCell ⟨w.heap.size + 1, 0, none⟩ p').setCell ⟨w.heap.size + 1, 1, none⟩ q').setCell ⟨w.heap.size + 1, 2, none⟩ r') := by
  have hs : Same (w.heap.size + 2) w1.heap.size w1 ((((((w1.setCell ⟨w.heap.size, 0, none⟩ p).setCell ⟨w.heap.size, 1, none⟩ q).setCell ⟨w.heap.size, 2, none⟩ r).setCell ⟨w.heap.size + 1, 0, none⟩ p').setCell ⟨w.heap.size + 1, 1, none⟩ q').setCell ⟨w.heap.size + 1, 2, none⟩ r') :=
    ((((((Same.setCell (fun _ _ _ => rfl) (.inl (by simp)) _).setCell (.inl (by simp)) _).setCell (.inl (by simp)) _).setCell (.inl (by simp)) _).setCell (.inl (by simp)) _).setCell (.inl (by simp)) _)
  have hb' : Below w.heap.size w w1 := (((Below.refl _ _).alloc (Nat.le_refl _) o).alloc (by simp) o').trans (hb.mono (by omega))
  exact ⟨s, v, a, c, k, A, C, place, s2, v2, a2, c2, k2, rfl, hS, hpl, hS2, (((((hb'.setCell (Nat.le_refl _) _).setCell (Nat.le_refl _) _).setCell (Nat.le_refl _) _).setCell (by simp) _).setCell (by simp) _).setCell (by simp) _, (hl.same hs).mono (by omega) (by simp), (hi.same hs).mono (by omega) (by simp), (hl2.same hs).mono (by omega) (by simp)⟩

end Go.Proofs.Ytdkcbbhkoibplaa

/-! D4: laApart: whether no one of two places begins with the other. -/
namespace Go.Proofs.Ytdkcbbhkoibplaa
open Go.RowKit Go.Deep

theorem apart_cons (x y : Int) (p q : List Int) : apart (x :: p) (y :: q) = (x != y || apart p q) := rfl
theorem apart_nil_left (q : List Int) : apart [] q = false := by cases q <;> rfl
theorem apart_nil_right (p : List Int) : apart p [] = false := by cases p <;> rfl

set_option maxRecDepth 100000 in
set_option maxHeartbeats 1000000 in
theorem laApart_any (xs ys : List Int) (A B : Option Addr) (ca cb : Nat) (w : World) (hA : ISl w 0 w.heap.size A xs) (hB : ISl w 0 w.heap.size B ys) (hx : xs.length ≤ 2000) (hy : ys.length ≤ 2000) :
    Calls Try.prog 32 #[.slice A xs.length ca, .slice B ys.length cb] w fun e w' => e = .returned (.bool (apart xs ys)) ∧ Below w.heap.size w w' := by
  have HA := Lib.hid hA
  have HB := Lib.hid hB
  clear hA hB
  go_enter Try.func32, Try.ntmps32
  go_wp2_with fail
  go_loopw [5] (fun i wr => ∃ j : Nat, j ≤ xs.length ∧ j ≤ ys.length ∧ i = .int .i64 j ∧ Hid (apart xs ys = apart (xs.drop j) (ys.drop j)) ∧ Below w.heap.size w wr) (fun i _ => xs.length - (intOf i).toNat)
  case atStart => exact ⟨0, by omega, by omega, rfl, by simp [Hid], Below.refl _ _⟩
  case round =>
    obtain ⟨j, hj, hj', rfl, hq, hbl⟩ := hrel
    have hbs := hbl.size
    by_cases hlt : j < xs.length
    · by_cases hlt' : j < ys.length
      · obtain ⟨b, o, rfl, _, hb1, hc⟩ := isl_at (HA.out.below hbl) hlt
        obtain ⟨b', o', rfl, _, hb2, hc'⟩ := isl_at (HB.out.below hbl) hlt'
        have hq1 := hq.out
        rw [List.drop_eq_getElem_cons hlt, List.drop_eq_getElem_cons hlt', apart_cons] at hq1
        have HQ := Lib.hid hq1
        clear hq hq1
        generalize xs[j] = x at hc HQ
        generalize ys[j] = y at hc' HQ
        have hu0 : ∀ u : After wr.heap.size wr, u.world.cell? ⟨b, o + j, none⟩ = some (.int .i64 x) := fun u => u.cell (by simp; omega) hc
        have hu1 : ∀ u : After wr.heap.size wr, u.world.cell? ⟨b', o' + j, none⟩ = some (.int .i64 y) := fun u => u.cell (by simp; omega) hc'
        have g1 : (0 : Int) ≤ (j : Int) := by omega
        have g2 : (j : Int) < (xs.length : Int) := by omega
        have g3 : (j : Int) < (ys.length : Int) := by omega
        have HBL := Lib.hid hbl
        clear hbl
        go_wp2_with fail
        refine wp_region_after wr.heap.size (by kernel_rfl) (by kernel_rfl) ?_
        repeat (go_big_quiet_step (fail))
        refine wpQuiet_nil ?_
        rintro u ⟨⟨_, hu⟩, rfl⟩
        clear hu0 hu1 hc hc'
        have HB2 := Lib.hid (HBL.out.trans (hu.mono hbs))
        clear hu
        by_cases hxy : x = y
        · subst hxy
          have ex : (x != x) = false := by simp
          have HQ2 : Hid (apart xs ys = apart (xs.drop (j + 1)) (ys.drop (j + 1))) := by rw [Hid, HQ.out, ex]; rfl
          go_wp2_with fail
          go_roundw
          case rel => exact ⟨j + 1, by omega, by omega, by go_num, HQ2, HB2.out⟩
          case measure => simp [intOf]; omega
        · have ex : (x != y) = true := by simpa using hxy
          have HE : Hid (apart xs ys = true) := by rw [Hid, HQ.out, ex]; rfl
          go_wp2_with fail
          go_ret
          exact ⟨by rw [HE.out]; rfl, HB2.out⟩
      · have HE : Hid (apart xs ys = false) := by rw [Hid, hq.out, List.drop_eq_nil_of_le (show ys.length ≤ j by omega), apart_nil_right]
        clear hq
        go_wp2_with fail
        go_ret
        exact ⟨by rw [HE.out]; rfl, hbl⟩
    · have HE : Hid (apart xs ys = false) := by rw [Hid, hq.out, List.drop_eq_nil_of_le (show xs.length ≤ j by omega), apart_nil_left]
      clear hq
      go_wp2_with fail
      go_ret
      exact ⟨by rw [HE.out]; rfl, hbl⟩
end Go.Proofs.Ytdkcbbhkoibplaa

/-! FrameO: What every row's closing text needs. -/
namespace Go.Proofs.Ytdkcbbhkoibplaa
theorem Try.own : ownKnob Try.prog.godebug = none := by kernel_rfl
theorem Try.laidOut : laidOutB Try.prog = true := by kernel_rfl
end Go.Proofs.Ytdkcbbhkoibplaa

/-! Frame: A slice of bytes that came in, as the walks take it. -/
namespace Go.Proofs.Ytdkcbbhkoibplaa
open Go.ChangeShapes Go.WideShapes Go.ChangeAt Go.RowKit

/-- A slice of bytes: it is nil; or it leads to a row of cap cells. -/
def IsRow (w : World) (a : Option Addr) (len cap : Nat) (zs : List Int) : Prop :=
  (a = none ∧ len = 0 ∧ cap = 0 ∧ zs = []) ∨
  ∃ x, a = some x ∧ len ≤ cap ∧ cap ≤ maxLen ∧ zs.length = cap ∧ (∀ i, i < zs.length → w.cell? (x.add i) = some (.int .u8 (zs.getD i 0))) ∧ ∀ n ∈ zs, (Lit.int .u8 n).wf = true

theorem bytes_of_row {w : World} {a : Option Addr} {len cap : Nat} {zs : List Int} (h : IsRow w a len cap zs) : Bytes w a len ∧ len ≤ cap := by
  rcases h with ⟨_, h1, h2, _⟩ | ⟨x, rfl, h1, _, h2, h3, h4⟩
  · exact ⟨.inl h1, by omega⟩
  · refine ⟨?_, h1⟩
    by_cases hl : len = 0
    · exact .inl hl
    · obtain ⟨b, o, spot⟩ := x
      have c0 := h3 0 (by omega)
      have hs : spot = none := by simpa [Addr.add] using World.cell?_spot c0
      subst hs
      have ha : ∀ n, (⟨b, o, none⟩ : Addr).add n = ⟨b, o + n, none⟩ := fun n => by unfold Addr.add; split <;> simp_all
      rw [ha] at c0
      refine .inr ⟨b, o, rfl, World.block_lt_of_cell? _ _ c0, fun i hi => ?_⟩
      have ci := h3 i (by omega)
      rw [ha] at ci
      have hm : zs.getD i 0 ∈ zs := by
        rw [List.getD_eq_getElem?_getD, List.getElem?_eq_getElem (by omega)]
        exact List.getElem_mem _
      have hb := bounds_u8 (h4 _ hm)
      obtain ⟨n, hn⟩ := Int.eq_ofNat_of_zero_le hb.1
      exact ⟨n, by omega, by rw [ci, hn]⟩

/-- Out of the reading of an argument. -/
theorem row_of_trod {H : Type} {enc : TypeId × Value → H} {W : World} {a : Option Addr} {len cap : Nat} {d : DataW H} {p : List MemPlace} (h : DataW.Trod enc Try.prog W 0 (fun _ => true) true 52 (.slice a len cap) d p) : ∃ zs, IsRow W a len cap zs := by
  obtain ⟨fuel, hf⟩ := h
  rcases open_ints Try.underlying52 Try.underlying5 (by kernel_rfl) hf with ⟨hcs, _⟩ | ⟨x, l, c, zs, hcs, _, hl, hm, hz, _, hcell, hwz⟩
  · simp [Value.cells] at hcs
    obtain ⟨rfl, rfl, rfl⟩ := hcs
    exact ⟨[], .inl ⟨rfl, rfl, rfl, rfl⟩⟩
  · simp [Value.cells] at hcs
    obtain ⟨rfl, rfl, rfl⟩ := hcs
    exact ⟨zs, .inr ⟨_, rfl, hl, hm, by simpa using hz, hcell, hwz⟩⟩

end Go.Proofs.Ytdkcbbhkoibplaa
