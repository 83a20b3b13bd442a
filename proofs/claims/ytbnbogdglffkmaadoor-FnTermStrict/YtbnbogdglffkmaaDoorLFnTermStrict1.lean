/- Several texts in one: LawTStrict. -/
import Derived.Test.YtbnbogdglffkmaaDoorKRt2
import Derived.Test.YtbnbogdglffkmaaDoorKRd16

/-! LawTStrict: For every code, laws.FnTermStrict answers true and writes nothing that was there. -/
namespace Go.Proofs.YtbnbogdglffkmaaDoor
open Go.RowKit Go.Deep

theorem rdA_cases {l : List UInt8} {s v : Int} {k : Fo} {t : Bool} (h : rdA l = (s, v, k, t)) : (t = false ∧ s = 0 ∧ v = 0 ∧ k = .nil) ∨ (t = true ∧ okW s v k 16 = true ∧ fer k = k ∧ tx s v k = l) := by
  unfold rdA at h
  split at h
  · rename_i s2 v2 k2 hr
    simp only [Prod.mk.injEq] at h
    obtain ⟨rfl, rfl, rfl, rfl⟩ := h
    exact .inr ⟨rfl, rdR_some hr⟩
  · simp only [Prod.mk.injEq] at h
    obtain ⟨rfl, rfl, rfl, rfl⟩ := h
    exact .inl ⟨rfl, rfl, rfl, rfl⟩

theorem sl_nil (w : World) (lo B : Nat) (a : Option Addr) : Sl w lo B a .nil := .inl rfl
set_option maxRecDepth 100000 in
set_option maxHeartbeats 2000000 in
theorem lawTStrict_walk (a : Option Addr) (len cap : Nat) (w : World) (hby : Bytes w a len) (hlen : len ≤ cap) (hE : ErrAt w w.heap.size) :
    Calls Tryd.prog 4 #[.slice a len cap] w fun e w' => e = .returned (.bool true) ∧ Below w.heap.size w w' := by
  have HBY := Lib.hid hby
  have HE := Lib.hid hE
  clear hby hE
  by_cases hbig : 1048576 < len
  · go_enter Tryd.func4, Tryd.ntmps4
    go_wp2_with fail
    go_ret
    exact ⟨rfl, Below.refl _ _⟩
  go_enter Tryd.func4, Tryd.ntmps4
  go_wp2_with fail
  with_reducible refine (DrawTermRead_any a len cap _ HBY.out hlen).mono ?_
  rintro e w0 ⟨X, rfl, hX, hb0⟩
  obtain ⟨l, hl⟩ : ∃ l, X = str l := ⟨_, str_of rfl⟩
  subst hl
  rw [str_size] at hX
  have HLEN : Hid (l.length ≤ 1048576) := by show l.length ≤ 1048576; omega
  have hs0 := hb0.size
  have HB0 := Lib.hid hb0
  clear hb0 hX
  go_wp2_with fail
  with_reducible refine (sTermRead_any l _ HLEN.out).mono ?_
  rintro e w2 ⟨a2, c2, s, v, k, t, hR, rfl, hb2, hl2⟩
  have HR := Lib.hid hR
  have hs2 := hb2.size
  have hb2' := hb2.alloc hs2 (.cells #[.int .i64 s, .int .i64 v, .slice a2 (flen k) c2] 25)
  have HB2 := Lib.hid (HB0.out.trans (hb2'.mono (by omega)))
  have HW2 : Hid (Below (w2.heap.size + 1) (w2.alloc (.cells #[.int .i64 s, .int .i64 v, .slice a2 (flen k) c2] 25)) (w2.alloc (.cells #[.int .i64 s, .int .i64 v, .slice a2 (flen k) c2] 25))) := Below.refl _ _
  have HLW : Hid (Sl (w2.alloc (.cells #[.int .i64 s, .int .i64 v, .slice a2 (flen k) c2] 25)) 0 w2.heap.size a2 k) := (hl2.below ((Below.refl _ _).alloc (Nat.le_refl _) _)).mono (Nat.zero_le _) (Nat.le_refl _)
  have hE2 : ErrAt (w2.alloc (.cells #[.int .i64 s, .int .i64 v, .slice a2 (flen k) c2] 25)) (w2.alloc (.cells #[.int .i64 s, .int .i64 v, .slice a2 (flen k) c2] 25)).heap.size := (HE.out.same (Same.of_below HB2.out)).mono (by simp; omega)
  have HE2 := Lib.hid hE2
  clear hb2 hb2' hl2 hR hE2
  go_wp2_with fail
  with_reducible refine (iTermReadT_any l _ HLEN.out HE2.out).mono ?_
  rintro e w7 ⟨a7, c7, s7, v7, k7, t7, hR7, rfl, hb7, hl7⟩
  rw [HR.out] at hR7
  simp only [Prod.mk.injEq] at hR7
  obtain ⟨rfl, rfl, rfl, rfl⟩ := hR7
  have hs7 := hb7.size
  simp at hs7
  have hb7' := hb7.alloc hb7.size (.cells #[.int .i64 s, .int .i64 v, .slice a7 (flen k) c7] 25)
  have HB7 := Lib.hid (HB2.out.trans (hb7'.mono (by simp; omega)))
  have HW7 := Lib.hid (HW2.out.trans (hb7'.mono (by simp)))
  have HG7 : Hid (Below (w7.heap.size + 1) (w7.alloc (.cells #[.int .i64 s, .int .i64 v, .slice a7 (flen k) c7] 25)) (w7.alloc (.cells #[.int .i64 s, .int .i64 v, .slice a7 (flen k) c7] 25))) := Below.refl _ _
  have HLG : Hid (Sl (w7.alloc (.cells #[.int .i64 s, .int .i64 v, .slice a7 (flen k) c7] 25)) 0 w7.heap.size a7 k) := (hl7.1.below ((Below.refl _ _).alloc (Nat.le_refl _) _)).mono (Nat.zero_le _) (Nat.le_refl _)
  have HLGs : Hid (Sl (w7.alloc (.cells #[.int .i64 s, .int .i64 v, .slice a7 (flen k) c7] 25)) 0 (w7.alloc (.cells #[.int .i64 s, .int .i64 v, .slice a7 (flen k) c7] 25)).heap.size a7 k) := HLG.out.mono (Nat.le_refl _) (by simp)
  have hsz : fsz k ≤ 15 := by
    rcases rdA_cases HR.out with ⟨_, _, _, rfl⟩ | ⟨_, h2, _⟩
    · simp [fsz]
    · have := ((okW_iff _ _ _ _).1 h2).2.2; omega
  clear hb7 hb7' hl7
  obtain ⟨hw0, hw1, hw2⟩ := box_cells ⟨_, HW7.out⟩
  dsimp only at hw0 hw1 hw2
  obtain ⟨hz0, hz1, hz2⟩ := box_cells ⟨_, HG7.out⟩
  dsimp only at hz0 hz1 hz2
  have et : (t != t) = false := by simp
  go_wp2_with fail
  with_reducible refine (laTerm_same 15 s v a7 a2 c7 c2 k _ HLGs.out ((HLW.out.below (HW7.out.mono (by omega))).mono (Nat.le_refl _) (by simp; omega)) hsz (by omega)).mono ?_
  rintro e w8 ⟨rfl, hb8⟩
  have hs8 := hb8.size
  simp at hs8
  have HB8 := Lib.hid (HB7.out.trans (hb8.mono (by simp; omega)))
  have HG8 := Lib.hid (HG7.out.trans (hb8.mono (by simp)))
  clear hb8 hw0 hw1 hw2 hz0 hz1 hz2
  obtain ⟨hz0, hz1, hz2⟩ := box_cells ⟨_, HG8.out⟩
  dsimp only at hz0 hz1 hz2
  rcases rdA_cases HR.out with ⟨rfl, rfl, rfl, rfl⟩ | ⟨rfl, hok, _, htx⟩
  · have hla : Calls Tryd.prog 11 #[.agg #[.int .i64 0, .int .i64 0, .slice a7 (flen .nil) c7], .agg #[.int .i64 0, .int .i64 0, .slice none 0 0]] w8 fun e w' => e = .returned (.bool true) ∧ Below w8.heap.size w8 w' :=
      laTerm_same 15 0 0 a7 none c7 0 .nil w8 (sl_nil _ _ _ _) (sl_nil _ _ _ _) (by simp [fsz]) (by omega)
    have HLA := Lib.hid hla
    clear hla
    go_wp2_with fail
    with_reducible refine HLA.out.mono ?_
    rintro e w9 ⟨rfl, hb9⟩
    have HB9 := Lib.hid (HB8.out.trans (hb9.mono (by omega)))
    clear hb9
    go_wp2_with fail
    go_ret
    exact ⟨rfl, HB9.out⟩
  · have HOK := Lib.hid hok
    have HTX := Lib.hid htx
    clear hok htx
    go_wp2_with fail
    with_reducible refine (iTermOk_any s v a7 c7 k _ ((HLG.out.below (HG8.out.mono (by omega))).mono (Nat.le_refl _) (by omega))).mono ?_
    rintro e w9 ⟨he, hb9⟩
    rw [HOK.out] at he
    subst he
    have hs9 := hb9.size
    have HB9 := Lib.hid (HB8.out.trans (hb9.mono (by omega)))
    have HG9 := Lib.hid (HG8.out.trans (hb9.mono (by omega)))
    clear hb9 hz0 hz1 hz2
    obtain ⟨hz0, hz1, hz2⟩ := box_cells ⟨_, HG9.out⟩
    dsimp only at hz0 hz1 hz2
    have e1 : ((str l).toList == (str l).toList) = true := by simp
    go_wp2_with fail
    with_reducible refine (iTermText_any s v a7 c7 k _ ((HLG.out.below (HG9.out.mono (by omega))).mono (Nat.le_refl _) (by omega))).mono ?_
    rintro e w10 ⟨he, hb10⟩
    rw [HOK.out, if_pos rfl, HTX.out] at he
    subst he
    have HB10 := Lib.hid (HB9.out.trans (hb10.mono (by omega)))
    clear hb10
    go_wp2_with fail
    go_ret
    exact ⟨rfl, HB10.out⟩
end Go.Proofs.YtbnbogdglffkmaaDoor
