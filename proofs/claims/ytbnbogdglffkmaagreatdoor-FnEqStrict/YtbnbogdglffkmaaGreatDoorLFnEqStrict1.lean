/- Several texts in one: DTR, DER, LawEStrict. -/
import Derived.Test.YtbnbogdglffkmaaGreatDoorKEb19
import Derived.Test.YtbnbogdglffkmaaGreatDoorKEb15
import Derived.Test.YtbnbogdglffkmaaGreatDoorKEb16
import Derived.Test.YtbnbogdglffkmaaGreatDoorKEb3
import Derived.Test.YtbnbogdglffkmaaGreatDoorKEb10
import Derived.Test.YtbnbogdglffkmaaGreatDoorKEb12
import Derived.Test.YtbnbogdglffkmaaGreatDoorKEb22
import Derived.Test.YtbnbogdglffkmaaGreatDoorKEb23

/-! DTR: - DrawTermRead: a text of at most 1000 bytes. -/
namespace Go.Proofs.YtbnbogdglffkmaaGreatDoor
open Go.RowKit Go.Deep

/-- A row of short strings. -/
def StrRow (w : World) (b n : Nat) : Prop := ∀ j, j < n → ∃ X : ByteArray, w.cell? ⟨b, j, none⟩ = some (.string X) ∧ X.size ≤ 20
set_option maxRecDepth 100000 in
set_option maxHeartbeats 1000000 in
theorem of_any (br p b n c : Nat) (w : World) (h : Rd w br p) (hp : p ≤ 1000000000) (hr : StrRow w b n) (hbr : b ≠ br) (hn1 : 1 ≤ n) (hn : n ≤ 100) :
    Calls Tryz.prog 21 #[.pointer (some ⟨br, 0, none⟩), .slice (some ⟨b, 0, none⟩) n c] w fun e w' => ∃ X : ByteArray, e = .returned (.string X) ∧ X.size ≤ 20 ∧ Adv w br (p + 1) w' := by
  have HR := Lib.hid hr
  have HP := Lib.hid (pick_any (n : Int) br p w h hp (by omega) (by omega))
  clear hr h
  go_enter Tryz.func21, Tryz.ntmps21
  go_wp2_with fail
  with_reducible refine HP.out.mono ?_
  rintro e w2 ⟨x, rfl, hx, hb2⟩
  have ha2 : Adv w br (p + 1) w2 := hb2
  have hxn : x < n := by omega
  obtain ⟨X, hX, hXs⟩ := HR.out x hxn
  have hcell : w2.cell? ⟨b, x, none⟩ = some (.string X) := ha2.cell hX (by simpa using hbr)
  have HA := Lib.hid ha2
  clear hX ha2 hb2 hx
  go_wp2_with fail
  go_ret
  exact ⟨X, rfl, hXs, HA.out⟩

theorem strRow_new (w : World) (cs : List ByteArray) (hs : (cs.all fun X => decide (X.size ≤ 20)) = true) (T : TypeId) : StrRow (w.alloc (.cells (cs.map Value.string).toArray T)) w.heap.size cs.length := fun j hj => by
  refine ⟨cs[j], ?_, of_decide_eq_true (List.all_eq_true.1 hs _ (List.getElem_mem hj))⟩
  rw [World.cell?_alloc_at _ _ _ _ rfl]
  simp [hj]

def DtrPost (w : World) (e : Ending) (w' : World) : Prop := ∃ X : ByteArray, e = .returned (.string X) ∧ X.size ≤ 1000 ∧ Below w.heap.size w w'
end Go.Proofs.YtbnbogdglffkmaaGreatDoor

/-! DER: DrawEqRead: a text of at most 1000 bytes. -/
namespace Go.Proofs.YtbnbogdglffkmaaGreatDoor
open Go.RowKit Go.Deep

set_option maxRecDepth 100000 in
set_option maxHeartbeats 2000000 in
theorem DrawEqRead_any (a : Option Addr) (len cap : Nat) (w : World) (hby : Bytes w a len) (hlen : len ≤ cap) :
    Calls Tryz.prog 10 #[.slice a len cap] w (DtrPost w) := by
  have HBY := Lib.hid hby
  clear hby
  go_enter Tryz.func10, Tryz.ntmps10
  go_wp2_with fail
  with_reducible refine (l6Open_any a len cap _ HBY.out hlen).mono ?_
  rintro e w1 ⟨rfl, hb1, hrd⟩
  have hlt1 := hrd.lt
  have HRD := Lib.hid hrd
  have HB1 := Lib.hid hb1
  clear hb1 hrd
  go_wp2_with fail
  with_reducible refine (l71Eq_any w.heap.size 0 _ HRD.out (by omega)).mono ?_
  rintro e w2 ⟨s, v, a2, c2, k, s', v', a2', c2', k', p2, rfl, hz, hsz, hz', hsz', _, hp2, ha2, hl2, hl2'⟩
  have hs2 := ha2.size
  have HRD2 := Lib.hid (ha2.rd HRD.out)
  have HB2 := Lib.hid (adv_low HB1.out (Nat.le_refl _) (by omega) ha2)
  have HL2 := Lib.hid (hl2.mono (lo' := 0) (Nat.zero_le _) (Nat.le_refl _))
  have HL2' := Lib.hid (hl2'.mono (lo' := 0) (Nat.zero_le _) (Nat.le_refl _))
  have hok : okW s v k 16 = true := (okW_iff _ _ _ _).2 ⟨hz.1, hz.2.1, by omega⟩
  have hok' : okW s' v' k' 16 = true := (okW_iff _ _ _ _).2 ⟨hz'.1, hz'.2.1, by omega⟩
  have HO := Lib.hid hok
  have HO' := Lib.hid hok'
  clear ha2 hl2 hl2' hz hz' hsz hsz' hok hok'
  go_wp2_with fail
  with_reducible refine (sEqWrite_any s v a2 c2 k s' v' a2' c2' k' _ HL2.out HL2'.out).mono ?_
  rintro e w3 ⟨rfl, hb3⟩
  have hs3 := hb3.size
  obtain ⟨T, hT⟩ : ∃ T, T = str (etx s v k s' v' k') := ⟨_, rfl⟩
  have hT1 : 1 ≤ T.size := by
    rw [hT, str_size]
    rcases etx_cases s v k s' v' k' with h | ⟨_, _, h⟩
    · rw [etx_ok HO.out HO'.out] at h
      exact absurd (List.append_eq_nil_iff.1 h).1 tx_ne
    · exact Nat.pos_of_ne_zero fun e => h (List.eq_nil_of_length_eq_zero e)
  have hT2 : T.size ≤ 500 := by rw [hT, str_size]; exact etx_len
  have HRD3 := Lib.hid (HRD2.out.next (bl_self hb3 HRD2.out.place))
  have HB3 := Lib.hid (HB2.out.trans (hb3.mono (by omega)))
  rw [← hT]
  clear hb3 hT HO HO' HL2 HL2'
  go_wp2_with fail
  with_reducible refine (pick_any 2 w.heap.size p2 _ HRD3.out (by omega) (by omega) (by omega)).mono ?_
  rintro e w4 ⟨x4, rfl, hx4, hb4⟩
  have ha4 : Adv w3 w.heap.size (p2 + 1) w4 := hb4
  have hs4 := ha4.size
  have HRD4 := Lib.hid (ha4.rd HRD3.out)
  have HB4 := Lib.hid (adv_low HB3.out (Nat.le_refl _) (by omega) ha4)
  clear ha4 hb4
  by_cases hx : x4 = 0
  · subst hx
    go_wp2_with fail
    go_ret
    exact ⟨T, rfl, by omega, HB4.out⟩
  have x0 : ((x4 : Int) == 0) = false := by simpa using hx
  go_wp2_with fail
  with_reducible refine (pick_any (T.size : Int) w.heap.size (p2 + 1) _ HRD4.out (by omega) (by omega) (by omega)).mono ?_
  rintro e w5 ⟨i, rfl, hi, hb5⟩
  have ha5 : Adv w4 w.heap.size (p2 + 1 + 1) w5 := hb5
  have hs5 := ha5.size
  have HRD5 := Lib.hid (ha5.rd HRD4.out)
  have HB5 := Lib.hid (adv_low HB4.out (Nat.le_refl _) (by omega) ha5)
  have hiT : i < T.size := by omega
  clear ha5 hb5 hi
  go_wp2_with fail
  with_reducible refine (pick_any 3 w.heap.size (p2 + 1 + 1) _ HRD5.out (by omega) (by omega) (by omega)).mono ?_
  rintro e w6 ⟨y, rfl, hy, hb6⟩
  have ha6 : Adv w5 w.heap.size (p2 + 1 + 1 + 1) w6 := hb6
  have hs6 := ha6.size
  have HRD6 := Lib.hid (ha6.rd HRD5.out)
  have HB6 := Lib.hid (adv_low HB5.out (Nat.le_refl _) (by omega) ha6)
  clear ha6 hb6
  have hy3 : y = 0 ∨ y = 1 ∨ y = 2 := by omega
  clear hy
  have hlt6 : w.heap.size < w6.heap.size := by omega
  have hile : i ≤ T.size := by omega
  have HRDX : ∀ cs : Array Value, Hid (Rd (w6.alloc (.cells cs 9)).drew w.heap.size (p2 + 1 + 1 + 1)) := fun cs => HRD6.out.next (bl_self ((Below.refl _ _).alloc (Nat.le_refl _) _).drew HRD6.out.place)
  rcases hy3 with rfl | rfl | rfl
  · go_wp2_with fail
    refine wp_region_after w6.heap.size (by kernel_rfl) (by kernel_rfl) ?_
    repeat (go_big_quiet_step (fail))
    refine wpQuiet_nil ?_
    rintro _ ⟨u, rfl⟩
    go_wp2_with fail
    go_ret
    exact ⟨_, rfl, by simp [ByteArray.size_append, ByteArray.size_extract]; omega, HB6.out.trans (u.below.mono (by omega))⟩
  · go_wp2_with fail
    refine wp_region_mix (fun w' => ∃ u : After w.heap.size w6, w' = u.world) [] [(0, 0), (1, 0), (2, 0), (3, 0), (7, 0), (8, 0), (9, 0), (4, 1), (5, 1), (6, 1), (10, 1), (11, 1)] (by kernel_rfl) (by kernel_rfl) ⟨⟨_, (Below.refl _ _).drew⟩, rfl⟩ ?_
    iterate 7
      refine mix_see rfl (fun K hK => ?_)
      go_simp
      refine hK _ ?_
      clear hK K
    refine mix_hold rfl (fun K hK => ?_)
    go_simp
    refine hK _ _ ⟨⟨_, ((Below.refl w.heap.size w6).alloc (by omega) _).drew⟩, rfl⟩ ?_
    clear hK K
    refine mix_hold rfl (fun K hK => ?_)
    go_simp
    have hsr : StrRow (w6.alloc (.cells #[.string ⟨#[32]⟩, .string ⟨#[61]⟩, .string ⟨#[40]⟩, .string ⟨#[97]⟩] 9)).drew w6.heap.size 4 := strRow_new w6 [⟨#[32]⟩, ⟨#[61]⟩, ⟨#[40]⟩, ⟨#[97]⟩] (by decide) _
    have hrx := (HRDX #[.string ⟨#[32]⟩, .string ⟨#[61]⟩, .string ⟨#[40]⟩, .string ⟨#[97]⟩]).out
    have hwx : w6.heap.size ≤ (w6.alloc (.cells #[.string ⟨#[32]⟩, .string ⟨#[61]⟩, .string ⟨#[40]⟩, .string ⟨#[97]⟩] 9)).drew.heap.size := by
      show w6.heap.size ≤ (w6.alloc _).heap.size
      simp
    with_reducible refine (of_any w.heap.size (p2 + 1 + 1 + 1) w6.heap.size 4 4 _ hrx (by omega) hsr (by omega) (by omega) (by omega)).mono ?_
    rintro e w7 ⟨X7, rfl, hX7, ha7⟩
    have hbw : Below w.heap.size w w7 := adv_low (HB6.out.trans (((Below.refl _ _).alloc (Nat.le_refl _) _).drew.mono (by omega))) (Nat.le_refl _) (by omega) ha7
    have hbS : ∃ u : After w.heap.size w6, w7 = u.world := ⟨⟨w7, adv_low (((Below.refl w.heap.size w6).alloc (by omega) _).drew) (Nat.le_refl _) (by omega) ha7⟩, rfl⟩
    have hadd : ¬ 9223372036854775807 < i + X7.size := by omega
    have hadd2 : ¬ 9223372036854775807 < i + X7.size + (T.size - i) := by omega
    have HBW := Lib.hid hbw
    have HBS := Lib.hid hbS
    clear ha7 hbw hbS hsr hrx hwx
    refine hK _ _ HBS.out ?_
    clear hK K
    iterate 3
      refine mix_hold rfl (fun K hK => ?_)
      go_simp
      refine hK _ _ HBS.out ?_
      clear hK K
    refine mix_end ?_
    go_wp2_with fail
    go_ret
    exact ⟨_, rfl, by simp [ByteArray.size_append, ByteArray.size_extract]; omega, HBW.out⟩
  · go_wp2_with fail
    go_ret
    exact ⟨_, rfl, by simp [ByteArray.size_extract]; omega, HB6.out⟩
end Go.Proofs.YtbnbogdglffkmaaGreatDoor

/-! LawEStrict: For every code, laws.FnEqStrict answers true and writes nothing that was there. -/
namespace Go.Proofs.YtbnbogdglffkmaaGreatDoor
open Go.RowKit Go.Deep

theorem eqA_cases {l : List UInt8} {s v : Int} {k : Fo} {s' v' : Int} {k' : Fo} {t : Bool} (h : eqA l = ((s, v, k), (s', v', k'), t)) : fsz k ≤ 15 ∧ fsz k' ≤ 15 ∧ ((t = false ∧ s = 0 ∧ v = 0 ∧ k = .nil ∧ s' = 0 ∧ v' = 0 ∧ k' = .nil) ∨ (t = true ∧ etx s v k s' v' k' = l)) := by
  unfold eqA at h
  split at h
  · rename_i x y hr
    obtain ⟨s2, v2, k2⟩ := x
    obtain ⟨s3, v3, k3⟩ := y
    simp only [Prod.mk.injEq] at h
    obtain ⟨⟨rfl, rfl, rfl⟩, ⟨rfl, rfl, rfl⟩, rfl⟩ := h
    obtain ⟨h1, _, h2, _, h3⟩ := eqR_some hr
    have z1 := ((okW_iff _ _ _ _).1 h1).2.2
    have z2 := ((okW_iff _ _ _ _).1 h2).2.2
    exact ⟨by omega, by omega, .inr ⟨rfl, by rw [etx_ok h1 h2]; exact h3.symm⟩⟩
  · simp only [Prod.mk.injEq] at h
    obtain ⟨⟨rfl, rfl, rfl⟩, ⟨rfl, rfl, rfl⟩, rfl⟩ := h
    exact ⟨by simp [fsz], by simp [fsz], .inl ⟨rfl, rfl, rfl, rfl, rfl, rfl, rfl⟩⟩
theorem sl_nil (w : World) (lo B : Nat) (a : Option Addr) : Sl w lo B a .nil := .inl rfl

set_option maxRecDepth 100000 in
set_option maxHeartbeats 4000000 in
theorem lawEStrict_walk (a : Option Addr) (len cap : Nat) (w : World) (hby : Bytes w a len) (hlen : len ≤ cap) (hE : ErrAt w w.heap.size) (hM : MxAt w) :
    Calls Tryz.prog 4 #[.slice a len cap] w fun e w' => e = .returned (.bool true) ∧ Below w.heap.size w w' := by
  have HBY := Lib.hid hby
  have HE := Lib.hid hE
  have HM := Lib.hid hM
  clear hby hE hM
  by_cases hbig : 1048576 < len
  · go_enter Tryz.func4, Tryz.ntmps4
    go_wp2_with fail
    go_ret
    exact ⟨rfl, Below.refl _ _⟩
  go_enter Tryz.func4, Tryz.ntmps4
  go_wp2_with fail
  with_reducible refine (DrawEqRead_any a len cap _ HBY.out hlen).mono ?_
  rintro e w0 ⟨X, rfl, hX, hb0⟩
  obtain ⟨l, hl⟩ : ∃ l, X = str l := ⟨_, str_of rfl⟩
  subst hl
  rw [str_size] at hX
  have HLEN : Hid (l.length ≤ 1048576) := by show l.length ≤ 1048576; omega
  have hs0 := hb0.size
  have HB0 := Lib.hid hb0
  clear hb0 hX
  go_wp2_with fail
  with_reducible refine (sEqRead_any l _ HLEN.out).mono ?_
  rintro e w2 ⟨a2, c2, s, v, k, a2', c2', s', v', k', t, hR, rfl, hb2, hl2, hl2'⟩
  have HR := Lib.hid hR
  have hs2 := hb2.size
  have hb2' := hb2.alloc hs2 (.cells #[.int .i64 s, .int .i64 v, .slice a2 (flen k) c2, .int .i64 s', .int .i64 v', .slice a2' (flen k') c2'] 27)
  have HB2 := Lib.hid (HB0.out.trans (hb2'.mono (by omega)))
  have HW2 : Hid (Below (w2.heap.size + 1) (w2.alloc (.cells #[.int .i64 s, .int .i64 v, .slice a2 (flen k) c2, .int .i64 s', .int .i64 v', .slice a2' (flen k') c2'] 27)) (w2.alloc (.cells #[.int .i64 s, .int .i64 v, .slice a2 (flen k) c2, .int .i64 s', .int .i64 v', .slice a2' (flen k') c2'] 27))) := Below.refl _ _
  have HLW : Hid (Sl (w2.alloc (.cells #[.int .i64 s, .int .i64 v, .slice a2 (flen k) c2, .int .i64 s', .int .i64 v', .slice a2' (flen k') c2'] 27)) 0 w2.heap.size a2 k) := (hl2.below ((Below.refl _ _).alloc (Nat.le_refl _) _)).mono (Nat.zero_le _) (Nat.le_refl _)
  have HLW' : Hid (Sl (w2.alloc (.cells #[.int .i64 s, .int .i64 v, .slice a2 (flen k) c2, .int .i64 s', .int .i64 v', .slice a2' (flen k') c2'] 27)) 0 w2.heap.size a2' k') := (hl2'.below ((Below.refl _ _).alloc (Nat.le_refl _) _)).mono (Nat.zero_le _) (Nat.le_refl _)
  have HE2 : Hid (ErrAt (w2.alloc (.cells #[.int .i64 s, .int .i64 v, .slice a2 (flen k) c2, .int .i64 s', .int .i64 v', .slice a2' (flen k') c2'] 27)) (w2.alloc (.cells #[.int .i64 s, .int .i64 v, .slice a2 (flen k) c2, .int .i64 s', .int .i64 v', .slice a2' (flen k') c2'] 27)).heap.size) := (HE.out.same (Same.of_below HB2.out)).mono (by simp; omega)
  have HM2 : Hid (MxAt (w2.alloc (.cells #[.int .i64 s, .int .i64 v, .slice a2 (flen k) c2, .int .i64 s', .int .i64 v', .slice a2' (flen k') c2'] 27))) := HM.out.below HB2.out
  clear hb2 hb2' hl2 hl2' hR
  go_wp2_with fail
  with_reducible refine (iEqRead_any l _ HLEN.out HE2.out HM2.out).mono ?_
  rintro e w7 ⟨a7, c7, s7, v7, k7, a7', c7', s7', v7', k7', t7, M, hR7, rfl, hb7, hm, hm', hl7, hl7'⟩
  rw [HR.out] at hR7
  simp only [Prod.mk.injEq] at hR7
  obtain ⟨⟨rfl, rfl, rfl⟩, ⟨rfl, rfl, rfl⟩, rfl⟩ := hR7
  have hs7 := hb7.size
  simp at hs7
  have hb7' := hb7.alloc hb7.size (.cells #[.int .i64 s, .int .i64 v, .slice a7 (flen k) c7, .int .i64 s', .int .i64 v', .slice a7' (flen k') c7'] 27)
  have HB7 := Lib.hid (HB2.out.trans (hb7'.mono (by simp; omega)))
  have HW7 := Lib.hid (HW2.out.trans (hb7'.mono (by simp)))
  have HG7 : Hid (Below (w7.heap.size + 1) (w7.alloc (.cells #[.int .i64 s, .int .i64 v, .slice a7 (flen k) c7, .int .i64 s', .int .i64 v', .slice a7' (flen k') c7'] 27)) (w7.alloc (.cells #[.int .i64 s, .int .i64 v, .slice a7 (flen k) c7, .int .i64 s', .int .i64 v', .slice a7' (flen k') c7'] 27))) := Below.refl _ _
  have hbx : Below w7.heap.size w7 (w7.alloc (.cells #[.int .i64 s, .int .i64 v, .slice a7 (flen k) c7, .int .i64 s', .int .i64 v', .slice a7' (flen k') c7'] 27)) := (Below.refl _ _).alloc (Nat.le_refl _) _
  have HLG : Hid (Sl (w7.alloc (.cells #[.int .i64 s, .int .i64 v, .slice a7 (flen k) c7, .int .i64 s', .int .i64 v', .slice a7' (flen k') c7'] 27)) 0 w7.heap.size a7 k) := (hl7.1.same (Same.of_below (hbx.mono hm'))).mono (Nat.zero_le _) hm'
  have HLG' : Hid (Sl (w7.alloc (.cells #[.int .i64 s, .int .i64 v, .slice a7 (flen k) c7, .int .i64 s', .int .i64 v', .slice a7' (flen k') c7'] 27)) 0 w7.heap.size a7' k') := (hl7'.1.same (Same.of_below hbx)).mono (Nat.zero_le _) (Nat.le_refl _)
  obtain ⟨hsz, hsz', hcase⟩ := eqA_cases HR.out
  have HC := Lib.hid hcase
  clear hb7 hb7' hl7 hl7' hbx hm hm' hcase
  obtain ⟨hw0, hw1, hw2, hw3, hw4, hw5⟩ := box6u rfl HW7.out
  obtain ⟨hz0, hz1, hz2, hz3, hz4, hz5⟩ := box6u rfl HG7.out
  have et : (t != t) = false := by simp
  go_wp2_with fail
  with_reducible refine (laTerm_same 15 s v a7 a2 c7 c2 k _ (HLG.out.mono (Nat.le_refl _) (by simp)) ((HLW.out.below (HW7.out.mono (by omega))).mono (Nat.le_refl _) (by simp; omega)) hsz (by omega)).mono ?_
  rintro e w8 ⟨rfl, hb8⟩
  have hs8 := hb8.size
  simp at hs8
  have HB8 := Lib.hid (HB7.out.trans (hb8.mono (by simp; omega)))
  have HW8 := Lib.hid (HW7.out.trans (hb8.mono (by simp; omega)))
  have HG8 := Lib.hid (HG7.out.trans (hb8.mono (by simp)))
  clear hb8 hw0 hw1 hw2 hw3 hw4 hw5 hz0 hz1 hz2 hz3 hz4 hz5
  obtain ⟨hw0, hw1, hw2, hw3, hw4, hw5⟩ := box6u rfl HW8.out
  obtain ⟨hz0, hz1, hz2, hz3, hz4, hz5⟩ := box6u rfl HG8.out
  go_wp2_with fail
  with_reducible refine (laTerm_same 15 s' v' a7' a2' c7' c2' k' _ ((HLG'.out.below (HG8.out.mono (by omega))).mono (Nat.le_refl _) (by omega)) ((HLW'.out.below (HW8.out.mono (by omega))).mono (Nat.le_refl _) (by omega)) hsz' (by omega)).mono ?_
  rintro e w9 ⟨rfl, hb9⟩
  have hs9 := hb9.size
  have HB9 := Lib.hid (HB8.out.trans (hb9.mono (by omega)))
  have HG9 := Lib.hid (HG8.out.trans (hb9.mono (by omega)))
  clear hb9 hw0 hw1 hw2 hw3 hw4 hw5 hz0 hz1 hz2 hz3 hz4 hz5
  obtain ⟨hz0, hz1, hz2, hz3, hz4, hz5⟩ := box6u rfl HG9.out
  rcases HC.out with ⟨rfl, rfl, rfl, rfl, rfl, rfl, rfl⟩ | ⟨rfl, htx⟩
  · have hla : Calls Tryz.prog 9 #[.agg #[.int .i64 0, .int .i64 0, .slice a7 (flen .nil) c7], .agg #[.int .i64 0, .int .i64 0, .slice none 0 0]] w9 fun e w' => e = .returned (.bool true) ∧ Below w9.heap.size w9 w' :=
      laTerm_same 15 0 0 a7 none c7 0 .nil w9 (sl_nil _ _ _ _) (sl_nil _ _ _ _) (by simp [fsz]) (by omega)
    have HLA := Lib.hid hla
    clear hla
    go_wp2_with fail
    with_reducible refine HLA.out.mono ?_
    rintro e w10 ⟨rfl, hb10⟩
    have HB10 := Lib.hid (HB9.out.trans (hb10.mono (by omega)))
    clear hb10
    go_wp2_with fail
    go_ret
    exact ⟨rfl, HB10.out⟩
  · have HTX := Lib.hid htx
    clear htx
    have e1 : ((str l).toList == (str l).toList) = true := by simp
    go_wp2_with fail
    with_reducible refine (iEqWrite_any s v a7 c7 k s' v' a7' c7' k' _ ((HLG.out.below (HG9.out.mono (by omega))).mono (Nat.le_refl _) (by omega)) ((HLG'.out.below (HG9.out.mono (by omega))).mono (Nat.le_refl _) (by omega))).mono ?_
    rintro e w10 ⟨rfl, hb10⟩
    rw [HTX.out]
    have HB10 := Lib.hid (HB9.out.trans (hb10.mono (by omega)))
    clear hb10
    go_wp2_with fail
    go_ret
    exact ⟨rfl, HB10.out⟩
end Go.Proofs.YtbnbogdglffkmaaGreatDoor
