/- Several texts in one: XSt. -/
import Derived.Test.YtpfkhgiiojikbaaLFnExactSubstThen5
import Derived.Test.YtpfkhgiiojikbaaLFnExactSubstThen6
import Derived.Test.YtpfkhgiiojikbaaKThen15

/-! XSt: For any two slices of binds, laws.FnExactSubstThen answers true and writes nothing that was there. -/
namespace Go.Proofs.Ytpfkhgiiojikbaa
open Go.RowKit Go.Deep

theorem Gs.low {lo hi : Nat} {bs : List Bd} {A : Option Addr} {w w2 : World} {B : Nat} (h : Gs lo hi bs A w) (hb : Below B w w2) (hB : hi ≤ B) : Gs lo hi bs A w2 := ⟨h.bx.same (Same.of_below (hb.mono hB)), Nat.le_trans h.le hb.size⟩
theorem Gs.farB {lo hi : Nat} {bs : List Bd} {A : Option Addr} {w w2 : World} {top : Nat} (h : Gs lo hi bs A w) (hs : w.heap.size ≤ w2.heap.size) (hm : ∀ q, top ≤ q → q < w.heap.size → w2.heap[q]? = w.heap[q]?) (hd : top ≤ lo) : Gs lo hi bs A w2 :=
  ⟨h.bx.same (fun q q1 q2 => hm q (by omega) (by have := h.le; omega)), Nat.le_trans h.le hs⟩
theorem Gx.farB {lo hi : Nat} {bs : List Bd} {A : Option Addr} {w w2 : World} {top : Nat} (h : Gx lo hi bs A w) (hs : w.heap.size ≤ w2.heap.size) (hm : ∀ q, top ≤ q → q < w.heap.size → w2.heap[q]? = w.heap[q]?) (hd : top ≤ lo) : Gx lo hi bs A w2 :=
  ⟨h.bx.same (fun q q1 q2 => hm q (by omega) (by have := h.le; omega)), Nat.le_trans h.le hs⟩
theorem th_tiny {bs us l : List Bd} {t : Bool} (h : thR bs us = (l, t)) : l.length ≤ 16 ∧ (∀ x ∈ l, fsz x.2.2.2 ≤ 15) ∧ mcn l ≤ 600 := by
  cases t with
  | true =>
    have hs := thR_sok h
    have h1 := sok_small hs
    have h2 : ∀ x ∈ l, fsz x.2.2.2 ≤ 15 := fun x hx => (sok_z hs hx).2.2
    have h3 := mcn_small (bs := l) (by omega) h2
    exact ⟨by omega, h2, by omega⟩
  | false =>
    have : l = [] := by
      unfold thR at h
      split at h
      · simp only [Prod.mk.injEq] at h; cases h.2
      · simp only [Prod.mk.injEq] at h; exact h.1.symm
    subst this
    exact ⟨Nat.zero_le _, fun x hx => (by cases hx), by simp [mcn]⟩

set_option maxRecDepth 100000 in
set_option maxHeartbeats 40000000 in
theorem exactSubstThen_walk (A : Option Addr) (C : Nat) (bs : List Bd) (B : Option Addr) (D : Nat) (us : List Bd) (w : World) (h : BSl w 0 w.heap.size A bs) (hmb : bs.length ≤ maxLen) (hall : ∀ x ∈ bs, flen x.2.2.2 ≤ maxLen ∧ fcap x.2.2.2) (h' : BSl w 0 w.heap.size B us) (hmu : us.length ≤ maxLen) (halu : ∀ x ∈ us, flen x.2.2.2 ≤ maxLen ∧ fcap x.2.2.2) :
    Calls Try.prog 5 #[.slice A bs.length C, .slice B us.length D] w fun e w' => e = .returned (.bool true) ∧ Below w.heap.size w w' := by
  have HS : Hid (Rw w.heap.size bs A w) := ⟨h, Nat.le_refl _⟩
  have HU : Hid (Rw w.heap.size us B w) := ⟨h', Nat.le_refl _⟩
  have Hlow : Hid (Below w.heap.size w w) := Below.refl _ _
  have HMB := Lib.hid hmb
  have HALL := Lib.hid hall
  have HMU := Lib.hid hmu
  have HALU := Lib.hid halu
  clear h hmb hall h' hmu halu
  go_enter Try.func5, Try.ntmps5
  go_wp2_with fail
  with_reducible refine (szBindS_any bs A C 1048576 _ HS.out.top HMB.out HALL.out (by omega) (by omega)).mono ?_
  rintro e w1 ⟨rfl, hb⟩
  have Hlow' : Hid (Below w.heap.size w w1) := low_next Hlow.out hb
  have HS' : Hid (Rw w.heap.size bs A w1) := HS.out.next hb
  have HU' : Hid (Rw w.heap.size us B w1) := HU.out.next hb
  clear Hlow HS HU
  have Hlow := Hlow'
  clear Hlow'
  have HS := HS'
  clear HS'
  have HU := HU'
  clear HU'
  clear hb
  rcases szBR_case bs 1048576 with hz | hz
  · rw [hz]
    clear hz
    go_wp2_with fail
    go_ret
    exact ⟨rfl, Hlow.out⟩
  have hfit := (szBR_fit hz (by omega)).1
  have hzl := (szBR_fit hz (by omega)).2
  have HZB : Hid (∀ x ∈ bs, fsz x.2.2.2 ≤ 1048576) := fun x hx => by have := szT_mem hx; omega
  generalize szBR bs 1048576 = z at *
  go_wp2_with fail
  with_reducible refine (szBindS_any us B D z _ HU.out.top HMU.out HALU.out hz hzl).mono ?_
  rintro e w2 ⟨rfl, hb⟩
  have Hlow' : Hid (Below w.heap.size w w2) := low_next Hlow.out hb
  have HS' : Hid (Rw w.heap.size bs A w2) := HS.out.next hb
  have HU' : Hid (Rw w.heap.size us B w2) := HU.out.next hb
  clear Hlow HS HU
  have Hlow := Hlow'
  clear Hlow'
  have HS := HS'
  clear HS'
  have HU := HU'
  clear HU'
  clear hb
  rcases szBR_case us z with hz2 | hz2
  · rw [hz2]
    clear hz2
    go_wp2_with fail
    go_ret
    exact ⟨rfl, Hlow.out⟩
  have hfit2 := (szBR_fit hz2 hzl).1
  have HZU : Hid (∀ x ∈ us, fsz x.2.2.2 ≤ 1048576) := fun x hx => by have := szT_mem hx; omega
  generalize szBR us z = z2 at *
  have hmc : mcn bs ≤ 4000000 := by rw [mcn_szT]; omega
  have hmp := mcn_pos bs
  have hmc2 : mcn us ≤ 4000000 := by rw [mcn_szT]; omega
  have hmp2 := mcn_pos us
  clear hzl
  go_wp2_with fail
  with_reducible refine (toBindS_any bs A C _ HS.out.top (by omega) HZB.out).mono ?_
  rintro e w3 ⟨A5, C5, rfl, hb, hs5⟩
  have Hlow' : Hid (Below w.heap.size w w3) := low_next Hlow.out hb
  have HS' : Hid (Rw w.heap.size bs A w3) := HS.out.next hb
  have HU' : Hid (Rw w.heap.size us B w3) := HU.out.next hb
  clear Hlow HS HU
  have Hlow := Hlow'
  clear Hlow'
  have HS := HS'
  clear HS'
  have HU := HU'
  clear HU'
  clear hb
  have H5 : Hid (Rw w3.heap.size bs A5 w3) := ⟨hs5.bsl.mono (Nat.zero_le _) (Nat.le_refl _), Nat.le_refl _⟩
  clear hs5
  clear hz hz2
  go_wp2_with fail
  with_reducible refine (toBindS_any us B D _ HU.out.top (by omega) HZU.out).mono ?_
  rintro e w4 ⟨A6, C6, rfl, hb, hs6⟩
  have Hlow' : Hid (Below w.heap.size w w4) := low_next Hlow.out hb
  have HS' : Hid (Rw w.heap.size bs A w4) := HS.out.next hb
  have HU' : Hid (Rw w.heap.size us B w4) := HU.out.next hb
  have H5' : Hid (Rw w3.heap.size bs A5 w4) := H5.out.next hb
  clear Hlow HS HU H5
  have Hlow := Hlow'
  clear Hlow'
  have HS := HS'
  clear HS'
  have HU := HU'
  clear HU'
  have H5 := H5'
  clear H5'
  clear hb
  have H6 : Hid (Rw w4.heap.size us A6 w4) := ⟨hs6.bsl.mono (Nat.zero_le _) (Nat.le_refl _), Nat.le_refl _⟩
  clear hs6
  go_wp2_with fail
  with_reducible refine (sSubstThen_any bs us A5 A6 C5 C6 _ H5.out.top H6.out.top (by omega) (by omega)).mono ?_
  rintro e w5 ⟨Aw, Cw, bw, tw, hdw, rfl, hb, hsw⟩
  have HDw := Lib.hid hdw
  clear hdw
  have Hlow' : Hid (Below w.heap.size w w5) := low_next Hlow.out hb
  have HS' : Hid (Rw w.heap.size bs A w5) := HS.out.next hb
  have HU' : Hid (Rw w.heap.size us B w5) := HU.out.next hb
  have H5' : Hid (Rw w3.heap.size bs A5 w5) := H5.out.next hb
  have H6' : Hid (Rw w4.heap.size us A6 w5) := H6.out.next hb
  clear Hlow HS HU H5 H6
  have Hlow := Hlow'
  clear Hlow'
  have HS := HS'
  clear HS'
  have HU := HU'
  clear HU'
  have H5 := H5'
  clear H5'
  have H6 := H6'
  clear H6'
  clear hb
  have Hw : Hid (Rw w5.heap.size bw Aw w5) := ⟨hsw, Nat.le_refl _⟩
  clear hsw
  have HTY := Lib.hid (th_tiny HDw.out)
  clear H5 H6
  have hlow0 := Hlow.out.size
  have hwl0 := Hw.out.le
  go_wp2_with fail
  with_reducible refine (toBindS_any bs A C _ HS.out.top (by omega) HZB.out).mono ?_
  rintro e w6 ⟨Ax, Cx, rfl, hb, hsx⟩
  have hszq := hb.size
  have Hlow' : Hid (Below w.heap.size w w6) := low_next Hlow.out hb
  have HS' : Hid (Rw w.heap.size bs A w6) := HS.out.next hb
  have HU' : Hid (Rw w.heap.size us B w6) := HU.out.next hb
  have Hw' : Hid (Rw w5.heap.size bw Aw w6) := Hw.out.next hb
  clear Hlow HS HU Hw
  have Hlow := Hlow'
  clear Hlow'
  have HS := HS'
  clear HS'
  have HU := HU'
  clear HU'
  have Hw := Hw'
  clear Hw'
  clear hb
  have Hx : Hid (Gs w5.heap.size w6.heap.size bs Ax w6) := ⟨hsx, Nat.le_refl _⟩
  have hszx := hszq
  clear hsx hszq
  go_wp2_with fail
  with_reducible refine (toBindS_any us B D _ HU.out.top (by omega) HZU.out).mono ?_
  rintro e w7 ⟨Ay, Cy, rfl, hb, hsy⟩
  have hszq := hb.size
  have Hlow' : Hid (Below w.heap.size w w7) := low_next Hlow.out hb
  have HS' : Hid (Rw w.heap.size bs A w7) := HS.out.next hb
  have HU' : Hid (Rw w.heap.size us B w7) := HU.out.next hb
  have Hw' : Hid (Rw w5.heap.size bw Aw w7) := Hw.out.next hb
  have Hx' : Hid (Gs w5.heap.size w6.heap.size bs Ax w7) := Hx.out.next hb
  clear Hlow HS HU Hw Hx
  have Hlow := Hlow'
  clear Hlow'
  have HS := HS'
  clear HS'
  have HU := HU'
  clear HU'
  have Hw := Hw'
  clear Hw'
  have Hx := Hx'
  clear Hx'
  clear hb
  have Hy : Hid (Gs w6.heap.size w7.heap.size us Ay w7) := ⟨hsy, Nat.le_refl _⟩
  have hszy := hszq
  clear hsy hszq
  go_wp2_with fail
  with_reducible refine (iSubstThenT_any bs us Ax Ay Cx Cy _ Hx.out.top Hy.out.top (by omega) (by omega)).mono ?_
  rintro e w8 ⟨Ag, Cg, bg, tg, hdg, rfl, hb, hsg⟩
  rw [HDw.out] at hdg
  simp only [Prod.mk.injEq] at hdg
  obtain ⟨rfl, rfl⟩ := hdg
  have hsz8 := hb.size
  have Hlow' : Hid (Below w.heap.size w w8) := low_next Hlow.out hb
  have HS' : Hid (Rw w.heap.size bs A w8) := HS.out.next hb
  have HU' : Hid (Rw w.heap.size us B w8) := HU.out.next hb
  have Hw' : Hid (Rw w5.heap.size bw Aw w8) := Hw.out.next hb
  have Hx' : Hid (Gs w5.heap.size w6.heap.size bs Ax w8) := Hx.out.next hb
  have Hy' : Hid (Gs w6.heap.size w7.heap.size us Ay w8) := Hy.out.next hb
  clear Hlow HS HU Hw Hx Hy
  have Hlow := Hlow'
  clear Hlow'
  have HS := HS'
  clear HS'
  have HU := HU'
  clear HU'
  have Hw := Hw'
  clear Hw'
  have Hx := Hx'
  clear Hx'
  have Hy := Hy'
  clear Hy'
  clear hb
  have Hg : Hid (Gx w7.heap.size w8.heap.size bw Ag w8) := ⟨hsg, Nat.le_refl _⟩
  clear hsg
  have eb : (tw != tw) = false := by simp
  go_wp2_with fail
  with_reducible refine (eqBindS_same bw Ag Aw Cg Cw _ Hg.out.top Hw.out.top (by have := HTY.out.1; omega) (fun x hx => by have := HTY.out.2.1 x hx; omega)).mono ?_
  rintro e w9 ⟨rfl, hb⟩
  have Hlow' : Hid (Below w.heap.size w w9) := low_next Hlow.out hb
  have HS' : Hid (Rw w.heap.size bs A w9) := HS.out.next hb
  have HU' : Hid (Rw w.heap.size us B w9) := HU.out.next hb
  have Hw' : Hid (Rw w5.heap.size bw Aw w9) := Hw.out.next hb
  have Hx' : Hid (Gs w5.heap.size w6.heap.size bs Ax w9) := Hx.out.next hb
  have Hy' : Hid (Gs w6.heap.size w7.heap.size us Ay w9) := Hy.out.next hb
  have Hg' : Hid (Gx w7.heap.size w8.heap.size bw Ag w9) := Hg.out.next hb
  clear Hlow HS HU Hw Hx Hy Hg
  have Hlow := Hlow'
  clear Hlow'
  have HS := HS'
  clear HS'
  have HU := HU'
  clear HU'
  have Hw := Hw'
  clear Hw'
  have Hx := Hx'
  clear Hx'
  have Hy := Hy'
  clear Hy'
  have Hg := Hg'
  clear Hg'
  clear hb
  go_wp2_with fail
  with_reducible refine (toBindS_any bs A C _ HS.out.top (by omega) HZB.out).mono ?_
  rintro e w10 ⟨A9, C9, rfl, hb, hs9⟩
  have Hlow' : Hid (Below w.heap.size w w10) := low_next Hlow.out hb
  have HS' : Hid (Rw w.heap.size bs A w10) := HS.out.next hb
  have HU' : Hid (Rw w.heap.size us B w10) := HU.out.next hb
  have Hw' : Hid (Rw w5.heap.size bw Aw w10) := Hw.out.next hb
  have Hx' : Hid (Gs w5.heap.size w6.heap.size bs Ax w10) := Hx.out.next hb
  have Hy' : Hid (Gs w6.heap.size w7.heap.size us Ay w10) := Hy.out.next hb
  have Hg' : Hid (Gx w7.heap.size w8.heap.size bw Ag w10) := Hg.out.next hb
  clear Hlow HS HU Hw Hx Hy Hg
  have Hlow := Hlow'
  clear Hlow'
  have HS := HS'
  clear HS'
  have HU := HU'
  clear HU'
  have Hw := Hw'
  clear Hw'
  have Hx := Hx'
  clear Hx'
  have Hy := Hy'
  clear Hy'
  have Hg := Hg'
  clear Hg'
  clear hb
  have H9 : Hid (Rw w10.heap.size bs A9 w10) := ⟨hs9.bsl.mono (Nat.zero_le _) (Nat.le_refl _), Nat.le_refl _⟩
  clear hs9
  go_wp2_with fail
  with_reducible refine (eqBindS_same bs Ax A9 Cx C9 _ Hx.out.top H9.out.top (by omega) HZB.out).mono ?_
  rintro e w11 ⟨rfl, hb⟩
  have Hlow' : Hid (Below w.heap.size w w11) := low_next Hlow.out hb
  have HS' : Hid (Rw w.heap.size bs A w11) := HS.out.next hb
  have HU' : Hid (Rw w.heap.size us B w11) := HU.out.next hb
  have Hw' : Hid (Rw w5.heap.size bw Aw w11) := Hw.out.next hb
  have Hx' : Hid (Gs w5.heap.size w6.heap.size bs Ax w11) := Hx.out.next hb
  have Hy' : Hid (Gs w6.heap.size w7.heap.size us Ay w11) := Hy.out.next hb
  have Hg' : Hid (Gx w7.heap.size w8.heap.size bw Ag w11) := Hg.out.next hb
  have H9' : Hid (Rw w10.heap.size bs A9 w11) := H9.out.next hb
  clear Hlow HS HU Hw Hx Hy Hg H9
  have Hlow := Hlow'
  clear Hlow'
  have HS := HS'
  clear HS'
  have HU := HU'
  clear HU'
  have Hw := Hw'
  clear Hw'
  have Hx := Hx'
  clear Hx'
  have Hy := Hy'
  clear Hy'
  have Hg := Hg'
  clear Hg'
  have H9 := H9'
  clear H9'
  clear hb
  clear H9
  go_wp2_with fail
  with_reducible refine (toBindS_any us B D _ HU.out.top (by omega) HZU.out).mono ?_
  rintro e w12 ⟨A8, C8, rfl, hb, hs8⟩
  have Hlow' : Hid (Below w.heap.size w w12) := low_next Hlow.out hb
  have HS' : Hid (Rw w.heap.size bs A w12) := HS.out.next hb
  have HU' : Hid (Rw w.heap.size us B w12) := HU.out.next hb
  have Hw' : Hid (Rw w5.heap.size bw Aw w12) := Hw.out.next hb
  have Hx' : Hid (Gs w5.heap.size w6.heap.size bs Ax w12) := Hx.out.next hb
  have Hy' : Hid (Gs w6.heap.size w7.heap.size us Ay w12) := Hy.out.next hb
  have Hg' : Hid (Gx w7.heap.size w8.heap.size bw Ag w12) := Hg.out.next hb
  clear Hlow HS HU Hw Hx Hy Hg
  have Hlow := Hlow'
  clear Hlow'
  have HS := HS'
  clear HS'
  have HU := HU'
  clear HU'
  have Hw := Hw'
  clear Hw'
  have Hx := Hx'
  clear Hx'
  have Hy := Hy'
  clear Hy'
  have Hg := Hg'
  clear Hg'
  clear hb
  have H8 : Hid (Rw w12.heap.size us A8 w12) := ⟨hs8.bsl.mono (Nat.zero_le _) (Nat.le_refl _), Nat.le_refl _⟩
  clear hs8
  go_wp2_with fail
  with_reducible refine (eqBindS_same us Ay A8 Cy C8 _ Hy.out.top H8.out.top (by omega) HZU.out).mono ?_
  rintro e w13 ⟨rfl, hb⟩
  have Hlow' : Hid (Below w.heap.size w w13) := low_next Hlow.out hb
  have HS' : Hid (Rw w.heap.size bs A w13) := HS.out.next hb
  have HU' : Hid (Rw w.heap.size us B w13) := HU.out.next hb
  have Hw' : Hid (Rw w5.heap.size bw Aw w13) := Hw.out.next hb
  have Hx' : Hid (Gs w5.heap.size w6.heap.size bs Ax w13) := Hx.out.next hb
  have Hy' : Hid (Gs w6.heap.size w7.heap.size us Ay w13) := Hy.out.next hb
  have Hg' : Hid (Gx w7.heap.size w8.heap.size bw Ag w13) := Hg.out.next hb
  have H8' : Hid (Rw w12.heap.size us A8 w13) := H8.out.next hb
  clear Hlow HS HU Hw Hx Hy Hg H8
  have Hlow := Hlow'
  clear Hlow'
  have HS := HS'
  clear HS'
  have HU := HU'
  clear HU'
  have Hw := Hw'
  clear Hw'
  have Hx := Hx'
  clear Hx'
  have Hy := Hy'
  clear Hy'
  have Hg := Hg'
  clear Hg'
  have H8 := H8'
  clear H8'
  clear hb
  clear H8
  have HBXx := Lib.hid Hx.out.bx
  have hxl := Hx.out.le
  have hwl := Hw.out.le
  have hsl := HS.out.le
  have hul := HU.out.le
  go_wp2_with fail
  with_reducible refine (markBindSs_any bs Ax Cx w5.heap.size w6.heap.size 1 _ HBXx.out hxl (by omega) HZB.out (by omega) (by omega) hmc).mono ?_
  rintro e w14 ⟨rfl, hbm, hfar⟩
  have hslow := Hlow.out.size
  clear Hx HBXx
  have Hlow' : Hid (Below w.heap.size w w14) := Hlow.out.trans (hbm.mono (by omega))
  have HS' : Hid (Rw w.heap.size bs A w14) := HS.out.go hbm (by omega)
  have HU' : Hid (Rw w.heap.size us B w14) := HU.out.go hbm (by omega)
  have Hw' : Hid (Rw w5.heap.size bw Aw w14) := Hw.out.go hbm (by omega)
  have Hy' : Hid (Gs w6.heap.size w7.heap.size us Ay w14) := Hy.out.farB hbm.size hfar (by omega)
  have Hg' : Hid (Gx w7.heap.size w8.heap.size bw Ag w14) := Hg.out.farB hbm.size hfar (by omega)
  clear Hlow HS HU Hw Hy Hg
  have Hlow := Hlow'
  clear Hlow'
  have HS := HS'
  clear HS'
  have HU := HU'
  clear HU'
  have Hw := Hw'
  clear Hw'
  have Hy := Hy'
  clear Hy'
  have Hg := Hg'
  clear Hg'
  clear hbm hfar hxl hwl hsl hul hslow
  have HBXy := Lib.hid Hy.out.bx
  have hxl := Hy.out.le
  have hwl := Hw.out.le
  have hsl := HS.out.le
  have hul := HU.out.le
  go_wp2_with fail
  with_reducible refine (markBindSs_any us Ay Cy w6.heap.size w7.heap.size (1 + mcn bs) _ HBXy.out hxl (by omega) HZU.out (by omega) (by omega) hmc2).mono ?_
  rintro e w15 ⟨rfl, hbm, hfar⟩
  have hslow := Hlow.out.size
  clear Hy HBXy
  have Hlow' : Hid (Below w.heap.size w w15) := Hlow.out.trans (hbm.mono (by omega))
  have HS' : Hid (Rw w.heap.size bs A w15) := HS.out.go hbm (by omega)
  have HU' : Hid (Rw w.heap.size us B w15) := HU.out.go hbm (by omega)
  have Hw' : Hid (Rw w5.heap.size bw Aw w15) := Hw.out.go hbm (by omega)
  have Hg' : Hid (Gx w7.heap.size w8.heap.size bw Ag w15) := Hg.out.farB hbm.size hfar (by omega)
  clear Hlow HS HU Hw Hg
  have Hlow := Hlow'
  clear Hlow'
  have HS := HS'
  clear HS'
  have HU := HU'
  clear HU'
  have Hw := Hw'
  clear Hw'
  have Hg := Hg'
  clear Hg'
  clear hbm hfar hxl hwl hsl hul hslow
  have e1 : decide (1 + mcn bs + mcn us < 0) = false := decide_eq_false (by omega)
  go_wp2_with fail
  with_reducible refine (eqBindS_same bw Ag Aw Cg Cw _ Hg.out.top Hw.out.top (by have := HTY.out.1; omega) (fun x hx => by have := HTY.out.2.1 x hx; omega)).mono ?_
  rintro e w16 ⟨rfl, hb⟩
  have Hlow' : Hid (Below w.heap.size w w16) := low_next Hlow.out hb
  have HS' : Hid (Rw w.heap.size bs A w16) := HS.out.next hb
  have HU' : Hid (Rw w.heap.size us B w16) := HU.out.next hb
  have Hw' : Hid (Rw w5.heap.size bw Aw w16) := Hw.out.next hb
  have Hg' : Hid (Gx w7.heap.size w8.heap.size bw Ag w16) := Hg.out.next hb
  clear Hlow HS HU Hw Hg
  have Hlow := Hlow'
  clear Hlow'
  have HS := HS'
  clear HS'
  have HU := HU'
  clear HU'
  have Hw := Hw'
  clear Hw'
  have Hg := Hg'
  clear Hg'
  clear hb
  have hgl := Hg.out.le
  have HBXG := Lib.hid Hg.out.bx
  have hmcg := HTY.out.2.2
  have hmpg := mcn_pos bw
  have hty1 := HTY.out.1
  have hwl := Hw.out.le
  have hsl := HS.out.le
  have hul := HU.out.le
  go_wp2_with fail
  with_reducible refine (markBindS_any bw Ag Cg w7.heap.size w8.heap.size 1 _ HBXG.out hgl (by omega) (fun x hx => by have := HTY.out.2.1 x hx; omega) (by omega) (by omega) (by omega)).mono ?_
  rintro e w17 ⟨rfl, hbm, hfar, hbh⟩
  have hslow := Hlow.out.size
  clear Hg
  have Hhn : Hid (Gh w7.heap.size w8.heap.size bw Ag 1 w17) := ⟨hbh, Nat.le_trans hgl hbm.size⟩
  have Hlow' : Hid (Below w.heap.size w w17) := Hlow.out.trans (hbm.mono (by omega))
  have HS' : Hid (Rw w.heap.size bs A w17) := HS.out.go hbm (by omega)
  have HU' : Hid (Rw w.heap.size us B w17) := HU.out.go hbm (by omega)
  have Hw' : Hid (Rw w5.heap.size bw Aw w17) := Hw.out.go hbm (by omega)
  clear Hlow HS HU Hw
  have Hlow := Hlow'
  clear Hlow'
  have HS := HS'
  clear HS'
  have HU := HU'
  clear HU'
  have Hw := Hw'
  clear Hw'
  have Hh := Hhn
  clear Hhn hbm hfar hbh hslow hwl hsl hul hgl HBXG
  have e2 : decide (1 + mcn bw < 0) = false := decide_eq_false (by omega)
  have e3 : ((1 + mcn bw) != (1 + mcn bw)) = false := by simp
  go_wp2_with fail
  with_reducible refine (heldBindS_any bw Ag Cg w7.heap.size w8.heap.size 1 _ Hh.out.bh Hh.out.le (by omega) (fun x hx => by have := HTY.out.2.1 x hx; omega) (by omega) (by omega) (by omega)).mono ?_
  rintro e w18 ⟨rfl, hb⟩
  have Hlow' : Hid (Below w.heap.size w w18) := low_next Hlow.out hb
  have HS' : Hid (Rw w.heap.size bs A w18) := HS.out.next hb
  have HU' : Hid (Rw w.heap.size us B w18) := HU.out.next hb
  have Hw' : Hid (Rw w5.heap.size bw Aw w18) := Hw.out.next hb
  have Hh' : Hid (Gh w7.heap.size w8.heap.size bw Ag 1 w18) := Hh.out.next hb
  clear Hlow HS HU Hw Hh
  have Hlow := Hlow'
  clear Hlow'
  have HS := HS'
  clear HS'
  have HU := HU'
  clear HU'
  have Hw := Hw'
  clear Hw'
  have Hh := Hh'
  clear Hh'
  clear hb
  go_wp2_with fail
  with_reducible refine (toBindS_any bs A C _ HS.out.top (by omega) HZB.out).mono ?_
  rintro e w19 ⟨A5, C5, rfl, hb, hs5⟩
  have Hlow' : Hid (Below w.heap.size w w19) := low_next Hlow.out hb
  have HS' : Hid (Rw w.heap.size bs A w19) := HS.out.next hb
  have HU' : Hid (Rw w.heap.size us B w19) := HU.out.next hb
  have Hw' : Hid (Rw w5.heap.size bw Aw w19) := Hw.out.next hb
  have Hh' : Hid (Gh w7.heap.size w8.heap.size bw Ag 1 w19) := Hh.out.next hb
  clear Hlow HS HU Hw Hh
  have Hlow := Hlow'
  clear Hlow'
  have HS := HS'
  clear HS'
  have HU := HU'
  clear HU'
  have Hw := Hw'
  clear Hw'
  have Hh := Hh'
  clear Hh'
  clear hb
  have H5 : Hid (Rw w19.heap.size bs A5 w19) := ⟨hs5.bsl.mono (Nat.zero_le _) (Nat.le_refl _), Nat.le_refl _⟩
  clear hs5
  go_wp2_with fail
  with_reducible refine (toBindS_any us B D _ HU.out.top (by omega) HZU.out).mono ?_
  rintro e w20 ⟨A6, C6, rfl, hb, hs6⟩
  have Hlow' : Hid (Below w.heap.size w w20) := low_next Hlow.out hb
  have HS' : Hid (Rw w.heap.size bs A w20) := HS.out.next hb
  have HU' : Hid (Rw w.heap.size us B w20) := HU.out.next hb
  have Hw' : Hid (Rw w5.heap.size bw Aw w20) := Hw.out.next hb
  have Hh' : Hid (Gh w7.heap.size w8.heap.size bw Ag 1 w20) := Hh.out.next hb
  have H5' : Hid (Rw w19.heap.size bs A5 w20) := H5.out.next hb
  clear Hlow HS HU Hw Hh H5
  have Hlow := Hlow'
  clear Hlow'
  have HS := HS'
  clear HS'
  have HU := HU'
  clear HU'
  have Hw := Hw'
  clear Hw'
  have Hh := Hh'
  clear Hh'
  have H5 := H5'
  clear H5'
  clear hb
  have H6 : Hid (Rw w20.heap.size us A6 w20) := ⟨hs6.bsl.mono (Nat.zero_le _) (Nat.le_refl _), Nat.le_refl _⟩
  clear hs6
  go_wp2_with fail
  with_reducible refine (iSubstThen_any bs us A5 A6 C5 C6 _ H5.out.top H6.out.top (by omega) (by omega)).mono ?_
  rintro e w21 ⟨Ah2, Ch2, bh2, th2, hdh2, rfl, hb, hsh2⟩
  rw [HDw.out] at hdh2
  simp only [Prod.mk.injEq] at hdh2
  obtain ⟨rfl, rfl⟩ := hdh2
  have Hlow' : Hid (Below w.heap.size w w21) := low_next Hlow.out hb
  have HS' : Hid (Rw w.heap.size bs A w21) := HS.out.next hb
  have HU' : Hid (Rw w.heap.size us B w21) := HU.out.next hb
  have Hw' : Hid (Rw w5.heap.size bw Aw w21) := Hw.out.next hb
  have Hh' : Hid (Gh w7.heap.size w8.heap.size bw Ag 1 w21) := Hh.out.next hb
  have H5' : Hid (Rw w19.heap.size bs A5 w21) := H5.out.next hb
  have H6' : Hid (Rw w20.heap.size us A6 w21) := H6.out.next hb
  clear Hlow HS HU Hw Hh H5 H6
  have Hlow := Hlow'
  clear Hlow'
  have HS := HS'
  clear HS'
  have HU := HU'
  clear HU'
  have Hw := Hw'
  clear Hw'
  have Hh := Hh'
  clear Hh'
  have H5 := H5'
  clear H5'
  have H6 := H6'
  clear H6'
  clear hb
  have Hk : Hid (Rw w21.heap.size bw Ah2 w21) := ⟨hsh2, Nat.le_refl _⟩
  clear hsh2
  clear H5 H6
  go_wp2_with fail
  with_reducible refine (eqBindS_same bw Ah2 Aw Ch2 Cw _ Hk.out.top Hw.out.top (by omega) (fun x hx => by have := HTY.out.2.1 x hx; omega)).mono ?_
  rintro e w22 ⟨rfl, hb⟩
  have Hlow' : Hid (Below w.heap.size w w22) := low_next Hlow.out hb
  have HS' : Hid (Rw w.heap.size bs A w22) := HS.out.next hb
  have HU' : Hid (Rw w.heap.size us B w22) := HU.out.next hb
  have Hw' : Hid (Rw w5.heap.size bw Aw w22) := Hw.out.next hb
  have Hh' : Hid (Gh w7.heap.size w8.heap.size bw Ag 1 w22) := Hh.out.next hb
  have Hk' : Hid (Rw w21.heap.size bw Ah2 w22) := Hk.out.next hb
  clear Hlow HS HU Hw Hh Hk
  have Hlow := Hlow'
  clear Hlow'
  have HS := HS'
  clear HS'
  have HU := HU'
  clear HU'
  have Hw := Hw'
  clear Hw'
  have Hh := Hh'
  clear Hh'
  have Hk := Hk'
  clear Hk'
  clear hb
  clear Hk
  go_wp2_with fail
  with_reducible refine (heldBindS_any bw Ag Cg w7.heap.size w8.heap.size 1 _ Hh.out.bh Hh.out.le (by omega) (fun x hx => by have := HTY.out.2.1 x hx; omega) (by omega) (by omega) (by omega)).mono ?_
  rintro e w23 ⟨rfl, hb⟩
  have Hlow' : Hid (Below w.heap.size w w23) := low_next Hlow.out hb
  have HS' : Hid (Rw w.heap.size bs A w23) := HS.out.next hb
  have HU' : Hid (Rw w.heap.size us B w23) := HU.out.next hb
  have Hw' : Hid (Rw w5.heap.size bw Aw w23) := Hw.out.next hb
  have Hh' : Hid (Gh w7.heap.size w8.heap.size bw Ag 1 w23) := Hh.out.next hb
  clear Hlow HS HU Hw Hh
  have Hlow := Hlow'
  clear Hlow'
  have HS := HS'
  clear HS'
  have HU := HU'
  clear HU'
  have Hw := Hw'
  clear Hw'
  have Hh := Hh'
  clear Hh'
  clear hb
  go_wp2_with fail
  go_ret
  exact ⟨rfl, Hlow.out⟩
end Go.Proofs.Ytpfkhgiiojikbaa
