/- Several texts in one: XMore. -/
import Derived.Test.YtbgjdkpdjclagabKOre15
import Derived.Test.YtbgjdkpdjclagabKOre16

/-! XMore: For every row of numbers and any two terms, laws.FnExactOrderMore answers true and writes nothing that was there. -/
namespace Go.Proofs.Ytbgjdkpdjclagab
open Go.RowKit Go.Deep

theorem szR_fit3 {k : Fo} {l : Int} (h : 0 ≤ szR k l) : (fsz k : Int) ≤ l := by
  unfold szR at h
  split at h
  · assumption
  · omega
theorem szR_le3 (k : Fo) (l : Int) (h : 0 ≤ l) : szR k l ≤ l := by
  unfold szR
  split <;> omega

/-- What holds of the two arguments' boxes in every later world. -/
structure Bx (pA : Option Addr) (xs : List Int) (s v : Int) (a : Option Addr) (c : Nat) (k : Fo) (s' v' : Int) (a' : Option Addr) (c' : Nat) (k' : Fo) (w wn : World) : Prop where
  ints : ISl wn 0 wn.heap.size pA xs
  one : Sl wn 0 wn.heap.size a k
  two : Sl wn 0 wn.heap.size a' k'
  s0 : wn.cell? ⟨w.heap.size, 0, none⟩ = some (.int .i64 s)
  s1 : wn.cell? ⟨w.heap.size, 1, none⟩ = some (.int .i64 v)
  s2 : wn.cell? ⟨w.heap.size, 2, none⟩ = some (.slice a (flen k) c)
  t0 : wn.cell? ⟨w.heap.size + 1, 0, none⟩ = some (.int .i64 s')
  t1 : wn.cell? ⟨w.heap.size + 1, 1, none⟩ = some (.int .i64 v')
  t2 : wn.cell? ⟨w.heap.size + 1, 2, none⟩ = some (.slice a' (flen k') c')
  low : Below w.heap.size w wn
  size : w.heap.size + 2 ≤ wn.heap.size
theorem bx_start {pA : Option Addr} {xs : List Int} {s v : Int} {a : Option Addr} {c : Nat} {k : Fo} {s' v' : Int} {a' : Option Addr} {c' : Nat} {k' : Fo} {w : World} (hp : ISl w 0 w.heap.size pA xs) (hl : Sl w 0 w.heap.size a k) (hl' : Sl w 0 w.heap.size a' k') :
    Bx pA xs s v a c k s' v' a' c' k' w ((w.alloc (.cells #[.int .i64 s, .int .i64 v, .slice a (flen k) c] 35)).alloc (.cells #[.int .i64 s', .int .i64 v', .slice a' (flen k') c'] 35)) := by
  have hb : Below w.heap.size w ((w.alloc (.cells #[.int .i64 s, .int .i64 v, .slice a (flen k) c] 35)).alloc (.cells #[.int .i64 s', .int .i64 v', .slice a' (flen k') c'] 35)) := ((Below.refl _ _).alloc (Nat.le_refl _) _).alloc (by simp) _
  refine ⟨(hp.below hb).mono (Nat.le_refl _) hb.size, (hl.below hb).mono (Nat.le_refl _) hb.size, (hl'.below hb).mono (Nat.le_refl _) hb.size, ?_, ?_, ?_, ?_, ?_, ?_, hb, by simp⟩
  iterate 3
    rw [World.cell?_alloc_lt _ _ _ (by simp), World.cell?_alloc_at _ _ _ _ rfl]; rfl
  iterate 3
    rw [World.cell?_alloc_at _ _ _ _ (by simp)]; rfl
theorem Bx.next {pA : Option Addr} {xs : List Int} {s v : Int} {a : Option Addr} {c : Nat} {k : Fo} {s' v' : Int} {a' : Option Addr} {c' : Nat} {k' : Fo} {w wn wm : World} (h : Bx pA xs s v a c k s' v' a' c' k' w wn) (hb : Below wn.heap.size wn wm) : Bx pA xs s v a c k s' v' a' c' k' w wm :=
  ⟨(h.ints.below hb).mono (Nat.le_refl _) hb.size, (h.one.below hb).mono (Nat.le_refl _) hb.size, (h.two.below hb).mono (Nat.le_refl _) hb.size, cell_low hb h.s0, cell_low hb h.s1, cell_low hb h.s2, cell_low hb h.t0, cell_low hb h.t1, cell_low hb h.t2, h.low.trans (hb.mono (by have := h.size; omega)), Nat.le_trans h.size hb.size⟩

set_option maxRecDepth 100000 in
set_option maxHeartbeats 4000000 in
theorem exactOrderMore_walk (pA : Option Addr) (pC : Nat) (xs : List Int) (s v : Int) (a : Option Addr) (c : Nat) (k : Fo) (s' v' : Int) (a' : Option Addr) (c' : Nat) (k' : Fo) (w : World) (hp : ISl w 0 w.heap.size pA xs) (hpm : xs.length ≤ maxLen) (hl : Sl w 0 w.heap.size a k) (hc : fcap k) (hm : flen k ≤ maxLen) (hl' : Sl w 0 w.heap.size a' k') (hc' : fcap k') (hm' : flen k' ≤ maxLen) :
    Calls Try.prog 4 #[.slice pA xs.length pC, .agg #[.int .i64 s, .int .i64 v, .slice a (flen k) c], .agg #[.int .i64 s', .int .i64 v', .slice a' (flen k') c']] w fun e w' => e = .returned (.bool true) ∧ Below w.heap.size w w' := by
  have HX := Lib.hid (bx_start (s := s) (v := v) (c := c) (s' := s') (v' := v') (c' := c') hp hl hl')
  have HC := Lib.hid hc
  have HM := Lib.hid hm
  have HC' := Lib.hid hc'
  have HM' := Lib.hid hm'
  unfold maxLen at hpm
  clear hp hl hc hm hl' hc' hm'
  by_cases hbig : 1048576 < xs.length
  · go_enter Try.func4, Try.ntmps4
    go_wp2_with fail
    go_ret
    exact ⟨rfl, HX.out.low⟩
  clear hpm
  have hc0 := HX.out.s0
  have hc1 := HX.out.s1
  have hc2 := HX.out.s2
  go_enter Try.func4, Try.ntmps4
  go_wp2_with fail
  generalize ((w.alloc (.cells #[.int .i64 s, .int .i64 v, .slice a (flen k) c] 35)).alloc (.cells #[.int .i64 s', .int .i64 v', .slice a' (flen k') c'] 35)) = w1 at *
  with_reducible refine (szTerm_any HX.out.one HC.out HM.out (by omega) (by omega)).mono ?_
  rintro e w2 ⟨rfl, hb2⟩
  have HX2 := Lib.hid (HX.out.next hb2)
  clear hb2 hc0 hc1 hc2 HX
  rcases szR_case k 1048576 with hz | hz
  · rw [hz]
    clear hz
    go_wp2_with fail
    go_ret
    exact ⟨rfl, HX2.out.low⟩
  have hN := szR_fit hz
  have hzl := szR_le3 k 1048576 (by omega)
  generalize szR k 1048576 = z at *
  have hc0 := HX2.out.t0
  have hc1 := HX2.out.t1
  have hc2 := HX2.out.t2
  go_wp2_with fail
  with_reducible refine (szTerm_any HX2.out.two HC'.out HM'.out (by omega) (by omega)).mono ?_
  rintro e w3 ⟨rfl, hb3⟩
  have HX3 := Lib.hid (HX2.out.next hb3)
  clear hb3 hc0 hc1 hc2 HX2
  rcases szR_case k' z with hz' | hz'
  · rw [hz']
    clear hz'
    go_wp2_with fail
    go_ret
    exact ⟨rfl, HX3.out.low⟩
  have hN' : fsz k' ≤ 1048576 := by have := szR_fit3 hz'; omega
  generalize szR k' z = z' at *
  go_wp2_with fail
  have hu0 : ∀ u : After w3.heap.size w3, u.world.cell? ⟨w.heap.size, 0, none⟩ = some (.int .i64 s) := fun u => cell_low u.below HX3.out.s0
  have hu1 : ∀ u : After w3.heap.size w3, u.world.cell? ⟨w.heap.size, 1, none⟩ = some (.int .i64 v) := fun u => cell_low u.below HX3.out.s1
  have hu2 : ∀ u : After w3.heap.size w3, u.world.cell? ⟨w.heap.size, 2, none⟩ = some (.slice a (flen k) c) := fun u => cell_low u.below HX3.out.s2
  have hu3 : ∀ u : After w3.heap.size w3, u.world.cell? ⟨w.heap.size + 1, 0, none⟩ = some (.int .i64 s') := fun u => cell_low u.below HX3.out.t0
  have hu4 : ∀ u : After w3.heap.size w3, u.world.cell? ⟨w.heap.size + 1, 1, none⟩ = some (.int .i64 v') := fun u => cell_low u.below HX3.out.t1
  have hu5 : ∀ u : After w3.heap.size w3, u.world.cell? ⟨w.heap.size + 1, 2, none⟩ = some (.slice a' (flen k') c') := fun u => cell_low u.below HX3.out.t2
  refine wp_region_mix (fun w' => ∃ u : After w3.heap.size w3, w' = u.world) [] [(0, 0), (2, 0), (4, 0), (1, 1), (3, 1), (5, 1), (6, 1), (7, 1)] (by kernel_rfl) (by kernel_rfl) ⟨⟨_, (Below.refl _ _).drew⟩, rfl⟩ ?_
  iterate 3
    refine mix_see rfl (fun K hK => ?_)
    go_simp
    refine hK _ ?_
    clear hK K
  clear hu0 hu1 hu2 hu3 hu4 hu5
  have HX4 := Lib.hid (HX3.out.next (Below.refl _ _).drew)
  refine mix_hold rfl (fun K hK => ?_)
  go_simp
  with_reducible refine (toIntS_any xs pA pC _ HX4.out.ints (by omega)).mono ?_
  rintro e w5 ⟨A5, C5, rfl, ho5, hb5⟩
  have HX5 := Lib.hid (HX4.out.next hb5)
  have hbb5 : Below w3.heap.size w3 w5 := bl_undrew hb5
  have hs5 := hbb5.size
  have HI5 := Lib.hid (ho5.sl.mono (lo' := 0) (Nat.zero_le _) (Nat.le_refl _))
  refine hK _ _ ⟨⟨_, hbb5⟩, rfl⟩ ?_
  clear hK K ho5 hb5 HX4
  refine mix_hold rfl (fun K hK => ?_)
  go_simp
  with_reducible refine (toTerm_any HX5.out.one hN).mono ?_
  rintro e w6 ⟨a6, c6, rfl, hb6, hl6⟩
  have HX6 := Lib.hid (HX5.out.next hb6)
  have HI6 := Lib.hid ((HI5.out.below hb6).mono (Nat.le_refl _) hb6.size)
  have HL6 := Lib.hid (hl6.mono (lo' := 0) (Nat.zero_le _) (Nat.le_refl _))
  have hbb6 := hbb5.trans (hb6.mono hs5)
  have hs6 := hbb6.size
  refine hK _ _ ⟨⟨_, hbb6⟩, rfl⟩ ?_
  clear hK K hb6 hl6 HX5 HI5
  refine mix_hold rfl (fun K hK => ?_)
  go_simp
  with_reducible refine (toTerm_any HX6.out.two hN').mono ?_
  rintro e w7 ⟨a7, c7, rfl, hb7, hl7⟩
  have HX7 := Lib.hid (HX6.out.next hb7)
  have HI7 := Lib.hid ((HI6.out.below hb7).mono (Nat.le_refl _) hb7.size)
  have HL7 := Lib.hid ((HL6.out.below hb7).mono (Nat.le_refl _) hb7.size)
  have HM7 := Lib.hid (hl7.mono (lo' := 0) (Nat.zero_le _) (Nat.le_refl _))
  have hbb7 := hbb6.trans (hb7.mono hs6)
  have hs7 := hbb7.size
  refine hK _ _ ⟨⟨_, hbb7⟩, rfl⟩ ?_
  clear hK K hb7 hl7 HX6 HI6 HL6
  refine mix_hold rfl (fun K hK => ?_)
  go_simp
  with_reducible refine (sOrderMore_any xs A5 C5 s v a6 c6 k s' v' a7 c7 k' _ HI7.out HL7.out HM7.out).mono ?_
  rintro e w8 ⟨rfl, hb8⟩
  have HX8 := Lib.hid (HX7.out.next hb8)
  have hbb8 := hbb7.trans (hb8.mono hs7)
  have hs8 := hbb8.size
  refine hK _ _ ⟨⟨_, hbb8⟩, rfl⟩ ?_
  clear hK K hb8 HX7 HI7 HL7 HM7
  refine mix_hold rfl (fun K hK => ?_)
  go_simp
  refine hK _ _ ⟨⟨_, hbb8⟩, rfl⟩ ?_
  clear hK K hbb5 hbb6 hbb7 hbb8 hs5 hs6 hs7 hs8 HX3
  refine mix_end ?_
  generalize hok : moreR xs s v k s' v' k' = ok
  have HOK := Lib.hid hok
  clear hok
  go_wp2_with fail
  with_reducible refine (toIntS_any xs pA pC _ HX8.out.ints (by omega)).mono ?_
  rintro e w9 ⟨A9, C9, rfl, ho9, hb9⟩
  have HX9 := Lib.hid (HX8.out.next hb9)
  have HI9 := Lib.hid (ho9.sl.mono (lo' := 0) (Nat.zero_le _) (Nat.le_refl _))
  have hc0 := HX9.out.s0
  have hc1 := HX9.out.s1
  have hc2 := HX9.out.s2
  clear ho9 hb9 HX8
  go_wp2_with fail
  with_reducible refine (toTerm_any HX9.out.one hN).mono ?_
  rintro e w10 ⟨a10, c10, rfl, hb10, hl10⟩
  have hba : Below w10.heap.size w10 (w10.alloc (.cells #[.int .i64 s, .int .i64 v, .slice a10 (flen k) c10] 26)) := (Below.refl _ _).alloc (Nat.le_refl _) _
  have HX10 := Lib.hid ((HX9.out.next hb10).next hba)
  have HI10 := Lib.hid ((((HI9.out.below hb10).mono (Nat.le_refl _) hb10.size).below hba).mono (Nat.le_refl _) hba.size)
  have HL10 := Lib.hid (((hl10.mono (lo' := 0) (Nat.zero_le _) (Nat.le_refl _)).below hba).mono (Nat.le_refl _) hba.size)
  have hd0 := HX10.out.t0
  have hd1 := HX10.out.t1
  have hd2 := HX10.out.t2
  clear hb10 hl10 hc0 hc1 hc2 HX9 HI9 hba
  go_wp2_with fail
  with_reducible refine (toTerm_any HX10.out.two hN').mono ?_
  rintro e w11 ⟨a11, c11, rfl, hb11, hl11⟩
  have hx0 := cell_low hb11 (q := ⟨w10.heap.size, 0, none⟩) (x := .int .i64 s) (by simp)
  have hx1 := cell_low hb11 (q := ⟨w10.heap.size, 1, none⟩) (x := .int .i64 v) (by simp)
  have hx2 := cell_low hb11 (q := ⟨w10.heap.size, 2, none⟩) (x := .slice a10 (flen k) c10) (by simp)
  have hba : Below w11.heap.size w11 (w11.alloc (.cells #[.int .i64 s', .int .i64 v', .slice a11 (flen k') c11] 26)) := (Below.refl _ _).alloc (Nat.le_refl _) _
  have HX11 := Lib.hid ((HX10.out.next hb11).next hba)
  have HI11 := Lib.hid ((((HI10.out.below hb11).mono (Nat.le_refl _) hb11.size).below hba).mono (Nat.le_refl _) hba.size)
  have HL11 := Lib.hid ((((HL10.out.below hb11).mono (Nat.le_refl _) hb11.size).below hba).mono (Nat.le_refl _) hba.size)
  have HM11 := Lib.hid (((hl11.mono (lo' := 0) (Nat.zero_le _) (Nat.le_refl _)).below hba).mono (Nat.le_refl _) hba.size)
  have hy0 := cell_low hba hx0
  have hy1 := cell_low hba hx1
  have hy2 := cell_low hba hx2
  have hv0 : (w11.alloc (.cells #[.int .i64 s', .int .i64 v', .slice a11 (flen k') c11] 26)).cell? ⟨w11.heap.size, 0, none⟩ = some (.int .i64 s') := by rw [World.cell?_alloc_at _ _ _ _ rfl]; rfl
  have hv1 : (w11.alloc (.cells #[.int .i64 s', .int .i64 v', .slice a11 (flen k') c11] 26)).cell? ⟨w11.heap.size, 1, none⟩ = some (.int .i64 v') := by rw [World.cell?_alloc_at _ _ _ _ rfl]; rfl
  have hv2 : (w11.alloc (.cells #[.int .i64 s', .int .i64 v', .slice a11 (flen k') c11] 26)).cell? ⟨w11.heap.size, 2, none⟩ = some (.slice a11 (flen k') c11) := by rw [World.cell?_alloc_at _ _ _ _ rfl]; rfl
  clear hb11 hl11 hd0 hd1 hd2 HX10 HI10 HL10 hba hx0 hx1 hx2
  go_wp2_with fail
  with_reducible refine (iOrderMore_any xs A9 C9 s v a10 c10 k s' v' a11 c11 k' _ HI11.out HL11.out HM11.out).mono ?_
  rw [HOK.out]
  rintro e w12 ⟨rfl, hb12⟩
  have hx0 := cell_low hb12 hy0
  have hx1 := cell_low hb12 hy1
  have hx2 := cell_low hb12 hy2
  have ht0 := cell_low hb12 hv0
  have ht1 := cell_low hb12 hv1
  have ht2 := cell_low hb12 hv2
  have HX12 := Lib.hid (HX11.out.next hb12)
  have HI12 := Lib.hid ((HI11.out.below hb12).mono (Nat.le_refl _) hb12.size)
  have HL12 := Lib.hid ((HL11.out.below hb12).mono (Nat.le_refl _) hb12.size)
  have HM12 := Lib.hid ((HM11.out.below hb12).mono (Nat.le_refl _) hb12.size)
  have e0 : (ok != ok) = false := by simp
  clear hb12 hy0 hy1 hy2 hv0 hv1 hv2 HX11 HI11 HL11 HM11
  go_wp2_with fail
  with_reducible refine (toIntS_any xs pA pC _ HX12.out.ints (by omega)).mono ?_
  rintro e w13 ⟨A13, C13, rfl, ho13, hb13⟩
  have HX13 := Lib.hid (HX12.out.next hb13)
  have HJ13 := Lib.hid (ho13.sl.mono (lo' := 0) (Nat.zero_le _) (Nat.le_refl _))
  have HI13 := Lib.hid ((HI12.out.below hb13).mono (Nat.le_refl _) hb13.size)
  have HL13 := Lib.hid ((HL12.out.below hb13).mono (Nat.le_refl _) hb13.size)
  have HM13 := Lib.hid ((HM12.out.below hb13).mono (Nat.le_refl _) hb13.size)
  have hy0 := cell_low hb13 hx0
  have hy1 := cell_low hb13 hx1
  have hy2 := cell_low hb13 hx2
  have hv0 := cell_low hb13 ht0
  have hv1 := cell_low hb13 ht1
  have hv2 := cell_low hb13 ht2
  clear ho13 hb13 hx0 hx1 hx2 ht0 ht1 ht2 HX12 HI12 HL12 HM12
  go_wp2_with fail
  with_reducible refine (eqIntS_same xs A9 A13 C9 C13 xs.length xs.length _ HI13.out HJ13.out rfl rfl (by omega)).mono ?_
  rintro e w14 ⟨rfl, hb14⟩
  have HX14 := Lib.hid (HX13.out.next hb14)
  have HL14 := Lib.hid ((HL13.out.below hb14).mono (Nat.le_refl _) hb14.size)
  have HM14 := Lib.hid ((HM13.out.below hb14).mono (Nat.le_refl _) hb14.size)
  have hx0 := cell_low hb14 hy0
  have hx1 := cell_low hb14 hy1
  have hx2 := cell_low hb14 hy2
  have ht0 := cell_low hb14 hv0
  have ht1 := cell_low hb14 hv1
  have ht2 := cell_low hb14 hv2
  clear hb14 hy0 hy1 hy2 hv0 hv1 hv2 HX13 HI13 HL13 HM13 HJ13
  have hu0 : ∀ u : After w14.heap.size w14, u.world.cell? ⟨w.heap.size, 0, none⟩ = some (.int .i64 s) := fun u => cell_low u.below HX14.out.s0
  have hu1 : ∀ u : After w14.heap.size w14, u.world.cell? ⟨w.heap.size, 1, none⟩ = some (.int .i64 v) := fun u => cell_low u.below HX14.out.s1
  have hu2 : ∀ u : After w14.heap.size w14, u.world.cell? ⟨w.heap.size, 2, none⟩ = some (.slice a (flen k) c) := fun u => cell_low u.below HX14.out.s2
  have hu3 : ∀ u : After w14.heap.size w14, u.world.cell? ⟨w10.heap.size, 0, none⟩ = some (.int .i64 s) := fun u => cell_low u.below hx0
  have hu4 : ∀ u : After w14.heap.size w14, u.world.cell? ⟨w10.heap.size, 1, none⟩ = some (.int .i64 v) := fun u => cell_low u.below hx1
  have hu5 : ∀ u : After w14.heap.size w14, u.world.cell? ⟨w10.heap.size, 2, none⟩ = some (.slice a10 (flen k) c10) := fun u => cell_low u.below hx2
  go_wp2_with fail
  refine wp_region_mix (fun w' => ∃ u : After w14.heap.size w14, w' = u.world) [] [(0, 0), (1, 0), (2, 1), (3, 1), (4, 1)] (by kernel_rfl) (by kernel_rfl) ⟨⟨_, (Below.refl _ _).drew⟩, rfl⟩ ?_
  iterate 2
    refine mix_see rfl (fun K hK => ?_)
    go_simp
    refine hK _ ?_
    clear hK K
  clear hu0 hu1 hu2 hu3 hu4 hu5
  refine mix_hold rfl (fun K hK => ?_)
  go_simp
  with_reducible refine (toTerm_any (HX14.out.next (Below.refl _ _).drew).one hN).mono ?_
  rintro e w15a ⟨a15, c15, rfl, hba', hla⟩
  have hba : Below w14.heap.size w14 w15a := bl_undrew hba'
  have hsa := hba.size
  have HMa := Lib.hid ((HL14.out.below hba).mono (Nat.le_refl _) hba.size)
  have HNa := Lib.hid (hla.mono (lo' := 0) (Nat.zero_le _) (Nat.le_refl _))
  refine hK _ _ ⟨⟨_, hba⟩, rfl⟩ ?_
  clear hK K hba' hla
  refine mix_hold rfl (fun K hK => ?_)
  go_simp
  with_reducible refine (eqTerm_any (k := k) HMa.out HNa.out hN).mono ?_
  rintro e w15 ⟨rfl, hbb⟩
  have hbc := hba.trans (hbb.mono hsa)
  refine hK _ _ ⟨⟨_, hbc⟩, rfl⟩ ?_
  clear hK K
  refine mix_hold rfl (fun K hK => ?_)
  go_simp
  refine hK _ _ ⟨⟨_, hbc⟩, rfl⟩ ?_
  clear hK K
  refine mix_end ?_
  have HX15 := Lib.hid (HX14.out.next hbc)
  have HM15 := Lib.hid ((HM14.out.below hbc).mono (Nat.le_refl _) hbc.size)
  have hv0 := cell_low hbc ht0
  have hv1 := cell_low hbc ht1
  have hv2 := cell_low hbc ht2
  clear hba hbb hbc hsa HMa HNa HX14 HL14 HM14 hx0 hx1 hx2 ht0 ht1 ht2
  have hu0 : ∀ u : After w15.heap.size w15, u.world.cell? ⟨w.heap.size + 1, 0, none⟩ = some (.int .i64 s') := fun u => cell_low u.below HX15.out.t0
  have hu1 : ∀ u : After w15.heap.size w15, u.world.cell? ⟨w.heap.size + 1, 1, none⟩ = some (.int .i64 v') := fun u => cell_low u.below HX15.out.t1
  have hu2 : ∀ u : After w15.heap.size w15, u.world.cell? ⟨w.heap.size + 1, 2, none⟩ = some (.slice a' (flen k') c') := fun u => cell_low u.below HX15.out.t2
  have hu3 : ∀ u : After w15.heap.size w15, u.world.cell? ⟨w11.heap.size, 0, none⟩ = some (.int .i64 s') := fun u => cell_low u.below hv0
  have hu4 : ∀ u : After w15.heap.size w15, u.world.cell? ⟨w11.heap.size, 1, none⟩ = some (.int .i64 v') := fun u => cell_low u.below hv1
  have hu5 : ∀ u : After w15.heap.size w15, u.world.cell? ⟨w11.heap.size, 2, none⟩ = some (.slice a11 (flen k') c11) := fun u => cell_low u.below hv2
  go_wp2_with fail
  refine wp_region_mix (fun w' => ∃ u : After w15.heap.size w15, w' = u.world) [] [(0, 0), (1, 0), (2, 1), (3, 1), (4, 1)] (by kernel_rfl) (by kernel_rfl) ⟨⟨_, (Below.refl _ _).drew⟩, rfl⟩ ?_
  iterate 2
    refine mix_see rfl (fun K hK => ?_)
    go_simp
    refine hK _ ?_
    clear hK K
  clear hu0 hu1 hu2 hu3 hu4 hu5
  refine mix_hold rfl (fun K hK => ?_)
  go_simp
  with_reducible refine (toTerm_any (HX15.out.next (Below.refl _ _).drew).two hN').mono ?_
  rintro e w16a ⟨a16, c16, rfl, hba', hla⟩
  have hba : Below w15.heap.size w15 w16a := bl_undrew hba'
  have hsa := hba.size
  have HMa := Lib.hid ((HM15.out.below hba).mono (Nat.le_refl _) hba.size)
  have HNa := Lib.hid (hla.mono (lo' := 0) (Nat.zero_le _) (Nat.le_refl _))
  refine hK _ _ ⟨⟨_, hba⟩, rfl⟩ ?_
  clear hK K hba' hla
  refine mix_hold rfl (fun K hK => ?_)
  go_simp
  with_reducible refine (eqTerm_any (k := k') HMa.out HNa.out hN').mono ?_
  rintro e w16 ⟨rfl, hbb⟩
  have hbc := hba.trans (hbb.mono hsa)
  refine hK _ _ ⟨⟨_, hbc⟩, rfl⟩ ?_
  clear hK K
  refine mix_hold rfl (fun K hK => ?_)
  go_simp
  refine hK _ _ ⟨⟨_, hbc⟩, rfl⟩ ?_
  clear hK K
  refine mix_end ?_
  have HX16 := Lib.hid (HX15.out.next hbc)
  clear hba hbb hbc hsa HMa HNa HX15
  go_wp2_with fail
  go_ret
  exact ⟨rfl, HX16.out.low⟩
end Go.Proofs.Ytbgjdkpdjclagab
