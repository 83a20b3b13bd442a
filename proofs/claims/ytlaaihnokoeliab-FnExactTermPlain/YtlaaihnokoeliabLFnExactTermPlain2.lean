/- Several texts in one: XPn. -/
import Derived.Test.YtlaaihnokoeliabLFnExactTermPlain1
import Derived.Test.YtlaaihnokoeliabKPla19
import Derived.Test.YtlaaihnokoeliabKPla24

/-! XPn: For every term, laws.FnExactTermPlain answers true and writes nothing that was there. -/
namespace Go.Proofs.Ytlaaihnokoeliab
open Go.RowKit Go.Deep

theorem toTermT_anyP {s v : Int} {a : Option Addr} {c : Nat} {k : Fo} {w : World} (hl : Sl w 0 w.heap.size a k) (hN : fsz k ≤ 1048576) :
    Calls Try.prog 25 #[.agg #[.int .i64 s, .int .i64 v, .slice a (flen k) c]] w (ToPostT s v k w) :=
  toTerm_ofT s v a c k w fun w1 hb1 => toTermS_anyT (fsz k) a c k w1 ((hl.below hb1).mono (Nat.le_refl _) hb1.size) (Nat.le_refl _) hN
theorem pl_tiny {s v : Int} {k : Fo} {s' v' : Int} {k' : Fo} {bs : List Bd} (h : plR s v k = ((s', v', k'), bs)) : fsz k' ≤ 15 ∧ bs.length ≤ 12 ∧ (∀ x ∈ bs, fsz x.2.2.2 ≤ 15) ∧ mcn bs ≤ 600 := by
  have h0 := plR_small h
  have h2 : ∀ x ∈ bs, fsz x.2.2.2 ≤ 15 := by
    rcases plR_cases h with ⟨_, _, _, _, rfl⟩ | ⟨hok, rfl, _⟩
    · intro x hx; cases hx
    · intro x hx
      have := (nms_bof hok x.1 x.2 (sv_mem (nms_in hok).1 hx)).2.2
      omega
  have h3 := mcn_small (bs := bs) (by have := h0.2.1; omega) h2
  exact ⟨h0.1, h0.2.1, h2, by have := h0.2.1; omega⟩

set_option maxRecDepth 100000 in
set_option maxHeartbeats 4000000 in
theorem exactPlain_walk (s v : Int) (a : Option Addr) (c : Nat) (k : Fo) (w : World) (hl : Sl w 0 w.heap.size a k) (hc : fcap k) (hm : flen k ≤ maxLen) :
    Calls Try.prog 8 #[.agg #[.int .i64 s, .int .i64 v, .slice a (flen k) c]] w fun e w' => e = .returned (.bool true) ∧ Below w.heap.size w w' := by
  have hb0 : Below w.heap.size w (w.alloc (.cells #[.int .i64 s, .int .i64 v, .slice a (flen k) c] 48)) := (Below.refl _ _).alloc (Nat.le_refl _) _
  have hz0 : (w.alloc (.cells #[.int .i64 s, .int .i64 v, .slice a (flen k) c] 48)).heap.size = w.heap.size + 1 := by simp
  obtain ⟨p0, p1, p2⟩ := one_box (Below.refl (w.heap.size + 1) (w.alloc (.cells #[.int .i64 s, .int .i64 v, .slice a (flen k) c] 48)))
  have Hp : Hid (Tq (w.heap.size + 1) w.heap.size s v a c k (w.alloc (.cells #[.int .i64 s, .int .i64 v, .slice a (flen k) c] 48))) := ⟨p0, p1, p2, by omega, (hl.below hb0).mono (Nat.le_refl _) (by omega), by omega⟩
  have Hlow : Hid (Below w.heap.size w (w.alloc (.cells #[.int .i64 s, .int .i64 v, .slice a (flen k) c] 48))) := hb0
  have HC := Lib.hid hc
  have HM := Lib.hid hm
  clear hl hc hm hb0 hz0 p0 p1 p2
  go_enter Try.func8, Try.ntmps8
  have qp0 := Hp.out.c0
  have qp1 := Hp.out.c1
  have qp2 := Hp.out.c2
  go_wp2_with fail
  with_reducible refine (szTerm_any Hp.out.top HC.out HM.out (by omega) (by omega)).mono ?_
  rintro e w1 ⟨rfl, hb⟩
  clear qp0 qp1 qp2
  have Hlow' : Hid (Below w.heap.size w w1) := low_next Hlow.out hb
  have Hp' : Hid (Tq (w.heap.size + 1) w.heap.size s v a c k w1) := Hp.out.next hb
  clear Hlow Hp
  have Hlow := Hlow'
  clear Hlow'
  have Hp := Hp'
  clear Hp'
  clear hb
  rcases szR_case k 1048576 with hz | hz
  · rw [hz]
    clear hz
    go_wp2_with fail
    go_ret
    exact ⟨rfl, Hlow.out⟩
  have hN := szR_fit hz
  generalize szR k 1048576 = z at *
  have qp0 := Hp.out.c0
  have qp1 := Hp.out.c1
  have qp2 := Hp.out.c2
  go_wp2_with fail
  with_reducible refine (toTerm_any Hp.out.top hN).mono ?_
  rintro e w2 ⟨a5, c5, rfl, hb, hl5⟩
  clear qp0 qp1 qp2
  have Hlow' : Hid (Below w.heap.size w w2) := low_next Hlow.out hb
  have Hp' : Hid (Tq (w.heap.size + 1) w.heap.size s v a c k w2) := Hp.out.next hb
  clear Hlow Hp
  have Hlow := Hlow'
  clear Hlow'
  have Hp := Hp'
  clear Hp'
  clear hb
  clear hz
  have HT5 : Hid (Sl w2 0 w2.heap.size a5 k) := hl5.mono (Nat.zero_le _) (Nat.le_refl _)
  clear hl5
  go_wp2_with fail
  with_reducible refine (sTermPlain_any s v a5 c5 k _ HT5.out).mono ?_
  rintro e w3 ⟨aw, cw, Aw, Cw, sw, vw, kw, bw, hdw, rfl, hb, hlw, hsw⟩
  have HDw := Lib.hid hdw
  clear hdw
  have Hlow' : Hid (Below w.heap.size w w3) := low_next Hlow.out hb
  have Hp' : Hid (Tq (w.heap.size + 1) w.heap.size s v a c k w3) := Hp.out.next hb
  clear Hlow Hp
  have Hlow := Hlow'
  clear Hlow'
  have Hp := Hp'
  clear Hp'
  clear hb
  clear HT5
  have hb : Below w3.heap.size w3 (w3.alloc (.cells #[.int .i64 sw, .int .i64 vw, .slice aw (flen kw) cw] 25)) := (Below.refl _ _).alloc (Nat.le_refl _) _
  have hwz : (w3.alloc (.cells #[.int .i64 sw, .int .i64 vw, .slice aw (flen kw) cw] 25)).heap.size = w3.heap.size + 1 := by simp
  obtain ⟨b0, b1, b2⟩ := one_box (Below.refl (w3.heap.size + 1) (w3.alloc (.cells #[.int .i64 sw, .int .i64 vw, .slice aw (flen kw) cw] 25)))
  have Hwn : Hid (Tq (w3.heap.size + 1) w3.heap.size sw vw aw cw kw (w3.alloc (.cells #[.int .i64 sw, .int .i64 vw, .slice aw (flen kw) cw] 25))) := ⟨b0, b1, b2, by omega, (hlw.below hb).mono (Nat.le_refl _) (by omega), by omega⟩
  have Hrn : Hid (Rw (w3.heap.size + 1) bw Aw (w3.alloc (.cells #[.int .i64 sw, .int .i64 vw, .slice aw (flen kw) cw] 25))) := ⟨(hsw.below hb).mono (Nat.le_refl _) (by omega), by omega⟩
  have hn1 := Hp.out.le
  have Hlow' : Hid (Below w.heap.size w (w3.alloc (.cells #[.int .i64 sw, .int .i64 vw, .slice aw (flen kw) cw] 25))) := low_next Hlow.out hb
  have Hp' : Hid (Tq (w.heap.size + 1) w.heap.size s v a c k (w3.alloc (.cells #[.int .i64 sw, .int .i64 vw, .slice aw (flen kw) cw] 25))) := Hp.out.next hb
  clear Hlow Hp
  have Hlow := Hlow'
  clear Hlow'
  have Hp := Hp'
  clear Hp'
  have Hw := Hwn
  have Hr := Hrn
  clear Hwn Hrn hb hlw hsw hwz b0 b1 b2
  have HTY := Lib.hid (pl_tiny HDw.out)
  have qp0 := Hp.out.c0
  have qp1 := Hp.out.c1
  have qp2 := Hp.out.c2
  go_wp2_with fail
  with_reducible refine (toTermT_anyP Hp.out.top hN).mono ?_
  rintro e w4 ⟨ax, cx, rfl, hb, hlx⟩
  clear qp0 qp1 qp2
  have hsx : w3.heap.size + 1 ≤ w4.heap.size := by have := hb.size; simpa using this
  have hsx0 := hb.size
  have Hlow' : Hid (Below w.heap.size w w4) := low_next Hlow.out hb
  have Hp' : Hid (Tq (w.heap.size + 1) w.heap.size s v a c k w4) := Hp.out.next hb
  have Hw' : Hid (Tq (w3.heap.size + 1) w3.heap.size sw vw aw cw kw w4) := Hw.out.next hb
  have Hr' : Hid (Rw (w3.heap.size + 1) bw Aw w4) := Hr.out.next hb
  clear Hlow Hp Hw Hr
  have Hlow := Hlow'
  clear Hlow'
  have Hp := Hp'
  clear Hp'
  have Hw := Hw'
  clear Hw'
  have Hr := Hr'
  clear Hr'
  clear hb
  have Hxn : Hid (Xb (w3.heap.size + 1) w4.heap.size w4.heap.size s v ax cx k (w4.alloc (.cells #[.int .i64 s, .int .i64 v, .slice ax (flen k) cx] 25))) := Xb.new (hlx.mono (by simp) (Nat.le_refl _)) hsx _
  have hb : Below w4.heap.size w4 (w4.alloc (.cells #[.int .i64 s, .int .i64 v, .slice ax (flen k) cx] 25)) := (Below.refl _ _).alloc (Nat.le_refl _) _
  clear hlx hsx0
  have Hlow' : Hid (Below w.heap.size w (w4.alloc (.cells #[.int .i64 s, .int .i64 v, .slice ax (flen k) cx] 25))) := low_next Hlow.out hb
  have Hp' : Hid (Tq (w.heap.size + 1) w.heap.size s v a c k (w4.alloc (.cells #[.int .i64 s, .int .i64 v, .slice ax (flen k) cx] 25))) := Hp.out.next hb
  have Hw' : Hid (Tq (w3.heap.size + 1) w3.heap.size sw vw aw cw kw (w4.alloc (.cells #[.int .i64 s, .int .i64 v, .slice ax (flen k) cx] 25))) := Hw.out.next hb
  have Hr' : Hid (Rw (w3.heap.size + 1) bw Aw (w4.alloc (.cells #[.int .i64 s, .int .i64 v, .slice ax (flen k) cx] 25))) := Hr.out.next hb
  clear Hlow Hp Hw Hr
  have Hlow := Hlow'
  clear Hlow'
  have Hp := Hp'
  clear Hp'
  have Hw := Hw'
  clear Hw'
  have Hr := Hr'
  clear Hr'
  have Hx := Hxn
  clear Hxn hb
  have qx0 := Hx.out.c0
  have qx1 := Hx.out.c1
  have qx2 := Hx.out.c2
  go_wp2_with fail
  with_reducible refine (iTermPlainT_any s v ax cx k _ Hx.out.top).mono ?_
  rintro e w5 ⟨ag, cg, Ag, Cg, sg, vg, kg, bg, ng, hdg, rfl, hb, hbx, htx, hng, hng2⟩
  rw [HDw.out] at hdg
  simp only [Prod.mk.injEq] at hdg
  obtain ⟨⟨rfl, rfl, rfl⟩, rfl⟩ := hdg
  clear qx0 qx1 qx2
  have hug : w4.heap.size + 1 ≤ ng := by have h9 := hng; simpa using h9
  have Hlow' : Hid (Below w.heap.size w w5) := low_next Hlow.out hb
  have Hp' : Hid (Tq (w.heap.size + 1) w.heap.size s v a c k w5) := Hp.out.next hb
  have Hw' : Hid (Tq (w3.heap.size + 1) w3.heap.size sw vw aw cw kw w5) := Hw.out.next hb
  have Hr' : Hid (Rw (w3.heap.size + 1) bw Aw w5) := Hr.out.next hb
  have Hx' : Hid (Xb (w3.heap.size + 1) w4.heap.size w4.heap.size s v ax cx k w5) := Hx.out.next hb
  clear Hlow Hp Hw Hr Hx
  have Hlow := Hlow'
  clear Hlow'
  have Hp := Hp'
  clear Hp'
  have Hw := Hw'
  clear Hw'
  have Hr := Hr'
  clear Hr'
  have Hx := Hx'
  clear Hx'
  clear hb hng
  have hb : Below w5.heap.size w5 (w5.alloc (.cells #[.int .i64 sw, .int .i64 vw, .slice ag (flen kw) cg] 25)) := (Below.refl _ _).alloc (Nat.le_refl _) _
  have Hgn : Hid (Yb ng w5.heap.size w5.heap.size sw vw ag cg kw (w5.alloc (.cells #[.int .i64 sw, .int .i64 vw, .slice ag (flen kw) cg] 25))) := Yb.new htx hng2 _
  have Hbn : Hid (Gx (w4.heap.size + 1) ng bw Ag (w5.alloc (.cells #[.int .i64 sw, .int .i64 vw, .slice ag (flen kw) cg] 25))) := ⟨(hbx.same (Same.of_below (hb.mono hng2))).mono (by simp) (Nat.le_refl _), Nat.le_trans hng2 hb.size⟩
  have Hlow' : Hid (Below w.heap.size w (w5.alloc (.cells #[.int .i64 sw, .int .i64 vw, .slice ag (flen kw) cg] 25))) := low_next Hlow.out hb
  have Hp' : Hid (Tq (w.heap.size + 1) w.heap.size s v a c k (w5.alloc (.cells #[.int .i64 sw, .int .i64 vw, .slice ag (flen kw) cg] 25))) := Hp.out.next hb
  have Hw' : Hid (Tq (w3.heap.size + 1) w3.heap.size sw vw aw cw kw (w5.alloc (.cells #[.int .i64 sw, .int .i64 vw, .slice ag (flen kw) cg] 25))) := Hw.out.next hb
  have Hr' : Hid (Rw (w3.heap.size + 1) bw Aw (w5.alloc (.cells #[.int .i64 sw, .int .i64 vw, .slice ag (flen kw) cg] 25))) := Hr.out.next hb
  have Hx' : Hid (Xb (w3.heap.size + 1) w4.heap.size w4.heap.size s v ax cx k (w5.alloc (.cells #[.int .i64 sw, .int .i64 vw, .slice ag (flen kw) cg] 25))) := Hx.out.next hb
  clear Hlow Hp Hw Hr Hx
  have Hlow := Hlow'
  clear Hlow'
  have Hp := Hp'
  clear Hp'
  have Hw := Hw'
  clear Hw'
  have Hr := Hr'
  clear Hr'
  have Hx := Hx'
  clear Hx'
  have Hg := Hgn
  have Hb := Hbn
  clear Hgn Hbn hb hbx htx
  have qg0 := Hg.out.c0
  have qg1 := Hg.out.c1
  have qg2 := Hg.out.c2
  have qw0 := Hw.out.c0
  have qw1 := Hw.out.c1
  have qw2 := Hw.out.c2
  go_wp2_with fail
  with_reducible refine (eqTerm_any (k := kw) Hg.out.top Hw.out.top (by have := HTY.out.1; omega)).mono ?_
  rintro e w6 ⟨rfl, hb⟩
  clear qg0 qg1 qg2 qw0 qw1 qw2
  have Hlow' : Hid (Below w.heap.size w w6) := low_next Hlow.out hb
  have Hp' : Hid (Tq (w.heap.size + 1) w.heap.size s v a c k w6) := Hp.out.next hb
  have Hw' : Hid (Tq (w3.heap.size + 1) w3.heap.size sw vw aw cw kw w6) := Hw.out.next hb
  have Hr' : Hid (Rw (w3.heap.size + 1) bw Aw w6) := Hr.out.next hb
  have Hx' : Hid (Xb (w3.heap.size + 1) w4.heap.size w4.heap.size s v ax cx k w6) := Hx.out.next hb
  have Hg' : Hid (Yb ng w5.heap.size w5.heap.size sw vw ag cg kw w6) := Hg.out.next hb
  have Hb' : Hid (Gx (w4.heap.size + 1) ng bw Ag w6) := Hb.out.next hb
  clear Hlow Hp Hw Hr Hx Hg Hb
  have Hlow := Hlow'
  clear Hlow'
  have Hp := Hp'
  clear Hp'
  have Hw := Hw'
  clear Hw'
  have Hr := Hr'
  clear Hr'
  have Hx := Hx'
  clear Hx'
  have Hg := Hg'
  clear Hg'
  have Hb := Hb'
  clear Hb'
  clear hb
  go_wp2_with fail
  with_reducible refine (eqBindS_same bw Ag Aw Cg Cw _ Hb.out.top Hr.out.top (by have := HTY.out.2.1; omega) (fun x hx => by have := HTY.out.2.2.1 x hx; omega)).mono ?_
  rintro e w7 ⟨rfl, hb⟩
  have Hlow' : Hid (Below w.heap.size w w7) := low_next Hlow.out hb
  have Hp' : Hid (Tq (w.heap.size + 1) w.heap.size s v a c k w7) := Hp.out.next hb
  have Hw' : Hid (Tq (w3.heap.size + 1) w3.heap.size sw vw aw cw kw w7) := Hw.out.next hb
  have Hr' : Hid (Rw (w3.heap.size + 1) bw Aw w7) := Hr.out.next hb
  have Hx' : Hid (Xb (w3.heap.size + 1) w4.heap.size w4.heap.size s v ax cx k w7) := Hx.out.next hb
  have Hg' : Hid (Yb ng w5.heap.size w5.heap.size sw vw ag cg kw w7) := Hg.out.next hb
  have Hb' : Hid (Gx (w4.heap.size + 1) ng bw Ag w7) := Hb.out.next hb
  clear Hlow Hp Hw Hr Hx Hg Hb
  have Hlow := Hlow'
  clear Hlow'
  have Hp := Hp'
  clear Hp'
  have Hw := Hw'
  clear Hw'
  have Hr := Hr'
  clear Hr'
  have Hx := Hx'
  clear Hx'
  have Hg := Hg'
  clear Hg'
  have Hb := Hb'
  clear Hb'
  clear hb
  have hu0 : ∀ u : After w7.heap.size w7, u.world.cell? ⟨w4.heap.size, 0, none⟩ = some (.int .i64 s) := fun u => cell_low u.below Hx.out.c0
  have hu1 : ∀ u : After w7.heap.size w7, u.world.cell? ⟨w4.heap.size, 1, none⟩ = some (.int .i64 v) := fun u => cell_low u.below Hx.out.c1
  have hu2 : ∀ u : After w7.heap.size w7, u.world.cell? ⟨w4.heap.size, 2, none⟩ = some (.slice ax (flen k) cx) := fun u => cell_low u.below Hx.out.c2
  have hu3 : ∀ u : After w7.heap.size w7, u.world.cell? ⟨w.heap.size, 0, none⟩ = some (.int .i64 s) := fun u => cell_low u.below Hp.out.c0
  have hu4 : ∀ u : After w7.heap.size w7, u.world.cell? ⟨w.heap.size, 1, none⟩ = some (.int .i64 v) := fun u => cell_low u.below Hp.out.c1
  have hu5 : ∀ u : After w7.heap.size w7, u.world.cell? ⟨w.heap.size, 2, none⟩ = some (.slice a (flen k) c) := fun u => cell_low u.below Hp.out.c2
  go_wp2_with fail
  refine wp_region_mix (fun w' => ∃ u : After w7.heap.size w7, w' = u.world) [] [(0, 0), (1, 0), (2, 1), (3, 1), (4, 0)] (by kernel_rfl) (by kernel_rfl) ⟨⟨_, (Below.refl _ _).drew⟩, rfl⟩ ?_
  have HBD : Hid (Below w7.heap.size w7 w7.drew) := (Below.refl _ _).drew
  generalize w7.drew = wd at *
  refine mix_see rfl (fun K hK => ?_)
  go_simp
  refine hK _ ?_
  clear hK K
  refine mix_see rfl (fun K hK => ?_)
  go_simp
  refine hK _ ?_
  clear hK K
  refine mix_hold rfl (fun K hK => ?_)
  go_simp
  with_reducible refine (toTerm_any (Hp.out.next HBD.out).top hN).mono ?_
  rintro e w8 ⟨ap9, cp9, rfl, hb, hl9⟩
  have HT9 := Lib.hid (hl9.mono (lo' := 0) (Nat.zero_le _) (Nat.le_refl _))
  clear hl9
  replace HBD := Lib.hid (low_next HBD.out hb)
  refine hK _ _ ⟨⟨_, HBD.out⟩, rfl⟩ ?_
  clear hK K hb
  refine mix_hold rfl (fun K hK => ?_)
  go_simp
  with_reducible refine (eqTerm_any (k := k) (Hx.out.next HBD.out).top HT9.out hN).mono ?_
  rintro e w9 ⟨rfl, hb⟩
  clear HT9
  replace HBD := Lib.hid (low_next HBD.out hb)
  refine hK _ _ ⟨⟨_, HBD.out⟩, rfl⟩ ?_
  clear hK K hb
  refine mix_see rfl (fun K hK => ?_)
  go_simp
  refine hK _ ?_
  clear hK K
  refine mix_end ?_
  clear hu0 hu1 hu2 hu3 hu4 hu5
  have Hlow' : Hid (Below w.heap.size w w9) := low_next Hlow.out HBD.out
  have Hp' : Hid (Tq (w.heap.size + 1) w.heap.size s v a c k w9) := Hp.out.next HBD.out
  have Hw' : Hid (Tq (w3.heap.size + 1) w3.heap.size sw vw aw cw kw w9) := Hw.out.next HBD.out
  have Hr' : Hid (Rw (w3.heap.size + 1) bw Aw w9) := Hr.out.next HBD.out
  have Hx' : Hid (Xb (w3.heap.size + 1) w4.heap.size w4.heap.size s v ax cx k w9) := Hx.out.next HBD.out
  have Hg' : Hid (Yb ng w5.heap.size w5.heap.size sw vw ag cg kw w9) := Hg.out.next HBD.out
  have Hb' : Hid (Gx (w4.heap.size + 1) ng bw Ag w9) := Hb.out.next HBD.out
  clear Hlow Hp Hw Hr Hx Hg Hb
  have Hlow := Hlow'
  clear Hlow'
  have Hp := Hp'
  clear Hp'
  have Hw := Hw'
  clear Hw'
  have Hr := Hr'
  clear Hr'
  have Hx := Hx'
  clear Hx'
  have Hg := Hg'
  clear Hg'
  have Hb := Hb'
  clear Hb'
  clear HBD
  have qx0 := Hx.out.c0
  have qx1 := Hx.out.c1
  have qx2 := Hx.out.c2
  have HSX := Lib.hid Hx.out.sx.2
  have hlx := Hx.out.lt
  have hgl := Hg.out.lt
  have hgh := Hg.out.hb
  have hglh := Hg.out.lh
  have hbl := Hb.out.le
  have hwl := Hw.out.le
  have hrl := Hr.out.le
  go_wp2_with fail
  with_reducible refine (markTerm_any s v ax cx k (w3.heap.size + 1) w4.heap.size 1 _ HSX.out hN (by omega) (by omega) (by omega) (by omega)).mono ?_
  rintro e w10 ⟨rfl, hmk⟩
  clear qx0 qx1 qx2
  have hslow := Hlow.out.size
  have hpn := Hp.out.le
  clear Hx
  have Hlow' : Hid (Below w.heap.size w w10) := Hlow.out.trans (hmk.below.mono (by omega))
  have Hp' : Hid (Tq (w.heap.size + 1) w.heap.size s v a c k w10) := Hp.out.go hmk.below (by omega)
  have Hw' : Hid (Tq (w3.heap.size + 1) w3.heap.size sw vw aw cw kw w10) := Hw.out.go hmk.below (by omega)
  have Hr' : Hid (Rw (w3.heap.size + 1) bw Aw w10) := Hr.out.go hmk.below (by omega)
  have Hg' : Hid (Yb ng w5.heap.size w5.heap.size sw vw ag cg kw w10) := Hg.out.far hmk (by omega)
  have Hb' : Hid (Gx (w4.heap.size + 1) ng bw Ag w10) := Hb.out.far hmk (by omega)
  clear Hlow Hp Hw Hr Hg Hb
  have Hlow := Hlow'
  clear Hlow'
  have Hp := Hp'
  clear Hp'
  have Hw := Hw'
  clear Hw'
  have Hr := Hr'
  clear Hr'
  have Hg := Hg'
  clear Hg'
  have Hb := Hb'
  clear Hb'
  clear hmk HSX hlx hslow hpn hgl hgh hglh hbl hwl hrl
  have e1 : decide (1 + 2 * (fsz k : Int) < 0) = false := decide_eq_false (by omega)
  have qg0 := Hg.out.c0
  have qg1 := Hg.out.c1
  have qg2 := Hg.out.c2
  have qw0 := Hw.out.c0
  have qw1 := Hw.out.c1
  have qw2 := Hw.out.c2
  go_wp2_with fail
  with_reducible refine (eqTerm_any (k := kw) Hg.out.top Hw.out.top (by have := HTY.out.1; omega)).mono ?_
  rintro e w11 ⟨rfl, hb⟩
  clear qg0 qg1 qg2 qw0 qw1 qw2
  have Hlow' : Hid (Below w.heap.size w w11) := low_next Hlow.out hb
  have Hp' : Hid (Tq (w.heap.size + 1) w.heap.size s v a c k w11) := Hp.out.next hb
  have Hw' : Hid (Tq (w3.heap.size + 1) w3.heap.size sw vw aw cw kw w11) := Hw.out.next hb
  have Hr' : Hid (Rw (w3.heap.size + 1) bw Aw w11) := Hr.out.next hb
  have Hg' : Hid (Yb ng w5.heap.size w5.heap.size sw vw ag cg kw w11) := Hg.out.next hb
  have Hb' : Hid (Gx (w4.heap.size + 1) ng bw Ag w11) := Hb.out.next hb
  clear Hlow Hp Hw Hr Hg Hb
  have Hlow := Hlow'
  clear Hlow'
  have Hp := Hp'
  clear Hp'
  have Hw := Hw'
  clear Hw'
  have Hr := Hr'
  clear Hr'
  have Hg := Hg'
  clear Hg'
  have Hb := Hb'
  clear Hb'
  clear hb
  go_wp2_with fail
  with_reducible refine (eqBindS_same bw Ag Aw Cg Cw _ Hb.out.top Hr.out.top (by have := HTY.out.2.1; omega) (fun x hx => by have := HTY.out.2.2.1 x hx; omega)).mono ?_
  rintro e w12 ⟨rfl, hb⟩
  have Hlow' : Hid (Below w.heap.size w w12) := low_next Hlow.out hb
  have Hp' : Hid (Tq (w.heap.size + 1) w.heap.size s v a c k w12) := Hp.out.next hb
  have Hw' : Hid (Tq (w3.heap.size + 1) w3.heap.size sw vw aw cw kw w12) := Hw.out.next hb
  have Hr' : Hid (Rw (w3.heap.size + 1) bw Aw w12) := Hr.out.next hb
  have Hg' : Hid (Yb ng w5.heap.size w5.heap.size sw vw ag cg kw w12) := Hg.out.next hb
  have Hb' : Hid (Gx (w4.heap.size + 1) ng bw Ag w12) := Hb.out.next hb
  clear Hlow Hp Hw Hr Hg Hb
  have Hlow := Hlow'
  clear Hlow'
  have Hp := Hp'
  clear Hp'
  have Hw := Hw'
  clear Hw'
  have Hr := Hr'
  clear Hr'
  have Hg := Hg'
  clear Hg'
  have Hb := Hb'
  clear Hb'
  clear hb
  have qg0 := Hg.out.c0
  have qg1 := Hg.out.c1
  have qg2 := Hg.out.c2
  have HTXG := Lib.hid Hg.out.tx.2
  have hgl := Hg.out.lt
  have hgh := Hg.out.hb
  have hglh := Hg.out.lh
  have hbl := Hb.out.le
  have hwl := Hw.out.le
  have hrl := Hr.out.le
  have hty0 := HTY.out.1
  have hty1 := HTY.out.2.1
  have hmc := HTY.out.2.2.2
  have hmp := mcn_pos bw
  go_wp2_with fail
  with_reducible refine (markTermT_any sw vw ag cg kw ng w5.heap.size 1 _ HTXG.out (by omega) (by omega) (by omega) hglh (by omega)).mono ?_
  rintro e w13 ⟨rfl, hmk, hhd⟩
  clear qg0 qg1 qg2
  have hslow := Hlow.out.size
  have hpn := Hp.out.le
  have Hhn : Hid (Yh ng w5.heap.size w5.heap.size sw vw ag cg kw 1 w13) := Hg.out.held hmk hhd
  clear Hg
  have Hlow' : Hid (Below w.heap.size w w13) := Hlow.out.trans (hmk.below.mono (by omega))
  have Hp' : Hid (Tq (w.heap.size + 1) w.heap.size s v a c k w13) := Hp.out.go hmk.below (by omega)
  have Hw' : Hid (Tq (w3.heap.size + 1) w3.heap.size sw vw aw cw kw w13) := Hw.out.go hmk.below (by omega)
  have Hr' : Hid (Rw (w3.heap.size + 1) bw Aw w13) := Hr.out.go hmk.below (by omega)
  have Hb' : Hid (Gx (w4.heap.size + 1) ng bw Ag w13) := Hb.out.low hmk.below (Nat.le_refl _)
  clear Hlow Hp Hw Hr Hb
  have Hlow := Hlow'
  clear Hlow'
  have Hp := Hp'
  clear Hp'
  have Hw := Hw'
  clear Hw'
  have Hr := Hr'
  clear Hr'
  have Hb := Hb'
  clear Hb'
  have Hh := Hhn
  clear Hhn hmk hhd HTXG hslow hpn hgl hgh hglh hbl hwl hrl
  have hbl := Hb.out.le
  have HBXG := Lib.hid Hb.out.bx
  have hhl := Hh.out.lt
  have hhh := Hh.out.hb
  have hhlh := Hh.out.lh
  go_wp2_with fail
  with_reducible refine (markBindS_any bw Ag Cg (w4.heap.size + 1) ng (1 + 2 * (fsz kw : Int)) _ HBXG.out hbl (by omega) (fun x hx => by have := HTY.out.2.2.1 x hx; omega) (by omega) (by omega) (by omega)).mono ?_
  rintro e w14 ⟨rfl, hbm, hfar, hbh⟩
  have hslow := Hlow.out.size
  have hwl := Hw.out.le
  have hpn := Hp.out.le
  have hrl := Hr.out.le
  clear Hb
  have Hjn : Hid (Gh (w4.heap.size + 1) ng bw Ag (1 + 2 * (fsz kw : Int)) w14) := ⟨hbh, Nat.le_trans hbl hbm.size⟩
  have Hlow' : Hid (Below w.heap.size w w14) := Hlow.out.trans (hbm.mono (by omega))
  have Hp' : Hid (Tq (w.heap.size + 1) w.heap.size s v a c k w14) := Hp.out.go hbm (by omega)
  have Hw' : Hid (Tq (w3.heap.size + 1) w3.heap.size sw vw aw cw kw w14) := Hw.out.go hbm (by omega)
  have Hr' : Hid (Rw (w3.heap.size + 1) bw Aw w14) := Hr.out.go hbm (by omega)
  have Hh' : Hid (Yh ng w5.heap.size w5.heap.size sw vw ag cg kw 1 w14) := Hh.out.far hbm.size hfar (Nat.le_refl _)
  clear Hlow Hp Hw Hr Hh
  have Hlow := Hlow'
  clear Hlow'
  have Hp := Hp'
  clear Hp'
  have Hw := Hw'
  clear Hw'
  have Hr := Hr'
  clear Hr'
  have Hh := Hh'
  clear Hh'
  have Hj := Hjn
  clear Hjn hbm hfar hbh hslow hwl hpn hrl hbl HBXG hhl hhh hhlh
  have e2 : decide ((1 + 2 * (fsz kw : Int)) < 0) = false := decide_eq_false (by omega)
  have e3 : decide ((1 + 2 * (fsz kw : Int)) + mcn bw < 0) = false := decide_eq_false (by omega)
  have e4 : (((1 + 2 * (fsz kw : Int)) + mcn bw) != ((1 + 2 * (fsz kw : Int)) + mcn bw)) = false := by simp
  have qh0 := Hh.out.c0
  have qh1 := Hh.out.c1
  have qh2 := Hh.out.c2
  go_wp2_with fail
  with_reducible refine (heldTerm_any sw vw ag cg kw ng w5.heap.size 1 _ Hh.out.hd (by omega) (by omega) (by omega) (by have := Hh.out.hb; have := Hh.out.lt; omega)).mono ?_
  rintro e w15 ⟨rfl, hb⟩
  clear qh0 qh1 qh2
  have Hlow' : Hid (Below w.heap.size w w15) := low_next Hlow.out hb
  have Hp' : Hid (Tq (w.heap.size + 1) w.heap.size s v a c k w15) := Hp.out.next hb
  have Hw' : Hid (Tq (w3.heap.size + 1) w3.heap.size sw vw aw cw kw w15) := Hw.out.next hb
  have Hr' : Hid (Rw (w3.heap.size + 1) bw Aw w15) := Hr.out.next hb
  have Hh' : Hid (Yh ng w5.heap.size w5.heap.size sw vw ag cg kw 1 w15) := Hh.out.next hb
  have Hj' : Hid (Gh (w4.heap.size + 1) ng bw Ag (1 + 2 * (fsz kw : Int)) w15) := Hj.out.next hb
  clear Hlow Hp Hw Hr Hh Hj
  have Hlow := Hlow'
  clear Hlow'
  have Hp := Hp'
  clear Hp'
  have Hw := Hw'
  clear Hw'
  have Hr := Hr'
  clear Hr'
  have Hh := Hh'
  clear Hh'
  have Hj := Hj'
  clear Hj'
  clear hb
  go_wp2_with fail
  with_reducible refine (heldBindS_any bw Ag Cg (w4.heap.size + 1) ng (1 + 2 * (fsz kw : Int)) _ Hj.out.bh Hj.out.le (by omega) (fun x hx => by have := HTY.out.2.2.1 x hx; omega) (by omega) (by omega) (by omega)).mono ?_
  rintro e w16 ⟨rfl, hb⟩
  have Hlow' : Hid (Below w.heap.size w w16) := low_next Hlow.out hb
  have Hp' : Hid (Tq (w.heap.size + 1) w.heap.size s v a c k w16) := Hp.out.next hb
  have Hw' : Hid (Tq (w3.heap.size + 1) w3.heap.size sw vw aw cw kw w16) := Hw.out.next hb
  have Hr' : Hid (Rw (w3.heap.size + 1) bw Aw w16) := Hr.out.next hb
  have Hh' : Hid (Yh ng w5.heap.size w5.heap.size sw vw ag cg kw 1 w16) := Hh.out.next hb
  have Hj' : Hid (Gh (w4.heap.size + 1) ng bw Ag (1 + 2 * (fsz kw : Int)) w16) := Hj.out.next hb
  clear Hlow Hp Hw Hr Hh Hj
  have Hlow := Hlow'
  clear Hlow'
  have Hp := Hp'
  clear Hp'
  have Hw := Hw'
  clear Hw'
  have Hr := Hr'
  clear Hr'
  have Hh := Hh'
  clear Hh'
  have Hj := Hj'
  clear Hj'
  clear hb
  have qp0 := Hp.out.c0
  have qp1 := Hp.out.c1
  have qp2 := Hp.out.c2
  go_wp2_with fail
  with_reducible refine (toTerm_any Hp.out.top hN).mono ?_
  rintro e w17 ⟨a15, c15, rfl, hb, hl5⟩
  clear qp0 qp1 qp2
  have Hlow' : Hid (Below w.heap.size w w17) := low_next Hlow.out hb
  have Hp' : Hid (Tq (w.heap.size + 1) w.heap.size s v a c k w17) := Hp.out.next hb
  have Hw' : Hid (Tq (w3.heap.size + 1) w3.heap.size sw vw aw cw kw w17) := Hw.out.next hb
  have Hr' : Hid (Rw (w3.heap.size + 1) bw Aw w17) := Hr.out.next hb
  have Hh' : Hid (Yh ng w5.heap.size w5.heap.size sw vw ag cg kw 1 w17) := Hh.out.next hb
  have Hj' : Hid (Gh (w4.heap.size + 1) ng bw Ag (1 + 2 * (fsz kw : Int)) w17) := Hj.out.next hb
  clear Hlow Hp Hw Hr Hh Hj
  have Hlow := Hlow'
  clear Hlow'
  have Hp := Hp'
  clear Hp'
  have Hw := Hw'
  clear Hw'
  have Hr := Hr'
  clear Hr'
  have Hh := Hh'
  clear Hh'
  have Hj := Hj'
  clear Hj'
  clear hb
  have HT5 : Hid (Sl w17 0 w17.heap.size a15 k) := hl5.mono (Nat.zero_le _) (Nat.le_refl _)
  clear hl5
  go_wp2_with fail
  with_reducible refine (iTermPlain_any s v a15 c15 k _ HT5.out).mono ?_
  rintro e w18 ⟨ah, ch, Ah, Ch, sh, vh, kh, bh, hdh, rfl, hb, hlh, hsh⟩
  rw [HDw.out] at hdh
  simp only [Prod.mk.injEq] at hdh
  obtain ⟨⟨rfl, rfl, rfl⟩, rfl⟩ := hdh
  have Hlow' : Hid (Below w.heap.size w w18) := low_next Hlow.out hb
  have Hp' : Hid (Tq (w.heap.size + 1) w.heap.size s v a c k w18) := Hp.out.next hb
  have Hw' : Hid (Tq (w3.heap.size + 1) w3.heap.size sw vw aw cw kw w18) := Hw.out.next hb
  have Hr' : Hid (Rw (w3.heap.size + 1) bw Aw w18) := Hr.out.next hb
  have Hh' : Hid (Yh ng w5.heap.size w5.heap.size sw vw ag cg kw 1 w18) := Hh.out.next hb
  have Hj' : Hid (Gh (w4.heap.size + 1) ng bw Ag (1 + 2 * (fsz kw : Int)) w18) := Hj.out.next hb
  clear Hlow Hp Hw Hr Hh Hj
  have Hlow := Hlow'
  clear Hlow'
  have Hp := Hp'
  clear Hp'
  have Hw := Hw'
  clear Hw'
  have Hr := Hr'
  clear Hr'
  have Hh := Hh'
  clear Hh'
  have Hj := Hj'
  clear Hj'
  clear hb
  clear HT5
  have hb : Below w18.heap.size w18 (w18.alloc (.cells #[.int .i64 sw, .int .i64 vw, .slice ah (flen kw) ch] 25)) := (Below.refl _ _).alloc (Nat.le_refl _) _
  have hwz : (w18.alloc (.cells #[.int .i64 sw, .int .i64 vw, .slice ah (flen kw) ch] 25)).heap.size = w18.heap.size + 1 := by simp
  obtain ⟨b0, b1, b2⟩ := one_box (Below.refl (w18.heap.size + 1) (w18.alloc (.cells #[.int .i64 sw, .int .i64 vw, .slice ah (flen kw) ch] 25)))
  have Hmn : Hid (Tq (w18.heap.size + 1) w18.heap.size sw vw ah ch kw (w18.alloc (.cells #[.int .i64 sw, .int .i64 vw, .slice ah (flen kw) ch] 25))) := ⟨b0, b1, b2, by omega, (hlh.below hb).mono (Nat.le_refl _) (by omega), by omega⟩
  have Hnn : Hid (Rw (w18.heap.size + 1) bw Ah (w18.alloc (.cells #[.int .i64 sw, .int .i64 vw, .slice ah (flen kw) ch] 25))) := ⟨(hsh.below hb).mono (Nat.le_refl _) (by omega), by omega⟩
  have Hlow' : Hid (Below w.heap.size w (w18.alloc (.cells #[.int .i64 sw, .int .i64 vw, .slice ah (flen kw) ch] 25))) := low_next Hlow.out hb
  have Hp' : Hid (Tq (w.heap.size + 1) w.heap.size s v a c k (w18.alloc (.cells #[.int .i64 sw, .int .i64 vw, .slice ah (flen kw) ch] 25))) := Hp.out.next hb
  have Hw' : Hid (Tq (w3.heap.size + 1) w3.heap.size sw vw aw cw kw (w18.alloc (.cells #[.int .i64 sw, .int .i64 vw, .slice ah (flen kw) ch] 25))) := Hw.out.next hb
  have Hr' : Hid (Rw (w3.heap.size + 1) bw Aw (w18.alloc (.cells #[.int .i64 sw, .int .i64 vw, .slice ah (flen kw) ch] 25))) := Hr.out.next hb
  have Hh' : Hid (Yh ng w5.heap.size w5.heap.size sw vw ag cg kw 1 (w18.alloc (.cells #[.int .i64 sw, .int .i64 vw, .slice ah (flen kw) ch] 25))) := Hh.out.next hb
  have Hj' : Hid (Gh (w4.heap.size + 1) ng bw Ag (1 + 2 * (fsz kw : Int)) (w18.alloc (.cells #[.int .i64 sw, .int .i64 vw, .slice ah (flen kw) ch] 25))) := Hj.out.next hb
  clear Hlow Hp Hw Hr Hh Hj
  have Hlow := Hlow'
  clear Hlow'
  have Hp := Hp'
  clear Hp'
  have Hw := Hw'
  clear Hw'
  have Hr := Hr'
  clear Hr'
  have Hh := Hh'
  clear Hh'
  have Hj := Hj'
  clear Hj'
  have Hm := Hmn
  have Hn := Hnn
  clear Hmn Hnn hb hlh hsh hwz b0 b1 b2
  have qm0 := Hm.out.c0
  have qm1 := Hm.out.c1
  have qm2 := Hm.out.c2
  have qw0 := Hw.out.c0
  have qw1 := Hw.out.c1
  have qw2 := Hw.out.c2
  go_wp2_with fail
  with_reducible refine (eqTerm_any (k := kw) Hm.out.top Hw.out.top (by have := HTY.out.1; omega)).mono ?_
  rintro e w19 ⟨rfl, hb⟩
  clear qm0 qm1 qm2 qw0 qw1 qw2
  have Hlow' : Hid (Below w.heap.size w w19) := low_next Hlow.out hb
  have Hp' : Hid (Tq (w.heap.size + 1) w.heap.size s v a c k w19) := Hp.out.next hb
  have Hw' : Hid (Tq (w3.heap.size + 1) w3.heap.size sw vw aw cw kw w19) := Hw.out.next hb
  have Hr' : Hid (Rw (w3.heap.size + 1) bw Aw w19) := Hr.out.next hb
  have Hh' : Hid (Yh ng w5.heap.size w5.heap.size sw vw ag cg kw 1 w19) := Hh.out.next hb
  have Hj' : Hid (Gh (w4.heap.size + 1) ng bw Ag (1 + 2 * (fsz kw : Int)) w19) := Hj.out.next hb
  have Hm' : Hid (Tq (w18.heap.size + 1) w18.heap.size sw vw ah ch kw w19) := Hm.out.next hb
  have Hn' : Hid (Rw (w18.heap.size + 1) bw Ah w19) := Hn.out.next hb
  clear Hlow Hp Hw Hr Hh Hj Hm Hn
  have Hlow := Hlow'
  clear Hlow'
  have Hp := Hp'
  clear Hp'
  have Hw := Hw'
  clear Hw'
  have Hr := Hr'
  clear Hr'
  have Hh := Hh'
  clear Hh'
  have Hj := Hj'
  clear Hj'
  have Hm := Hm'
  clear Hm'
  have Hn := Hn'
  clear Hn'
  clear hb
  go_wp2_with fail
  with_reducible refine (eqBindS_same bw Ah Aw Ch Cw _ Hn.out.top Hr.out.top (by have := HTY.out.2.1; omega) (fun x hx => by have := HTY.out.2.2.1 x hx; omega)).mono ?_
  rintro e w20 ⟨rfl, hb⟩
  have Hlow' : Hid (Below w.heap.size w w20) := low_next Hlow.out hb
  have Hp' : Hid (Tq (w.heap.size + 1) w.heap.size s v a c k w20) := Hp.out.next hb
  have Hw' : Hid (Tq (w3.heap.size + 1) w3.heap.size sw vw aw cw kw w20) := Hw.out.next hb
  have Hr' : Hid (Rw (w3.heap.size + 1) bw Aw w20) := Hr.out.next hb
  have Hh' : Hid (Yh ng w5.heap.size w5.heap.size sw vw ag cg kw 1 w20) := Hh.out.next hb
  have Hj' : Hid (Gh (w4.heap.size + 1) ng bw Ag (1 + 2 * (fsz kw : Int)) w20) := Hj.out.next hb
  have Hm' : Hid (Tq (w18.heap.size + 1) w18.heap.size sw vw ah ch kw w20) := Hm.out.next hb
  have Hn' : Hid (Rw (w18.heap.size + 1) bw Ah w20) := Hn.out.next hb
  clear Hlow Hp Hw Hr Hh Hj Hm Hn
  have Hlow := Hlow'
  clear Hlow'
  have Hp := Hp'
  clear Hp'
  have Hw := Hw'
  clear Hw'
  have Hr := Hr'
  clear Hr'
  have Hh := Hh'
  clear Hh'
  have Hj := Hj'
  clear Hj'
  have Hm := Hm'
  clear Hm'
  have Hn := Hn'
  clear Hn'
  clear hb
  have qh0 := Hh.out.c0
  have qh1 := Hh.out.c1
  have qh2 := Hh.out.c2
  go_wp2_with fail
  with_reducible refine (heldTerm_any sw vw ag cg kw ng w5.heap.size 1 _ Hh.out.hd (by omega) (by omega) (by omega) (by have := Hh.out.hb; have := Hh.out.lt; omega)).mono ?_
  rintro e w21 ⟨rfl, hb⟩
  clear qh0 qh1 qh2
  have Hlow' : Hid (Below w.heap.size w w21) := low_next Hlow.out hb
  have Hp' : Hid (Tq (w.heap.size + 1) w.heap.size s v a c k w21) := Hp.out.next hb
  have Hw' : Hid (Tq (w3.heap.size + 1) w3.heap.size sw vw aw cw kw w21) := Hw.out.next hb
  have Hr' : Hid (Rw (w3.heap.size + 1) bw Aw w21) := Hr.out.next hb
  have Hh' : Hid (Yh ng w5.heap.size w5.heap.size sw vw ag cg kw 1 w21) := Hh.out.next hb
  have Hj' : Hid (Gh (w4.heap.size + 1) ng bw Ag (1 + 2 * (fsz kw : Int)) w21) := Hj.out.next hb
  have Hm' : Hid (Tq (w18.heap.size + 1) w18.heap.size sw vw ah ch kw w21) := Hm.out.next hb
  have Hn' : Hid (Rw (w18.heap.size + 1) bw Ah w21) := Hn.out.next hb
  clear Hlow Hp Hw Hr Hh Hj Hm Hn
  have Hlow := Hlow'
  clear Hlow'
  have Hp := Hp'
  clear Hp'
  have Hw := Hw'
  clear Hw'
  have Hr := Hr'
  clear Hr'
  have Hh := Hh'
  clear Hh'
  have Hj := Hj'
  clear Hj'
  have Hm := Hm'
  clear Hm'
  have Hn := Hn'
  clear Hn'
  clear hb
  go_wp2_with fail
  with_reducible refine (heldBindS_any bw Ag Cg (w4.heap.size + 1) ng (1 + 2 * (fsz kw : Int)) _ Hj.out.bh Hj.out.le (by omega) (fun x hx => by have := HTY.out.2.2.1 x hx; omega) (by omega) (by omega) (by omega)).mono ?_
  rintro e w22 ⟨rfl, hb⟩
  have Hlow' : Hid (Below w.heap.size w w22) := low_next Hlow.out hb
  have Hp' : Hid (Tq (w.heap.size + 1) w.heap.size s v a c k w22) := Hp.out.next hb
  have Hw' : Hid (Tq (w3.heap.size + 1) w3.heap.size sw vw aw cw kw w22) := Hw.out.next hb
  have Hr' : Hid (Rw (w3.heap.size + 1) bw Aw w22) := Hr.out.next hb
  have Hh' : Hid (Yh ng w5.heap.size w5.heap.size sw vw ag cg kw 1 w22) := Hh.out.next hb
  have Hj' : Hid (Gh (w4.heap.size + 1) ng bw Ag (1 + 2 * (fsz kw : Int)) w22) := Hj.out.next hb
  have Hm' : Hid (Tq (w18.heap.size + 1) w18.heap.size sw vw ah ch kw w22) := Hm.out.next hb
  have Hn' : Hid (Rw (w18.heap.size + 1) bw Ah w22) := Hn.out.next hb
  clear Hlow Hp Hw Hr Hh Hj Hm Hn
  have Hlow := Hlow'
  clear Hlow'
  have Hp := Hp'
  clear Hp'
  have Hw := Hw'
  clear Hw'
  have Hr := Hr'
  clear Hr'
  have Hh := Hh'
  clear Hh'
  have Hj := Hj'
  clear Hj'
  have Hm := Hm'
  clear Hm'
  have Hn := Hn'
  clear Hn'
  clear hb
  go_wp2_with fail
  go_ret
  exact ⟨rfl, Hlow.out⟩
end Go.Proofs.Ytlaaihnokoeliab
