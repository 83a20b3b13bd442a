/- Several texts in one: LawPEnd. -/
import Derived.Test.YtdkcbbhkoibplaaKLm28
import Derived.Test.YtdkcbbhkoibplaaKLm29
import Derived.Test.YtdkcbbhkoibplaaKLm30
import Derived.Test.YtdkcbbhkoibplaaKLm31
import Derived.Test.YtdkcbbhkoibplaaKLm16
import Derived.Test.YtdkcbbhkoibplaaKLm9

/-! LawPEnd: laws.FnProofEnd answers true at any two codes. -/
namespace Go.Proofs.Ytdkcbbhkoibplaa
open Go.RowKit Go.Deep
attribute [local go_sem ↓] Go.wp_at_zero Go.wp_at_succ

set_option maxRecDepth 100000 in
set_option maxHeartbeats 8000000 in
theorem proofEnd_walk (a0 : Option Addr) (len cap : Nat) (a1 : Option Addr) (len1 cap1 : Nat) (w : World) (hby : Bytes w a0 len) (hlen : len ≤ cap) (hby1 : Bytes w a1 len1) (hlen1 : len1 ≤ cap1) :
    Calls Try.prog 8 #[.slice a0 len cap, .slice a1 len1 cap1] w fun e w' => e = .returned (.bool true) ∧ Below w.heap.size w w' := by
  have HBY := Lib.hid hby
  clear hby
  have HBY1 := Lib.hid hby1
  clear hby1
  by_cases hbiglen : 1048576 < len
  · go_enter Try.func8, Try.ntmps8
    go_wp2_with fail
    go_ret
    exact ⟨rfl, Below.refl _ _⟩
  by_cases hbiglen1 : 1048576 < len1
  · go_enter Try.func8, Try.ntmps8
    go_wp2_with fail
    go_ret
    exact ⟨rfl, Below.refl _ _⟩
  go_enter Try.func8, Try.ntmps8
  have hlen2 := hlen1
  clear HBY1 hlen1 hlen2
  go_wp2_with fail
  with_reducible refine (DrawProofEnd_any a0 len cap _ HBY.out hlen).mono ?_
  rintro e wa ⟨es, A, C, s, v, a, c, k, ls, A2, C2, rfl, hel, hok, hz, hl5, hcap, hsm, hb, he, hl, hls⟩
  have Hlow := Lib.hid hb
  have HE := Lib.hid he
  have HLS := Lib.hid hls
  have HL := Lib.hid hl
  have HOKZ := Lib.hid hok
  have HSM : Hid (∀ x ∈ ls, x.2.2.1.length ≤ 1048576 ∧ x.2.2.2.length ≤ 1000000) := fun x hx => by have := hsm x hx; omega
  clear hb he hl hls hok HBY hsm
  have hbx : Below wa.heap.size wa (wa.alloc (.cells #[.int .i64 s, .int .i64 v, .slice a (flen k) c] 35)) := box_low _ _
  have Hn : Hid (Tb wa.heap.size s v a c k (wa.alloc (.cells #[.int .i64 s, .int .i64 v, .slice a (flen k) c] 35))) := Tb.new HL.out
  have Hlow' : Hid (Below w.heap.size w (wa.alloc (.cells #[.int .i64 s, .int .i64 v, .slice a (flen k) c] 35))) := below_next Hlow.out hbx
  have HE' : Hid (ESl (wa.alloc (.cells #[.int .i64 s, .int .i64 v, .slice a (flen k) c] 35)) 0 (wa.alloc (.cells #[.int .i64 s, .int .i64 v, .slice a (flen k) c] 35)).heap.size A es) := HE.out.next hbx
  have HLS' : Hid (LSl (wa.alloc (.cells #[.int .i64 s, .int .i64 v, .slice a (flen k) c] 35)) 0 (wa.alloc (.cells #[.int .i64 s, .int .i64 v, .slice a (flen k) c] 35)).heap.size A2 ls) := HLS.out.next hbx
  clear Hlow HE HLS
  have Hlow := Hlow'
  clear Hlow'
  have HE := HE'
  clear HE'
  have HLS := HLS'
  clear HLS'
  have Ht := Hn
  clear Hn hbx
  clear HL
  have qt0 := Ht.out.c0
  have qt1 := Ht.out.c1
  have qt2 := Ht.out.c2
  go_wp2_with fail
  with_reducible refine (sProofEnd_any es A C s v a c k A2 C2 ls _ HE.out (by omega) Ht.out.sl HLS.out (by omega) HSM.out).mono ?_
  rintro e wx1 ⟨aw, cw, sw, vw, kw, tw, hdw, rfl, hb, hlw⟩
  have HDw := Lib.hid hdw
  clear hdw
  clear qt0 qt1 qt2
  have Hlow' : Hid (Below w.heap.size w wx1) := below_next Hlow.out hb
  have HE' : Hid (ESl wx1 0 wx1.heap.size A es) := HE.out.next hb
  have HLS' : Hid (LSl wx1 0 wx1.heap.size A2 ls) := HLS.out.next hb
  have Ht' : Hid (Tb wa.heap.size s v a c k wx1) := Ht.out.next hb
  clear Hlow HE HLS Ht
  have Hlow := Hlow'
  clear Hlow'
  have HE := HE'
  clear HE'
  have HLS := HLS'
  clear HLS'
  have Ht := Ht'
  clear Ht'
  clear hb
  have Hlw := Lib.hid hlw
  clear hlw
  have hbx : Below wx1.heap.size wx1 (wx1.alloc (.cells #[.int .i64 sw, .int .i64 vw, .slice aw (flen kw) cw] 35)) := box_low _ _
  have Hn : Hid (Tb wx1.heap.size sw vw aw cw kw (wx1.alloc (.cells #[.int .i64 sw, .int .i64 vw, .slice aw (flen kw) cw] 35))) := Tb.new Hlw.out
  have Hlow' : Hid (Below w.heap.size w (wx1.alloc (.cells #[.int .i64 sw, .int .i64 vw, .slice aw (flen kw) cw] 35))) := below_next Hlow.out hbx
  have HE' : Hid (ESl (wx1.alloc (.cells #[.int .i64 sw, .int .i64 vw, .slice aw (flen kw) cw] 35)) 0 (wx1.alloc (.cells #[.int .i64 sw, .int .i64 vw, .slice aw (flen kw) cw] 35)).heap.size A es) := HE.out.next hbx
  have HLS' : Hid (LSl (wx1.alloc (.cells #[.int .i64 sw, .int .i64 vw, .slice aw (flen kw) cw] 35)) 0 (wx1.alloc (.cells #[.int .i64 sw, .int .i64 vw, .slice aw (flen kw) cw] 35)).heap.size A2 ls) := HLS.out.next hbx
  have Ht' : Hid (Tb wa.heap.size s v a c k (wx1.alloc (.cells #[.int .i64 sw, .int .i64 vw, .slice aw (flen kw) cw] 35))) := Ht.out.next hbx
  clear Hlow HE HLS Ht
  have Hlow := Hlow'
  clear Hlow'
  have HE := HE'
  clear HE'
  have HLS := HLS'
  clear HLS'
  have Ht := Ht'
  clear Ht'
  have Hw := Hn
  clear Hn hbx
  clear Hlw
  have qt0 := Ht.out.c0
  have qt1 := Ht.out.c1
  have qt2 := Ht.out.c2
  go_wp2_with fail
  with_reducible refine (iProofEnd_any es A C s v a c k A2 C2 ls _ HE.out (by omega) Ht.out.sl HLS.out (by omega) HSM.out).mono ?_
  rintro e wx2 ⟨ax, cx, sx, vx, kx, tx, hdx, rfl, hb, hlx⟩
  rw [HDw.out] at hdx
  simp only [Prod.mk.injEq] at hdx
  obtain ⟨⟨rfl, rfl, rfl⟩, rfl⟩ := hdx
  clear qt0 qt1 qt2
  have Hlow' : Hid (Below w.heap.size w wx2) := below_next Hlow.out hb
  have HE' : Hid (ESl wx2 0 wx2.heap.size A es) := HE.out.next hb
  have HLS' : Hid (LSl wx2 0 wx2.heap.size A2 ls) := HLS.out.next hb
  have Ht' : Hid (Tb wa.heap.size s v a c k wx2) := Ht.out.next hb
  have Hw' : Hid (Tb wx1.heap.size sw vw aw cw kw wx2) := Hw.out.next hb
  clear Hlow HE HLS Ht Hw
  have Hlow := Hlow'
  clear Hlow'
  have HE := HE'
  clear HE'
  have HLS := HLS'
  clear HLS'
  have Ht := Ht'
  clear Ht'
  have Hw := Hw'
  clear Hw'
  clear hb
  have Hlx := Lib.hid hlx
  clear hlx
  have hbx : Below wx2.heap.size wx2 (wx2.alloc (.cells #[.int .i64 sw, .int .i64 vw, .slice ax (flen kw) cx] 35)) := box_low _ _
  have Hn : Hid (Tb wx2.heap.size sw vw ax cx kw (wx2.alloc (.cells #[.int .i64 sw, .int .i64 vw, .slice ax (flen kw) cx] 35))) := Tb.new Hlx.out
  have Hlow' : Hid (Below w.heap.size w (wx2.alloc (.cells #[.int .i64 sw, .int .i64 vw, .slice ax (flen kw) cx] 35))) := below_next Hlow.out hbx
  have HE' : Hid (ESl (wx2.alloc (.cells #[.int .i64 sw, .int .i64 vw, .slice ax (flen kw) cx] 35)) 0 (wx2.alloc (.cells #[.int .i64 sw, .int .i64 vw, .slice ax (flen kw) cx] 35)).heap.size A es) := HE.out.next hbx
  have HLS' : Hid (LSl (wx2.alloc (.cells #[.int .i64 sw, .int .i64 vw, .slice ax (flen kw) cx] 35)) 0 (wx2.alloc (.cells #[.int .i64 sw, .int .i64 vw, .slice ax (flen kw) cx] 35)).heap.size A2 ls) := HLS.out.next hbx
  have Ht' : Hid (Tb wa.heap.size s v a c k (wx2.alloc (.cells #[.int .i64 sw, .int .i64 vw, .slice ax (flen kw) cx] 35))) := Ht.out.next hbx
  have Hw' : Hid (Tb wx1.heap.size sw vw aw cw kw (wx2.alloc (.cells #[.int .i64 sw, .int .i64 vw, .slice ax (flen kw) cx] 35))) := Hw.out.next hbx
  clear Hlow HE HLS Ht Hw
  have Hlow := Hlow'
  clear Hlow'
  have HE := HE'
  clear HE'
  have HLS := HLS'
  clear HLS'
  have Ht := Ht'
  clear Ht'
  have Hw := Hw'
  clear Hw'
  have Hx := Hn
  clear Hn hbx
  clear Hlx
  have hkw := pr_small HDw.out (by dsimp only; omega)
  have eb : (tw != tw) = false := by simp
  have eb2 : (tw == tw) = true := by simp
  have qx0 := Hx.out.c0
  have qx1 := Hx.out.c1
  have qx2 := Hx.out.c2
  have qw0 := Hw.out.c0
  have qw1 := Hw.out.c1
  have qw2 := Hw.out.c2
  go_wp2_with fail
  with_reducible refine (laTerm_same (fsz kw) sw vw ax aw cx cw kw _ Hx.out.sl Hw.out.sl (Nat.le_refl _) (by omega)).mono ?_
  rintro e wx3 ⟨rfl, hb⟩
  clear qx0 qx1 qx2 qw0 qw1 qw2
  have Hlow' : Hid (Below w.heap.size w wx3) := below_next Hlow.out hb
  have HE' : Hid (ESl wx3 0 wx3.heap.size A es) := HE.out.next hb
  have HLS' : Hid (LSl wx3 0 wx3.heap.size A2 ls) := HLS.out.next hb
  have Ht' : Hid (Tb wa.heap.size s v a c k wx3) := Ht.out.next hb
  have Hw' : Hid (Tb wx1.heap.size sw vw aw cw kw wx3) := Hw.out.next hb
  have Hx' : Hid (Tb wx2.heap.size sw vw ax cx kw wx3) := Hx.out.next hb
  clear Hlow HE HLS Ht Hw Hx
  have Hlow := Hlow'
  clear Hlow'
  have HE := HE'
  clear HE'
  have HLS := HLS'
  clear HLS'
  have Ht := Ht'
  clear Ht'
  have Hw := Hw'
  clear Hw'
  have Hx := Hx'
  clear Hx'
  clear hb
  cases tw with
  | false =>
    have qx0 := Hx.out.c0
    have qx1 := Hx.out.c1
    have qx2 := Hx.out.c2
    have qw0 := Hw.out.c0
    have qw1 := Hw.out.c1
    have qw2 := Hw.out.c2
    go_wp2_with fail
    with_reducible refine (laTerm_same (fsz kw) sw vw ax aw cx cw kw _ Hx.out.sl Hw.out.sl (Nat.le_refl _) (by omega)).mono ?_
    rintro e wx4 ⟨rfl, hb⟩
    clear qx0 qx1 qx2 qw0 qw1 qw2
    have Hlow' : Hid (Below w.heap.size w wx4) := below_next Hlow.out hb
    have HE' : Hid (ESl wx4 0 wx4.heap.size A es) := HE.out.next hb
    have HLS' : Hid (LSl wx4 0 wx4.heap.size A2 ls) := HLS.out.next hb
    have Ht' : Hid (Tb wa.heap.size s v a c k wx4) := Ht.out.next hb
    have Hw' : Hid (Tb wx1.heap.size sw vw aw cw kw wx4) := Hw.out.next hb
    have Hx' : Hid (Tb wx2.heap.size sw vw ax cx kw wx4) := Hx.out.next hb
    clear Hlow HE HLS Ht Hw Hx
    have Hlow := Hlow'
    clear Hlow'
    have HE := HE'
    clear HE'
    have HLS := HLS'
    clear HLS'
    have Ht := Ht'
    clear Ht'
    have Hw := Hw'
    clear Hw'
    have Hx := Hx'
    clear Hx'
    clear hb
    go_wp2_with fail
    go_ret
    exact ⟨rfl, Hlow.out⟩
  | true =>
    have HR : Hid (prR es (s, v, k) ls = some (sw, vw, kw)) := ans_true HDw.out
    obtain ⟨m, hm, hmE⟩ : ∃ m : Nat, m ≤ ls.length ∧ (len1 : Int) % ((ls.length : Int) + 1) = (m : Int) := ⟨len1 % (ls.length + 1), by have := Nat.mod_lt len1 (show 0 < ls.length + 1 by omega); omega, by push_cast; rfl⟩
    obtain ⟨ls1, ls2, hcat, rfl⟩ : ∃ ls1 ls2, ls = ls1 ++ ls2 ∧ ls1.length = m := ⟨ls.take m, ls.drop m, (List.take_append_drop m ls).symm, by rw [List.length_take]; omega⟩
    have hte : (len1 : Int).tmod ((ls.length : Int) + 1) = (ls1.length : Int) := by rw [Int.tmod_eq_emod_of_nonneg (by omega)]; exact hmE
    have hne : ((ls.length : Int) + 1 == 0) = false := by simp; omega
    have hcut1 := cutL_to (A := A2) hm hcap
    obtain ⟨A3, hcut2, hls2⟩ := cutL_from (A := A2) hm hcap
    have hl2 : ls.length - ls1.length = ls2.length := by rw [hcat]; simp
    have hd2 : ls.drop ls1.length = ls2 := by rw [hcat]; simp
    have ht1 : ls.take ls1.length = ls1 := by rw [hcat]; simp
    rw [hl2] at hcut2
    obtain ⟨⟨s8, v8, k8⟩, hy1, hy2, hy3⟩ := prR_cut (hcat ▸ HR.out)
    have HY1 := Lib.hid hy1
    have HY2 := Lib.hid hy2
    have hk8 := ((okW_iff _ _ _ _).1 hy3).2.2
    dsimp only at hk8
    have HL1 : Hid (LSl wx3 0 wx3.heap.size A2 ls1) := ht1 ▸ HLS.out.take ls1.length
    have HL2 : Hid (LSl wx3 0 wx3.heap.size A3 ls2) := hd2 ▸ hls2 HLS.out
    have HSM1 : Hid (∀ x ∈ ls1, x.2.2.1.length ≤ 1048576 ∧ x.2.2.2.length ≤ 1000000) := fun x hx => HSM.out x (by rw [hcat]; exact List.mem_append_left _ hx)
    have HSM2 : Hid (∀ x ∈ ls2, x.2.2.1.length ≤ 1048576 ∧ x.2.2.2.length ≤ 1000000) := fun x hx => HSM.out x (by rw [hcat]; exact List.mem_append_right _ hx)
    have hll1 : ls1.length ≤ 5 := by omega
    have hll2 : ls2.length ≤ 5 := by omega
    have HM := Lib.hid hm
    clear hl2 hd2 ht1 hls2 hy1 hy2 hy3 hmE hcat eb eb2
    have hu0 : ∀ u : After wx3.heap.size wx3, u.world.cell? ⟨wa.heap.size, 0, none⟩ = some (.int .i64 s) := fun u => cell_low u.below Ht.out.c0
    have hu1 : ∀ u : After wx3.heap.size wx3, u.world.cell? ⟨wa.heap.size, 1, none⟩ = some (.int .i64 v) := fun u => cell_low u.below Ht.out.c1
    have hu2 : ∀ u : After wx3.heap.size wx3, u.world.cell? ⟨wa.heap.size, 2, none⟩ = some (.slice a (flen k) c) := fun u => cell_low u.below Ht.out.c2
    go_wp2_with fail
    refine wp_region_anyT (fun w' => ∃ u : After wx3.heap.size wx3, w' = u.world) (by kernel_rfl) ?_
    have HBD : Hid (Below wx3.heap.size wx3 wx3.drew) := (Below.refl _ _).drew
    generalize wx3.drew = wdx4 at *
    refine anyT_look (i := 0) rfl (by kernel_rfl) ⟨⟨_, HBD.out⟩, rfl⟩ (fun K hK => ?_)
    go_simp
    refine hK _ ?_
    clear hK K
    refine anyT_look (i := 1) rfl (by kernel_rfl) ⟨⟨_, HBD.out⟩, rfl⟩ (fun K hK => ?_)
    go_simp
    refine hK _ ?_
    clear hK K
    refine anyT_look (i := 2) rfl (by kernel_rfl) ⟨⟨_, HBD.out⟩, rfl⟩ (fun K hK => ?_)
    go_simp
    refine hK _ ?_
    clear hK K
    refine anyT_look (i := 3) rfl (by kernel_rfl) ⟨⟨_, HBD.out⟩, rfl⟩ (fun K hK => ?_)
    go_simp
    refine hK _ ?_
    clear hK K
    refine anyT_look (i := 4) rfl (by kernel_rfl) ⟨⟨_, HBD.out⟩, rfl⟩ (fun K hK => ?_)
    go_simp
    refine hK _ ?_
    clear hK K
    clear hu0 hu1 hu2
    refine anyT_two (i := 5) (j := 9) (by kernel_rfl) rfl rfl (fun K hK => ?_) (fun K hK => ?_)
    · go_simp
      with_reducible refine (iProofEnd_any es A C s v a c k A2 C2 ls1 _ (HE.out.next HBD.out) (by omega) ((Ht.out.next HBD.out).sl) (HL1.out.next HBD.out) (by omega) HSM1.out).mono ?_
      rintro e wpx4 ⟨ay, cy, s9, v9, k9, t9, hR, rfl, hb, hlx⟩
      rw [HY1.out] at hR
      simp only [ansR, Prod.mk.injEq] at hR
      obtain ⟨⟨rfl, rfl, rfl⟩, rfl⟩ := hR
      have HLX := Lib.hid hlx
      clear hlx
      have hlo : wx3.heap.size ≤ wdx4.heap.size := HBD.out.size
      replace HBD := Lib.hid (HBD.out.trans (hb.mono hlo))
      refine hK _ _ ⟨⟨_, HBD.out⟩, rfl⟩ ?_
      clear hK K hb
      refine anyT_look (i := 6) rfl (by kernel_rfl) ⟨⟨_, HBD.out⟩, rfl⟩ (fun K hK => ?_)
      go_simp
      refine hK _ ?_
      clear hK K
      refine anyT_look (i := 7) rfl (by kernel_rfl) ⟨⟨_, HBD.out⟩, rfl⟩ (fun K hK => ?_)
      go_simp
      refine hK _ ?_
      clear hK K
      refine anyT_look (i := 8) rfl (by kernel_rfl) ⟨⟨_, HBD.out⟩, rfl⟩ (fun K hK => ?_)
      go_simp
      refine hK _ ?_
      clear hK K
      refine anyT_one (i := 9) (by kernel_rfl) rfl (fun K hK => ?_)
      go_simp
      have HZ := Lib.hid (zb_new wpx4)
      have hbz : wx3.heap.size ≤ wpx4.heap.size := HBD.out.size
      have hbe : Below wpx4.heap.size wpx4 (wpx4.alloc (.cells #[.int .i64 0, .int .i64 0, .slice none 0 0] 35)) := (Below.refl _ _).alloc (Nat.le_refl _) _
      replace HLX := Lib.hid (HLX.out.below hbe)
      replace HBD := Lib.hid (HBD.out.trans (hbe.mono hbz))
      refine hK _ _ ⟨⟨_, HBD.out⟩, rfl⟩ ?_
      have hze := hbe.size
      clear hK K hbe
      generalize wpx4.alloc (.cells #[.int .i64 0, .int .i64 0, .slice none 0 0] 35) = wzx4 at *
      have hzz0 := HZ.out.z0
      have hzz1 := HZ.out.z1
      have hzz2 := HZ.out.z2
      have hzf0 := HZ.out.f 0
      have hzf1 := HZ.out.f 1
      have hzf2 := HZ.out.f 2
      have HFIN : Hid (Below wx3.heap.size wx3 (((wzx4.setCell ⟨wpx4.heap.size, 0, none⟩ (.int .i64 s8)).setCell ⟨wpx4.heap.size, 1, none⟩ (.int .i64 v8)).setCell ⟨wpx4.heap.size, 2, none⟩ (.slice ay (flen k8) cy)) ∧ Tb wpx4.heap.size s8 v8 ay cy k8 (((wzx4.setCell ⟨wpx4.heap.size, 0, none⟩ (.int .i64 s8)).setCell ⟨wpx4.heap.size, 1, none⟩ (.int .i64 v8)).setCell ⟨wpx4.heap.size, 2, none⟩ (.slice ay (flen k8) cy))) := zb_fin HZ.out HBD.out hbz HLX.out hze (.inr (Nat.le_refl _))
      refine anyT_one (i := 10) (by kernel_rfl) rfl (fun K hK => ?_)
      go_simp
      refine hK _ _ ⟨⟨_, HFIN.out.1⟩, rfl⟩ ?_
      clear hK K hzz0 hzz1 hzz2 hzf0 hzf1 hzf2
      refine anyT_one (i := 11) (by kernel_rfl) rfl (fun K hK => ?_)
      go_simp
      refine hK _ _ ⟨⟨_, HFIN.out.1⟩, rfl⟩ ?_
      clear hK K
      refine anyT_done (by kernel_rfl) ?_
      have HBE := Lib.hid HFIN.out.1
      have Hy := Lib.hid HFIN.out.2
      clear HFIN HZ HLX HBD
      generalize (((wzx4.setCell ⟨wpx4.heap.size, 0, none⟩ (.int .i64 s8)).setCell ⟨wpx4.heap.size, 1, none⟩ (.int .i64 v8)).setCell ⟨wpx4.heap.size, 2, none⟩ (.slice ay (flen k8) cy)) = wex4 at *
      have Hlow' : Hid (Below w.heap.size w wex4) := below_next Hlow.out HBE.out
      have HE' : Hid (ESl wex4 0 wex4.heap.size A es) := HE.out.next HBE.out
      have HLS' : Hid (LSl wex4 0 wex4.heap.size A2 ls) := HLS.out.next HBE.out
      have Ht' : Hid (Tb wa.heap.size s v a c k wex4) := Ht.out.next HBE.out
      have Hw' : Hid (Tb wx1.heap.size sw vw aw cw kw wex4) := Hw.out.next HBE.out
      have Hx' : Hid (Tb wx2.heap.size sw vw ax cx kw wex4) := Hx.out.next HBE.out
      have HL1' : Hid (LSl wex4 0 wex4.heap.size A2 ls1) := HL1.out.next HBE.out
      have HL2' : Hid (LSl wex4 0 wex4.heap.size A3 ls2) := HL2.out.next HBE.out
      clear Hlow HE HLS Ht Hw Hx HL1 HL2
      have Hlow := Hlow'
      clear Hlow'
      have HE := HE'
      clear HE'
      have HLS := HLS'
      clear HLS'
      have Ht := Ht'
      clear Ht'
      have Hw := Hw'
      clear Hw'
      have Hx := Hx'
      clear Hx'
      have HL1 := HL1'
      clear HL1'
      have HL2 := HL2'
      clear HL2'
      clear HBE
      go_wp2_with fail
      clear hcut1
      have hu0 : ∀ u : After wex4.heap.size wex4, u.world.cell? ⟨wpx4.heap.size, 0, none⟩ = some (.int .i64 s8) := fun u => cell_low u.below Hy.out.c0
      have hu1 : ∀ u : After wex4.heap.size wex4, u.world.cell? ⟨wpx4.heap.size, 1, none⟩ = some (.int .i64 v8) := fun u => cell_low u.below Hy.out.c1
      have hu2 : ∀ u : After wex4.heap.size wex4, u.world.cell? ⟨wpx4.heap.size, 2, none⟩ = some (.slice ay (flen k8) cy) := fun u => cell_low u.below Hy.out.c2
      go_wp2_with fail
      refine wp_region_anyT (fun w' => ∃ u : After wex4.heap.size wex4, w' = u.world) (by kernel_rfl) ?_
      have HBD : Hid (Below wex4.heap.size wex4 wex4.drew) := (Below.refl _ _).drew
      generalize wex4.drew = wdx5 at *
      refine anyT_look (i := 0) rfl (by kernel_rfl) ⟨⟨_, HBD.out⟩, rfl⟩ (fun K hK => ?_)
      go_simp
      refine hK _ ?_
      clear hK K
      refine anyT_look (i := 1) rfl (by kernel_rfl) ⟨⟨_, HBD.out⟩, rfl⟩ (fun K hK => ?_)
      go_simp
      refine hK _ ?_
      clear hK K
      refine anyT_look (i := 2) rfl (by kernel_rfl) ⟨⟨_, HBD.out⟩, rfl⟩ (fun K hK => ?_)
      go_simp
      refine hK _ ?_
      clear hK K
      refine anyT_look (i := 3) rfl (by kernel_rfl) ⟨⟨_, HBD.out⟩, rfl⟩ (fun K hK => ?_)
      go_simp
      refine hK _ ?_
      clear hK K
      refine anyT_look (i := 4) rfl (by kernel_rfl) ⟨⟨_, HBD.out⟩, rfl⟩ (fun K hK => ?_)
      go_simp
      refine hK _ ?_
      clear hK K
      clear hu0 hu1 hu2
      refine anyT_two (i := 5) (j := 9) (by kernel_rfl) rfl rfl (fun K hK => ?_) (fun K hK => ?_)
      · go_simp
        with_reducible refine (iProofEnd_any es A C s8 v8 ay cy k8 A3 (C2 - ls1.length) ls2 _ (HE.out.next HBD.out) (by omega) ((Hy.out.next HBD.out).sl) (HL2.out.next HBD.out) (by omega) HSM2.out).mono ?_
        rintro e wpx5 ⟨az, cz, s9, v9, k9, t9, hR, rfl, hb, hlx⟩
        rw [HY2.out] at hR
        simp only [ansR, Prod.mk.injEq] at hR
        obtain ⟨⟨rfl, rfl, rfl⟩, rfl⟩ := hR
        have HLX := Lib.hid hlx
        clear hlx
        have hlo : wex4.heap.size ≤ wdx5.heap.size := HBD.out.size
        replace HBD := Lib.hid (HBD.out.trans (hb.mono hlo))
        refine hK _ _ ⟨⟨_, HBD.out⟩, rfl⟩ ?_
        clear hK K hb
        refine anyT_look (i := 6) rfl (by kernel_rfl) ⟨⟨_, HBD.out⟩, rfl⟩ (fun K hK => ?_)
        go_simp
        refine hK _ ?_
        clear hK K
        refine anyT_look (i := 7) rfl (by kernel_rfl) ⟨⟨_, HBD.out⟩, rfl⟩ (fun K hK => ?_)
        go_simp
        refine hK _ ?_
        clear hK K
        refine anyT_look (i := 8) rfl (by kernel_rfl) ⟨⟨_, HBD.out⟩, rfl⟩ (fun K hK => ?_)
        go_simp
        refine hK _ ?_
        clear hK K
        refine anyT_one (i := 9) (by kernel_rfl) rfl (fun K hK => ?_)
        go_simp
        have HZ := Lib.hid (zb_new wpx5)
        have hbz : wex4.heap.size ≤ wpx5.heap.size := HBD.out.size
        have hbe : Below wpx5.heap.size wpx5 (wpx5.alloc (.cells #[.int .i64 0, .int .i64 0, .slice none 0 0] 35)) := (Below.refl _ _).alloc (Nat.le_refl _) _
        replace HLX := Lib.hid (HLX.out.below hbe)
        replace HBD := Lib.hid (HBD.out.trans (hbe.mono hbz))
        refine hK _ _ ⟨⟨_, HBD.out⟩, rfl⟩ ?_
        have hze := hbe.size
        clear hK K hbe
        generalize wpx5.alloc (.cells #[.int .i64 0, .int .i64 0, .slice none 0 0] 35) = wzx5 at *
        have hzz0 := HZ.out.z0
        have hzz1 := HZ.out.z1
        have hzz2 := HZ.out.z2
        have hzf0 := HZ.out.f 0
        have hzf1 := HZ.out.f 1
        have hzf2 := HZ.out.f 2
        have HFIN : Hid (Below wex4.heap.size wex4 (((wzx5.setCell ⟨wpx5.heap.size, 0, none⟩ (.int .i64 sw)).setCell ⟨wpx5.heap.size, 1, none⟩ (.int .i64 vw)).setCell ⟨wpx5.heap.size, 2, none⟩ (.slice az (flen kw) cz)) ∧ Tb wpx5.heap.size sw vw az cz kw (((wzx5.setCell ⟨wpx5.heap.size, 0, none⟩ (.int .i64 sw)).setCell ⟨wpx5.heap.size, 1, none⟩ (.int .i64 vw)).setCell ⟨wpx5.heap.size, 2, none⟩ (.slice az (flen kw) cz))) := zb_fin HZ.out HBD.out hbz HLX.out hze (.inr (Nat.le_refl _))
        refine anyT_one (i := 10) (by kernel_rfl) rfl (fun K hK => ?_)
        go_simp
        refine hK _ _ ⟨⟨_, HFIN.out.1⟩, rfl⟩ ?_
        clear hK K hzz0 hzz1 hzz2 hzf0 hzf1 hzf2
        refine anyT_one (i := 11) (by kernel_rfl) rfl (fun K hK => ?_)
        go_simp
        refine hK _ _ ⟨⟨_, HFIN.out.1⟩, rfl⟩ ?_
        clear hK K
        refine anyT_done (by kernel_rfl) ?_
        have HBE := Lib.hid HFIN.out.1
        have Hz := Lib.hid HFIN.out.2
        clear HFIN HZ HLX HBD
        generalize (((wzx5.setCell ⟨wpx5.heap.size, 0, none⟩ (.int .i64 sw)).setCell ⟨wpx5.heap.size, 1, none⟩ (.int .i64 vw)).setCell ⟨wpx5.heap.size, 2, none⟩ (.slice az (flen kw) cz)) = wex5 at *
        have Hlow' : Hid (Below w.heap.size w wex5) := below_next Hlow.out HBE.out
        have HE' : Hid (ESl wex5 0 wex5.heap.size A es) := HE.out.next HBE.out
        have HLS' : Hid (LSl wex5 0 wex5.heap.size A2 ls) := HLS.out.next HBE.out
        have Ht' : Hid (Tb wa.heap.size s v a c k wex5) := Ht.out.next HBE.out
        have Hw' : Hid (Tb wx1.heap.size sw vw aw cw kw wex5) := Hw.out.next HBE.out
        have Hx' : Hid (Tb wx2.heap.size sw vw ax cx kw wex5) := Hx.out.next HBE.out
        have HL1' : Hid (LSl wex5 0 wex5.heap.size A2 ls1) := HL1.out.next HBE.out
        have HL2' : Hid (LSl wex5 0 wex5.heap.size A3 ls2) := HL2.out.next HBE.out
        have Hy' : Hid (Tb wpx4.heap.size s8 v8 ay cy k8 wex5) := Hy.out.next HBE.out
        clear Hlow HE HLS Ht Hw Hx HL1 HL2 Hy
        have Hlow := Hlow'
        clear Hlow'
        have HE := HE'
        clear HE'
        have HLS := HLS'
        clear HLS'
        have Ht := Ht'
        clear Ht'
        have Hw := Hw'
        clear Hw'
        have Hx := Hx'
        clear Hx'
        have HL1 := HL1'
        clear HL1'
        have HL2 := HL2'
        clear HL2'
        have Hy := Hy'
        clear Hy'
        clear HBE
        have qz0 := Hz.out.c0
        have qz1 := Hz.out.c1
        have qz2 := Hz.out.c2
        have qx0 := Hx.out.c0
        have qx1 := Hx.out.c1
        have qx2 := Hx.out.c2
        go_wp2_with fail
        with_reducible refine (laTerm_same (fsz kw) sw vw az ax cz cx kw _ Hz.out.sl Hx.out.sl (Nat.le_refl _) (by omega)).mono ?_
        rintro e wx6 ⟨rfl, hb⟩
        clear qz0 qz1 qz2 qx0 qx1 qx2
        have Hlow' : Hid (Below w.heap.size w wx6) := below_next Hlow.out hb
        have HE' : Hid (ESl wx6 0 wx6.heap.size A es) := HE.out.next hb
        have HLS' : Hid (LSl wx6 0 wx6.heap.size A2 ls) := HLS.out.next hb
        have Ht' : Hid (Tb wa.heap.size s v a c k wx6) := Ht.out.next hb
        have Hw' : Hid (Tb wx1.heap.size sw vw aw cw kw wx6) := Hw.out.next hb
        have Hx' : Hid (Tb wx2.heap.size sw vw ax cx kw wx6) := Hx.out.next hb
        have HL1' : Hid (LSl wx6 0 wx6.heap.size A2 ls1) := HL1.out.next hb
        have HL2' : Hid (LSl wx6 0 wx6.heap.size A3 ls2) := HL2.out.next hb
        have Hy' : Hid (Tb wpx4.heap.size s8 v8 ay cy k8 wx6) := Hy.out.next hb
        have Hz' : Hid (Tb wpx5.heap.size sw vw az cz kw wx6) := Hz.out.next hb
        clear Hlow HE HLS Ht Hw Hx HL1 HL2 Hy Hz
        have Hlow := Hlow'
        clear Hlow'
        have HE := HE'
        clear HE'
        have HLS := HLS'
        clear HLS'
        have Ht := Ht'
        clear Ht'
        have Hw := Hw'
        clear Hw'
        have Hx := Hx'
        clear Hx'
        have HL1 := HL1'
        clear HL1'
        have HL2 := HL2'
        clear HL2'
        have Hy := Hy'
        clear Hy'
        have Hz := Hz'
        clear Hz'
        clear hb
        go_wp2_with fail
        go_ret
        exact ⟨rfl, Hlow.out⟩
      · go_simp
        have HZ := Lib.hid (zb_new wdx5)
        have hbz : wex4.heap.size ≤ wdx5.heap.size := HBD.out.size
        have hbe : Below wdx5.heap.size wdx5 (wdx5.alloc (.cells #[.int .i64 0, .int .i64 0, .slice none 0 0] 35)) := (Below.refl _ _).alloc (Nat.le_refl _) _
        replace HBD := Lib.hid (HBD.out.trans (hbe.mono hbz))
        refine hK _ _ ⟨⟨_, HBD.out⟩, rfl⟩ ?_
        clear hK K hbe
        generalize wdx5.alloc (.cells #[.int .i64 0, .int .i64 0, .slice none 0 0] 35) = wzx5 at *
        refine anyT_one (i := 5) (by kernel_rfl) rfl (fun K hK => ?_)
        go_simp
        with_reducible refine (iProofEnd_any es A C s8 v8 ay cy k8 A3 (C2 - ls1.length) ls2 _ (HE.out.next HBD.out) (by omega) ((Hy.out.next HBD.out).sl) (HL2.out.next HBD.out) (by omega) HSM2.out).mono ?_
        rintro e wpx5 ⟨az, cz, s9, v9, k9, t9, hR, rfl, hb, hlx⟩
        rw [HY2.out] at hR
        simp only [ansR, Prod.mk.injEq] at hR
        obtain ⟨⟨rfl, rfl, rfl⟩, rfl⟩ := hR
        have HLX := Lib.hid hlx
        clear hlx
        have hlo : wex4.heap.size ≤ wzx5.heap.size := HBD.out.size
        have hzl := HZ.out.lt
        replace HZ := Lib.hid (HZ.out.low hb)
        replace HBD := Lib.hid (HBD.out.trans (hb.mono hlo))
        refine hK _ _ ⟨⟨_, HBD.out⟩, rfl⟩ ?_
        clear hK K hb
        refine anyT_look (i := 6) rfl (by kernel_rfl) ⟨⟨_, HBD.out⟩, rfl⟩ (fun K hK => ?_)
        go_simp
        refine hK _ ?_
        clear hK K
        refine anyT_look (i := 7) rfl (by kernel_rfl) ⟨⟨_, HBD.out⟩, rfl⟩ (fun K hK => ?_)
        go_simp
        refine hK _ ?_
        clear hK K
        refine anyT_look (i := 8) rfl (by kernel_rfl) ⟨⟨_, HBD.out⟩, rfl⟩ (fun K hK => ?_)
        go_simp
        refine hK _ ?_
        clear hK K
        have hzz0 := HZ.out.z0
        have hzz1 := HZ.out.z1
        have hzz2 := HZ.out.z2
        have hzf0 := HZ.out.f 0
        have hzf1 := HZ.out.f 1
        have hzf2 := HZ.out.f 2
        have HFIN : Hid (Below wex4.heap.size wex4 (((wpx5.setCell ⟨wdx5.heap.size, 0, none⟩ (.int .i64 sw)).setCell ⟨wdx5.heap.size, 1, none⟩ (.int .i64 vw)).setCell ⟨wdx5.heap.size, 2, none⟩ (.slice az (flen kw) cz)) ∧ Tb wdx5.heap.size sw vw az cz kw (((wpx5.setCell ⟨wdx5.heap.size, 0, none⟩ (.int .i64 sw)).setCell ⟨wdx5.heap.size, 1, none⟩ (.int .i64 vw)).setCell ⟨wdx5.heap.size, 2, none⟩ (.slice az (flen kw) cz))) := zb_fin HZ.out HBD.out hbz HLX.out (Nat.le_refl _) (.inl hzl)
        refine anyT_one (i := 10) (by kernel_rfl) rfl (fun K hK => ?_)
        go_simp
        refine hK _ _ ⟨⟨_, HFIN.out.1⟩, rfl⟩ ?_
        clear hK K hzz0 hzz1 hzz2 hzf0 hzf1 hzf2
        refine anyT_one (i := 11) (by kernel_rfl) rfl (fun K hK => ?_)
        go_simp
        refine hK _ _ ⟨⟨_, HFIN.out.1⟩, rfl⟩ ?_
        clear hK K
        refine anyT_done (by kernel_rfl) ?_
        have HBE := Lib.hid HFIN.out.1
        have Hz := Lib.hid HFIN.out.2
        clear HFIN HZ HLX HBD
        generalize (((wpx5.setCell ⟨wdx5.heap.size, 0, none⟩ (.int .i64 sw)).setCell ⟨wdx5.heap.size, 1, none⟩ (.int .i64 vw)).setCell ⟨wdx5.heap.size, 2, none⟩ (.slice az (flen kw) cz)) = wex5 at *
        have Hlow' : Hid (Below w.heap.size w wex5) := below_next Hlow.out HBE.out
        have HE' : Hid (ESl wex5 0 wex5.heap.size A es) := HE.out.next HBE.out
        have HLS' : Hid (LSl wex5 0 wex5.heap.size A2 ls) := HLS.out.next HBE.out
        have Ht' : Hid (Tb wa.heap.size s v a c k wex5) := Ht.out.next HBE.out
        have Hw' : Hid (Tb wx1.heap.size sw vw aw cw kw wex5) := Hw.out.next HBE.out
        have Hx' : Hid (Tb wx2.heap.size sw vw ax cx kw wex5) := Hx.out.next HBE.out
        have HL1' : Hid (LSl wex5 0 wex5.heap.size A2 ls1) := HL1.out.next HBE.out
        have HL2' : Hid (LSl wex5 0 wex5.heap.size A3 ls2) := HL2.out.next HBE.out
        have Hy' : Hid (Tb wpx4.heap.size s8 v8 ay cy k8 wex5) := Hy.out.next HBE.out
        clear Hlow HE HLS Ht Hw Hx HL1 HL2 Hy
        have Hlow := Hlow'
        clear Hlow'
        have HE := HE'
        clear HE'
        have HLS := HLS'
        clear HLS'
        have Ht := Ht'
        clear Ht'
        have Hw := Hw'
        clear Hw'
        have Hx := Hx'
        clear Hx'
        have HL1 := HL1'
        clear HL1'
        have HL2 := HL2'
        clear HL2'
        have Hy := Hy'
        clear Hy'
        clear HBE
        have qz0 := Hz.out.c0
        have qz1 := Hz.out.c1
        have qz2 := Hz.out.c2
        have qx0 := Hx.out.c0
        have qx1 := Hx.out.c1
        have qx2 := Hx.out.c2
        go_wp2_with fail
        with_reducible refine (laTerm_same (fsz kw) sw vw az ax cz cx kw _ Hz.out.sl Hx.out.sl (Nat.le_refl _) (by omega)).mono ?_
        rintro e wx6 ⟨rfl, hb⟩
        clear qz0 qz1 qz2 qx0 qx1 qx2
        have Hlow' : Hid (Below w.heap.size w wx6) := below_next Hlow.out hb
        have HE' : Hid (ESl wx6 0 wx6.heap.size A es) := HE.out.next hb
        have HLS' : Hid (LSl wx6 0 wx6.heap.size A2 ls) := HLS.out.next hb
        have Ht' : Hid (Tb wa.heap.size s v a c k wx6) := Ht.out.next hb
        have Hw' : Hid (Tb wx1.heap.size sw vw aw cw kw wx6) := Hw.out.next hb
        have Hx' : Hid (Tb wx2.heap.size sw vw ax cx kw wx6) := Hx.out.next hb
        have HL1' : Hid (LSl wx6 0 wx6.heap.size A2 ls1) := HL1.out.next hb
        have HL2' : Hid (LSl wx6 0 wx6.heap.size A3 ls2) := HL2.out.next hb
        have Hy' : Hid (Tb wpx4.heap.size s8 v8 ay cy k8 wx6) := Hy.out.next hb
        have Hz' : Hid (Tb wdx5.heap.size sw vw az cz kw wx6) := Hz.out.next hb
        clear Hlow HE HLS Ht Hw Hx HL1 HL2 Hy Hz
        have Hlow := Hlow'
        clear Hlow'
        have HE := HE'
        clear HE'
        have HLS := HLS'
        clear HLS'
        have Ht := Ht'
        clear Ht'
        have Hw := Hw'
        clear Hw'
        have Hx := Hx'
        clear Hx'
        have HL1 := HL1'
        clear HL1'
        have HL2 := HL2'
        clear HL2'
        have Hy := Hy'
        clear Hy'
        have Hz := Hz'
        clear Hz'
        clear hb
        go_wp2_with fail
        go_ret
        exact ⟨rfl, Hlow.out⟩
    · go_simp
      have HZ := Lib.hid (zb_new wdx4)
      have hbz : wx3.heap.size ≤ wdx4.heap.size := HBD.out.size
      have hbe : Below wdx4.heap.size wdx4 (wdx4.alloc (.cells #[.int .i64 0, .int .i64 0, .slice none 0 0] 35)) := (Below.refl _ _).alloc (Nat.le_refl _) _
      replace HBD := Lib.hid (HBD.out.trans (hbe.mono hbz))
      refine hK _ _ ⟨⟨_, HBD.out⟩, rfl⟩ ?_
      clear hK K hbe
      generalize wdx4.alloc (.cells #[.int .i64 0, .int .i64 0, .slice none 0 0] 35) = wzx4 at *
      refine anyT_one (i := 5) (by kernel_rfl) rfl (fun K hK => ?_)
      go_simp
      with_reducible refine (iProofEnd_any es A C s v a c k A2 C2 ls1 _ (HE.out.next HBD.out) (by omega) ((Ht.out.next HBD.out).sl) (HL1.out.next HBD.out) (by omega) HSM1.out).mono ?_
      rintro e wpx4 ⟨ay, cy, s9, v9, k9, t9, hR, rfl, hb, hlx⟩
      rw [HY1.out] at hR
      simp only [ansR, Prod.mk.injEq] at hR
      obtain ⟨⟨rfl, rfl, rfl⟩, rfl⟩ := hR
      have HLX := Lib.hid hlx
      clear hlx
      have hlo : wx3.heap.size ≤ wzx4.heap.size := HBD.out.size
      have hzl := HZ.out.lt
      replace HZ := Lib.hid (HZ.out.low hb)
      replace HBD := Lib.hid (HBD.out.trans (hb.mono hlo))
      refine hK _ _ ⟨⟨_, HBD.out⟩, rfl⟩ ?_
      clear hK K hb
      refine anyT_look (i := 6) rfl (by kernel_rfl) ⟨⟨_, HBD.out⟩, rfl⟩ (fun K hK => ?_)
      go_simp
      refine hK _ ?_
      clear hK K
      refine anyT_look (i := 7) rfl (by kernel_rfl) ⟨⟨_, HBD.out⟩, rfl⟩ (fun K hK => ?_)
      go_simp
      refine hK _ ?_
      clear hK K
      refine anyT_look (i := 8) rfl (by kernel_rfl) ⟨⟨_, HBD.out⟩, rfl⟩ (fun K hK => ?_)
      go_simp
      refine hK _ ?_
      clear hK K
      have hzz0 := HZ.out.z0
      have hzz1 := HZ.out.z1
      have hzz2 := HZ.out.z2
      have hzf0 := HZ.out.f 0
      have hzf1 := HZ.out.f 1
      have hzf2 := HZ.out.f 2
      have HFIN : Hid (Below wx3.heap.size wx3 (((wpx4.setCell ⟨wdx4.heap.size, 0, none⟩ (.int .i64 s8)).setCell ⟨wdx4.heap.size, 1, none⟩ (.int .i64 v8)).setCell ⟨wdx4.heap.size, 2, none⟩ (.slice ay (flen k8) cy)) ∧ Tb wdx4.heap.size s8 v8 ay cy k8 (((wpx4.setCell ⟨wdx4.heap.size, 0, none⟩ (.int .i64 s8)).setCell ⟨wdx4.heap.size, 1, none⟩ (.int .i64 v8)).setCell ⟨wdx4.heap.size, 2, none⟩ (.slice ay (flen k8) cy))) := zb_fin HZ.out HBD.out hbz HLX.out (Nat.le_refl _) (.inl hzl)
      refine anyT_one (i := 10) (by kernel_rfl) rfl (fun K hK => ?_)
      go_simp
      refine hK _ _ ⟨⟨_, HFIN.out.1⟩, rfl⟩ ?_
      clear hK K hzz0 hzz1 hzz2 hzf0 hzf1 hzf2
      refine anyT_one (i := 11) (by kernel_rfl) rfl (fun K hK => ?_)
      go_simp
      refine hK _ _ ⟨⟨_, HFIN.out.1⟩, rfl⟩ ?_
      clear hK K
      refine anyT_done (by kernel_rfl) ?_
      have HBE := Lib.hid HFIN.out.1
      have Hy := Lib.hid HFIN.out.2
      clear HFIN HZ HLX HBD
      generalize (((wpx4.setCell ⟨wdx4.heap.size, 0, none⟩ (.int .i64 s8)).setCell ⟨wdx4.heap.size, 1, none⟩ (.int .i64 v8)).setCell ⟨wdx4.heap.size, 2, none⟩ (.slice ay (flen k8) cy)) = wex4 at *
      have Hlow' : Hid (Below w.heap.size w wex4) := below_next Hlow.out HBE.out
      have HE' : Hid (ESl wex4 0 wex4.heap.size A es) := HE.out.next HBE.out
      have HLS' : Hid (LSl wex4 0 wex4.heap.size A2 ls) := HLS.out.next HBE.out
      have Ht' : Hid (Tb wa.heap.size s v a c k wex4) := Ht.out.next HBE.out
      have Hw' : Hid (Tb wx1.heap.size sw vw aw cw kw wex4) := Hw.out.next HBE.out
      have Hx' : Hid (Tb wx2.heap.size sw vw ax cx kw wex4) := Hx.out.next HBE.out
      have HL1' : Hid (LSl wex4 0 wex4.heap.size A2 ls1) := HL1.out.next HBE.out
      have HL2' : Hid (LSl wex4 0 wex4.heap.size A3 ls2) := HL2.out.next HBE.out
      clear Hlow HE HLS Ht Hw Hx HL1 HL2
      have Hlow := Hlow'
      clear Hlow'
      have HE := HE'
      clear HE'
      have HLS := HLS'
      clear HLS'
      have Ht := Ht'
      clear Ht'
      have Hw := Hw'
      clear Hw'
      have Hx := Hx'
      clear Hx'
      have HL1 := HL1'
      clear HL1'
      have HL2 := HL2'
      clear HL2'
      clear HBE
      go_wp2_with fail
      clear hcut1
      have hu0 : ∀ u : After wex4.heap.size wex4, u.world.cell? ⟨wdx4.heap.size, 0, none⟩ = some (.int .i64 s8) := fun u => cell_low u.below Hy.out.c0
      have hu1 : ∀ u : After wex4.heap.size wex4, u.world.cell? ⟨wdx4.heap.size, 1, none⟩ = some (.int .i64 v8) := fun u => cell_low u.below Hy.out.c1
      have hu2 : ∀ u : After wex4.heap.size wex4, u.world.cell? ⟨wdx4.heap.size, 2, none⟩ = some (.slice ay (flen k8) cy) := fun u => cell_low u.below Hy.out.c2
      go_wp2_with fail
      refine wp_region_anyT (fun w' => ∃ u : After wex4.heap.size wex4, w' = u.world) (by kernel_rfl) ?_
      have HBD : Hid (Below wex4.heap.size wex4 wex4.drew) := (Below.refl _ _).drew
      generalize wex4.drew = wdx5 at *
      refine anyT_look (i := 0) rfl (by kernel_rfl) ⟨⟨_, HBD.out⟩, rfl⟩ (fun K hK => ?_)
      go_simp
      refine hK _ ?_
      clear hK K
      refine anyT_look (i := 1) rfl (by kernel_rfl) ⟨⟨_, HBD.out⟩, rfl⟩ (fun K hK => ?_)
      go_simp
      refine hK _ ?_
      clear hK K
      refine anyT_look (i := 2) rfl (by kernel_rfl) ⟨⟨_, HBD.out⟩, rfl⟩ (fun K hK => ?_)
      go_simp
      refine hK _ ?_
      clear hK K
      refine anyT_look (i := 3) rfl (by kernel_rfl) ⟨⟨_, HBD.out⟩, rfl⟩ (fun K hK => ?_)
      go_simp
      refine hK _ ?_
      clear hK K
      refine anyT_look (i := 4) rfl (by kernel_rfl) ⟨⟨_, HBD.out⟩, rfl⟩ (fun K hK => ?_)
      go_simp
      refine hK _ ?_
      clear hK K
      clear hu0 hu1 hu2
      refine anyT_two (i := 5) (j := 9) (by kernel_rfl) rfl rfl (fun K hK => ?_) (fun K hK => ?_)
      · go_simp
        with_reducible refine (iProofEnd_any es A C s8 v8 ay cy k8 A3 (C2 - ls1.length) ls2 _ (HE.out.next HBD.out) (by omega) ((Hy.out.next HBD.out).sl) (HL2.out.next HBD.out) (by omega) HSM2.out).mono ?_
        rintro e wpx5 ⟨az, cz, s9, v9, k9, t9, hR, rfl, hb, hlx⟩
        rw [HY2.out] at hR
        simp only [ansR, Prod.mk.injEq] at hR
        obtain ⟨⟨rfl, rfl, rfl⟩, rfl⟩ := hR
        have HLX := Lib.hid hlx
        clear hlx
        have hlo : wex4.heap.size ≤ wdx5.heap.size := HBD.out.size
        replace HBD := Lib.hid (HBD.out.trans (hb.mono hlo))
        refine hK _ _ ⟨⟨_, HBD.out⟩, rfl⟩ ?_
        clear hK K hb
        refine anyT_look (i := 6) rfl (by kernel_rfl) ⟨⟨_, HBD.out⟩, rfl⟩ (fun K hK => ?_)
        go_simp
        refine hK _ ?_
        clear hK K
        refine anyT_look (i := 7) rfl (by kernel_rfl) ⟨⟨_, HBD.out⟩, rfl⟩ (fun K hK => ?_)
        go_simp
        refine hK _ ?_
        clear hK K
        refine anyT_look (i := 8) rfl (by kernel_rfl) ⟨⟨_, HBD.out⟩, rfl⟩ (fun K hK => ?_)
        go_simp
        refine hK _ ?_
        clear hK K
        refine anyT_one (i := 9) (by kernel_rfl) rfl (fun K hK => ?_)
        go_simp
        have HZ := Lib.hid (zb_new wpx5)
        have hbz : wex4.heap.size ≤ wpx5.heap.size := HBD.out.size
        have hbe : Below wpx5.heap.size wpx5 (wpx5.alloc (.cells #[.int .i64 0, .int .i64 0, .slice none 0 0] 35)) := (Below.refl _ _).alloc (Nat.le_refl _) _
        replace HLX := Lib.hid (HLX.out.below hbe)
        replace HBD := Lib.hid (HBD.out.trans (hbe.mono hbz))
        refine hK _ _ ⟨⟨_, HBD.out⟩, rfl⟩ ?_
        have hze := hbe.size
        clear hK K hbe
        generalize wpx5.alloc (.cells #[.int .i64 0, .int .i64 0, .slice none 0 0] 35) = wzx5 at *
        have hzz0 := HZ.out.z0
        have hzz1 := HZ.out.z1
        have hzz2 := HZ.out.z2
        have hzf0 := HZ.out.f 0
        have hzf1 := HZ.out.f 1
        have hzf2 := HZ.out.f 2
        have HFIN : Hid (Below wex4.heap.size wex4 (((wzx5.setCell ⟨wpx5.heap.size, 0, none⟩ (.int .i64 sw)).setCell ⟨wpx5.heap.size, 1, none⟩ (.int .i64 vw)).setCell ⟨wpx5.heap.size, 2, none⟩ (.slice az (flen kw) cz)) ∧ Tb wpx5.heap.size sw vw az cz kw (((wzx5.setCell ⟨wpx5.heap.size, 0, none⟩ (.int .i64 sw)).setCell ⟨wpx5.heap.size, 1, none⟩ (.int .i64 vw)).setCell ⟨wpx5.heap.size, 2, none⟩ (.slice az (flen kw) cz))) := zb_fin HZ.out HBD.out hbz HLX.out hze (.inr (Nat.le_refl _))
        refine anyT_one (i := 10) (by kernel_rfl) rfl (fun K hK => ?_)
        go_simp
        refine hK _ _ ⟨⟨_, HFIN.out.1⟩, rfl⟩ ?_
        clear hK K hzz0 hzz1 hzz2 hzf0 hzf1 hzf2
        refine anyT_one (i := 11) (by kernel_rfl) rfl (fun K hK => ?_)
        go_simp
        refine hK _ _ ⟨⟨_, HFIN.out.1⟩, rfl⟩ ?_
        clear hK K
        refine anyT_done (by kernel_rfl) ?_
        have HBE := Lib.hid HFIN.out.1
        have Hz := Lib.hid HFIN.out.2
        clear HFIN HZ HLX HBD
        generalize (((wzx5.setCell ⟨wpx5.heap.size, 0, none⟩ (.int .i64 sw)).setCell ⟨wpx5.heap.size, 1, none⟩ (.int .i64 vw)).setCell ⟨wpx5.heap.size, 2, none⟩ (.slice az (flen kw) cz)) = wex5 at *
        have Hlow' : Hid (Below w.heap.size w wex5) := below_next Hlow.out HBE.out
        have HE' : Hid (ESl wex5 0 wex5.heap.size A es) := HE.out.next HBE.out
        have HLS' : Hid (LSl wex5 0 wex5.heap.size A2 ls) := HLS.out.next HBE.out
        have Ht' : Hid (Tb wa.heap.size s v a c k wex5) := Ht.out.next HBE.out
        have Hw' : Hid (Tb wx1.heap.size sw vw aw cw kw wex5) := Hw.out.next HBE.out
        have Hx' : Hid (Tb wx2.heap.size sw vw ax cx kw wex5) := Hx.out.next HBE.out
        have HL1' : Hid (LSl wex5 0 wex5.heap.size A2 ls1) := HL1.out.next HBE.out
        have HL2' : Hid (LSl wex5 0 wex5.heap.size A3 ls2) := HL2.out.next HBE.out
        have Hy' : Hid (Tb wdx4.heap.size s8 v8 ay cy k8 wex5) := Hy.out.next HBE.out
        clear Hlow HE HLS Ht Hw Hx HL1 HL2 Hy
        have Hlow := Hlow'
        clear Hlow'
        have HE := HE'
        clear HE'
        have HLS := HLS'
        clear HLS'
        have Ht := Ht'
        clear Ht'
        have Hw := Hw'
        clear Hw'
        have Hx := Hx'
        clear Hx'
        have HL1 := HL1'
        clear HL1'
        have HL2 := HL2'
        clear HL2'
        have Hy := Hy'
        clear Hy'
        clear HBE
        have qz0 := Hz.out.c0
        have qz1 := Hz.out.c1
        have qz2 := Hz.out.c2
        have qx0 := Hx.out.c0
        have qx1 := Hx.out.c1
        have qx2 := Hx.out.c2
        go_wp2_with fail
        with_reducible refine (laTerm_same (fsz kw) sw vw az ax cz cx kw _ Hz.out.sl Hx.out.sl (Nat.le_refl _) (by omega)).mono ?_
        rintro e wx6 ⟨rfl, hb⟩
        clear qz0 qz1 qz2 qx0 qx1 qx2
        have Hlow' : Hid (Below w.heap.size w wx6) := below_next Hlow.out hb
        have HE' : Hid (ESl wx6 0 wx6.heap.size A es) := HE.out.next hb
        have HLS' : Hid (LSl wx6 0 wx6.heap.size A2 ls) := HLS.out.next hb
        have Ht' : Hid (Tb wa.heap.size s v a c k wx6) := Ht.out.next hb
        have Hw' : Hid (Tb wx1.heap.size sw vw aw cw kw wx6) := Hw.out.next hb
        have Hx' : Hid (Tb wx2.heap.size sw vw ax cx kw wx6) := Hx.out.next hb
        have HL1' : Hid (LSl wx6 0 wx6.heap.size A2 ls1) := HL1.out.next hb
        have HL2' : Hid (LSl wx6 0 wx6.heap.size A3 ls2) := HL2.out.next hb
        have Hy' : Hid (Tb wdx4.heap.size s8 v8 ay cy k8 wx6) := Hy.out.next hb
        have Hz' : Hid (Tb wpx5.heap.size sw vw az cz kw wx6) := Hz.out.next hb
        clear Hlow HE HLS Ht Hw Hx HL1 HL2 Hy Hz
        have Hlow := Hlow'
        clear Hlow'
        have HE := HE'
        clear HE'
        have HLS := HLS'
        clear HLS'
        have Ht := Ht'
        clear Ht'
        have Hw := Hw'
        clear Hw'
        have Hx := Hx'
        clear Hx'
        have HL1 := HL1'
        clear HL1'
        have HL2 := HL2'
        clear HL2'
        have Hy := Hy'
        clear Hy'
        have Hz := Hz'
        clear Hz'
        clear hb
        go_wp2_with fail
        go_ret
        exact ⟨rfl, Hlow.out⟩
      · go_simp
        have HZ := Lib.hid (zb_new wdx5)
        have hbz : wex4.heap.size ≤ wdx5.heap.size := HBD.out.size
        have hbe : Below wdx5.heap.size wdx5 (wdx5.alloc (.cells #[.int .i64 0, .int .i64 0, .slice none 0 0] 35)) := (Below.refl _ _).alloc (Nat.le_refl _) _
        replace HBD := Lib.hid (HBD.out.trans (hbe.mono hbz))
        refine hK _ _ ⟨⟨_, HBD.out⟩, rfl⟩ ?_
        clear hK K hbe
        generalize wdx5.alloc (.cells #[.int .i64 0, .int .i64 0, .slice none 0 0] 35) = wzx5 at *
        refine anyT_one (i := 5) (by kernel_rfl) rfl (fun K hK => ?_)
        go_simp
        with_reducible refine (iProofEnd_any es A C s8 v8 ay cy k8 A3 (C2 - ls1.length) ls2 _ (HE.out.next HBD.out) (by omega) ((Hy.out.next HBD.out).sl) (HL2.out.next HBD.out) (by omega) HSM2.out).mono ?_
        rintro e wpx5 ⟨az, cz, s9, v9, k9, t9, hR, rfl, hb, hlx⟩
        rw [HY2.out] at hR
        simp only [ansR, Prod.mk.injEq] at hR
        obtain ⟨⟨rfl, rfl, rfl⟩, rfl⟩ := hR
        have HLX := Lib.hid hlx
        clear hlx
        have hlo : wex4.heap.size ≤ wzx5.heap.size := HBD.out.size
        have hzl := HZ.out.lt
        replace HZ := Lib.hid (HZ.out.low hb)
        replace HBD := Lib.hid (HBD.out.trans (hb.mono hlo))
        refine hK _ _ ⟨⟨_, HBD.out⟩, rfl⟩ ?_
        clear hK K hb
        refine anyT_look (i := 6) rfl (by kernel_rfl) ⟨⟨_, HBD.out⟩, rfl⟩ (fun K hK => ?_)
        go_simp
        refine hK _ ?_
        clear hK K
        refine anyT_look (i := 7) rfl (by kernel_rfl) ⟨⟨_, HBD.out⟩, rfl⟩ (fun K hK => ?_)
        go_simp
        refine hK _ ?_
        clear hK K
        refine anyT_look (i := 8) rfl (by kernel_rfl) ⟨⟨_, HBD.out⟩, rfl⟩ (fun K hK => ?_)
        go_simp
        refine hK _ ?_
        clear hK K
        have hzz0 := HZ.out.z0
        have hzz1 := HZ.out.z1
        have hzz2 := HZ.out.z2
        have hzf0 := HZ.out.f 0
        have hzf1 := HZ.out.f 1
        have hzf2 := HZ.out.f 2
        have HFIN : Hid (Below wex4.heap.size wex4 (((wpx5.setCell ⟨wdx5.heap.size, 0, none⟩ (.int .i64 sw)).setCell ⟨wdx5.heap.size, 1, none⟩ (.int .i64 vw)).setCell ⟨wdx5.heap.size, 2, none⟩ (.slice az (flen kw) cz)) ∧ Tb wdx5.heap.size sw vw az cz kw (((wpx5.setCell ⟨wdx5.heap.size, 0, none⟩ (.int .i64 sw)).setCell ⟨wdx5.heap.size, 1, none⟩ (.int .i64 vw)).setCell ⟨wdx5.heap.size, 2, none⟩ (.slice az (flen kw) cz))) := zb_fin HZ.out HBD.out hbz HLX.out (Nat.le_refl _) (.inl hzl)
        refine anyT_one (i := 10) (by kernel_rfl) rfl (fun K hK => ?_)
        go_simp
        refine hK _ _ ⟨⟨_, HFIN.out.1⟩, rfl⟩ ?_
        clear hK K hzz0 hzz1 hzz2 hzf0 hzf1 hzf2
        refine anyT_one (i := 11) (by kernel_rfl) rfl (fun K hK => ?_)
        go_simp
        refine hK _ _ ⟨⟨_, HFIN.out.1⟩, rfl⟩ ?_
        clear hK K
        refine anyT_done (by kernel_rfl) ?_
        have HBE := Lib.hid HFIN.out.1
        have Hz := Lib.hid HFIN.out.2
        clear HFIN HZ HLX HBD
        generalize (((wpx5.setCell ⟨wdx5.heap.size, 0, none⟩ (.int .i64 sw)).setCell ⟨wdx5.heap.size, 1, none⟩ (.int .i64 vw)).setCell ⟨wdx5.heap.size, 2, none⟩ (.slice az (flen kw) cz)) = wex5 at *
        have Hlow' : Hid (Below w.heap.size w wex5) := below_next Hlow.out HBE.out
        have HE' : Hid (ESl wex5 0 wex5.heap.size A es) := HE.out.next HBE.out
        have HLS' : Hid (LSl wex5 0 wex5.heap.size A2 ls) := HLS.out.next HBE.out
        have Ht' : Hid (Tb wa.heap.size s v a c k wex5) := Ht.out.next HBE.out
        have Hw' : Hid (Tb wx1.heap.size sw vw aw cw kw wex5) := Hw.out.next HBE.out
        have Hx' : Hid (Tb wx2.heap.size sw vw ax cx kw wex5) := Hx.out.next HBE.out
        have HL1' : Hid (LSl wex5 0 wex5.heap.size A2 ls1) := HL1.out.next HBE.out
        have HL2' : Hid (LSl wex5 0 wex5.heap.size A3 ls2) := HL2.out.next HBE.out
        have Hy' : Hid (Tb wdx4.heap.size s8 v8 ay cy k8 wex5) := Hy.out.next HBE.out
        clear Hlow HE HLS Ht Hw Hx HL1 HL2 Hy
        have Hlow := Hlow'
        clear Hlow'
        have HE := HE'
        clear HE'
        have HLS := HLS'
        clear HLS'
        have Ht := Ht'
        clear Ht'
        have Hw := Hw'
        clear Hw'
        have Hx := Hx'
        clear Hx'
        have HL1 := HL1'
        clear HL1'
        have HL2 := HL2'
        clear HL2'
        have Hy := Hy'
        clear Hy'
        clear HBE
        have qz0 := Hz.out.c0
        have qz1 := Hz.out.c1
        have qz2 := Hz.out.c2
        have qx0 := Hx.out.c0
        have qx1 := Hx.out.c1
        have qx2 := Hx.out.c2
        go_wp2_with fail
        with_reducible refine (laTerm_same (fsz kw) sw vw az ax cz cx kw _ Hz.out.sl Hx.out.sl (Nat.le_refl _) (by omega)).mono ?_
        rintro e wx6 ⟨rfl, hb⟩
        clear qz0 qz1 qz2 qx0 qx1 qx2
        have Hlow' : Hid (Below w.heap.size w wx6) := below_next Hlow.out hb
        have HE' : Hid (ESl wx6 0 wx6.heap.size A es) := HE.out.next hb
        have HLS' : Hid (LSl wx6 0 wx6.heap.size A2 ls) := HLS.out.next hb
        have Ht' : Hid (Tb wa.heap.size s v a c k wx6) := Ht.out.next hb
        have Hw' : Hid (Tb wx1.heap.size sw vw aw cw kw wx6) := Hw.out.next hb
        have Hx' : Hid (Tb wx2.heap.size sw vw ax cx kw wx6) := Hx.out.next hb
        have HL1' : Hid (LSl wx6 0 wx6.heap.size A2 ls1) := HL1.out.next hb
        have HL2' : Hid (LSl wx6 0 wx6.heap.size A3 ls2) := HL2.out.next hb
        have Hy' : Hid (Tb wdx4.heap.size s8 v8 ay cy k8 wx6) := Hy.out.next hb
        have Hz' : Hid (Tb wdx5.heap.size sw vw az cz kw wx6) := Hz.out.next hb
        clear Hlow HE HLS Ht Hw Hx HL1 HL2 Hy Hz
        have Hlow := Hlow'
        clear Hlow'
        have HE := HE'
        clear HE'
        have HLS := HLS'
        clear HLS'
        have Ht := Ht'
        clear Ht'
        have Hw := Hw'
        clear Hw'
        have Hx := Hx'
        clear Hx'
        have HL1 := HL1'
        clear HL1'
        have HL2 := HL2'
        clear HL2'
        have Hy := Hy'
        clear Hy'
        have Hz := Hz'
        clear Hz'
        clear hb
        go_wp2_with fail
        go_ret
        exact ⟨rfl, Hlow.out⟩
end Go.Proofs.Ytdkcbbhkoibplaa
