/- Several texts in one: WL, LawSSize. -/
import Derived.Test.YtkmfnhoeigoajaaKSub8
import Derived.Test.YtkmfnhoeigoajaaKSub5
import Derived.Test.YtkmfnhoeigoajaaKSub9
import Derived.Test.YtkmfnhoeigoajaaKSub11
import Derived.Test.YtkmfnhoeigoajaaKSub12

/-! WL: - The size of a node; TermSize. -/
namespace Go.Proofs.Ytkmfnhoeigoajaa
open Go.RowKit Go.Deep
set_option maxRecDepth 100000 in
set_option maxHeartbeats 1000000 in
theorem iTermSize_any (s v : Int) (a : Option Addr) (c : Nat) (k : Fo) (w : World) (hl : Sl w 0 w.heap.size a k) :
    Calls Try.prog 24 #[.agg #[.int .i64 s, .int .i64 v, .slice a (flen k) c]] w fun e w' => e = .returned (.int .i64 (if okW s v k 16 = true then 1 + fsz k else -1)) ∧ Below w.heap.size w w' := by
  cases hok : okW s v k 16 with
  | false =>
    have HOK := Lib.hid hok
    clear hok
    go_enter Try.func24, Try.ntmps24
    go_wp2_with fail
    with_reducible refine (nodeOf_any s v a c k 16 _ ?_ (by omega) (by omega)).mono ?_
    · exact (hl.below ((Below.refl _ _).alloc (Nat.le_refl _) _)).mono (Nat.le_refl _) (by simp)
    rintro e w2 ⟨nv, he, hb, hyes⟩
    rw [HOK.out] at he
    subst he
    clear hyes
    go_wp2_with fail
    go_ret
    exact ⟨rfl, ((Below.refl _ _).alloc (Nat.le_refl _) _).trans (hb.mono (by simp))⟩
  | true =>
    have HOK := Lib.hid hok
    have hsz := ((okW_iff _ _ _ _).1 hok).2.2
    clear hok
    go_enter Try.func24, Try.ntmps24
    go_wp2_with fail
    with_reducible refine (nodeOf_any s v a c k 16 _ ?_ (by omega) (by omega)).mono ?_
    · exact (hl.below ((Below.refl _ _).alloc (Nat.le_refl _) _)).mono (Nat.le_refl _) (by simp)
    rintro e w2 ⟨nv, he, hb, hyes⟩
    rw [HOK.out] at he
    subst he
    have hn := hyes HOK.out
    have HB := Lib.hid (((Below.refl _ _).alloc (Nat.le_refl _) _).trans (hb.mono (by simp)))
    clear hyes hb
    rcases hn with ⟨hs', rfl, rfl⟩ | ⟨hs', a2, c2, rfl, hn2⟩
    · go_wp2_with fail
      refine upon_method 97 (by kernel_rfl) (by kernel_rfl) ?_
      go_simp
      with_reducible refine (varSize_any v _).mono ?_
      rintro e w3 ⟨rfl, rfl⟩
      go_wp2_with fail
      go_ret
      exact ⟨rfl, HB.out⟩
    · have HN2 := Lib.hid hn2
      clear hn2
      go_wp2_with fail
      refine upon_method 100 (by kernel_rfl) (by kernel_rfl) ?_
      go_simp
      with_reducible refine (symSize_any (fsz k) s a2 c2 k _ ?_ (Nat.le_refl _) (by omega)).mono ?_
      · exact HN2.out.mono (Nat.zero_le _) (Nat.le_refl _)
      rintro e w3 ⟨rfl, hb3⟩
      go_wp2_with fail
      go_ret
      exact ⟨by simp, HB.out.trans (hb3.mono HB.out.size)⟩

end Go.Proofs.Ytkmfnhoeigoajaa

/-! LawSSize: laws.FnSubstSize answers true at every code. -/
namespace Go.Proofs.Ytkmfnhoeigoajaa
open Go.RowKit Go.Deep
attribute [local go_sem ↓] Go.wp_at_zero Go.wp_at_succ

set_option maxRecDepth 100000 in
set_option maxHeartbeats 4000000 in
theorem substSize_walk (a0 : Option Addr) (len cap : Nat) (w : World) (hby : Bytes w a0 len) (hlen : len ≤ cap) :
    Calls Try.prog 7 #[.slice a0 len cap] w fun e w' => e = .returned (.bool true) ∧ Below w.heap.size w w' := by
  have HBY := Lib.hid hby
  clear hby
  by_cases hbiglen : 1048576 < len
  · go_enter Try.func7, Try.ntmps7
    go_wp2_with fail
    go_ret
    exact ⟨rfl, Below.refl _ _⟩
  go_enter Try.func7, Try.ntmps7
  go_wp2_with fail
  with_reducible refine (DrawSubstDo_any a0 len cap _ HBY.out hlen).mono ?_
  rintro e wa ⟨bs, A, C, s, v, a, c, k, rfl, hbl, hSk, hb, hi, hl⟩
  have Hlow := Lib.hid hb
  have HBS : Hid (BSl wa 0 wa.heap.size A bs) := hi.mono (Nat.zero_le _) (Nat.le_refl _)
  have HL := Lib.hid hl
  clear hb hi hl HBY
  have hbx : Below wa.heap.size wa (wa.alloc (.cells #[.int .i64 s, .int .i64 v, .slice a (flen k) c] 26)) := box_low _ _
  have Hn : Hid (Tb wa.heap.size s v a c k (wa.alloc (.cells #[.int .i64 s, .int .i64 v, .slice a (flen k) c] 26))) := Tb.new HL.out
  have Hlow' : Hid (Below w.heap.size w (wa.alloc (.cells #[.int .i64 s, .int .i64 v, .slice a (flen k) c] 26))) := below_next Hlow.out hbx
  have HBS' : Hid (BSl (wa.alloc (.cells #[.int .i64 s, .int .i64 v, .slice a (flen k) c] 26)) 0 (wa.alloc (.cells #[.int .i64 s, .int .i64 v, .slice a (flen k) c] 26)).heap.size A bs) := HBS.out.next hbx
  clear Hlow HBS
  have Hlow := Hlow'
  clear Hlow'
  have HBS := HBS'
  clear HBS'
  have Ht := Hn
  clear Hn hbx
  have qt0 := Ht.out.c0
  have qt1 := Ht.out.c1
  have qt2 := Ht.out.c2
  go_wp2_with fail
  with_reducible refine (sSubstDo_any bs A C s v a c k _ HBS.out (by omega) Ht.out.sl).mono ?_
  rintro e wx1 ⟨aw, cw, sw, vw, kw, tw, hdw, rfl, hb, hlw⟩
  have HDw := Lib.hid hdw
  clear hdw
  clear qt0 qt1 qt2
  have Hlow' : Hid (Below w.heap.size w wx1) := below_next Hlow.out hb
  have HBS' : Hid (BSl wx1 0 wx1.heap.size A bs) := HBS.out.next hb
  have Ht' : Hid (Tb wa.heap.size s v a c k wx1) := Ht.out.next hb
  clear Hlow HBS Ht
  have Hlow := Hlow'
  clear Hlow'
  have HBS := HBS'
  clear HBS'
  have Ht := Ht'
  clear Ht'
  clear hb
  have Hlw := Lib.hid hlw
  clear hlw
  have hbx : Below wx1.heap.size wx1 (wx1.alloc (.cells #[.int .i64 sw, .int .i64 vw, .slice aw (flen kw) cw] 26)) := box_low _ _
  have Hn : Hid (Tb wx1.heap.size sw vw aw cw kw (wx1.alloc (.cells #[.int .i64 sw, .int .i64 vw, .slice aw (flen kw) cw] 26))) := Tb.new Hlw.out
  have Hlow' : Hid (Below w.heap.size w (wx1.alloc (.cells #[.int .i64 sw, .int .i64 vw, .slice aw (flen kw) cw] 26))) := below_next Hlow.out hbx
  have HBS' : Hid (BSl (wx1.alloc (.cells #[.int .i64 sw, .int .i64 vw, .slice aw (flen kw) cw] 26)) 0 (wx1.alloc (.cells #[.int .i64 sw, .int .i64 vw, .slice aw (flen kw) cw] 26)).heap.size A bs) := HBS.out.next hbx
  have Ht' : Hid (Tb wa.heap.size s v a c k (wx1.alloc (.cells #[.int .i64 sw, .int .i64 vw, .slice aw (flen kw) cw] 26))) := Ht.out.next hbx
  clear Hlow HBS Ht
  have Hlow := Hlow'
  clear Hlow'
  have HBS := HBS'
  clear HBS'
  have Ht := Ht'
  clear Ht'
  have Hw := Hn
  clear Hn hbx
  clear Hlw
  have qt0 := Ht.out.c0
  have qt1 := Ht.out.c1
  have qt2 := Ht.out.c2
  go_wp2_with fail
  with_reducible refine (iSubstDo_any bs A C s v a c k _ HBS.out (by omega) Ht.out.sl).mono ?_
  rintro e wx2 ⟨ax, cx, sx, vx, kx, tx, hdx, rfl, hb, hlx⟩
  rw [HDw.out] at hdx
  simp only [Prod.mk.injEq] at hdx
  obtain ⟨rfl, rfl, rfl, rfl⟩ := hdx
  clear qt0 qt1 qt2
  have Hlow' : Hid (Below w.heap.size w wx2) := below_next Hlow.out hb
  have HBS' : Hid (BSl wx2 0 wx2.heap.size A bs) := HBS.out.next hb
  have Ht' : Hid (Tb wa.heap.size s v a c k wx2) := Ht.out.next hb
  have Hw' : Hid (Tb wx1.heap.size sw vw aw cw kw wx2) := Hw.out.next hb
  clear Hlow HBS Ht Hw
  have Hlow := Hlow'
  clear Hlow'
  have HBS := HBS'
  clear HBS'
  have Ht := Ht'
  clear Ht'
  have Hw := Hw'
  clear Hw'
  clear hb
  have Hlx := Lib.hid hlx
  clear hlx
  have hbx : Below wx2.heap.size wx2 (wx2.alloc (.cells #[.int .i64 sw, .int .i64 vw, .slice ax (flen kw) cx] 26)) := box_low _ _
  have Hn : Hid (Tb wx2.heap.size sw vw ax cx kw (wx2.alloc (.cells #[.int .i64 sw, .int .i64 vw, .slice ax (flen kw) cx] 26))) := Tb.new Hlx.out
  have Hlow' : Hid (Below w.heap.size w (wx2.alloc (.cells #[.int .i64 sw, .int .i64 vw, .slice ax (flen kw) cx] 26))) := below_next Hlow.out hbx
  have HBS' : Hid (BSl (wx2.alloc (.cells #[.int .i64 sw, .int .i64 vw, .slice ax (flen kw) cx] 26)) 0 (wx2.alloc (.cells #[.int .i64 sw, .int .i64 vw, .slice ax (flen kw) cx] 26)).heap.size A bs) := HBS.out.next hbx
  have Ht' : Hid (Tb wa.heap.size s v a c k (wx2.alloc (.cells #[.int .i64 sw, .int .i64 vw, .slice ax (flen kw) cx] 26))) := Ht.out.next hbx
  have Hw' : Hid (Tb wx1.heap.size sw vw aw cw kw (wx2.alloc (.cells #[.int .i64 sw, .int .i64 vw, .slice ax (flen kw) cx] 26))) := Hw.out.next hbx
  clear Hlow HBS Ht Hw
  have Hlow := Hlow'
  clear Hlow'
  have HBS := HBS'
  clear HBS'
  have Ht := Ht'
  clear Ht'
  have Hw := Hw'
  clear Hw'
  have Hx := Hn
  clear Hn hbx
  clear Hlx
  have hkw := sdR_sz HDw.out
  have eb : (tw != tw) = false := by simp
  have eb2 : (tw == tw) = true := by simp
  have qx0 := Hx.out.c0
  have qx1 := Hx.out.c1
  have qx2 := Hx.out.c2
  have qw0 := Hw.out.c0
  have qw1 := Hw.out.c1
  have qw2 := Hw.out.c2
  go_wp2_with fail
  with_reducible refine (laTerm_same (fsz kw) sw vw ax aw cx cw kw _ Hx.out.sl Hw.out.sl (Nat.le_refl _) (by omega)).mono ?_
  rintro e wx3 ⟨rfl, hb⟩
  clear qx0 qx1 qx2 qw0 qw1 qw2
  have Hlow' : Hid (Below w.heap.size w wx3) := below_next Hlow.out hb
  have HBS' : Hid (BSl wx3 0 wx3.heap.size A bs) := HBS.out.next hb
  have Ht' : Hid (Tb wa.heap.size s v a c k wx3) := Ht.out.next hb
  have Hw' : Hid (Tb wx1.heap.size sw vw aw cw kw wx3) := Hw.out.next hb
  have Hx' : Hid (Tb wx2.heap.size sw vw ax cx kw wx3) := Hx.out.next hb
  clear Hlow HBS Ht Hw Hx
  have Hlow := Hlow'
  clear Hlow'
  have HBS := HBS'
  clear HBS'
  have Ht := Ht'
  clear Ht'
  have Hw := Hw'
  clear Hw'
  have Hx := Hx'
  clear Hx'
  clear hb
  cases tw with
  | false =>
    have qx0 := Hx.out.c0
    have qx1 := Hx.out.c1
    have qx2 := Hx.out.c2
    have qw0 := Hw.out.c0
    have qw1 := Hw.out.c1
    have qw2 := Hw.out.c2
    go_wp2_with fail
    with_reducible refine (laTerm_same (fsz kw) sw vw ax aw cx cw kw _ Hx.out.sl Hw.out.sl (Nat.le_refl _) (by omega)).mono ?_
    rintro e wx4 ⟨rfl, hb⟩
    clear qx0 qx1 qx2 qw0 qw1 qw2
    have Hlow' : Hid (Below w.heap.size w wx4) := below_next Hlow.out hb
    have HBS' : Hid (BSl wx4 0 wx4.heap.size A bs) := HBS.out.next hb
    have Ht' : Hid (Tb wa.heap.size s v a c k wx4) := Ht.out.next hb
    have Hw' : Hid (Tb wx1.heap.size sw vw aw cw kw wx4) := Hw.out.next hb
    have Hx' : Hid (Tb wx2.heap.size sw vw ax cx kw wx4) := Hx.out.next hb
    clear Hlow HBS Ht Hw Hx
    have Hlow := Hlow'
    clear Hlow'
    have HBS := HBS'
    clear HBS'
    have Ht := Ht'
    clear Ht'
    have Hw := Hw'
    clear Hw'
    have Hx := Hx'
    clear Hx'
    clear hb
    go_wp2_with fail
    go_ret
    exact ⟨rfl, Hlow.out⟩
  | true =>
    clear eb eb2
    have HOK : Hid (okW s v k 16 = true) := by rcases sdR_cases HDw.out with ⟨h, _⟩ | ⟨_, _, h, _⟩; cases h; exact h
    have HOKX : Hid (okW sw vw kw 16 = true) := by rcases sdR_cases HDw.out with ⟨h, _⟩ | ⟨_, _, _, _, h⟩; cases h; exact h
    have hk16 := ((okW_iff _ _ _ _).1 HOK.out).2.2
    clear Hw
    have qt0 := Ht.out.c0
    have qt1 := Ht.out.c1
    have qt2 := Ht.out.c2
    go_wp2_with fail
    with_reducible refine (iTermPlaces_any s v a c k _ Ht.out.sl).mono ?_
    rintro e wx4 ⟨AL, CL, rows, rfl, hrows, hb, hrs⟩
    rw [if_pos HOK.out] at hrows
    subst hrows
    have HRS := Lib.hid (hrs.mono (lo' := 0) (Nat.zero_le _) (Nat.le_refl _))
    have hpk : (places k).length ≤ 16 := by rw [places_len]; omega
    clear hrs
    clear qt0 qt1 qt2
    have Hlow' : Hid (Below w.heap.size w wx4) := below_next Hlow.out hb
    have HBS' : Hid (BSl wx4 0 wx4.heap.size A bs) := HBS.out.next hb
    have Ht' : Hid (Tb wa.heap.size s v a c k wx4) := Ht.out.next hb
    have Hx' : Hid (Tb wx2.heap.size sw vw ax cx kw wx4) := Hx.out.next hb
    clear Hlow HBS Ht Hx
    have Hlow := Hlow'
    clear Hlow'
    have HBS := HBS'
    clear HBS'
    have Ht := Ht'
    clear Ht'
    have Hx := Hx'
    clear Hx'
    clear hb
    go_wp2_with fail
    go_loopw [9, 11] (fun n i wr => ∃ (j N : Nat), n = .int .i64 N ∧ i = .int .i64 j ∧ j ≤ (places k).length ∧ Hid (N = psum (sv bs) s v k j) ∧ N ≤ 16 * j ∧ Hid (Below w.heap.size w wr) ∧ Hid (BSl wr 0 wr.heap.size A bs) ∧ Hid (Tb wa.heap.size s v a c k wr) ∧ Hid (Tb wx2.heap.size sw vw ax cx kw wr) ∧ Hid (RSl wr 0 wr.heap.size AL (places k))) (fun _ i _ => (places k).length - (intOf i).toNat)
    case atStart => exact ⟨0, 0, rfl, rfl, Nat.zero_le _, (psum_zero _ _ _ _).symm, by omega, Hlow, HBS, Ht, Hx, HRS⟩
    case round =>
      clear Hlow HBS Ht Hx HRS
      obtain ⟨j, N, rfl, rfl, hj, HN, hN16, Hlow, HBS, Ht, Hx, HRS⟩ := hrel
      by_cases hlt : j < (places k).length
      · obtain ⟨rb, ro, pA, pC, pl, hAL, _, hrb, hrp, hrc, hpl⟩ := rsl_at HRS.out hlt
        subst hAL
        have HPL := Lib.hid hpl
        have HC := Lib.hid hrc
        have hpll : pl.length ≤ 16 := by have h1 := places_deep (List.mem_of_getElem? hrp); omega
        have hmem := List.mem_of_getElem? hrp
        obtain ⟨s1, v1, k1, s3, v3, k3, hat1, hsd1, hok3, hz, hnz⟩ := psum_at HDw.out hrp
        have HAT1 := Lib.hid hat1
        have HSD1 := Lib.hid hsd1
        have HOK3 := Lib.hid hok3
        have HZ0 := Lib.hid hz
        have HNZ := Lib.hid hnz
        have hk3 := sdR_sz hsd1
        clear hat1 hsd1 hok3 hz hnz hpl hrp hrc hmem
        have g1 : (0 : Int) ≤ (j : Int) := by omega
        have g2 : (j : Int) < ((places k).length : Int) := by omega
        have hu0 : ∀ u : After wr.heap.size wr, u.world.cell? ⟨wa.heap.size, 0, none⟩ = some (.int .i64 s) := fun u => cell_low u.below Ht.out.c0
        have hu1 : ∀ u : After wr.heap.size wr, u.world.cell? ⟨wa.heap.size, 1, none⟩ = some (.int .i64 v) := fun u => cell_low u.below Ht.out.c1
        have hu2 : ∀ u : After wr.heap.size wr, u.world.cell? ⟨wa.heap.size, 2, none⟩ = some (.slice a (flen k) c) := fun u => cell_low u.below Ht.out.c2
        have hu3 : ∀ u : After wr.heap.size wr, u.world.cell? ⟨rb, ro + j, none⟩ = some (.slice pA pl.length pC) := fun u => cell_low u.below HC.out
        go_wp2_with fail
        refine wp_region_anyT (fun w' => ∃ u : After wr.heap.size wr, w' = u.world) (by kernel_rfl) ?_
        have HBD : Hid (Below wr.heap.size wr wr.drew) := (Below.refl _ _).drew
        generalize wr.drew = wdx5 at *
        refine anyT_look (i := 0) rfl (by kernel_rfl) ⟨⟨_, HBD.out⟩, rfl⟩ (fun K hK => ?_)
        go_simp
        refine hK _ ?_
        clear hK K
        refine anyT_look (i := 1) rfl (by kernel_rfl) ⟨⟨_, HBD.out⟩, rfl⟩ (fun K hK => ?_)
        go_simp
        refine hK _ ?_
        clear hK K
        refine anyT_look (i := 2) rfl (by kernel_rfl) ⟨⟨_, HBD.out⟩, rfl⟩ (fun K hK => ?_)
        go_simp
        refine hK _ ?_
        clear hK K
        refine anyT_look (i := 3) rfl (by kernel_rfl) ⟨⟨_, HBD.out⟩, rfl⟩ (fun K hK => ?_)
        go_simp
        refine hK _ ?_
        clear hK K
        refine anyT_look (i := 4) rfl (by kernel_rfl) ⟨⟨_, HBD.out⟩, rfl⟩ (fun K hK => ?_)
        go_simp
        refine hK _ ?_
        clear hK K
        clear hu0 hu1 hu2 hu3
        refine anyT_two (i := 5) (j := 9) (by kernel_rfl) rfl rfl (fun K hK => ?_) (fun K hK => ?_)
        · go_simp
          with_reducible refine (iTermAt_any s v a c k pA pC pl _ ((Ht.out.next HBD.out).sl) (HPL.out.next HBD.out) (by omega)).mono ?_
          rintro e wpx5 ⟨ap, cp, s9, v9, k9, t9, hR, rfl, hb, hlx⟩
          rw [HAT1.out] at hR
          simp only [Prod.mk.injEq] at hR
          obtain ⟨rfl, rfl, rfl, rfl⟩ := hR
          have HLX := Lib.hid hlx
          clear hlx
          have hlo : wr.heap.size ≤ wdx5.heap.size := HBD.out.size
          replace HBD := Lib.hid (HBD.out.trans (hb.mono hlo))
          refine hK _ _ ⟨⟨_, HBD.out⟩, rfl⟩ ?_
          clear hK K hb
          refine anyT_look (i := 6) rfl (by kernel_rfl) ⟨⟨_, HBD.out⟩, rfl⟩ (fun K hK => ?_)
          go_simp
          refine hK _ ?_
          clear hK K
          refine anyT_look (i := 7) rfl (by kernel_rfl) ⟨⟨_, HBD.out⟩, rfl⟩ (fun K hK => ?_)
          go_simp
          refine hK _ ?_
          clear hK K
          refine anyT_look (i := 8) rfl (by kernel_rfl) ⟨⟨_, HBD.out⟩, rfl⟩ (fun K hK => ?_)
          go_simp
          refine hK _ ?_
          clear hK K
          refine anyT_one (i := 9) (by kernel_rfl) rfl (fun K hK => ?_)
          go_simp
          have HZ := Lib.hid (zb_new wpx5)
          have hbz : wr.heap.size ≤ wpx5.heap.size := HBD.out.size
          have hbe : Below wpx5.heap.size wpx5 (wpx5.alloc (.cells #[.int .i64 0, .int .i64 0, .slice none 0 0] 26)) := (Below.refl _ _).alloc (Nat.le_refl _) _
          replace HLX := Lib.hid (HLX.out.below hbe)
          replace HBD := Lib.hid (HBD.out.trans (hbe.mono hbz))
          refine hK _ _ ⟨⟨_, HBD.out⟩, rfl⟩ ?_
          have hze := hbe.size
          clear hK K hbe
          generalize wpx5.alloc (.cells #[.int .i64 0, .int .i64 0, .slice none 0 0] 26) = wzx5 at *
          have hzz0 := HZ.out.z0
          have hzz1 := HZ.out.z1
          have hzz2 := HZ.out.z2
          have hzf0 := HZ.out.f 0
          have hzf1 := HZ.out.f 1
          have hzf2 := HZ.out.f 2
          have HFIN : Hid (Below wr.heap.size wr (((wzx5.setCell ⟨wpx5.heap.size, 0, none⟩ (.int .i64 s1)).setCell ⟨wpx5.heap.size, 1, none⟩ (.int .i64 v1)).setCell ⟨wpx5.heap.size, 2, none⟩ (.slice ap (flen k1) cp)) ∧ Tb wpx5.heap.size s1 v1 ap cp k1 (((wzx5.setCell ⟨wpx5.heap.size, 0, none⟩ (.int .i64 s1)).setCell ⟨wpx5.heap.size, 1, none⟩ (.int .i64 v1)).setCell ⟨wpx5.heap.size, 2, none⟩ (.slice ap (flen k1) cp))) := zb_fin HZ.out HBD.out hbz HLX.out hze (.inr (Nat.le_refl _))
          refine anyT_one (i := 10) (by kernel_rfl) rfl (fun K hK => ?_)
          go_simp
          refine hK _ _ ⟨⟨_, HFIN.out.1⟩, rfl⟩ ?_
          clear hK K hzz0 hzz1 hzz2 hzf0 hzf1 hzf2
          refine anyT_one (i := 11) (by kernel_rfl) rfl (fun K hK => ?_)
          go_simp
          refine hK _ _ ⟨⟨_, HFIN.out.1⟩, rfl⟩ ?_
          clear hK K
          refine anyT_done (by kernel_rfl) ?_
          have HBE := Lib.hid HFIN.out.1
          have Hp := Lib.hid HFIN.out.2
          clear HFIN HZ HLX HBD
          generalize (((wzx5.setCell ⟨wpx5.heap.size, 0, none⟩ (.int .i64 s1)).setCell ⟨wpx5.heap.size, 1, none⟩ (.int .i64 v1)).setCell ⟨wpx5.heap.size, 2, none⟩ (.slice ap (flen k1) cp)) = wex5 at *
          have Hlow' : Hid (Below w.heap.size w wex5) := below_next Hlow.out HBE.out
          have HBS' : Hid (BSl wex5 0 wex5.heap.size A bs) := HBS.out.next HBE.out
          have Ht' : Hid (Tb wa.heap.size s v a c k wex5) := Ht.out.next HBE.out
          have Hx' : Hid (Tb wx2.heap.size sw vw ax cx kw wex5) := Hx.out.next HBE.out
          have HRS' : Hid (RSl wex5 0 wex5.heap.size (some ⟨rb, ro, none⟩) (places k)) := HRS.out.next HBE.out
          have HPL' : Hid (ISl wex5 0 wex5.heap.size pA pl) := HPL.out.next HBE.out
          have HC' : Hid (wex5.cell? ⟨rb, ro + j, none⟩ = some (.slice pA pl.length pC)) := cell_low HBE.out HC.out
          clear Hlow HBS Ht Hx HRS HPL HC
          have Hlow := Hlow'
          clear Hlow'
          have HBS := HBS'
          clear HBS'
          have Ht := Ht'
          clear Ht'
          have Hx := Hx'
          clear Hx'
          have HRS := HRS'
          clear HRS'
          have HPL := HPL'
          clear HPL'
          have HC := HC'
          clear HC'
          clear HBE
          by_cases hs1 : s1 = 0
          · subst hs1
            have HE : Hid (N + 1 + fsz k3 = psum (sv bs) s v k (j + 1)) := by rw [Hid, HZ0.out rfl, ← HN.out]
            clear HZ0 HNZ HN
            have qp0 := Hp.out.c0
            have qp1 := Hp.out.c1
            have qp2 := Hp.out.c2
            go_wp2_with fail
            with_reducible refine (iSubstDo_any bs A C 0 v1 ap cp k1 _ HBS.out (by omega) Hp.out.sl).mono ?_
            rintro e wx6 ⟨aq, cq, sq, vq, kq, tq, hdq, rfl, hb, hlq⟩
            rw [HSD1.out] at hdq
            simp only [Prod.mk.injEq] at hdq
            obtain ⟨rfl, rfl, rfl, rfl⟩ := hdq
            clear qp0 qp1 qp2
            have Hlow' : Hid (Below w.heap.size w wx6) := below_next Hlow.out hb
            have HBS' : Hid (BSl wx6 0 wx6.heap.size A bs) := HBS.out.next hb
            have Ht' : Hid (Tb wa.heap.size s v a c k wx6) := Ht.out.next hb
            have Hx' : Hid (Tb wx2.heap.size sw vw ax cx kw wx6) := Hx.out.next hb
            have HRS' : Hid (RSl wx6 0 wx6.heap.size (some ⟨rb, ro, none⟩) (places k)) := HRS.out.next hb
            have HPL' : Hid (ISl wx6 0 wx6.heap.size pA pl) := HPL.out.next hb
            have HC' : Hid (wx6.cell? ⟨rb, ro + j, none⟩ = some (.slice pA pl.length pC)) := cell_low hb HC.out
            have Hp' : Hid (Tb wpx5.heap.size 0 v1 ap cp k1 wx6) := Hp.out.next hb
            clear Hlow HBS Ht Hx HRS HPL HC Hp
            have Hlow := Hlow'
            clear Hlow'
            have HBS := HBS'
            clear HBS'
            have Ht := Ht'
            clear Ht'
            have Hx := Hx'
            clear Hx'
            have HRS := HRS'
            clear HRS'
            have HPL := HPL'
            clear HPL'
            have HC := HC'
            clear HC'
            have Hp := Hp'
            clear Hp'
            clear hb
            have Hlq := Lib.hid hlq
            clear hlq
            have hbx : Below wx6.heap.size wx6 (wx6.alloc (.cells #[.int .i64 s3, .int .i64 v3, .slice aq (flen k3) cq] 26)) := box_low _ _
            have Hn : Hid (Tb wx6.heap.size s3 v3 aq cq k3 (wx6.alloc (.cells #[.int .i64 s3, .int .i64 v3, .slice aq (flen k3) cq] 26))) := Tb.new Hlq.out
            have Hlow' : Hid (Below w.heap.size w (wx6.alloc (.cells #[.int .i64 s3, .int .i64 v3, .slice aq (flen k3) cq] 26))) := below_next Hlow.out hbx
            have HBS' : Hid (BSl (wx6.alloc (.cells #[.int .i64 s3, .int .i64 v3, .slice aq (flen k3) cq] 26)) 0 (wx6.alloc (.cells #[.int .i64 s3, .int .i64 v3, .slice aq (flen k3) cq] 26)).heap.size A bs) := HBS.out.next hbx
            have Ht' : Hid (Tb wa.heap.size s v a c k (wx6.alloc (.cells #[.int .i64 s3, .int .i64 v3, .slice aq (flen k3) cq] 26))) := Ht.out.next hbx
            have Hx' : Hid (Tb wx2.heap.size sw vw ax cx kw (wx6.alloc (.cells #[.int .i64 s3, .int .i64 v3, .slice aq (flen k3) cq] 26))) := Hx.out.next hbx
            have HRS' : Hid (RSl (wx6.alloc (.cells #[.int .i64 s3, .int .i64 v3, .slice aq (flen k3) cq] 26)) 0 (wx6.alloc (.cells #[.int .i64 s3, .int .i64 v3, .slice aq (flen k3) cq] 26)).heap.size (some ⟨rb, ro, none⟩) (places k)) := HRS.out.next hbx
            have HPL' : Hid (ISl (wx6.alloc (.cells #[.int .i64 s3, .int .i64 v3, .slice aq (flen k3) cq] 26)) 0 (wx6.alloc (.cells #[.int .i64 s3, .int .i64 v3, .slice aq (flen k3) cq] 26)).heap.size pA pl) := HPL.out.next hbx
            have HC' : Hid ((wx6.alloc (.cells #[.int .i64 s3, .int .i64 v3, .slice aq (flen k3) cq] 26)).cell? ⟨rb, ro + j, none⟩ = some (.slice pA pl.length pC)) := cell_low hbx HC.out
            have Hp' : Hid (Tb wpx5.heap.size 0 v1 ap cp k1 (wx6.alloc (.cells #[.int .i64 s3, .int .i64 v3, .slice aq (flen k3) cq] 26))) := Hp.out.next hbx
            clear Hlow HBS Ht Hx HRS HPL HC Hp
            have Hlow := Hlow'
            clear Hlow'
            have HBS := HBS'
            clear HBS'
            have Ht := Ht'
            clear Ht'
            have Hx := Hx'
            clear Hx'
            have HRS := HRS'
            clear HRS'
            have HPL := HPL'
            clear HPL'
            have HC := HC'
            clear HC'
            have Hp := Hp'
            clear Hp'
            have Hq := Hn
            clear Hn hbx
            clear Hlq
            have qq0 := Hq.out.c0
            have qq1 := Hq.out.c1
            have qq2 := Hq.out.c2
            go_wp2_with fail
            with_reducible refine (iTermSize_any s3 v3 aq cq k3 _ Hq.out.sl).mono ?_
            rw [if_pos HOK3.out]
            rintro e wx7 ⟨rfl, hb⟩
            clear qq0 qq1 qq2
            have Hlow' : Hid (Below w.heap.size w wx7) := below_next Hlow.out hb
            have HBS' : Hid (BSl wx7 0 wx7.heap.size A bs) := HBS.out.next hb
            have Ht' : Hid (Tb wa.heap.size s v a c k wx7) := Ht.out.next hb
            have Hx' : Hid (Tb wx2.heap.size sw vw ax cx kw wx7) := Hx.out.next hb
            have HRS' : Hid (RSl wx7 0 wx7.heap.size (some ⟨rb, ro, none⟩) (places k)) := HRS.out.next hb
            have HPL' : Hid (ISl wx7 0 wx7.heap.size pA pl) := HPL.out.next hb
            have HC' : Hid (wx7.cell? ⟨rb, ro + j, none⟩ = some (.slice pA pl.length pC)) := cell_low hb HC.out
            have Hp' : Hid (Tb wpx5.heap.size 0 v1 ap cp k1 wx7) := Hp.out.next hb
            have Hq' : Hid (Tb wx6.heap.size s3 v3 aq cq k3 wx7) := Hq.out.next hb
            clear Hlow HBS Ht Hx HRS HPL HC Hp Hq
            have Hlow := Hlow'
            clear Hlow'
            have HBS := HBS'
            clear HBS'
            have Ht := Ht'
            clear Ht'
            have Hx := Hx'
            clear Hx'
            have HRS := HRS'
            clear HRS'
            have HPL := HPL'
            clear HPL'
            have HC := HC'
            clear HC'
            have Hp := Hp'
            clear Hp'
            have Hq := Hq'
            clear Hq'
            clear hb
            go_wp2_with fail
            go_roundw
            case rel => exact ⟨j + 1, N + 1 + fsz k3, by go_num, by go_num, by omega, HE, by omega, Hlow, HBS, Ht, Hx, HRS⟩
            case measure => simp [intOf]; omega
          · have HE : Hid (N + 1 = psum (sv bs) s v k (j + 1)) := by rw [Hid, HNZ.out hs1, ← HN.out]
            have hse : (s1 == 0) = false := by simpa using hs1
            clear HZ0 HNZ HN
            have qp0 := Hp.out.c0
            have qp1 := Hp.out.c1
            have qp2 := Hp.out.c2
            go_wp2_with fail
            go_roundw
            case rel => exact ⟨j + 1, N + 1, by go_num, by go_num, by omega, HE, by omega, Hlow, HBS, Ht, Hx, HRS⟩
            case measure => simp [intOf]; omega
        · go_simp
          have HZ := Lib.hid (zb_new wdx5)
          have hbz : wr.heap.size ≤ wdx5.heap.size := HBD.out.size
          have hbe : Below wdx5.heap.size wdx5 (wdx5.alloc (.cells #[.int .i64 0, .int .i64 0, .slice none 0 0] 26)) := (Below.refl _ _).alloc (Nat.le_refl _) _
          replace HBD := Lib.hid (HBD.out.trans (hbe.mono hbz))
          refine hK _ _ ⟨⟨_, HBD.out⟩, rfl⟩ ?_
          clear hK K hbe
          generalize wdx5.alloc (.cells #[.int .i64 0, .int .i64 0, .slice none 0 0] 26) = wzx5 at *
          refine anyT_one (i := 5) (by kernel_rfl) rfl (fun K hK => ?_)
          go_simp
          with_reducible refine (iTermAt_any s v a c k pA pC pl _ ((Ht.out.next HBD.out).sl) (HPL.out.next HBD.out) (by omega)).mono ?_
          rintro e wpx5 ⟨ap, cp, s9, v9, k9, t9, hR, rfl, hb, hlx⟩
          rw [HAT1.out] at hR
          simp only [Prod.mk.injEq] at hR
          obtain ⟨rfl, rfl, rfl, rfl⟩ := hR
          have HLX := Lib.hid hlx
          clear hlx
          have hlo : wr.heap.size ≤ wzx5.heap.size := HBD.out.size
          have hzl := HZ.out.lt
          replace HZ := Lib.hid (HZ.out.low hb)
          replace HBD := Lib.hid (HBD.out.trans (hb.mono hlo))
          refine hK _ _ ⟨⟨_, HBD.out⟩, rfl⟩ ?_
          clear hK K hb
          refine anyT_look (i := 6) rfl (by kernel_rfl) ⟨⟨_, HBD.out⟩, rfl⟩ (fun K hK => ?_)
          go_simp
          refine hK _ ?_
          clear hK K
          refine anyT_look (i := 7) rfl (by kernel_rfl) ⟨⟨_, HBD.out⟩, rfl⟩ (fun K hK => ?_)
          go_simp
          refine hK _ ?_
          clear hK K
          refine anyT_look (i := 8) rfl (by kernel_rfl) ⟨⟨_, HBD.out⟩, rfl⟩ (fun K hK => ?_)
          go_simp
          refine hK _ ?_
          clear hK K
          have hzz0 := HZ.out.z0
          have hzz1 := HZ.out.z1
          have hzz2 := HZ.out.z2
          have hzf0 := HZ.out.f 0
          have hzf1 := HZ.out.f 1
          have hzf2 := HZ.out.f 2
          have HFIN : Hid (Below wr.heap.size wr (((wpx5.setCell ⟨wdx5.heap.size, 0, none⟩ (.int .i64 s1)).setCell ⟨wdx5.heap.size, 1, none⟩ (.int .i64 v1)).setCell ⟨wdx5.heap.size, 2, none⟩ (.slice ap (flen k1) cp)) ∧ Tb wdx5.heap.size s1 v1 ap cp k1 (((wpx5.setCell ⟨wdx5.heap.size, 0, none⟩ (.int .i64 s1)).setCell ⟨wdx5.heap.size, 1, none⟩ (.int .i64 v1)).setCell ⟨wdx5.heap.size, 2, none⟩ (.slice ap (flen k1) cp))) := zb_fin HZ.out HBD.out hbz HLX.out (Nat.le_refl _) (.inl hzl)
          refine anyT_one (i := 10) (by kernel_rfl) rfl (fun K hK => ?_)
          go_simp
          refine hK _ _ ⟨⟨_, HFIN.out.1⟩, rfl⟩ ?_
          clear hK K hzz0 hzz1 hzz2 hzf0 hzf1 hzf2
          refine anyT_one (i := 11) (by kernel_rfl) rfl (fun K hK => ?_)
          go_simp
          refine hK _ _ ⟨⟨_, HFIN.out.1⟩, rfl⟩ ?_
          clear hK K
          refine anyT_done (by kernel_rfl) ?_
          have HBE := Lib.hid HFIN.out.1
          have Hp := Lib.hid HFIN.out.2
          clear HFIN HZ HLX HBD
          generalize (((wpx5.setCell ⟨wdx5.heap.size, 0, none⟩ (.int .i64 s1)).setCell ⟨wdx5.heap.size, 1, none⟩ (.int .i64 v1)).setCell ⟨wdx5.heap.size, 2, none⟩ (.slice ap (flen k1) cp)) = wex5 at *
          have Hlow' : Hid (Below w.heap.size w wex5) := below_next Hlow.out HBE.out
          have HBS' : Hid (BSl wex5 0 wex5.heap.size A bs) := HBS.out.next HBE.out
          have Ht' : Hid (Tb wa.heap.size s v a c k wex5) := Ht.out.next HBE.out
          have Hx' : Hid (Tb wx2.heap.size sw vw ax cx kw wex5) := Hx.out.next HBE.out
          have HRS' : Hid (RSl wex5 0 wex5.heap.size (some ⟨rb, ro, none⟩) (places k)) := HRS.out.next HBE.out
          have HPL' : Hid (ISl wex5 0 wex5.heap.size pA pl) := HPL.out.next HBE.out
          have HC' : Hid (wex5.cell? ⟨rb, ro + j, none⟩ = some (.slice pA pl.length pC)) := cell_low HBE.out HC.out
          clear Hlow HBS Ht Hx HRS HPL HC
          have Hlow := Hlow'
          clear Hlow'
          have HBS := HBS'
          clear HBS'
          have Ht := Ht'
          clear Ht'
          have Hx := Hx'
          clear Hx'
          have HRS := HRS'
          clear HRS'
          have HPL := HPL'
          clear HPL'
          have HC := HC'
          clear HC'
          clear HBE
          by_cases hs1 : s1 = 0
          · subst hs1
            have HE : Hid (N + 1 + fsz k3 = psum (sv bs) s v k (j + 1)) := by rw [Hid, HZ0.out rfl, ← HN.out]
            clear HZ0 HNZ HN
            have qp0 := Hp.out.c0
            have qp1 := Hp.out.c1
            have qp2 := Hp.out.c2
            go_wp2_with fail
            with_reducible refine (iSubstDo_any bs A C 0 v1 ap cp k1 _ HBS.out (by omega) Hp.out.sl).mono ?_
            rintro e wx6 ⟨aq, cq, sq, vq, kq, tq, hdq, rfl, hb, hlq⟩
            rw [HSD1.out] at hdq
            simp only [Prod.mk.injEq] at hdq
            obtain ⟨rfl, rfl, rfl, rfl⟩ := hdq
            clear qp0 qp1 qp2
            have Hlow' : Hid (Below w.heap.size w wx6) := below_next Hlow.out hb
            have HBS' : Hid (BSl wx6 0 wx6.heap.size A bs) := HBS.out.next hb
            have Ht' : Hid (Tb wa.heap.size s v a c k wx6) := Ht.out.next hb
            have Hx' : Hid (Tb wx2.heap.size sw vw ax cx kw wx6) := Hx.out.next hb
            have HRS' : Hid (RSl wx6 0 wx6.heap.size (some ⟨rb, ro, none⟩) (places k)) := HRS.out.next hb
            have HPL' : Hid (ISl wx6 0 wx6.heap.size pA pl) := HPL.out.next hb
            have HC' : Hid (wx6.cell? ⟨rb, ro + j, none⟩ = some (.slice pA pl.length pC)) := cell_low hb HC.out
            have Hp' : Hid (Tb wdx5.heap.size 0 v1 ap cp k1 wx6) := Hp.out.next hb
            clear Hlow HBS Ht Hx HRS HPL HC Hp
            have Hlow := Hlow'
            clear Hlow'
            have HBS := HBS'
            clear HBS'
            have Ht := Ht'
            clear Ht'
            have Hx := Hx'
            clear Hx'
            have HRS := HRS'
            clear HRS'
            have HPL := HPL'
            clear HPL'
            have HC := HC'
            clear HC'
            have Hp := Hp'
            clear Hp'
            clear hb
            have Hlq := Lib.hid hlq
            clear hlq
            have hbx : Below wx6.heap.size wx6 (wx6.alloc (.cells #[.int .i64 s3, .int .i64 v3, .slice aq (flen k3) cq] 26)) := box_low _ _
            have Hn : Hid (Tb wx6.heap.size s3 v3 aq cq k3 (wx6.alloc (.cells #[.int .i64 s3, .int .i64 v3, .slice aq (flen k3) cq] 26))) := Tb.new Hlq.out
            have Hlow' : Hid (Below w.heap.size w (wx6.alloc (.cells #[.int .i64 s3, .int .i64 v3, .slice aq (flen k3) cq] 26))) := below_next Hlow.out hbx
            have HBS' : Hid (BSl (wx6.alloc (.cells #[.int .i64 s3, .int .i64 v3, .slice aq (flen k3) cq] 26)) 0 (wx6.alloc (.cells #[.int .i64 s3, .int .i64 v3, .slice aq (flen k3) cq] 26)).heap.size A bs) := HBS.out.next hbx
            have Ht' : Hid (Tb wa.heap.size s v a c k (wx6.alloc (.cells #[.int .i64 s3, .int .i64 v3, .slice aq (flen k3) cq] 26))) := Ht.out.next hbx
            have Hx' : Hid (Tb wx2.heap.size sw vw ax cx kw (wx6.alloc (.cells #[.int .i64 s3, .int .i64 v3, .slice aq (flen k3) cq] 26))) := Hx.out.next hbx
            have HRS' : Hid (RSl (wx6.alloc (.cells #[.int .i64 s3, .int .i64 v3, .slice aq (flen k3) cq] 26)) 0 (wx6.alloc (.cells #[.int .i64 s3, .int .i64 v3, .slice aq (flen k3) cq] 26)).heap.size (some ⟨rb, ro, none⟩) (places k)) := HRS.out.next hbx
            have HPL' : Hid (ISl (wx6.alloc (.cells #[.int .i64 s3, .int .i64 v3, .slice aq (flen k3) cq] 26)) 0 (wx6.alloc (.cells #[.int .i64 s3, .int .i64 v3, .slice aq (flen k3) cq] 26)).heap.size pA pl) := HPL.out.next hbx
            have HC' : Hid ((wx6.alloc (.cells #[.int .i64 s3, .int .i64 v3, .slice aq (flen k3) cq] 26)).cell? ⟨rb, ro + j, none⟩ = some (.slice pA pl.length pC)) := cell_low hbx HC.out
            have Hp' : Hid (Tb wdx5.heap.size 0 v1 ap cp k1 (wx6.alloc (.cells #[.int .i64 s3, .int .i64 v3, .slice aq (flen k3) cq] 26))) := Hp.out.next hbx
            clear Hlow HBS Ht Hx HRS HPL HC Hp
            have Hlow := Hlow'
            clear Hlow'
            have HBS := HBS'
            clear HBS'
            have Ht := Ht'
            clear Ht'
            have Hx := Hx'
            clear Hx'
            have HRS := HRS'
            clear HRS'
            have HPL := HPL'
            clear HPL'
            have HC := HC'
            clear HC'
            have Hp := Hp'
            clear Hp'
            have Hq := Hn
            clear Hn hbx
            clear Hlq
            have qq0 := Hq.out.c0
            have qq1 := Hq.out.c1
            have qq2 := Hq.out.c2
            go_wp2_with fail
            with_reducible refine (iTermSize_any s3 v3 aq cq k3 _ Hq.out.sl).mono ?_
            rw [if_pos HOK3.out]
            rintro e wx7 ⟨rfl, hb⟩
            clear qq0 qq1 qq2
            have Hlow' : Hid (Below w.heap.size w wx7) := below_next Hlow.out hb
            have HBS' : Hid (BSl wx7 0 wx7.heap.size A bs) := HBS.out.next hb
            have Ht' : Hid (Tb wa.heap.size s v a c k wx7) := Ht.out.next hb
            have Hx' : Hid (Tb wx2.heap.size sw vw ax cx kw wx7) := Hx.out.next hb
            have HRS' : Hid (RSl wx7 0 wx7.heap.size (some ⟨rb, ro, none⟩) (places k)) := HRS.out.next hb
            have HPL' : Hid (ISl wx7 0 wx7.heap.size pA pl) := HPL.out.next hb
            have HC' : Hid (wx7.cell? ⟨rb, ro + j, none⟩ = some (.slice pA pl.length pC)) := cell_low hb HC.out
            have Hp' : Hid (Tb wdx5.heap.size 0 v1 ap cp k1 wx7) := Hp.out.next hb
            have Hq' : Hid (Tb wx6.heap.size s3 v3 aq cq k3 wx7) := Hq.out.next hb
            clear Hlow HBS Ht Hx HRS HPL HC Hp Hq
            have Hlow := Hlow'
            clear Hlow'
            have HBS := HBS'
            clear HBS'
            have Ht := Ht'
            clear Ht'
            have Hx := Hx'
            clear Hx'
            have HRS := HRS'
            clear HRS'
            have HPL := HPL'
            clear HPL'
            have HC := HC'
            clear HC'
            have Hp := Hp'
            clear Hp'
            have Hq := Hq'
            clear Hq'
            clear hb
            go_wp2_with fail
            go_roundw
            case rel => exact ⟨j + 1, N + 1 + fsz k3, by go_num, by go_num, by omega, HE, by omega, Hlow, HBS, Ht, Hx, HRS⟩
            case measure => simp [intOf]; omega
          · have HE : Hid (N + 1 = psum (sv bs) s v k (j + 1)) := by rw [Hid, HNZ.out hs1, ← HN.out]
            have hse : (s1 == 0) = false := by simpa using hs1
            clear HZ0 HNZ HN
            have qp0 := Hp.out.c0
            have qp1 := Hp.out.c1
            have qp2 := Hp.out.c2
            go_wp2_with fail
            go_roundw
            case rel => exact ⟨j + 1, N + 1, by go_num, by go_num, by omega, HE, by omega, Hlow, HBS, Ht, Hx, HRS⟩
            case measure => simp [intOf]; omega
      · have hE : N = 1 + fsz kw := by rw [HN.out]; exact psum_all HDw.out (by omega)
        subst hE
        have qx0 := Hx.out.c0
        have qx1 := Hx.out.c1
        have qx2 := Hx.out.c2
        go_wp2_with fail
        with_reducible refine (iTermSize_any sw vw ax cx kw _ Hx.out.sl).mono ?_
        rw [if_pos HOKX.out]
        rintro e wx5 ⟨rfl, hb⟩
        clear qx0 qx1 qx2
        have Hlow' : Hid (Below w.heap.size w wx5) := below_next Hlow.out hb
        have HBS' : Hid (BSl wx5 0 wx5.heap.size A bs) := HBS.out.next hb
        have Ht' : Hid (Tb wa.heap.size s v a c k wx5) := Ht.out.next hb
        have Hx' : Hid (Tb wx2.heap.size sw vw ax cx kw wx5) := Hx.out.next hb
        have HRS' : Hid (RSl wx5 0 wx5.heap.size AL (places k)) := HRS.out.next hb
        clear Hlow HBS Ht Hx HRS
        have Hlow := Hlow'
        clear Hlow'
        have HBS := HBS'
        clear HBS'
        have Ht := Ht'
        clear Ht'
        have Hx := Hx'
        clear Hx'
        have HRS := HRS'
        clear HRS'
        clear hb
        have ee : (((1 + fsz kw : Nat) : Int) == 1 + (fsz kw : Int)) = true := by simp
        go_wp2_with fail
        go_ret
        exact ⟨by simp, Hlow.out⟩
end Go.Proofs.Ytkmfnhoeigoajaa
