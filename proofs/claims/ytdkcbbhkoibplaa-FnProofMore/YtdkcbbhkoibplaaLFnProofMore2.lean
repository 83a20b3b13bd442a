/- Several texts in one: LawPMore. -/
import Derived.Test.YtdkcbbhkoibplaaKLn25
import Derived.Test.YtdkcbbhkoibplaaKLn26
import Derived.Test.YtdkcbbhkoibplaaKLn27
import Derived.Test.YtdkcbbhkoibplaaLFnProofMore1
import Derived.Test.YtdkcbbhkoibplaaKLn8
import Derived.Test.YtdkcbbhkoibplaaKLn7

/-! LawPMore: laws.FnProofMore answers true at every code. -/
namespace Go.Proofs.Ytdkcbbhkoibplaa
open Go.RowKit Go.Deep
attribute [local go_sem ↓] Go.wp_at_zero Go.wp_at_succ

set_option maxRecDepth 100000 in
set_option maxHeartbeats 16000000 in
theorem proofMore_walk (a0 : Option Addr) (len cap : Nat) (w : World) (hby : Bytes w a0 len) (hlen : len ≤ cap) :
    Calls Try.prog 9 #[.slice a0 len cap] w fun e w' => e = .returned (.bool true) ∧ Below w.heap.size w w' := by
  have HBY := Lib.hid hby
  clear hby
  by_cases hbiglen : 1048576 < len
  · go_enter Try.func9, Try.ntmps9
    go_wp2_with fail
    go_ret
    exact ⟨rfl, Below.refl _ _⟩
  go_enter Try.func9, Try.ntmps9
  go_wp2_with fail
  with_reducible refine (DrawProofEnd_any a0 len cap _ HBY.out hlen).mono ?_
  rintro e wa ⟨es, A, C, s, v, a, c, k, ls, A2, C2, rfl, hel, hok, hz, hl5, hcap, hsm, hb, he, hl, hls⟩
  have Hlow := Lib.hid hb
  have HE := Lib.hid he
  have HLS := Lib.hid hls
  have HL := Lib.hid hl
  have HOKZ := Lib.hid hok
  have HSM : Hid (∀ x ∈ ls, x.2.2.1.length ≤ 1048576 ∧ x.2.2.2.length ≤ 1000000) := fun x hx => by have := hsm x hx; omega
  clear hb he hl hls hok HBY hsm
  have hbx : Below wa.heap.size wa (wa.alloc (.cells #[.int .i64 s, .int .i64 v, .slice a (flen k) c] 35)) := box_low _ _
  have Hn : Hid (Tb wa.heap.size s v a c k (wa.alloc (.cells #[.int .i64 s, .int .i64 v, .slice a (flen k) c] 35))) := Tb.new HL.out
  have Hlow' : Hid (Below w.heap.size w (wa.alloc (.cells #[.int .i64 s, .int .i64 v, .slice a (flen k) c] 35))) := below_next Hlow.out hbx
  have HE' : Hid (ESl (wa.alloc (.cells #[.int .i64 s, .int .i64 v, .slice a (flen k) c] 35)) 0 (wa.alloc (.cells #[.int .i64 s, .int .i64 v, .slice a (flen k) c] 35)).heap.size A es) := HE.out.next hbx
  have HLS' : Hid (LSl (wa.alloc (.cells #[.int .i64 s, .int .i64 v, .slice a (flen k) c] 35)) 0 (wa.alloc (.cells #[.int .i64 s, .int .i64 v, .slice a (flen k) c] 35)).heap.size A2 ls) := HLS.out.next hbx
  clear Hlow HE HLS
  have Hlow := Hlow'
  clear Hlow'
  have HE := HE'
  clear HE'
  have HLS := HLS'
  clear HLS'
  have Ht := Hn
  clear Hn hbx
  clear HL
  have qt0 := Ht.out.c0
  have qt1 := Ht.out.c1
  have qt2 := Ht.out.c2
  go_wp2_with fail
  with_reducible refine (sProofEnd_any es A C s v a c k A2 C2 ls _ HE.out (by omega) Ht.out.sl HLS.out (by omega) HSM.out).mono ?_
  rintro e wx1 ⟨aw, cw, sw, vw, kw, tw, hdw, rfl, hb, hlw⟩
  have HDw := Lib.hid hdw
  clear hdw
  clear qt0 qt1 qt2
  have Hlow' : Hid (Below w.heap.size w wx1) := below_next Hlow.out hb
  have HE' : Hid (ESl wx1 0 wx1.heap.size A es) := HE.out.next hb
  have HLS' : Hid (LSl wx1 0 wx1.heap.size A2 ls) := HLS.out.next hb
  have Ht' : Hid (Tb wa.heap.size s v a c k wx1) := Ht.out.next hb
  clear Hlow HE HLS Ht
  have Hlow := Hlow'
  clear Hlow'
  have HE := HE'
  clear HE'
  have HLS := HLS'
  clear HLS'
  have Ht := Ht'
  clear Ht'
  clear hb
  have Hlw := Lib.hid hlw
  clear hlw
  have hbx : Below wx1.heap.size wx1 (wx1.alloc (.cells #[.int .i64 sw, .int .i64 vw, .slice aw (flen kw) cw] 35)) := box_low _ _
  have Hn : Hid (Tb wx1.heap.size sw vw aw cw kw (wx1.alloc (.cells #[.int .i64 sw, .int .i64 vw, .slice aw (flen kw) cw] 35))) := Tb.new Hlw.out
  have Hlow' : Hid (Below w.heap.size w (wx1.alloc (.cells #[.int .i64 sw, .int .i64 vw, .slice aw (flen kw) cw] 35))) := below_next Hlow.out hbx
  have HE' : Hid (ESl (wx1.alloc (.cells #[.int .i64 sw, .int .i64 vw, .slice aw (flen kw) cw] 35)) 0 (wx1.alloc (.cells #[.int .i64 sw, .int .i64 vw, .slice aw (flen kw) cw] 35)).heap.size A es) := HE.out.next hbx
  have HLS' : Hid (LSl (wx1.alloc (.cells #[.int .i64 sw, .int .i64 vw, .slice aw (flen kw) cw] 35)) 0 (wx1.alloc (.cells #[.int .i64 sw, .int .i64 vw, .slice aw (flen kw) cw] 35)).heap.size A2 ls) := HLS.out.next hbx
  have Ht' : Hid (Tb wa.heap.size s v a c k (wx1.alloc (.cells #[.int .i64 sw, .int .i64 vw, .slice aw (flen kw) cw] 35))) := Ht.out.next hbx
  clear Hlow HE HLS Ht
  have Hlow := Hlow'
  clear Hlow'
  have HE := HE'
  clear HE'
  have HLS := HLS'
  clear HLS'
  have Ht := Ht'
  clear Ht'
  have Hw := Hn
  clear Hn hbx
  clear Hlw
  have qt0 := Ht.out.c0
  have qt1 := Ht.out.c1
  have qt2 := Ht.out.c2
  go_wp2_with fail
  with_reducible refine (iProofEnd_any es A C s v a c k A2 C2 ls _ HE.out (by omega) Ht.out.sl HLS.out (by omega) HSM.out).mono ?_
  rintro e wx2 ⟨ax, cx, sx, vx, kx, tx, hdx, rfl, hb, hlx⟩
  rw [HDw.out] at hdx
  simp only [Prod.mk.injEq] at hdx
  obtain ⟨⟨rfl, rfl, rfl⟩, rfl⟩ := hdx
  clear qt0 qt1 qt2
  have Hlow' : Hid (Below w.heap.size w wx2) := below_next Hlow.out hb
  have HE' : Hid (ESl wx2 0 wx2.heap.size A es) := HE.out.next hb
  have HLS' : Hid (LSl wx2 0 wx2.heap.size A2 ls) := HLS.out.next hb
  have Ht' : Hid (Tb wa.heap.size s v a c k wx2) := Ht.out.next hb
  have Hw' : Hid (Tb wx1.heap.size sw vw aw cw kw wx2) := Hw.out.next hb
  clear Hlow HE HLS Ht Hw
  have Hlow := Hlow'
  clear Hlow'
  have HE := HE'
  clear HE'
  have HLS := HLS'
  clear HLS'
  have Ht := Ht'
  clear Ht'
  have Hw := Hw'
  clear Hw'
  clear hb
  have Hlx := Lib.hid hlx
  clear hlx
  have hbx : Below wx2.heap.size wx2 (wx2.alloc (.cells #[.int .i64 sw, .int .i64 vw, .slice ax (flen kw) cx] 35)) := box_low _ _
  have Hn : Hid (Tb wx2.heap.size sw vw ax cx kw (wx2.alloc (.cells #[.int .i64 sw, .int .i64 vw, .slice ax (flen kw) cx] 35))) := Tb.new Hlx.out
  have Hlow' : Hid (Below w.heap.size w (wx2.alloc (.cells #[.int .i64 sw, .int .i64 vw, .slice ax (flen kw) cx] 35))) := below_next Hlow.out hbx
  have HE' : Hid (ESl (wx2.alloc (.cells #[.int .i64 sw, .int .i64 vw, .slice ax (flen kw) cx] 35)) 0 (wx2.alloc (.cells #[.int .i64 sw, .int .i64 vw, .slice ax (flen kw) cx] 35)).heap.size A es) := HE.out.next hbx
  have HLS' : Hid (LSl (wx2.alloc (.cells #[.int .i64 sw, .int .i64 vw, .slice ax (flen kw) cx] 35)) 0 (wx2.alloc (.cells #[.int .i64 sw, .int .i64 vw, .slice ax (flen kw) cx] 35)).heap.size A2 ls) := HLS.out.next hbx
  have Ht' : Hid (Tb wa.heap.size s v a c k (wx2.alloc (.cells #[.int .i64 sw, .int .i64 vw, .slice ax (flen kw) cx] 35))) := Ht.out.next hbx
  have Hw' : Hid (Tb wx1.heap.size sw vw aw cw kw (wx2.alloc (.cells #[.int .i64 sw, .int .i64 vw, .slice ax (flen kw) cx] 35))) := Hw.out.next hbx
  clear Hlow HE HLS Ht Hw
  have Hlow := Hlow'
  clear Hlow'
  have HE := HE'
  clear HE'
  have HLS := HLS'
  clear HLS'
  have Ht := Ht'
  clear Ht'
  have Hw := Hw'
  clear Hw'
  have Hx := Hn
  clear Hn hbx
  clear Hlx
  have hkw := pr_small HDw.out (by dsimp only; omega)
  have eb : (tw != tw) = false := by simp
  have eb2 : (tw == tw) = true := by simp
  have hge : decide ((es.length : Int) ≥ 6) = false := decide_eq_false (by omega)
  have qx0 := Hx.out.c0
  have qx1 := Hx.out.c1
  have qx2 := Hx.out.c2
  have qw0 := Hw.out.c0
  have qw1 := Hw.out.c1
  have qw2 := Hw.out.c2
  go_wp2_with fail
  with_reducible refine (laTerm_same (fsz kw) sw vw ax aw cx cw kw _ Hx.out.sl Hw.out.sl (Nat.le_refl _) (by omega)).mono ?_
  rintro e wx3 ⟨rfl, hb⟩
  clear qx0 qx1 qx2 qw0 qw1 qw2
  have Hlow' : Hid (Below w.heap.size w wx3) := below_next Hlow.out hb
  have HE' : Hid (ESl wx3 0 wx3.heap.size A es) := HE.out.next hb
  have HLS' : Hid (LSl wx3 0 wx3.heap.size A2 ls) := HLS.out.next hb
  have Ht' : Hid (Tb wa.heap.size s v a c k wx3) := Ht.out.next hb
  have Hw' : Hid (Tb wx1.heap.size sw vw aw cw kw wx3) := Hw.out.next hb
  have Hx' : Hid (Tb wx2.heap.size sw vw ax cx kw wx3) := Hx.out.next hb
  clear Hlow HE HLS Ht Hw Hx
  have Hlow := Hlow'
  clear Hlow'
  have HE := HE'
  clear HE'
  have HLS := HLS'
  clear HLS'
  have Ht := Ht'
  clear Ht'
  have Hw := Hw'
  clear Hw'
  have Hx := Hx'
  clear Hx'
  clear hb
  cases tw with
  | false =>
    have qx0 := Hx.out.c0
    have qx1 := Hx.out.c1
    have qx2 := Hx.out.c2
    have qw0 := Hw.out.c0
    have qw1 := Hw.out.c1
    have qw2 := Hw.out.c2
    go_wp2_with fail
    with_reducible refine (laTerm_same (fsz kw) sw vw ax aw cx cw kw _ Hx.out.sl Hw.out.sl (Nat.le_refl _) (by omega)).mono ?_
    rintro e wx4 ⟨rfl, hb⟩
    clear qx0 qx1 qx2 qw0 qw1 qw2
    have Hlow' : Hid (Below w.heap.size w wx4) := below_next Hlow.out hb
    have HE' : Hid (ESl wx4 0 wx4.heap.size A es) := HE.out.next hb
    have HLS' : Hid (LSl wx4 0 wx4.heap.size A2 ls) := HLS.out.next hb
    have Ht' : Hid (Tb wa.heap.size s v a c k wx4) := Ht.out.next hb
    have Hw' : Hid (Tb wx1.heap.size sw vw aw cw kw wx4) := Hw.out.next hb
    have Hx' : Hid (Tb wx2.heap.size sw vw ax cx kw wx4) := Hx.out.next hb
    clear Hlow HE HLS Ht Hw Hx
    have Hlow := Hlow'
    clear Hlow'
    have HE := HE'
    clear HE'
    have HLS := HLS'
    clear HLS'
    have Ht := Ht'
    clear Ht'
    have Hw := Hw'
    clear Hw'
    have Hx := Hx'
    clear Hx'
    clear hb
    go_wp2_with fail
    go_ret
    exact ⟨rfl, Hlow.out⟩
  | true =>
    have HR : Hid (prR es (s, v, k) ls = some (sw, vw, kw)) := ans_true HDw.out
    have HPM : Hid (prR (es ++ [eAB]) (s, v, k) ls = some (sw, vw, kw)) := prR_more HR.out (by omega)
    clear eb eb2
    obtain ⟨ti, hti, htz, hts, htb⟩ := Try.infoEq
    have HTI : Hid (Try.prog.info? 63 = some ti ∧ ti.zero = some (.agg #[.int .i64 0, .int .i64 0, .slice none 0 0, .int .i64 0, .int .i64 0, .slice none 0 0]) ∧ ti.size = 6 ∧ ti.bytes = 80) := ⟨hti, htz, hts, htb⟩
    clear hti htz hts htb
    obtain ⟨news, hsrc, hone, hnews⟩ := src_of_esl HE.out (fun ha => by have h := HE.out; rw [ha] at h; exact esl_none h)
    have HSRC := Lib.hid hsrc
    have HONE := Lib.hid hone
    have HNEWS := Lib.hid hnews
    clear hsrc hone hnews
    have hu0 : ∀ u : After wx3.heap.size wx3, u.world.cell? ⟨wa.heap.size, 0, none⟩ = some (.int .i64 s) := fun u => cell_low u.below Ht.out.c0
    have hu1 : ∀ u : After wx3.heap.size wx3, u.world.cell? ⟨wa.heap.size, 1, none⟩ = some (.int .i64 v) := fun u => cell_low u.below Ht.out.c1
    have hu2 : ∀ u : After wx3.heap.size wx3, u.world.cell? ⟨wa.heap.size, 2, none⟩ = some (.slice a (flen k) c) := fun u => cell_low u.below Ht.out.c2
    go_wp2_with fail
    refine wp_region_anyT (fun w' => ∃ u : After wx3.heap.size wx3, w' = u.world) (by kernel_rfl) ?_
    have HBD : Hid (Below wx3.heap.size wx3 wx3.drew) := (Below.refl _ _).drew
    generalize wx3.drew = wd0 at *
    refine anyT_look (i := 1) rfl (by kernel_rfl) ⟨⟨_, HBD.out⟩, rfl⟩ (fun K hK => ?_)
    go_simp
    refine hK _ ?_
    clear hK K
    refine anyT_look (i := 3) rfl (by kernel_rfl) ⟨⟨_, HBD.out⟩, rfl⟩ (fun K hK => ?_)
    go_simp
    refine hK _ ?_
    clear hK K
    refine anyT_look (i := 4) rfl (by kernel_rfl) ⟨⟨_, HBD.out⟩, rfl⟩ (fun K hK => ?_)
    go_simp
    refine hK _ ?_
    clear hK K
    refine anyT_look (i := 5) rfl (by kernel_rfl) ⟨⟨_, HBD.out⟩, rfl⟩ (fun K hK => ?_)
    go_simp
    refine hK _ ?_
    clear hK K
    refine anyT_look (i := 8) rfl (by kernel_rfl) ⟨⟨_, HBD.out⟩, rfl⟩ (fun K hK => ?_)
    go_simp
    refine hK _ ?_
    clear hK K
    refine anyT_look (i := 9) rfl (by kernel_rfl) ⟨⟨_, HBD.out⟩, rfl⟩ (fun K hK => ?_)
    go_simp
    refine hK _ ?_
    clear hK K
    clear hu0 hu1 hu2
    refine anyT_three (i := 0) (j := 6) (k := 14) (by kernel_rfl) rfl rfl rfl (fun K hK => ?_) (fun K hK => ?_) (fun K hK => ?_)
    · go_simp
      have hlewd1 : wx3.heap.size ≤ wd0.heap.size := HBD.out.size
      have hbe : Below wd0.heap.size wd0 (wd0.alloc (.cells #[] 63)) := box_low _ _
      have hswd1 : wd0.heap.size < (wd0.alloc (.cells #[] 63)).heap.size := by simp
      have HO : Hid ((wd0.alloc (.cells #[] 63)).ownsRow wx3.heap.size 63 6 (.slice (some ⟨wd0.heap.size, 0, none⟩) 0 0) 0 []) := own_emptyE hlewd1
      replace HBD := Lib.hid (HBD.out.trans (hbe.mono HBD.out.size))
      refine hK _ _ ⟨⟨_, HBD.out⟩, rfl⟩ ?_
      clear hK K hbe
      generalize (wd0.alloc (.cells #[] 63)) = wd1 at *
      have hltwd1 : ∀ g, (Value.ownBlock (.slice (some ⟨wd0.heap.size, 0, none⟩) 0 0)) = some g → wx3.heap.size ≤ g ∧ g < wd1.heap.size := fun g hg => HO.out.lt g hg
      refine anyT_three (i := 2) (j := 6) (k := 14) (by kernel_rfl) rfl rfl rfl (fun K hK => ?_) (fun K hK => ?_) (fun K hK => ?_)
      · have hlewd2 : wx3.heap.size ≤ wd1.heap.size := HBD.out.size
        refine step_src (by rfl) _ _ 38 (by rfl) wx3.heap.size 63 ti _ 6 80 Try.underlying38 HTI.out.1 HTI.out.2.1 HTI.out.2.2.1 HTI.out.2.2.2 rfl (by omega) (.slice (some ⟨wd0.heap.size, 0, none⟩) 0 0) 0 [] (by rfl) HO.out A es.length C news (by rfl) (HSRC.out.low HBD.out) HONE.out (by unfold maxLen; omega) (by omega) hlewd2 ?_
        intro Awd2 Cwd2 wd2 hown hgrow hat
        have ho2 : wd2.ownsRow wx3.heap.size 63 6 (.slice Awd2 es.length Cwd2) es.length news := by simpa using hown
        have HO2 := Lib.hid ho2
        clear ho2
        have hswd2 : wd1.heap.size ≤ wd2.heap.size := hgrow.size
        replace HBD := Lib.hid (Below.grown HBD.out hgrow HBD.out.size (fun g hg => (HO.out.lt g hg).1))
        have hat2 : (Value.ownBlock (.slice Awd2 es.length Cwd2)) = (Value.ownBlock (.slice (some ⟨wd0.heap.size, 0, none⟩) 0 0)) ∨ (Value.ownBlock (.slice Awd2 es.length Cwd2)) = some wd1.heap.size := by rw [Nat.zero_add] at hat; exact hat
        have HO := HO2
        clear HO2
        refine hK _ _ ⟨⟨_, HBD.out⟩, rfl⟩ ?_
        clear hK K hown hgrow hat hat2
        have hltwd2 : ∀ g, (Value.ownBlock (.slice Awd2 es.length Cwd2)) = some g → wx3.heap.size ≤ g ∧ g < wd2.heap.size := fun g hg => HO.out.lt g hg
        refine anyT_two (i := 6) (j := 14) (by kernel_rfl) rfl rfl (fun K hK => ?_) (fun K hK => ?_)
        · go_simp
          have hlewd3 : wx3.heap.size ≤ wd2.heap.size := HBD.out.size
          have hbe : Below wd2.heap.size wd2 (wd2.alloc (.cells #[.int .i64 1, .int .i64 0, .slice none 0 0, .int .i64 2, .int .i64 0, .slice none 0 0] 63)) := box_low _ _
          have hswd3 : wd2.heap.size < (wd2.alloc (.cells #[.int .i64 1, .int .i64 0, .slice none 0 0, .int .i64 2, .int .i64 0, .slice none 0 0] 63)).heap.size := by simp
          replace HO := Lib.hid (own_low hbe HO.out)
          have HN6 := Lib.hid (heap_alloc_new wd2 (.cells #[.int .i64 1, .int .i64 0, .slice none 0 0, .int .i64 2, .int .i64 0, .slice none 0 0] 63))
          replace HBD := Lib.hid (HBD.out.trans (hbe.mono HBD.out.size))
          refine hK _ _ ⟨⟨_, HBD.out⟩, rfl⟩ ?_
          clear hK K hbe
          generalize (wd2.alloc (.cells #[.int .i64 1, .int .i64 0, .slice none 0 0, .int .i64 2, .int .i64 0, .slice none 0 0] 63)) = wd3 at *
          have HD6 : Hid (∀ g, (Value.ownBlock (.slice Awd2 es.length Cwd2)) = some g → g ≠ wd2.heap.size) := fun g hg => by have h1 := hltwd2 g hg; omega
          refine anyT_two (i := 7) (j := 14) (by kernel_rfl) rfl rfl (fun K hK => ?_) (fun K hK => ?_)
          · have hlewd4 : wx3.heap.size ≤ wd3.heap.size := HBD.out.size
            refine step_src (by rfl) _ _ 38 (by rfl) wx3.heap.size 63 ti _ 6 80 Try.underlying38 HTI.out.1 HTI.out.2.1 HTI.out.2.2.1 HTI.out.2.2.2 rfl (by omega) (.slice Awd2 es.length Cwd2) es.length news (by first | rfl | (show Value.slice Awd2 (0 + es.length) Cwd2 = _; rw [Nat.zero_add])) HO.out (some ⟨wd2.heap.size, 0, none⟩) 1 1 [.int .i64 1, .int .i64 0, .slice none 0 0, .int .i64 2, .int .i64 0, .slice none 0 0] (by rfl) ⟨rfl, .inr ⟨_, rfl, World.news_of_block HN6.out⟩⟩ (by simp [Value.oneCell']) (by unfold maxLen; omega) (by omega) hlewd4 ?_
            intro A7 C7 wd4 hown hgrow hat
            have hswd4 : wd3.heap.size ≤ wd4.heap.size := hgrow.size
            replace HBD := Lib.hid (Below.grown HBD.out hgrow HBD.out.size (fun g hg => (HO.out.lt g hg).1))
            have HES : Hid (ESl wd4 0 wd4.heap.size A7 (es ++ [eAB])) := esl_more hown HSRC.out.1 (fun i x hx => by
              obtain ⟨a1, c1, a2, c2, h1, h2, h3⟩ := HNEWS.out i x hx
              exact ⟨a1, c1, a2, c2, h1, Sl.next h2 HBD.out, Sl.next h3 HBD.out⟩)
            refine hK _ _ ⟨⟨_, HBD.out⟩, rfl⟩ ?_
            clear hK K hown hgrow hat HO HN6 HD6
            refine anyT_two (i := 10) (j := 14) (by kernel_rfl) rfl rfl (fun K hK => ?_) (fun K hK => ?_)
            · go_simp
              have hcc := iProofEnd_any (es ++ [eAB]) A7 C7 s v a c k A2 C2 ls wd4 HES.out (by simp; omega) ((Ht.out.next HBD.out).sl) (HLS.out.next HBD.out) (by omega) HSM.out
              simp only [List.length_append, List.length_singleton] at hcc
              rw [HPM.out] at hcc
              have HCC := Lib.hid hcc
              clear hcc
              refine HCC.out.mono ?_
              rintro e wd5 ⟨ay, cy, s9, v9, k9, t9, hR, rfl, hb, hlx⟩
              simp only [ansR, Prod.mk.injEq] at hR
              obtain ⟨⟨rfl, rfl, rfl⟩, rfl⟩ := hR
              have HLX := Lib.hid hlx
              have hswd5 : wd4.heap.size ≤ wd5.heap.size := hb.size
              replace HBD := Lib.hid (HBD.out.trans (hb.mono HBD.out.size))
              refine hK _ _ ⟨⟨_, HBD.out⟩, rfl⟩ ?_
              clear hK K hb hlx HCC HES
              refine anyT_look (i := 11) rfl (by kernel_rfl) ⟨⟨_, HBD.out⟩, rfl⟩ (fun K hK => ?_)
              go_simp
              refine hK _ ?_
              clear hK K
              refine anyT_look (i := 12) rfl (by kernel_rfl) ⟨⟨_, HBD.out⟩, rfl⟩ (fun K hK => ?_)
              go_simp
              refine hK _ ?_
              clear hK K
              refine anyT_look (i := 13) rfl (by kernel_rfl) ⟨⟨_, HBD.out⟩, rfl⟩ (fun K hK => ?_)
              go_simp
              refine hK _ ?_
              clear hK K
              refine anyT_one (i := 14) (by kernel_rfl) rfl (fun K hK => ?_)
              go_simp
              have hlewd6 : wx3.heap.size ≤ wd5.heap.size := HBD.out.size
              have hbe : Below wd5.heap.size wd5 (wd5.alloc (.cells #[.int .i64 0, .int .i64 0, .slice none 0 0] 35)) := box_low _ _
              have hswd6 : wd5.heap.size < (wd5.alloc (.cells #[.int .i64 0, .int .i64 0, .slice none 0 0] 35)).heap.size := by simp
              have HZ := Lib.hid (zb_new wd5)
              replace HLX := Lib.hid (HLX.out.same (Same.of_below (hbe.mono (by omega))))
              replace HBD := Lib.hid (HBD.out.trans (hbe.mono HBD.out.size))
              refine hK _ _ ⟨⟨_, HBD.out⟩, rfl⟩ ?_
              clear hK K hbe
              generalize (wd5.alloc (.cells #[.int .i64 0, .int .i64 0, .slice none 0 0] 35)) = wd6 at *
              refine anyT_one (i := 15) (by kernel_rfl) rfl (fun K hK => ?_)
              have hzz0 := HZ.out.z0
              have hzz1 := HZ.out.z1
              have hzz2 := HZ.out.z2
              have hzf0 := HZ.out.f 0
              have hzf1 := HZ.out.f 1
              have hzf2 := HZ.out.f 2
              have HFIN : Hid (Below wx3.heap.size wx3 (((wd6.setCell ⟨wd5.heap.size, 0, none⟩ (.int .i64 sw)).setCell ⟨wd5.heap.size, 1, none⟩ (.int .i64 vw)).setCell ⟨wd5.heap.size, 2, none⟩ (.slice ay (flen kw) cy)) ∧ Tb wd5.heap.size sw vw ay cy kw (((wd6.setCell ⟨wd5.heap.size, 0, none⟩ (.int .i64 sw)).setCell ⟨wd5.heap.size, 1, none⟩ (.int .i64 vw)).setCell ⟨wd5.heap.size, 2, none⟩ (.slice ay (flen kw) cy))) := zb_fin HZ.out HBD.out (by omega) HLX.out (by omega) (by omega)
              go_simp
              refine hK _ _ ⟨⟨_, HFIN.out.1⟩, rfl⟩ ?_
              clear hK K hzz0 hzz1 hzz2 hzf0 hzf1 hzf2
              refine anyT_one (i := 16) (by kernel_rfl) rfl (fun K hK => ?_)
              go_simp
              refine hK _ _ ⟨⟨_, HFIN.out.1⟩, rfl⟩ ?_
              clear hK K
              refine anyT_done (by kernel_rfl) ?_
              have HBE := Lib.hid HFIN.out.1
              have Hy := Lib.hid HFIN.out.2
              clear HFIN HZ HLX HBD
              generalize (((wd6.setCell ⟨wd5.heap.size, 0, none⟩ (.int .i64 sw)).setCell ⟨wd5.heap.size, 1, none⟩ (.int .i64 vw)).setCell ⟨wd5.heap.size, 2, none⟩ (.slice ay (flen kw) cy)) = we at *
              have Hlow' : Hid (Below w.heap.size w we) := below_next Hlow.out HBE.out
              have HE' : Hid (ESl we 0 we.heap.size A es) := HE.out.next HBE.out
              have HLS' : Hid (LSl we 0 we.heap.size A2 ls) := HLS.out.next HBE.out
              have Ht' : Hid (Tb wa.heap.size s v a c k we) := Ht.out.next HBE.out
              have Hw' : Hid (Tb wx1.heap.size sw vw aw cw kw we) := Hw.out.next HBE.out
              have Hx' : Hid (Tb wx2.heap.size sw vw ax cx kw we) := Hx.out.next HBE.out
              clear Hlow HE HLS Ht Hw Hx
              have Hlow := Hlow'
              clear Hlow'
              have HE := HE'
              clear HE'
              have HLS := HLS'
              clear HLS'
              have Ht := Ht'
              clear Ht'
              have Hw := Hw'
              clear Hw'
              have Hx := Hx'
              clear Hx'
              clear HBE
              have qy0 := Hy.out.c0
              have qy1 := Hy.out.c1
              have qy2 := Hy.out.c2
              have qx0 := Hx.out.c0
              have qx1 := Hx.out.c1
              have qx2 := Hx.out.c2
              go_wp2_with fail
              with_reducible refine (laTerm_same (fsz kw) sw vw ay ax cy cx kw _ Hy.out.sl Hx.out.sl (Nat.le_refl _) (by omega)).mono ?_
              rintro e wx4 ⟨rfl, hb⟩
              clear qy0 qy1 qy2 qx0 qx1 qx2
              have Hlow' : Hid (Below w.heap.size w wx4) := below_next Hlow.out hb
              have HE' : Hid (ESl wx4 0 wx4.heap.size A es) := HE.out.next hb
              have HLS' : Hid (LSl wx4 0 wx4.heap.size A2 ls) := HLS.out.next hb
              have Ht' : Hid (Tb wa.heap.size s v a c k wx4) := Ht.out.next hb
              have Hw' : Hid (Tb wx1.heap.size sw vw aw cw kw wx4) := Hw.out.next hb
              have Hx' : Hid (Tb wx2.heap.size sw vw ax cx kw wx4) := Hx.out.next hb
              have Hy' : Hid (Tb wd5.heap.size sw vw ay cy kw wx4) := Hy.out.next hb
              clear Hlow HE HLS Ht Hw Hx Hy
              have Hlow := Hlow'
              clear Hlow'
              have HE := HE'
              clear HE'
              have HLS := HLS'
              clear HLS'
              have Ht := Ht'
              clear Ht'
              have Hw := Hw'
              clear Hw'
              have Hx := Hx'
              clear Hx'
              have Hy := Hy'
              clear Hy'
              clear hb
              go_wp2_with fail
              go_ret
              exact ⟨rfl, Hlow.out⟩
            · go_simp
              have hlewd9 : wx3.heap.size ≤ wd4.heap.size := HBD.out.size
              have hbe : Below wd4.heap.size wd4 (wd4.alloc (.cells #[.int .i64 0, .int .i64 0, .slice none 0 0] 35)) := box_low _ _
              have hswd9 : wd4.heap.size < (wd4.alloc (.cells #[.int .i64 0, .int .i64 0, .slice none 0 0] 35)).heap.size := by simp
              have HZ := Lib.hid (zb_new wd4)
              replace HES := Lib.hid (HES.out.next hbe)
              replace HBD := Lib.hid (HBD.out.trans (hbe.mono HBD.out.size))
              refine hK _ _ ⟨⟨_, HBD.out⟩, rfl⟩ ?_
              clear hK K hbe
              generalize (wd4.alloc (.cells #[.int .i64 0, .int .i64 0, .slice none 0 0] 35)) = wd9 at *
              refine anyT_one (i := 10) (by kernel_rfl) rfl (fun K hK => ?_)
              go_simp
              have hcc := iProofEnd_any (es ++ [eAB]) A7 C7 s v a c k A2 C2 ls wd9 HES.out (by simp; omega) ((Ht.out.next HBD.out).sl) (HLS.out.next HBD.out) (by omega) HSM.out
              simp only [List.length_append, List.length_singleton] at hcc
              rw [HPM.out] at hcc
              have HCC := Lib.hid hcc
              clear hcc
              refine HCC.out.mono ?_
              rintro e wd10 ⟨ay, cy, s9, v9, k9, t9, hR, rfl, hb, hlx⟩
              simp only [ansR, Prod.mk.injEq] at hR
              obtain ⟨⟨rfl, rfl, rfl⟩, rfl⟩ := hR
              have HLX := Lib.hid hlx
              have hswd10 : wd9.heap.size ≤ wd10.heap.size := hb.size
              replace HZ := Lib.hid (HZ.out.low hb)
              replace HBD := Lib.hid (HBD.out.trans (hb.mono HBD.out.size))
              refine hK _ _ ⟨⟨_, HBD.out⟩, rfl⟩ ?_
              clear hK K hb hlx HCC HES
              refine anyT_look (i := 11) rfl (by kernel_rfl) ⟨⟨_, HBD.out⟩, rfl⟩ (fun K hK => ?_)
              go_simp
              refine hK _ ?_
              clear hK K
              refine anyT_look (i := 12) rfl (by kernel_rfl) ⟨⟨_, HBD.out⟩, rfl⟩ (fun K hK => ?_)
              go_simp
              refine hK _ ?_
              clear hK K
              refine anyT_look (i := 13) rfl (by kernel_rfl) ⟨⟨_, HBD.out⟩, rfl⟩ (fun K hK => ?_)
              go_simp
              refine hK _ ?_
              clear hK K
              refine anyT_one (i := 15) (by kernel_rfl) rfl (fun K hK => ?_)
              have hzz0 := HZ.out.z0
              have hzz1 := HZ.out.z1
              have hzz2 := HZ.out.z2
              have hzf0 := HZ.out.f 0
              have hzf1 := HZ.out.f 1
              have hzf2 := HZ.out.f 2
              have HFIN : Hid (Below wx3.heap.size wx3 (((wd10.setCell ⟨wd4.heap.size, 0, none⟩ (.int .i64 sw)).setCell ⟨wd4.heap.size, 1, none⟩ (.int .i64 vw)).setCell ⟨wd4.heap.size, 2, none⟩ (.slice ay (flen kw) cy)) ∧ Tb wd4.heap.size sw vw ay cy kw (((wd10.setCell ⟨wd4.heap.size, 0, none⟩ (.int .i64 sw)).setCell ⟨wd4.heap.size, 1, none⟩ (.int .i64 vw)).setCell ⟨wd4.heap.size, 2, none⟩ (.slice ay (flen kw) cy))) := zb_fin HZ.out HBD.out (by omega) HLX.out (by omega) (by omega)
              go_simp
              refine hK _ _ ⟨⟨_, HFIN.out.1⟩, rfl⟩ ?_
              clear hK K hzz0 hzz1 hzz2 hzf0 hzf1 hzf2
              refine anyT_one (i := 16) (by kernel_rfl) rfl (fun K hK => ?_)
              go_simp
              refine hK _ _ ⟨⟨_, HFIN.out.1⟩, rfl⟩ ?_
              clear hK K
              refine anyT_done (by kernel_rfl) ?_
              have HBE := Lib.hid HFIN.out.1
              have Hy := Lib.hid HFIN.out.2
              clear HFIN HZ HLX HBD
              generalize (((wd10.setCell ⟨wd4.heap.size, 0, none⟩ (.int .i64 sw)).setCell ⟨wd4.heap.size, 1, none⟩ (.int .i64 vw)).setCell ⟨wd4.heap.size, 2, none⟩ (.slice ay (flen kw) cy)) = we at *
              have Hlow' : Hid (Below w.heap.size w we) := below_next Hlow.out HBE.out
              have HE' : Hid (ESl we 0 we.heap.size A es) := HE.out.next HBE.out
              have HLS' : Hid (LSl we 0 we.heap.size A2 ls) := HLS.out.next HBE.out
              have Ht' : Hid (Tb wa.heap.size s v a c k we) := Ht.out.next HBE.out
              have Hw' : Hid (Tb wx1.heap.size sw vw aw cw kw we) := Hw.out.next HBE.out
              have Hx' : Hid (Tb wx2.heap.size sw vw ax cx kw we) := Hx.out.next HBE.out
              clear Hlow HE HLS Ht Hw Hx
              have Hlow := Hlow'
              clear Hlow'
              have HE := HE'
              clear HE'
              have HLS := HLS'
              clear HLS'
              have Ht := Ht'
              clear Ht'
              have Hw := Hw'
              clear Hw'
              have Hx := Hx'
              clear Hx'
              clear HBE
              have qy0 := Hy.out.c0
              have qy1 := Hy.out.c1
              have qy2 := Hy.out.c2
              have qx0 := Hx.out.c0
              have qx1 := Hx.out.c1
              have qx2 := Hx.out.c2
              go_wp2_with fail
              with_reducible refine (laTerm_same (fsz kw) sw vw ay ax cy cx kw _ Hy.out.sl Hx.out.sl (Nat.le_refl _) (by omega)).mono ?_
              rintro e wx4 ⟨rfl, hb⟩
              clear qy0 qy1 qy2 qx0 qx1 qx2
              have Hlow' : Hid (Below w.heap.size w wx4) := below_next Hlow.out hb
              have HE' : Hid (ESl wx4 0 wx4.heap.size A es) := HE.out.next hb
              have HLS' : Hid (LSl wx4 0 wx4.heap.size A2 ls) := HLS.out.next hb
              have Ht' : Hid (Tb wa.heap.size s v a c k wx4) := Ht.out.next hb
              have Hw' : Hid (Tb wx1.heap.size sw vw aw cw kw wx4) := Hw.out.next hb
              have Hx' : Hid (Tb wx2.heap.size sw vw ax cx kw wx4) := Hx.out.next hb
              have Hy' : Hid (Tb wd4.heap.size sw vw ay cy kw wx4) := Hy.out.next hb
              clear Hlow HE HLS Ht Hw Hx Hy
              have Hlow := Hlow'
              clear Hlow'
              have HE := HE'
              clear HE'
              have HLS := HLS'
              clear HLS'
              have Ht := Ht'
              clear Ht'
              have Hw := Hw'
              clear Hw'
              have Hx := Hx'
              clear Hx'
              have Hy := Hy'
              clear Hy'
              clear hb
              go_wp2_with fail
              go_ret
              exact ⟨rfl, Hlow.out⟩
          · go_simp
            have hlewd13 : wx3.heap.size ≤ wd3.heap.size := HBD.out.size
            have hbe : Below wd3.heap.size wd3 (wd3.alloc (.cells #[.int .i64 0, .int .i64 0, .slice none 0 0] 35)) := box_low _ _
            have hswd13 : wd3.heap.size < (wd3.alloc (.cells #[.int .i64 0, .int .i64 0, .slice none 0 0] 35)).heap.size := by simp
            replace HO := Lib.hid (own_low hbe HO.out)
            replace HN6 := Lib.hid ((hbe.block wd2.heap.size (by omega)).trans HN6.out)
            have HZ := Lib.hid (zb_new wd3)
            replace HBD := Lib.hid (HBD.out.trans (hbe.mono HBD.out.size))
            refine hK _ _ ⟨⟨_, HBD.out⟩, rfl⟩ ?_
            clear hK K hbe
            generalize (wd3.alloc (.cells #[.int .i64 0, .int .i64 0, .slice none 0 0] 35)) = wd13 at *
            have HD14 : Hid (∀ g, (Value.ownBlock (.slice Awd2 es.length Cwd2)) = some g → g ≠ wd3.heap.size) := fun g hg => by have h1 := hltwd2 g hg; omega
            refine anyT_one (i := 7) (by kernel_rfl) rfl (fun K hK => ?_)
            have hlewd14 : wx3.heap.size ≤ wd13.heap.size := HBD.out.size
            refine step_src (by rfl) _ _ 38 (by rfl) wx3.heap.size 63 ti _ 6 80 Try.underlying38 HTI.out.1 HTI.out.2.1 HTI.out.2.2.1 HTI.out.2.2.2 rfl (by omega) (.slice Awd2 es.length Cwd2) es.length news (by first | rfl | (show Value.slice Awd2 (0 + es.length) Cwd2 = _; rw [Nat.zero_add])) HO.out (some ⟨wd2.heap.size, 0, none⟩) 1 1 [.int .i64 1, .int .i64 0, .slice none 0 0, .int .i64 2, .int .i64 0, .slice none 0 0] (by rfl) ⟨rfl, .inr ⟨_, rfl, World.news_of_block HN6.out⟩⟩ (by simp [Value.oneCell']) (by unfold maxLen; omega) (by omega) hlewd14 ?_
            intro A7 C7 wd14 hown hgrow hat
            have hswd14 : wd13.heap.size ≤ wd14.heap.size := hgrow.size
            replace HBD := Lib.hid (Below.grown HBD.out hgrow HBD.out.size (fun g hg => (HO.out.lt g hg).1))
            have HES : Hid (ESl wd14 0 wd14.heap.size A7 (es ++ [eAB])) := esl_more hown HSRC.out.1 (fun i x hx => by
              obtain ⟨a1, c1, a2, c2, h1, h2, h3⟩ := HNEWS.out i x hx
              exact ⟨a1, c1, a2, c2, h1, Sl.next h2 HBD.out, Sl.next h3 HBD.out⟩)
            replace HZ := Lib.hid (HZ.out.grown hgrow (fun e => HD14.out _ e rfl))
            clear HD14
            refine hK _ _ ⟨⟨_, HBD.out⟩, rfl⟩ ?_
            clear hK K hown hgrow hat HO HN6 HD6
            refine anyT_one (i := 10) (by kernel_rfl) rfl (fun K hK => ?_)
            go_simp
            have hcc := iProofEnd_any (es ++ [eAB]) A7 C7 s v a c k A2 C2 ls wd14 HES.out (by simp; omega) ((Ht.out.next HBD.out).sl) (HLS.out.next HBD.out) (by omega) HSM.out
            simp only [List.length_append, List.length_singleton] at hcc
            rw [HPM.out] at hcc
            have HCC := Lib.hid hcc
            clear hcc
            refine HCC.out.mono ?_
            rintro e wd15 ⟨ay, cy, s9, v9, k9, t9, hR, rfl, hb, hlx⟩
            simp only [ansR, Prod.mk.injEq] at hR
            obtain ⟨⟨rfl, rfl, rfl⟩, rfl⟩ := hR
            have HLX := Lib.hid hlx
            have hswd15 : wd14.heap.size ≤ wd15.heap.size := hb.size
            replace HZ := Lib.hid (HZ.out.low hb)
            replace HBD := Lib.hid (HBD.out.trans (hb.mono HBD.out.size))
            refine hK _ _ ⟨⟨_, HBD.out⟩, rfl⟩ ?_
            clear hK K hb hlx HCC HES
            refine anyT_look (i := 11) rfl (by kernel_rfl) ⟨⟨_, HBD.out⟩, rfl⟩ (fun K hK => ?_)
            go_simp
            refine hK _ ?_
            clear hK K
            refine anyT_look (i := 12) rfl (by kernel_rfl) ⟨⟨_, HBD.out⟩, rfl⟩ (fun K hK => ?_)
            go_simp
            refine hK _ ?_
            clear hK K
            refine anyT_look (i := 13) rfl (by kernel_rfl) ⟨⟨_, HBD.out⟩, rfl⟩ (fun K hK => ?_)
            go_simp
            refine hK _ ?_
            clear hK K
            refine anyT_one (i := 15) (by kernel_rfl) rfl (fun K hK => ?_)
            have hzz0 := HZ.out.z0
            have hzz1 := HZ.out.z1
            have hzz2 := HZ.out.z2
            have hzf0 := HZ.out.f 0
            have hzf1 := HZ.out.f 1
            have hzf2 := HZ.out.f 2
            have HFIN : Hid (Below wx3.heap.size wx3 (((wd15.setCell ⟨wd3.heap.size, 0, none⟩ (.int .i64 sw)).setCell ⟨wd3.heap.size, 1, none⟩ (.int .i64 vw)).setCell ⟨wd3.heap.size, 2, none⟩ (.slice ay (flen kw) cy)) ∧ Tb wd3.heap.size sw vw ay cy kw (((wd15.setCell ⟨wd3.heap.size, 0, none⟩ (.int .i64 sw)).setCell ⟨wd3.heap.size, 1, none⟩ (.int .i64 vw)).setCell ⟨wd3.heap.size, 2, none⟩ (.slice ay (flen kw) cy))) := zb_fin HZ.out HBD.out (by omega) HLX.out (by omega) (by omega)
            go_simp
            refine hK _ _ ⟨⟨_, HFIN.out.1⟩, rfl⟩ ?_
            clear hK K hzz0 hzz1 hzz2 hzf0 hzf1 hzf2
            refine anyT_one (i := 16) (by kernel_rfl) rfl (fun K hK => ?_)
            go_simp
            refine hK _ _ ⟨⟨_, HFIN.out.1⟩, rfl⟩ ?_
            clear hK K
            refine anyT_done (by kernel_rfl) ?_
            have HBE := Lib.hid HFIN.out.1
            have Hy := Lib.hid HFIN.out.2
            clear HFIN HZ HLX HBD
            generalize (((wd15.setCell ⟨wd3.heap.size, 0, none⟩ (.int .i64 sw)).setCell ⟨wd3.heap.size, 1, none⟩ (.int .i64 vw)).setCell ⟨wd3.heap.size, 2, none⟩ (.slice ay (flen kw) cy)) = we at *
            have Hlow' : Hid (Below w.heap.size w we) := below_next Hlow.out HBE.out
            have HE' : Hid (ESl we 0 we.heap.size A es) := HE.out.next HBE.out
            have HLS' : Hid (LSl we 0 we.heap.size A2 ls) := HLS.out.next HBE.out
            have Ht' : Hid (Tb wa.heap.size s v a c k we) := Ht.out.next HBE.out
            have Hw' : Hid (Tb wx1.heap.size sw vw aw cw kw we) := Hw.out.next HBE.out
            have Hx' : Hid (Tb wx2.heap.size sw vw ax cx kw we) := Hx.out.next HBE.out
            clear Hlow HE HLS Ht Hw Hx
            have Hlow := Hlow'
            clear Hlow'
            have HE := HE'
            clear HE'
            have HLS := HLS'
            clear HLS'
            have Ht := Ht'
            clear Ht'
            have Hw := Hw'
            clear Hw'
            have Hx := Hx'
            clear Hx'
            clear HBE
            have qy0 := Hy.out.c0
            have qy1 := Hy.out.c1
            have qy2 := Hy.out.c2
            have qx0 := Hx.out.c0
            have qx1 := Hx.out.c1
            have qx2 := Hx.out.c2
            go_wp2_with fail
            with_reducible refine (laTerm_same (fsz kw) sw vw ay ax cy cx kw _ Hy.out.sl Hx.out.sl (Nat.le_refl _) (by omega)).mono ?_
            rintro e wx4 ⟨rfl, hb⟩
            clear qy0 qy1 qy2 qx0 qx1 qx2
            have Hlow' : Hid (Below w.heap.size w wx4) := below_next Hlow.out hb
            have HE' : Hid (ESl wx4 0 wx4.heap.size A es) := HE.out.next hb
            have HLS' : Hid (LSl wx4 0 wx4.heap.size A2 ls) := HLS.out.next hb
            have Ht' : Hid (Tb wa.heap.size s v a c k wx4) := Ht.out.next hb
            have Hw' : Hid (Tb wx1.heap.size sw vw aw cw kw wx4) := Hw.out.next hb
            have Hx' : Hid (Tb wx2.heap.size sw vw ax cx kw wx4) := Hx.out.next hb
            have Hy' : Hid (Tb wd3.heap.size sw vw ay cy kw wx4) := Hy.out.next hb
            clear Hlow HE HLS Ht Hw Hx Hy
            have Hlow := Hlow'
            clear Hlow'
            have HE := HE'
            clear HE'
            have HLS := HLS'
            clear HLS'
            have Ht := Ht'
            clear Ht'
            have Hw := Hw'
            clear Hw'
            have Hx := Hx'
            clear Hx'
            have Hy := Hy'
            clear Hy'
            clear hb
            go_wp2_with fail
            go_ret
            exact ⟨rfl, Hlow.out⟩
        · go_simp
          have hlewd18 : wx3.heap.size ≤ wd2.heap.size := HBD.out.size
          have hbe : Below wd2.heap.size wd2 (wd2.alloc (.cells #[.int .i64 0, .int .i64 0, .slice none 0 0] 35)) := box_low _ _
          have hswd18 : wd2.heap.size < (wd2.alloc (.cells #[.int .i64 0, .int .i64 0, .slice none 0 0] 35)).heap.size := by simp
          replace HO := Lib.hid (own_low hbe HO.out)
          have HZ := Lib.hid (zb_new wd2)
          replace HBD := Lib.hid (HBD.out.trans (hbe.mono HBD.out.size))
          refine hK _ _ ⟨⟨_, HBD.out⟩, rfl⟩ ?_
          clear hK K hbe
          generalize (wd2.alloc (.cells #[.int .i64 0, .int .i64 0, .slice none 0 0] 35)) = wd18 at *
          have HD14 : Hid (∀ g, (Value.ownBlock (.slice Awd2 es.length Cwd2)) = some g → g ≠ wd2.heap.size) := fun g hg => by have h1 := hltwd2 g hg; omega
          refine anyT_one (i := 6) (by kernel_rfl) rfl (fun K hK => ?_)
          go_simp
          have hlewd19 : wx3.heap.size ≤ wd18.heap.size := HBD.out.size
          have hbe : Below wd18.heap.size wd18 (wd18.alloc (.cells #[.int .i64 1, .int .i64 0, .slice none 0 0, .int .i64 2, .int .i64 0, .slice none 0 0] 63)) := box_low _ _
          have hswd19 : wd18.heap.size < (wd18.alloc (.cells #[.int .i64 1, .int .i64 0, .slice none 0 0, .int .i64 2, .int .i64 0, .slice none 0 0] 63)).heap.size := by simp
          replace HO := Lib.hid (own_low hbe HO.out)
          have HN6 := Lib.hid (heap_alloc_new wd18 (.cells #[.int .i64 1, .int .i64 0, .slice none 0 0, .int .i64 2, .int .i64 0, .slice none 0 0] 63))
          replace HZ := Lib.hid (HZ.out.low hbe)
          replace HBD := Lib.hid (HBD.out.trans (hbe.mono HBD.out.size))
          refine hK _ _ ⟨⟨_, HBD.out⟩, rfl⟩ ?_
          clear hK K hbe
          generalize (wd18.alloc (.cells #[.int .i64 1, .int .i64 0, .slice none 0 0, .int .i64 2, .int .i64 0, .slice none 0 0] 63)) = wd19 at *
          have HD6 : Hid (∀ g, (Value.ownBlock (.slice Awd2 es.length Cwd2)) = some g → g ≠ wd18.heap.size) := fun g hg => by have h1 := hltwd2 g hg; omega
          refine anyT_one (i := 7) (by kernel_rfl) rfl (fun K hK => ?_)
          have hlewd20 : wx3.heap.size ≤ wd19.heap.size := HBD.out.size
          refine step_src (by rfl) _ _ 38 (by rfl) wx3.heap.size 63 ti _ 6 80 Try.underlying38 HTI.out.1 HTI.out.2.1 HTI.out.2.2.1 HTI.out.2.2.2 rfl (by omega) (.slice Awd2 es.length Cwd2) es.length news (by first | rfl | (show Value.slice Awd2 (0 + es.length) Cwd2 = _; rw [Nat.zero_add])) HO.out (some ⟨wd18.heap.size, 0, none⟩) 1 1 [.int .i64 1, .int .i64 0, .slice none 0 0, .int .i64 2, .int .i64 0, .slice none 0 0] (by rfl) ⟨rfl, .inr ⟨_, rfl, World.news_of_block HN6.out⟩⟩ (by simp [Value.oneCell']) (by unfold maxLen; omega) (by omega) hlewd20 ?_
          intro A7 C7 wd20 hown hgrow hat
          have hswd20 : wd19.heap.size ≤ wd20.heap.size := hgrow.size
          replace HBD := Lib.hid (Below.grown HBD.out hgrow HBD.out.size (fun g hg => (HO.out.lt g hg).1))
          have HES : Hid (ESl wd20 0 wd20.heap.size A7 (es ++ [eAB])) := esl_more hown HSRC.out.1 (fun i x hx => by
            obtain ⟨a1, c1, a2, c2, h1, h2, h3⟩ := HNEWS.out i x hx
            exact ⟨a1, c1, a2, c2, h1, Sl.next h2 HBD.out, Sl.next h3 HBD.out⟩)
          replace HZ := Lib.hid (HZ.out.grown hgrow (fun e => HD14.out _ e rfl))
          clear HD14
          refine hK _ _ ⟨⟨_, HBD.out⟩, rfl⟩ ?_
          clear hK K hown hgrow hat HO HN6 HD6
          refine anyT_one (i := 10) (by kernel_rfl) rfl (fun K hK => ?_)
          go_simp
          have hcc := iProofEnd_any (es ++ [eAB]) A7 C7 s v a c k A2 C2 ls wd20 HES.out (by simp; omega) ((Ht.out.next HBD.out).sl) (HLS.out.next HBD.out) (by omega) HSM.out
          simp only [List.length_append, List.length_singleton] at hcc
          rw [HPM.out] at hcc
          have HCC := Lib.hid hcc
          clear hcc
          refine HCC.out.mono ?_
          rintro e wd21 ⟨ay, cy, s9, v9, k9, t9, hR, rfl, hb, hlx⟩
          simp only [ansR, Prod.mk.injEq] at hR
          obtain ⟨⟨rfl, rfl, rfl⟩, rfl⟩ := hR
          have HLX := Lib.hid hlx
          have hswd21 : wd20.heap.size ≤ wd21.heap.size := hb.size
          replace HZ := Lib.hid (HZ.out.low hb)
          replace HBD := Lib.hid (HBD.out.trans (hb.mono HBD.out.size))
          refine hK _ _ ⟨⟨_, HBD.out⟩, rfl⟩ ?_
          clear hK K hb hlx HCC HES
          refine anyT_look (i := 11) rfl (by kernel_rfl) ⟨⟨_, HBD.out⟩, rfl⟩ (fun K hK => ?_)
          go_simp
          refine hK _ ?_
          clear hK K
          refine anyT_look (i := 12) rfl (by kernel_rfl) ⟨⟨_, HBD.out⟩, rfl⟩ (fun K hK => ?_)
          go_simp
          refine hK _ ?_
          clear hK K
          refine anyT_look (i := 13) rfl (by kernel_rfl) ⟨⟨_, HBD.out⟩, rfl⟩ (fun K hK => ?_)
          go_simp
          refine hK _ ?_
          clear hK K
          refine anyT_one (i := 15) (by kernel_rfl) rfl (fun K hK => ?_)
          have hzz0 := HZ.out.z0
          have hzz1 := HZ.out.z1
          have hzz2 := HZ.out.z2
          have hzf0 := HZ.out.f 0
          have hzf1 := HZ.out.f 1
          have hzf2 := HZ.out.f 2
          have HFIN : Hid (Below wx3.heap.size wx3 (((wd21.setCell ⟨wd2.heap.size, 0, none⟩ (.int .i64 sw)).setCell ⟨wd2.heap.size, 1, none⟩ (.int .i64 vw)).setCell ⟨wd2.heap.size, 2, none⟩ (.slice ay (flen kw) cy)) ∧ Tb wd2.heap.size sw vw ay cy kw (((wd21.setCell ⟨wd2.heap.size, 0, none⟩ (.int .i64 sw)).setCell ⟨wd2.heap.size, 1, none⟩ (.int .i64 vw)).setCell ⟨wd2.heap.size, 2, none⟩ (.slice ay (flen kw) cy))) := zb_fin HZ.out HBD.out (by omega) HLX.out (by omega) (by omega)
          go_simp
          refine hK _ _ ⟨⟨_, HFIN.out.1⟩, rfl⟩ ?_
          clear hK K hzz0 hzz1 hzz2 hzf0 hzf1 hzf2
          refine anyT_one (i := 16) (by kernel_rfl) rfl (fun K hK => ?_)
          go_simp
          refine hK _ _ ⟨⟨_, HFIN.out.1⟩, rfl⟩ ?_
          clear hK K
          refine anyT_done (by kernel_rfl) ?_
          have HBE := Lib.hid HFIN.out.1
          have Hy := Lib.hid HFIN.out.2
          clear HFIN HZ HLX HBD
          generalize (((wd21.setCell ⟨wd2.heap.size, 0, none⟩ (.int .i64 sw)).setCell ⟨wd2.heap.size, 1, none⟩ (.int .i64 vw)).setCell ⟨wd2.heap.size, 2, none⟩ (.slice ay (flen kw) cy)) = we at *
          have Hlow' : Hid (Below w.heap.size w we) := below_next Hlow.out HBE.out
          have HE' : Hid (ESl we 0 we.heap.size A es) := HE.out.next HBE.out
          have HLS' : Hid (LSl we 0 we.heap.size A2 ls) := HLS.out.next HBE.out
          have Ht' : Hid (Tb wa.heap.size s v a c k we) := Ht.out.next HBE.out
          have Hw' : Hid (Tb wx1.heap.size sw vw aw cw kw we) := Hw.out.next HBE.out
          have Hx' : Hid (Tb wx2.heap.size sw vw ax cx kw we) := Hx.out.next HBE.out
          clear Hlow HE HLS Ht Hw Hx
          have Hlow := Hlow'
          clear Hlow'
          have HE := HE'
          clear HE'
          have HLS := HLS'
          clear HLS'
          have Ht := Ht'
          clear Ht'
          have Hw := Hw'
          clear Hw'
          have Hx := Hx'
          clear Hx'
          clear HBE
          have qy0 := Hy.out.c0
          have qy1 := Hy.out.c1
          have qy2 := Hy.out.c2
          have qx0 := Hx.out.c0
          have qx1 := Hx.out.c1
          have qx2 := Hx.out.c2
          go_wp2_with fail
          with_reducible refine (laTerm_same (fsz kw) sw vw ay ax cy cx kw _ Hy.out.sl Hx.out.sl (Nat.le_refl _) (by omega)).mono ?_
          rintro e wx4 ⟨rfl, hb⟩
          clear qy0 qy1 qy2 qx0 qx1 qx2
          have Hlow' : Hid (Below w.heap.size w wx4) := below_next Hlow.out hb
          have HE' : Hid (ESl wx4 0 wx4.heap.size A es) := HE.out.next hb
          have HLS' : Hid (LSl wx4 0 wx4.heap.size A2 ls) := HLS.out.next hb
          have Ht' : Hid (Tb wa.heap.size s v a c k wx4) := Ht.out.next hb
          have Hw' : Hid (Tb wx1.heap.size sw vw aw cw kw wx4) := Hw.out.next hb
          have Hx' : Hid (Tb wx2.heap.size sw vw ax cx kw wx4) := Hx.out.next hb
          have Hy' : Hid (Tb wd2.heap.size sw vw ay cy kw wx4) := Hy.out.next hb
          clear Hlow HE HLS Ht Hw Hx Hy
          have Hlow := Hlow'
          clear Hlow'
          have HE := HE'
          clear HE'
          have HLS := HLS'
          clear HLS'
          have Ht := Ht'
          clear Ht'
          have Hw := Hw'
          clear Hw'
          have Hx := Hx'
          clear Hx'
          have Hy := Hy'
          clear Hy'
          clear hb
          go_wp2_with fail
          go_ret
          exact ⟨rfl, Hlow.out⟩
      · go_simp
        have hlewd24 : wx3.heap.size ≤ wd1.heap.size := HBD.out.size
        have hbe : Below wd1.heap.size wd1 (wd1.alloc (.cells #[.int .i64 1, .int .i64 0, .slice none 0 0, .int .i64 2, .int .i64 0, .slice none 0 0] 63)) := box_low _ _
        have hswd24 : wd1.heap.size < (wd1.alloc (.cells #[.int .i64 1, .int .i64 0, .slice none 0 0, .int .i64 2, .int .i64 0, .slice none 0 0] 63)).heap.size := by simp
        replace HO := Lib.hid (own_low hbe HO.out)
        have HN6 := Lib.hid (heap_alloc_new wd1 (.cells #[.int .i64 1, .int .i64 0, .slice none 0 0, .int .i64 2, .int .i64 0, .slice none 0 0] 63))
        replace HBD := Lib.hid (HBD.out.trans (hbe.mono HBD.out.size))
        refine hK _ _ ⟨⟨_, HBD.out⟩, rfl⟩ ?_
        clear hK K hbe
        generalize (wd1.alloc (.cells #[.int .i64 1, .int .i64 0, .slice none 0 0, .int .i64 2, .int .i64 0, .slice none 0 0] 63)) = wd24 at *
        have HD6 : Hid (∀ g, (Value.ownBlock (.slice (some ⟨wd0.heap.size, 0, none⟩) 0 0)) = some g → g ≠ wd1.heap.size) := fun g hg => by have h1 := hltwd1 g hg; omega
        refine anyT_two (i := 2) (j := 14) (by kernel_rfl) rfl rfl (fun K hK => ?_) (fun K hK => ?_)
        · have hlewd25 : wx3.heap.size ≤ wd24.heap.size := HBD.out.size
          refine step_src (by rfl) _ _ 38 (by rfl) wx3.heap.size 63 ti _ 6 80 Try.underlying38 HTI.out.1 HTI.out.2.1 HTI.out.2.2.1 HTI.out.2.2.2 rfl (by omega) (.slice (some ⟨wd0.heap.size, 0, none⟩) 0 0) 0 [] (by rfl) HO.out A es.length C news (by rfl) (HSRC.out.low HBD.out) HONE.out (by unfold maxLen; omega) (by omega) hlewd25 ?_
          intro Awd25 Cwd25 wd25 hown hgrow hat
          have ho2 : wd25.ownsRow wx3.heap.size 63 6 (.slice Awd25 es.length Cwd25) es.length news := by simpa using hown
          have HO2 := Lib.hid ho2
          clear ho2
          have hswd25 : wd24.heap.size ≤ wd25.heap.size := hgrow.size
          replace HBD := Lib.hid (Below.grown HBD.out hgrow HBD.out.size (fun g hg => (HO.out.lt g hg).1))
          have hat2 : (Value.ownBlock (.slice Awd25 es.length Cwd25)) = (Value.ownBlock (.slice (some ⟨wd0.heap.size, 0, none⟩) 0 0)) ∨ (Value.ownBlock (.slice Awd25 es.length Cwd25)) = some wd24.heap.size := by rw [Nat.zero_add] at hat; exact hat
          replace HN6 := Lib.hid ((hgrow.block wd1.heap.size (by omega) (fun e => HD6.out _ e.symm rfl)).trans HN6.out)
          replace HD6 : Hid (∀ g, (Value.ownBlock (.slice Awd25 es.length Cwd25)) = some g → g ≠ wd1.heap.size) := fun g hg => by
            rcases hat2 with h | h
            · exact HD6.out g (h ▸ hg)
            · rw [h] at hg; simp only [Option.some.injEq] at hg; omega
          have HO := HO2
          clear HO2
          refine hK _ _ ⟨⟨_, HBD.out⟩, rfl⟩ ?_
          clear hK K hown hgrow hat hat2
          have hltwd25 : ∀ g, (Value.ownBlock (.slice Awd25 es.length Cwd25)) = some g → wx3.heap.size ≤ g ∧ g < wd25.heap.size := fun g hg => HO.out.lt g hg
          refine anyT_two (i := 7) (j := 14) (by kernel_rfl) rfl rfl (fun K hK => ?_) (fun K hK => ?_)
          · have hlewd26 : wx3.heap.size ≤ wd25.heap.size := HBD.out.size
            refine step_src (by rfl) _ _ 38 (by rfl) wx3.heap.size 63 ti _ 6 80 Try.underlying38 HTI.out.1 HTI.out.2.1 HTI.out.2.2.1 HTI.out.2.2.2 rfl (by omega) (.slice Awd25 es.length Cwd25) es.length news (by first | rfl | (show Value.slice Awd25 (0 + es.length) Cwd25 = _; rw [Nat.zero_add])) HO.out (some ⟨wd1.heap.size, 0, none⟩) 1 1 [.int .i64 1, .int .i64 0, .slice none 0 0, .int .i64 2, .int .i64 0, .slice none 0 0] (by rfl) ⟨rfl, .inr ⟨_, rfl, World.news_of_block HN6.out⟩⟩ (by simp [Value.oneCell']) (by unfold maxLen; omega) (by omega) hlewd26 ?_
            intro A7 C7 wd26 hown hgrow hat
            have hswd26 : wd25.heap.size ≤ wd26.heap.size := hgrow.size
            replace HBD := Lib.hid (Below.grown HBD.out hgrow HBD.out.size (fun g hg => (HO.out.lt g hg).1))
            have HES : Hid (ESl wd26 0 wd26.heap.size A7 (es ++ [eAB])) := esl_more hown HSRC.out.1 (fun i x hx => by
              obtain ⟨a1, c1, a2, c2, h1, h2, h3⟩ := HNEWS.out i x hx
              exact ⟨a1, c1, a2, c2, h1, Sl.next h2 HBD.out, Sl.next h3 HBD.out⟩)
            refine hK _ _ ⟨⟨_, HBD.out⟩, rfl⟩ ?_
            clear hK K hown hgrow hat HO HN6 HD6
            refine anyT_two (i := 10) (j := 14) (by kernel_rfl) rfl rfl (fun K hK => ?_) (fun K hK => ?_)
            · go_simp
              have hcc := iProofEnd_any (es ++ [eAB]) A7 C7 s v a c k A2 C2 ls wd26 HES.out (by simp; omega) ((Ht.out.next HBD.out).sl) (HLS.out.next HBD.out) (by omega) HSM.out
              simp only [List.length_append, List.length_singleton] at hcc
              rw [HPM.out] at hcc
              have HCC := Lib.hid hcc
              clear hcc
              refine HCC.out.mono ?_
              rintro e wd27 ⟨ay, cy, s9, v9, k9, t9, hR, rfl, hb, hlx⟩
              simp only [ansR, Prod.mk.injEq] at hR
              obtain ⟨⟨rfl, rfl, rfl⟩, rfl⟩ := hR
              have HLX := Lib.hid hlx
              have hswd27 : wd26.heap.size ≤ wd27.heap.size := hb.size
              replace HBD := Lib.hid (HBD.out.trans (hb.mono HBD.out.size))
              refine hK _ _ ⟨⟨_, HBD.out⟩, rfl⟩ ?_
              clear hK K hb hlx HCC HES
              refine anyT_look (i := 11) rfl (by kernel_rfl) ⟨⟨_, HBD.out⟩, rfl⟩ (fun K hK => ?_)
              go_simp
              refine hK _ ?_
              clear hK K
              refine anyT_look (i := 12) rfl (by kernel_rfl) ⟨⟨_, HBD.out⟩, rfl⟩ (fun K hK => ?_)
              go_simp
              refine hK _ ?_
              clear hK K
              refine anyT_look (i := 13) rfl (by kernel_rfl) ⟨⟨_, HBD.out⟩, rfl⟩ (fun K hK => ?_)
              go_simp
              refine hK _ ?_
              clear hK K
              refine anyT_one (i := 14) (by kernel_rfl) rfl (fun K hK => ?_)
              go_simp
              have hlewd28 : wx3.heap.size ≤ wd27.heap.size := HBD.out.size
              have hbe : Below wd27.heap.size wd27 (wd27.alloc (.cells #[.int .i64 0, .int .i64 0, .slice none 0 0] 35)) := box_low _ _
              have hswd28 : wd27.heap.size < (wd27.alloc (.cells #[.int .i64 0, .int .i64 0, .slice none 0 0] 35)).heap.size := by simp
              have HZ := Lib.hid (zb_new wd27)
              replace HLX := Lib.hid (HLX.out.same (Same.of_below (hbe.mono (by omega))))
              replace HBD := Lib.hid (HBD.out.trans (hbe.mono HBD.out.size))
              refine hK _ _ ⟨⟨_, HBD.out⟩, rfl⟩ ?_
              clear hK K hbe
              generalize (wd27.alloc (.cells #[.int .i64 0, .int .i64 0, .slice none 0 0] 35)) = wd28 at *
              refine anyT_one (i := 15) (by kernel_rfl) rfl (fun K hK => ?_)
              have hzz0 := HZ.out.z0
              have hzz1 := HZ.out.z1
              have hzz2 := HZ.out.z2
              have hzf0 := HZ.out.f 0
              have hzf1 := HZ.out.f 1
              have hzf2 := HZ.out.f 2
              have HFIN : Hid (Below wx3.heap.size wx3 (((wd28.setCell ⟨wd27.heap.size, 0, none⟩ (.int .i64 sw)).setCell ⟨wd27.heap.size, 1, none⟩ (.int .i64 vw)).setCell ⟨wd27.heap.size, 2, none⟩ (.slice ay (flen kw) cy)) ∧ Tb wd27.heap.size sw vw ay cy kw (((wd28.setCell ⟨wd27.heap.size, 0, none⟩ (.int .i64 sw)).setCell ⟨wd27.heap.size, 1, none⟩ (.int .i64 vw)).setCell ⟨wd27.heap.size, 2, none⟩ (.slice ay (flen kw) cy))) := zb_fin HZ.out HBD.out (by omega) HLX.out (by omega) (by omega)
              go_simp
              refine hK _ _ ⟨⟨_, HFIN.out.1⟩, rfl⟩ ?_
              clear hK K hzz0 hzz1 hzz2 hzf0 hzf1 hzf2
              refine anyT_one (i := 16) (by kernel_rfl) rfl (fun K hK => ?_)
              go_simp
              refine hK _ _ ⟨⟨_, HFIN.out.1⟩, rfl⟩ ?_
              clear hK K
              refine anyT_done (by kernel_rfl) ?_
              have HBE := Lib.hid HFIN.out.1
              have Hy := Lib.hid HFIN.out.2
              clear HFIN HZ HLX HBD
              generalize (((wd28.setCell ⟨wd27.heap.size, 0, none⟩ (.int .i64 sw)).setCell ⟨wd27.heap.size, 1, none⟩ (.int .i64 vw)).setCell ⟨wd27.heap.size, 2, none⟩ (.slice ay (flen kw) cy)) = we at *
              have Hlow' : Hid (Below w.heap.size w we) := below_next Hlow.out HBE.out
              have HE' : Hid (ESl we 0 we.heap.size A es) := HE.out.next HBE.out
              have HLS' : Hid (LSl we 0 we.heap.size A2 ls) := HLS.out.next HBE.out
              have Ht' : Hid (Tb wa.heap.size s v a c k we) := Ht.out.next HBE.out
              have Hw' : Hid (Tb wx1.heap.size sw vw aw cw kw we) := Hw.out.next HBE.out
              have Hx' : Hid (Tb wx2.heap.size sw vw ax cx kw we) := Hx.out.next HBE.out
              clear Hlow HE HLS Ht Hw Hx
              have Hlow := Hlow'
              clear Hlow'
              have HE := HE'
              clear HE'
              have HLS := HLS'
              clear HLS'
              have Ht := Ht'
              clear Ht'
              have Hw := Hw'
              clear Hw'
              have Hx := Hx'
              clear Hx'
              clear HBE
              have qy0 := Hy.out.c0
              have qy1 := Hy.out.c1
              have qy2 := Hy.out.c2
              have qx0 := Hx.out.c0
              have qx1 := Hx.out.c1
              have qx2 := Hx.out.c2
              go_wp2_with fail
              with_reducible refine (laTerm_same (fsz kw) sw vw ay ax cy cx kw _ Hy.out.sl Hx.out.sl (Nat.le_refl _) (by omega)).mono ?_
              rintro e wx4 ⟨rfl, hb⟩
              clear qy0 qy1 qy2 qx0 qx1 qx2
              have Hlow' : Hid (Below w.heap.size w wx4) := below_next Hlow.out hb
              have HE' : Hid (ESl wx4 0 wx4.heap.size A es) := HE.out.next hb
              have HLS' : Hid (LSl wx4 0 wx4.heap.size A2 ls) := HLS.out.next hb
              have Ht' : Hid (Tb wa.heap.size s v a c k wx4) := Ht.out.next hb
              have Hw' : Hid (Tb wx1.heap.size sw vw aw cw kw wx4) := Hw.out.next hb
              have Hx' : Hid (Tb wx2.heap.size sw vw ax cx kw wx4) := Hx.out.next hb
              have Hy' : Hid (Tb wd27.heap.size sw vw ay cy kw wx4) := Hy.out.next hb
              clear Hlow HE HLS Ht Hw Hx Hy
              have Hlow := Hlow'
              clear Hlow'
              have HE := HE'
              clear HE'
              have HLS := HLS'
              clear HLS'
              have Ht := Ht'
              clear Ht'
              have Hw := Hw'
              clear Hw'
              have Hx := Hx'
              clear Hx'
              have Hy := Hy'
              clear Hy'
              clear hb
              go_wp2_with fail
              go_ret
              exact ⟨rfl, Hlow.out⟩
            · go_simp
              have hlewd31 : wx3.heap.size ≤ wd26.heap.size := HBD.out.size
              have hbe : Below wd26.heap.size wd26 (wd26.alloc (.cells #[.int .i64 0, .int .i64 0, .slice none 0 0] 35)) := box_low _ _
              have hswd31 : wd26.heap.size < (wd26.alloc (.cells #[.int .i64 0, .int .i64 0, .slice none 0 0] 35)).heap.size := by simp
              have HZ := Lib.hid (zb_new wd26)
              replace HES := Lib.hid (HES.out.next hbe)
              replace HBD := Lib.hid (HBD.out.trans (hbe.mono HBD.out.size))
              refine hK _ _ ⟨⟨_, HBD.out⟩, rfl⟩ ?_
              clear hK K hbe
              generalize (wd26.alloc (.cells #[.int .i64 0, .int .i64 0, .slice none 0 0] 35)) = wd31 at *
              refine anyT_one (i := 10) (by kernel_rfl) rfl (fun K hK => ?_)
              go_simp
              have hcc := iProofEnd_any (es ++ [eAB]) A7 C7 s v a c k A2 C2 ls wd31 HES.out (by simp; omega) ((Ht.out.next HBD.out).sl) (HLS.out.next HBD.out) (by omega) HSM.out
              simp only [List.length_append, List.length_singleton] at hcc
              rw [HPM.out] at hcc
              have HCC := Lib.hid hcc
              clear hcc
              refine HCC.out.mono ?_
              rintro e wd32 ⟨ay, cy, s9, v9, k9, t9, hR, rfl, hb, hlx⟩
              simp only [ansR, Prod.mk.injEq] at hR
              obtain ⟨⟨rfl, rfl, rfl⟩, rfl⟩ := hR
              have HLX := Lib.hid hlx
              have hswd32 : wd31.heap.size ≤ wd32.heap.size := hb.size
              replace HZ := Lib.hid (HZ.out.low hb)
              replace HBD := Lib.hid (HBD.out.trans (hb.mono HBD.out.size))
              refine hK _ _ ⟨⟨_, HBD.out⟩, rfl⟩ ?_
              clear hK K hb hlx HCC HES
              refine anyT_look (i := 11) rfl (by kernel_rfl) ⟨⟨_, HBD.out⟩, rfl⟩ (fun K hK => ?_)
              go_simp
              refine hK _ ?_
              clear hK K
              refine anyT_look (i := 12) rfl (by kernel_rfl) ⟨⟨_, HBD.out⟩, rfl⟩ (fun K hK => ?_)
              go_simp
              refine hK _ ?_
              clear hK K
              refine anyT_look (i := 13) rfl (by kernel_rfl) ⟨⟨_, HBD.out⟩, rfl⟩ (fun K hK => ?_)
              go_simp
              refine hK _ ?_
              clear hK K
              refine anyT_one (i := 15) (by kernel_rfl) rfl (fun K hK => ?_)
              have hzz0 := HZ.out.z0
              have hzz1 := HZ.out.z1
              have hzz2 := HZ.out.z2
              have hzf0 := HZ.out.f 0
              have hzf1 := HZ.out.f 1
              have hzf2 := HZ.out.f 2
              have HFIN : Hid (Below wx3.heap.size wx3 (((wd32.setCell ⟨wd26.heap.size, 0, none⟩ (.int .i64 sw)).setCell ⟨wd26.heap.size, 1, none⟩ (.int .i64 vw)).setCell ⟨wd26.heap.size, 2, none⟩ (.slice ay (flen kw) cy)) ∧ Tb wd26.heap.size sw vw ay cy kw (((wd32.setCell ⟨wd26.heap.size, 0, none⟩ (.int .i64 sw)).setCell ⟨wd26.heap.size, 1, none⟩ (.int .i64 vw)).setCell ⟨wd26.heap.size, 2, none⟩ (.slice ay (flen kw) cy))) := zb_fin HZ.out HBD.out (by omega) HLX.out (by omega) (by omega)
              go_simp
              refine hK _ _ ⟨⟨_, HFIN.out.1⟩, rfl⟩ ?_
              clear hK K hzz0 hzz1 hzz2 hzf0 hzf1 hzf2
              refine anyT_one (i := 16) (by kernel_rfl) rfl (fun K hK => ?_)
              go_simp
              refine hK _ _ ⟨⟨_, HFIN.out.1⟩, rfl⟩ ?_
              clear hK K
              refine anyT_done (by kernel_rfl) ?_
              have HBE := Lib.hid HFIN.out.1
              have Hy := Lib.hid HFIN.out.2
              clear HFIN HZ HLX HBD
              generalize (((wd32.setCell ⟨wd26.heap.size, 0, none⟩ (.int .i64 sw)).setCell ⟨wd26.heap.size, 1, none⟩ (.int .i64 vw)).setCell ⟨wd26.heap.size, 2, none⟩ (.slice ay (flen kw) cy)) = we at *
              have Hlow' : Hid (Below w.heap.size w we) := below_next Hlow.out HBE.out
              have HE' : Hid (ESl we 0 we.heap.size A es) := HE.out.next HBE.out
              have HLS' : Hid (LSl we 0 we.heap.size A2 ls) := HLS.out.next HBE.out
              have Ht' : Hid (Tb wa.heap.size s v a c k we) := Ht.out.next HBE.out
              have Hw' : Hid (Tb wx1.heap.size sw vw aw cw kw we) := Hw.out.next HBE.out
              have Hx' : Hid (Tb wx2.heap.size sw vw ax cx kw we) := Hx.out.next HBE.out
              clear Hlow HE HLS Ht Hw Hx
              have Hlow := Hlow'
              clear Hlow'
              have HE := HE'
              clear HE'
              have HLS := HLS'
              clear HLS'
              have Ht := Ht'
              clear Ht'
              have Hw := Hw'
              clear Hw'
              have Hx := Hx'
              clear Hx'
              clear HBE
              have qy0 := Hy.out.c0
              have qy1 := Hy.out.c1
              have qy2 := Hy.out.c2
              have qx0 := Hx.out.c0
              have qx1 := Hx.out.c1
              have qx2 := Hx.out.c2
              go_wp2_with fail
              with_reducible refine (laTerm_same (fsz kw) sw vw ay ax cy cx kw _ Hy.out.sl Hx.out.sl (Nat.le_refl _) (by omega)).mono ?_
              rintro e wx4 ⟨rfl, hb⟩
              clear qy0 qy1 qy2 qx0 qx1 qx2
              have Hlow' : Hid (Below w.heap.size w wx4) := below_next Hlow.out hb
              have HE' : Hid (ESl wx4 0 wx4.heap.size A es) := HE.out.next hb
              have HLS' : Hid (LSl wx4 0 wx4.heap.size A2 ls) := HLS.out.next hb
              have Ht' : Hid (Tb wa.heap.size s v a c k wx4) := Ht.out.next hb
              have Hw' : Hid (Tb wx1.heap.size sw vw aw cw kw wx4) := Hw.out.next hb
              have Hx' : Hid (Tb wx2.heap.size sw vw ax cx kw wx4) := Hx.out.next hb
              have Hy' : Hid (Tb wd26.heap.size sw vw ay cy kw wx4) := Hy.out.next hb
              clear Hlow HE HLS Ht Hw Hx Hy
              have Hlow := Hlow'
              clear Hlow'
              have HE := HE'
              clear HE'
              have HLS := HLS'
              clear HLS'
              have Ht := Ht'
              clear Ht'
              have Hw := Hw'
              clear Hw'
              have Hx := Hx'
              clear Hx'
              have Hy := Hy'
              clear Hy'
              clear hb
              go_wp2_with fail
              go_ret
              exact ⟨rfl, Hlow.out⟩
          · go_simp
            have hlewd35 : wx3.heap.size ≤ wd25.heap.size := HBD.out.size
            have hbe : Below wd25.heap.size wd25 (wd25.alloc (.cells #[.int .i64 0, .int .i64 0, .slice none 0 0] 35)) := box_low _ _
            have hswd35 : wd25.heap.size < (wd25.alloc (.cells #[.int .i64 0, .int .i64 0, .slice none 0 0] 35)).heap.size := by simp
            replace HO := Lib.hid (own_low hbe HO.out)
            replace HN6 := Lib.hid ((hbe.block wd1.heap.size (by omega)).trans HN6.out)
            have HZ := Lib.hid (zb_new wd25)
            replace HBD := Lib.hid (HBD.out.trans (hbe.mono HBD.out.size))
            refine hK _ _ ⟨⟨_, HBD.out⟩, rfl⟩ ?_
            clear hK K hbe
            generalize (wd25.alloc (.cells #[.int .i64 0, .int .i64 0, .slice none 0 0] 35)) = wd35 at *
            have HD14 : Hid (∀ g, (Value.ownBlock (.slice Awd25 es.length Cwd25)) = some g → g ≠ wd25.heap.size) := fun g hg => by have h1 := hltwd25 g hg; omega
            refine anyT_one (i := 7) (by kernel_rfl) rfl (fun K hK => ?_)
            have hlewd36 : wx3.heap.size ≤ wd35.heap.size := HBD.out.size
            refine step_src (by rfl) _ _ 38 (by rfl) wx3.heap.size 63 ti _ 6 80 Try.underlying38 HTI.out.1 HTI.out.2.1 HTI.out.2.2.1 HTI.out.2.2.2 rfl (by omega) (.slice Awd25 es.length Cwd25) es.length news (by first | rfl | (show Value.slice Awd25 (0 + es.length) Cwd25 = _; rw [Nat.zero_add])) HO.out (some ⟨wd1.heap.size, 0, none⟩) 1 1 [.int .i64 1, .int .i64 0, .slice none 0 0, .int .i64 2, .int .i64 0, .slice none 0 0] (by rfl) ⟨rfl, .inr ⟨_, rfl, World.news_of_block HN6.out⟩⟩ (by simp [Value.oneCell']) (by unfold maxLen; omega) (by omega) hlewd36 ?_
            intro A7 C7 wd36 hown hgrow hat
            have hswd36 : wd35.heap.size ≤ wd36.heap.size := hgrow.size
            replace HBD := Lib.hid (Below.grown HBD.out hgrow HBD.out.size (fun g hg => (HO.out.lt g hg).1))
            have HES : Hid (ESl wd36 0 wd36.heap.size A7 (es ++ [eAB])) := esl_more hown HSRC.out.1 (fun i x hx => by
              obtain ⟨a1, c1, a2, c2, h1, h2, h3⟩ := HNEWS.out i x hx
              exact ⟨a1, c1, a2, c2, h1, Sl.next h2 HBD.out, Sl.next h3 HBD.out⟩)
            replace HZ := Lib.hid (HZ.out.grown hgrow (fun e => HD14.out _ e rfl))
            clear HD14
            refine hK _ _ ⟨⟨_, HBD.out⟩, rfl⟩ ?_
            clear hK K hown hgrow hat HO HN6 HD6
            refine anyT_one (i := 10) (by kernel_rfl) rfl (fun K hK => ?_)
            go_simp
            have hcc := iProofEnd_any (es ++ [eAB]) A7 C7 s v a c k A2 C2 ls wd36 HES.out (by simp; omega) ((Ht.out.next HBD.out).sl) (HLS.out.next HBD.out) (by omega) HSM.out
            simp only [List.length_append, List.length_singleton] at hcc
            rw [HPM.out] at hcc
            have HCC := Lib.hid hcc
            clear hcc
            refine HCC.out.mono ?_
            rintro e wd37 ⟨ay, cy, s9, v9, k9, t9, hR, rfl, hb, hlx⟩
            simp only [ansR, Prod.mk.injEq] at hR
            obtain ⟨⟨rfl, rfl, rfl⟩, rfl⟩ := hR
            have HLX := Lib.hid hlx
            have hswd37 : wd36.heap.size ≤ wd37.heap.size := hb.size
            replace HZ := Lib.hid (HZ.out.low hb)
            replace HBD := Lib.hid (HBD.out.trans (hb.mono HBD.out.size))
            refine hK _ _ ⟨⟨_, HBD.out⟩, rfl⟩ ?_
            clear hK K hb hlx HCC HES
            refine anyT_look (i := 11) rfl (by kernel_rfl) ⟨⟨_, HBD.out⟩, rfl⟩ (fun K hK => ?_)
            go_simp
            refine hK _ ?_
            clear hK K
            refine anyT_look (i := 12) rfl (by kernel_rfl) ⟨⟨_, HBD.out⟩, rfl⟩ (fun K hK => ?_)
            go_simp
            refine hK _ ?_
            clear hK K
            refine anyT_look (i := 13) rfl (by kernel_rfl) ⟨⟨_, HBD.out⟩, rfl⟩ (fun K hK => ?_)
            go_simp
            refine hK _ ?_
            clear hK K
            refine anyT_one (i := 15) (by kernel_rfl) rfl (fun K hK => ?_)
            have hzz0 := HZ.out.z0
            have hzz1 := HZ.out.z1
            have hzz2 := HZ.out.z2
            have hzf0 := HZ.out.f 0
            have hzf1 := HZ.out.f 1
            have hzf2 := HZ.out.f 2
            have HFIN : Hid (Below wx3.heap.size wx3 (((wd37.setCell ⟨wd25.heap.size, 0, none⟩ (.int .i64 sw)).setCell ⟨wd25.heap.size, 1, none⟩ (.int .i64 vw)).setCell ⟨wd25.heap.size, 2, none⟩ (.slice ay (flen kw) cy)) ∧ Tb wd25.heap.size sw vw ay cy kw (((wd37.setCell ⟨wd25.heap.size, 0, none⟩ (.int .i64 sw)).setCell ⟨wd25.heap.size, 1, none⟩ (.int .i64 vw)).setCell ⟨wd25.heap.size, 2, none⟩ (.slice ay (flen kw) cy))) := zb_fin HZ.out HBD.out (by omega) HLX.out (by omega) (by omega)
            go_simp
            refine hK _ _ ⟨⟨_, HFIN.out.1⟩, rfl⟩ ?_
            clear hK K hzz0 hzz1 hzz2 hzf0 hzf1 hzf2
            refine anyT_one (i := 16) (by kernel_rfl) rfl (fun K hK => ?_)
            go_simp
            refine hK _ _ ⟨⟨_, HFIN.out.1⟩, rfl⟩ ?_
            clear hK K
            refine anyT_done (by kernel_rfl) ?_
            have HBE := Lib.hid HFIN.out.1
            have Hy := Lib.hid HFIN.out.2
            clear HFIN HZ HLX HBD
            generalize (((wd37.setCell ⟨wd25.heap.size, 0, none⟩ (.int .i64 sw)).setCell ⟨wd25.heap.size, 1, none⟩ (.int .i64 vw)).setCell ⟨wd25.heap.size, 2, none⟩ (.slice ay (flen kw) cy)) = we at *
            have Hlow' : Hid (Below w.heap.size w we) := below_next Hlow.out HBE.out
            have HE' : Hid (ESl we 0 we.heap.size A es) := HE.out.next HBE.out
            have HLS' : Hid (LSl we 0 we.heap.size A2 ls) := HLS.out.next HBE.out
            have Ht' : Hid (Tb wa.heap.size s v a c k we) := Ht.out.next HBE.out
            have Hw' : Hid (Tb wx1.heap.size sw vw aw cw kw we) := Hw.out.next HBE.out
            have Hx' : Hid (Tb wx2.heap.size sw vw ax cx kw we) := Hx.out.next HBE.out
            clear Hlow HE HLS Ht Hw Hx
            have Hlow := Hlow'
            clear Hlow'
            have HE := HE'
            clear HE'
            have HLS := HLS'
            clear HLS'
            have Ht := Ht'
            clear Ht'
            have Hw := Hw'
            clear Hw'
            have Hx := Hx'
            clear Hx'
            clear HBE
            have qy0 := Hy.out.c0
            have qy1 := Hy.out.c1
            have qy2 := Hy.out.c2
            have qx0 := Hx.out.c0
            have qx1 := Hx.out.c1
            have qx2 := Hx.out.c2
            go_wp2_with fail
            with_reducible refine (laTerm_same (fsz kw) sw vw ay ax cy cx kw _ Hy.out.sl Hx.out.sl (Nat.le_refl _) (by omega)).mono ?_
            rintro e wx4 ⟨rfl, hb⟩
            clear qy0 qy1 qy2 qx0 qx1 qx2
            have Hlow' : Hid (Below w.heap.size w wx4) := below_next Hlow.out hb
            have HE' : Hid (ESl wx4 0 wx4.heap.size A es) := HE.out.next hb
            have HLS' : Hid (LSl wx4 0 wx4.heap.size A2 ls) := HLS.out.next hb
            have Ht' : Hid (Tb wa.heap.size s v a c k wx4) := Ht.out.next hb
            have Hw' : Hid (Tb wx1.heap.size sw vw aw cw kw wx4) := Hw.out.next hb
            have Hx' : Hid (Tb wx2.heap.size sw vw ax cx kw wx4) := Hx.out.next hb
            have Hy' : Hid (Tb wd25.heap.size sw vw ay cy kw wx4) := Hy.out.next hb
            clear Hlow HE HLS Ht Hw Hx Hy
            have Hlow := Hlow'
            clear Hlow'
            have HE := HE'
            clear HE'
            have HLS := HLS'
            clear HLS'
            have Ht := Ht'
            clear Ht'
            have Hw := Hw'
            clear Hw'
            have Hx := Hx'
            clear Hx'
            have Hy := Hy'
            clear Hy'
            clear hb
            go_wp2_with fail
            go_ret
            exact ⟨rfl, Hlow.out⟩
        · go_simp
          have hlewd40 : wx3.heap.size ≤ wd24.heap.size := HBD.out.size
          have hbe : Below wd24.heap.size wd24 (wd24.alloc (.cells #[.int .i64 0, .int .i64 0, .slice none 0 0] 35)) := box_low _ _
          have hswd40 : wd24.heap.size < (wd24.alloc (.cells #[.int .i64 0, .int .i64 0, .slice none 0 0] 35)).heap.size := by simp
          replace HO := Lib.hid (own_low hbe HO.out)
          replace HN6 := Lib.hid ((hbe.block wd1.heap.size (by omega)).trans HN6.out)
          have HZ := Lib.hid (zb_new wd24)
          replace HBD := Lib.hid (HBD.out.trans (hbe.mono HBD.out.size))
          refine hK _ _ ⟨⟨_, HBD.out⟩, rfl⟩ ?_
          clear hK K hbe
          generalize (wd24.alloc (.cells #[.int .i64 0, .int .i64 0, .slice none 0 0] 35)) = wd40 at *
          have HD14 : Hid (∀ g, (Value.ownBlock (.slice (some ⟨wd0.heap.size, 0, none⟩) 0 0)) = some g → g ≠ wd24.heap.size) := fun g hg => by have h1 := hltwd1 g hg; omega
          refine anyT_one (i := 2) (by kernel_rfl) rfl (fun K hK => ?_)
          have hlewd41 : wx3.heap.size ≤ wd40.heap.size := HBD.out.size
          refine step_src (by rfl) _ _ 38 (by rfl) wx3.heap.size 63 ti _ 6 80 Try.underlying38 HTI.out.1 HTI.out.2.1 HTI.out.2.2.1 HTI.out.2.2.2 rfl (by omega) (.slice (some ⟨wd0.heap.size, 0, none⟩) 0 0) 0 [] (by rfl) HO.out A es.length C news (by rfl) (HSRC.out.low HBD.out) HONE.out (by unfold maxLen; omega) (by omega) hlewd41 ?_
          intro Awd41 Cwd41 wd41 hown hgrow hat
          have ho2 : wd41.ownsRow wx3.heap.size 63 6 (.slice Awd41 es.length Cwd41) es.length news := by simpa using hown
          have HO2 := Lib.hid ho2
          clear ho2
          have hswd41 : wd40.heap.size ≤ wd41.heap.size := hgrow.size
          replace HBD := Lib.hid (Below.grown HBD.out hgrow HBD.out.size (fun g hg => (HO.out.lt g hg).1))
          have hat2 : (Value.ownBlock (.slice Awd41 es.length Cwd41)) = (Value.ownBlock (.slice (some ⟨wd0.heap.size, 0, none⟩) 0 0)) ∨ (Value.ownBlock (.slice Awd41 es.length Cwd41)) = some wd40.heap.size := by rw [Nat.zero_add] at hat; exact hat
          replace HN6 := Lib.hid ((hgrow.block wd1.heap.size (by omega) (fun e => HD6.out _ e.symm rfl)).trans HN6.out)
          replace HZ := Lib.hid (HZ.out.grown hgrow (fun e => HD14.out _ e rfl))
          replace HD6 : Hid (∀ g, (Value.ownBlock (.slice Awd41 es.length Cwd41)) = some g → g ≠ wd1.heap.size) := fun g hg => by
            rcases hat2 with h | h
            · exact HD6.out g (h ▸ hg)
            · rw [h] at hg; simp only [Option.some.injEq] at hg; omega
          replace HD14 : Hid (∀ g, (Value.ownBlock (.slice Awd41 es.length Cwd41)) = some g → g ≠ wd24.heap.size) := fun g hg => by
            rcases hat2 with h | h
            · exact HD14.out g (h ▸ hg)
            · rw [h] at hg; simp only [Option.some.injEq] at hg; omega
          have HO := HO2
          clear HO2
          refine hK _ _ ⟨⟨_, HBD.out⟩, rfl⟩ ?_
          clear hK K hown hgrow hat hat2
          have hltwd41 : ∀ g, (Value.ownBlock (.slice Awd41 es.length Cwd41)) = some g → wx3.heap.size ≤ g ∧ g < wd41.heap.size := fun g hg => HO.out.lt g hg
          refine anyT_one (i := 7) (by kernel_rfl) rfl (fun K hK => ?_)
          have hlewd42 : wx3.heap.size ≤ wd41.heap.size := HBD.out.size
          refine step_src (by rfl) _ _ 38 (by rfl) wx3.heap.size 63 ti _ 6 80 Try.underlying38 HTI.out.1 HTI.out.2.1 HTI.out.2.2.1 HTI.out.2.2.2 rfl (by omega) (.slice Awd41 es.length Cwd41) es.length news (by first | rfl | (show Value.slice Awd41 (0 + es.length) Cwd41 = _; rw [Nat.zero_add])) HO.out (some ⟨wd1.heap.size, 0, none⟩) 1 1 [.int .i64 1, .int .i64 0, .slice none 0 0, .int .i64 2, .int .i64 0, .slice none 0 0] (by rfl) ⟨rfl, .inr ⟨_, rfl, World.news_of_block HN6.out⟩⟩ (by simp [Value.oneCell']) (by unfold maxLen; omega) (by omega) hlewd42 ?_
          intro A7 C7 wd42 hown hgrow hat
          have hswd42 : wd41.heap.size ≤ wd42.heap.size := hgrow.size
          replace HBD := Lib.hid (Below.grown HBD.out hgrow HBD.out.size (fun g hg => (HO.out.lt g hg).1))
          have HES : Hid (ESl wd42 0 wd42.heap.size A7 (es ++ [eAB])) := esl_more hown HSRC.out.1 (fun i x hx => by
            obtain ⟨a1, c1, a2, c2, h1, h2, h3⟩ := HNEWS.out i x hx
            exact ⟨a1, c1, a2, c2, h1, Sl.next h2 HBD.out, Sl.next h3 HBD.out⟩)
          replace HZ := Lib.hid (HZ.out.grown hgrow (fun e => HD14.out _ e rfl))
          clear HD14
          refine hK _ _ ⟨⟨_, HBD.out⟩, rfl⟩ ?_
          clear hK K hown hgrow hat HO HN6 HD6
          refine anyT_one (i := 10) (by kernel_rfl) rfl (fun K hK => ?_)
          go_simp
          have hcc := iProofEnd_any (es ++ [eAB]) A7 C7 s v a c k A2 C2 ls wd42 HES.out (by simp; omega) ((Ht.out.next HBD.out).sl) (HLS.out.next HBD.out) (by omega) HSM.out
          simp only [List.length_append, List.length_singleton] at hcc
          rw [HPM.out] at hcc
          have HCC := Lib.hid hcc
          clear hcc
          refine HCC.out.mono ?_
          rintro e wd43 ⟨ay, cy, s9, v9, k9, t9, hR, rfl, hb, hlx⟩
          simp only [ansR, Prod.mk.injEq] at hR
          obtain ⟨⟨rfl, rfl, rfl⟩, rfl⟩ := hR
          have HLX := Lib.hid hlx
          have hswd43 : wd42.heap.size ≤ wd43.heap.size := hb.size
          replace HZ := Lib.hid (HZ.out.low hb)
          replace HBD := Lib.hid (HBD.out.trans (hb.mono HBD.out.size))
          refine hK _ _ ⟨⟨_, HBD.out⟩, rfl⟩ ?_
          clear hK K hb hlx HCC HES
          refine anyT_look (i := 11) rfl (by kernel_rfl) ⟨⟨_, HBD.out⟩, rfl⟩ (fun K hK => ?_)
          go_simp
          refine hK _ ?_
          clear hK K
          refine anyT_look (i := 12) rfl (by kernel_rfl) ⟨⟨_, HBD.out⟩, rfl⟩ (fun K hK => ?_)
          go_simp
          refine hK _ ?_
          clear hK K
          refine anyT_look (i := 13) rfl (by kernel_rfl) ⟨⟨_, HBD.out⟩, rfl⟩ (fun K hK => ?_)
          go_simp
          refine hK _ ?_
          clear hK K
          refine anyT_one (i := 15) (by kernel_rfl) rfl (fun K hK => ?_)
          have hzz0 := HZ.out.z0
          have hzz1 := HZ.out.z1
          have hzz2 := HZ.out.z2
          have hzf0 := HZ.out.f 0
          have hzf1 := HZ.out.f 1
          have hzf2 := HZ.out.f 2
          have HFIN : Hid (Below wx3.heap.size wx3 (((wd43.setCell ⟨wd24.heap.size, 0, none⟩ (.int .i64 sw)).setCell ⟨wd24.heap.size, 1, none⟩ (.int .i64 vw)).setCell ⟨wd24.heap.size, 2, none⟩ (.slice ay (flen kw) cy)) ∧ Tb wd24.heap.size sw vw ay cy kw (((wd43.setCell ⟨wd24.heap.size, 0, none⟩ (.int .i64 sw)).setCell ⟨wd24.heap.size, 1, none⟩ (.int .i64 vw)).setCell ⟨wd24.heap.size, 2, none⟩ (.slice ay (flen kw) cy))) := zb_fin HZ.out HBD.out (by omega) HLX.out (by omega) (by omega)
          go_simp
          refine hK _ _ ⟨⟨_, HFIN.out.1⟩, rfl⟩ ?_
          clear hK K hzz0 hzz1 hzz2 hzf0 hzf1 hzf2
          refine anyT_one (i := 16) (by kernel_rfl) rfl (fun K hK => ?_)
          go_simp
          refine hK _ _ ⟨⟨_, HFIN.out.1⟩, rfl⟩ ?_
          clear hK K
          refine anyT_done (by kernel_rfl) ?_
          have HBE := Lib.hid HFIN.out.1
          have Hy := Lib.hid HFIN.out.2
          clear HFIN HZ HLX HBD
          generalize (((wd43.setCell ⟨wd24.heap.size, 0, none⟩ (.int .i64 sw)).setCell ⟨wd24.heap.size, 1, none⟩ (.int .i64 vw)).setCell ⟨wd24.heap.size, 2, none⟩ (.slice ay (flen kw) cy)) = we at *
          have Hlow' : Hid (Below w.heap.size w we) := below_next Hlow.out HBE.out
          have HE' : Hid (ESl we 0 we.heap.size A es) := HE.out.next HBE.out
          have HLS' : Hid (LSl we 0 we.heap.size A2 ls) := HLS.out.next HBE.out
          have Ht' : Hid (Tb wa.heap.size s v a c k we) := Ht.out.next HBE.out
          have Hw' : Hid (Tb wx1.heap.size sw vw aw cw kw we) := Hw.out.next HBE.out
          have Hx' : Hid (Tb wx2.heap.size sw vw ax cx kw we) := Hx.out.next HBE.out
          clear Hlow HE HLS Ht Hw Hx
          have Hlow := Hlow'
          clear Hlow'
          have HE := HE'
          clear HE'
          have HLS := HLS'
          clear HLS'
          have Ht := Ht'
          clear Ht'
          have Hw := Hw'
          clear Hw'
          have Hx := Hx'
          clear Hx'
          clear HBE
          have qy0 := Hy.out.c0
          have qy1 := Hy.out.c1
          have qy2 := Hy.out.c2
          have qx0 := Hx.out.c0
          have qx1 := Hx.out.c1
          have qx2 := Hx.out.c2
          go_wp2_with fail
          with_reducible refine (laTerm_same (fsz kw) sw vw ay ax cy cx kw _ Hy.out.sl Hx.out.sl (Nat.le_refl _) (by omega)).mono ?_
          rintro e wx4 ⟨rfl, hb⟩
          clear qy0 qy1 qy2 qx0 qx1 qx2
          have Hlow' : Hid (Below w.heap.size w wx4) := below_next Hlow.out hb
          have HE' : Hid (ESl wx4 0 wx4.heap.size A es) := HE.out.next hb
          have HLS' : Hid (LSl wx4 0 wx4.heap.size A2 ls) := HLS.out.next hb
          have Ht' : Hid (Tb wa.heap.size s v a c k wx4) := Ht.out.next hb
          have Hw' : Hid (Tb wx1.heap.size sw vw aw cw kw wx4) := Hw.out.next hb
          have Hx' : Hid (Tb wx2.heap.size sw vw ax cx kw wx4) := Hx.out.next hb
          have Hy' : Hid (Tb wd24.heap.size sw vw ay cy kw wx4) := Hy.out.next hb
          clear Hlow HE HLS Ht Hw Hx Hy
          have Hlow := Hlow'
          clear Hlow'
          have HE := HE'
          clear HE'
          have HLS := HLS'
          clear HLS'
          have Ht := Ht'
          clear Ht'
          have Hw := Hw'
          clear Hw'
          have Hx := Hx'
          clear Hx'
          have Hy := Hy'
          clear Hy'
          clear hb
          go_wp2_with fail
          go_ret
          exact ⟨rfl, Hlow.out⟩
      · go_simp
        have hlewd46 : wx3.heap.size ≤ wd1.heap.size := HBD.out.size
        have hbe : Below wd1.heap.size wd1 (wd1.alloc (.cells #[.int .i64 0, .int .i64 0, .slice none 0 0] 35)) := box_low _ _
        have hswd46 : wd1.heap.size < (wd1.alloc (.cells #[.int .i64 0, .int .i64 0, .slice none 0 0] 35)).heap.size := by simp
        replace HO := Lib.hid (own_low hbe HO.out)
        have HZ := Lib.hid (zb_new wd1)
        replace HBD := Lib.hid (HBD.out.trans (hbe.mono HBD.out.size))
        refine hK _ _ ⟨⟨_, HBD.out⟩, rfl⟩ ?_
        clear hK K hbe
        generalize (wd1.alloc (.cells #[.int .i64 0, .int .i64 0, .slice none 0 0] 35)) = wd46 at *
        have HD14 : Hid (∀ g, (Value.ownBlock (.slice (some ⟨wd0.heap.size, 0, none⟩) 0 0)) = some g → g ≠ wd1.heap.size) := fun g hg => by have h1 := hltwd1 g hg; omega
        refine anyT_two (i := 2) (j := 6) (by kernel_rfl) rfl rfl (fun K hK => ?_) (fun K hK => ?_)
        · have hlewd47 : wx3.heap.size ≤ wd46.heap.size := HBD.out.size
          refine step_src (by rfl) _ _ 38 (by rfl) wx3.heap.size 63 ti _ 6 80 Try.underlying38 HTI.out.1 HTI.out.2.1 HTI.out.2.2.1 HTI.out.2.2.2 rfl (by omega) (.slice (some ⟨wd0.heap.size, 0, none⟩) 0 0) 0 [] (by rfl) HO.out A es.length C news (by rfl) (HSRC.out.low HBD.out) HONE.out (by unfold maxLen; omega) (by omega) hlewd47 ?_
          intro Awd47 Cwd47 wd47 hown hgrow hat
          have ho2 : wd47.ownsRow wx3.heap.size 63 6 (.slice Awd47 es.length Cwd47) es.length news := by simpa using hown
          have HO2 := Lib.hid ho2
          clear ho2
          have hswd47 : wd46.heap.size ≤ wd47.heap.size := hgrow.size
          replace HBD := Lib.hid (Below.grown HBD.out hgrow HBD.out.size (fun g hg => (HO.out.lt g hg).1))
          have hat2 : (Value.ownBlock (.slice Awd47 es.length Cwd47)) = (Value.ownBlock (.slice (some ⟨wd0.heap.size, 0, none⟩) 0 0)) ∨ (Value.ownBlock (.slice Awd47 es.length Cwd47)) = some wd46.heap.size := by rw [Nat.zero_add] at hat; exact hat
          replace HZ := Lib.hid (HZ.out.grown hgrow (fun e => HD14.out _ e rfl))
          replace HD14 : Hid (∀ g, (Value.ownBlock (.slice Awd47 es.length Cwd47)) = some g → g ≠ wd1.heap.size) := fun g hg => by
            rcases hat2 with h | h
            · exact HD14.out g (h ▸ hg)
            · rw [h] at hg; simp only [Option.some.injEq] at hg; omega
          have HO := HO2
          clear HO2
          refine hK _ _ ⟨⟨_, HBD.out⟩, rfl⟩ ?_
          clear hK K hown hgrow hat hat2
          have hltwd47 : ∀ g, (Value.ownBlock (.slice Awd47 es.length Cwd47)) = some g → wx3.heap.size ≤ g ∧ g < wd47.heap.size := fun g hg => HO.out.lt g hg
          refine anyT_one (i := 6) (by kernel_rfl) rfl (fun K hK => ?_)
          go_simp
          have hlewd48 : wx3.heap.size ≤ wd47.heap.size := HBD.out.size
          have hbe : Below wd47.heap.size wd47 (wd47.alloc (.cells #[.int .i64 1, .int .i64 0, .slice none 0 0, .int .i64 2, .int .i64 0, .slice none 0 0] 63)) := box_low _ _
          have hswd48 : wd47.heap.size < (wd47.alloc (.cells #[.int .i64 1, .int .i64 0, .slice none 0 0, .int .i64 2, .int .i64 0, .slice none 0 0] 63)).heap.size := by simp
          replace HO := Lib.hid (own_low hbe HO.out)
          have HN6 := Lib.hid (heap_alloc_new wd47 (.cells #[.int .i64 1, .int .i64 0, .slice none 0 0, .int .i64 2, .int .i64 0, .slice none 0 0] 63))
          replace HZ := Lib.hid (HZ.out.low hbe)
          replace HBD := Lib.hid (HBD.out.trans (hbe.mono HBD.out.size))
          refine hK _ _ ⟨⟨_, HBD.out⟩, rfl⟩ ?_
          clear hK K hbe
          generalize (wd47.alloc (.cells #[.int .i64 1, .int .i64 0, .slice none 0 0, .int .i64 2, .int .i64 0, .slice none 0 0] 63)) = wd48 at *
          have HD6 : Hid (∀ g, (Value.ownBlock (.slice Awd47 es.length Cwd47)) = some g → g ≠ wd47.heap.size) := fun g hg => by have h1 := hltwd47 g hg; omega
          refine anyT_one (i := 7) (by kernel_rfl) rfl (fun K hK => ?_)
          have hlewd49 : wx3.heap.size ≤ wd48.heap.size := HBD.out.size
          refine step_src (by rfl) _ _ 38 (by rfl) wx3.heap.size 63 ti _ 6 80 Try.underlying38 HTI.out.1 HTI.out.2.1 HTI.out.2.2.1 HTI.out.2.2.2 rfl (by omega) (.slice Awd47 es.length Cwd47) es.length news (by first | rfl | (show Value.slice Awd47 (0 + es.length) Cwd47 = _; rw [Nat.zero_add])) HO.out (some ⟨wd47.heap.size, 0, none⟩) 1 1 [.int .i64 1, .int .i64 0, .slice none 0 0, .int .i64 2, .int .i64 0, .slice none 0 0] (by rfl) ⟨rfl, .inr ⟨_, rfl, World.news_of_block HN6.out⟩⟩ (by simp [Value.oneCell']) (by unfold maxLen; omega) (by omega) hlewd49 ?_
          intro A7 C7 wd49 hown hgrow hat
          have hswd49 : wd48.heap.size ≤ wd49.heap.size := hgrow.size
          replace HBD := Lib.hid (Below.grown HBD.out hgrow HBD.out.size (fun g hg => (HO.out.lt g hg).1))
          have HES : Hid (ESl wd49 0 wd49.heap.size A7 (es ++ [eAB])) := esl_more hown HSRC.out.1 (fun i x hx => by
            obtain ⟨a1, c1, a2, c2, h1, h2, h3⟩ := HNEWS.out i x hx
            exact ⟨a1, c1, a2, c2, h1, Sl.next h2 HBD.out, Sl.next h3 HBD.out⟩)
          replace HZ := Lib.hid (HZ.out.grown hgrow (fun e => HD14.out _ e rfl))
          clear HD14
          refine hK _ _ ⟨⟨_, HBD.out⟩, rfl⟩ ?_
          clear hK K hown hgrow hat HO HN6 HD6
          refine anyT_one (i := 10) (by kernel_rfl) rfl (fun K hK => ?_)
          go_simp
          have hcc := iProofEnd_any (es ++ [eAB]) A7 C7 s v a c k A2 C2 ls wd49 HES.out (by simp; omega) ((Ht.out.next HBD.out).sl) (HLS.out.next HBD.out) (by omega) HSM.out
          simp only [List.length_append, List.length_singleton] at hcc
          rw [HPM.out] at hcc
          have HCC := Lib.hid hcc
          clear hcc
          refine HCC.out.mono ?_
          rintro e wd50 ⟨ay, cy, s9, v9, k9, t9, hR, rfl, hb, hlx⟩
          simp only [ansR, Prod.mk.injEq] at hR
          obtain ⟨⟨rfl, rfl, rfl⟩, rfl⟩ := hR
          have HLX := Lib.hid hlx
          have hswd50 : wd49.heap.size ≤ wd50.heap.size := hb.size
          replace HZ := Lib.hid (HZ.out.low hb)
          replace HBD := Lib.hid (HBD.out.trans (hb.mono HBD.out.size))
          refine hK _ _ ⟨⟨_, HBD.out⟩, rfl⟩ ?_
          clear hK K hb hlx HCC HES
          refine anyT_look (i := 11) rfl (by kernel_rfl) ⟨⟨_, HBD.out⟩, rfl⟩ (fun K hK => ?_)
          go_simp
          refine hK _ ?_
          clear hK K
          refine anyT_look (i := 12) rfl (by kernel_rfl) ⟨⟨_, HBD.out⟩, rfl⟩ (fun K hK => ?_)
          go_simp
          refine hK _ ?_
          clear hK K
          refine anyT_look (i := 13) rfl (by kernel_rfl) ⟨⟨_, HBD.out⟩, rfl⟩ (fun K hK => ?_)
          go_simp
          refine hK _ ?_
          clear hK K
          refine anyT_one (i := 15) (by kernel_rfl) rfl (fun K hK => ?_)
          have hzz0 := HZ.out.z0
          have hzz1 := HZ.out.z1
          have hzz2 := HZ.out.z2
          have hzf0 := HZ.out.f 0
          have hzf1 := HZ.out.f 1
          have hzf2 := HZ.out.f 2
          have HFIN : Hid (Below wx3.heap.size wx3 (((wd50.setCell ⟨wd1.heap.size, 0, none⟩ (.int .i64 sw)).setCell ⟨wd1.heap.size, 1, none⟩ (.int .i64 vw)).setCell ⟨wd1.heap.size, 2, none⟩ (.slice ay (flen kw) cy)) ∧ Tb wd1.heap.size sw vw ay cy kw (((wd50.setCell ⟨wd1.heap.size, 0, none⟩ (.int .i64 sw)).setCell ⟨wd1.heap.size, 1, none⟩ (.int .i64 vw)).setCell ⟨wd1.heap.size, 2, none⟩ (.slice ay (flen kw) cy))) := zb_fin HZ.out HBD.out (by omega) HLX.out (by omega) (by omega)
          go_simp
          refine hK _ _ ⟨⟨_, HFIN.out.1⟩, rfl⟩ ?_
          clear hK K hzz0 hzz1 hzz2 hzf0 hzf1 hzf2
          refine anyT_one (i := 16) (by kernel_rfl) rfl (fun K hK => ?_)
          go_simp
          refine hK _ _ ⟨⟨_, HFIN.out.1⟩, rfl⟩ ?_
          clear hK K
          refine anyT_done (by kernel_rfl) ?_
          have HBE := Lib.hid HFIN.out.1
          have Hy := Lib.hid HFIN.out.2
          clear HFIN HZ HLX HBD
          generalize (((wd50.setCell ⟨wd1.heap.size, 0, none⟩ (.int .i64 sw)).setCell ⟨wd1.heap.size, 1, none⟩ (.int .i64 vw)).setCell ⟨wd1.heap.size, 2, none⟩ (.slice ay (flen kw) cy)) = we at *
          have Hlow' : Hid (Below w.heap.size w we) := below_next Hlow.out HBE.out
          have HE' : Hid (ESl we 0 we.heap.size A es) := HE.out.next HBE.out
          have HLS' : Hid (LSl we 0 we.heap.size A2 ls) := HLS.out.next HBE.out
          have Ht' : Hid (Tb wa.heap.size s v a c k we) := Ht.out.next HBE.out
          have Hw' : Hid (Tb wx1.heap.size sw vw aw cw kw we) := Hw.out.next HBE.out
          have Hx' : Hid (Tb wx2.heap.size sw vw ax cx kw we) := Hx.out.next HBE.out
          clear Hlow HE HLS Ht Hw Hx
          have Hlow := Hlow'
          clear Hlow'
          have HE := HE'
          clear HE'
          have HLS := HLS'
          clear HLS'
          have Ht := Ht'
          clear Ht'
          have Hw := Hw'
          clear Hw'
          have Hx := Hx'
          clear Hx'
          clear HBE
          have qy0 := Hy.out.c0
          have qy1 := Hy.out.c1
          have qy2 := Hy.out.c2
          have qx0 := Hx.out.c0
          have qx1 := Hx.out.c1
          have qx2 := Hx.out.c2
          go_wp2_with fail
          with_reducible refine (laTerm_same (fsz kw) sw vw ay ax cy cx kw _ Hy.out.sl Hx.out.sl (Nat.le_refl _) (by omega)).mono ?_
          rintro e wx4 ⟨rfl, hb⟩
          clear qy0 qy1 qy2 qx0 qx1 qx2
          have Hlow' : Hid (Below w.heap.size w wx4) := below_next Hlow.out hb
          have HE' : Hid (ESl wx4 0 wx4.heap.size A es) := HE.out.next hb
          have HLS' : Hid (LSl wx4 0 wx4.heap.size A2 ls) := HLS.out.next hb
          have Ht' : Hid (Tb wa.heap.size s v a c k wx4) := Ht.out.next hb
          have Hw' : Hid (Tb wx1.heap.size sw vw aw cw kw wx4) := Hw.out.next hb
          have Hx' : Hid (Tb wx2.heap.size sw vw ax cx kw wx4) := Hx.out.next hb
          have Hy' : Hid (Tb wd1.heap.size sw vw ay cy kw wx4) := Hy.out.next hb
          clear Hlow HE HLS Ht Hw Hx Hy
          have Hlow := Hlow'
          clear Hlow'
          have HE := HE'
          clear HE'
          have HLS := HLS'
          clear HLS'
          have Ht := Ht'
          clear Ht'
          have Hw := Hw'
          clear Hw'
          have Hx := Hx'
          clear Hx'
          have Hy := Hy'
          clear Hy'
          clear hb
          go_wp2_with fail
          go_ret
          exact ⟨rfl, Hlow.out⟩
        · go_simp
          have hlewd53 : wx3.heap.size ≤ wd46.heap.size := HBD.out.size
          have hbe : Below wd46.heap.size wd46 (wd46.alloc (.cells #[.int .i64 1, .int .i64 0, .slice none 0 0, .int .i64 2, .int .i64 0, .slice none 0 0] 63)) := box_low _ _
          have hswd53 : wd46.heap.size < (wd46.alloc (.cells #[.int .i64 1, .int .i64 0, .slice none 0 0, .int .i64 2, .int .i64 0, .slice none 0 0] 63)).heap.size := by simp
          replace HO := Lib.hid (own_low hbe HO.out)
          have HN6 := Lib.hid (heap_alloc_new wd46 (.cells #[.int .i64 1, .int .i64 0, .slice none 0 0, .int .i64 2, .int .i64 0, .slice none 0 0] 63))
          replace HZ := Lib.hid (HZ.out.low hbe)
          replace HBD := Lib.hid (HBD.out.trans (hbe.mono HBD.out.size))
          refine hK _ _ ⟨⟨_, HBD.out⟩, rfl⟩ ?_
          clear hK K hbe
          generalize (wd46.alloc (.cells #[.int .i64 1, .int .i64 0, .slice none 0 0, .int .i64 2, .int .i64 0, .slice none 0 0] 63)) = wd53 at *
          have HD6 : Hid (∀ g, (Value.ownBlock (.slice (some ⟨wd0.heap.size, 0, none⟩) 0 0)) = some g → g ≠ wd46.heap.size) := fun g hg => by have h1 := hltwd1 g hg; omega
          refine anyT_one (i := 2) (by kernel_rfl) rfl (fun K hK => ?_)
          have hlewd54 : wx3.heap.size ≤ wd53.heap.size := HBD.out.size
          refine step_src (by rfl) _ _ 38 (by rfl) wx3.heap.size 63 ti _ 6 80 Try.underlying38 HTI.out.1 HTI.out.2.1 HTI.out.2.2.1 HTI.out.2.2.2 rfl (by omega) (.slice (some ⟨wd0.heap.size, 0, none⟩) 0 0) 0 [] (by rfl) HO.out A es.length C news (by rfl) (HSRC.out.low HBD.out) HONE.out (by unfold maxLen; omega) (by omega) hlewd54 ?_
          intro Awd54 Cwd54 wd54 hown hgrow hat
          have ho2 : wd54.ownsRow wx3.heap.size 63 6 (.slice Awd54 es.length Cwd54) es.length news := by simpa using hown
          have HO2 := Lib.hid ho2
          clear ho2
          have hswd54 : wd53.heap.size ≤ wd54.heap.size := hgrow.size
          replace HBD := Lib.hid (Below.grown HBD.out hgrow HBD.out.size (fun g hg => (HO.out.lt g hg).1))
          have hat2 : (Value.ownBlock (.slice Awd54 es.length Cwd54)) = (Value.ownBlock (.slice (some ⟨wd0.heap.size, 0, none⟩) 0 0)) ∨ (Value.ownBlock (.slice Awd54 es.length Cwd54)) = some wd53.heap.size := by rw [Nat.zero_add] at hat; exact hat
          replace HN6 := Lib.hid ((hgrow.block wd46.heap.size (by omega) (fun e => HD6.out _ e.symm rfl)).trans HN6.out)
          replace HZ := Lib.hid (HZ.out.grown hgrow (fun e => HD14.out _ e rfl))
          replace HD6 : Hid (∀ g, (Value.ownBlock (.slice Awd54 es.length Cwd54)) = some g → g ≠ wd46.heap.size) := fun g hg => by
            rcases hat2 with h | h
            · exact HD6.out g (h ▸ hg)
            · rw [h] at hg; simp only [Option.some.injEq] at hg; omega
          replace HD14 : Hid (∀ g, (Value.ownBlock (.slice Awd54 es.length Cwd54)) = some g → g ≠ wd1.heap.size) := fun g hg => by
            rcases hat2 with h | h
            · exact HD14.out g (h ▸ hg)
            · rw [h] at hg; simp only [Option.some.injEq] at hg; omega
          have HO := HO2
          clear HO2
          refine hK _ _ ⟨⟨_, HBD.out⟩, rfl⟩ ?_
          clear hK K hown hgrow hat hat2
          have hltwd54 : ∀ g, (Value.ownBlock (.slice Awd54 es.length Cwd54)) = some g → wx3.heap.size ≤ g ∧ g < wd54.heap.size := fun g hg => HO.out.lt g hg
          refine anyT_one (i := 7) (by kernel_rfl) rfl (fun K hK => ?_)
          have hlewd55 : wx3.heap.size ≤ wd54.heap.size := HBD.out.size
          refine step_src (by rfl) _ _ 38 (by rfl) wx3.heap.size 63 ti _ 6 80 Try.underlying38 HTI.out.1 HTI.out.2.1 HTI.out.2.2.1 HTI.out.2.2.2 rfl (by omega) (.slice Awd54 es.length Cwd54) es.length news (by first | rfl | (show Value.slice Awd54 (0 + es.length) Cwd54 = _; rw [Nat.zero_add])) HO.out (some ⟨wd46.heap.size, 0, none⟩) 1 1 [.int .i64 1, .int .i64 0, .slice none 0 0, .int .i64 2, .int .i64 0, .slice none 0 0] (by rfl) ⟨rfl, .inr ⟨_, rfl, World.news_of_block HN6.out⟩⟩ (by simp [Value.oneCell']) (by unfold maxLen; omega) (by omega) hlewd55 ?_
          intro A7 C7 wd55 hown hgrow hat
          have hswd55 : wd54.heap.size ≤ wd55.heap.size := hgrow.size
          replace HBD := Lib.hid (Below.grown HBD.out hgrow HBD.out.size (fun g hg => (HO.out.lt g hg).1))
          have HES : Hid (ESl wd55 0 wd55.heap.size A7 (es ++ [eAB])) := esl_more hown HSRC.out.1 (fun i x hx => by
            obtain ⟨a1, c1, a2, c2, h1, h2, h3⟩ := HNEWS.out i x hx
            exact ⟨a1, c1, a2, c2, h1, Sl.next h2 HBD.out, Sl.next h3 HBD.out⟩)
          replace HZ := Lib.hid (HZ.out.grown hgrow (fun e => HD14.out _ e rfl))
          clear HD14
          refine hK _ _ ⟨⟨_, HBD.out⟩, rfl⟩ ?_
          clear hK K hown hgrow hat HO HN6 HD6
          refine anyT_one (i := 10) (by kernel_rfl) rfl (fun K hK => ?_)
          go_simp
          have hcc := iProofEnd_any (es ++ [eAB]) A7 C7 s v a c k A2 C2 ls wd55 HES.out (by simp; omega) ((Ht.out.next HBD.out).sl) (HLS.out.next HBD.out) (by omega) HSM.out
          simp only [List.length_append, List.length_singleton] at hcc
          rw [HPM.out] at hcc
          have HCC := Lib.hid hcc
          clear hcc
          refine HCC.out.mono ?_
          rintro e wd56 ⟨ay, cy, s9, v9, k9, t9, hR, rfl, hb, hlx⟩
          simp only [ansR, Prod.mk.injEq] at hR
          obtain ⟨⟨rfl, rfl, rfl⟩, rfl⟩ := hR
          have HLX := Lib.hid hlx
          have hswd56 : wd55.heap.size ≤ wd56.heap.size := hb.size
          replace HZ := Lib.hid (HZ.out.low hb)
          replace HBD := Lib.hid (HBD.out.trans (hb.mono HBD.out.size))
          refine hK _ _ ⟨⟨_, HBD.out⟩, rfl⟩ ?_
          clear hK K hb hlx HCC HES
          refine anyT_look (i := 11) rfl (by kernel_rfl) ⟨⟨_, HBD.out⟩, rfl⟩ (fun K hK => ?_)
          go_simp
          refine hK _ ?_
          clear hK K
          refine anyT_look (i := 12) rfl (by kernel_rfl) ⟨⟨_, HBD.out⟩, rfl⟩ (fun K hK => ?_)
          go_simp
          refine hK _ ?_
          clear hK K
          refine anyT_look (i := 13) rfl (by kernel_rfl) ⟨⟨_, HBD.out⟩, rfl⟩ (fun K hK => ?_)
          go_simp
          refine hK _ ?_
          clear hK K
          refine anyT_one (i := 15) (by kernel_rfl) rfl (fun K hK => ?_)
          have hzz0 := HZ.out.z0
          have hzz1 := HZ.out.z1
          have hzz2 := HZ.out.z2
          have hzf0 := HZ.out.f 0
          have hzf1 := HZ.out.f 1
          have hzf2 := HZ.out.f 2
          have HFIN : Hid (Below wx3.heap.size wx3 (((wd56.setCell ⟨wd1.heap.size, 0, none⟩ (.int .i64 sw)).setCell ⟨wd1.heap.size, 1, none⟩ (.int .i64 vw)).setCell ⟨wd1.heap.size, 2, none⟩ (.slice ay (flen kw) cy)) ∧ Tb wd1.heap.size sw vw ay cy kw (((wd56.setCell ⟨wd1.heap.size, 0, none⟩ (.int .i64 sw)).setCell ⟨wd1.heap.size, 1, none⟩ (.int .i64 vw)).setCell ⟨wd1.heap.size, 2, none⟩ (.slice ay (flen kw) cy))) := zb_fin HZ.out HBD.out (by omega) HLX.out (by omega) (by omega)
          go_simp
          refine hK _ _ ⟨⟨_, HFIN.out.1⟩, rfl⟩ ?_
          clear hK K hzz0 hzz1 hzz2 hzf0 hzf1 hzf2
          refine anyT_one (i := 16) (by kernel_rfl) rfl (fun K hK => ?_)
          go_simp
          refine hK _ _ ⟨⟨_, HFIN.out.1⟩, rfl⟩ ?_
          clear hK K
          refine anyT_done (by kernel_rfl) ?_
          have HBE := Lib.hid HFIN.out.1
          have Hy := Lib.hid HFIN.out.2
          clear HFIN HZ HLX HBD
          generalize (((wd56.setCell ⟨wd1.heap.size, 0, none⟩ (.int .i64 sw)).setCell ⟨wd1.heap.size, 1, none⟩ (.int .i64 vw)).setCell ⟨wd1.heap.size, 2, none⟩ (.slice ay (flen kw) cy)) = we at *
          have Hlow' : Hid (Below w.heap.size w we) := below_next Hlow.out HBE.out
          have HE' : Hid (ESl we 0 we.heap.size A es) := HE.out.next HBE.out
          have HLS' : Hid (LSl we 0 we.heap.size A2 ls) := HLS.out.next HBE.out
          have Ht' : Hid (Tb wa.heap.size s v a c k we) := Ht.out.next HBE.out
          have Hw' : Hid (Tb wx1.heap.size sw vw aw cw kw we) := Hw.out.next HBE.out
          have Hx' : Hid (Tb wx2.heap.size sw vw ax cx kw we) := Hx.out.next HBE.out
          clear Hlow HE HLS Ht Hw Hx
          have Hlow := Hlow'
          clear Hlow'
          have HE := HE'
          clear HE'
          have HLS := HLS'
          clear HLS'
          have Ht := Ht'
          clear Ht'
          have Hw := Hw'
          clear Hw'
          have Hx := Hx'
          clear Hx'
          clear HBE
          have qy0 := Hy.out.c0
          have qy1 := Hy.out.c1
          have qy2 := Hy.out.c2
          have qx0 := Hx.out.c0
          have qx1 := Hx.out.c1
          have qx2 := Hx.out.c2
          go_wp2_with fail
          with_reducible refine (laTerm_same (fsz kw) sw vw ay ax cy cx kw _ Hy.out.sl Hx.out.sl (Nat.le_refl _) (by omega)).mono ?_
          rintro e wx4 ⟨rfl, hb⟩
          clear qy0 qy1 qy2 qx0 qx1 qx2
          have Hlow' : Hid (Below w.heap.size w wx4) := below_next Hlow.out hb
          have HE' : Hid (ESl wx4 0 wx4.heap.size A es) := HE.out.next hb
          have HLS' : Hid (LSl wx4 0 wx4.heap.size A2 ls) := HLS.out.next hb
          have Ht' : Hid (Tb wa.heap.size s v a c k wx4) := Ht.out.next hb
          have Hw' : Hid (Tb wx1.heap.size sw vw aw cw kw wx4) := Hw.out.next hb
          have Hx' : Hid (Tb wx2.heap.size sw vw ax cx kw wx4) := Hx.out.next hb
          have Hy' : Hid (Tb wd1.heap.size sw vw ay cy kw wx4) := Hy.out.next hb
          clear Hlow HE HLS Ht Hw Hx Hy
          have Hlow := Hlow'
          clear Hlow'
          have HE := HE'
          clear HE'
          have HLS := HLS'
          clear HLS'
          have Ht := Ht'
          clear Ht'
          have Hw := Hw'
          clear Hw'
          have Hx := Hx'
          clear Hx'
          have Hy := Hy'
          clear Hy'
          clear hb
          go_wp2_with fail
          go_ret
          exact ⟨rfl, Hlow.out⟩
    · go_simp
      have hlewd59 : wx3.heap.size ≤ wd0.heap.size := HBD.out.size
      have hbe : Below wd0.heap.size wd0 (wd0.alloc (.cells #[.int .i64 1, .int .i64 0, .slice none 0 0, .int .i64 2, .int .i64 0, .slice none 0 0] 63)) := box_low _ _
      have hswd59 : wd0.heap.size < (wd0.alloc (.cells #[.int .i64 1, .int .i64 0, .slice none 0 0, .int .i64 2, .int .i64 0, .slice none 0 0] 63)).heap.size := by simp
      have HN6 := Lib.hid (heap_alloc_new wd0 (.cells #[.int .i64 1, .int .i64 0, .slice none 0 0, .int .i64 2, .int .i64 0, .slice none 0 0] 63))
      replace HBD := Lib.hid (HBD.out.trans (hbe.mono HBD.out.size))
      refine hK _ _ ⟨⟨_, HBD.out⟩, rfl⟩ ?_
      clear hK K hbe
      generalize (wd0.alloc (.cells #[.int .i64 1, .int .i64 0, .slice none 0 0, .int .i64 2, .int .i64 0, .slice none 0 0] 63)) = wd59 at *
      refine anyT_two (i := 0) (j := 14) (by kernel_rfl) rfl rfl (fun K hK => ?_) (fun K hK => ?_)
      · go_simp
        have hlewd60 : wx3.heap.size ≤ wd59.heap.size := HBD.out.size
        have hbe : Below wd59.heap.size wd59 (wd59.alloc (.cells #[] 63)) := box_low _ _
        have hswd60 : wd59.heap.size < (wd59.alloc (.cells #[] 63)).heap.size := by simp
        have HO : Hid ((wd59.alloc (.cells #[] 63)).ownsRow wx3.heap.size 63 6 (.slice (some ⟨wd59.heap.size, 0, none⟩) 0 0) 0 []) := own_emptyE hlewd60
        replace HN6 := Lib.hid ((hbe.block wd0.heap.size (by omega)).trans HN6.out)
        replace HBD := Lib.hid (HBD.out.trans (hbe.mono HBD.out.size))
        refine hK _ _ ⟨⟨_, HBD.out⟩, rfl⟩ ?_
        clear hK K hbe
        generalize (wd59.alloc (.cells #[] 63)) = wd60 at *
        have HD6 : Hid (∀ g, (Value.ownBlock (.slice (some ⟨wd59.heap.size, 0, none⟩) 0 0)) = some g → g ≠ wd0.heap.size) := fun g hg => by simp [Value.ownBlock] at hg; omega
        have hltwd60 : ∀ g, (Value.ownBlock (.slice (some ⟨wd59.heap.size, 0, none⟩) 0 0)) = some g → wx3.heap.size ≤ g ∧ g < wd60.heap.size := fun g hg => HO.out.lt g hg
        refine anyT_two (i := 2) (j := 14) (by kernel_rfl) rfl rfl (fun K hK => ?_) (fun K hK => ?_)
        · have hlewd61 : wx3.heap.size ≤ wd60.heap.size := HBD.out.size
          refine step_src (by rfl) _ _ 38 (by rfl) wx3.heap.size 63 ti _ 6 80 Try.underlying38 HTI.out.1 HTI.out.2.1 HTI.out.2.2.1 HTI.out.2.2.2 rfl (by omega) (.slice (some ⟨wd59.heap.size, 0, none⟩) 0 0) 0 [] (by rfl) HO.out A es.length C news (by rfl) (HSRC.out.low HBD.out) HONE.out (by unfold maxLen; omega) (by omega) hlewd61 ?_
          intro Awd61 Cwd61 wd61 hown hgrow hat
          have ho2 : wd61.ownsRow wx3.heap.size 63 6 (.slice Awd61 es.length Cwd61) es.length news := by simpa using hown
          have HO2 := Lib.hid ho2
          clear ho2
          have hswd61 : wd60.heap.size ≤ wd61.heap.size := hgrow.size
          replace HBD := Lib.hid (Below.grown HBD.out hgrow HBD.out.size (fun g hg => (HO.out.lt g hg).1))
          have hat2 : (Value.ownBlock (.slice Awd61 es.length Cwd61)) = (Value.ownBlock (.slice (some ⟨wd59.heap.size, 0, none⟩) 0 0)) ∨ (Value.ownBlock (.slice Awd61 es.length Cwd61)) = some wd60.heap.size := by rw [Nat.zero_add] at hat; exact hat
          replace HN6 := Lib.hid ((hgrow.block wd0.heap.size (by omega) (fun e => HD6.out _ e.symm rfl)).trans HN6.out)
          replace HD6 : Hid (∀ g, (Value.ownBlock (.slice Awd61 es.length Cwd61)) = some g → g ≠ wd0.heap.size) := fun g hg => by
            rcases hat2 with h | h
            · exact HD6.out g (h ▸ hg)
            · rw [h] at hg; simp only [Option.some.injEq] at hg; omega
          have HO := HO2
          clear HO2
          refine hK _ _ ⟨⟨_, HBD.out⟩, rfl⟩ ?_
          clear hK K hown hgrow hat hat2
          have hltwd61 : ∀ g, (Value.ownBlock (.slice Awd61 es.length Cwd61)) = some g → wx3.heap.size ≤ g ∧ g < wd61.heap.size := fun g hg => HO.out.lt g hg
          refine anyT_two (i := 7) (j := 14) (by kernel_rfl) rfl rfl (fun K hK => ?_) (fun K hK => ?_)
          · have hlewd62 : wx3.heap.size ≤ wd61.heap.size := HBD.out.size
            refine step_src (by rfl) _ _ 38 (by rfl) wx3.heap.size 63 ti _ 6 80 Try.underlying38 HTI.out.1 HTI.out.2.1 HTI.out.2.2.1 HTI.out.2.2.2 rfl (by omega) (.slice Awd61 es.length Cwd61) es.length news (by first | rfl | (show Value.slice Awd61 (0 + es.length) Cwd61 = _; rw [Nat.zero_add])) HO.out (some ⟨wd0.heap.size, 0, none⟩) 1 1 [.int .i64 1, .int .i64 0, .slice none 0 0, .int .i64 2, .int .i64 0, .slice none 0 0] (by rfl) ⟨rfl, .inr ⟨_, rfl, World.news_of_block HN6.out⟩⟩ (by simp [Value.oneCell']) (by unfold maxLen; omega) (by omega) hlewd62 ?_
            intro A7 C7 wd62 hown hgrow hat
            have hswd62 : wd61.heap.size ≤ wd62.heap.size := hgrow.size
            replace HBD := Lib.hid (Below.grown HBD.out hgrow HBD.out.size (fun g hg => (HO.out.lt g hg).1))
            have HES : Hid (ESl wd62 0 wd62.heap.size A7 (es ++ [eAB])) := esl_more hown HSRC.out.1 (fun i x hx => by
              obtain ⟨a1, c1, a2, c2, h1, h2, h3⟩ := HNEWS.out i x hx
              exact ⟨a1, c1, a2, c2, h1, Sl.next h2 HBD.out, Sl.next h3 HBD.out⟩)
            refine hK _ _ ⟨⟨_, HBD.out⟩, rfl⟩ ?_
            clear hK K hown hgrow hat HO HN6 HD6
            refine anyT_two (i := 10) (j := 14) (by kernel_rfl) rfl rfl (fun K hK => ?_) (fun K hK => ?_)
            · go_simp
              have hcc := iProofEnd_any (es ++ [eAB]) A7 C7 s v a c k A2 C2 ls wd62 HES.out (by simp; omega) ((Ht.out.next HBD.out).sl) (HLS.out.next HBD.out) (by omega) HSM.out
              simp only [List.length_append, List.length_singleton] at hcc
              rw [HPM.out] at hcc
              have HCC := Lib.hid hcc
              clear hcc
              refine HCC.out.mono ?_
              rintro e wd63 ⟨ay, cy, s9, v9, k9, t9, hR, rfl, hb, hlx⟩
              simp only [ansR, Prod.mk.injEq] at hR
              obtain ⟨⟨rfl, rfl, rfl⟩, rfl⟩ := hR
              have HLX := Lib.hid hlx
              have hswd63 : wd62.heap.size ≤ wd63.heap.size := hb.size
              replace HBD := Lib.hid (HBD.out.trans (hb.mono HBD.out.size))
              refine hK _ _ ⟨⟨_, HBD.out⟩, rfl⟩ ?_
              clear hK K hb hlx HCC HES
              refine anyT_look (i := 11) rfl (by kernel_rfl) ⟨⟨_, HBD.out⟩, rfl⟩ (fun K hK => ?_)
              go_simp
              refine hK _ ?_
              clear hK K
              refine anyT_look (i := 12) rfl (by kernel_rfl) ⟨⟨_, HBD.out⟩, rfl⟩ (fun K hK => ?_)
              go_simp
              refine hK _ ?_
              clear hK K
              refine anyT_look (i := 13) rfl (by kernel_rfl) ⟨⟨_, HBD.out⟩, rfl⟩ (fun K hK => ?_)
              go_simp
              refine hK _ ?_
              clear hK K
              refine anyT_one (i := 14) (by kernel_rfl) rfl (fun K hK => ?_)
              go_simp
              have hlewd64 : wx3.heap.size ≤ wd63.heap.size := HBD.out.size
              have hbe : Below wd63.heap.size wd63 (wd63.alloc (.cells #[.int .i64 0, .int .i64 0, .slice none 0 0] 35)) := box_low _ _
              have hswd64 : wd63.heap.size < (wd63.alloc (.cells #[.int .i64 0, .int .i64 0, .slice none 0 0] 35)).heap.size := by simp
              have HZ := Lib.hid (zb_new wd63)
              replace HLX := Lib.hid (HLX.out.same (Same.of_below (hbe.mono (by omega))))
              replace HBD := Lib.hid (HBD.out.trans (hbe.mono HBD.out.size))
              refine hK _ _ ⟨⟨_, HBD.out⟩, rfl⟩ ?_
              clear hK K hbe
              generalize (wd63.alloc (.cells #[.int .i64 0, .int .i64 0, .slice none 0 0] 35)) = wd64 at *
              refine anyT_one (i := 15) (by kernel_rfl) rfl (fun K hK => ?_)
              have hzz0 := HZ.out.z0
              have hzz1 := HZ.out.z1
              have hzz2 := HZ.out.z2
              have hzf0 := HZ.out.f 0
              have hzf1 := HZ.out.f 1
              have hzf2 := HZ.out.f 2
              have HFIN : Hid (Below wx3.heap.size wx3 (((wd64.setCell ⟨wd63.heap.size, 0, none⟩ (.int .i64 sw)).setCell ⟨wd63.heap.size, 1, none⟩ (.int .i64 vw)).setCell ⟨wd63.heap.size, 2, none⟩ (.slice ay (flen kw) cy)) ∧ Tb wd63.heap.size sw vw ay cy kw (((wd64.setCell ⟨wd63.heap.size, 0, none⟩ (.int .i64 sw)).setCell ⟨wd63.heap.size, 1, none⟩ (.int .i64 vw)).setCell ⟨wd63.heap.size, 2, none⟩ (.slice ay (flen kw) cy))) := zb_fin HZ.out HBD.out (by omega) HLX.out (by omega) (by omega)
              go_simp
              refine hK _ _ ⟨⟨_, HFIN.out.1⟩, rfl⟩ ?_
              clear hK K hzz0 hzz1 hzz2 hzf0 hzf1 hzf2
              refine anyT_one (i := 16) (by kernel_rfl) rfl (fun K hK => ?_)
              go_simp
              refine hK _ _ ⟨⟨_, HFIN.out.1⟩, rfl⟩ ?_
              clear hK K
              refine anyT_done (by kernel_rfl) ?_
              have HBE := Lib.hid HFIN.out.1
              have Hy := Lib.hid HFIN.out.2
              clear HFIN HZ HLX HBD
              generalize (((wd64.setCell ⟨wd63.heap.size, 0, none⟩ (.int .i64 sw)).setCell ⟨wd63.heap.size, 1, none⟩ (.int .i64 vw)).setCell ⟨wd63.heap.size, 2, none⟩ (.slice ay (flen kw) cy)) = we at *
              have Hlow' : Hid (Below w.heap.size w we) := below_next Hlow.out HBE.out
              have HE' : Hid (ESl we 0 we.heap.size A es) := HE.out.next HBE.out
              have HLS' : Hid (LSl we 0 we.heap.size A2 ls) := HLS.out.next HBE.out
              have Ht' : Hid (Tb wa.heap.size s v a c k we) := Ht.out.next HBE.out
              have Hw' : Hid (Tb wx1.heap.size sw vw aw cw kw we) := Hw.out.next HBE.out
              have Hx' : Hid (Tb wx2.heap.size sw vw ax cx kw we) := Hx.out.next HBE.out
              clear Hlow HE HLS Ht Hw Hx
              have Hlow := Hlow'
              clear Hlow'
              have HE := HE'
              clear HE'
              have HLS := HLS'
              clear HLS'
              have Ht := Ht'
              clear Ht'
              have Hw := Hw'
              clear Hw'
              have Hx := Hx'
              clear Hx'
              clear HBE
              have qy0 := Hy.out.c0
              have qy1 := Hy.out.c1
              have qy2 := Hy.out.c2
              have qx0 := Hx.out.c0
              have qx1 := Hx.out.c1
              have qx2 := Hx.out.c2
              go_wp2_with fail
              with_reducible refine (laTerm_same (fsz kw) sw vw ay ax cy cx kw _ Hy.out.sl Hx.out.sl (Nat.le_refl _) (by omega)).mono ?_
              rintro e wx4 ⟨rfl, hb⟩
              clear qy0 qy1 qy2 qx0 qx1 qx2
              have Hlow' : Hid (Below w.heap.size w wx4) := below_next Hlow.out hb
              have HE' : Hid (ESl wx4 0 wx4.heap.size A es) := HE.out.next hb
              have HLS' : Hid (LSl wx4 0 wx4.heap.size A2 ls) := HLS.out.next hb
              have Ht' : Hid (Tb wa.heap.size s v a c k wx4) := Ht.out.next hb
              have Hw' : Hid (Tb wx1.heap.size sw vw aw cw kw wx4) := Hw.out.next hb
              have Hx' : Hid (Tb wx2.heap.size sw vw ax cx kw wx4) := Hx.out.next hb
              have Hy' : Hid (Tb wd63.heap.size sw vw ay cy kw wx4) := Hy.out.next hb
              clear Hlow HE HLS Ht Hw Hx Hy
              have Hlow := Hlow'
              clear Hlow'
              have HE := HE'
              clear HE'
              have HLS := HLS'
              clear HLS'
              have Ht := Ht'
              clear Ht'
              have Hw := Hw'
              clear Hw'
              have Hx := Hx'
              clear Hx'
              have Hy := Hy'
              clear Hy'
              clear hb
              go_wp2_with fail
              go_ret
              exact ⟨rfl, Hlow.out⟩
            · go_simp
              have hlewd67 : wx3.heap.size ≤ wd62.heap.size := HBD.out.size
              have hbe : Below wd62.heap.size wd62 (wd62.alloc (.cells #[.int .i64 0, .int .i64 0, .slice none 0 0] 35)) := box_low _ _
              have hswd67 : wd62.heap.size < (wd62.alloc (.cells #[.int .i64 0, .int .i64 0, .slice none 0 0] 35)).heap.size := by simp
              have HZ := Lib.hid (zb_new wd62)
              replace HES := Lib.hid (HES.out.next hbe)
              replace HBD := Lib.hid (HBD.out.trans (hbe.mono HBD.out.size))
              refine hK _ _ ⟨⟨_, HBD.out⟩, rfl⟩ ?_
              clear hK K hbe
              generalize (wd62.alloc (.cells #[.int .i64 0, .int .i64 0, .slice none 0 0] 35)) = wd67 at *
              refine anyT_one (i := 10) (by kernel_rfl) rfl (fun K hK => ?_)
              go_simp
              have hcc := iProofEnd_any (es ++ [eAB]) A7 C7 s v a c k A2 C2 ls wd67 HES.out (by simp; omega) ((Ht.out.next HBD.out).sl) (HLS.out.next HBD.out) (by omega) HSM.out
              simp only [List.length_append, List.length_singleton] at hcc
              rw [HPM.out] at hcc
              have HCC := Lib.hid hcc
              clear hcc
              refine HCC.out.mono ?_
              rintro e wd68 ⟨ay, cy, s9, v9, k9, t9, hR, rfl, hb, hlx⟩
              simp only [ansR, Prod.mk.injEq] at hR
              obtain ⟨⟨rfl, rfl, rfl⟩, rfl⟩ := hR
              have HLX := Lib.hid hlx
              have hswd68 : wd67.heap.size ≤ wd68.heap.size := hb.size
              replace HZ := Lib.hid (HZ.out.low hb)
              replace HBD := Lib.hid (HBD.out.trans (hb.mono HBD.out.size))
              refine hK _ _ ⟨⟨_, HBD.out⟩, rfl⟩ ?_
              clear hK K hb hlx HCC HES
              refine anyT_look (i := 11) rfl (by kernel_rfl) ⟨⟨_, HBD.out⟩, rfl⟩ (fun K hK => ?_)
              go_simp
              refine hK _ ?_
              clear hK K
              refine anyT_look (i := 12) rfl (by kernel_rfl) ⟨⟨_, HBD.out⟩, rfl⟩ (fun K hK => ?_)
              go_simp
              refine hK _ ?_
              clear hK K
              refine anyT_look (i := 13) rfl (by kernel_rfl) ⟨⟨_, HBD.out⟩, rfl⟩ (fun K hK => ?_)
              go_simp
              refine hK _ ?_
              clear hK K
              refine anyT_one (i := 15) (by kernel_rfl) rfl (fun K hK => ?_)
              have hzz0 := HZ.out.z0
              have hzz1 := HZ.out.z1
              have hzz2 := HZ.out.z2
              have hzf0 := HZ.out.f 0
              have hzf1 := HZ.out.f 1
              have hzf2 := HZ.out.f 2
              have HFIN : Hid (Below wx3.heap.size wx3 (((wd68.setCell ⟨wd62.heap.size, 0, none⟩ (.int .i64 sw)).setCell ⟨wd62.heap.size, 1, none⟩ (.int .i64 vw)).setCell ⟨wd62.heap.size, 2, none⟩ (.slice ay (flen kw) cy)) ∧ Tb wd62.heap.size sw vw ay cy kw (((wd68.setCell ⟨wd62.heap.size, 0, none⟩ (.int .i64 sw)).setCell ⟨wd62.heap.size, 1, none⟩ (.int .i64 vw)).setCell ⟨wd62.heap.size, 2, none⟩ (.slice ay (flen kw) cy))) := zb_fin HZ.out HBD.out (by omega) HLX.out (by omega) (by omega)
              go_simp
              refine hK _ _ ⟨⟨_, HFIN.out.1⟩, rfl⟩ ?_
              clear hK K hzz0 hzz1 hzz2 hzf0 hzf1 hzf2
              refine anyT_one (i := 16) (by kernel_rfl) rfl (fun K hK => ?_)
              go_simp
              refine hK _ _ ⟨⟨_, HFIN.out.1⟩, rfl⟩ ?_
              clear hK K
              refine anyT_done (by kernel_rfl) ?_
              have HBE := Lib.hid HFIN.out.1
              have Hy := Lib.hid HFIN.out.2
              clear HFIN HZ HLX HBD
              generalize (((wd68.setCell ⟨wd62.heap.size, 0, none⟩ (.int .i64 sw)).setCell ⟨wd62.heap.size, 1, none⟩ (.int .i64 vw)).setCell ⟨wd62.heap.size, 2, none⟩ (.slice ay (flen kw) cy)) = we at *
              have Hlow' : Hid (Below w.heap.size w we) := below_next Hlow.out HBE.out
              have HE' : Hid (ESl we 0 we.heap.size A es) := HE.out.next HBE.out
              have HLS' : Hid (LSl we 0 we.heap.size A2 ls) := HLS.out.next HBE.out
              have Ht' : Hid (Tb wa.heap.size s v a c k we) := Ht.out.next HBE.out
              have Hw' : Hid (Tb wx1.heap.size sw vw aw cw kw we) := Hw.out.next HBE.out
              have Hx' : Hid (Tb wx2.heap.size sw vw ax cx kw we) := Hx.out.next HBE.out
              clear Hlow HE HLS Ht Hw Hx
              have Hlow := Hlow'
              clear Hlow'
              have HE := HE'
              clear HE'
              have HLS := HLS'
              clear HLS'
              have Ht := Ht'
              clear Ht'
              have Hw := Hw'
              clear Hw'
              have Hx := Hx'
              clear Hx'
              clear HBE
              have qy0 := Hy.out.c0
              have qy1 := Hy.out.c1
              have qy2 := Hy.out.c2
              have qx0 := Hx.out.c0
              have qx1 := Hx.out.c1
              have qx2 := Hx.out.c2
              go_wp2_with fail
              with_reducible refine (laTerm_same (fsz kw) sw vw ay ax cy cx kw _ Hy.out.sl Hx.out.sl (Nat.le_refl _) (by omega)).mono ?_
              rintro e wx4 ⟨rfl, hb⟩
              clear qy0 qy1 qy2 qx0 qx1 qx2
              have Hlow' : Hid (Below w.heap.size w wx4) := below_next Hlow.out hb
              have HE' : Hid (ESl wx4 0 wx4.heap.size A es) := HE.out.next hb
              have HLS' : Hid (LSl wx4 0 wx4.heap.size A2 ls) := HLS.out.next hb
              have Ht' : Hid (Tb wa.heap.size s v a c k wx4) := Ht.out.next hb
              have Hw' : Hid (Tb wx1.heap.size sw vw aw cw kw wx4) := Hw.out.next hb
              have Hx' : Hid (Tb wx2.heap.size sw vw ax cx kw wx4) := Hx.out.next hb
              have Hy' : Hid (Tb wd62.heap.size sw vw ay cy kw wx4) := Hy.out.next hb
              clear Hlow HE HLS Ht Hw Hx Hy
              have Hlow := Hlow'
              clear Hlow'
              have HE := HE'
              clear HE'
              have HLS := HLS'
              clear HLS'
              have Ht := Ht'
              clear Ht'
              have Hw := Hw'
              clear Hw'
              have Hx := Hx'
              clear Hx'
              have Hy := Hy'
              clear Hy'
              clear hb
              go_wp2_with fail
              go_ret
              exact ⟨rfl, Hlow.out⟩
          · go_simp
            have hlewd71 : wx3.heap.size ≤ wd61.heap.size := HBD.out.size
            have hbe : Below wd61.heap.size wd61 (wd61.alloc (.cells #[.int .i64 0, .int .i64 0, .slice none 0 0] 35)) := box_low _ _
            have hswd71 : wd61.heap.size < (wd61.alloc (.cells #[.int .i64 0, .int .i64 0, .slice none 0 0] 35)).heap.size := by simp
            replace HO := Lib.hid (own_low hbe HO.out)
            replace HN6 := Lib.hid ((hbe.block wd0.heap.size (by omega)).trans HN6.out)
            have HZ := Lib.hid (zb_new wd61)
            replace HBD := Lib.hid (HBD.out.trans (hbe.mono HBD.out.size))
            refine hK _ _ ⟨⟨_, HBD.out⟩, rfl⟩ ?_
            clear hK K hbe
            generalize (wd61.alloc (.cells #[.int .i64 0, .int .i64 0, .slice none 0 0] 35)) = wd71 at *
            have HD14 : Hid (∀ g, (Value.ownBlock (.slice Awd61 es.length Cwd61)) = some g → g ≠ wd61.heap.size) := fun g hg => by have h1 := hltwd61 g hg; omega
            refine anyT_one (i := 7) (by kernel_rfl) rfl (fun K hK => ?_)
            have hlewd72 : wx3.heap.size ≤ wd71.heap.size := HBD.out.size
            refine step_src (by rfl) _ _ 38 (by rfl) wx3.heap.size 63 ti _ 6 80 Try.underlying38 HTI.out.1 HTI.out.2.1 HTI.out.2.2.1 HTI.out.2.2.2 rfl (by omega) (.slice Awd61 es.length Cwd61) es.length news (by first | rfl | (show Value.slice Awd61 (0 + es.length) Cwd61 = _; rw [Nat.zero_add])) HO.out (some ⟨wd0.heap.size, 0, none⟩) 1 1 [.int .i64 1, .int .i64 0, .slice none 0 0, .int .i64 2, .int .i64 0, .slice none 0 0] (by rfl) ⟨rfl, .inr ⟨_, rfl, World.news_of_block HN6.out⟩⟩ (by simp [Value.oneCell']) (by unfold maxLen; omega) (by omega) hlewd72 ?_
            intro A7 C7 wd72 hown hgrow hat
            have hswd72 : wd71.heap.size ≤ wd72.heap.size := hgrow.size
            replace HBD := Lib.hid (Below.grown HBD.out hgrow HBD.out.size (fun g hg => (HO.out.lt g hg).1))
            have HES : Hid (ESl wd72 0 wd72.heap.size A7 (es ++ [eAB])) := esl_more hown HSRC.out.1 (fun i x hx => by
              obtain ⟨a1, c1, a2, c2, h1, h2, h3⟩ := HNEWS.out i x hx
              exact ⟨a1, c1, a2, c2, h1, Sl.next h2 HBD.out, Sl.next h3 HBD.out⟩)
            replace HZ := Lib.hid (HZ.out.grown hgrow (fun e => HD14.out _ e rfl))
            clear HD14
            refine hK _ _ ⟨⟨_, HBD.out⟩, rfl⟩ ?_
            clear hK K hown hgrow hat HO HN6 HD6
            refine anyT_one (i := 10) (by kernel_rfl) rfl (fun K hK => ?_)
            go_simp
            have hcc := iProofEnd_any (es ++ [eAB]) A7 C7 s v a c k A2 C2 ls wd72 HES.out (by simp; omega) ((Ht.out.next HBD.out).sl) (HLS.out.next HBD.out) (by omega) HSM.out
            simp only [List.length_append, List.length_singleton] at hcc
            rw [HPM.out] at hcc
            have HCC := Lib.hid hcc
            clear hcc
            refine HCC.out.mono ?_
            rintro e wd73 ⟨ay, cy, s9, v9, k9, t9, hR, rfl, hb, hlx⟩
            simp only [ansR, Prod.mk.injEq] at hR
            obtain ⟨⟨rfl, rfl, rfl⟩, rfl⟩ := hR
            have HLX := Lib.hid hlx
            have hswd73 : wd72.heap.size ≤ wd73.heap.size := hb.size
            replace HZ := Lib.hid (HZ.out.low hb)
            replace HBD := Lib.hid (HBD.out.trans (hb.mono HBD.out.size))
            refine hK _ _ ⟨⟨_, HBD.out⟩, rfl⟩ ?_
            clear hK K hb hlx HCC HES
            refine anyT_look (i := 11) rfl (by kernel_rfl) ⟨⟨_, HBD.out⟩, rfl⟩ (fun K hK => ?_)
            go_simp
            refine hK _ ?_
            clear hK K
            refine anyT_look (i := 12) rfl (by kernel_rfl) ⟨⟨_, HBD.out⟩, rfl⟩ (fun K hK => ?_)
            go_simp
            refine hK _ ?_
            clear hK K
            refine anyT_look (i := 13) rfl (by kernel_rfl) ⟨⟨_, HBD.out⟩, rfl⟩ (fun K hK => ?_)
            go_simp
            refine hK _ ?_
            clear hK K
            refine anyT_one (i := 15) (by kernel_rfl) rfl (fun K hK => ?_)
            have hzz0 := HZ.out.z0
            have hzz1 := HZ.out.z1
            have hzz2 := HZ.out.z2
            have hzf0 := HZ.out.f 0
            have hzf1 := HZ.out.f 1
            have hzf2 := HZ.out.f 2
            have HFIN : Hid (Below wx3.heap.size wx3 (((wd73.setCell ⟨wd61.heap.size, 0, none⟩ (.int .i64 sw)).setCell ⟨wd61.heap.size, 1, none⟩ (.int .i64 vw)).setCell ⟨wd61.heap.size, 2, none⟩ (.slice ay (flen kw) cy)) ∧ Tb wd61.heap.size sw vw ay cy kw (((wd73.setCell ⟨wd61.heap.size, 0, none⟩ (.int .i64 sw)).setCell ⟨wd61.heap.size, 1, none⟩ (.int .i64 vw)).setCell ⟨wd61.heap.size, 2, none⟩ (.slice ay (flen kw) cy))) := zb_fin HZ.out HBD.out (by omega) HLX.out (by omega) (by omega)
            go_simp
            refine hK _ _ ⟨⟨_, HFIN.out.1⟩, rfl⟩ ?_
            clear hK K hzz0 hzz1 hzz2 hzf0 hzf1 hzf2
            refine anyT_one (i := 16) (by kernel_rfl) rfl (fun K hK => ?_)
            go_simp
            refine hK _ _ ⟨⟨_, HFIN.out.1⟩, rfl⟩ ?_
            clear hK K
            refine anyT_done (by kernel_rfl) ?_
            have HBE := Lib.hid HFIN.out.1
            have Hy := Lib.hid HFIN.out.2
            clear HFIN HZ HLX HBD
            generalize (((wd73.setCell ⟨wd61.heap.size, 0, none⟩ (.int .i64 sw)).setCell ⟨wd61.heap.size, 1, none⟩ (.int .i64 vw)).setCell ⟨wd61.heap.size, 2, none⟩ (.slice ay (flen kw) cy)) = we at *
            have Hlow' : Hid (Below w.heap.size w we) := below_next Hlow.out HBE.out
            have HE' : Hid (ESl we 0 we.heap.size A es) := HE.out.next HBE.out
            have HLS' : Hid (LSl we 0 we.heap.size A2 ls) := HLS.out.next HBE.out
            have Ht' : Hid (Tb wa.heap.size s v a c k we) := Ht.out.next HBE.out
            have Hw' : Hid (Tb wx1.heap.size sw vw aw cw kw we) := Hw.out.next HBE.out
            have Hx' : Hid (Tb wx2.heap.size sw vw ax cx kw we) := Hx.out.next HBE.out
            clear Hlow HE HLS Ht Hw Hx
            have Hlow := Hlow'
            clear Hlow'
            have HE := HE'
            clear HE'
            have HLS := HLS'
            clear HLS'
            have Ht := Ht'
            clear Ht'
            have Hw := Hw'
            clear Hw'
            have Hx := Hx'
            clear Hx'
            clear HBE
            have qy0 := Hy.out.c0
            have qy1 := Hy.out.c1
            have qy2 := Hy.out.c2
            have qx0 := Hx.out.c0
            have qx1 := Hx.out.c1
            have qx2 := Hx.out.c2
            go_wp2_with fail
            with_reducible refine (laTerm_same (fsz kw) sw vw ay ax cy cx kw _ Hy.out.sl Hx.out.sl (Nat.le_refl _) (by omega)).mono ?_
            rintro e wx4 ⟨rfl, hb⟩
            clear qy0 qy1 qy2 qx0 qx1 qx2
            have Hlow' : Hid (Below w.heap.size w wx4) := below_next Hlow.out hb
            have HE' : Hid (ESl wx4 0 wx4.heap.size A es) := HE.out.next hb
            have HLS' : Hid (LSl wx4 0 wx4.heap.size A2 ls) := HLS.out.next hb
            have Ht' : Hid (Tb wa.heap.size s v a c k wx4) := Ht.out.next hb
            have Hw' : Hid (Tb wx1.heap.size sw vw aw cw kw wx4) := Hw.out.next hb
            have Hx' : Hid (Tb wx2.heap.size sw vw ax cx kw wx4) := Hx.out.next hb
            have Hy' : Hid (Tb wd61.heap.size sw vw ay cy kw wx4) := Hy.out.next hb
            clear Hlow HE HLS Ht Hw Hx Hy
            have Hlow := Hlow'
            clear Hlow'
            have HE := HE'
            clear HE'
            have HLS := HLS'
            clear HLS'
            have Ht := Ht'
            clear Ht'
            have Hw := Hw'
            clear Hw'
            have Hx := Hx'
            clear Hx'
            have Hy := Hy'
            clear Hy'
            clear hb
            go_wp2_with fail
            go_ret
            exact ⟨rfl, Hlow.out⟩
        · go_simp
          have hlewd76 : wx3.heap.size ≤ wd60.heap.size := HBD.out.size
          have hbe : Below wd60.heap.size wd60 (wd60.alloc (.cells #[.int .i64 0, .int .i64 0, .slice none 0 0] 35)) := box_low _ _
          have hswd76 : wd60.heap.size < (wd60.alloc (.cells #[.int .i64 0, .int .i64 0, .slice none 0 0] 35)).heap.size := by simp
          replace HO := Lib.hid (own_low hbe HO.out)
          replace HN6 := Lib.hid ((hbe.block wd0.heap.size (by omega)).trans HN6.out)
          have HZ := Lib.hid (zb_new wd60)
          replace HBD := Lib.hid (HBD.out.trans (hbe.mono HBD.out.size))
          refine hK _ _ ⟨⟨_, HBD.out⟩, rfl⟩ ?_
          clear hK K hbe
          generalize (wd60.alloc (.cells #[.int .i64 0, .int .i64 0, .slice none 0 0] 35)) = wd76 at *
          have HD14 : Hid (∀ g, (Value.ownBlock (.slice (some ⟨wd59.heap.size, 0, none⟩) 0 0)) = some g → g ≠ wd60.heap.size) := fun g hg => by have h1 := hltwd60 g hg; omega
          refine anyT_one (i := 2) (by kernel_rfl) rfl (fun K hK => ?_)
          have hlewd77 : wx3.heap.size ≤ wd76.heap.size := HBD.out.size
          refine step_src (by rfl) _ _ 38 (by rfl) wx3.heap.size 63 ti _ 6 80 Try.underlying38 HTI.out.1 HTI.out.2.1 HTI.out.2.2.1 HTI.out.2.2.2 rfl (by omega) (.slice (some ⟨wd59.heap.size, 0, none⟩) 0 0) 0 [] (by rfl) HO.out A es.length C news (by rfl) (HSRC.out.low HBD.out) HONE.out (by unfold maxLen; omega) (by omega) hlewd77 ?_
          intro Awd77 Cwd77 wd77 hown hgrow hat
          have ho2 : wd77.ownsRow wx3.heap.size 63 6 (.slice Awd77 es.length Cwd77) es.length news := by simpa using hown
          have HO2 := Lib.hid ho2
          clear ho2
          have hswd77 : wd76.heap.size ≤ wd77.heap.size := hgrow.size
          replace HBD := Lib.hid (Below.grown HBD.out hgrow HBD.out.size (fun g hg => (HO.out.lt g hg).1))
          have hat2 : (Value.ownBlock (.slice Awd77 es.length Cwd77)) = (Value.ownBlock (.slice (some ⟨wd59.heap.size, 0, none⟩) 0 0)) ∨ (Value.ownBlock (.slice Awd77 es.length Cwd77)) = some wd76.heap.size := by rw [Nat.zero_add] at hat; exact hat
          replace HN6 := Lib.hid ((hgrow.block wd0.heap.size (by omega) (fun e => HD6.out _ e.symm rfl)).trans HN6.out)
          replace HZ := Lib.hid (HZ.out.grown hgrow (fun e => HD14.out _ e rfl))
          replace HD6 : Hid (∀ g, (Value.ownBlock (.slice Awd77 es.length Cwd77)) = some g → g ≠ wd0.heap.size) := fun g hg => by
            rcases hat2 with h | h
            · exact HD6.out g (h ▸ hg)
            · rw [h] at hg; simp only [Option.some.injEq] at hg; omega
          replace HD14 : Hid (∀ g, (Value.ownBlock (.slice Awd77 es.length Cwd77)) = some g → g ≠ wd60.heap.size) := fun g hg => by
            rcases hat2 with h | h
            · exact HD14.out g (h ▸ hg)
            · rw [h] at hg; simp only [Option.some.injEq] at hg; omega
          have HO := HO2
          clear HO2
          refine hK _ _ ⟨⟨_, HBD.out⟩, rfl⟩ ?_
          clear hK K hown hgrow hat hat2
          have hltwd77 : ∀ g, (Value.ownBlock (.slice Awd77 es.length Cwd77)) = some g → wx3.heap.size ≤ g ∧ g < wd77.heap.size := fun g hg => HO.out.lt g hg
          refine anyT_one (i := 7) (by kernel_rfl) rfl (fun K hK => ?_)
          have hlewd78 : wx3.heap.size ≤ wd77.heap.size := HBD.out.size
          refine step_src (by rfl) _ _ 38 (by rfl) wx3.heap.size 63 ti _ 6 80 Try.underlying38 HTI.out.1 HTI.out.2.1 HTI.out.2.2.1 HTI.out.2.2.2 rfl (by omega) (.slice Awd77 es.length Cwd77) es.length news (by first | rfl | (show Value.slice Awd77 (0 + es.length) Cwd77 = _; rw [Nat.zero_add])) HO.out (some ⟨wd0.heap.size, 0, none⟩) 1 1 [.int .i64 1, .int .i64 0, .slice none 0 0, .int .i64 2, .int .i64 0, .slice none 0 0] (by rfl) ⟨rfl, .inr ⟨_, rfl, World.news_of_block HN6.out⟩⟩ (by simp [Value.oneCell']) (by unfold maxLen; omega) (by omega) hlewd78 ?_
          intro A7 C7 wd78 hown hgrow hat
          have hswd78 : wd77.heap.size ≤ wd78.heap.size := hgrow.size
          replace HBD := Lib.hid (Below.grown HBD.out hgrow HBD.out.size (fun g hg => (HO.out.lt g hg).1))
          have HES : Hid (ESl wd78 0 wd78.heap.size A7 (es ++ [eAB])) := esl_more hown HSRC.out.1 (fun i x hx => by
            obtain ⟨a1, c1, a2, c2, h1, h2, h3⟩ := HNEWS.out i x hx
            exact ⟨a1, c1, a2, c2, h1, Sl.next h2 HBD.out, Sl.next h3 HBD.out⟩)
          replace HZ := Lib.hid (HZ.out.grown hgrow (fun e => HD14.out _ e rfl))
          clear HD14
          refine hK _ _ ⟨⟨_, HBD.out⟩, rfl⟩ ?_
          clear hK K hown hgrow hat HO HN6 HD6
          refine anyT_one (i := 10) (by kernel_rfl) rfl (fun K hK => ?_)
          go_simp
          have hcc := iProofEnd_any (es ++ [eAB]) A7 C7 s v a c k A2 C2 ls wd78 HES.out (by simp; omega) ((Ht.out.next HBD.out).sl) (HLS.out.next HBD.out) (by omega) HSM.out
          simp only [List.length_append, List.length_singleton] at hcc
          rw [HPM.out] at hcc
          have HCC := Lib.hid hcc
          clear hcc
          refine HCC.out.mono ?_
          rintro e wd79 ⟨ay, cy, s9, v9, k9, t9, hR, rfl, hb, hlx⟩
          simp only [ansR, Prod.mk.injEq] at hR
          obtain ⟨⟨rfl, rfl, rfl⟩, rfl⟩ := hR
          have HLX := Lib.hid hlx
          have hswd79 : wd78.heap.size ≤ wd79.heap.size := hb.size
          replace HZ := Lib.hid (HZ.out.low hb)
          replace HBD := Lib.hid (HBD.out.trans (hb.mono HBD.out.size))
          refine hK _ _ ⟨⟨_, HBD.out⟩, rfl⟩ ?_
          clear hK K hb hlx HCC HES
          refine anyT_look (i := 11) rfl (by kernel_rfl) ⟨⟨_, HBD.out⟩, rfl⟩ (fun K hK => ?_)
          go_simp
          refine hK _ ?_
          clear hK K
          refine anyT_look (i := 12) rfl (by kernel_rfl) ⟨⟨_, HBD.out⟩, rfl⟩ (fun K hK => ?_)
          go_simp
          refine hK _ ?_
          clear hK K
          refine anyT_look (i := 13) rfl (by kernel_rfl) ⟨⟨_, HBD.out⟩, rfl⟩ (fun K hK => ?_)
          go_simp
          refine hK _ ?_
          clear hK K
          refine anyT_one (i := 15) (by kernel_rfl) rfl (fun K hK => ?_)
          have hzz0 := HZ.out.z0
          have hzz1 := HZ.out.z1
          have hzz2 := HZ.out.z2
          have hzf0 := HZ.out.f 0
          have hzf1 := HZ.out.f 1
          have hzf2 := HZ.out.f 2
          have HFIN : Hid (Below wx3.heap.size wx3 (((wd79.setCell ⟨wd60.heap.size, 0, none⟩ (.int .i64 sw)).setCell ⟨wd60.heap.size, 1, none⟩ (.int .i64 vw)).setCell ⟨wd60.heap.size, 2, none⟩ (.slice ay (flen kw) cy)) ∧ Tb wd60.heap.size sw vw ay cy kw (((wd79.setCell ⟨wd60.heap.size, 0, none⟩ (.int .i64 sw)).setCell ⟨wd60.heap.size, 1, none⟩ (.int .i64 vw)).setCell ⟨wd60.heap.size, 2, none⟩ (.slice ay (flen kw) cy))) := zb_fin HZ.out HBD.out (by omega) HLX.out (by omega) (by omega)
          go_simp
          refine hK _ _ ⟨⟨_, HFIN.out.1⟩, rfl⟩ ?_
          clear hK K hzz0 hzz1 hzz2 hzf0 hzf1 hzf2
          refine anyT_one (i := 16) (by kernel_rfl) rfl (fun K hK => ?_)
          go_simp
          refine hK _ _ ⟨⟨_, HFIN.out.1⟩, rfl⟩ ?_
          clear hK K
          refine anyT_done (by kernel_rfl) ?_
          have HBE := Lib.hid HFIN.out.1
          have Hy := Lib.hid HFIN.out.2
          clear HFIN HZ HLX HBD
          generalize (((wd79.setCell ⟨wd60.heap.size, 0, none⟩ (.int .i64 sw)).setCell ⟨wd60.heap.size, 1, none⟩ (.int .i64 vw)).setCell ⟨wd60.heap.size, 2, none⟩ (.slice ay (flen kw) cy)) = we at *
          have Hlow' : Hid (Below w.heap.size w we) := below_next Hlow.out HBE.out
          have HE' : Hid (ESl we 0 we.heap.size A es) := HE.out.next HBE.out
          have HLS' : Hid (LSl we 0 we.heap.size A2 ls) := HLS.out.next HBE.out
          have Ht' : Hid (Tb wa.heap.size s v a c k we) := Ht.out.next HBE.out
          have Hw' : Hid (Tb wx1.heap.size sw vw aw cw kw we) := Hw.out.next HBE.out
          have Hx' : Hid (Tb wx2.heap.size sw vw ax cx kw we) := Hx.out.next HBE.out
          clear Hlow HE HLS Ht Hw Hx
          have Hlow := Hlow'
          clear Hlow'
          have HE := HE'
          clear HE'
          have HLS := HLS'
          clear HLS'
          have Ht := Ht'
          clear Ht'
          have Hw := Hw'
          clear Hw'
          have Hx := Hx'
          clear Hx'
          clear HBE
          have qy0 := Hy.out.c0
          have qy1 := Hy.out.c1
          have qy2 := Hy.out.c2
          have qx0 := Hx.out.c0
          have qx1 := Hx.out.c1
          have qx2 := Hx.out.c2
          go_wp2_with fail
          with_reducible refine (laTerm_same (fsz kw) sw vw ay ax cy cx kw _ Hy.out.sl Hx.out.sl (Nat.le_refl _) (by omega)).mono ?_
          rintro e wx4 ⟨rfl, hb⟩
          clear qy0 qy1 qy2 qx0 qx1 qx2
          have Hlow' : Hid (Below w.heap.size w wx4) := below_next Hlow.out hb
          have HE' : Hid (ESl wx4 0 wx4.heap.size A es) := HE.out.next hb
          have HLS' : Hid (LSl wx4 0 wx4.heap.size A2 ls) := HLS.out.next hb
          have Ht' : Hid (Tb wa.heap.size s v a c k wx4) := Ht.out.next hb
          have Hw' : Hid (Tb wx1.heap.size sw vw aw cw kw wx4) := Hw.out.next hb
          have Hx' : Hid (Tb wx2.heap.size sw vw ax cx kw wx4) := Hx.out.next hb
          have Hy' : Hid (Tb wd60.heap.size sw vw ay cy kw wx4) := Hy.out.next hb
          clear Hlow HE HLS Ht Hw Hx Hy
          have Hlow := Hlow'
          clear Hlow'
          have HE := HE'
          clear HE'
          have HLS := HLS'
          clear HLS'
          have Ht := Ht'
          clear Ht'
          have Hw := Hw'
          clear Hw'
          have Hx := Hx'
          clear Hx'
          have Hy := Hy'
          clear Hy'
          clear hb
          go_wp2_with fail
          go_ret
          exact ⟨rfl, Hlow.out⟩
      · go_simp
        have hlewd82 : wx3.heap.size ≤ wd59.heap.size := HBD.out.size
        have hbe : Below wd59.heap.size wd59 (wd59.alloc (.cells #[.int .i64 0, .int .i64 0, .slice none 0 0] 35)) := box_low _ _
        have hswd82 : wd59.heap.size < (wd59.alloc (.cells #[.int .i64 0, .int .i64 0, .slice none 0 0] 35)).heap.size := by simp
        replace HN6 := Lib.hid ((hbe.block wd0.heap.size (by omega)).trans HN6.out)
        have HZ := Lib.hid (zb_new wd59)
        replace HBD := Lib.hid (HBD.out.trans (hbe.mono HBD.out.size))
        refine hK _ _ ⟨⟨_, HBD.out⟩, rfl⟩ ?_
        clear hK K hbe
        generalize (wd59.alloc (.cells #[.int .i64 0, .int .i64 0, .slice none 0 0] 35)) = wd82 at *
        refine anyT_one (i := 0) (by kernel_rfl) rfl (fun K hK => ?_)
        go_simp
        have hlewd83 : wx3.heap.size ≤ wd82.heap.size := HBD.out.size
        have hbe : Below wd82.heap.size wd82 (wd82.alloc (.cells #[] 63)) := box_low _ _
        have hswd83 : wd82.heap.size < (wd82.alloc (.cells #[] 63)).heap.size := by simp
        have HO : Hid ((wd82.alloc (.cells #[] 63)).ownsRow wx3.heap.size 63 6 (.slice (some ⟨wd82.heap.size, 0, none⟩) 0 0) 0 []) := own_emptyE hlewd83
        replace HN6 := Lib.hid ((hbe.block wd0.heap.size (by omega)).trans HN6.out)
        replace HZ := Lib.hid (HZ.out.low hbe)
        replace HBD := Lib.hid (HBD.out.trans (hbe.mono HBD.out.size))
        refine hK _ _ ⟨⟨_, HBD.out⟩, rfl⟩ ?_
        clear hK K hbe
        generalize (wd82.alloc (.cells #[] 63)) = wd83 at *
        have HD6 : Hid (∀ g, (Value.ownBlock (.slice (some ⟨wd82.heap.size, 0, none⟩) 0 0)) = some g → g ≠ wd0.heap.size) := fun g hg => by simp [Value.ownBlock] at hg; omega
        have HD14 : Hid (∀ g, (Value.ownBlock (.slice (some ⟨wd82.heap.size, 0, none⟩) 0 0)) = some g → g ≠ wd59.heap.size) := fun g hg => by simp [Value.ownBlock] at hg; omega
        have hltwd83 : ∀ g, (Value.ownBlock (.slice (some ⟨wd82.heap.size, 0, none⟩) 0 0)) = some g → wx3.heap.size ≤ g ∧ g < wd83.heap.size := fun g hg => HO.out.lt g hg
        refine anyT_one (i := 2) (by kernel_rfl) rfl (fun K hK => ?_)
        have hlewd84 : wx3.heap.size ≤ wd83.heap.size := HBD.out.size
        refine step_src (by rfl) _ _ 38 (by rfl) wx3.heap.size 63 ti _ 6 80 Try.underlying38 HTI.out.1 HTI.out.2.1 HTI.out.2.2.1 HTI.out.2.2.2 rfl (by omega) (.slice (some ⟨wd82.heap.size, 0, none⟩) 0 0) 0 [] (by rfl) HO.out A es.length C news (by rfl) (HSRC.out.low HBD.out) HONE.out (by unfold maxLen; omega) (by omega) hlewd84 ?_
        intro Awd84 Cwd84 wd84 hown hgrow hat
        have ho2 : wd84.ownsRow wx3.heap.size 63 6 (.slice Awd84 es.length Cwd84) es.length news := by simpa using hown
        have HO2 := Lib.hid ho2
        clear ho2
        have hswd84 : wd83.heap.size ≤ wd84.heap.size := hgrow.size
        replace HBD := Lib.hid (Below.grown HBD.out hgrow HBD.out.size (fun g hg => (HO.out.lt g hg).1))
        have hat2 : (Value.ownBlock (.slice Awd84 es.length Cwd84)) = (Value.ownBlock (.slice (some ⟨wd82.heap.size, 0, none⟩) 0 0)) ∨ (Value.ownBlock (.slice Awd84 es.length Cwd84)) = some wd83.heap.size := by rw [Nat.zero_add] at hat; exact hat
        replace HN6 := Lib.hid ((hgrow.block wd0.heap.size (by omega) (fun e => HD6.out _ e.symm rfl)).trans HN6.out)
        replace HZ := Lib.hid (HZ.out.grown hgrow (fun e => HD14.out _ e rfl))
        replace HD6 : Hid (∀ g, (Value.ownBlock (.slice Awd84 es.length Cwd84)) = some g → g ≠ wd0.heap.size) := fun g hg => by
          rcases hat2 with h | h
          · exact HD6.out g (h ▸ hg)
          · rw [h] at hg; simp only [Option.some.injEq] at hg; omega
        replace HD14 : Hid (∀ g, (Value.ownBlock (.slice Awd84 es.length Cwd84)) = some g → g ≠ wd59.heap.size) := fun g hg => by
          rcases hat2 with h | h
          · exact HD14.out g (h ▸ hg)
          · rw [h] at hg; simp only [Option.some.injEq] at hg; omega
        have HO := HO2
        clear HO2
        refine hK _ _ ⟨⟨_, HBD.out⟩, rfl⟩ ?_
        clear hK K hown hgrow hat hat2
        have hltwd84 : ∀ g, (Value.ownBlock (.slice Awd84 es.length Cwd84)) = some g → wx3.heap.size ≤ g ∧ g < wd84.heap.size := fun g hg => HO.out.lt g hg
        refine anyT_one (i := 7) (by kernel_rfl) rfl (fun K hK => ?_)
        have hlewd85 : wx3.heap.size ≤ wd84.heap.size := HBD.out.size
        refine step_src (by rfl) _ _ 38 (by rfl) wx3.heap.size 63 ti _ 6 80 Try.underlying38 HTI.out.1 HTI.out.2.1 HTI.out.2.2.1 HTI.out.2.2.2 rfl (by omega) (.slice Awd84 es.length Cwd84) es.length news (by first | rfl | (show Value.slice Awd84 (0 + es.length) Cwd84 = _; rw [Nat.zero_add])) HO.out (some ⟨wd0.heap.size, 0, none⟩) 1 1 [.int .i64 1, .int .i64 0, .slice none 0 0, .int .i64 2, .int .i64 0, .slice none 0 0] (by rfl) ⟨rfl, .inr ⟨_, rfl, World.news_of_block HN6.out⟩⟩ (by simp [Value.oneCell']) (by unfold maxLen; omega) (by omega) hlewd85 ?_
        intro A7 C7 wd85 hown hgrow hat
        have hswd85 : wd84.heap.size ≤ wd85.heap.size := hgrow.size
        replace HBD := Lib.hid (Below.grown HBD.out hgrow HBD.out.size (fun g hg => (HO.out.lt g hg).1))
        have HES : Hid (ESl wd85 0 wd85.heap.size A7 (es ++ [eAB])) := esl_more hown HSRC.out.1 (fun i x hx => by
          obtain ⟨a1, c1, a2, c2, h1, h2, h3⟩ := HNEWS.out i x hx
          exact ⟨a1, c1, a2, c2, h1, Sl.next h2 HBD.out, Sl.next h3 HBD.out⟩)
        replace HZ := Lib.hid (HZ.out.grown hgrow (fun e => HD14.out _ e rfl))
        clear HD14
        refine hK _ _ ⟨⟨_, HBD.out⟩, rfl⟩ ?_
        clear hK K hown hgrow hat HO HN6 HD6
        refine anyT_one (i := 10) (by kernel_rfl) rfl (fun K hK => ?_)
        go_simp
        have hcc := iProofEnd_any (es ++ [eAB]) A7 C7 s v a c k A2 C2 ls wd85 HES.out (by simp; omega) ((Ht.out.next HBD.out).sl) (HLS.out.next HBD.out) (by omega) HSM.out
        simp only [List.length_append, List.length_singleton] at hcc
        rw [HPM.out] at hcc
        have HCC := Lib.hid hcc
        clear hcc
        refine HCC.out.mono ?_
        rintro e wd86 ⟨ay, cy, s9, v9, k9, t9, hR, rfl, hb, hlx⟩
        simp only [ansR, Prod.mk.injEq] at hR
        obtain ⟨⟨rfl, rfl, rfl⟩, rfl⟩ := hR
        have HLX := Lib.hid hlx
        have hswd86 : wd85.heap.size ≤ wd86.heap.size := hb.size
        replace HZ := Lib.hid (HZ.out.low hb)
        replace HBD := Lib.hid (HBD.out.trans (hb.mono HBD.out.size))
        refine hK _ _ ⟨⟨_, HBD.out⟩, rfl⟩ ?_
        clear hK K hb hlx HCC HES
        refine anyT_look (i := 11) rfl (by kernel_rfl) ⟨⟨_, HBD.out⟩, rfl⟩ (fun K hK => ?_)
        go_simp
        refine hK _ ?_
        clear hK K
        refine anyT_look (i := 12) rfl (by kernel_rfl) ⟨⟨_, HBD.out⟩, rfl⟩ (fun K hK => ?_)
        go_simp
        refine hK _ ?_
        clear hK K
        refine anyT_look (i := 13) rfl (by kernel_rfl) ⟨⟨_, HBD.out⟩, rfl⟩ (fun K hK => ?_)
        go_simp
        refine hK _ ?_
        clear hK K
        refine anyT_one (i := 15) (by kernel_rfl) rfl (fun K hK => ?_)
        have hzz0 := HZ.out.z0
        have hzz1 := HZ.out.z1
        have hzz2 := HZ.out.z2
        have hzf0 := HZ.out.f 0
        have hzf1 := HZ.out.f 1
        have hzf2 := HZ.out.f 2
        have HFIN : Hid (Below wx3.heap.size wx3 (((wd86.setCell ⟨wd59.heap.size, 0, none⟩ (.int .i64 sw)).setCell ⟨wd59.heap.size, 1, none⟩ (.int .i64 vw)).setCell ⟨wd59.heap.size, 2, none⟩ (.slice ay (flen kw) cy)) ∧ Tb wd59.heap.size sw vw ay cy kw (((wd86.setCell ⟨wd59.heap.size, 0, none⟩ (.int .i64 sw)).setCell ⟨wd59.heap.size, 1, none⟩ (.int .i64 vw)).setCell ⟨wd59.heap.size, 2, none⟩ (.slice ay (flen kw) cy))) := zb_fin HZ.out HBD.out (by omega) HLX.out (by omega) (by omega)
        go_simp
        refine hK _ _ ⟨⟨_, HFIN.out.1⟩, rfl⟩ ?_
        clear hK K hzz0 hzz1 hzz2 hzf0 hzf1 hzf2
        refine anyT_one (i := 16) (by kernel_rfl) rfl (fun K hK => ?_)
        go_simp
        refine hK _ _ ⟨⟨_, HFIN.out.1⟩, rfl⟩ ?_
        clear hK K
        refine anyT_done (by kernel_rfl) ?_
        have HBE := Lib.hid HFIN.out.1
        have Hy := Lib.hid HFIN.out.2
        clear HFIN HZ HLX HBD
        generalize (((wd86.setCell ⟨wd59.heap.size, 0, none⟩ (.int .i64 sw)).setCell ⟨wd59.heap.size, 1, none⟩ (.int .i64 vw)).setCell ⟨wd59.heap.size, 2, none⟩ (.slice ay (flen kw) cy)) = we at *
        have Hlow' : Hid (Below w.heap.size w we) := below_next Hlow.out HBE.out
        have HE' : Hid (ESl we 0 we.heap.size A es) := HE.out.next HBE.out
        have HLS' : Hid (LSl we 0 we.heap.size A2 ls) := HLS.out.next HBE.out
        have Ht' : Hid (Tb wa.heap.size s v a c k we) := Ht.out.next HBE.out
        have Hw' : Hid (Tb wx1.heap.size sw vw aw cw kw we) := Hw.out.next HBE.out
        have Hx' : Hid (Tb wx2.heap.size sw vw ax cx kw we) := Hx.out.next HBE.out
        clear Hlow HE HLS Ht Hw Hx
        have Hlow := Hlow'
        clear Hlow'
        have HE := HE'
        clear HE'
        have HLS := HLS'
        clear HLS'
        have Ht := Ht'
        clear Ht'
        have Hw := Hw'
        clear Hw'
        have Hx := Hx'
        clear Hx'
        clear HBE
        have qy0 := Hy.out.c0
        have qy1 := Hy.out.c1
        have qy2 := Hy.out.c2
        have qx0 := Hx.out.c0
        have qx1 := Hx.out.c1
        have qx2 := Hx.out.c2
        go_wp2_with fail
        with_reducible refine (laTerm_same (fsz kw) sw vw ay ax cy cx kw _ Hy.out.sl Hx.out.sl (Nat.le_refl _) (by omega)).mono ?_
        rintro e wx4 ⟨rfl, hb⟩
        clear qy0 qy1 qy2 qx0 qx1 qx2
        have Hlow' : Hid (Below w.heap.size w wx4) := below_next Hlow.out hb
        have HE' : Hid (ESl wx4 0 wx4.heap.size A es) := HE.out.next hb
        have HLS' : Hid (LSl wx4 0 wx4.heap.size A2 ls) := HLS.out.next hb
        have Ht' : Hid (Tb wa.heap.size s v a c k wx4) := Ht.out.next hb
        have Hw' : Hid (Tb wx1.heap.size sw vw aw cw kw wx4) := Hw.out.next hb
        have Hx' : Hid (Tb wx2.heap.size sw vw ax cx kw wx4) := Hx.out.next hb
        have Hy' : Hid (Tb wd59.heap.size sw vw ay cy kw wx4) := Hy.out.next hb
        clear Hlow HE HLS Ht Hw Hx Hy
        have Hlow := Hlow'
        clear Hlow'
        have HE := HE'
        clear HE'
        have HLS := HLS'
        clear HLS'
        have Ht := Ht'
        clear Ht'
        have Hw := Hw'
        clear Hw'
        have Hx := Hx'
        clear Hx'
        have Hy := Hy'
        clear Hy'
        clear hb
        go_wp2_with fail
        go_ret
        exact ⟨rfl, Hlow.out⟩
    · go_simp
      have hlewd89 : wx3.heap.size ≤ wd0.heap.size := HBD.out.size
      have hbe : Below wd0.heap.size wd0 (wd0.alloc (.cells #[.int .i64 0, .int .i64 0, .slice none 0 0] 35)) := box_low _ _
      have hswd89 : wd0.heap.size < (wd0.alloc (.cells #[.int .i64 0, .int .i64 0, .slice none 0 0] 35)).heap.size := by simp
      have HZ := Lib.hid (zb_new wd0)
      replace HBD := Lib.hid (HBD.out.trans (hbe.mono HBD.out.size))
      refine hK _ _ ⟨⟨_, HBD.out⟩, rfl⟩ ?_
      clear hK K hbe
      generalize (wd0.alloc (.cells #[.int .i64 0, .int .i64 0, .slice none 0 0] 35)) = wd89 at *
      refine anyT_two (i := 0) (j := 6) (by kernel_rfl) rfl rfl (fun K hK => ?_) (fun K hK => ?_)
      · go_simp
        have hlewd90 : wx3.heap.size ≤ wd89.heap.size := HBD.out.size
        have hbe : Below wd89.heap.size wd89 (wd89.alloc (.cells #[] 63)) := box_low _ _
        have hswd90 : wd89.heap.size < (wd89.alloc (.cells #[] 63)).heap.size := by simp
        have HO : Hid ((wd89.alloc (.cells #[] 63)).ownsRow wx3.heap.size 63 6 (.slice (some ⟨wd89.heap.size, 0, none⟩) 0 0) 0 []) := own_emptyE hlewd90
        replace HZ := Lib.hid (HZ.out.low hbe)
        replace HBD := Lib.hid (HBD.out.trans (hbe.mono HBD.out.size))
        refine hK _ _ ⟨⟨_, HBD.out⟩, rfl⟩ ?_
        clear hK K hbe
        generalize (wd89.alloc (.cells #[] 63)) = wd90 at *
        have HD14 : Hid (∀ g, (Value.ownBlock (.slice (some ⟨wd89.heap.size, 0, none⟩) 0 0)) = some g → g ≠ wd0.heap.size) := fun g hg => by simp [Value.ownBlock] at hg; omega
        have hltwd90 : ∀ g, (Value.ownBlock (.slice (some ⟨wd89.heap.size, 0, none⟩) 0 0)) = some g → wx3.heap.size ≤ g ∧ g < wd90.heap.size := fun g hg => HO.out.lt g hg
        refine anyT_two (i := 2) (j := 6) (by kernel_rfl) rfl rfl (fun K hK => ?_) (fun K hK => ?_)
        · have hlewd91 : wx3.heap.size ≤ wd90.heap.size := HBD.out.size
          refine step_src (by rfl) _ _ 38 (by rfl) wx3.heap.size 63 ti _ 6 80 Try.underlying38 HTI.out.1 HTI.out.2.1 HTI.out.2.2.1 HTI.out.2.2.2 rfl (by omega) (.slice (some ⟨wd89.heap.size, 0, none⟩) 0 0) 0 [] (by rfl) HO.out A es.length C news (by rfl) (HSRC.out.low HBD.out) HONE.out (by unfold maxLen; omega) (by omega) hlewd91 ?_
          intro Awd91 Cwd91 wd91 hown hgrow hat
          have ho2 : wd91.ownsRow wx3.heap.size 63 6 (.slice Awd91 es.length Cwd91) es.length news := by simpa using hown
          have HO2 := Lib.hid ho2
          clear ho2
          have hswd91 : wd90.heap.size ≤ wd91.heap.size := hgrow.size
          replace HBD := Lib.hid (Below.grown HBD.out hgrow HBD.out.size (fun g hg => (HO.out.lt g hg).1))
          have hat2 : (Value.ownBlock (.slice Awd91 es.length Cwd91)) = (Value.ownBlock (.slice (some ⟨wd89.heap.size, 0, none⟩) 0 0)) ∨ (Value.ownBlock (.slice Awd91 es.length Cwd91)) = some wd90.heap.size := by rw [Nat.zero_add] at hat; exact hat
          replace HZ := Lib.hid (HZ.out.grown hgrow (fun e => HD14.out _ e rfl))
          replace HD14 : Hid (∀ g, (Value.ownBlock (.slice Awd91 es.length Cwd91)) = some g → g ≠ wd0.heap.size) := fun g hg => by
            rcases hat2 with h | h
            · exact HD14.out g (h ▸ hg)
            · rw [h] at hg; simp only [Option.some.injEq] at hg; omega
          have HO := HO2
          clear HO2
          refine hK _ _ ⟨⟨_, HBD.out⟩, rfl⟩ ?_
          clear hK K hown hgrow hat hat2
          have hltwd91 : ∀ g, (Value.ownBlock (.slice Awd91 es.length Cwd91)) = some g → wx3.heap.size ≤ g ∧ g < wd91.heap.size := fun g hg => HO.out.lt g hg
          refine anyT_one (i := 6) (by kernel_rfl) rfl (fun K hK => ?_)
          go_simp
          have hlewd92 : wx3.heap.size ≤ wd91.heap.size := HBD.out.size
          have hbe : Below wd91.heap.size wd91 (wd91.alloc (.cells #[.int .i64 1, .int .i64 0, .slice none 0 0, .int .i64 2, .int .i64 0, .slice none 0 0] 63)) := box_low _ _
          have hswd92 : wd91.heap.size < (wd91.alloc (.cells #[.int .i64 1, .int .i64 0, .slice none 0 0, .int .i64 2, .int .i64 0, .slice none 0 0] 63)).heap.size := by simp
          replace HO := Lib.hid (own_low hbe HO.out)
          have HN6 := Lib.hid (heap_alloc_new wd91 (.cells #[.int .i64 1, .int .i64 0, .slice none 0 0, .int .i64 2, .int .i64 0, .slice none 0 0] 63))
          replace HZ := Lib.hid (HZ.out.low hbe)
          replace HBD := Lib.hid (HBD.out.trans (hbe.mono HBD.out.size))
          refine hK _ _ ⟨⟨_, HBD.out⟩, rfl⟩ ?_
          clear hK K hbe
          generalize (wd91.alloc (.cells #[.int .i64 1, .int .i64 0, .slice none 0 0, .int .i64 2, .int .i64 0, .slice none 0 0] 63)) = wd92 at *
          have HD6 : Hid (∀ g, (Value.ownBlock (.slice Awd91 es.length Cwd91)) = some g → g ≠ wd91.heap.size) := fun g hg => by have h1 := hltwd91 g hg; omega
          refine anyT_one (i := 7) (by kernel_rfl) rfl (fun K hK => ?_)
          have hlewd93 : wx3.heap.size ≤ wd92.heap.size := HBD.out.size
          refine step_src (by rfl) _ _ 38 (by rfl) wx3.heap.size 63 ti _ 6 80 Try.underlying38 HTI.out.1 HTI.out.2.1 HTI.out.2.2.1 HTI.out.2.2.2 rfl (by omega) (.slice Awd91 es.length Cwd91) es.length news (by first | rfl | (show Value.slice Awd91 (0 + es.length) Cwd91 = _; rw [Nat.zero_add])) HO.out (some ⟨wd91.heap.size, 0, none⟩) 1 1 [.int .i64 1, .int .i64 0, .slice none 0 0, .int .i64 2, .int .i64 0, .slice none 0 0] (by rfl) ⟨rfl, .inr ⟨_, rfl, World.news_of_block HN6.out⟩⟩ (by simp [Value.oneCell']) (by unfold maxLen; omega) (by omega) hlewd93 ?_
          intro A7 C7 wd93 hown hgrow hat
          have hswd93 : wd92.heap.size ≤ wd93.heap.size := hgrow.size
          replace HBD := Lib.hid (Below.grown HBD.out hgrow HBD.out.size (fun g hg => (HO.out.lt g hg).1))
          have HES : Hid (ESl wd93 0 wd93.heap.size A7 (es ++ [eAB])) := esl_more hown HSRC.out.1 (fun i x hx => by
            obtain ⟨a1, c1, a2, c2, h1, h2, h3⟩ := HNEWS.out i x hx
            exact ⟨a1, c1, a2, c2, h1, Sl.next h2 HBD.out, Sl.next h3 HBD.out⟩)
          replace HZ := Lib.hid (HZ.out.grown hgrow (fun e => HD14.out _ e rfl))
          clear HD14
          refine hK _ _ ⟨⟨_, HBD.out⟩, rfl⟩ ?_
          clear hK K hown hgrow hat HO HN6 HD6
          refine anyT_one (i := 10) (by kernel_rfl) rfl (fun K hK => ?_)
          go_simp
          have hcc := iProofEnd_any (es ++ [eAB]) A7 C7 s v a c k A2 C2 ls wd93 HES.out (by simp; omega) ((Ht.out.next HBD.out).sl) (HLS.out.next HBD.out) (by omega) HSM.out
          simp only [List.length_append, List.length_singleton] at hcc
          rw [HPM.out] at hcc
          have HCC := Lib.hid hcc
          clear hcc
          refine HCC.out.mono ?_
          rintro e wd94 ⟨ay, cy, s9, v9, k9, t9, hR, rfl, hb, hlx⟩
          simp only [ansR, Prod.mk.injEq] at hR
          obtain ⟨⟨rfl, rfl, rfl⟩, rfl⟩ := hR
          have HLX := Lib.hid hlx
          have hswd94 : wd93.heap.size ≤ wd94.heap.size := hb.size
          replace HZ := Lib.hid (HZ.out.low hb)
          replace HBD := Lib.hid (HBD.out.trans (hb.mono HBD.out.size))
          refine hK _ _ ⟨⟨_, HBD.out⟩, rfl⟩ ?_
          clear hK K hb hlx HCC HES
          refine anyT_look (i := 11) rfl (by kernel_rfl) ⟨⟨_, HBD.out⟩, rfl⟩ (fun K hK => ?_)
          go_simp
          refine hK _ ?_
          clear hK K
          refine anyT_look (i := 12) rfl (by kernel_rfl) ⟨⟨_, HBD.out⟩, rfl⟩ (fun K hK => ?_)
          go_simp
          refine hK _ ?_
          clear hK K
          refine anyT_look (i := 13) rfl (by kernel_rfl) ⟨⟨_, HBD.out⟩, rfl⟩ (fun K hK => ?_)
          go_simp
          refine hK _ ?_
          clear hK K
          refine anyT_one (i := 15) (by kernel_rfl) rfl (fun K hK => ?_)
          have hzz0 := HZ.out.z0
          have hzz1 := HZ.out.z1
          have hzz2 := HZ.out.z2
          have hzf0 := HZ.out.f 0
          have hzf1 := HZ.out.f 1
          have hzf2 := HZ.out.f 2
          have HFIN : Hid (Below wx3.heap.size wx3 (((wd94.setCell ⟨wd0.heap.size, 0, none⟩ (.int .i64 sw)).setCell ⟨wd0.heap.size, 1, none⟩ (.int .i64 vw)).setCell ⟨wd0.heap.size, 2, none⟩ (.slice ay (flen kw) cy)) ∧ Tb wd0.heap.size sw vw ay cy kw (((wd94.setCell ⟨wd0.heap.size, 0, none⟩ (.int .i64 sw)).setCell ⟨wd0.heap.size, 1, none⟩ (.int .i64 vw)).setCell ⟨wd0.heap.size, 2, none⟩ (.slice ay (flen kw) cy))) := zb_fin HZ.out HBD.out (by omega) HLX.out (by omega) (by omega)
          go_simp
          refine hK _ _ ⟨⟨_, HFIN.out.1⟩, rfl⟩ ?_
          clear hK K hzz0 hzz1 hzz2 hzf0 hzf1 hzf2
          refine anyT_one (i := 16) (by kernel_rfl) rfl (fun K hK => ?_)
          go_simp
          refine hK _ _ ⟨⟨_, HFIN.out.1⟩, rfl⟩ ?_
          clear hK K
          refine anyT_done (by kernel_rfl) ?_
          have HBE := Lib.hid HFIN.out.1
          have Hy := Lib.hid HFIN.out.2
          clear HFIN HZ HLX HBD
          generalize (((wd94.setCell ⟨wd0.heap.size, 0, none⟩ (.int .i64 sw)).setCell ⟨wd0.heap.size, 1, none⟩ (.int .i64 vw)).setCell ⟨wd0.heap.size, 2, none⟩ (.slice ay (flen kw) cy)) = we at *
          have Hlow' : Hid (Below w.heap.size w we) := below_next Hlow.out HBE.out
          have HE' : Hid (ESl we 0 we.heap.size A es) := HE.out.next HBE.out
          have HLS' : Hid (LSl we 0 we.heap.size A2 ls) := HLS.out.next HBE.out
          have Ht' : Hid (Tb wa.heap.size s v a c k we) := Ht.out.next HBE.out
          have Hw' : Hid (Tb wx1.heap.size sw vw aw cw kw we) := Hw.out.next HBE.out
          have Hx' : Hid (Tb wx2.heap.size sw vw ax cx kw we) := Hx.out.next HBE.out
          clear Hlow HE HLS Ht Hw Hx
          have Hlow := Hlow'
          clear Hlow'
          have HE := HE'
          clear HE'
          have HLS := HLS'
          clear HLS'
          have Ht := Ht'
          clear Ht'
          have Hw := Hw'
          clear Hw'
          have Hx := Hx'
          clear Hx'
          clear HBE
          have qy0 := Hy.out.c0
          have qy1 := Hy.out.c1
          have qy2 := Hy.out.c2
          have qx0 := Hx.out.c0
          have qx1 := Hx.out.c1
          have qx2 := Hx.out.c2
          go_wp2_with fail
          with_reducible refine (laTerm_same (fsz kw) sw vw ay ax cy cx kw _ Hy.out.sl Hx.out.sl (Nat.le_refl _) (by omega)).mono ?_
          rintro e wx4 ⟨rfl, hb⟩
          clear qy0 qy1 qy2 qx0 qx1 qx2
          have Hlow' : Hid (Below w.heap.size w wx4) := below_next Hlow.out hb
          have HE' : Hid (ESl wx4 0 wx4.heap.size A es) := HE.out.next hb
          have HLS' : Hid (LSl wx4 0 wx4.heap.size A2 ls) := HLS.out.next hb
          have Ht' : Hid (Tb wa.heap.size s v a c k wx4) := Ht.out.next hb
          have Hw' : Hid (Tb wx1.heap.size sw vw aw cw kw wx4) := Hw.out.next hb
          have Hx' : Hid (Tb wx2.heap.size sw vw ax cx kw wx4) := Hx.out.next hb
          have Hy' : Hid (Tb wd0.heap.size sw vw ay cy kw wx4) := Hy.out.next hb
          clear Hlow HE HLS Ht Hw Hx Hy
          have Hlow := Hlow'
          clear Hlow'
          have HE := HE'
          clear HE'
          have HLS := HLS'
          clear HLS'
          have Ht := Ht'
          clear Ht'
          have Hw := Hw'
          clear Hw'
          have Hx := Hx'
          clear Hx'
          have Hy := Hy'
          clear Hy'
          clear hb
          go_wp2_with fail
          go_ret
          exact ⟨rfl, Hlow.out⟩
        · go_simp
          have hlewd97 : wx3.heap.size ≤ wd90.heap.size := HBD.out.size
          have hbe : Below wd90.heap.size wd90 (wd90.alloc (.cells #[.int .i64 1, .int .i64 0, .slice none 0 0, .int .i64 2, .int .i64 0, .slice none 0 0] 63)) := box_low _ _
          have hswd97 : wd90.heap.size < (wd90.alloc (.cells #[.int .i64 1, .int .i64 0, .slice none 0 0, .int .i64 2, .int .i64 0, .slice none 0 0] 63)).heap.size := by simp
          replace HO := Lib.hid (own_low hbe HO.out)
          have HN6 := Lib.hid (heap_alloc_new wd90 (.cells #[.int .i64 1, .int .i64 0, .slice none 0 0, .int .i64 2, .int .i64 0, .slice none 0 0] 63))
          replace HZ := Lib.hid (HZ.out.low hbe)
          replace HBD := Lib.hid (HBD.out.trans (hbe.mono HBD.out.size))
          refine hK _ _ ⟨⟨_, HBD.out⟩, rfl⟩ ?_
          clear hK K hbe
          generalize (wd90.alloc (.cells #[.int .i64 1, .int .i64 0, .slice none 0 0, .int .i64 2, .int .i64 0, .slice none 0 0] 63)) = wd97 at *
          have HD6 : Hid (∀ g, (Value.ownBlock (.slice (some ⟨wd89.heap.size, 0, none⟩) 0 0)) = some g → g ≠ wd90.heap.size) := fun g hg => by have h1 := hltwd90 g hg; omega
          refine anyT_one (i := 2) (by kernel_rfl) rfl (fun K hK => ?_)
          have hlewd98 : wx3.heap.size ≤ wd97.heap.size := HBD.out.size
          refine step_src (by rfl) _ _ 38 (by rfl) wx3.heap.size 63 ti _ 6 80 Try.underlying38 HTI.out.1 HTI.out.2.1 HTI.out.2.2.1 HTI.out.2.2.2 rfl (by omega) (.slice (some ⟨wd89.heap.size, 0, none⟩) 0 0) 0 [] (by rfl) HO.out A es.length C news (by rfl) (HSRC.out.low HBD.out) HONE.out (by unfold maxLen; omega) (by omega) hlewd98 ?_
          intro Awd98 Cwd98 wd98 hown hgrow hat
          have ho2 : wd98.ownsRow wx3.heap.size 63 6 (.slice Awd98 es.length Cwd98) es.length news := by simpa using hown
          have HO2 := Lib.hid ho2
          clear ho2
          have hswd98 : wd97.heap.size ≤ wd98.heap.size := hgrow.size
          replace HBD := Lib.hid (Below.grown HBD.out hgrow HBD.out.size (fun g hg => (HO.out.lt g hg).1))
          have hat2 : (Value.ownBlock (.slice Awd98 es.length Cwd98)) = (Value.ownBlock (.slice (some ⟨wd89.heap.size, 0, none⟩) 0 0)) ∨ (Value.ownBlock (.slice Awd98 es.length Cwd98)) = some wd97.heap.size := by rw [Nat.zero_add] at hat; exact hat
          replace HN6 := Lib.hid ((hgrow.block wd90.heap.size (by omega) (fun e => HD6.out _ e.symm rfl)).trans HN6.out)
          replace HZ := Lib.hid (HZ.out.grown hgrow (fun e => HD14.out _ e rfl))
          replace HD6 : Hid (∀ g, (Value.ownBlock (.slice Awd98 es.length Cwd98)) = some g → g ≠ wd90.heap.size) := fun g hg => by
            rcases hat2 with h | h
            · exact HD6.out g (h ▸ hg)
            · rw [h] at hg; simp only [Option.some.injEq] at hg; omega
          replace HD14 : Hid (∀ g, (Value.ownBlock (.slice Awd98 es.length Cwd98)) = some g → g ≠ wd0.heap.size) := fun g hg => by
            rcases hat2 with h | h
            · exact HD14.out g (h ▸ hg)
            · rw [h] at hg; simp only [Option.some.injEq] at hg; omega
          have HO := HO2
          clear HO2
          refine hK _ _ ⟨⟨_, HBD.out⟩, rfl⟩ ?_
          clear hK K hown hgrow hat hat2
          have hltwd98 : ∀ g, (Value.ownBlock (.slice Awd98 es.length Cwd98)) = some g → wx3.heap.size ≤ g ∧ g < wd98.heap.size := fun g hg => HO.out.lt g hg
          refine anyT_one (i := 7) (by kernel_rfl) rfl (fun K hK => ?_)
          have hlewd99 : wx3.heap.size ≤ wd98.heap.size := HBD.out.size
          refine step_src (by rfl) _ _ 38 (by rfl) wx3.heap.size 63 ti _ 6 80 Try.underlying38 HTI.out.1 HTI.out.2.1 HTI.out.2.2.1 HTI.out.2.2.2 rfl (by omega) (.slice Awd98 es.length Cwd98) es.length news (by first | rfl | (show Value.slice Awd98 (0 + es.length) Cwd98 = _; rw [Nat.zero_add])) HO.out (some ⟨wd90.heap.size, 0, none⟩) 1 1 [.int .i64 1, .int .i64 0, .slice none 0 0, .int .i64 2, .int .i64 0, .slice none 0 0] (by rfl) ⟨rfl, .inr ⟨_, rfl, World.news_of_block HN6.out⟩⟩ (by simp [Value.oneCell']) (by unfold maxLen; omega) (by omega) hlewd99 ?_
          intro A7 C7 wd99 hown hgrow hat
          have hswd99 : wd98.heap.size ≤ wd99.heap.size := hgrow.size
          replace HBD := Lib.hid (Below.grown HBD.out hgrow HBD.out.size (fun g hg => (HO.out.lt g hg).1))
          have HES : Hid (ESl wd99 0 wd99.heap.size A7 (es ++ [eAB])) := esl_more hown HSRC.out.1 (fun i x hx => by
            obtain ⟨a1, c1, a2, c2, h1, h2, h3⟩ := HNEWS.out i x hx
            exact ⟨a1, c1, a2, c2, h1, Sl.next h2 HBD.out, Sl.next h3 HBD.out⟩)
          replace HZ := Lib.hid (HZ.out.grown hgrow (fun e => HD14.out _ e rfl))
          clear HD14
          refine hK _ _ ⟨⟨_, HBD.out⟩, rfl⟩ ?_
          clear hK K hown hgrow hat HO HN6 HD6
          refine anyT_one (i := 10) (by kernel_rfl) rfl (fun K hK => ?_)
          go_simp
          have hcc := iProofEnd_any (es ++ [eAB]) A7 C7 s v a c k A2 C2 ls wd99 HES.out (by simp; omega) ((Ht.out.next HBD.out).sl) (HLS.out.next HBD.out) (by omega) HSM.out
          simp only [List.length_append, List.length_singleton] at hcc
          rw [HPM.out] at hcc
          have HCC := Lib.hid hcc
          clear hcc
          refine HCC.out.mono ?_
          rintro e wd100 ⟨ay, cy, s9, v9, k9, t9, hR, rfl, hb, hlx⟩
          simp only [ansR, Prod.mk.injEq] at hR
          obtain ⟨⟨rfl, rfl, rfl⟩, rfl⟩ := hR
          have HLX := Lib.hid hlx
          have hswd100 : wd99.heap.size ≤ wd100.heap.size := hb.size
          replace HZ := Lib.hid (HZ.out.low hb)
          replace HBD := Lib.hid (HBD.out.trans (hb.mono HBD.out.size))
          refine hK _ _ ⟨⟨_, HBD.out⟩, rfl⟩ ?_
          clear hK K hb hlx HCC HES
          refine anyT_look (i := 11) rfl (by kernel_rfl) ⟨⟨_, HBD.out⟩, rfl⟩ (fun K hK => ?_)
          go_simp
          refine hK _ ?_
          clear hK K
          refine anyT_look (i := 12) rfl (by kernel_rfl) ⟨⟨_, HBD.out⟩, rfl⟩ (fun K hK => ?_)
          go_simp
          refine hK _ ?_
          clear hK K
          refine anyT_look (i := 13) rfl (by kernel_rfl) ⟨⟨_, HBD.out⟩, rfl⟩ (fun K hK => ?_)
          go_simp
          refine hK _ ?_
          clear hK K
          refine anyT_one (i := 15) (by kernel_rfl) rfl (fun K hK => ?_)
          have hzz0 := HZ.out.z0
          have hzz1 := HZ.out.z1
          have hzz2 := HZ.out.z2
          have hzf0 := HZ.out.f 0
          have hzf1 := HZ.out.f 1
          have hzf2 := HZ.out.f 2
          have HFIN : Hid (Below wx3.heap.size wx3 (((wd100.setCell ⟨wd0.heap.size, 0, none⟩ (.int .i64 sw)).setCell ⟨wd0.heap.size, 1, none⟩ (.int .i64 vw)).setCell ⟨wd0.heap.size, 2, none⟩ (.slice ay (flen kw) cy)) ∧ Tb wd0.heap.size sw vw ay cy kw (((wd100.setCell ⟨wd0.heap.size, 0, none⟩ (.int .i64 sw)).setCell ⟨wd0.heap.size, 1, none⟩ (.int .i64 vw)).setCell ⟨wd0.heap.size, 2, none⟩ (.slice ay (flen kw) cy))) := zb_fin HZ.out HBD.out (by omega) HLX.out (by omega) (by omega)
          go_simp
          refine hK _ _ ⟨⟨_, HFIN.out.1⟩, rfl⟩ ?_
          clear hK K hzz0 hzz1 hzz2 hzf0 hzf1 hzf2
          refine anyT_one (i := 16) (by kernel_rfl) rfl (fun K hK => ?_)
          go_simp
          refine hK _ _ ⟨⟨_, HFIN.out.1⟩, rfl⟩ ?_
          clear hK K
          refine anyT_done (by kernel_rfl) ?_
          have HBE := Lib.hid HFIN.out.1
          have Hy := Lib.hid HFIN.out.2
          clear HFIN HZ HLX HBD
          generalize (((wd100.setCell ⟨wd0.heap.size, 0, none⟩ (.int .i64 sw)).setCell ⟨wd0.heap.size, 1, none⟩ (.int .i64 vw)).setCell ⟨wd0.heap.size, 2, none⟩ (.slice ay (flen kw) cy)) = we at *
          have Hlow' : Hid (Below w.heap.size w we) := below_next Hlow.out HBE.out
          have HE' : Hid (ESl we 0 we.heap.size A es) := HE.out.next HBE.out
          have HLS' : Hid (LSl we 0 we.heap.size A2 ls) := HLS.out.next HBE.out
          have Ht' : Hid (Tb wa.heap.size s v a c k we) := Ht.out.next HBE.out
          have Hw' : Hid (Tb wx1.heap.size sw vw aw cw kw we) := Hw.out.next HBE.out
          have Hx' : Hid (Tb wx2.heap.size sw vw ax cx kw we) := Hx.out.next HBE.out
          clear Hlow HE HLS Ht Hw Hx
          have Hlow := Hlow'
          clear Hlow'
          have HE := HE'
          clear HE'
          have HLS := HLS'
          clear HLS'
          have Ht := Ht'
          clear Ht'
          have Hw := Hw'
          clear Hw'
          have Hx := Hx'
          clear Hx'
          clear HBE
          have qy0 := Hy.out.c0
          have qy1 := Hy.out.c1
          have qy2 := Hy.out.c2
          have qx0 := Hx.out.c0
          have qx1 := Hx.out.c1
          have qx2 := Hx.out.c2
          go_wp2_with fail
          with_reducible refine (laTerm_same (fsz kw) sw vw ay ax cy cx kw _ Hy.out.sl Hx.out.sl (Nat.le_refl _) (by omega)).mono ?_
          rintro e wx4 ⟨rfl, hb⟩
          clear qy0 qy1 qy2 qx0 qx1 qx2
          have Hlow' : Hid (Below w.heap.size w wx4) := below_next Hlow.out hb
          have HE' : Hid (ESl wx4 0 wx4.heap.size A es) := HE.out.next hb
          have HLS' : Hid (LSl wx4 0 wx4.heap.size A2 ls) := HLS.out.next hb
          have Ht' : Hid (Tb wa.heap.size s v a c k wx4) := Ht.out.next hb
          have Hw' : Hid (Tb wx1.heap.size sw vw aw cw kw wx4) := Hw.out.next hb
          have Hx' : Hid (Tb wx2.heap.size sw vw ax cx kw wx4) := Hx.out.next hb
          have Hy' : Hid (Tb wd0.heap.size sw vw ay cy kw wx4) := Hy.out.next hb
          clear Hlow HE HLS Ht Hw Hx Hy
          have Hlow := Hlow'
          clear Hlow'
          have HE := HE'
          clear HE'
          have HLS := HLS'
          clear HLS'
          have Ht := Ht'
          clear Ht'
          have Hw := Hw'
          clear Hw'
          have Hx := Hx'
          clear Hx'
          have Hy := Hy'
          clear Hy'
          clear hb
          go_wp2_with fail
          go_ret
          exact ⟨rfl, Hlow.out⟩
      · go_simp
        have hlewd103 : wx3.heap.size ≤ wd89.heap.size := HBD.out.size
        have hbe : Below wd89.heap.size wd89 (wd89.alloc (.cells #[.int .i64 1, .int .i64 0, .slice none 0 0, .int .i64 2, .int .i64 0, .slice none 0 0] 63)) := box_low _ _
        have hswd103 : wd89.heap.size < (wd89.alloc (.cells #[.int .i64 1, .int .i64 0, .slice none 0 0, .int .i64 2, .int .i64 0, .slice none 0 0] 63)).heap.size := by simp
        have HN6 := Lib.hid (heap_alloc_new wd89 (.cells #[.int .i64 1, .int .i64 0, .slice none 0 0, .int .i64 2, .int .i64 0, .slice none 0 0] 63))
        replace HZ := Lib.hid (HZ.out.low hbe)
        replace HBD := Lib.hid (HBD.out.trans (hbe.mono HBD.out.size))
        refine hK _ _ ⟨⟨_, HBD.out⟩, rfl⟩ ?_
        clear hK K hbe
        generalize (wd89.alloc (.cells #[.int .i64 1, .int .i64 0, .slice none 0 0, .int .i64 2, .int .i64 0, .slice none 0 0] 63)) = wd103 at *
        refine anyT_one (i := 0) (by kernel_rfl) rfl (fun K hK => ?_)
        go_simp
        have hlewd104 : wx3.heap.size ≤ wd103.heap.size := HBD.out.size
        have hbe : Below wd103.heap.size wd103 (wd103.alloc (.cells #[] 63)) := box_low _ _
        have hswd104 : wd103.heap.size < (wd103.alloc (.cells #[] 63)).heap.size := by simp
        have HO : Hid ((wd103.alloc (.cells #[] 63)).ownsRow wx3.heap.size 63 6 (.slice (some ⟨wd103.heap.size, 0, none⟩) 0 0) 0 []) := own_emptyE hlewd104
        replace HN6 := Lib.hid ((hbe.block wd89.heap.size (by omega)).trans HN6.out)
        replace HZ := Lib.hid (HZ.out.low hbe)
        replace HBD := Lib.hid (HBD.out.trans (hbe.mono HBD.out.size))
        refine hK _ _ ⟨⟨_, HBD.out⟩, rfl⟩ ?_
        clear hK K hbe
        generalize (wd103.alloc (.cells #[] 63)) = wd104 at *
        have HD6 : Hid (∀ g, (Value.ownBlock (.slice (some ⟨wd103.heap.size, 0, none⟩) 0 0)) = some g → g ≠ wd89.heap.size) := fun g hg => by simp [Value.ownBlock] at hg; omega
        have HD14 : Hid (∀ g, (Value.ownBlock (.slice (some ⟨wd103.heap.size, 0, none⟩) 0 0)) = some g → g ≠ wd0.heap.size) := fun g hg => by simp [Value.ownBlock] at hg; omega
        have hltwd104 : ∀ g, (Value.ownBlock (.slice (some ⟨wd103.heap.size, 0, none⟩) 0 0)) = some g → wx3.heap.size ≤ g ∧ g < wd104.heap.size := fun g hg => HO.out.lt g hg
        refine anyT_one (i := 2) (by kernel_rfl) rfl (fun K hK => ?_)
        have hlewd105 : wx3.heap.size ≤ wd104.heap.size := HBD.out.size
        refine step_src (by rfl) _ _ 38 (by rfl) wx3.heap.size 63 ti _ 6 80 Try.underlying38 HTI.out.1 HTI.out.2.1 HTI.out.2.2.1 HTI.out.2.2.2 rfl (by omega) (.slice (some ⟨wd103.heap.size, 0, none⟩) 0 0) 0 [] (by rfl) HO.out A es.length C news (by rfl) (HSRC.out.low HBD.out) HONE.out (by unfold maxLen; omega) (by omega) hlewd105 ?_
        intro Awd105 Cwd105 wd105 hown hgrow hat
        have ho2 : wd105.ownsRow wx3.heap.size 63 6 (.slice Awd105 es.length Cwd105) es.length news := by simpa using hown
        have HO2 := Lib.hid ho2
        clear ho2
        have hswd105 : wd104.heap.size ≤ wd105.heap.size := hgrow.size
        replace HBD := Lib.hid (Below.grown HBD.out hgrow HBD.out.size (fun g hg => (HO.out.lt g hg).1))
        have hat2 : (Value.ownBlock (.slice Awd105 es.length Cwd105)) = (Value.ownBlock (.slice (some ⟨wd103.heap.size, 0, none⟩) 0 0)) ∨ (Value.ownBlock (.slice Awd105 es.length Cwd105)) = some wd104.heap.size := by rw [Nat.zero_add] at hat; exact hat
        replace HN6 := Lib.hid ((hgrow.block wd89.heap.size (by omega) (fun e => HD6.out _ e.symm rfl)).trans HN6.out)
        replace HZ := Lib.hid (HZ.out.grown hgrow (fun e => HD14.out _ e rfl))
        replace HD6 : Hid (∀ g, (Value.ownBlock (.slice Awd105 es.length Cwd105)) = some g → g ≠ wd89.heap.size) := fun g hg => by
          rcases hat2 with h | h
          · exact HD6.out g (h ▸ hg)
          · rw [h] at hg; simp only [Option.some.injEq] at hg; omega
        replace HD14 : Hid (∀ g, (Value.ownBlock (.slice Awd105 es.length Cwd105)) = some g → g ≠ wd0.heap.size) := fun g hg => by
          rcases hat2 with h | h
          · exact HD14.out g (h ▸ hg)
          · rw [h] at hg; simp only [Option.some.injEq] at hg; omega
        have HO := HO2
        clear HO2
        refine hK _ _ ⟨⟨_, HBD.out⟩, rfl⟩ ?_
        clear hK K hown hgrow hat hat2
        have hltwd105 : ∀ g, (Value.ownBlock (.slice Awd105 es.length Cwd105)) = some g → wx3.heap.size ≤ g ∧ g < wd105.heap.size := fun g hg => HO.out.lt g hg
        refine anyT_one (i := 7) (by kernel_rfl) rfl (fun K hK => ?_)
        have hlewd106 : wx3.heap.size ≤ wd105.heap.size := HBD.out.size
        refine step_src (by rfl) _ _ 38 (by rfl) wx3.heap.size 63 ti _ 6 80 Try.underlying38 HTI.out.1 HTI.out.2.1 HTI.out.2.2.1 HTI.out.2.2.2 rfl (by omega) (.slice Awd105 es.length Cwd105) es.length news (by first | rfl | (show Value.slice Awd105 (0 + es.length) Cwd105 = _; rw [Nat.zero_add])) HO.out (some ⟨wd89.heap.size, 0, none⟩) 1 1 [.int .i64 1, .int .i64 0, .slice none 0 0, .int .i64 2, .int .i64 0, .slice none 0 0] (by rfl) ⟨rfl, .inr ⟨_, rfl, World.news_of_block HN6.out⟩⟩ (by simp [Value.oneCell']) (by unfold maxLen; omega) (by omega) hlewd106 ?_
        intro A7 C7 wd106 hown hgrow hat
        have hswd106 : wd105.heap.size ≤ wd106.heap.size := hgrow.size
        replace HBD := Lib.hid (Below.grown HBD.out hgrow HBD.out.size (fun g hg => (HO.out.lt g hg).1))
        have HES : Hid (ESl wd106 0 wd106.heap.size A7 (es ++ [eAB])) := esl_more hown HSRC.out.1 (fun i x hx => by
          obtain ⟨a1, c1, a2, c2, h1, h2, h3⟩ := HNEWS.out i x hx
          exact ⟨a1, c1, a2, c2, h1, Sl.next h2 HBD.out, Sl.next h3 HBD.out⟩)
        replace HZ := Lib.hid (HZ.out.grown hgrow (fun e => HD14.out _ e rfl))
        clear HD14
        refine hK _ _ ⟨⟨_, HBD.out⟩, rfl⟩ ?_
        clear hK K hown hgrow hat HO HN6 HD6
        refine anyT_one (i := 10) (by kernel_rfl) rfl (fun K hK => ?_)
        go_simp
        have hcc := iProofEnd_any (es ++ [eAB]) A7 C7 s v a c k A2 C2 ls wd106 HES.out (by simp; omega) ((Ht.out.next HBD.out).sl) (HLS.out.next HBD.out) (by omega) HSM.out
        simp only [List.length_append, List.length_singleton] at hcc
        rw [HPM.out] at hcc
        have HCC := Lib.hid hcc
        clear hcc
        refine HCC.out.mono ?_
        rintro e wd107 ⟨ay, cy, s9, v9, k9, t9, hR, rfl, hb, hlx⟩
        simp only [ansR, Prod.mk.injEq] at hR
        obtain ⟨⟨rfl, rfl, rfl⟩, rfl⟩ := hR
        have HLX := Lib.hid hlx
        have hswd107 : wd106.heap.size ≤ wd107.heap.size := hb.size
        replace HZ := Lib.hid (HZ.out.low hb)
        replace HBD := Lib.hid (HBD.out.trans (hb.mono HBD.out.size))
        refine hK _ _ ⟨⟨_, HBD.out⟩, rfl⟩ ?_
        clear hK K hb hlx HCC HES
        refine anyT_look (i := 11) rfl (by kernel_rfl) ⟨⟨_, HBD.out⟩, rfl⟩ (fun K hK => ?_)
        go_simp
        refine hK _ ?_
        clear hK K
        refine anyT_look (i := 12) rfl (by kernel_rfl) ⟨⟨_, HBD.out⟩, rfl⟩ (fun K hK => ?_)
        go_simp
        refine hK _ ?_
        clear hK K
        refine anyT_look (i := 13) rfl (by kernel_rfl) ⟨⟨_, HBD.out⟩, rfl⟩ (fun K hK => ?_)
        go_simp
        refine hK _ ?_
        clear hK K
        refine anyT_one (i := 15) (by kernel_rfl) rfl (fun K hK => ?_)
        have hzz0 := HZ.out.z0
        have hzz1 := HZ.out.z1
        have hzz2 := HZ.out.z2
        have hzf0 := HZ.out.f 0
        have hzf1 := HZ.out.f 1
        have hzf2 := HZ.out.f 2
        have HFIN : Hid (Below wx3.heap.size wx3 (((wd107.setCell ⟨wd0.heap.size, 0, none⟩ (.int .i64 sw)).setCell ⟨wd0.heap.size, 1, none⟩ (.int .i64 vw)).setCell ⟨wd0.heap.size, 2, none⟩ (.slice ay (flen kw) cy)) ∧ Tb wd0.heap.size sw vw ay cy kw (((wd107.setCell ⟨wd0.heap.size, 0, none⟩ (.int .i64 sw)).setCell ⟨wd0.heap.size, 1, none⟩ (.int .i64 vw)).setCell ⟨wd0.heap.size, 2, none⟩ (.slice ay (flen kw) cy))) := zb_fin HZ.out HBD.out (by omega) HLX.out (by omega) (by omega)
        go_simp
        refine hK _ _ ⟨⟨_, HFIN.out.1⟩, rfl⟩ ?_
        clear hK K hzz0 hzz1 hzz2 hzf0 hzf1 hzf2
        refine anyT_one (i := 16) (by kernel_rfl) rfl (fun K hK => ?_)
        go_simp
        refine hK _ _ ⟨⟨_, HFIN.out.1⟩, rfl⟩ ?_
        clear hK K
        refine anyT_done (by kernel_rfl) ?_
        have HBE := Lib.hid HFIN.out.1
        have Hy := Lib.hid HFIN.out.2
        clear HFIN HZ HLX HBD
        generalize (((wd107.setCell ⟨wd0.heap.size, 0, none⟩ (.int .i64 sw)).setCell ⟨wd0.heap.size, 1, none⟩ (.int .i64 vw)).setCell ⟨wd0.heap.size, 2, none⟩ (.slice ay (flen kw) cy)) = we at *
        have Hlow' : Hid (Below w.heap.size w we) := below_next Hlow.out HBE.out
        have HE' : Hid (ESl we 0 we.heap.size A es) := HE.out.next HBE.out
        have HLS' : Hid (LSl we 0 we.heap.size A2 ls) := HLS.out.next HBE.out
        have Ht' : Hid (Tb wa.heap.size s v a c k we) := Ht.out.next HBE.out
        have Hw' : Hid (Tb wx1.heap.size sw vw aw cw kw we) := Hw.out.next HBE.out
        have Hx' : Hid (Tb wx2.heap.size sw vw ax cx kw we) := Hx.out.next HBE.out
        clear Hlow HE HLS Ht Hw Hx
        have Hlow := Hlow'
        clear Hlow'
        have HE := HE'
        clear HE'
        have HLS := HLS'
        clear HLS'
        have Ht := Ht'
        clear Ht'
        have Hw := Hw'
        clear Hw'
        have Hx := Hx'
        clear Hx'
        clear HBE
        have qy0 := Hy.out.c0
        have qy1 := Hy.out.c1
        have qy2 := Hy.out.c2
        have qx0 := Hx.out.c0
        have qx1 := Hx.out.c1
        have qx2 := Hx.out.c2
        go_wp2_with fail
        with_reducible refine (laTerm_same (fsz kw) sw vw ay ax cy cx kw _ Hy.out.sl Hx.out.sl (Nat.le_refl _) (by omega)).mono ?_
        rintro e wx4 ⟨rfl, hb⟩
        clear qy0 qy1 qy2 qx0 qx1 qx2
        have Hlow' : Hid (Below w.heap.size w wx4) := below_next Hlow.out hb
        have HE' : Hid (ESl wx4 0 wx4.heap.size A es) := HE.out.next hb
        have HLS' : Hid (LSl wx4 0 wx4.heap.size A2 ls) := HLS.out.next hb
        have Ht' : Hid (Tb wa.heap.size s v a c k wx4) := Ht.out.next hb
        have Hw' : Hid (Tb wx1.heap.size sw vw aw cw kw wx4) := Hw.out.next hb
        have Hx' : Hid (Tb wx2.heap.size sw vw ax cx kw wx4) := Hx.out.next hb
        have Hy' : Hid (Tb wd0.heap.size sw vw ay cy kw wx4) := Hy.out.next hb
        clear Hlow HE HLS Ht Hw Hx Hy
        have Hlow := Hlow'
        clear Hlow'
        have HE := HE'
        clear HE'
        have HLS := HLS'
        clear HLS'
        have Ht := Ht'
        clear Ht'
        have Hw := Hw'
        clear Hw'
        have Hx := Hx'
        clear Hx'
        have Hy := Hy'
        clear Hy'
        clear hb
        go_wp2_with fail
        go_ret
        exact ⟨rfl, Hlow.out⟩
end Go.Proofs.Ytdkcbbhkoibplaa
