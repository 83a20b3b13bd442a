/- Several texts in one: LawSPut. -/
import Derived.Test.YtkmfnhoeigoajaaKSub9
import Derived.Test.YtkmfnhoeigoajaaKSub11
import Derived.Test.YtkmfnhoeigoajaaKSub12
import Derived.Test.YtkmfnhoeigoajaaLFnSubstPut3
import Derived.Test.YtkmfnhoeigoajaaLFnSubstPut1

/-! LawSPut: laws.FnSubstPut answers true at any two codes. -/
namespace Go.Proofs.Ytkmfnhoeigoajaa
open Go.RowKit Go.Deep
attribute [local go_sem ↓] Go.wp_at_zero Go.wp_at_succ

theorem put_sub {bs : List Bd} {s v : Int} {k : Fo} {place : List Int} {s2 v2 : Int} {k2 : Fo} {sx vx : Int} {kx : Fo} {sa va : Int} {ka : Fo} {sb vb : Int} {kb : Fo} (hp : putR s v k place (s2, v2, k2) = (sx, vx, kx, true)) (ha : sdR bs s v k = (sa, va, ka, true)) (hb : sdR bs s2 v2 k2 = (sb, vb, kb, true)) :
    putR sa va ka place (sb, vb, kb) = sdR bs sx vx kx := by
  obtain ⟨o1, o2, hf, ox⟩ := putR_true hp
  rcases sdR_cases ha with ⟨h, _⟩ | ⟨_, hsok, _, ta, oa⟩
  · cases h
  rcases sdR_cases hb with ⟨h, _⟩ | ⟨_, _, _, tb, ob⟩
  · cases h
  have h1 := (okW_iff _ _ _ _).1 o1
  have hF := fput_sub (sv bs) place s v k (s2, v2, k2) h1.1 h1.2.1 hf
  dsimp only at hF tb
  rw [ta, tb] at hF
  dsimp only at hF
  generalize htt : tsub (sv bs) sx vx kx = tt at hF
  obtain ⟨st, vt, kt⟩ := tt
  by_cases hbig : 1 + fsz kt ≤ 16
  · rw [sdR_of hsok ox htt hbig]
    exact putR_some oa ob hF hbig
  · rw [sdR_big htt hbig]
    unfold putR
    rw [if_pos ⟨oa, ob⟩, hF]
    dsimp only
    rw [if_neg hbig]

set_option maxRecDepth 100000 in
set_option maxHeartbeats 2000000 in
theorem substPut_walk (a0 : Option Addr) (len cap : Nat) (a1 : Option Addr) (len1 cap1 : Nat) (w : World) (hby : Bytes w a0 len) (hlen : len ≤ cap) (hby1 : Bytes w a1 len1) (hlen1 : len1 ≤ cap1) :
    Calls Try.prog 6 #[.slice a0 len cap, .slice a1 len1 cap1] w fun e w' => e = .returned (.bool true) ∧ Below w.heap.size w w' := by
  have HBY := Lib.hid hby
  clear hby
  have HBY1 := Lib.hid hby1
  clear hby1
  by_cases hbiglen : 1048576 < len
  · go_enter Try.func6, Try.ntmps6
    go_wp2_with fail
    go_ret
    exact ⟨rfl, Below.refl _ _⟩
  by_cases hbiglen1 : 1048576 < len1
  · go_enter Try.func6, Try.ntmps6
    go_wp2_with fail
    go_ret
    exact ⟨rfl, Below.refl _ _⟩
  go_enter Try.func6, Try.ntmps6
  go_wp2_with fail
  with_reducible refine (DrawTermPut_any a0 len cap _ HBY.out hlen).mono ?_
  rintro e wa ⟨s, v, a, c, k, pA, pC, place, s2, v2, a2, c2, k2, rfl, hSk, hpl, hSk2, hb, hl, hi, hl2⟩
  have Hlow := Lib.hid hb
  have HBY1n := Lib.hid (HBY1.out.next hb)
  have HP : Hid (ISc wa 0 wa.heap.size pA pC place) := hi.mono (Nat.zero_le _) (Nat.le_refl _)
  have HL := Lib.hid hl
  have Hm : Hid (Sl wa 0 wa.heap.size a2 k2) := hl2.mono (Nat.zero_le _) (Nat.le_refl _)
  clear hb hi hl hl2 HBY HBY1
  have HY := HBY1n
  clear HBY1n
  have hbx : Below wa.heap.size wa (wa.alloc (.cells #[.int .i64 s, .int .i64 v, .slice a (flen k) c] 26)) := box_low _ _
  have Hn : Hid (Tb wa.heap.size s v a c k (wa.alloc (.cells #[.int .i64 s, .int .i64 v, .slice a (flen k) c] 26))) := Tb.new HL.out
  have Hlow' : Hid (Below w.heap.size w (wa.alloc (.cells #[.int .i64 s, .int .i64 v, .slice a (flen k) c] 26))) := below_next Hlow.out hbx
  have HP' : Hid (ISc (wa.alloc (.cells #[.int .i64 s, .int .i64 v, .slice a (flen k) c] 26)) 0 (wa.alloc (.cells #[.int .i64 s, .int .i64 v, .slice a (flen k) c] 26)).heap.size pA pC place) := HP.out.next hbx
  have HY' : Hid (Bytes (wa.alloc (.cells #[.int .i64 s, .int .i64 v, .slice a (flen k) c] 26)) a1 len1) := HY.out.next hbx
  have Hm' : Hid (Sl (wa.alloc (.cells #[.int .i64 s, .int .i64 v, .slice a (flen k) c] 26)) 0 (wa.alloc (.cells #[.int .i64 s, .int .i64 v, .slice a (flen k) c] 26)).heap.size a2 k2) := Hm.out.next hbx
  clear Hlow HP HY Hm
  have Hlow := Hlow'
  clear Hlow'
  have HP := HP'
  clear HP'
  have HY := HY'
  clear HY'
  have Hm := Hm'
  clear Hm'
  have Ht := Hn
  clear Hn hbx
  clear HL
  have hbx : Below (wa.alloc (.cells #[.int .i64 s, .int .i64 v, .slice a (flen k) c] 26)).heap.size (wa.alloc (.cells #[.int .i64 s, .int .i64 v, .slice a (flen k) c] 26)) ((wa.alloc (.cells #[.int .i64 s, .int .i64 v, .slice a (flen k) c] 26)).alloc (.cells #[.int .i64 s2, .int .i64 v2, .slice a2 (flen k2) c2] 26)) := box_low _ _
  have Hn : Hid (Tb (wa.heap.size + 1) s2 v2 a2 c2 k2 ((wa.alloc (.cells #[.int .i64 s, .int .i64 v, .slice a (flen k) c] 26)).alloc (.cells #[.int .i64 s2, .int .i64 v2, .slice a2 (flen k2) c2] 26))) := (show (wa.alloc (.cells #[.int .i64 s, .int .i64 v, .slice a (flen k) c] 26)).heap.size = (wa.heap.size + 1) from by simp) ▸ Tb.new Hm.out
  have Hlow' : Hid (Below w.heap.size w ((wa.alloc (.cells #[.int .i64 s, .int .i64 v, .slice a (flen k) c] 26)).alloc (.cells #[.int .i64 s2, .int .i64 v2, .slice a2 (flen k2) c2] 26))) := below_next Hlow.out hbx
  have HP' : Hid (ISc ((wa.alloc (.cells #[.int .i64 s, .int .i64 v, .slice a (flen k) c] 26)).alloc (.cells #[.int .i64 s2, .int .i64 v2, .slice a2 (flen k2) c2] 26)) 0 ((wa.alloc (.cells #[.int .i64 s, .int .i64 v, .slice a (flen k) c] 26)).alloc (.cells #[.int .i64 s2, .int .i64 v2, .slice a2 (flen k2) c2] 26)).heap.size pA pC place) := HP.out.next hbx
  have HY' : Hid (Bytes ((wa.alloc (.cells #[.int .i64 s, .int .i64 v, .slice a (flen k) c] 26)).alloc (.cells #[.int .i64 s2, .int .i64 v2, .slice a2 (flen k2) c2] 26)) a1 len1) := HY.out.next hbx
  have Hm' : Hid (Sl ((wa.alloc (.cells #[.int .i64 s, .int .i64 v, .slice a (flen k) c] 26)).alloc (.cells #[.int .i64 s2, .int .i64 v2, .slice a2 (flen k2) c2] 26)) 0 ((wa.alloc (.cells #[.int .i64 s, .int .i64 v, .slice a (flen k) c] 26)).alloc (.cells #[.int .i64 s2, .int .i64 v2, .slice a2 (flen k2) c2] 26)).heap.size a2 k2) := Hm.out.next hbx
  have Ht' : Hid (Tb wa.heap.size s v a c k ((wa.alloc (.cells #[.int .i64 s, .int .i64 v, .slice a (flen k) c] 26)).alloc (.cells #[.int .i64 s2, .int .i64 v2, .slice a2 (flen k2) c2] 26))) := Ht.out.next hbx
  clear Hlow HP HY Hm Ht
  have Hlow := Hlow'
  clear Hlow'
  have HP := HP'
  clear HP'
  have HY := HY'
  clear HY'
  have Hm := Hm'
  clear Hm'
  have Ht := Ht'
  clear Ht'
  have Hy := Hn
  clear Hn hbx
  go_wp2_with fail
  with_reducible refine (DrawSubstDo_any a1 len1 cap1 _ HY.out hlen1).mono ?_
  rintro e wx1 ⟨bs, A, C, sz, vz, az, cz, kz, rfl, hbl, hSz, hb, hi, hl⟩
  have Hlow' : Hid (Below w.heap.size w wx1) := below_next Hlow.out hb
  have HP' : Hid (ISc wx1 0 wx1.heap.size pA pC place) := HP.out.next hb
  have HY' : Hid (Bytes wx1 a1 len1) := HY.out.next hb
  have Hm' : Hid (Sl wx1 0 wx1.heap.size a2 k2) := Hm.out.next hb
  have Ht' : Hid (Tb wa.heap.size s v a c k wx1) := Ht.out.next hb
  have Hy' : Hid (Tb (wa.heap.size + 1) s2 v2 a2 c2 k2 wx1) := Hy.out.next hb
  clear Hlow HP HY Hm Ht Hy
  have Hlow := Hlow'
  clear Hlow'
  have HP := HP'
  clear HP'
  have HY := HY'
  clear HY'
  have Hm := Hm'
  clear Hm'
  have Ht := Ht'
  clear Ht'
  have Hy := Hy'
  clear Hy'
  have HBS : Hid (BSl wx1 0 wx1.heap.size A bs) := hi.mono (Nat.zero_le _) (Nat.le_refl _)
  have HL := Lib.hid hl
  clear hb hi hl HY Hm
  have hbx : Below wx1.heap.size wx1 (wx1.alloc (.cells #[.int .i64 sz, .int .i64 vz, .slice az (flen kz) cz] 26)) := box_low _ _
  have Hn : Hid (Tb wx1.heap.size sz vz az cz kz (wx1.alloc (.cells #[.int .i64 sz, .int .i64 vz, .slice az (flen kz) cz] 26))) := Tb.new HL.out
  have Hlow' : Hid (Below w.heap.size w (wx1.alloc (.cells #[.int .i64 sz, .int .i64 vz, .slice az (flen kz) cz] 26))) := below_next Hlow.out hbx
  have HP' : Hid (ISc (wx1.alloc (.cells #[.int .i64 sz, .int .i64 vz, .slice az (flen kz) cz] 26)) 0 (wx1.alloc (.cells #[.int .i64 sz, .int .i64 vz, .slice az (flen kz) cz] 26)).heap.size pA pC place) := HP.out.next hbx
  have Ht' : Hid (Tb wa.heap.size s v a c k (wx1.alloc (.cells #[.int .i64 sz, .int .i64 vz, .slice az (flen kz) cz] 26))) := Ht.out.next hbx
  have Hy' : Hid (Tb (wa.heap.size + 1) s2 v2 a2 c2 k2 (wx1.alloc (.cells #[.int .i64 sz, .int .i64 vz, .slice az (flen kz) cz] 26))) := Hy.out.next hbx
  have HBS' : Hid (BSl (wx1.alloc (.cells #[.int .i64 sz, .int .i64 vz, .slice az (flen kz) cz] 26)) 0 (wx1.alloc (.cells #[.int .i64 sz, .int .i64 vz, .slice az (flen kz) cz] 26)).heap.size A bs) := HBS.out.next hbx
  clear Hlow HP Ht Hy HBS
  have Hlow := Hlow'
  clear Hlow'
  have HP := HP'
  clear HP'
  have Ht := Ht'
  clear Ht'
  have Hy := Hy'
  clear Hy'
  have HBS := HBS'
  clear HBS'
  have Hz := Hn
  clear Hn hbx
  have qt0 := Ht.out.c0
  have qt1 := Ht.out.c1
  have qt2 := Ht.out.c2
  have qy0 := Hy.out.c0
  have qy1 := Hy.out.c1
  have qy2 := Hy.out.c2
  go_wp2_with fail
  with_reducible refine (sTermPut_any s v a c k pA pC place s2 v2 a2 c2 k2 _ Ht.out.sl HP.out (by omega) Hy.out.sl).mono ?_
  rintro e wx2 ⟨aw, cw, sw, vw, kw, tw, hdw, rfl, hb, hlw⟩
  have HDw := Lib.hid hdw
  clear hdw
  clear qt0 qt1 qt2 qy0 qy1 qy2
  have Hlow' : Hid (Below w.heap.size w wx2) := below_next Hlow.out hb
  have HP' : Hid (ISc wx2 0 wx2.heap.size pA pC place) := HP.out.next hb
  have Ht' : Hid (Tb wa.heap.size s v a c k wx2) := Ht.out.next hb
  have Hy' : Hid (Tb (wa.heap.size + 1) s2 v2 a2 c2 k2 wx2) := Hy.out.next hb
  have HBS' : Hid (BSl wx2 0 wx2.heap.size A bs) := HBS.out.next hb
  have Hz' : Hid (Tb wx1.heap.size sz vz az cz kz wx2) := Hz.out.next hb
  clear Hlow HP Ht Hy HBS Hz
  have Hlow := Hlow'
  clear Hlow'
  have HP := HP'
  clear HP'
  have Ht := Ht'
  clear Ht'
  have Hy := Hy'
  clear Hy'
  have HBS := HBS'
  clear HBS'
  have Hz := Hz'
  clear Hz'
  clear hb
  have Hlw := Lib.hid hlw
  clear hlw
  have hbx : Below wx2.heap.size wx2 (wx2.alloc (.cells #[.int .i64 sw, .int .i64 vw, .slice aw (flen kw) cw] 26)) := box_low _ _
  have Hn : Hid (Tb wx2.heap.size sw vw aw cw kw (wx2.alloc (.cells #[.int .i64 sw, .int .i64 vw, .slice aw (flen kw) cw] 26))) := Tb.new Hlw.out
  have Hlow' : Hid (Below w.heap.size w (wx2.alloc (.cells #[.int .i64 sw, .int .i64 vw, .slice aw (flen kw) cw] 26))) := below_next Hlow.out hbx
  have HP' : Hid (ISc (wx2.alloc (.cells #[.int .i64 sw, .int .i64 vw, .slice aw (flen kw) cw] 26)) 0 (wx2.alloc (.cells #[.int .i64 sw, .int .i64 vw, .slice aw (flen kw) cw] 26)).heap.size pA pC place) := HP.out.next hbx
  have Ht' : Hid (Tb wa.heap.size s v a c k (wx2.alloc (.cells #[.int .i64 sw, .int .i64 vw, .slice aw (flen kw) cw] 26))) := Ht.out.next hbx
  have Hy' : Hid (Tb (wa.heap.size + 1) s2 v2 a2 c2 k2 (wx2.alloc (.cells #[.int .i64 sw, .int .i64 vw, .slice aw (flen kw) cw] 26))) := Hy.out.next hbx
  have HBS' : Hid (BSl (wx2.alloc (.cells #[.int .i64 sw, .int .i64 vw, .slice aw (flen kw) cw] 26)) 0 (wx2.alloc (.cells #[.int .i64 sw, .int .i64 vw, .slice aw (flen kw) cw] 26)).heap.size A bs) := HBS.out.next hbx
  have Hz' : Hid (Tb wx1.heap.size sz vz az cz kz (wx2.alloc (.cells #[.int .i64 sw, .int .i64 vw, .slice aw (flen kw) cw] 26))) := Hz.out.next hbx
  clear Hlow HP Ht Hy HBS Hz
  have Hlow := Hlow'
  clear Hlow'
  have HP := HP'
  clear HP'
  have Ht := Ht'
  clear Ht'
  have Hy := Hy'
  clear Hy'
  have HBS := HBS'
  clear HBS'
  have Hz := Hz'
  clear Hz'
  have Hw := Hn
  clear Hn hbx
  clear Hlw
  have qt0 := Ht.out.c0
  have qt1 := Ht.out.c1
  have qt2 := Ht.out.c2
  have qy0 := Hy.out.c0
  have qy1 := Hy.out.c1
  have qy2 := Hy.out.c2
  go_wp2_with fail
  with_reducible refine (iTermPut_any s v a c k pA pC place s2 v2 a2 c2 k2 _ Ht.out.sl HP.out (by omega) Hy.out.sl).mono ?_
  rintro e wx3 ⟨ax, cx, sx, vx, kx, tx, hdx, rfl, hb, hlx⟩
  rw [HDw.out] at hdx
  simp only [Prod.mk.injEq] at hdx
  obtain ⟨rfl, rfl, rfl, rfl⟩ := hdx
  clear qt0 qt1 qt2 qy0 qy1 qy2
  have Hlow' : Hid (Below w.heap.size w wx3) := below_next Hlow.out hb
  have HP' : Hid (ISc wx3 0 wx3.heap.size pA pC place) := HP.out.next hb
  have Ht' : Hid (Tb wa.heap.size s v a c k wx3) := Ht.out.next hb
  have Hy' : Hid (Tb (wa.heap.size + 1) s2 v2 a2 c2 k2 wx3) := Hy.out.next hb
  have HBS' : Hid (BSl wx3 0 wx3.heap.size A bs) := HBS.out.next hb
  have Hz' : Hid (Tb wx1.heap.size sz vz az cz kz wx3) := Hz.out.next hb
  have Hw' : Hid (Tb wx2.heap.size sw vw aw cw kw wx3) := Hw.out.next hb
  clear Hlow HP Ht Hy HBS Hz Hw
  have Hlow := Hlow'
  clear Hlow'
  have HP := HP'
  clear HP'
  have Ht := Ht'
  clear Ht'
  have Hy := Hy'
  clear Hy'
  have HBS := HBS'
  clear HBS'
  have Hz := Hz'
  clear Hz'
  have Hw := Hw'
  clear Hw'
  clear hb
  have Hlx := Lib.hid hlx
  clear hlx
  have hbx : Below wx3.heap.size wx3 (wx3.alloc (.cells #[.int .i64 sw, .int .i64 vw, .slice ax (flen kw) cx] 26)) := box_low _ _
  have Hn : Hid (Tb wx3.heap.size sw vw ax cx kw (wx3.alloc (.cells #[.int .i64 sw, .int .i64 vw, .slice ax (flen kw) cx] 26))) := Tb.new Hlx.out
  have Hlow' : Hid (Below w.heap.size w (wx3.alloc (.cells #[.int .i64 sw, .int .i64 vw, .slice ax (flen kw) cx] 26))) := below_next Hlow.out hbx
  have HP' : Hid (ISc (wx3.alloc (.cells #[.int .i64 sw, .int .i64 vw, .slice ax (flen kw) cx] 26)) 0 (wx3.alloc (.cells #[.int .i64 sw, .int .i64 vw, .slice ax (flen kw) cx] 26)).heap.size pA pC place) := HP.out.next hbx
  have Ht' : Hid (Tb wa.heap.size s v a c k (wx3.alloc (.cells #[.int .i64 sw, .int .i64 vw, .slice ax (flen kw) cx] 26))) := Ht.out.next hbx
  have Hy' : Hid (Tb (wa.heap.size + 1) s2 v2 a2 c2 k2 (wx3.alloc (.cells #[.int .i64 sw, .int .i64 vw, .slice ax (flen kw) cx] 26))) := Hy.out.next hbx
  have HBS' : Hid (BSl (wx3.alloc (.cells #[.int .i64 sw, .int .i64 vw, .slice ax (flen kw) cx] 26)) 0 (wx3.alloc (.cells #[.int .i64 sw, .int .i64 vw, .slice ax (flen kw) cx] 26)).heap.size A bs) := HBS.out.next hbx
  have Hz' : Hid (Tb wx1.heap.size sz vz az cz kz (wx3.alloc (.cells #[.int .i64 sw, .int .i64 vw, .slice ax (flen kw) cx] 26))) := Hz.out.next hbx
  have Hw' : Hid (Tb wx2.heap.size sw vw aw cw kw (wx3.alloc (.cells #[.int .i64 sw, .int .i64 vw, .slice ax (flen kw) cx] 26))) := Hw.out.next hbx
  clear Hlow HP Ht Hy HBS Hz Hw
  have Hlow := Hlow'
  clear Hlow'
  have HP := HP'
  clear HP'
  have Ht := Ht'
  clear Ht'
  have Hy := Hy'
  clear Hy'
  have HBS := HBS'
  clear HBS'
  have Hz := Hz'
  clear Hz'
  have Hw := Hw'
  clear Hw'
  have Hx := Hn
  clear Hn hbx
  clear Hlx
  have hkw := putR_sz HDw.out
  have eb : (tw != tw) = false := by simp
  have eb2 : (tw == tw) = true := by simp
  have qx0 := Hx.out.c0
  have qx1 := Hx.out.c1
  have qx2 := Hx.out.c2
  have qw0 := Hw.out.c0
  have qw1 := Hw.out.c1
  have qw2 := Hw.out.c2
  go_wp2_with fail
  with_reducible refine (laTerm_same (fsz kw) sw vw ax aw cx cw kw _ Hx.out.sl Hw.out.sl (Nat.le_refl _) (by omega)).mono ?_
  rintro e wx4 ⟨rfl, hb⟩
  clear qx0 qx1 qx2 qw0 qw1 qw2
  have Hlow' : Hid (Below w.heap.size w wx4) := below_next Hlow.out hb
  have HP' : Hid (ISc wx4 0 wx4.heap.size pA pC place) := HP.out.next hb
  have Ht' : Hid (Tb wa.heap.size s v a c k wx4) := Ht.out.next hb
  have Hy' : Hid (Tb (wa.heap.size + 1) s2 v2 a2 c2 k2 wx4) := Hy.out.next hb
  have HBS' : Hid (BSl wx4 0 wx4.heap.size A bs) := HBS.out.next hb
  have Hz' : Hid (Tb wx1.heap.size sz vz az cz kz wx4) := Hz.out.next hb
  have Hw' : Hid (Tb wx2.heap.size sw vw aw cw kw wx4) := Hw.out.next hb
  have Hx' : Hid (Tb wx3.heap.size sw vw ax cx kw wx4) := Hx.out.next hb
  clear Hlow HP Ht Hy HBS Hz Hw Hx
  have Hlow := Hlow'
  clear Hlow'
  have HP := HP'
  clear HP'
  have Ht := Ht'
  clear Ht'
  have Hy := Hy'
  clear Hy'
  have HBS := HBS'
  clear HBS'
  have Hz := Hz'
  clear Hz'
  have Hw := Hw'
  clear Hw'
  have Hx := Hx'
  clear Hx'
  clear hb
  cases tw with
  | false =>
    have qx0 := Hx.out.c0
    have qx1 := Hx.out.c1
    have qx2 := Hx.out.c2
    have qw0 := Hw.out.c0
    have qw1 := Hw.out.c1
    have qw2 := Hw.out.c2
    go_wp2_with fail
    with_reducible refine (laTerm_same (fsz kw) sw vw ax aw cx cw kw _ Hx.out.sl Hw.out.sl (Nat.le_refl _) (by omega)).mono ?_
    rintro e wx5 ⟨rfl, hb⟩
    clear qx0 qx1 qx2 qw0 qw1 qw2
    have Hlow' : Hid (Below w.heap.size w wx5) := below_next Hlow.out hb
    have HP' : Hid (ISc wx5 0 wx5.heap.size pA pC place) := HP.out.next hb
    have Ht' : Hid (Tb wa.heap.size s v a c k wx5) := Ht.out.next hb
    have Hy' : Hid (Tb (wa.heap.size + 1) s2 v2 a2 c2 k2 wx5) := Hy.out.next hb
    have HBS' : Hid (BSl wx5 0 wx5.heap.size A bs) := HBS.out.next hb
    have Hz' : Hid (Tb wx1.heap.size sz vz az cz kz wx5) := Hz.out.next hb
    have Hw' : Hid (Tb wx2.heap.size sw vw aw cw kw wx5) := Hw.out.next hb
    have Hx' : Hid (Tb wx3.heap.size sw vw ax cx kw wx5) := Hx.out.next hb
    clear Hlow HP Ht Hy HBS Hz Hw Hx
    have Hlow := Hlow'
    clear Hlow'
    have HP := HP'
    clear HP'
    have Ht := Ht'
    clear Ht'
    have Hy := Hy'
    clear Hy'
    have HBS := HBS'
    clear HBS'
    have Hz := Hz'
    clear Hz'
    have Hw := Hw'
    clear Hw'
    have Hx := Hx'
    clear Hx'
    clear hb
    go_wp2_with fail
    go_ret
    exact ⟨rfl, Hlow.out⟩
  | true =>
    clear eb eb2
    have qt0 := Ht.out.c0
    have qt1 := Ht.out.c1
    have qt2 := Ht.out.c2
    go_wp2_with fail
    with_reducible refine (iSubstDo_any bs A C s v a c k _ HBS.out (by omega) Ht.out.sl).mono ?_
    rintro e wx5 ⟨aa, ca, sa, va, ka, ta, hda, rfl, hb, hla⟩
    have HDa := Lib.hid hda
    clear hda
    clear qt0 qt1 qt2
    have Hlow' : Hid (Below w.heap.size w wx5) := below_next Hlow.out hb
    have HP' : Hid (ISc wx5 0 wx5.heap.size pA pC place) := HP.out.next hb
    have Ht' : Hid (Tb wa.heap.size s v a c k wx5) := Ht.out.next hb
    have Hy' : Hid (Tb (wa.heap.size + 1) s2 v2 a2 c2 k2 wx5) := Hy.out.next hb
    have HBS' : Hid (BSl wx5 0 wx5.heap.size A bs) := HBS.out.next hb
    have Hz' : Hid (Tb wx1.heap.size sz vz az cz kz wx5) := Hz.out.next hb
    have Hw' : Hid (Tb wx2.heap.size sw vw aw cw kw wx5) := Hw.out.next hb
    have Hx' : Hid (Tb wx3.heap.size sw vw ax cx kw wx5) := Hx.out.next hb
    clear Hlow HP Ht Hy HBS Hz Hw Hx
    have Hlow := Hlow'
    clear Hlow'
    have HP := HP'
    clear HP'
    have Ht := Ht'
    clear Ht'
    have Hy := Hy'
    clear Hy'
    have HBS := HBS'
    clear HBS'
    have Hz := Hz'
    clear Hz'
    have Hw := Hw'
    clear Hw'
    have Hx := Hx'
    clear Hx'
    clear hb
    have Hla := Lib.hid hla
    clear hla
    have hbx : Below wx5.heap.size wx5 (wx5.alloc (.cells #[.int .i64 sa, .int .i64 va, .slice aa (flen ka) ca] 26)) := box_low _ _
    have Hn : Hid (Tb wx5.heap.size sa va aa ca ka (wx5.alloc (.cells #[.int .i64 sa, .int .i64 va, .slice aa (flen ka) ca] 26))) := Tb.new Hla.out
    have Hlow' : Hid (Below w.heap.size w (wx5.alloc (.cells #[.int .i64 sa, .int .i64 va, .slice aa (flen ka) ca] 26))) := below_next Hlow.out hbx
    have HP' : Hid (ISc (wx5.alloc (.cells #[.int .i64 sa, .int .i64 va, .slice aa (flen ka) ca] 26)) 0 (wx5.alloc (.cells #[.int .i64 sa, .int .i64 va, .slice aa (flen ka) ca] 26)).heap.size pA pC place) := HP.out.next hbx
    have Ht' : Hid (Tb wa.heap.size s v a c k (wx5.alloc (.cells #[.int .i64 sa, .int .i64 va, .slice aa (flen ka) ca] 26))) := Ht.out.next hbx
    have Hy' : Hid (Tb (wa.heap.size + 1) s2 v2 a2 c2 k2 (wx5.alloc (.cells #[.int .i64 sa, .int .i64 va, .slice aa (flen ka) ca] 26))) := Hy.out.next hbx
    have HBS' : Hid (BSl (wx5.alloc (.cells #[.int .i64 sa, .int .i64 va, .slice aa (flen ka) ca] 26)) 0 (wx5.alloc (.cells #[.int .i64 sa, .int .i64 va, .slice aa (flen ka) ca] 26)).heap.size A bs) := HBS.out.next hbx
    have Hz' : Hid (Tb wx1.heap.size sz vz az cz kz (wx5.alloc (.cells #[.int .i64 sa, .int .i64 va, .slice aa (flen ka) ca] 26))) := Hz.out.next hbx
    have Hw' : Hid (Tb wx2.heap.size sw vw aw cw kw (wx5.alloc (.cells #[.int .i64 sa, .int .i64 va, .slice aa (flen ka) ca] 26))) := Hw.out.next hbx
    have Hx' : Hid (Tb wx3.heap.size sw vw ax cx kw (wx5.alloc (.cells #[.int .i64 sa, .int .i64 va, .slice aa (flen ka) ca] 26))) := Hx.out.next hbx
    clear Hlow HP Ht Hy HBS Hz Hw Hx
    have Hlow := Hlow'
    clear Hlow'
    have HP := HP'
    clear HP'
    have Ht := Ht'
    clear Ht'
    have Hy := Hy'
    clear Hy'
    have HBS := HBS'
    clear HBS'
    have Hz := Hz'
    clear Hz'
    have Hw := Hw'
    clear Hw'
    have Hx := Hx'
    clear Hx'
    have Ha := Hn
    clear Hn hbx
    clear Hla
    have qy0 := Hy.out.c0
    have qy1 := Hy.out.c1
    have qy2 := Hy.out.c2
    go_wp2_with fail
    with_reducible refine (iSubstDo_any bs A C s2 v2 a2 c2 k2 _ HBS.out (by omega) Hy.out.sl).mono ?_
    rintro e wx6 ⟨ab, cb, sb, vb, kb, tb, hdb, rfl, hb, hlb⟩
    have HDb := Lib.hid hdb
    clear hdb
    clear qy0 qy1 qy2
    have Hlow' : Hid (Below w.heap.size w wx6) := below_next Hlow.out hb
    have HP' : Hid (ISc wx6 0 wx6.heap.size pA pC place) := HP.out.next hb
    have Ht' : Hid (Tb wa.heap.size s v a c k wx6) := Ht.out.next hb
    have Hy' : Hid (Tb (wa.heap.size + 1) s2 v2 a2 c2 k2 wx6) := Hy.out.next hb
    have HBS' : Hid (BSl wx6 0 wx6.heap.size A bs) := HBS.out.next hb
    have Hz' : Hid (Tb wx1.heap.size sz vz az cz kz wx6) := Hz.out.next hb
    have Hw' : Hid (Tb wx2.heap.size sw vw aw cw kw wx6) := Hw.out.next hb
    have Hx' : Hid (Tb wx3.heap.size sw vw ax cx kw wx6) := Hx.out.next hb
    have Ha' : Hid (Tb wx5.heap.size sa va aa ca ka wx6) := Ha.out.next hb
    clear Hlow HP Ht Hy HBS Hz Hw Hx Ha
    have Hlow := Hlow'
    clear Hlow'
    have HP := HP'
    clear HP'
    have Ht := Ht'
    clear Ht'
    have Hy := Hy'
    clear Hy'
    have HBS := HBS'
    clear HBS'
    have Hz := Hz'
    clear Hz'
    have Hw := Hw'
    clear Hw'
    have Hx := Hx'
    clear Hx'
    have Ha := Ha'
    clear Ha'
    clear hb
    have Hlb := Lib.hid hlb
    clear hlb
    have hbx : Below wx6.heap.size wx6 (wx6.alloc (.cells #[.int .i64 sb, .int .i64 vb, .slice ab (flen kb) cb] 26)) := box_low _ _
    have Hn : Hid (Tb wx6.heap.size sb vb ab cb kb (wx6.alloc (.cells #[.int .i64 sb, .int .i64 vb, .slice ab (flen kb) cb] 26))) := Tb.new Hlb.out
    have Hlow' : Hid (Below w.heap.size w (wx6.alloc (.cells #[.int .i64 sb, .int .i64 vb, .slice ab (flen kb) cb] 26))) := below_next Hlow.out hbx
    have HP' : Hid (ISc (wx6.alloc (.cells #[.int .i64 sb, .int .i64 vb, .slice ab (flen kb) cb] 26)) 0 (wx6.alloc (.cells #[.int .i64 sb, .int .i64 vb, .slice ab (flen kb) cb] 26)).heap.size pA pC place) := HP.out.next hbx
    have Ht' : Hid (Tb wa.heap.size s v a c k (wx6.alloc (.cells #[.int .i64 sb, .int .i64 vb, .slice ab (flen kb) cb] 26))) := Ht.out.next hbx
    have Hy' : Hid (Tb (wa.heap.size + 1) s2 v2 a2 c2 k2 (wx6.alloc (.cells #[.int .i64 sb, .int .i64 vb, .slice ab (flen kb) cb] 26))) := Hy.out.next hbx
    have HBS' : Hid (BSl (wx6.alloc (.cells #[.int .i64 sb, .int .i64 vb, .slice ab (flen kb) cb] 26)) 0 (wx6.alloc (.cells #[.int .i64 sb, .int .i64 vb, .slice ab (flen kb) cb] 26)).heap.size A bs) := HBS.out.next hbx
    have Hz' : Hid (Tb wx1.heap.size sz vz az cz kz (wx6.alloc (.cells #[.int .i64 sb, .int .i64 vb, .slice ab (flen kb) cb] 26))) := Hz.out.next hbx
    have Hw' : Hid (Tb wx2.heap.size sw vw aw cw kw (wx6.alloc (.cells #[.int .i64 sb, .int .i64 vb, .slice ab (flen kb) cb] 26))) := Hw.out.next hbx
    have Hx' : Hid (Tb wx3.heap.size sw vw ax cx kw (wx6.alloc (.cells #[.int .i64 sb, .int .i64 vb, .slice ab (flen kb) cb] 26))) := Hx.out.next hbx
    have Ha' : Hid (Tb wx5.heap.size sa va aa ca ka (wx6.alloc (.cells #[.int .i64 sb, .int .i64 vb, .slice ab (flen kb) cb] 26))) := Ha.out.next hbx
    clear Hlow HP Ht Hy HBS Hz Hw Hx Ha
    have Hlow := Hlow'
    clear Hlow'
    have HP := HP'
    clear HP'
    have Ht := Ht'
    clear Ht'
    have Hy := Hy'
    clear Hy'
    have HBS := HBS'
    clear HBS'
    have Hz := Hz'
    clear Hz'
    have Hw := Hw'
    clear Hw'
    have Hx := Hx'
    clear Hx'
    have Ha := Ha'
    clear Ha'
    have Hb := Hn
    clear Hn hbx
    clear Hlb
    have qx0 := Hx.out.c0
    have qx1 := Hx.out.c1
    have qx2 := Hx.out.c2
    go_wp2_with fail
    with_reducible refine (iSubstDo_any bs A C sw vw ax cx kw _ HBS.out (by omega) Hx.out.sl).mono ?_
    rintro e wx7 ⟨ac, cc, sc, vc, kc, tc, hdc, rfl, hb, hlc⟩
    have HDc := Lib.hid hdc
    clear hdc
    clear qx0 qx1 qx2
    have Hlow' : Hid (Below w.heap.size w wx7) := below_next Hlow.out hb
    have HP' : Hid (ISc wx7 0 wx7.heap.size pA pC place) := HP.out.next hb
    have Ht' : Hid (Tb wa.heap.size s v a c k wx7) := Ht.out.next hb
    have Hy' : Hid (Tb (wa.heap.size + 1) s2 v2 a2 c2 k2 wx7) := Hy.out.next hb
    have HBS' : Hid (BSl wx7 0 wx7.heap.size A bs) := HBS.out.next hb
    have Hz' : Hid (Tb wx1.heap.size sz vz az cz kz wx7) := Hz.out.next hb
    have Hw' : Hid (Tb wx2.heap.size sw vw aw cw kw wx7) := Hw.out.next hb
    have Hx' : Hid (Tb wx3.heap.size sw vw ax cx kw wx7) := Hx.out.next hb
    have Ha' : Hid (Tb wx5.heap.size sa va aa ca ka wx7) := Ha.out.next hb
    have Hb' : Hid (Tb wx6.heap.size sb vb ab cb kb wx7) := Hb.out.next hb
    clear Hlow HP Ht Hy HBS Hz Hw Hx Ha Hb
    have Hlow := Hlow'
    clear Hlow'
    have HP := HP'
    clear HP'
    have Ht := Ht'
    clear Ht'
    have Hy := Hy'
    clear Hy'
    have HBS := HBS'
    clear HBS'
    have Hz := Hz'
    clear Hz'
    have Hw := Hw'
    clear Hw'
    have Hx := Hx'
    clear Hx'
    have Ha := Ha'
    clear Ha'
    have Hb := Hb'
    clear Hb'
    clear hb
    have Hlc := Lib.hid hlc
    clear hlc
    have hbx : Below wx7.heap.size wx7 (wx7.alloc (.cells #[.int .i64 sc, .int .i64 vc, .slice ac (flen kc) cc] 26)) := box_low _ _
    have Hn : Hid (Tb wx7.heap.size sc vc ac cc kc (wx7.alloc (.cells #[.int .i64 sc, .int .i64 vc, .slice ac (flen kc) cc] 26))) := Tb.new Hlc.out
    have Hlow' : Hid (Below w.heap.size w (wx7.alloc (.cells #[.int .i64 sc, .int .i64 vc, .slice ac (flen kc) cc] 26))) := below_next Hlow.out hbx
    have HP' : Hid (ISc (wx7.alloc (.cells #[.int .i64 sc, .int .i64 vc, .slice ac (flen kc) cc] 26)) 0 (wx7.alloc (.cells #[.int .i64 sc, .int .i64 vc, .slice ac (flen kc) cc] 26)).heap.size pA pC place) := HP.out.next hbx
    have Ht' : Hid (Tb wa.heap.size s v a c k (wx7.alloc (.cells #[.int .i64 sc, .int .i64 vc, .slice ac (flen kc) cc] 26))) := Ht.out.next hbx
    have Hy' : Hid (Tb (wa.heap.size + 1) s2 v2 a2 c2 k2 (wx7.alloc (.cells #[.int .i64 sc, .int .i64 vc, .slice ac (flen kc) cc] 26))) := Hy.out.next hbx
    have HBS' : Hid (BSl (wx7.alloc (.cells #[.int .i64 sc, .int .i64 vc, .slice ac (flen kc) cc] 26)) 0 (wx7.alloc (.cells #[.int .i64 sc, .int .i64 vc, .slice ac (flen kc) cc] 26)).heap.size A bs) := HBS.out.next hbx
    have Hz' : Hid (Tb wx1.heap.size sz vz az cz kz (wx7.alloc (.cells #[.int .i64 sc, .int .i64 vc, .slice ac (flen kc) cc] 26))) := Hz.out.next hbx
    have Hw' : Hid (Tb wx2.heap.size sw vw aw cw kw (wx7.alloc (.cells #[.int .i64 sc, .int .i64 vc, .slice ac (flen kc) cc] 26))) := Hw.out.next hbx
    have Hx' : Hid (Tb wx3.heap.size sw vw ax cx kw (wx7.alloc (.cells #[.int .i64 sc, .int .i64 vc, .slice ac (flen kc) cc] 26))) := Hx.out.next hbx
    have Ha' : Hid (Tb wx5.heap.size sa va aa ca ka (wx7.alloc (.cells #[.int .i64 sc, .int .i64 vc, .slice ac (flen kc) cc] 26))) := Ha.out.next hbx
    have Hb' : Hid (Tb wx6.heap.size sb vb ab cb kb (wx7.alloc (.cells #[.int .i64 sc, .int .i64 vc, .slice ac (flen kc) cc] 26))) := Hb.out.next hbx
    clear Hlow HP Ht Hy HBS Hz Hw Hx Ha Hb
    have Hlow := Hlow'
    clear Hlow'
    have HP := HP'
    clear HP'
    have Ht := Ht'
    clear Ht'
    have Hy := Hy'
    clear Hy'
    have HBS := HBS'
    clear HBS'
    have Hz := Hz'
    clear Hz'
    have Hw := Hw'
    clear Hw'
    have Hx := Hx'
    clear Hx'
    have Ha := Ha'
    clear Ha'
    have Hb := Hb'
    clear Hb'
    have Hc := Hn
    clear Hn hbx
    clear Hlc
    have qa0 := Ha.out.c0
    have qa1 := Ha.out.c1
    have qa2 := Ha.out.c2
    have qb0 := Hb.out.c0
    have qb1 := Hb.out.c1
    have qb2 := Hb.out.c2
    go_wp2_with fail
    with_reducible refine (iTermPut_any sa va aa ca ka pA pC place sb vb ab cb kb _ Ha.out.sl HP.out (by omega) Hb.out.sl).mono ?_
    rintro e wx8 ⟨ad, cd, sd, vd, kd, td, hdd, rfl, hb, hld⟩
    have HDd := Lib.hid hdd
    clear hdd
    clear qa0 qa1 qa2 qb0 qb1 qb2
    have Hlow' : Hid (Below w.heap.size w wx8) := below_next Hlow.out hb
    have HP' : Hid (ISc wx8 0 wx8.heap.size pA pC place) := HP.out.next hb
    have Ht' : Hid (Tb wa.heap.size s v a c k wx8) := Ht.out.next hb
    have Hy' : Hid (Tb (wa.heap.size + 1) s2 v2 a2 c2 k2 wx8) := Hy.out.next hb
    have HBS' : Hid (BSl wx8 0 wx8.heap.size A bs) := HBS.out.next hb
    have Hz' : Hid (Tb wx1.heap.size sz vz az cz kz wx8) := Hz.out.next hb
    have Hw' : Hid (Tb wx2.heap.size sw vw aw cw kw wx8) := Hw.out.next hb
    have Hx' : Hid (Tb wx3.heap.size sw vw ax cx kw wx8) := Hx.out.next hb
    have Ha' : Hid (Tb wx5.heap.size sa va aa ca ka wx8) := Ha.out.next hb
    have Hb' : Hid (Tb wx6.heap.size sb vb ab cb kb wx8) := Hb.out.next hb
    have Hc' : Hid (Tb wx7.heap.size sc vc ac cc kc wx8) := Hc.out.next hb
    clear Hlow HP Ht Hy HBS Hz Hw Hx Ha Hb Hc
    have Hlow := Hlow'
    clear Hlow'
    have HP := HP'
    clear HP'
    have Ht := Ht'
    clear Ht'
    have Hy := Hy'
    clear Hy'
    have HBS := HBS'
    clear HBS'
    have Hz := Hz'
    clear Hz'
    have Hw := Hw'
    clear Hw'
    have Hx := Hx'
    clear Hx'
    have Ha := Ha'
    clear Ha'
    have Hb := Hb'
    clear Hb'
    have Hc := Hc'
    clear Hc'
    clear hb
    have Hld := Lib.hid hld
    clear hld
    have hbx : Below wx8.heap.size wx8 (wx8.alloc (.cells #[.int .i64 sd, .int .i64 vd, .slice ad (flen kd) cd] 26)) := box_low _ _
    have Hn : Hid (Tb wx8.heap.size sd vd ad cd kd (wx8.alloc (.cells #[.int .i64 sd, .int .i64 vd, .slice ad (flen kd) cd] 26))) := Tb.new Hld.out
    have Hlow' : Hid (Below w.heap.size w (wx8.alloc (.cells #[.int .i64 sd, .int .i64 vd, .slice ad (flen kd) cd] 26))) := below_next Hlow.out hbx
    have HP' : Hid (ISc (wx8.alloc (.cells #[.int .i64 sd, .int .i64 vd, .slice ad (flen kd) cd] 26)) 0 (wx8.alloc (.cells #[.int .i64 sd, .int .i64 vd, .slice ad (flen kd) cd] 26)).heap.size pA pC place) := HP.out.next hbx
    have Ht' : Hid (Tb wa.heap.size s v a c k (wx8.alloc (.cells #[.int .i64 sd, .int .i64 vd, .slice ad (flen kd) cd] 26))) := Ht.out.next hbx
    have Hy' : Hid (Tb (wa.heap.size + 1) s2 v2 a2 c2 k2 (wx8.alloc (.cells #[.int .i64 sd, .int .i64 vd, .slice ad (flen kd) cd] 26))) := Hy.out.next hbx
    have HBS' : Hid (BSl (wx8.alloc (.cells #[.int .i64 sd, .int .i64 vd, .slice ad (flen kd) cd] 26)) 0 (wx8.alloc (.cells #[.int .i64 sd, .int .i64 vd, .slice ad (flen kd) cd] 26)).heap.size A bs) := HBS.out.next hbx
    have Hz' : Hid (Tb wx1.heap.size sz vz az cz kz (wx8.alloc (.cells #[.int .i64 sd, .int .i64 vd, .slice ad (flen kd) cd] 26))) := Hz.out.next hbx
    have Hw' : Hid (Tb wx2.heap.size sw vw aw cw kw (wx8.alloc (.cells #[.int .i64 sd, .int .i64 vd, .slice ad (flen kd) cd] 26))) := Hw.out.next hbx
    have Hx' : Hid (Tb wx3.heap.size sw vw ax cx kw (wx8.alloc (.cells #[.int .i64 sd, .int .i64 vd, .slice ad (flen kd) cd] 26))) := Hx.out.next hbx
    have Ha' : Hid (Tb wx5.heap.size sa va aa ca ka (wx8.alloc (.cells #[.int .i64 sd, .int .i64 vd, .slice ad (flen kd) cd] 26))) := Ha.out.next hbx
    have Hb' : Hid (Tb wx6.heap.size sb vb ab cb kb (wx8.alloc (.cells #[.int .i64 sd, .int .i64 vd, .slice ad (flen kd) cd] 26))) := Hb.out.next hbx
    have Hc' : Hid (Tb wx7.heap.size sc vc ac cc kc (wx8.alloc (.cells #[.int .i64 sd, .int .i64 vd, .slice ad (flen kd) cd] 26))) := Hc.out.next hbx
    clear Hlow HP Ht Hy HBS Hz Hw Hx Ha Hb Hc
    have Hlow := Hlow'
    clear Hlow'
    have HP := HP'
    clear HP'
    have Ht := Ht'
    clear Ht'
    have Hy := Hy'
    clear Hy'
    have HBS := HBS'
    clear HBS'
    have Hz := Hz'
    clear Hz'
    have Hw := Hw'
    clear Hw'
    have Hx := Hx'
    clear Hx'
    have Ha := Ha'
    clear Ha'
    have Hb := Hb'
    clear Hb'
    have Hc := Hc'
    clear Hc'
    have Hd := Hn
    clear Hn hbx
    clear Hld
    cases ta with
    | false =>
      go_wp2_with fail
      go_ret
      exact ⟨rfl, Hlow.out⟩
    | true =>
      cases tb with
      | false =>
        go_wp2_with fail
        go_ret
        exact ⟨rfl, Hlow.out⟩
      | true =>
        have hE := HDd.out
        rw [put_sub HDw.out HDa.out HDb.out, HDc.out] at hE
        simp only [Prod.mk.injEq] at hE
        obtain ⟨rfl, rfl, rfl, rfl⟩ := hE
        have hkc := sdR_sz HDc.out
        have ec : (tc == tc) = true := by simp
        cases tc with
        | false =>
          go_wp2_with fail
          go_ret
          exact ⟨rfl, Hlow.out⟩
        | true =>
          have qc0 := Hc.out.c0
          have qc1 := Hc.out.c1
          have qc2 := Hc.out.c2
          have qd0 := Hd.out.c0
          have qd1 := Hd.out.c1
          have qd2 := Hd.out.c2
          go_wp2_with fail
          with_reducible refine (laTerm_same (fsz kc) sc vc ac ad cc cd kc _ Hc.out.sl Hd.out.sl (Nat.le_refl _) (by omega)).mono ?_
          rintro e wx9 ⟨rfl, hb⟩
          clear qc0 qc1 qc2 qd0 qd1 qd2
          have Hlow' : Hid (Below w.heap.size w wx9) := below_next Hlow.out hb
          have HP' : Hid (ISc wx9 0 wx9.heap.size pA pC place) := HP.out.next hb
          have Ht' : Hid (Tb wa.heap.size s v a c k wx9) := Ht.out.next hb
          have Hy' : Hid (Tb (wa.heap.size + 1) s2 v2 a2 c2 k2 wx9) := Hy.out.next hb
          have HBS' : Hid (BSl wx9 0 wx9.heap.size A bs) := HBS.out.next hb
          have Hz' : Hid (Tb wx1.heap.size sz vz az cz kz wx9) := Hz.out.next hb
          have Hw' : Hid (Tb wx2.heap.size sw vw aw cw kw wx9) := Hw.out.next hb
          have Hx' : Hid (Tb wx3.heap.size sw vw ax cx kw wx9) := Hx.out.next hb
          have Ha' : Hid (Tb wx5.heap.size sa va aa ca ka wx9) := Ha.out.next hb
          have Hb' : Hid (Tb wx6.heap.size sb vb ab cb kb wx9) := Hb.out.next hb
          have Hc' : Hid (Tb wx7.heap.size sc vc ac cc kc wx9) := Hc.out.next hb
          have Hd' : Hid (Tb wx8.heap.size sc vc ad cd kc wx9) := Hd.out.next hb
          clear Hlow HP Ht Hy HBS Hz Hw Hx Ha Hb Hc Hd
          have Hlow := Hlow'
          clear Hlow'
          have HP := HP'
          clear HP'
          have Ht := Ht'
          clear Ht'
          have Hy := Hy'
          clear Hy'
          have HBS := HBS'
          clear HBS'
          have Hz := Hz'
          clear Hz'
          have Hw := Hw'
          clear Hw'
          have Hx := Hx'
          clear Hx'
          have Ha := Ha'
          clear Ha'
          have Hb := Hb'
          clear Hb'
          have Hc := Hc'
          clear Hc'
          have Hd := Hd'
          clear Hd'
          clear hb
          go_wp2_with fail
          go_ret
          exact ⟨rfl, Hlow.out⟩
end Go.Proofs.Ytkmfnhoeigoajaa
