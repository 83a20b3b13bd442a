/- Several texts in one: LawLBack. -/
import Derived.Test.YtdkcbbhkoibplaaKLk29
import Derived.Test.YtdkcbbhkoibplaaKLk34
import Derived.Test.YtdkcbbhkoibplaaKLk35
import Derived.Test.YtdkcbbhkoibplaaKLk24
import Derived.Test.YtdkcbbhkoibplaaKLk36

/-! LawLBack: laws.FnLinkBack answers true at every code. -/
namespace Go.Proofs.Ytdkcbbhkoibplaa
open Go.RowKit Go.Deep
attribute [local go_sem ↓] Go.wp_at_zero Go.wp_at_succ

set_option maxRecDepth 100000 in
set_option maxHeartbeats 4000000 in
theorem linkBack_walk (a0 : Option Addr) (len cap : Nat) (w : World) (hby : Bytes w a0 len) (hlen : len ≤ cap) :
    Calls Try.prog 4 #[.slice a0 len cap] w fun e w' => e = .returned (.bool true) ∧ Below w.heap.size w w' := by
  have HBY := Lib.hid hby
  clear hby
  by_cases hbiglen : 1048576 < len
  · go_enter Try.func4, Try.ntmps4
    go_wp2_with fail
    go_ret
    exact ⟨rfl, Below.refl _ _⟩
  go_enter Try.func4, Try.ntmps4
  go_wp2_with fail
  with_reducible refine (DrawLinkDo_any a0 len cap _ HBY.out hlen).mono ?_
  rintro e wa ⟨es, A, C, s, v, a, c, k, eq, back, pA, pC, place, B, D, bs, rfl, hel, hok, hz, hpl, hbl, hb, he, hl, hpi, hbi⟩
  have Hlow := Lib.hid hb
  have HE := Lib.hid he
  have HP := Lib.hid hpi
  have HBS := Lib.hid hbi
  have HL := Lib.hid hl
  have HOKZ := Lib.hid hok
  clear hb he hl hpi hbi hok HBY
  have hbx : Below wa.heap.size wa (wa.alloc (.cells #[.int .i64 s, .int .i64 v, .slice a (flen k) c] 35)) := box_low _ _
  have Hn : Hid (Tb wa.heap.size s v a c k (wa.alloc (.cells #[.int .i64 s, .int .i64 v, .slice a (flen k) c] 35))) := Tb.new HL.out
  have Hlow' : Hid (Below w.heap.size w (wa.alloc (.cells #[.int .i64 s, .int .i64 v, .slice a (flen k) c] 35))) := below_next Hlow.out hbx
  have HE' : Hid (ESl (wa.alloc (.cells #[.int .i64 s, .int .i64 v, .slice a (flen k) c] 35)) 0 (wa.alloc (.cells #[.int .i64 s, .int .i64 v, .slice a (flen k) c] 35)).heap.size A es) := HE.out.next hbx
  have HP' : Hid (ISc (wa.alloc (.cells #[.int .i64 s, .int .i64 v, .slice a (flen k) c] 35)) 0 (wa.alloc (.cells #[.int .i64 s, .int .i64 v, .slice a (flen k) c] 35)).heap.size pA pC place) := HP.out.next hbx
  have HBS' : Hid (BSl (wa.alloc (.cells #[.int .i64 s, .int .i64 v, .slice a (flen k) c] 35)) 0 (wa.alloc (.cells #[.int .i64 s, .int .i64 v, .slice a (flen k) c] 35)).heap.size B bs) := HBS.out.next hbx
  clear Hlow HE HP HBS
  have Hlow := Hlow'
  clear Hlow'
  have HE := HE'
  clear HE'
  have HP := HP'
  clear HP'
  have HBS := HBS'
  clear HBS'
  have Ht := Hn
  clear Hn hbx
  clear HL
  have hbx : Below (wa.alloc (.cells #[.int .i64 s, .int .i64 v, .slice a (flen k) c] 35)).heap.size (wa.alloc (.cells #[.int .i64 s, .int .i64 v, .slice a (flen k) c] 35)) ((wa.alloc (.cells #[.int .i64 s, .int .i64 v, .slice a (flen k) c] 35)).alloc (.cells #[.int .i64 eq, .bool back, .slice pA place.length pC, .slice B bs.length D] 43)) := box_low _ _
  have Hn : Hid (Lb (wa.heap.size + 1) eq back pA pC place B D bs ((wa.alloc (.cells #[.int .i64 s, .int .i64 v, .slice a (flen k) c] 35)).alloc (.cells #[.int .i64 eq, .bool back, .slice pA place.length pC, .slice B bs.length D] 43))) := (show (wa.alloc (.cells #[.int .i64 s, .int .i64 v, .slice a (flen k) c] 35)).heap.size = (wa.heap.size + 1) from by simp) ▸ Lb.new HP.out HBS.out
  have Hlow' : Hid (Below w.heap.size w ((wa.alloc (.cells #[.int .i64 s, .int .i64 v, .slice a (flen k) c] 35)).alloc (.cells #[.int .i64 eq, .bool back, .slice pA place.length pC, .slice B bs.length D] 43))) := below_next Hlow.out hbx
  have HE' : Hid (ESl ((wa.alloc (.cells #[.int .i64 s, .int .i64 v, .slice a (flen k) c] 35)).alloc (.cells #[.int .i64 eq, .bool back, .slice pA place.length pC, .slice B bs.length D] 43)) 0 ((wa.alloc (.cells #[.int .i64 s, .int .i64 v, .slice a (flen k) c] 35)).alloc (.cells #[.int .i64 eq, .bool back, .slice pA place.length pC, .slice B bs.length D] 43)).heap.size A es) := HE.out.next hbx
  have HP' : Hid (ISc ((wa.alloc (.cells #[.int .i64 s, .int .i64 v, .slice a (flen k) c] 35)).alloc (.cells #[.int .i64 eq, .bool back, .slice pA place.length pC, .slice B bs.length D] 43)) 0 ((wa.alloc (.cells #[.int .i64 s, .int .i64 v, .slice a (flen k) c] 35)).alloc (.cells #[.int .i64 eq, .bool back, .slice pA place.length pC, .slice B bs.length D] 43)).heap.size pA pC place) := HP.out.next hbx
  have HBS' : Hid (BSl ((wa.alloc (.cells #[.int .i64 s, .int .i64 v, .slice a (flen k) c] 35)).alloc (.cells #[.int .i64 eq, .bool back, .slice pA place.length pC, .slice B bs.length D] 43)) 0 ((wa.alloc (.cells #[.int .i64 s, .int .i64 v, .slice a (flen k) c] 35)).alloc (.cells #[.int .i64 eq, .bool back, .slice pA place.length pC, .slice B bs.length D] 43)).heap.size B bs) := HBS.out.next hbx
  have Ht' : Hid (Tb wa.heap.size s v a c k ((wa.alloc (.cells #[.int .i64 s, .int .i64 v, .slice a (flen k) c] 35)).alloc (.cells #[.int .i64 eq, .bool back, .slice pA place.length pC, .slice B bs.length D] 43))) := Ht.out.next hbx
  clear Hlow HE HP HBS Ht
  have Hlow := Hlow'
  clear Hlow'
  have HE := HE'
  clear HE'
  have HP := HP'
  clear HP'
  have HBS := HBS'
  clear HBS'
  have Ht := Ht'
  clear Ht'
  have Hl := Hn
  clear Hn hbx
  have qt0 := Ht.out.c0
  have qt1 := Ht.out.c1
  have qt2 := Ht.out.c2
  have ql0 := Hl.out.c0
  have ql1 := Hl.out.c1
  have ql2 := Hl.out.c2
  have ql3 := Hl.out.c3
  go_wp2_with fail
  with_reducible refine (sLinkDo_any es A C s v a c k eq back pA pC place B D bs _ HE.out (by omega) Ht.out.sl Hl.out.hp (by omega) Hl.out.hb (by omega)).mono ?_
  rintro e wx1 ⟨aw, cw, sw, vw, kw, tw, hdw, rfl, hb, hlw⟩
  have HDw := Lib.hid hdw
  clear hdw
  clear qt0 qt1 qt2 ql0 ql1 ql2 ql3
  have Hlow' : Hid (Below w.heap.size w wx1) := below_next Hlow.out hb
  have HE' : Hid (ESl wx1 0 wx1.heap.size A es) := HE.out.next hb
  have HP' : Hid (ISc wx1 0 wx1.heap.size pA pC place) := HP.out.next hb
  have HBS' : Hid (BSl wx1 0 wx1.heap.size B bs) := HBS.out.next hb
  have Ht' : Hid (Tb wa.heap.size s v a c k wx1) := Ht.out.next hb
  have Hl' : Hid (Lb (wa.heap.size + 1) eq back pA pC place B D bs wx1) := Hl.out.next hb
  clear Hlow HE HP HBS Ht Hl
  have Hlow := Hlow'
  clear Hlow'
  have HE := HE'
  clear HE'
  have HP := HP'
  clear HP'
  have HBS := HBS'
  clear HBS'
  have Ht := Ht'
  clear Ht'
  have Hl := Hl'
  clear Hl'
  clear hb
  have Hlw := Lib.hid hlw
  clear hlw
  have hbx : Below wx1.heap.size wx1 (wx1.alloc (.cells #[.int .i64 sw, .int .i64 vw, .slice aw (flen kw) cw] 35)) := box_low _ _
  have Hn : Hid (Tb wx1.heap.size sw vw aw cw kw (wx1.alloc (.cells #[.int .i64 sw, .int .i64 vw, .slice aw (flen kw) cw] 35))) := Tb.new Hlw.out
  have Hlow' : Hid (Below w.heap.size w (wx1.alloc (.cells #[.int .i64 sw, .int .i64 vw, .slice aw (flen kw) cw] 35))) := below_next Hlow.out hbx
  have HE' : Hid (ESl (wx1.alloc (.cells #[.int .i64 sw, .int .i64 vw, .slice aw (flen kw) cw] 35)) 0 (wx1.alloc (.cells #[.int .i64 sw, .int .i64 vw, .slice aw (flen kw) cw] 35)).heap.size A es) := HE.out.next hbx
  have HP' : Hid (ISc (wx1.alloc (.cells #[.int .i64 sw, .int .i64 vw, .slice aw (flen kw) cw] 35)) 0 (wx1.alloc (.cells #[.int .i64 sw, .int .i64 vw, .slice aw (flen kw) cw] 35)).heap.size pA pC place) := HP.out.next hbx
  have HBS' : Hid (BSl (wx1.alloc (.cells #[.int .i64 sw, .int .i64 vw, .slice aw (flen kw) cw] 35)) 0 (wx1.alloc (.cells #[.int .i64 sw, .int .i64 vw, .slice aw (flen kw) cw] 35)).heap.size B bs) := HBS.out.next hbx
  have Ht' : Hid (Tb wa.heap.size s v a c k (wx1.alloc (.cells #[.int .i64 sw, .int .i64 vw, .slice aw (flen kw) cw] 35))) := Ht.out.next hbx
  have Hl' : Hid (Lb (wa.heap.size + 1) eq back pA pC place B D bs (wx1.alloc (.cells #[.int .i64 sw, .int .i64 vw, .slice aw (flen kw) cw] 35))) := Hl.out.next hbx
  clear Hlow HE HP HBS Ht Hl
  have Hlow := Hlow'
  clear Hlow'
  have HE := HE'
  clear HE'
  have HP := HP'
  clear HP'
  have HBS := HBS'
  clear HBS'
  have Ht := Ht'
  clear Ht'
  have Hl := Hl'
  clear Hl'
  have Hw := Hn
  clear Hn hbx
  clear Hlw
  have qt0 := Ht.out.c0
  have qt1 := Ht.out.c1
  have qt2 := Ht.out.c2
  have ql0 := Hl.out.c0
  have ql1 := Hl.out.c1
  have ql2 := Hl.out.c2
  have ql3 := Hl.out.c3
  go_wp2_with fail
  with_reducible refine (iLinkDo_any es A C s v a c k eq back pA pC place B D bs _ HE.out (by omega) Ht.out.sl Hl.out.hp (by omega) Hl.out.hb (by omega)).mono ?_
  rintro e wx2 ⟨ax, cx, sx, vx, kx, tx, hdx, rfl, hb, hlx⟩
  rw [HDw.out] at hdx
  simp only [Prod.mk.injEq] at hdx
  obtain ⟨⟨rfl, rfl, rfl⟩, rfl⟩ := hdx
  clear qt0 qt1 qt2 ql0 ql1 ql2 ql3
  have Hlow' : Hid (Below w.heap.size w wx2) := below_next Hlow.out hb
  have HE' : Hid (ESl wx2 0 wx2.heap.size A es) := HE.out.next hb
  have HP' : Hid (ISc wx2 0 wx2.heap.size pA pC place) := HP.out.next hb
  have HBS' : Hid (BSl wx2 0 wx2.heap.size B bs) := HBS.out.next hb
  have Ht' : Hid (Tb wa.heap.size s v a c k wx2) := Ht.out.next hb
  have Hl' : Hid (Lb (wa.heap.size + 1) eq back pA pC place B D bs wx2) := Hl.out.next hb
  have Hw' : Hid (Tb wx1.heap.size sw vw aw cw kw wx2) := Hw.out.next hb
  clear Hlow HE HP HBS Ht Hl Hw
  have Hlow := Hlow'
  clear Hlow'
  have HE := HE'
  clear HE'
  have HP := HP'
  clear HP'
  have HBS := HBS'
  clear HBS'
  have Ht := Ht'
  clear Ht'
  have Hl := Hl'
  clear Hl'
  have Hw := Hw'
  clear Hw'
  clear hb
  have Hlx := Lib.hid hlx
  clear hlx
  have hbx : Below wx2.heap.size wx2 (wx2.alloc (.cells #[.int .i64 sw, .int .i64 vw, .slice ax (flen kw) cx] 35)) := box_low _ _
  have Hn : Hid (Tb wx2.heap.size sw vw ax cx kw (wx2.alloc (.cells #[.int .i64 sw, .int .i64 vw, .slice ax (flen kw) cx] 35))) := Tb.new Hlx.out
  have Hlow' : Hid (Below w.heap.size w (wx2.alloc (.cells #[.int .i64 sw, .int .i64 vw, .slice ax (flen kw) cx] 35))) := below_next Hlow.out hbx
  have HE' : Hid (ESl (wx2.alloc (.cells #[.int .i64 sw, .int .i64 vw, .slice ax (flen kw) cx] 35)) 0 (wx2.alloc (.cells #[.int .i64 sw, .int .i64 vw, .slice ax (flen kw) cx] 35)).heap.size A es) := HE.out.next hbx
  have HP' : Hid (ISc (wx2.alloc (.cells #[.int .i64 sw, .int .i64 vw, .slice ax (flen kw) cx] 35)) 0 (wx2.alloc (.cells #[.int .i64 sw, .int .i64 vw, .slice ax (flen kw) cx] 35)).heap.size pA pC place) := HP.out.next hbx
  have HBS' : Hid (BSl (wx2.alloc (.cells #[.int .i64 sw, .int .i64 vw, .slice ax (flen kw) cx] 35)) 0 (wx2.alloc (.cells #[.int .i64 sw, .int .i64 vw, .slice ax (flen kw) cx] 35)).heap.size B bs) := HBS.out.next hbx
  have Ht' : Hid (Tb wa.heap.size s v a c k (wx2.alloc (.cells #[.int .i64 sw, .int .i64 vw, .slice ax (flen kw) cx] 35))) := Ht.out.next hbx
  have Hl' : Hid (Lb (wa.heap.size + 1) eq back pA pC place B D bs (wx2.alloc (.cells #[.int .i64 sw, .int .i64 vw, .slice ax (flen kw) cx] 35))) := Hl.out.next hbx
  have Hw' : Hid (Tb wx1.heap.size sw vw aw cw kw (wx2.alloc (.cells #[.int .i64 sw, .int .i64 vw, .slice ax (flen kw) cx] 35))) := Hw.out.next hbx
  clear Hlow HE HP HBS Ht Hl Hw
  have Hlow := Hlow'
  clear Hlow'
  have HE := HE'
  clear HE'
  have HP := HP'
  clear HP'
  have HBS := HBS'
  clear HBS'
  have Ht := Ht'
  clear Ht'
  have Hl := Hl'
  clear Hl'
  have Hw := Hw'
  clear Hw'
  have Hx := Hn
  clear Hn hbx
  clear Hlx
  have hkw := lk_small HDw.out
  have eb : (tw != tw) = false := by simp
  have eb2 : (tw == tw) = true := by simp
  have qx0 := Hx.out.c0
  have qx1 := Hx.out.c1
  have qx2 := Hx.out.c2
  have qw0 := Hw.out.c0
  have qw1 := Hw.out.c1
  have qw2 := Hw.out.c2
  go_wp2_with fail
  with_reducible refine (laTerm_same (fsz kw) sw vw ax aw cx cw kw _ Hx.out.sl Hw.out.sl (Nat.le_refl _) (by omega)).mono ?_
  rintro e wx3 ⟨rfl, hb⟩
  clear qx0 qx1 qx2 qw0 qw1 qw2
  have Hlow' : Hid (Below w.heap.size w wx3) := below_next Hlow.out hb
  have HE' : Hid (ESl wx3 0 wx3.heap.size A es) := HE.out.next hb
  have HP' : Hid (ISc wx3 0 wx3.heap.size pA pC place) := HP.out.next hb
  have HBS' : Hid (BSl wx3 0 wx3.heap.size B bs) := HBS.out.next hb
  have Ht' : Hid (Tb wa.heap.size s v a c k wx3) := Ht.out.next hb
  have Hl' : Hid (Lb (wa.heap.size + 1) eq back pA pC place B D bs wx3) := Hl.out.next hb
  have Hw' : Hid (Tb wx1.heap.size sw vw aw cw kw wx3) := Hw.out.next hb
  have Hx' : Hid (Tb wx2.heap.size sw vw ax cx kw wx3) := Hx.out.next hb
  clear Hlow HE HP HBS Ht Hl Hw Hx
  have Hlow := Hlow'
  clear Hlow'
  have HE := HE'
  clear HE'
  have HP := HP'
  clear HP'
  have HBS := HBS'
  clear HBS'
  have Ht := Ht'
  clear Ht'
  have Hl := Hl'
  clear Hl'
  have Hw := Hw'
  clear Hw'
  have Hx := Hx'
  clear Hx'
  clear hb
  cases tw with
  | false =>
    have qx0 := Hx.out.c0
    have qx1 := Hx.out.c1
    have qx2 := Hx.out.c2
    have qw0 := Hw.out.c0
    have qw1 := Hw.out.c1
    have qw2 := Hw.out.c2
    go_wp2_with fail
    with_reducible refine (laTerm_same (fsz kw) sw vw ax aw cx cw kw _ Hx.out.sl Hw.out.sl (Nat.le_refl _) (by omega)).mono ?_
    rintro e wx4 ⟨rfl, hb⟩
    clear qx0 qx1 qx2 qw0 qw1 qw2
    have Hlow' : Hid (Below w.heap.size w wx4) := below_next Hlow.out hb
    have HE' : Hid (ESl wx4 0 wx4.heap.size A es) := HE.out.next hb
    have HP' : Hid (ISc wx4 0 wx4.heap.size pA pC place) := HP.out.next hb
    have HBS' : Hid (BSl wx4 0 wx4.heap.size B bs) := HBS.out.next hb
    have Ht' : Hid (Tb wa.heap.size s v a c k wx4) := Ht.out.next hb
    have Hl' : Hid (Lb (wa.heap.size + 1) eq back pA pC place B D bs wx4) := Hl.out.next hb
    have Hw' : Hid (Tb wx1.heap.size sw vw aw cw kw wx4) := Hw.out.next hb
    have Hx' : Hid (Tb wx2.heap.size sw vw ax cx kw wx4) := Hx.out.next hb
    clear Hlow HE HP HBS Ht Hl Hw Hx
    have Hlow := Hlow'
    clear Hlow'
    have HE := HE'
    clear HE'
    have HP := HP'
    clear HP'
    have HBS := HBS'
    clear HBS'
    have Ht := Ht'
    clear Ht'
    have Hl := Hl'
    clear Hl'
    have Hw := Hw'
    clear Hw'
    have Hx := Hx'
    clear Hx'
    clear hb
    go_wp2_with fail
    go_ret
    exact ⟨rfl, Hlow.out⟩
  | true =>
    have HR : Hid (lkR es (s, v, k) (eq, back, place, bs) = some (sw, vw, kw)) := ans_true HDw.out
    obtain ⟨⟨s9, v9, k9⟩, hy9, heq9⟩ := lkR_back HR.out
    have HY9 := Lib.hid hy9
    have HEQ9 := Lib.hid (eq3_iff.2 heq9)
    clear hy9 heq9 eb
    have ql0 := Hl.out.c0
    have ql1 := Hl.out.c1
    have ql2 := Hl.out.c2
    have ql3 := Hl.out.c3
    have y1 := cell_low (box_low wx3 (.cells #[.int .i64 eq, .bool back, .slice pA place.length pC, .slice B bs.length D] 43)) ql1
    have hbx : Below wx3.heap.size wx3 (wx3.alloc (.cells #[.int .i64 eq, .bool (!back), .slice pA place.length pC, .slice B bs.length D] 43)) := box_low _ _
    have Hn : Hid (Lb wx3.heap.size eq (!back) pA pC place B D bs (wx3.alloc (.cells #[.int .i64 eq, .bool (!back), .slice pA place.length pC, .slice B bs.length D] 43))) := Lb.new Hl.out.hp Hl.out.hb
    have Hlow' : Hid (Below w.heap.size w (wx3.alloc (.cells #[.int .i64 eq, .bool (!back), .slice pA place.length pC, .slice B bs.length D] 43))) := below_next Hlow.out hbx
    have HE' : Hid (ESl (wx3.alloc (.cells #[.int .i64 eq, .bool (!back), .slice pA place.length pC, .slice B bs.length D] 43)) 0 (wx3.alloc (.cells #[.int .i64 eq, .bool (!back), .slice pA place.length pC, .slice B bs.length D] 43)).heap.size A es) := HE.out.next hbx
    have HP' : Hid (ISc (wx3.alloc (.cells #[.int .i64 eq, .bool (!back), .slice pA place.length pC, .slice B bs.length D] 43)) 0 (wx3.alloc (.cells #[.int .i64 eq, .bool (!back), .slice pA place.length pC, .slice B bs.length D] 43)).heap.size pA pC place) := HP.out.next hbx
    have HBS' : Hid (BSl (wx3.alloc (.cells #[.int .i64 eq, .bool (!back), .slice pA place.length pC, .slice B bs.length D] 43)) 0 (wx3.alloc (.cells #[.int .i64 eq, .bool (!back), .slice pA place.length pC, .slice B bs.length D] 43)).heap.size B bs) := HBS.out.next hbx
    have Ht' : Hid (Tb wa.heap.size s v a c k (wx3.alloc (.cells #[.int .i64 eq, .bool (!back), .slice pA place.length pC, .slice B bs.length D] 43))) := Ht.out.next hbx
    have Hl' : Hid (Lb (wa.heap.size + 1) eq back pA pC place B D bs (wx3.alloc (.cells #[.int .i64 eq, .bool (!back), .slice pA place.length pC, .slice B bs.length D] 43))) := Hl.out.next hbx
    have Hw' : Hid (Tb wx1.heap.size sw vw aw cw kw (wx3.alloc (.cells #[.int .i64 eq, .bool (!back), .slice pA place.length pC, .slice B bs.length D] 43))) := Hw.out.next hbx
    have Hx' : Hid (Tb wx2.heap.size sw vw ax cx kw (wx3.alloc (.cells #[.int .i64 eq, .bool (!back), .slice pA place.length pC, .slice B bs.length D] 43))) := Hx.out.next hbx
    clear Hlow HE HP HBS Ht Hl Hw Hx
    have Hlow := Hlow'
    clear Hlow'
    have HE := HE'
    clear HE'
    have HP := HP'
    clear HP'
    have HBS := HBS'
    clear HBS'
    have Ht := Ht'
    clear Ht'
    have Hl := Hl'
    clear Hl'
    have Hw := Hw'
    clear Hw'
    have Hx := Hx'
    clear Hx'
    have Hb := Hn
    clear Hn hbx
    have qx0 := Hx.out.c0
    have qx1 := Hx.out.c1
    have qx2 := Hx.out.c2
    have qb0 := Hb.out.c0
    have qb1 := Hb.out.c1
    have qb2 := Hb.out.c2
    have qb3 := Hb.out.c3
    go_wp2_with fail
    with_reducible refine (iLinkDo_any es A C sw vw ax cx kw eq (!back) pA pC place B D bs _ HE.out (by omega) Hx.out.sl Hb.out.hp (by omega) Hb.out.hb (by omega)).mono ?_
    rw [HY9.out]
    rintro e wx4 ⟨ay, cy, sy, vy, ky, ty, hdy, rfl, hb, hly⟩
    simp only [ansR, Prod.mk.injEq] at hdy
    obtain ⟨⟨rfl, rfl, rfl⟩, rfl⟩ := hdy
    clear ql0 ql1 ql2 ql3 y1 qx0 qx1 qx2 qb0 qb1 qb2 qb3
    have Hlow' : Hid (Below w.heap.size w wx4) := below_next Hlow.out hb
    have HE' : Hid (ESl wx4 0 wx4.heap.size A es) := HE.out.next hb
    have HP' : Hid (ISc wx4 0 wx4.heap.size pA pC place) := HP.out.next hb
    have HBS' : Hid (BSl wx4 0 wx4.heap.size B bs) := HBS.out.next hb
    have Ht' : Hid (Tb wa.heap.size s v a c k wx4) := Ht.out.next hb
    have Hl' : Hid (Lb (wa.heap.size + 1) eq back pA pC place B D bs wx4) := Hl.out.next hb
    have Hw' : Hid (Tb wx1.heap.size sw vw aw cw kw wx4) := Hw.out.next hb
    have Hx' : Hid (Tb wx2.heap.size sw vw ax cx kw wx4) := Hx.out.next hb
    have Hb' : Hid (Lb wx3.heap.size eq (!back) pA pC place B D bs wx4) := Hb.out.next hb
    clear Hlow HE HP HBS Ht Hl Hw Hx Hb
    have Hlow := Hlow'
    clear Hlow'
    have HE := HE'
    clear HE'
    have HP := HP'
    clear HP'
    have HBS := HBS'
    clear HBS'
    have Ht := Ht'
    clear Ht'
    have Hl := Hl'
    clear Hl'
    have Hw := Hw'
    clear Hw'
    have Hx := Hx'
    clear Hx'
    have Hb := Hb'
    clear Hb'
    clear hb
    have Hly := Lib.hid hly
    clear hly
    have hbx : Below wx4.heap.size wx4 (wx4.alloc (.cells #[.int .i64 s9, .int .i64 v9, .slice ay (flen k9) cy] 35)) := box_low _ _
    have Hn : Hid (Tb wx4.heap.size s9 v9 ay cy k9 (wx4.alloc (.cells #[.int .i64 s9, .int .i64 v9, .slice ay (flen k9) cy] 35))) := Tb.new Hly.out
    have Hlow' : Hid (Below w.heap.size w (wx4.alloc (.cells #[.int .i64 s9, .int .i64 v9, .slice ay (flen k9) cy] 35))) := below_next Hlow.out hbx
    have HE' : Hid (ESl (wx4.alloc (.cells #[.int .i64 s9, .int .i64 v9, .slice ay (flen k9) cy] 35)) 0 (wx4.alloc (.cells #[.int .i64 s9, .int .i64 v9, .slice ay (flen k9) cy] 35)).heap.size A es) := HE.out.next hbx
    have HP' : Hid (ISc (wx4.alloc (.cells #[.int .i64 s9, .int .i64 v9, .slice ay (flen k9) cy] 35)) 0 (wx4.alloc (.cells #[.int .i64 s9, .int .i64 v9, .slice ay (flen k9) cy] 35)).heap.size pA pC place) := HP.out.next hbx
    have HBS' : Hid (BSl (wx4.alloc (.cells #[.int .i64 s9, .int .i64 v9, .slice ay (flen k9) cy] 35)) 0 (wx4.alloc (.cells #[.int .i64 s9, .int .i64 v9, .slice ay (flen k9) cy] 35)).heap.size B bs) := HBS.out.next hbx
    have Ht' : Hid (Tb wa.heap.size s v a c k (wx4.alloc (.cells #[.int .i64 s9, .int .i64 v9, .slice ay (flen k9) cy] 35))) := Ht.out.next hbx
    have Hl' : Hid (Lb (wa.heap.size + 1) eq back pA pC place B D bs (wx4.alloc (.cells #[.int .i64 s9, .int .i64 v9, .slice ay (flen k9) cy] 35))) := Hl.out.next hbx
    have Hw' : Hid (Tb wx1.heap.size sw vw aw cw kw (wx4.alloc (.cells #[.int .i64 s9, .int .i64 v9, .slice ay (flen k9) cy] 35))) := Hw.out.next hbx
    have Hx' : Hid (Tb wx2.heap.size sw vw ax cx kw (wx4.alloc (.cells #[.int .i64 s9, .int .i64 v9, .slice ay (flen k9) cy] 35))) := Hx.out.next hbx
    have Hb' : Hid (Lb wx3.heap.size eq (!back) pA pC place B D bs (wx4.alloc (.cells #[.int .i64 s9, .int .i64 v9, .slice ay (flen k9) cy] 35))) := Hb.out.next hbx
    clear Hlow HE HP HBS Ht Hl Hw Hx Hb
    have Hlow := Hlow'
    clear Hlow'
    have HE := HE'
    clear HE'
    have HP := HP'
    clear HP'
    have HBS := HBS'
    clear HBS'
    have Ht := Ht'
    clear Ht'
    have Hl := Hl'
    clear Hl'
    have Hw := Hw'
    clear Hw'
    have Hx := Hx'
    clear Hx'
    have Hb := Hb'
    clear Hb'
    have Hy := Hn
    clear Hn hbx
    clear Hly
    have qy0 := Hy.out.c0
    have qy1 := Hy.out.c1
    have qy2 := Hy.out.c2
    have qt0 := Ht.out.c0
    have qt1 := Ht.out.c1
    have qt2 := Ht.out.c2
    have hk9 : fsz k9 ≤ 63 := lk_small (s := s9) (v := v9) (b := true) (by rw [HY9.out]; rfl)
    go_wp2_with fail
    with_reducible refine (laTerm_any (fsz k9) s9 v9 ay cy k9 s v a c k _ Hy.out.sl Ht.out.sl (Nat.le_refl _) (by omega)).mono ?_
    rintro e wx5 ⟨he, hb⟩
    rw [HEQ9.out] at he
    subst he
    clear qy0 qy1 qy2 qt0 qt1 qt2
    have Hlow' : Hid (Below w.heap.size w wx5) := below_next Hlow.out hb
    have HE' : Hid (ESl wx5 0 wx5.heap.size A es) := HE.out.next hb
    have HP' : Hid (ISc wx5 0 wx5.heap.size pA pC place) := HP.out.next hb
    have HBS' : Hid (BSl wx5 0 wx5.heap.size B bs) := HBS.out.next hb
    have Ht' : Hid (Tb wa.heap.size s v a c k wx5) := Ht.out.next hb
    have Hl' : Hid (Lb (wa.heap.size + 1) eq back pA pC place B D bs wx5) := Hl.out.next hb
    have Hw' : Hid (Tb wx1.heap.size sw vw aw cw kw wx5) := Hw.out.next hb
    have Hx' : Hid (Tb wx2.heap.size sw vw ax cx kw wx5) := Hx.out.next hb
    have Hb' : Hid (Lb wx3.heap.size eq (!back) pA pC place B D bs wx5) := Hb.out.next hb
    have Hy' : Hid (Tb wx4.heap.size s9 v9 ay cy k9 wx5) := Hy.out.next hb
    clear Hlow HE HP HBS Ht Hl Hw Hx Hb Hy
    have Hlow := Hlow'
    clear Hlow'
    have HE := HE'
    clear HE'
    have HP := HP'
    clear HP'
    have HBS := HBS'
    clear HBS'
    have Ht := Ht'
    clear Ht'
    have Hl := Hl'
    clear Hl'
    have Hw := Hw'
    clear Hw'
    have Hx := Hx'
    clear Hx'
    have Hb := Hb'
    clear Hb'
    have Hy := Hy'
    clear Hy'
    clear hb
    go_wp2_with fail
    go_ret
    exact ⟨rfl, Hlow.out⟩
end Go.Proofs.Ytdkcbbhkoibplaa
