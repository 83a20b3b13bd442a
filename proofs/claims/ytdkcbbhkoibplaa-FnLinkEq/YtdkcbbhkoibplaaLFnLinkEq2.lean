/- Several texts in one: LawLEq. -/
import Derived.Test.YtdkcbbhkoibplaaLFnLinkEq1
import Derived.Test.YtdkcbbhkoibplaaKLm15
import Derived.Test.YtdkcbbhkoibplaaKLm31
import Derived.Test.YtdkcbbhkoibplaaKLm22
import Derived.Test.YtdkcbbhkoibplaaKLm7

/-! LawLEq: laws.FnLinkEq answers true at every code. -/
namespace Go.Proofs.Ytdkcbbhkoibplaa
open Go.RowKit Go.Deep
attribute [local go_sem ↓] Go.wp_at_zero Go.wp_at_succ

set_option maxRecDepth 100000 in
set_option maxHeartbeats 8000000 in
theorem linkEq_walk (a0 : Option Addr) (len cap : Nat) (w : World) (hby : Bytes w a0 len) (hlen : len ≤ cap) :
    Calls Try.prog 6 #[.slice a0 len cap] w fun e w' => e = .returned (.bool true) ∧ Below w.heap.size w w' := by
  have HBY := Lib.hid hby
  clear hby
  by_cases hbiglen : 1048576 < len
  · go_enter Try.func6, Try.ntmps6
    go_wp2_with fail
    go_ret
    exact ⟨rfl, Below.refl _ _⟩
  go_enter Try.func6, Try.ntmps6
  go_wp2_with fail
  with_reducible refine (DrawLinkDo_any a0 len cap _ HBY.out hlen).mono ?_
  rintro e wa ⟨es, A, C, s, v, a, c, k, eq, back, pA, pC, place, B, D, bs, rfl, hel, hok, hz, hpl, hbl, hb, he, hl, hpi, hbi⟩
  have Hlow := Lib.hid hb
  have HE := Lib.hid he
  have HP := Lib.hid hpi
  have HBS := Lib.hid hbi
  have HL := Lib.hid hl
  have HOKZ := Lib.hid hok
  clear hb he hl hpi hbi hok HBY
  have hbx : Below wa.heap.size wa (wa.alloc (.cells #[.int .i64 s, .int .i64 v, .slice a (flen k) c] 35)) := box_low _ _
  have Hn : Hid (Tb wa.heap.size s v a c k (wa.alloc (.cells #[.int .i64 s, .int .i64 v, .slice a (flen k) c] 35))) := Tb.new HL.out
  have Hlow' : Hid (Below w.heap.size w (wa.alloc (.cells #[.int .i64 s, .int .i64 v, .slice a (flen k) c] 35))) := below_next Hlow.out hbx
  have HE' : Hid (ESl (wa.alloc (.cells #[.int .i64 s, .int .i64 v, .slice a (flen k) c] 35)) 0 (wa.alloc (.cells #[.int .i64 s, .int .i64 v, .slice a (flen k) c] 35)).heap.size A es) := HE.out.next hbx
  have HP' : Hid (ISc (wa.alloc (.cells #[.int .i64 s, .int .i64 v, .slice a (flen k) c] 35)) 0 (wa.alloc (.cells #[.int .i64 s, .int .i64 v, .slice a (flen k) c] 35)).heap.size pA pC place) := HP.out.next hbx
  have HBS' : Hid (BSl (wa.alloc (.cells #[.int .i64 s, .int .i64 v, .slice a (flen k) c] 35)) 0 (wa.alloc (.cells #[.int .i64 s, .int .i64 v, .slice a (flen k) c] 35)).heap.size B bs) := HBS.out.next hbx
  clear Hlow HE HP HBS
  have Hlow := Hlow'
  clear Hlow'
  have HE := HE'
  clear HE'
  have HP := HP'
  clear HP'
  have HBS := HBS'
  clear HBS'
  have Ht := Hn
  clear Hn hbx
  clear HL
  have hbx : Below (wa.alloc (.cells #[.int .i64 s, .int .i64 v, .slice a (flen k) c] 35)).heap.size (wa.alloc (.cells #[.int .i64 s, .int .i64 v, .slice a (flen k) c] 35)) ((wa.alloc (.cells #[.int .i64 s, .int .i64 v, .slice a (flen k) c] 35)).alloc (.cells #[.int .i64 eq, .bool back, .slice pA place.length pC, .slice B bs.length D] 43)) := box_low _ _
  have Hn : Hid (Lb (wa.heap.size + 1) eq back pA pC place B D bs ((wa.alloc (.cells #[.int .i64 s, .int .i64 v, .slice a (flen k) c] 35)).alloc (.cells #[.int .i64 eq, .bool back, .slice pA place.length pC, .slice B bs.length D] 43))) := (show (wa.alloc (.cells #[.int .i64 s, .int .i64 v, .slice a (flen k) c] 35)).heap.size = (wa.heap.size + 1) from by simp) ▸ Lb.new HP.out HBS.out
  have Hlow' : Hid (Below w.heap.size w ((wa.alloc (.cells #[.int .i64 s, .int .i64 v, .slice a (flen k) c] 35)).alloc (.cells #[.int .i64 eq, .bool back, .slice pA place.length pC, .slice B bs.length D] 43))) := below_next Hlow.out hbx
  have HE' : Hid (ESl ((wa.alloc (.cells #[.int .i64 s, .int .i64 v, .slice a (flen k) c] 35)).alloc (.cells #[.int .i64 eq, .bool back, .slice pA place.length pC, .slice B bs.length D] 43)) 0 ((wa.alloc (.cells #[.int .i64 s, .int .i64 v, .slice a (flen k) c] 35)).alloc (.cells #[.int .i64 eq, .bool back, .slice pA place.length pC, .slice B bs.length D] 43)).heap.size A es) := HE.out.next hbx
  have HP' : Hid (ISc ((wa.alloc (.cells #[.int .i64 s, .int .i64 v, .slice a (flen k) c] 35)).alloc (.cells #[.int .i64 eq, .bool back, .slice pA place.length pC, .slice B bs.length D] 43)) 0 ((wa.alloc (.cells #[.int .i64 s, .int .i64 v, .slice a (flen k) c] 35)).alloc (.cells #[.int .i64 eq, .bool back, .slice pA place.length pC, .slice B bs.length D] 43)).heap.size pA pC place) := HP.out.next hbx
  have HBS' : Hid (BSl ((wa.alloc (.cells #[.int .i64 s, .int .i64 v, .slice a (flen k) c] 35)).alloc (.cells #[.int .i64 eq, .bool back, .slice pA place.length pC, .slice B bs.length D] 43)) 0 ((wa.alloc (.cells #[.int .i64 s, .int .i64 v, .slice a (flen k) c] 35)).alloc (.cells #[.int .i64 eq, .bool back, .slice pA place.length pC, .slice B bs.length D] 43)).heap.size B bs) := HBS.out.next hbx
  have Ht' : Hid (Tb wa.heap.size s v a c k ((wa.alloc (.cells #[.int .i64 s, .int .i64 v, .slice a (flen k) c] 35)).alloc (.cells #[.int .i64 eq, .bool back, .slice pA place.length pC, .slice B bs.length D] 43))) := Ht.out.next hbx
  clear Hlow HE HP HBS Ht
  have Hlow := Hlow'
  clear Hlow'
  have HE := HE'
  clear HE'
  have HP := HP'
  clear HP'
  have HBS := HBS'
  clear HBS'
  have Ht := Ht'
  clear Ht'
  have Hl := Hn
  clear Hn hbx
  have qt0 := Ht.out.c0
  have qt1 := Ht.out.c1
  have qt2 := Ht.out.c2
  have ql0 := Hl.out.c0
  have ql1 := Hl.out.c1
  have ql2 := Hl.out.c2
  have ql3 := Hl.out.c3
  go_wp2_with fail
  with_reducible refine (sLinkDo_any es A C s v a c k eq back pA pC place B D bs _ HE.out (by omega) Ht.out.sl Hl.out.hp (by omega) Hl.out.hb (by omega)).mono ?_
  rintro e wx1 ⟨aw, cw, sw, vw, kw, tw, hdw, rfl, hb, hlw⟩
  have HDw := Lib.hid hdw
  clear hdw
  clear qt0 qt1 qt2 ql0 ql1 ql2 ql3
  have Hlow' : Hid (Below w.heap.size w wx1) := below_next Hlow.out hb
  have HE' : Hid (ESl wx1 0 wx1.heap.size A es) := HE.out.next hb
  have HP' : Hid (ISc wx1 0 wx1.heap.size pA pC place) := HP.out.next hb
  have HBS' : Hid (BSl wx1 0 wx1.heap.size B bs) := HBS.out.next hb
  have Ht' : Hid (Tb wa.heap.size s v a c k wx1) := Ht.out.next hb
  have Hl' : Hid (Lb (wa.heap.size + 1) eq back pA pC place B D bs wx1) := Hl.out.next hb
  clear Hlow HE HP HBS Ht Hl
  have Hlow := Hlow'
  clear Hlow'
  have HE := HE'
  clear HE'
  have HP := HP'
  clear HP'
  have HBS := HBS'
  clear HBS'
  have Ht := Ht'
  clear Ht'
  have Hl := Hl'
  clear Hl'
  clear hb
  have Hlw := Lib.hid hlw
  clear hlw
  have hbx : Below wx1.heap.size wx1 (wx1.alloc (.cells #[.int .i64 sw, .int .i64 vw, .slice aw (flen kw) cw] 35)) := box_low _ _
  have Hn : Hid (Tb wx1.heap.size sw vw aw cw kw (wx1.alloc (.cells #[.int .i64 sw, .int .i64 vw, .slice aw (flen kw) cw] 35))) := Tb.new Hlw.out
  have Hlow' : Hid (Below w.heap.size w (wx1.alloc (.cells #[.int .i64 sw, .int .i64 vw, .slice aw (flen kw) cw] 35))) := below_next Hlow.out hbx
  have HE' : Hid (ESl (wx1.alloc (.cells #[.int .i64 sw, .int .i64 vw, .slice aw (flen kw) cw] 35)) 0 (wx1.alloc (.cells #[.int .i64 sw, .int .i64 vw, .slice aw (flen kw) cw] 35)).heap.size A es) := HE.out.next hbx
  have HP' : Hid (ISc (wx1.alloc (.cells #[.int .i64 sw, .int .i64 vw, .slice aw (flen kw) cw] 35)) 0 (wx1.alloc (.cells #[.int .i64 sw, .int .i64 vw, .slice aw (flen kw) cw] 35)).heap.size pA pC place) := HP.out.next hbx
  have HBS' : Hid (BSl (wx1.alloc (.cells #[.int .i64 sw, .int .i64 vw, .slice aw (flen kw) cw] 35)) 0 (wx1.alloc (.cells #[.int .i64 sw, .int .i64 vw, .slice aw (flen kw) cw] 35)).heap.size B bs) := HBS.out.next hbx
  have Ht' : Hid (Tb wa.heap.size s v a c k (wx1.alloc (.cells #[.int .i64 sw, .int .i64 vw, .slice aw (flen kw) cw] 35))) := Ht.out.next hbx
  have Hl' : Hid (Lb (wa.heap.size + 1) eq back pA pC place B D bs (wx1.alloc (.cells #[.int .i64 sw, .int .i64 vw, .slice aw (flen kw) cw] 35))) := Hl.out.next hbx
  clear Hlow HE HP HBS Ht Hl
  have Hlow := Hlow'
  clear Hlow'
  have HE := HE'
  clear HE'
  have HP := HP'
  clear HP'
  have HBS := HBS'
  clear HBS'
  have Ht := Ht'
  clear Ht'
  have Hl := Hl'
  clear Hl'
  have Hw := Hn
  clear Hn hbx
  clear Hlw
  have qt0 := Ht.out.c0
  have qt1 := Ht.out.c1
  have qt2 := Ht.out.c2
  have ql0 := Hl.out.c0
  have ql1 := Hl.out.c1
  have ql2 := Hl.out.c2
  have ql3 := Hl.out.c3
  go_wp2_with fail
  with_reducible refine (iLinkDo_any es A C s v a c k eq back pA pC place B D bs _ HE.out (by omega) Ht.out.sl Hl.out.hp (by omega) Hl.out.hb (by omega)).mono ?_
  rintro e wx2 ⟨ax, cx, sx, vx, kx, tx, hdx, rfl, hb, hlx⟩
  rw [HDw.out] at hdx
  simp only [Prod.mk.injEq] at hdx
  obtain ⟨⟨rfl, rfl, rfl⟩, rfl⟩ := hdx
  clear qt0 qt1 qt2 ql0 ql1 ql2 ql3
  have Hlow' : Hid (Below w.heap.size w wx2) := below_next Hlow.out hb
  have HE' : Hid (ESl wx2 0 wx2.heap.size A es) := HE.out.next hb
  have HP' : Hid (ISc wx2 0 wx2.heap.size pA pC place) := HP.out.next hb
  have HBS' : Hid (BSl wx2 0 wx2.heap.size B bs) := HBS.out.next hb
  have Ht' : Hid (Tb wa.heap.size s v a c k wx2) := Ht.out.next hb
  have Hl' : Hid (Lb (wa.heap.size + 1) eq back pA pC place B D bs wx2) := Hl.out.next hb
  have Hw' : Hid (Tb wx1.heap.size sw vw aw cw kw wx2) := Hw.out.next hb
  clear Hlow HE HP HBS Ht Hl Hw
  have Hlow := Hlow'
  clear Hlow'
  have HE := HE'
  clear HE'
  have HP := HP'
  clear HP'
  have HBS := HBS'
  clear HBS'
  have Ht := Ht'
  clear Ht'
  have Hl := Hl'
  clear Hl'
  have Hw := Hw'
  clear Hw'
  clear hb
  have Hlx := Lib.hid hlx
  clear hlx
  have hbx : Below wx2.heap.size wx2 (wx2.alloc (.cells #[.int .i64 sw, .int .i64 vw, .slice ax (flen kw) cx] 35)) := box_low _ _
  have Hn : Hid (Tb wx2.heap.size sw vw ax cx kw (wx2.alloc (.cells #[.int .i64 sw, .int .i64 vw, .slice ax (flen kw) cx] 35))) := Tb.new Hlx.out
  have Hlow' : Hid (Below w.heap.size w (wx2.alloc (.cells #[.int .i64 sw, .int .i64 vw, .slice ax (flen kw) cx] 35))) := below_next Hlow.out hbx
  have HE' : Hid (ESl (wx2.alloc (.cells #[.int .i64 sw, .int .i64 vw, .slice ax (flen kw) cx] 35)) 0 (wx2.alloc (.cells #[.int .i64 sw, .int .i64 vw, .slice ax (flen kw) cx] 35)).heap.size A es) := HE.out.next hbx
  have HP' : Hid (ISc (wx2.alloc (.cells #[.int .i64 sw, .int .i64 vw, .slice ax (flen kw) cx] 35)) 0 (wx2.alloc (.cells #[.int .i64 sw, .int .i64 vw, .slice ax (flen kw) cx] 35)).heap.size pA pC place) := HP.out.next hbx
  have HBS' : Hid (BSl (wx2.alloc (.cells #[.int .i64 sw, .int .i64 vw, .slice ax (flen kw) cx] 35)) 0 (wx2.alloc (.cells #[.int .i64 sw, .int .i64 vw, .slice ax (flen kw) cx] 35)).heap.size B bs) := HBS.out.next hbx
  have Ht' : Hid (Tb wa.heap.size s v a c k (wx2.alloc (.cells #[.int .i64 sw, .int .i64 vw, .slice ax (flen kw) cx] 35))) := Ht.out.next hbx
  have Hl' : Hid (Lb (wa.heap.size + 1) eq back pA pC place B D bs (wx2.alloc (.cells #[.int .i64 sw, .int .i64 vw, .slice ax (flen kw) cx] 35))) := Hl.out.next hbx
  have Hw' : Hid (Tb wx1.heap.size sw vw aw cw kw (wx2.alloc (.cells #[.int .i64 sw, .int .i64 vw, .slice ax (flen kw) cx] 35))) := Hw.out.next hbx
  clear Hlow HE HP HBS Ht Hl Hw
  have Hlow := Hlow'
  clear Hlow'
  have HE := HE'
  clear HE'
  have HP := HP'
  clear HP'
  have HBS := HBS'
  clear HBS'
  have Ht := Ht'
  clear Ht'
  have Hl := Hl'
  clear Hl'
  have Hw := Hw'
  clear Hw'
  have Hx := Hn
  clear Hn hbx
  clear Hlx
  have hkw := lk_small HDw.out
  have eb : (tw != tw) = false := by simp
  have eb2 : (tw == tw) = true := by simp
  have qx0 := Hx.out.c0
  have qx1 := Hx.out.c1
  have qx2 := Hx.out.c2
  have qw0 := Hw.out.c0
  have qw1 := Hw.out.c1
  have qw2 := Hw.out.c2
  go_wp2_with fail
  with_reducible refine (laTerm_same (fsz kw) sw vw ax aw cx cw kw _ Hx.out.sl Hw.out.sl (Nat.le_refl _) (by omega)).mono ?_
  rintro e wx3 ⟨rfl, hb⟩
  clear qx0 qx1 qx2 qw0 qw1 qw2
  have Hlow' : Hid (Below w.heap.size w wx3) := below_next Hlow.out hb
  have HE' : Hid (ESl wx3 0 wx3.heap.size A es) := HE.out.next hb
  have HP' : Hid (ISc wx3 0 wx3.heap.size pA pC place) := HP.out.next hb
  have HBS' : Hid (BSl wx3 0 wx3.heap.size B bs) := HBS.out.next hb
  have Ht' : Hid (Tb wa.heap.size s v a c k wx3) := Ht.out.next hb
  have Hl' : Hid (Lb (wa.heap.size + 1) eq back pA pC place B D bs wx3) := Hl.out.next hb
  have Hw' : Hid (Tb wx1.heap.size sw vw aw cw kw wx3) := Hw.out.next hb
  have Hx' : Hid (Tb wx2.heap.size sw vw ax cx kw wx3) := Hx.out.next hb
  clear Hlow HE HP HBS Ht Hl Hw Hx
  have Hlow := Hlow'
  clear Hlow'
  have HE := HE'
  clear HE'
  have HP := HP'
  clear HP'
  have HBS := HBS'
  clear HBS'
  have Ht := Ht'
  clear Ht'
  have Hl := Hl'
  clear Hl'
  have Hw := Hw'
  clear Hw'
  have Hx := Hx'
  clear Hx'
  clear hb
  cases tw with
  | false =>
    have qx0 := Hx.out.c0
    have qx1 := Hx.out.c1
    have qx2 := Hx.out.c2
    have qw0 := Hw.out.c0
    have qw1 := Hw.out.c1
    have qw2 := Hw.out.c2
    go_wp2_with fail
    with_reducible refine (laTerm_same (fsz kw) sw vw ax aw cx cw kw _ Hx.out.sl Hw.out.sl (Nat.le_refl _) (by omega)).mono ?_
    rintro e wx4 ⟨rfl, hb⟩
    clear qx0 qx1 qx2 qw0 qw1 qw2
    have Hlow' : Hid (Below w.heap.size w wx4) := below_next Hlow.out hb
    have HE' : Hid (ESl wx4 0 wx4.heap.size A es) := HE.out.next hb
    have HP' : Hid (ISc wx4 0 wx4.heap.size pA pC place) := HP.out.next hb
    have HBS' : Hid (BSl wx4 0 wx4.heap.size B bs) := HBS.out.next hb
    have Ht' : Hid (Tb wa.heap.size s v a c k wx4) := Ht.out.next hb
    have Hl' : Hid (Lb (wa.heap.size + 1) eq back pA pC place B D bs wx4) := Hl.out.next hb
    have Hw' : Hid (Tb wx1.heap.size sw vw aw cw kw wx4) := Hw.out.next hb
    have Hx' : Hid (Tb wx2.heap.size sw vw ax cx kw wx4) := Hx.out.next hb
    clear Hlow HE HP HBS Ht Hl Hw Hx
    have Hlow := Hlow'
    clear Hlow'
    have HE := HE'
    clear HE'
    have HP := HP'
    clear HP'
    have HBS := HBS'
    clear HBS'
    have Ht := Ht'
    clear Ht'
    have Hl := Hl'
    clear Hl'
    have Hw := Hw'
    clear Hw'
    have Hx := Hx'
    clear Hx'
    clear hb
    go_wp2_with fail
    go_ret
    exact ⟨rfl, Hlow.out⟩
  | true =>
    have HR : Hid (lkR es (s, v, k) (eq, back, place, bs) = some (sw, vw, kw)) := ans_true HDw.out
    cases hokx : okW sw vw kw 16 with
    | false =>
      have HOKX := Lib.hid hokx
      clear hokx
      have qx0 := Hx.out.c0
      have qx1 := Hx.out.c1
      have qx2 := Hx.out.c2
      go_wp2_with fail
      with_reducible refine (iTermOk_any sw vw ax cx kw _ Hx.out.sl).mono ?_
      rw [HOKX.out]
      rintro e wx4 ⟨rfl, hb⟩
      clear qx0 qx1 qx2
      have Hlow' : Hid (Below w.heap.size w wx4) := below_next Hlow.out hb
      have HE' : Hid (ESl wx4 0 wx4.heap.size A es) := HE.out.next hb
      have HP' : Hid (ISc wx4 0 wx4.heap.size pA pC place) := HP.out.next hb
      have HBS' : Hid (BSl wx4 0 wx4.heap.size B bs) := HBS.out.next hb
      have Ht' : Hid (Tb wa.heap.size s v a c k wx4) := Ht.out.next hb
      have Hl' : Hid (Lb (wa.heap.size + 1) eq back pA pC place B D bs wx4) := Hl.out.next hb
      have Hw' : Hid (Tb wx1.heap.size sw vw aw cw kw wx4) := Hw.out.next hb
      have Hx' : Hid (Tb wx2.heap.size sw vw ax cx kw wx4) := Hx.out.next hb
      clear Hlow HE HP HBS Ht Hl Hw Hx
      have Hlow := Hlow'
      clear Hlow'
      have HE := HE'
      clear HE'
      have HP := HP'
      clear HP'
      have HBS := HBS'
      clear HBS'
      have Ht := Ht'
      clear Ht'
      have Hl := Hl'
      clear Hl'
      have Hw := Hw'
      clear Hw'
      have Hx := Hx'
      clear Hx'
      clear hb
      have qx0 := Hx.out.c0
      have qx1 := Hx.out.c1
      have qx2 := Hx.out.c2
      have qw0 := Hw.out.c0
      have qw1 := Hw.out.c1
      have qw2 := Hw.out.c2
      go_wp2_with fail
      with_reducible refine (laTerm_same (fsz kw) sw vw ax aw cx cw kw _ Hx.out.sl Hw.out.sl (Nat.le_refl _) (by omega)).mono ?_
      rintro e wx5 ⟨rfl, hb⟩
      clear qx0 qx1 qx2 qw0 qw1 qw2
      have Hlow' : Hid (Below w.heap.size w wx5) := below_next Hlow.out hb
      have HE' : Hid (ESl wx5 0 wx5.heap.size A es) := HE.out.next hb
      have HP' : Hid (ISc wx5 0 wx5.heap.size pA pC place) := HP.out.next hb
      have HBS' : Hid (BSl wx5 0 wx5.heap.size B bs) := HBS.out.next hb
      have Ht' : Hid (Tb wa.heap.size s v a c k wx5) := Ht.out.next hb
      have Hl' : Hid (Lb (wa.heap.size + 1) eq back pA pC place B D bs wx5) := Hl.out.next hb
      have Hw' : Hid (Tb wx1.heap.size sw vw aw cw kw wx5) := Hw.out.next hb
      have Hx' : Hid (Tb wx2.heap.size sw vw ax cx kw wx5) := Hx.out.next hb
      clear Hlow HE HP HBS Ht Hl Hw Hx
      have Hlow := Hlow'
      clear Hlow'
      have HE := HE'
      clear HE'
      have HP := HP'
      clear HP'
      have HBS := HBS'
      clear HBS'
      have Ht := Ht'
      clear Ht'
      have Hl := Hl'
      clear Hl'
      have Hw := Hw'
      clear Hw'
      have Hx := Hx'
      clear Hx'
      clear hb
      go_wp2_with fail
      go_ret
      exact ⟨rfl, Hlow.out⟩
    | true =>
      have HOKX := Lib.hid hokx
      clear hokx
      have qx0 := Hx.out.c0
      have qx1 := Hx.out.c1
      have qx2 := Hx.out.c2
      go_wp2_with fail
      with_reducible refine (iTermOk_any sw vw ax cx kw _ Hx.out.sl).mono ?_
      rw [HOKX.out]
      rintro e wx4 ⟨rfl, hb⟩
      clear qx0 qx1 qx2
      have Hlow' : Hid (Below w.heap.size w wx4) := below_next Hlow.out hb
      have HE' : Hid (ESl wx4 0 wx4.heap.size A es) := HE.out.next hb
      have HP' : Hid (ISc wx4 0 wx4.heap.size pA pC place) := HP.out.next hb
      have HBS' : Hid (BSl wx4 0 wx4.heap.size B bs) := HBS.out.next hb
      have Ht' : Hid (Tb wa.heap.size s v a c k wx4) := Ht.out.next hb
      have Hl' : Hid (Lb (wa.heap.size + 1) eq back pA pC place B D bs wx4) := Hl.out.next hb
      have Hw' : Hid (Tb wx1.heap.size sw vw aw cw kw wx4) := Hw.out.next hb
      have Hx' : Hid (Tb wx2.heap.size sw vw ax cx kw wx4) := Hx.out.next hb
      clear Hlow HE HP HBS Ht Hl Hw Hx
      have Hlow := Hlow'
      clear Hlow'
      have HE := HE'
      clear HE'
      have HP := HP'
      clear HP'
      have HBS := HBS'
      clear HBS'
      have Ht := Ht'
      clear Ht'
      have Hl := Hl'
      clear Hl'
      have Hw := Hw'
      clear Hw'
      have Hx := Hx'
      clear Hx'
      clear hb
      cases hsok : sok 16 bs with
      | false =>
        have HSOK := Lib.hid hsok
        clear hsok
        have ql0 := Hl.out.c0
        have ql1 := Hl.out.c1
        have ql2 := Hl.out.c2
        have ql3 := Hl.out.c3
        go_wp2_with fail
        with_reducible refine (iSubstOk_any bs B D _ Hl.out.hb (by omega)).mono ?_
        rw [HSOK.out]
        rintro e wx5 ⟨rfl, hb⟩
        clear ql0 ql1 ql2 ql3
        have Hlow' : Hid (Below w.heap.size w wx5) := below_next Hlow.out hb
        have HE' : Hid (ESl wx5 0 wx5.heap.size A es) := HE.out.next hb
        have HP' : Hid (ISc wx5 0 wx5.heap.size pA pC place) := HP.out.next hb
        have HBS' : Hid (BSl wx5 0 wx5.heap.size B bs) := HBS.out.next hb
        have Ht' : Hid (Tb wa.heap.size s v a c k wx5) := Ht.out.next hb
        have Hl' : Hid (Lb (wa.heap.size + 1) eq back pA pC place B D bs wx5) := Hl.out.next hb
        have Hw' : Hid (Tb wx1.heap.size sw vw aw cw kw wx5) := Hw.out.next hb
        have Hx' : Hid (Tb wx2.heap.size sw vw ax cx kw wx5) := Hx.out.next hb
        clear Hlow HE HP HBS Ht Hl Hw Hx
        have Hlow := Hlow'
        clear Hlow'
        have HE := HE'
        clear HE'
        have HP := HP'
        clear HP'
        have HBS := HBS'
        clear HBS'
        have Ht := Ht'
        clear Ht'
        have Hl := Hl'
        clear Hl'
        have Hw := Hw'
        clear Hw'
        have Hx := Hx'
        clear Hx'
        clear hb
        have qx0 := Hx.out.c0
        have qx1 := Hx.out.c1
        have qx2 := Hx.out.c2
        have qw0 := Hw.out.c0
        have qw1 := Hw.out.c1
        have qw2 := Hw.out.c2
        go_wp2_with fail
        with_reducible refine (laTerm_same (fsz kw) sw vw ax aw cx cw kw _ Hx.out.sl Hw.out.sl (Nat.le_refl _) (by omega)).mono ?_
        rintro e wx6 ⟨rfl, hb⟩
        clear qx0 qx1 qx2 qw0 qw1 qw2
        have Hlow' : Hid (Below w.heap.size w wx6) := below_next Hlow.out hb
        have HE' : Hid (ESl wx6 0 wx6.heap.size A es) := HE.out.next hb
        have HP' : Hid (ISc wx6 0 wx6.heap.size pA pC place) := HP.out.next hb
        have HBS' : Hid (BSl wx6 0 wx6.heap.size B bs) := HBS.out.next hb
        have Ht' : Hid (Tb wa.heap.size s v a c k wx6) := Ht.out.next hb
        have Hl' : Hid (Lb (wa.heap.size + 1) eq back pA pC place B D bs wx6) := Hl.out.next hb
        have Hw' : Hid (Tb wx1.heap.size sw vw aw cw kw wx6) := Hw.out.next hb
        have Hx' : Hid (Tb wx2.heap.size sw vw ax cx kw wx6) := Hx.out.next hb
        clear Hlow HE HP HBS Ht Hl Hw Hx
        have Hlow := Hlow'
        clear Hlow'
        have HE := HE'
        clear HE'
        have HP := HP'
        clear HP'
        have HBS := HBS'
        clear HBS'
        have Ht := Ht'
        clear Ht'
        have Hl := Hl'
        clear Hl'
        have Hw := Hw'
        clear Hw'
        have Hx := Hx'
        clear Hx'
        clear hb
        go_wp2_with fail
        go_ret
        exact ⟨rfl, Hlow.out⟩
      | true =>
        have HSOK := Lib.hid hsok
        clear hsok
        have ql0 := Hl.out.c0
        have ql1 := Hl.out.c1
        have ql2 := Hl.out.c2
        have ql3 := Hl.out.c3
        go_wp2_with fail
        with_reducible refine (iSubstOk_any bs B D _ Hl.out.hb (by omega)).mono ?_
        rw [HSOK.out]
        rintro e wx5 ⟨rfl, hb⟩
        clear ql0 ql1 ql2 ql3
        have Hlow' : Hid (Below w.heap.size w wx5) := below_next Hlow.out hb
        have HE' : Hid (ESl wx5 0 wx5.heap.size A es) := HE.out.next hb
        have HP' : Hid (ISc wx5 0 wx5.heap.size pA pC place) := HP.out.next hb
        have HBS' : Hid (BSl wx5 0 wx5.heap.size B bs) := HBS.out.next hb
        have Ht' : Hid (Tb wa.heap.size s v a c k wx5) := Ht.out.next hb
        have Hl' : Hid (Lb (wa.heap.size + 1) eq back pA pC place B D bs wx5) := Hl.out.next hb
        have Hw' : Hid (Tb wx1.heap.size sw vw aw cw kw wx5) := Hw.out.next hb
        have Hx' : Hid (Tb wx2.heap.size sw vw ax cx kw wx5) := Hx.out.next hb
        clear Hlow HE HP HBS Ht Hl Hw Hx
        have Hlow := Hlow'
        clear Hlow'
        have HE := HE'
        clear HE'
        have HP := HP'
        clear HP'
        have HBS := HBS'
        clear HBS'
        have Ht := Ht'
        clear Ht'
        have Hl := Hl'
        clear Hl'
        have Hw := Hw'
        clear Hw'
        have Hx := Hx'
        clear Hx'
        clear hb
        have ho16 : okW s v k 16 = true := (okW_iff _ _ _ _).2 ⟨HOKZ.out.1, HOKZ.out.2.1, by omega⟩
        obtain ⟨i, ⟨⟨s1, v1, k1⟩, s2, v2, k2⟩, fs, fv, fk, gs, gv, gk, p1, p2, p3, c1, c2, c3, g1, g2, g3, rfl, hxi, hsd, hat1, hat2, hsd1, hsd2, hteq, hz1, hz2⟩ := lk_eq HR.out ho16 HOKX.out HSOK.out
        have HAT1 := Lib.hid hat1
        have HAT2 := Lib.hid hat2
        have HSD1 := Lib.hid hsd1
        have HSD2 := Lib.hid hsd2
        have HTEQ := Lib.hid hteq
        have HXI := Lib.hid hxi
        clear hat1 hat2 hsd1 hsd2 hteq hxi eb eb2 HR
        obtain ⟨eb, eo, hA, _, hebB, a1, d1, a2, d2, e0, e1, e2, e3, e4, e5, hsl1, hsl2⟩ := HE.out.at HXI.out
        dsimp only at e0 e1 e2 e3 e4 e5 hsl1 hsl2
        subst hA
        have gi1 : (0 : Int) ≤ (i : Int) := by omega
        have hil : i < es.length := (List.getElem?_eq_some_iff.1 HXI.out).1
        have gi2 : (i : Int) < (es.length : Int) := by omega
        have HSL1 := Lib.hid hsl1
        have HSL2 := Lib.hid hsl2
        clear hsl1 hsl2
        cases back with
        | false =>
          have z0 := Hl.out.c0
          have z1 := Hl.out.c1
          have z2 := Hl.out.c2
          have z3 := Hl.out.c3
          simp only [sidesR, Bool.false_eq_true, if_false, Prod.mk.injEq] at hsd
          obtain ⟨⟨rfl, rfl, rfl⟩, rfl, rfl, rfl⟩ := hsd
          have lw1 : Below wx5.heap.size wx5 (wx5.alloc (.cells #[.int .i64 s1, .int .i64 v1, .slice a1 (flen k1) d1] 35)) := box_low _ _
          have lw2 : Below wx5.heap.size wx5 ((wx5.alloc (.cells #[.int .i64 s1, .int .i64 v1, .slice a1 (flen k1) d1] 35)).alloc (.cells #[.int .i64 s2, .int .i64 v2, .slice a2 (flen k2) d2] 35)) := lw1.trans ((box_low _ _).mono (by simp))
          have e0a := cell_low lw1 e0
          have e1a := cell_low lw1 e1
          have e2a := cell_low lw1 e2
          have e3a := cell_low lw1 e3
          have e4a := cell_low lw1 e4
          have e5a := cell_low lw1 e5
          have z0a := cell_low lw1 z0
          have z1a := cell_low lw1 z1
          have z2a := cell_low lw1 z2
          have z3a := cell_low lw1 z3
          have e0b := cell_low lw2 e0
          have e1b := cell_low lw2 e1
          have e2b := cell_low lw2 e2
          have e3b := cell_low lw2 e3
          have e4b := cell_low lw2 e4
          have e5b := cell_low lw2 e5
          have z0b := cell_low lw2 z0
          have z1b := cell_low lw2 z1
          have z2b := cell_low lw2 z2
          have z3b := cell_low lw2 z3
          clear lw1 lw2
          have HSLF := HSL1
          have HSLO : Hid (Sl wx5 0 wx5.heap.size a2 k2) := HSL2
          clear HSL1 HSL2
          have hbx : Below wx5.heap.size wx5 (wx5.alloc (.cells #[.int .i64 s1, .int .i64 v1, .slice a1 (flen k1) d1] 35)) := box_low _ _
          have Hn : Hid (Tb wx5.heap.size s1 v1 a1 d1 k1 (wx5.alloc (.cells #[.int .i64 s1, .int .i64 v1, .slice a1 (flen k1) d1] 35))) := Tb.new HSLF.out
          have Hlow' : Hid (Below w.heap.size w (wx5.alloc (.cells #[.int .i64 s1, .int .i64 v1, .slice a1 (flen k1) d1] 35))) := below_next Hlow.out hbx
          have HE' : Hid (ESl (wx5.alloc (.cells #[.int .i64 s1, .int .i64 v1, .slice a1 (flen k1) d1] 35)) 0 (wx5.alloc (.cells #[.int .i64 s1, .int .i64 v1, .slice a1 (flen k1) d1] 35)).heap.size (some ⟨eb, eo, none⟩) es) := HE.out.next hbx
          have HP' : Hid (ISc (wx5.alloc (.cells #[.int .i64 s1, .int .i64 v1, .slice a1 (flen k1) d1] 35)) 0 (wx5.alloc (.cells #[.int .i64 s1, .int .i64 v1, .slice a1 (flen k1) d1] 35)).heap.size pA pC place) := HP.out.next hbx
          have HBS' : Hid (BSl (wx5.alloc (.cells #[.int .i64 s1, .int .i64 v1, .slice a1 (flen k1) d1] 35)) 0 (wx5.alloc (.cells #[.int .i64 s1, .int .i64 v1, .slice a1 (flen k1) d1] 35)).heap.size B bs) := HBS.out.next hbx
          have Ht' : Hid (Tb wa.heap.size s v a c k (wx5.alloc (.cells #[.int .i64 s1, .int .i64 v1, .slice a1 (flen k1) d1] 35))) := Ht.out.next hbx
          have Hl' : Hid (Lb (wa.heap.size + 1) (i : Int) false pA pC place B D bs (wx5.alloc (.cells #[.int .i64 s1, .int .i64 v1, .slice a1 (flen k1) d1] 35))) := Hl.out.next hbx
          have Hw' : Hid (Tb wx1.heap.size sw vw aw cw kw (wx5.alloc (.cells #[.int .i64 s1, .int .i64 v1, .slice a1 (flen k1) d1] 35))) := Hw.out.next hbx
          have Hx' : Hid (Tb wx2.heap.size sw vw ax cx kw (wx5.alloc (.cells #[.int .i64 s1, .int .i64 v1, .slice a1 (flen k1) d1] 35))) := Hx.out.next hbx
          have HSLO' : Hid (Sl (wx5.alloc (.cells #[.int .i64 s1, .int .i64 v1, .slice a1 (flen k1) d1] 35)) 0 (wx5.alloc (.cells #[.int .i64 s1, .int .i64 v1, .slice a1 (flen k1) d1] 35)).heap.size a2 k2) := HSLO.out.next hbx
          clear Hlow HE HP HBS Ht Hl Hw Hx HSLO
          have Hlow := Hlow'
          clear Hlow'
          have HE := HE'
          clear HE'
          have HP := HP'
          clear HP'
          have HBS := HBS'
          clear HBS'
          have Ht := Ht'
          clear Ht'
          have Hl := Hl'
          clear Hl'
          have Hw := Hw'
          clear Hw'
          have Hx := Hx'
          clear Hx'
          have HSLO := HSLO'
          clear HSLO'
          have Hf := Hn
          clear Hn hbx
          have HSLO2 := HSLO
          clear HSLO
          have hbx : Below (wx5.alloc (.cells #[.int .i64 s1, .int .i64 v1, .slice a1 (flen k1) d1] 35)).heap.size (wx5.alloc (.cells #[.int .i64 s1, .int .i64 v1, .slice a1 (flen k1) d1] 35)) ((wx5.alloc (.cells #[.int .i64 s1, .int .i64 v1, .slice a1 (flen k1) d1] 35)).alloc (.cells #[.int .i64 s2, .int .i64 v2, .slice a2 (flen k2) d2] 35)) := box_low _ _
          have Hn : Hid (Tb (wx5.heap.size + 1) s2 v2 a2 d2 k2 ((wx5.alloc (.cells #[.int .i64 s1, .int .i64 v1, .slice a1 (flen k1) d1] 35)).alloc (.cells #[.int .i64 s2, .int .i64 v2, .slice a2 (flen k2) d2] 35))) := (show (wx5.alloc (.cells #[.int .i64 s1, .int .i64 v1, .slice a1 (flen k1) d1] 35)).heap.size = (wx5.heap.size + 1) from by simp) ▸ Tb.new HSLO2.out
          have Hlow' : Hid (Below w.heap.size w ((wx5.alloc (.cells #[.int .i64 s1, .int .i64 v1, .slice a1 (flen k1) d1] 35)).alloc (.cells #[.int .i64 s2, .int .i64 v2, .slice a2 (flen k2) d2] 35))) := below_next Hlow.out hbx
          have HE' : Hid (ESl ((wx5.alloc (.cells #[.int .i64 s1, .int .i64 v1, .slice a1 (flen k1) d1] 35)).alloc (.cells #[.int .i64 s2, .int .i64 v2, .slice a2 (flen k2) d2] 35)) 0 ((wx5.alloc (.cells #[.int .i64 s1, .int .i64 v1, .slice a1 (flen k1) d1] 35)).alloc (.cells #[.int .i64 s2, .int .i64 v2, .slice a2 (flen k2) d2] 35)).heap.size (some ⟨eb, eo, none⟩) es) := HE.out.next hbx
          have HP' : Hid (ISc ((wx5.alloc (.cells #[.int .i64 s1, .int .i64 v1, .slice a1 (flen k1) d1] 35)).alloc (.cells #[.int .i64 s2, .int .i64 v2, .slice a2 (flen k2) d2] 35)) 0 ((wx5.alloc (.cells #[.int .i64 s1, .int .i64 v1, .slice a1 (flen k1) d1] 35)).alloc (.cells #[.int .i64 s2, .int .i64 v2, .slice a2 (flen k2) d2] 35)).heap.size pA pC place) := HP.out.next hbx
          have HBS' : Hid (BSl ((wx5.alloc (.cells #[.int .i64 s1, .int .i64 v1, .slice a1 (flen k1) d1] 35)).alloc (.cells #[.int .i64 s2, .int .i64 v2, .slice a2 (flen k2) d2] 35)) 0 ((wx5.alloc (.cells #[.int .i64 s1, .int .i64 v1, .slice a1 (flen k1) d1] 35)).alloc (.cells #[.int .i64 s2, .int .i64 v2, .slice a2 (flen k2) d2] 35)).heap.size B bs) := HBS.out.next hbx
          have Ht' : Hid (Tb wa.heap.size s v a c k ((wx5.alloc (.cells #[.int .i64 s1, .int .i64 v1, .slice a1 (flen k1) d1] 35)).alloc (.cells #[.int .i64 s2, .int .i64 v2, .slice a2 (flen k2) d2] 35))) := Ht.out.next hbx
          have Hl' : Hid (Lb (wa.heap.size + 1) (i : Int) false pA pC place B D bs ((wx5.alloc (.cells #[.int .i64 s1, .int .i64 v1, .slice a1 (flen k1) d1] 35)).alloc (.cells #[.int .i64 s2, .int .i64 v2, .slice a2 (flen k2) d2] 35))) := Hl.out.next hbx
          have Hw' : Hid (Tb wx1.heap.size sw vw aw cw kw ((wx5.alloc (.cells #[.int .i64 s1, .int .i64 v1, .slice a1 (flen k1) d1] 35)).alloc (.cells #[.int .i64 s2, .int .i64 v2, .slice a2 (flen k2) d2] 35))) := Hw.out.next hbx
          have Hx' : Hid (Tb wx2.heap.size sw vw ax cx kw ((wx5.alloc (.cells #[.int .i64 s1, .int .i64 v1, .slice a1 (flen k1) d1] 35)).alloc (.cells #[.int .i64 s2, .int .i64 v2, .slice a2 (flen k2) d2] 35))) := Hx.out.next hbx
          have Hf' : Hid (Tb wx5.heap.size s1 v1 a1 d1 k1 ((wx5.alloc (.cells #[.int .i64 s1, .int .i64 v1, .slice a1 (flen k1) d1] 35)).alloc (.cells #[.int .i64 s2, .int .i64 v2, .slice a2 (flen k2) d2] 35))) := Hf.out.next hbx
          clear Hlow HE HP HBS Ht Hl Hw Hx Hf
          have Hlow := Hlow'
          clear Hlow'
          have HE := HE'
          clear HE'
          have HP := HP'
          clear HP'
          have HBS := HBS'
          clear HBS'
          have Ht := Ht'
          clear Ht'
          have Hl := Hl'
          clear Hl'
          have Hw := Hw'
          clear Hw'
          have Hx := Hx'
          clear Hx'
          have Hf := Hf'
          clear Hf'
          have Ho := Hn
          clear Hn hbx
          clear HSLO2 HSLF
          have qt0 := Ht.out.c0
          have qt1 := Ht.out.c1
          have qt2 := Ht.out.c2
          have ql0 := Hl.out.c0
          have ql1 := Hl.out.c1
          have ql2 := Hl.out.c2
          have ql3 := Hl.out.c3
          go_wp2_with fail
          with_reducible refine (iTermAt_any s v a c k pA pC place _ Ht.out.sl Hl.out.isl (by omega)).mono ?_
          rintro e wx6 ⟨ap, cp, sp, vp, kp, tp, hdp, rfl, hb, hlp⟩
          rw [HAT1.out] at hdp
          simp only [Prod.mk.injEq] at hdp
          obtain ⟨rfl, rfl, rfl, rfl⟩ := hdp
          clear z0 z1 z2 z3 e0a e1a e2a e3a e4a e5a z0a z1a z2a z3a e0b e1b e2b e3b e4b e5b z0b z1b z2b z3b e0 e1 e2 e3 e4 e5 qt0 qt1 qt2 ql0 ql1 ql2 ql3
          have Hlow' : Hid (Below w.heap.size w wx6) := below_next Hlow.out hb
          have HE' : Hid (ESl wx6 0 wx6.heap.size (some ⟨eb, eo, none⟩) es) := HE.out.next hb
          have HP' : Hid (ISc wx6 0 wx6.heap.size pA pC place) := HP.out.next hb
          have HBS' : Hid (BSl wx6 0 wx6.heap.size B bs) := HBS.out.next hb
          have Ht' : Hid (Tb wa.heap.size s v a c k wx6) := Ht.out.next hb
          have Hl' : Hid (Lb (wa.heap.size + 1) (i : Int) false pA pC place B D bs wx6) := Hl.out.next hb
          have Hw' : Hid (Tb wx1.heap.size sw vw aw cw kw wx6) := Hw.out.next hb
          have Hx' : Hid (Tb wx2.heap.size sw vw ax cx kw wx6) := Hx.out.next hb
          have Hf' : Hid (Tb wx5.heap.size s1 v1 a1 d1 k1 wx6) := Hf.out.next hb
          have Ho' : Hid (Tb (wx5.heap.size + 1) s2 v2 a2 d2 k2 wx6) := Ho.out.next hb
          clear Hlow HE HP HBS Ht Hl Hw Hx Hf Ho
          have Hlow := Hlow'
          clear Hlow'
          have HE := HE'
          clear HE'
          have HP := HP'
          clear HP'
          have HBS := HBS'
          clear HBS'
          have Ht := Ht'
          clear Ht'
          have Hl := Hl'
          clear Hl'
          have Hw := Hw'
          clear Hw'
          have Hx := Hx'
          clear Hx'
          have Hf := Hf'
          clear Hf'
          have Ho := Ho'
          clear Ho'
          clear hb
          have Hlp := Lib.hid hlp
          clear hlp
          have hbx : Below wx6.heap.size wx6 (wx6.alloc (.cells #[.int .i64 p1, .int .i64 p2, .slice ap (flen p3) cp] 35)) := box_low _ _
          have Hn : Hid (Tb wx6.heap.size p1 p2 ap cp p3 (wx6.alloc (.cells #[.int .i64 p1, .int .i64 p2, .slice ap (flen p3) cp] 35))) := Tb.new Hlp.out
          have Hlow' : Hid (Below w.heap.size w (wx6.alloc (.cells #[.int .i64 p1, .int .i64 p2, .slice ap (flen p3) cp] 35))) := below_next Hlow.out hbx
          have HE' : Hid (ESl (wx6.alloc (.cells #[.int .i64 p1, .int .i64 p2, .slice ap (flen p3) cp] 35)) 0 (wx6.alloc (.cells #[.int .i64 p1, .int .i64 p2, .slice ap (flen p3) cp] 35)).heap.size (some ⟨eb, eo, none⟩) es) := HE.out.next hbx
          have HP' : Hid (ISc (wx6.alloc (.cells #[.int .i64 p1, .int .i64 p2, .slice ap (flen p3) cp] 35)) 0 (wx6.alloc (.cells #[.int .i64 p1, .int .i64 p2, .slice ap (flen p3) cp] 35)).heap.size pA pC place) := HP.out.next hbx
          have HBS' : Hid (BSl (wx6.alloc (.cells #[.int .i64 p1, .int .i64 p2, .slice ap (flen p3) cp] 35)) 0 (wx6.alloc (.cells #[.int .i64 p1, .int .i64 p2, .slice ap (flen p3) cp] 35)).heap.size B bs) := HBS.out.next hbx
          have Ht' : Hid (Tb wa.heap.size s v a c k (wx6.alloc (.cells #[.int .i64 p1, .int .i64 p2, .slice ap (flen p3) cp] 35))) := Ht.out.next hbx
          have Hl' : Hid (Lb (wa.heap.size + 1) (i : Int) false pA pC place B D bs (wx6.alloc (.cells #[.int .i64 p1, .int .i64 p2, .slice ap (flen p3) cp] 35))) := Hl.out.next hbx
          have Hw' : Hid (Tb wx1.heap.size sw vw aw cw kw (wx6.alloc (.cells #[.int .i64 p1, .int .i64 p2, .slice ap (flen p3) cp] 35))) := Hw.out.next hbx
          have Hx' : Hid (Tb wx2.heap.size sw vw ax cx kw (wx6.alloc (.cells #[.int .i64 p1, .int .i64 p2, .slice ap (flen p3) cp] 35))) := Hx.out.next hbx
          have Hf' : Hid (Tb wx5.heap.size s1 v1 a1 d1 k1 (wx6.alloc (.cells #[.int .i64 p1, .int .i64 p2, .slice ap (flen p3) cp] 35))) := Hf.out.next hbx
          have Ho' : Hid (Tb (wx5.heap.size + 1) s2 v2 a2 d2 k2 (wx6.alloc (.cells #[.int .i64 p1, .int .i64 p2, .slice ap (flen p3) cp] 35))) := Ho.out.next hbx
          clear Hlow HE HP HBS Ht Hl Hw Hx Hf Ho
          have Hlow := Hlow'
          clear Hlow'
          have HE := HE'
          clear HE'
          have HP := HP'
          clear HP'
          have HBS := HBS'
          clear HBS'
          have Ht := Ht'
          clear Ht'
          have Hl := Hl'
          clear Hl'
          have Hw := Hw'
          clear Hw'
          have Hx := Hx'
          clear Hx'
          have Hf := Hf'
          clear Hf'
          have Ho := Ho'
          clear Ho'
          have Hp := Hn
          clear Hn hbx
          clear Hlp
          have qx0 := Hx.out.c0
          have qx1 := Hx.out.c1
          have qx2 := Hx.out.c2
          have ql0 := Hl.out.c0
          have ql1 := Hl.out.c1
          have ql2 := Hl.out.c2
          have ql3 := Hl.out.c3
          go_wp2_with fail
          with_reducible refine (iTermAt_any sw vw ax cx kw pA pC place _ Hx.out.sl Hl.out.isl (by omega)).mono ?_
          rintro e wx7 ⟨ab, cb, sb, vb, kb, tb, hdb, rfl, hb, hlb⟩
          rw [HAT2.out] at hdb
          simp only [Prod.mk.injEq] at hdb
          obtain ⟨rfl, rfl, rfl, rfl⟩ := hdb
          clear qx0 qx1 qx2 ql0 ql1 ql2 ql3
          have Hlow' : Hid (Below w.heap.size w wx7) := below_next Hlow.out hb
          have HE' : Hid (ESl wx7 0 wx7.heap.size (some ⟨eb, eo, none⟩) es) := HE.out.next hb
          have HP' : Hid (ISc wx7 0 wx7.heap.size pA pC place) := HP.out.next hb
          have HBS' : Hid (BSl wx7 0 wx7.heap.size B bs) := HBS.out.next hb
          have Ht' : Hid (Tb wa.heap.size s v a c k wx7) := Ht.out.next hb
          have Hl' : Hid (Lb (wa.heap.size + 1) (i : Int) false pA pC place B D bs wx7) := Hl.out.next hb
          have Hw' : Hid (Tb wx1.heap.size sw vw aw cw kw wx7) := Hw.out.next hb
          have Hx' : Hid (Tb wx2.heap.size sw vw ax cx kw wx7) := Hx.out.next hb
          have Hf' : Hid (Tb wx5.heap.size s1 v1 a1 d1 k1 wx7) := Hf.out.next hb
          have Ho' : Hid (Tb (wx5.heap.size + 1) s2 v2 a2 d2 k2 wx7) := Ho.out.next hb
          have Hp' : Hid (Tb wx6.heap.size p1 p2 ap cp p3 wx7) := Hp.out.next hb
          clear Hlow HE HP HBS Ht Hl Hw Hx Hf Ho Hp
          have Hlow := Hlow'
          clear Hlow'
          have HE := HE'
          clear HE'
          have HP := HP'
          clear HP'
          have HBS := HBS'
          clear HBS'
          have Ht := Ht'
          clear Ht'
          have Hl := Hl'
          clear Hl'
          have Hw := Hw'
          clear Hw'
          have Hx := Hx'
          clear Hx'
          have Hf := Hf'
          clear Hf'
          have Ho := Ho'
          clear Ho'
          have Hp := Hp'
          clear Hp'
          clear hb
          have Hlb := Lib.hid hlb
          clear hlb
          have hbx : Below wx7.heap.size wx7 (wx7.alloc (.cells #[.int .i64 g1, .int .i64 g2, .slice ab (flen g3) cb] 35)) := box_low _ _
          have Hn : Hid (Tb wx7.heap.size g1 g2 ab cb g3 (wx7.alloc (.cells #[.int .i64 g1, .int .i64 g2, .slice ab (flen g3) cb] 35))) := Tb.new Hlb.out
          have Hlow' : Hid (Below w.heap.size w (wx7.alloc (.cells #[.int .i64 g1, .int .i64 g2, .slice ab (flen g3) cb] 35))) := below_next Hlow.out hbx
          have HE' : Hid (ESl (wx7.alloc (.cells #[.int .i64 g1, .int .i64 g2, .slice ab (flen g3) cb] 35)) 0 (wx7.alloc (.cells #[.int .i64 g1, .int .i64 g2, .slice ab (flen g3) cb] 35)).heap.size (some ⟨eb, eo, none⟩) es) := HE.out.next hbx
          have HP' : Hid (ISc (wx7.alloc (.cells #[.int .i64 g1, .int .i64 g2, .slice ab (flen g3) cb] 35)) 0 (wx7.alloc (.cells #[.int .i64 g1, .int .i64 g2, .slice ab (flen g3) cb] 35)).heap.size pA pC place) := HP.out.next hbx
          have HBS' : Hid (BSl (wx7.alloc (.cells #[.int .i64 g1, .int .i64 g2, .slice ab (flen g3) cb] 35)) 0 (wx7.alloc (.cells #[.int .i64 g1, .int .i64 g2, .slice ab (flen g3) cb] 35)).heap.size B bs) := HBS.out.next hbx
          have Ht' : Hid (Tb wa.heap.size s v a c k (wx7.alloc (.cells #[.int .i64 g1, .int .i64 g2, .slice ab (flen g3) cb] 35))) := Ht.out.next hbx
          have Hl' : Hid (Lb (wa.heap.size + 1) (i : Int) false pA pC place B D bs (wx7.alloc (.cells #[.int .i64 g1, .int .i64 g2, .slice ab (flen g3) cb] 35))) := Hl.out.next hbx
          have Hw' : Hid (Tb wx1.heap.size sw vw aw cw kw (wx7.alloc (.cells #[.int .i64 g1, .int .i64 g2, .slice ab (flen g3) cb] 35))) := Hw.out.next hbx
          have Hx' : Hid (Tb wx2.heap.size sw vw ax cx kw (wx7.alloc (.cells #[.int .i64 g1, .int .i64 g2, .slice ab (flen g3) cb] 35))) := Hx.out.next hbx
          have Hf' : Hid (Tb wx5.heap.size s1 v1 a1 d1 k1 (wx7.alloc (.cells #[.int .i64 g1, .int .i64 g2, .slice ab (flen g3) cb] 35))) := Hf.out.next hbx
          have Ho' : Hid (Tb (wx5.heap.size + 1) s2 v2 a2 d2 k2 (wx7.alloc (.cells #[.int .i64 g1, .int .i64 g2, .slice ab (flen g3) cb] 35))) := Ho.out.next hbx
          have Hp' : Hid (Tb wx6.heap.size p1 p2 ap cp p3 (wx7.alloc (.cells #[.int .i64 g1, .int .i64 g2, .slice ab (flen g3) cb] 35))) := Hp.out.next hbx
          clear Hlow HE HP HBS Ht Hl Hw Hx Hf Ho Hp
          have Hlow := Hlow'
          clear Hlow'
          have HE := HE'
          clear HE'
          have HP := HP'
          clear HP'
          have HBS := HBS'
          clear HBS'
          have Ht := Ht'
          clear Ht'
          have Hl := Hl'
          clear Hl'
          have Hw := Hw'
          clear Hw'
          have Hx := Hx'
          clear Hx'
          have Hf := Hf'
          clear Hf'
          have Ho := Ho'
          clear Ho'
          have Hp := Hp'
          clear Hp'
          have Hb := Hn
          clear Hn hbx
          clear Hlb
          have ql0 := Hl.out.c0
          have ql1 := Hl.out.c1
          have ql2 := Hl.out.c2
          have ql3 := Hl.out.c3
          have qf0 := Hf.out.c0
          have qf1 := Hf.out.c1
          have qf2 := Hf.out.c2
          go_wp2_with fail
          with_reducible refine (iSubstDo_any bs B D s1 v1 a1 d1 k1 _ Hl.out.hb (by omega) Hf.out.sl).mono ?_
          rintro e wx8 ⟨ac, cc, sc, vc, kc, tc, hdc, rfl, hb, hlc⟩
          rw [HSD1.out] at hdc
          simp only [Prod.mk.injEq] at hdc
          obtain ⟨rfl, rfl, rfl, rfl⟩ := hdc
          clear ql0 ql1 ql2 ql3 qf0 qf1 qf2
          have Hlow' : Hid (Below w.heap.size w wx8) := below_next Hlow.out hb
          have HE' : Hid (ESl wx8 0 wx8.heap.size (some ⟨eb, eo, none⟩) es) := HE.out.next hb
          have HP' : Hid (ISc wx8 0 wx8.heap.size pA pC place) := HP.out.next hb
          have HBS' : Hid (BSl wx8 0 wx8.heap.size B bs) := HBS.out.next hb
          have Ht' : Hid (Tb wa.heap.size s v a c k wx8) := Ht.out.next hb
          have Hl' : Hid (Lb (wa.heap.size + 1) (i : Int) false pA pC place B D bs wx8) := Hl.out.next hb
          have Hw' : Hid (Tb wx1.heap.size sw vw aw cw kw wx8) := Hw.out.next hb
          have Hx' : Hid (Tb wx2.heap.size sw vw ax cx kw wx8) := Hx.out.next hb
          have Hf' : Hid (Tb wx5.heap.size s1 v1 a1 d1 k1 wx8) := Hf.out.next hb
          have Ho' : Hid (Tb (wx5.heap.size + 1) s2 v2 a2 d2 k2 wx8) := Ho.out.next hb
          have Hp' : Hid (Tb wx6.heap.size p1 p2 ap cp p3 wx8) := Hp.out.next hb
          have Hb' : Hid (Tb wx7.heap.size g1 g2 ab cb g3 wx8) := Hb.out.next hb
          clear Hlow HE HP HBS Ht Hl Hw Hx Hf Ho Hp Hb
          have Hlow := Hlow'
          clear Hlow'
          have HE := HE'
          clear HE'
          have HP := HP'
          clear HP'
          have HBS := HBS'
          clear HBS'
          have Ht := Ht'
          clear Ht'
          have Hl := Hl'
          clear Hl'
          have Hw := Hw'
          clear Hw'
          have Hx := Hx'
          clear Hx'
          have Hf := Hf'
          clear Hf'
          have Ho := Ho'
          clear Ho'
          have Hp := Hp'
          clear Hp'
          have Hb := Hb'
          clear Hb'
          clear hb
          have Hlc := Lib.hid hlc
          clear hlc
          have hbx : Below wx8.heap.size wx8 (wx8.alloc (.cells #[.int .i64 c1, .int .i64 c2, .slice ac (flen c3) cc] 35)) := box_low _ _
          have Hn : Hid (Tb wx8.heap.size c1 c2 ac cc c3 (wx8.alloc (.cells #[.int .i64 c1, .int .i64 c2, .slice ac (flen c3) cc] 35))) := Tb.new Hlc.out
          have Hlow' : Hid (Below w.heap.size w (wx8.alloc (.cells #[.int .i64 c1, .int .i64 c2, .slice ac (flen c3) cc] 35))) := below_next Hlow.out hbx
          have HE' : Hid (ESl (wx8.alloc (.cells #[.int .i64 c1, .int .i64 c2, .slice ac (flen c3) cc] 35)) 0 (wx8.alloc (.cells #[.int .i64 c1, .int .i64 c2, .slice ac (flen c3) cc] 35)).heap.size (some ⟨eb, eo, none⟩) es) := HE.out.next hbx
          have HP' : Hid (ISc (wx8.alloc (.cells #[.int .i64 c1, .int .i64 c2, .slice ac (flen c3) cc] 35)) 0 (wx8.alloc (.cells #[.int .i64 c1, .int .i64 c2, .slice ac (flen c3) cc] 35)).heap.size pA pC place) := HP.out.next hbx
          have HBS' : Hid (BSl (wx8.alloc (.cells #[.int .i64 c1, .int .i64 c2, .slice ac (flen c3) cc] 35)) 0 (wx8.alloc (.cells #[.int .i64 c1, .int .i64 c2, .slice ac (flen c3) cc] 35)).heap.size B bs) := HBS.out.next hbx
          have Ht' : Hid (Tb wa.heap.size s v a c k (wx8.alloc (.cells #[.int .i64 c1, .int .i64 c2, .slice ac (flen c3) cc] 35))) := Ht.out.next hbx
          have Hl' : Hid (Lb (wa.heap.size + 1) (i : Int) false pA pC place B D bs (wx8.alloc (.cells #[.int .i64 c1, .int .i64 c2, .slice ac (flen c3) cc] 35))) := Hl.out.next hbx
          have Hw' : Hid (Tb wx1.heap.size sw vw aw cw kw (wx8.alloc (.cells #[.int .i64 c1, .int .i64 c2, .slice ac (flen c3) cc] 35))) := Hw.out.next hbx
          have Hx' : Hid (Tb wx2.heap.size sw vw ax cx kw (wx8.alloc (.cells #[.int .i64 c1, .int .i64 c2, .slice ac (flen c3) cc] 35))) := Hx.out.next hbx
          have Hf' : Hid (Tb wx5.heap.size s1 v1 a1 d1 k1 (wx8.alloc (.cells #[.int .i64 c1, .int .i64 c2, .slice ac (flen c3) cc] 35))) := Hf.out.next hbx
          have Ho' : Hid (Tb (wx5.heap.size + 1) s2 v2 a2 d2 k2 (wx8.alloc (.cells #[.int .i64 c1, .int .i64 c2, .slice ac (flen c3) cc] 35))) := Ho.out.next hbx
          have Hp' : Hid (Tb wx6.heap.size p1 p2 ap cp p3 (wx8.alloc (.cells #[.int .i64 c1, .int .i64 c2, .slice ac (flen c3) cc] 35))) := Hp.out.next hbx
          have Hb' : Hid (Tb wx7.heap.size g1 g2 ab cb g3 (wx8.alloc (.cells #[.int .i64 c1, .int .i64 c2, .slice ac (flen c3) cc] 35))) := Hb.out.next hbx
          clear Hlow HE HP HBS Ht Hl Hw Hx Hf Ho Hp Hb
          have Hlow := Hlow'
          clear Hlow'
          have HE := HE'
          clear HE'
          have HP := HP'
          clear HP'
          have HBS := HBS'
          clear HBS'
          have Ht := Ht'
          clear Ht'
          have Hl := Hl'
          clear Hl'
          have Hw := Hw'
          clear Hw'
          have Hx := Hx'
          clear Hx'
          have Hf := Hf'
          clear Hf'
          have Ho := Ho'
          clear Ho'
          have Hp := Hp'
          clear Hp'
          have Hb := Hb'
          clear Hb'
          have Hc := Hn
          clear Hn hbx
          clear Hlc
          have ql0 := Hl.out.c0
          have ql1 := Hl.out.c1
          have ql2 := Hl.out.c2
          have ql3 := Hl.out.c3
          have qo0 := Ho.out.c0
          have qo1 := Ho.out.c1
          have qo2 := Ho.out.c2
          go_wp2_with fail
          with_reducible refine (iSubstDo_any bs B D s2 v2 a2 d2 k2 _ Hl.out.hb (by omega) Ho.out.sl).mono ?_
          rintro e wx9 ⟨ad, cd, sd, vd, kd, td, hdd, rfl, hb, hld⟩
          rw [HSD2.out] at hdd
          simp only [Prod.mk.injEq] at hdd
          obtain ⟨rfl, rfl, rfl, rfl⟩ := hdd
          clear ql0 ql1 ql2 ql3 qo0 qo1 qo2
          have Hlow' : Hid (Below w.heap.size w wx9) := below_next Hlow.out hb
          have HE' : Hid (ESl wx9 0 wx9.heap.size (some ⟨eb, eo, none⟩) es) := HE.out.next hb
          have HP' : Hid (ISc wx9 0 wx9.heap.size pA pC place) := HP.out.next hb
          have HBS' : Hid (BSl wx9 0 wx9.heap.size B bs) := HBS.out.next hb
          have Ht' : Hid (Tb wa.heap.size s v a c k wx9) := Ht.out.next hb
          have Hl' : Hid (Lb (wa.heap.size + 1) (i : Int) false pA pC place B D bs wx9) := Hl.out.next hb
          have Hw' : Hid (Tb wx1.heap.size sw vw aw cw kw wx9) := Hw.out.next hb
          have Hx' : Hid (Tb wx2.heap.size sw vw ax cx kw wx9) := Hx.out.next hb
          have Hf' : Hid (Tb wx5.heap.size s1 v1 a1 d1 k1 wx9) := Hf.out.next hb
          have Ho' : Hid (Tb (wx5.heap.size + 1) s2 v2 a2 d2 k2 wx9) := Ho.out.next hb
          have Hp' : Hid (Tb wx6.heap.size p1 p2 ap cp p3 wx9) := Hp.out.next hb
          have Hb' : Hid (Tb wx7.heap.size g1 g2 ab cb g3 wx9) := Hb.out.next hb
          have Hc' : Hid (Tb wx8.heap.size c1 c2 ac cc c3 wx9) := Hc.out.next hb
          clear Hlow HE HP HBS Ht Hl Hw Hx Hf Ho Hp Hb Hc
          have Hlow := Hlow'
          clear Hlow'
          have HE := HE'
          clear HE'
          have HP := HP'
          clear HP'
          have HBS := HBS'
          clear HBS'
          have Ht := Ht'
          clear Ht'
          have Hl := Hl'
          clear Hl'
          have Hw := Hw'
          clear Hw'
          have Hx := Hx'
          clear Hx'
          have Hf := Hf'
          clear Hf'
          have Ho := Ho'
          clear Ho'
          have Hp := Hp'
          clear Hp'
          have Hb := Hb'
          clear Hb'
          have Hc := Hc'
          clear Hc'
          clear hb
          have Hld := Lib.hid hld
          clear hld
          have hbx : Below wx9.heap.size wx9 (wx9.alloc (.cells #[.int .i64 g1, .int .i64 g2, .slice ad (flen g3) cd] 35)) := box_low _ _
          have Hn : Hid (Tb wx9.heap.size g1 g2 ad cd g3 (wx9.alloc (.cells #[.int .i64 g1, .int .i64 g2, .slice ad (flen g3) cd] 35))) := Tb.new Hld.out
          have Hlow' : Hid (Below w.heap.size w (wx9.alloc (.cells #[.int .i64 g1, .int .i64 g2, .slice ad (flen g3) cd] 35))) := below_next Hlow.out hbx
          have HE' : Hid (ESl (wx9.alloc (.cells #[.int .i64 g1, .int .i64 g2, .slice ad (flen g3) cd] 35)) 0 (wx9.alloc (.cells #[.int .i64 g1, .int .i64 g2, .slice ad (flen g3) cd] 35)).heap.size (some ⟨eb, eo, none⟩) es) := HE.out.next hbx
          have HP' : Hid (ISc (wx9.alloc (.cells #[.int .i64 g1, .int .i64 g2, .slice ad (flen g3) cd] 35)) 0 (wx9.alloc (.cells #[.int .i64 g1, .int .i64 g2, .slice ad (flen g3) cd] 35)).heap.size pA pC place) := HP.out.next hbx
          have HBS' : Hid (BSl (wx9.alloc (.cells #[.int .i64 g1, .int .i64 g2, .slice ad (flen g3) cd] 35)) 0 (wx9.alloc (.cells #[.int .i64 g1, .int .i64 g2, .slice ad (flen g3) cd] 35)).heap.size B bs) := HBS.out.next hbx
          have Ht' : Hid (Tb wa.heap.size s v a c k (wx9.alloc (.cells #[.int .i64 g1, .int .i64 g2, .slice ad (flen g3) cd] 35))) := Ht.out.next hbx
          have Hl' : Hid (Lb (wa.heap.size + 1) (i : Int) false pA pC place B D bs (wx9.alloc (.cells #[.int .i64 g1, .int .i64 g2, .slice ad (flen g3) cd] 35))) := Hl.out.next hbx
          have Hw' : Hid (Tb wx1.heap.size sw vw aw cw kw (wx9.alloc (.cells #[.int .i64 g1, .int .i64 g2, .slice ad (flen g3) cd] 35))) := Hw.out.next hbx
          have Hx' : Hid (Tb wx2.heap.size sw vw ax cx kw (wx9.alloc (.cells #[.int .i64 g1, .int .i64 g2, .slice ad (flen g3) cd] 35))) := Hx.out.next hbx
          have Hf' : Hid (Tb wx5.heap.size s1 v1 a1 d1 k1 (wx9.alloc (.cells #[.int .i64 g1, .int .i64 g2, .slice ad (flen g3) cd] 35))) := Hf.out.next hbx
          have Ho' : Hid (Tb (wx5.heap.size + 1) s2 v2 a2 d2 k2 (wx9.alloc (.cells #[.int .i64 g1, .int .i64 g2, .slice ad (flen g3) cd] 35))) := Ho.out.next hbx
          have Hp' : Hid (Tb wx6.heap.size p1 p2 ap cp p3 (wx9.alloc (.cells #[.int .i64 g1, .int .i64 g2, .slice ad (flen g3) cd] 35))) := Hp.out.next hbx
          have Hb' : Hid (Tb wx7.heap.size g1 g2 ab cb g3 (wx9.alloc (.cells #[.int .i64 g1, .int .i64 g2, .slice ad (flen g3) cd] 35))) := Hb.out.next hbx
          have Hc' : Hid (Tb wx8.heap.size c1 c2 ac cc c3 (wx9.alloc (.cells #[.int .i64 g1, .int .i64 g2, .slice ad (flen g3) cd] 35))) := Hc.out.next hbx
          clear Hlow HE HP HBS Ht Hl Hw Hx Hf Ho Hp Hb Hc
          have Hlow := Hlow'
          clear Hlow'
          have HE := HE'
          clear HE'
          have HP := HP'
          clear HP'
          have HBS := HBS'
          clear HBS'
          have Ht := Ht'
          clear Ht'
          have Hl := Hl'
          clear Hl'
          have Hw := Hw'
          clear Hw'
          have Hx := Hx'
          clear Hx'
          have Hf := Hf'
          clear Hf'
          have Ho := Ho'
          clear Ho'
          have Hp := Hp'
          clear Hp'
          have Hb := Hb'
          clear Hb'
          have Hc := Hc'
          clear Hc'
          have Hd := Hn
          clear Hn hbx
          clear Hld
          have qp0 := Hp.out.c0
          have qp1 := Hp.out.c1
          have qp2 := Hp.out.c2
          have qc0 := Hc.out.c0
          have qc1 := Hc.out.c1
          have qc2 := Hc.out.c2
          go_wp2_with fail
          with_reducible refine (laTerm_any (fsz p3) p1 p2 ap cp p3 c1 c2 ac cc c3 _ Hp.out.sl Hc.out.sl (Nat.le_refl _) (by omega)).mono ?_
          rintro e wx10 ⟨he, hb⟩
          rw [HTEQ.out] at he
          subst he
          clear qp0 qp1 qp2 qc0 qc1 qc2
          have Hlow' : Hid (Below w.heap.size w wx10) := below_next Hlow.out hb
          have HE' : Hid (ESl wx10 0 wx10.heap.size (some ⟨eb, eo, none⟩) es) := HE.out.next hb
          have HP' : Hid (ISc wx10 0 wx10.heap.size pA pC place) := HP.out.next hb
          have HBS' : Hid (BSl wx10 0 wx10.heap.size B bs) := HBS.out.next hb
          have Ht' : Hid (Tb wa.heap.size s v a c k wx10) := Ht.out.next hb
          have Hl' : Hid (Lb (wa.heap.size + 1) (i : Int) false pA pC place B D bs wx10) := Hl.out.next hb
          have Hw' : Hid (Tb wx1.heap.size sw vw aw cw kw wx10) := Hw.out.next hb
          have Hx' : Hid (Tb wx2.heap.size sw vw ax cx kw wx10) := Hx.out.next hb
          have Hf' : Hid (Tb wx5.heap.size s1 v1 a1 d1 k1 wx10) := Hf.out.next hb
          have Ho' : Hid (Tb (wx5.heap.size + 1) s2 v2 a2 d2 k2 wx10) := Ho.out.next hb
          have Hp' : Hid (Tb wx6.heap.size p1 p2 ap cp p3 wx10) := Hp.out.next hb
          have Hb' : Hid (Tb wx7.heap.size g1 g2 ab cb g3 wx10) := Hb.out.next hb
          have Hc' : Hid (Tb wx8.heap.size c1 c2 ac cc c3 wx10) := Hc.out.next hb
          have Hd' : Hid (Tb wx9.heap.size g1 g2 ad cd g3 wx10) := Hd.out.next hb
          clear Hlow HE HP HBS Ht Hl Hw Hx Hf Ho Hp Hb Hc Hd
          have Hlow := Hlow'
          clear Hlow'
          have HE := HE'
          clear HE'
          have HP := HP'
          clear HP'
          have HBS := HBS'
          clear HBS'
          have Ht := Ht'
          clear Ht'
          have Hl := Hl'
          clear Hl'
          have Hw := Hw'
          clear Hw'
          have Hx := Hx'
          clear Hx'
          have Hf := Hf'
          clear Hf'
          have Ho := Ho'
          clear Ho'
          have Hp := Hp'
          clear Hp'
          have Hb := Hb'
          clear Hb'
          have Hc := Hc'
          clear Hc'
          have Hd := Hd'
          clear Hd'
          clear hb
          have qb0 := Hb.out.c0
          have qb1 := Hb.out.c1
          have qb2 := Hb.out.c2
          have qd0 := Hd.out.c0
          have qd1 := Hd.out.c1
          have qd2 := Hd.out.c2
          go_wp2_with fail
          with_reducible refine (laTerm_same (fsz g3) g1 g2 ab ad cb cd g3 _ Hb.out.sl Hd.out.sl (Nat.le_refl _) (by omega)).mono ?_
          rintro e wx11 ⟨rfl, hb⟩
          clear qb0 qb1 qb2 qd0 qd1 qd2
          have Hlow' : Hid (Below w.heap.size w wx11) := below_next Hlow.out hb
          have HE' : Hid (ESl wx11 0 wx11.heap.size (some ⟨eb, eo, none⟩) es) := HE.out.next hb
          have HP' : Hid (ISc wx11 0 wx11.heap.size pA pC place) := HP.out.next hb
          have HBS' : Hid (BSl wx11 0 wx11.heap.size B bs) := HBS.out.next hb
          have Ht' : Hid (Tb wa.heap.size s v a c k wx11) := Ht.out.next hb
          have Hl' : Hid (Lb (wa.heap.size + 1) (i : Int) false pA pC place B D bs wx11) := Hl.out.next hb
          have Hw' : Hid (Tb wx1.heap.size sw vw aw cw kw wx11) := Hw.out.next hb
          have Hx' : Hid (Tb wx2.heap.size sw vw ax cx kw wx11) := Hx.out.next hb
          have Hf' : Hid (Tb wx5.heap.size s1 v1 a1 d1 k1 wx11) := Hf.out.next hb
          have Ho' : Hid (Tb (wx5.heap.size + 1) s2 v2 a2 d2 k2 wx11) := Ho.out.next hb
          have Hp' : Hid (Tb wx6.heap.size p1 p2 ap cp p3 wx11) := Hp.out.next hb
          have Hb' : Hid (Tb wx7.heap.size g1 g2 ab cb g3 wx11) := Hb.out.next hb
          have Hc' : Hid (Tb wx8.heap.size c1 c2 ac cc c3 wx11) := Hc.out.next hb
          have Hd' : Hid (Tb wx9.heap.size g1 g2 ad cd g3 wx11) := Hd.out.next hb
          clear Hlow HE HP HBS Ht Hl Hw Hx Hf Ho Hp Hb Hc Hd
          have Hlow := Hlow'
          clear Hlow'
          have HE := HE'
          clear HE'
          have HP := HP'
          clear HP'
          have HBS := HBS'
          clear HBS'
          have Ht := Ht'
          clear Ht'
          have Hl := Hl'
          clear Hl'
          have Hw := Hw'
          clear Hw'
          have Hx := Hx'
          clear Hx'
          have Hf := Hf'
          clear Hf'
          have Ho := Ho'
          clear Ho'
          have Hp := Hp'
          clear Hp'
          have Hb := Hb'
          clear Hb'
          have Hc := Hc'
          clear Hc'
          have Hd := Hd'
          clear Hd'
          clear hb
          go_wp2_with fail
          go_ret
          exact ⟨rfl, Hlow.out⟩
        | true =>
          have z0 := Hl.out.c0
          have z1 := Hl.out.c1
          have z2 := Hl.out.c2
          have z3 := Hl.out.c3
          simp only [sidesR, if_true, Prod.mk.injEq] at hsd
          obtain ⟨⟨rfl, rfl, rfl⟩, rfl, rfl, rfl⟩ := hsd
          have lw1 : Below wx5.heap.size wx5 (wx5.alloc (.cells #[.int .i64 s1, .int .i64 v1, .slice a1 (flen k1) d1] 35)) := box_low _ _
          have lw2 : Below wx5.heap.size wx5 ((wx5.alloc (.cells #[.int .i64 s1, .int .i64 v1, .slice a1 (flen k1) d1] 35)).alloc (.cells #[.int .i64 s2, .int .i64 v2, .slice a2 (flen k2) d2] 35)) := lw1.trans ((box_low _ _).mono (by simp))
          have e0a := cell_low lw1 e0
          have e1a := cell_low lw1 e1
          have e2a := cell_low lw1 e2
          have e3a := cell_low lw1 e3
          have e4a := cell_low lw1 e4
          have e5a := cell_low lw1 e5
          have z0a := cell_low lw1 z0
          have z1a := cell_low lw1 z1
          have z2a := cell_low lw1 z2
          have z3a := cell_low lw1 z3
          have e0b := cell_low lw2 e0
          have e1b := cell_low lw2 e1
          have e2b := cell_low lw2 e2
          have e3b := cell_low lw2 e3
          have e4b := cell_low lw2 e4
          have e5b := cell_low lw2 e5
          have z0b := cell_low lw2 z0
          have z1b := cell_low lw2 z1
          have z2b := cell_low lw2 z2
          have z3b := cell_low lw2 z3
          have lw3 : Below wx5.heap.size wx5 ((wx5.alloc (.cells #[.int .i64 s2, .int .i64 v2, .slice a2 (flen k2) d2] 35)).alloc (.cells #[.int .i64 s2, .int .i64 v2, .slice a2 (flen k2) d2] 35)) := (box_low _ _).trans ((box_low _ _).mono (by simp))
          have e0c := cell_low lw3 e0
          have e1c := cell_low lw3 e1
          have e2c := cell_low lw3 e2
          have e3c := cell_low lw3 e3
          have e4c := cell_low lw3 e4
          have e5c := cell_low lw3 e5
          have z0c := cell_low lw3 z0
          have z1c := cell_low lw3 z1
          have z2c := cell_low lw3 z2
          have z3c := cell_low lw3 z3
          clear lw1 lw2 lw3
          have HSLF := HSL2
          have HSLO : Hid (Sl wx5 0 wx5.heap.size a1 k1) := HSL1
          clear HSL1 HSL2
          have hbx : Below wx5.heap.size wx5 (wx5.alloc (.cells #[.int .i64 s2, .int .i64 v2, .slice a2 (flen k2) d2] 35)) := box_low _ _
          have Hn : Hid (Tb wx5.heap.size s2 v2 a2 d2 k2 (wx5.alloc (.cells #[.int .i64 s2, .int .i64 v2, .slice a2 (flen k2) d2] 35))) := Tb.new HSLF.out
          have Hlow' : Hid (Below w.heap.size w (wx5.alloc (.cells #[.int .i64 s2, .int .i64 v2, .slice a2 (flen k2) d2] 35))) := below_next Hlow.out hbx
          have HE' : Hid (ESl (wx5.alloc (.cells #[.int .i64 s2, .int .i64 v2, .slice a2 (flen k2) d2] 35)) 0 (wx5.alloc (.cells #[.int .i64 s2, .int .i64 v2, .slice a2 (flen k2) d2] 35)).heap.size (some ⟨eb, eo, none⟩) es) := HE.out.next hbx
          have HP' : Hid (ISc (wx5.alloc (.cells #[.int .i64 s2, .int .i64 v2, .slice a2 (flen k2) d2] 35)) 0 (wx5.alloc (.cells #[.int .i64 s2, .int .i64 v2, .slice a2 (flen k2) d2] 35)).heap.size pA pC place) := HP.out.next hbx
          have HBS' : Hid (BSl (wx5.alloc (.cells #[.int .i64 s2, .int .i64 v2, .slice a2 (flen k2) d2] 35)) 0 (wx5.alloc (.cells #[.int .i64 s2, .int .i64 v2, .slice a2 (flen k2) d2] 35)).heap.size B bs) := HBS.out.next hbx
          have Ht' : Hid (Tb wa.heap.size s v a c k (wx5.alloc (.cells #[.int .i64 s2, .int .i64 v2, .slice a2 (flen k2) d2] 35))) := Ht.out.next hbx
          have Hl' : Hid (Lb (wa.heap.size + 1) (i : Int) true pA pC place B D bs (wx5.alloc (.cells #[.int .i64 s2, .int .i64 v2, .slice a2 (flen k2) d2] 35))) := Hl.out.next hbx
          have Hw' : Hid (Tb wx1.heap.size sw vw aw cw kw (wx5.alloc (.cells #[.int .i64 s2, .int .i64 v2, .slice a2 (flen k2) d2] 35))) := Hw.out.next hbx
          have Hx' : Hid (Tb wx2.heap.size sw vw ax cx kw (wx5.alloc (.cells #[.int .i64 s2, .int .i64 v2, .slice a2 (flen k2) d2] 35))) := Hx.out.next hbx
          have HSLO' : Hid (Sl (wx5.alloc (.cells #[.int .i64 s2, .int .i64 v2, .slice a2 (flen k2) d2] 35)) 0 (wx5.alloc (.cells #[.int .i64 s2, .int .i64 v2, .slice a2 (flen k2) d2] 35)).heap.size a1 k1) := HSLO.out.next hbx
          clear Hlow HE HP HBS Ht Hl Hw Hx HSLO
          have Hlow := Hlow'
          clear Hlow'
          have HE := HE'
          clear HE'
          have HP := HP'
          clear HP'
          have HBS := HBS'
          clear HBS'
          have Ht := Ht'
          clear Ht'
          have Hl := Hl'
          clear Hl'
          have Hw := Hw'
          clear Hw'
          have Hx := Hx'
          clear Hx'
          have HSLO := HSLO'
          clear HSLO'
          have Hf := Hn
          clear Hn hbx
          have HSLO2 := HSLO
          clear HSLO
          have hbx : Below (wx5.alloc (.cells #[.int .i64 s2, .int .i64 v2, .slice a2 (flen k2) d2] 35)).heap.size (wx5.alloc (.cells #[.int .i64 s2, .int .i64 v2, .slice a2 (flen k2) d2] 35)) ((wx5.alloc (.cells #[.int .i64 s2, .int .i64 v2, .slice a2 (flen k2) d2] 35)).alloc (.cells #[.int .i64 s1, .int .i64 v1, .slice a1 (flen k1) d1] 35)) := box_low _ _
          have Hn : Hid (Tb (wx5.heap.size + 1) s1 v1 a1 d1 k1 ((wx5.alloc (.cells #[.int .i64 s2, .int .i64 v2, .slice a2 (flen k2) d2] 35)).alloc (.cells #[.int .i64 s1, .int .i64 v1, .slice a1 (flen k1) d1] 35))) := (show (wx5.alloc (.cells #[.int .i64 s2, .int .i64 v2, .slice a2 (flen k2) d2] 35)).heap.size = (wx5.heap.size + 1) from by simp) ▸ Tb.new HSLO2.out
          have Hlow' : Hid (Below w.heap.size w ((wx5.alloc (.cells #[.int .i64 s2, .int .i64 v2, .slice a2 (flen k2) d2] 35)).alloc (.cells #[.int .i64 s1, .int .i64 v1, .slice a1 (flen k1) d1] 35))) := below_next Hlow.out hbx
          have HE' : Hid (ESl ((wx5.alloc (.cells #[.int .i64 s2, .int .i64 v2, .slice a2 (flen k2) d2] 35)).alloc (.cells #[.int .i64 s1, .int .i64 v1, .slice a1 (flen k1) d1] 35)) 0 ((wx5.alloc (.cells #[.int .i64 s2, .int .i64 v2, .slice a2 (flen k2) d2] 35)).alloc (.cells #[.int .i64 s1, .int .i64 v1, .slice a1 (flen k1) d1] 35)).heap.size (some ⟨eb, eo, none⟩) es) := HE.out.next hbx
          have HP' : Hid (ISc ((wx5.alloc (.cells #[.int .i64 s2, .int .i64 v2, .slice a2 (flen k2) d2] 35)).alloc (.cells #[.int .i64 s1, .int .i64 v1, .slice a1 (flen k1) d1] 35)) 0 ((wx5.alloc (.cells #[.int .i64 s2, .int .i64 v2, .slice a2 (flen k2) d2] 35)).alloc (.cells #[.int .i64 s1, .int .i64 v1, .slice a1 (flen k1) d1] 35)).heap.size pA pC place) := HP.out.next hbx
          have HBS' : Hid (BSl ((wx5.alloc (.cells #[.int .i64 s2, .int .i64 v2, .slice a2 (flen k2) d2] 35)).alloc (.cells #[.int .i64 s1, .int .i64 v1, .slice a1 (flen k1) d1] 35)) 0 ((wx5.alloc (.cells #[.int .i64 s2, .int .i64 v2, .slice a2 (flen k2) d2] 35)).alloc (.cells #[.int .i64 s1, .int .i64 v1, .slice a1 (flen k1) d1] 35)).heap.size B bs) := HBS.out.next hbx
          have Ht' : Hid (Tb wa.heap.size s v a c k ((wx5.alloc (.cells #[.int .i64 s2, .int .i64 v2, .slice a2 (flen k2) d2] 35)).alloc (.cells #[.int .i64 s1, .int .i64 v1, .slice a1 (flen k1) d1] 35))) := Ht.out.next hbx
          have Hl' : Hid (Lb (wa.heap.size + 1) (i : Int) true pA pC place B D bs ((wx5.alloc (.cells #[.int .i64 s2, .int .i64 v2, .slice a2 (flen k2) d2] 35)).alloc (.cells #[.int .i64 s1, .int .i64 v1, .slice a1 (flen k1) d1] 35))) := Hl.out.next hbx
          have Hw' : Hid (Tb wx1.heap.size sw vw aw cw kw ((wx5.alloc (.cells #[.int .i64 s2, .int .i64 v2, .slice a2 (flen k2) d2] 35)).alloc (.cells #[.int .i64 s1, .int .i64 v1, .slice a1 (flen k1) d1] 35))) := Hw.out.next hbx
          have Hx' : Hid (Tb wx2.heap.size sw vw ax cx kw ((wx5.alloc (.cells #[.int .i64 s2, .int .i64 v2, .slice a2 (flen k2) d2] 35)).alloc (.cells #[.int .i64 s1, .int .i64 v1, .slice a1 (flen k1) d1] 35))) := Hx.out.next hbx
          have Hf' : Hid (Tb wx5.heap.size s2 v2 a2 d2 k2 ((wx5.alloc (.cells #[.int .i64 s2, .int .i64 v2, .slice a2 (flen k2) d2] 35)).alloc (.cells #[.int .i64 s1, .int .i64 v1, .slice a1 (flen k1) d1] 35))) := Hf.out.next hbx
          clear Hlow HE HP HBS Ht Hl Hw Hx Hf
          have Hlow := Hlow'
          clear Hlow'
          have HE := HE'
          clear HE'
          have HP := HP'
          clear HP'
          have HBS := HBS'
          clear HBS'
          have Ht := Ht'
          clear Ht'
          have Hl := Hl'
          clear Hl'
          have Hw := Hw'
          clear Hw'
          have Hx := Hx'
          clear Hx'
          have Hf := Hf'
          clear Hf'
          have Ho := Hn
          clear Hn hbx
          clear HSLO2 HSLF
          have qt0 := Ht.out.c0
          have qt1 := Ht.out.c1
          have qt2 := Ht.out.c2
          have ql0 := Hl.out.c0
          have ql1 := Hl.out.c1
          have ql2 := Hl.out.c2
          have ql3 := Hl.out.c3
          go_wp2_with fail
          with_reducible refine (iTermAt_any s v a c k pA pC place _ Ht.out.sl Hl.out.isl (by omega)).mono ?_
          rintro e wx6 ⟨ap, cp, sp, vp, kp, tp, hdp, rfl, hb, hlp⟩
          rw [HAT1.out] at hdp
          simp only [Prod.mk.injEq] at hdp
          obtain ⟨rfl, rfl, rfl, rfl⟩ := hdp
          clear z0 z1 z2 z3 e0a e1a e2a e3a e4a e5a z0a z1a z2a z3a e0b e1b e2b e3b e4b e5b z0b z1b z2b z3b e0c e1c e2c e3c e4c e5c z0c z1c z2c z3c e0 e1 e2 e3 e4 e5 qt0 qt1 qt2 ql0 ql1 ql2 ql3
          have Hlow' : Hid (Below w.heap.size w wx6) := below_next Hlow.out hb
          have HE' : Hid (ESl wx6 0 wx6.heap.size (some ⟨eb, eo, none⟩) es) := HE.out.next hb
          have HP' : Hid (ISc wx6 0 wx6.heap.size pA pC place) := HP.out.next hb
          have HBS' : Hid (BSl wx6 0 wx6.heap.size B bs) := HBS.out.next hb
          have Ht' : Hid (Tb wa.heap.size s v a c k wx6) := Ht.out.next hb
          have Hl' : Hid (Lb (wa.heap.size + 1) (i : Int) true pA pC place B D bs wx6) := Hl.out.next hb
          have Hw' : Hid (Tb wx1.heap.size sw vw aw cw kw wx6) := Hw.out.next hb
          have Hx' : Hid (Tb wx2.heap.size sw vw ax cx kw wx6) := Hx.out.next hb
          have Hf' : Hid (Tb wx5.heap.size s2 v2 a2 d2 k2 wx6) := Hf.out.next hb
          have Ho' : Hid (Tb (wx5.heap.size + 1) s1 v1 a1 d1 k1 wx6) := Ho.out.next hb
          clear Hlow HE HP HBS Ht Hl Hw Hx Hf Ho
          have Hlow := Hlow'
          clear Hlow'
          have HE := HE'
          clear HE'
          have HP := HP'
          clear HP'
          have HBS := HBS'
          clear HBS'
          have Ht := Ht'
          clear Ht'
          have Hl := Hl'
          clear Hl'
          have Hw := Hw'
          clear Hw'
          have Hx := Hx'
          clear Hx'
          have Hf := Hf'
          clear Hf'
          have Ho := Ho'
          clear Ho'
          clear hb
          have Hlp := Lib.hid hlp
          clear hlp
          have hbx : Below wx6.heap.size wx6 (wx6.alloc (.cells #[.int .i64 p1, .int .i64 p2, .slice ap (flen p3) cp] 35)) := box_low _ _
          have Hn : Hid (Tb wx6.heap.size p1 p2 ap cp p3 (wx6.alloc (.cells #[.int .i64 p1, .int .i64 p2, .slice ap (flen p3) cp] 35))) := Tb.new Hlp.out
          have Hlow' : Hid (Below w.heap.size w (wx6.alloc (.cells #[.int .i64 p1, .int .i64 p2, .slice ap (flen p3) cp] 35))) := below_next Hlow.out hbx
          have HE' : Hid (ESl (wx6.alloc (.cells #[.int .i64 p1, .int .i64 p2, .slice ap (flen p3) cp] 35)) 0 (wx6.alloc (.cells #[.int .i64 p1, .int .i64 p2, .slice ap (flen p3) cp] 35)).heap.size (some ⟨eb, eo, none⟩) es) := HE.out.next hbx
          have HP' : Hid (ISc (wx6.alloc (.cells #[.int .i64 p1, .int .i64 p2, .slice ap (flen p3) cp] 35)) 0 (wx6.alloc (.cells #[.int .i64 p1, .int .i64 p2, .slice ap (flen p3) cp] 35)).heap.size pA pC place) := HP.out.next hbx
          have HBS' : Hid (BSl (wx6.alloc (.cells #[.int .i64 p1, .int .i64 p2, .slice ap (flen p3) cp] 35)) 0 (wx6.alloc (.cells #[.int .i64 p1, .int .i64 p2, .slice ap (flen p3) cp] 35)).heap.size B bs) := HBS.out.next hbx
          have Ht' : Hid (Tb wa.heap.size s v a c k (wx6.alloc (.cells #[.int .i64 p1, .int .i64 p2, .slice ap (flen p3) cp] 35))) := Ht.out.next hbx
          have Hl' : Hid (Lb (wa.heap.size + 1) (i : Int) true pA pC place B D bs (wx6.alloc (.cells #[.int .i64 p1, .int .i64 p2, .slice ap (flen p3) cp] 35))) := Hl.out.next hbx
          have Hw' : Hid (Tb wx1.heap.size sw vw aw cw kw (wx6.alloc (.cells #[.int .i64 p1, .int .i64 p2, .slice ap (flen p3) cp] 35))) := Hw.out.next hbx
          have Hx' : Hid (Tb wx2.heap.size sw vw ax cx kw (wx6.alloc (.cells #[.int .i64 p1, .int .i64 p2, .slice ap (flen p3) cp] 35))) := Hx.out.next hbx
          have Hf' : Hid (Tb wx5.heap.size s2 v2 a2 d2 k2 (wx6.alloc (.cells #[.int .i64 p1, .int .i64 p2, .slice ap (flen p3) cp] 35))) := Hf.out.next hbx
          have Ho' : Hid (Tb (wx5.heap.size + 1) s1 v1 a1 d1 k1 (wx6.alloc (.cells #[.int .i64 p1, .int .i64 p2, .slice ap (flen p3) cp] 35))) := Ho.out.next hbx
          clear Hlow HE HP HBS Ht Hl Hw Hx Hf Ho
          have Hlow := Hlow'
          clear Hlow'
          have HE := HE'
          clear HE'
          have HP := HP'
          clear HP'
          have HBS := HBS'
          clear HBS'
          have Ht := Ht'
          clear Ht'
          have Hl := Hl'
          clear Hl'
          have Hw := Hw'
          clear Hw'
          have Hx := Hx'
          clear Hx'
          have Hf := Hf'
          clear Hf'
          have Ho := Ho'
          clear Ho'
          have Hp := Hn
          clear Hn hbx
          clear Hlp
          have qx0 := Hx.out.c0
          have qx1 := Hx.out.c1
          have qx2 := Hx.out.c2
          have ql0 := Hl.out.c0
          have ql1 := Hl.out.c1
          have ql2 := Hl.out.c2
          have ql3 := Hl.out.c3
          go_wp2_with fail
          with_reducible refine (iTermAt_any sw vw ax cx kw pA pC place _ Hx.out.sl Hl.out.isl (by omega)).mono ?_
          rintro e wx7 ⟨ab, cb, sb, vb, kb, tb, hdb, rfl, hb, hlb⟩
          rw [HAT2.out] at hdb
          simp only [Prod.mk.injEq] at hdb
          obtain ⟨rfl, rfl, rfl, rfl⟩ := hdb
          clear qx0 qx1 qx2 ql0 ql1 ql2 ql3
          have Hlow' : Hid (Below w.heap.size w wx7) := below_next Hlow.out hb
          have HE' : Hid (ESl wx7 0 wx7.heap.size (some ⟨eb, eo, none⟩) es) := HE.out.next hb
          have HP' : Hid (ISc wx7 0 wx7.heap.size pA pC place) := HP.out.next hb
          have HBS' : Hid (BSl wx7 0 wx7.heap.size B bs) := HBS.out.next hb
          have Ht' : Hid (Tb wa.heap.size s v a c k wx7) := Ht.out.next hb
          have Hl' : Hid (Lb (wa.heap.size + 1) (i : Int) true pA pC place B D bs wx7) := Hl.out.next hb
          have Hw' : Hid (Tb wx1.heap.size sw vw aw cw kw wx7) := Hw.out.next hb
          have Hx' : Hid (Tb wx2.heap.size sw vw ax cx kw wx7) := Hx.out.next hb
          have Hf' : Hid (Tb wx5.heap.size s2 v2 a2 d2 k2 wx7) := Hf.out.next hb
          have Ho' : Hid (Tb (wx5.heap.size + 1) s1 v1 a1 d1 k1 wx7) := Ho.out.next hb
          have Hp' : Hid (Tb wx6.heap.size p1 p2 ap cp p3 wx7) := Hp.out.next hb
          clear Hlow HE HP HBS Ht Hl Hw Hx Hf Ho Hp
          have Hlow := Hlow'
          clear Hlow'
          have HE := HE'
          clear HE'
          have HP := HP'
          clear HP'
          have HBS := HBS'
          clear HBS'
          have Ht := Ht'
          clear Ht'
          have Hl := Hl'
          clear Hl'
          have Hw := Hw'
          clear Hw'
          have Hx := Hx'
          clear Hx'
          have Hf := Hf'
          clear Hf'
          have Ho := Ho'
          clear Ho'
          have Hp := Hp'
          clear Hp'
          clear hb
          have Hlb := Lib.hid hlb
          clear hlb
          have hbx : Below wx7.heap.size wx7 (wx7.alloc (.cells #[.int .i64 g1, .int .i64 g2, .slice ab (flen g3) cb] 35)) := box_low _ _
          have Hn : Hid (Tb wx7.heap.size g1 g2 ab cb g3 (wx7.alloc (.cells #[.int .i64 g1, .int .i64 g2, .slice ab (flen g3) cb] 35))) := Tb.new Hlb.out
          have Hlow' : Hid (Below w.heap.size w (wx7.alloc (.cells #[.int .i64 g1, .int .i64 g2, .slice ab (flen g3) cb] 35))) := below_next Hlow.out hbx
          have HE' : Hid (ESl (wx7.alloc (.cells #[.int .i64 g1, .int .i64 g2, .slice ab (flen g3) cb] 35)) 0 (wx7.alloc (.cells #[.int .i64 g1, .int .i64 g2, .slice ab (flen g3) cb] 35)).heap.size (some ⟨eb, eo, none⟩) es) := HE.out.next hbx
          have HP' : Hid (ISc (wx7.alloc (.cells #[.int .i64 g1, .int .i64 g2, .slice ab (flen g3) cb] 35)) 0 (wx7.alloc (.cells #[.int .i64 g1, .int .i64 g2, .slice ab (flen g3) cb] 35)).heap.size pA pC place) := HP.out.next hbx
          have HBS' : Hid (BSl (wx7.alloc (.cells #[.int .i64 g1, .int .i64 g2, .slice ab (flen g3) cb] 35)) 0 (wx7.alloc (.cells #[.int .i64 g1, .int .i64 g2, .slice ab (flen g3) cb] 35)).heap.size B bs) := HBS.out.next hbx
          have Ht' : Hid (Tb wa.heap.size s v a c k (wx7.alloc (.cells #[.int .i64 g1, .int .i64 g2, .slice ab (flen g3) cb] 35))) := Ht.out.next hbx
          have Hl' : Hid (Lb (wa.heap.size + 1) (i : Int) true pA pC place B D bs (wx7.alloc (.cells #[.int .i64 g1, .int .i64 g2, .slice ab (flen g3) cb] 35))) := Hl.out.next hbx
          have Hw' : Hid (Tb wx1.heap.size sw vw aw cw kw (wx7.alloc (.cells #[.int .i64 g1, .int .i64 g2, .slice ab (flen g3) cb] 35))) := Hw.out.next hbx
          have Hx' : Hid (Tb wx2.heap.size sw vw ax cx kw (wx7.alloc (.cells #[.int .i64 g1, .int .i64 g2, .slice ab (flen g3) cb] 35))) := Hx.out.next hbx
          have Hf' : Hid (Tb wx5.heap.size s2 v2 a2 d2 k2 (wx7.alloc (.cells #[.int .i64 g1, .int .i64 g2, .slice ab (flen g3) cb] 35))) := Hf.out.next hbx
          have Ho' : Hid (Tb (wx5.heap.size + 1) s1 v1 a1 d1 k1 (wx7.alloc (.cells #[.int .i64 g1, .int .i64 g2, .slice ab (flen g3) cb] 35))) := Ho.out.next hbx
          have Hp' : Hid (Tb wx6.heap.size p1 p2 ap cp p3 (wx7.alloc (.cells #[.int .i64 g1, .int .i64 g2, .slice ab (flen g3) cb] 35))) := Hp.out.next hbx
          clear Hlow HE HP HBS Ht Hl Hw Hx Hf Ho Hp
          have Hlow := Hlow'
          clear Hlow'
          have HE := HE'
          clear HE'
          have HP := HP'
          clear HP'
          have HBS := HBS'
          clear HBS'
          have Ht := Ht'
          clear Ht'
          have Hl := Hl'
          clear Hl'
          have Hw := Hw'
          clear Hw'
          have Hx := Hx'
          clear Hx'
          have Hf := Hf'
          clear Hf'
          have Ho := Ho'
          clear Ho'
          have Hp := Hp'
          clear Hp'
          have Hb := Hn
          clear Hn hbx
          clear Hlb
          have ql0 := Hl.out.c0
          have ql1 := Hl.out.c1
          have ql2 := Hl.out.c2
          have ql3 := Hl.out.c3
          have qf0 := Hf.out.c0
          have qf1 := Hf.out.c1
          have qf2 := Hf.out.c2
          go_wp2_with fail
          with_reducible refine (iSubstDo_any bs B D s2 v2 a2 d2 k2 _ Hl.out.hb (by omega) Hf.out.sl).mono ?_
          rintro e wx8 ⟨ac, cc, sc, vc, kc, tc, hdc, rfl, hb, hlc⟩
          rw [HSD1.out] at hdc
          simp only [Prod.mk.injEq] at hdc
          obtain ⟨rfl, rfl, rfl, rfl⟩ := hdc
          clear ql0 ql1 ql2 ql3 qf0 qf1 qf2
          have Hlow' : Hid (Below w.heap.size w wx8) := below_next Hlow.out hb
          have HE' : Hid (ESl wx8 0 wx8.heap.size (some ⟨eb, eo, none⟩) es) := HE.out.next hb
          have HP' : Hid (ISc wx8 0 wx8.heap.size pA pC place) := HP.out.next hb
          have HBS' : Hid (BSl wx8 0 wx8.heap.size B bs) := HBS.out.next hb
          have Ht' : Hid (Tb wa.heap.size s v a c k wx8) := Ht.out.next hb
          have Hl' : Hid (Lb (wa.heap.size + 1) (i : Int) true pA pC place B D bs wx8) := Hl.out.next hb
          have Hw' : Hid (Tb wx1.heap.size sw vw aw cw kw wx8) := Hw.out.next hb
          have Hx' : Hid (Tb wx2.heap.size sw vw ax cx kw wx8) := Hx.out.next hb
          have Hf' : Hid (Tb wx5.heap.size s2 v2 a2 d2 k2 wx8) := Hf.out.next hb
          have Ho' : Hid (Tb (wx5.heap.size + 1) s1 v1 a1 d1 k1 wx8) := Ho.out.next hb
          have Hp' : Hid (Tb wx6.heap.size p1 p2 ap cp p3 wx8) := Hp.out.next hb
          have Hb' : Hid (Tb wx7.heap.size g1 g2 ab cb g3 wx8) := Hb.out.next hb
          clear Hlow HE HP HBS Ht Hl Hw Hx Hf Ho Hp Hb
          have Hlow := Hlow'
          clear Hlow'
          have HE := HE'
          clear HE'
          have HP := HP'
          clear HP'
          have HBS := HBS'
          clear HBS'
          have Ht := Ht'
          clear Ht'
          have Hl := Hl'
          clear Hl'
          have Hw := Hw'
          clear Hw'
          have Hx := Hx'
          clear Hx'
          have Hf := Hf'
          clear Hf'
          have Ho := Ho'
          clear Ho'
          have Hp := Hp'
          clear Hp'
          have Hb := Hb'
          clear Hb'
          clear hb
          have Hlc := Lib.hid hlc
          clear hlc
          have hbx : Below wx8.heap.size wx8 (wx8.alloc (.cells #[.int .i64 c1, .int .i64 c2, .slice ac (flen c3) cc] 35)) := box_low _ _
          have Hn : Hid (Tb wx8.heap.size c1 c2 ac cc c3 (wx8.alloc (.cells #[.int .i64 c1, .int .i64 c2, .slice ac (flen c3) cc] 35))) := Tb.new Hlc.out
          have Hlow' : Hid (Below w.heap.size w (wx8.alloc (.cells #[.int .i64 c1, .int .i64 c2, .slice ac (flen c3) cc] 35))) := below_next Hlow.out hbx
          have HE' : Hid (ESl (wx8.alloc (.cells #[.int .i64 c1, .int .i64 c2, .slice ac (flen c3) cc] 35)) 0 (wx8.alloc (.cells #[.int .i64 c1, .int .i64 c2, .slice ac (flen c3) cc] 35)).heap.size (some ⟨eb, eo, none⟩) es) := HE.out.next hbx
          have HP' : Hid (ISc (wx8.alloc (.cells #[.int .i64 c1, .int .i64 c2, .slice ac (flen c3) cc] 35)) 0 (wx8.alloc (.cells #[.int .i64 c1, .int .i64 c2, .slice ac (flen c3) cc] 35)).heap.size pA pC place) := HP.out.next hbx
          have HBS' : Hid (BSl (wx8.alloc (.cells #[.int .i64 c1, .int .i64 c2, .slice ac (flen c3) cc] 35)) 0 (wx8.alloc (.cells #[.int .i64 c1, .int .i64 c2, .slice ac (flen c3) cc] 35)).heap.size B bs) := HBS.out.next hbx
          have Ht' : Hid (Tb wa.heap.size s v a c k (wx8.alloc (.cells #[.int .i64 c1, .int .i64 c2, .slice ac (flen c3) cc] 35))) := Ht.out.next hbx
          have Hl' : Hid (Lb (wa.heap.size + 1) (i : Int) true pA pC place B D bs (wx8.alloc (.cells #[.int .i64 c1, .int .i64 c2, .slice ac (flen c3) cc] 35))) := Hl.out.next hbx
          have Hw' : Hid (Tb wx1.heap.size sw vw aw cw kw (wx8.alloc (.cells #[.int .i64 c1, .int .i64 c2, .slice ac (flen c3) cc] 35))) := Hw.out.next hbx
          have Hx' : Hid (Tb wx2.heap.size sw vw ax cx kw (wx8.alloc (.cells #[.int .i64 c1, .int .i64 c2, .slice ac (flen c3) cc] 35))) := Hx.out.next hbx
          have Hf' : Hid (Tb wx5.heap.size s2 v2 a2 d2 k2 (wx8.alloc (.cells #[.int .i64 c1, .int .i64 c2, .slice ac (flen c3) cc] 35))) := Hf.out.next hbx
          have Ho' : Hid (Tb (wx5.heap.size + 1) s1 v1 a1 d1 k1 (wx8.alloc (.cells #[.int .i64 c1, .int .i64 c2, .slice ac (flen c3) cc] 35))) := Ho.out.next hbx
          have Hp' : Hid (Tb wx6.heap.size p1 p2 ap cp p3 (wx8.alloc (.cells #[.int .i64 c1, .int .i64 c2, .slice ac (flen c3) cc] 35))) := Hp.out.next hbx
          have Hb' : Hid (Tb wx7.heap.size g1 g2 ab cb g3 (wx8.alloc (.cells #[.int .i64 c1, .int .i64 c2, .slice ac (flen c3) cc] 35))) := Hb.out.next hbx
          clear Hlow HE HP HBS Ht Hl Hw Hx Hf Ho Hp Hb
          have Hlow := Hlow'
          clear Hlow'
          have HE := HE'
          clear HE'
          have HP := HP'
          clear HP'
          have HBS := HBS'
          clear HBS'
          have Ht := Ht'
          clear Ht'
          have Hl := Hl'
          clear Hl'
          have Hw := Hw'
          clear Hw'
          have Hx := Hx'
          clear Hx'
          have Hf := Hf'
          clear Hf'
          have Ho := Ho'
          clear Ho'
          have Hp := Hp'
          clear Hp'
          have Hb := Hb'
          clear Hb'
          have Hc := Hn
          clear Hn hbx
          clear Hlc
          have ql0 := Hl.out.c0
          have ql1 := Hl.out.c1
          have ql2 := Hl.out.c2
          have ql3 := Hl.out.c3
          have qo0 := Ho.out.c0
          have qo1 := Ho.out.c1
          have qo2 := Ho.out.c2
          go_wp2_with fail
          with_reducible refine (iSubstDo_any bs B D s1 v1 a1 d1 k1 _ Hl.out.hb (by omega) Ho.out.sl).mono ?_
          rintro e wx9 ⟨ad, cd, sd, vd, kd, td, hdd, rfl, hb, hld⟩
          rw [HSD2.out] at hdd
          simp only [Prod.mk.injEq] at hdd
          obtain ⟨rfl, rfl, rfl, rfl⟩ := hdd
          clear ql0 ql1 ql2 ql3 qo0 qo1 qo2
          have Hlow' : Hid (Below w.heap.size w wx9) := below_next Hlow.out hb
          have HE' : Hid (ESl wx9 0 wx9.heap.size (some ⟨eb, eo, none⟩) es) := HE.out.next hb
          have HP' : Hid (ISc wx9 0 wx9.heap.size pA pC place) := HP.out.next hb
          have HBS' : Hid (BSl wx9 0 wx9.heap.size B bs) := HBS.out.next hb
          have Ht' : Hid (Tb wa.heap.size s v a c k wx9) := Ht.out.next hb
          have Hl' : Hid (Lb (wa.heap.size + 1) (i : Int) true pA pC place B D bs wx9) := Hl.out.next hb
          have Hw' : Hid (Tb wx1.heap.size sw vw aw cw kw wx9) := Hw.out.next hb
          have Hx' : Hid (Tb wx2.heap.size sw vw ax cx kw wx9) := Hx.out.next hb
          have Hf' : Hid (Tb wx5.heap.size s2 v2 a2 d2 k2 wx9) := Hf.out.next hb
          have Ho' : Hid (Tb (wx5.heap.size + 1) s1 v1 a1 d1 k1 wx9) := Ho.out.next hb
          have Hp' : Hid (Tb wx6.heap.size p1 p2 ap cp p3 wx9) := Hp.out.next hb
          have Hb' : Hid (Tb wx7.heap.size g1 g2 ab cb g3 wx9) := Hb.out.next hb
          have Hc' : Hid (Tb wx8.heap.size c1 c2 ac cc c3 wx9) := Hc.out.next hb
          clear Hlow HE HP HBS Ht Hl Hw Hx Hf Ho Hp Hb Hc
          have Hlow := Hlow'
          clear Hlow'
          have HE := HE'
          clear HE'
          have HP := HP'
          clear HP'
          have HBS := HBS'
          clear HBS'
          have Ht := Ht'
          clear Ht'
          have Hl := Hl'
          clear Hl'
          have Hw := Hw'
          clear Hw'
          have Hx := Hx'
          clear Hx'
          have Hf := Hf'
          clear Hf'
          have Ho := Ho'
          clear Ho'
          have Hp := Hp'
          clear Hp'
          have Hb := Hb'
          clear Hb'
          have Hc := Hc'
          clear Hc'
          clear hb
          have Hld := Lib.hid hld
          clear hld
          have hbx : Below wx9.heap.size wx9 (wx9.alloc (.cells #[.int .i64 g1, .int .i64 g2, .slice ad (flen g3) cd] 35)) := box_low _ _
          have Hn : Hid (Tb wx9.heap.size g1 g2 ad cd g3 (wx9.alloc (.cells #[.int .i64 g1, .int .i64 g2, .slice ad (flen g3) cd] 35))) := Tb.new Hld.out
          have Hlow' : Hid (Below w.heap.size w (wx9.alloc (.cells #[.int .i64 g1, .int .i64 g2, .slice ad (flen g3) cd] 35))) := below_next Hlow.out hbx
          have HE' : Hid (ESl (wx9.alloc (.cells #[.int .i64 g1, .int .i64 g2, .slice ad (flen g3) cd] 35)) 0 (wx9.alloc (.cells #[.int .i64 g1, .int .i64 g2, .slice ad (flen g3) cd] 35)).heap.size (some ⟨eb, eo, none⟩) es) := HE.out.next hbx
          have HP' : Hid (ISc (wx9.alloc (.cells #[.int .i64 g1, .int .i64 g2, .slice ad (flen g3) cd] 35)) 0 (wx9.alloc (.cells #[.int .i64 g1, .int .i64 g2, .slice ad (flen g3) cd] 35)).heap.size pA pC place) := HP.out.next hbx
          have HBS' : Hid (BSl (wx9.alloc (.cells #[.int .i64 g1, .int .i64 g2, .slice ad (flen g3) cd] 35)) 0 (wx9.alloc (.cells #[.int .i64 g1, .int .i64 g2, .slice ad (flen g3) cd] 35)).heap.size B bs) := HBS.out.next hbx
          have Ht' : Hid (Tb wa.heap.size s v a c k (wx9.alloc (.cells #[.int .i64 g1, .int .i64 g2, .slice ad (flen g3) cd] 35))) := Ht.out.next hbx
          have Hl' : Hid (Lb (wa.heap.size + 1) (i : Int) true pA pC place B D bs (wx9.alloc (.cells #[.int .i64 g1, .int .i64 g2, .slice ad (flen g3) cd] 35))) := Hl.out.next hbx
          have Hw' : Hid (Tb wx1.heap.size sw vw aw cw kw (wx9.alloc (.cells #[.int .i64 g1, .int .i64 g2, .slice ad (flen g3) cd] 35))) := Hw.out.next hbx
          have Hx' : Hid (Tb wx2.heap.size sw vw ax cx kw (wx9.alloc (.cells #[.int .i64 g1, .int .i64 g2, .slice ad (flen g3) cd] 35))) := Hx.out.next hbx
          have Hf' : Hid (Tb wx5.heap.size s2 v2 a2 d2 k2 (wx9.alloc (.cells #[.int .i64 g1, .int .i64 g2, .slice ad (flen g3) cd] 35))) := Hf.out.next hbx
          have Ho' : Hid (Tb (wx5.heap.size + 1) s1 v1 a1 d1 k1 (wx9.alloc (.cells #[.int .i64 g1, .int .i64 g2, .slice ad (flen g3) cd] 35))) := Ho.out.next hbx
          have Hp' : Hid (Tb wx6.heap.size p1 p2 ap cp p3 (wx9.alloc (.cells #[.int .i64 g1, .int .i64 g2, .slice ad (flen g3) cd] 35))) := Hp.out.next hbx
          have Hb' : Hid (Tb wx7.heap.size g1 g2 ab cb g3 (wx9.alloc (.cells #[.int .i64 g1, .int .i64 g2, .slice ad (flen g3) cd] 35))) := Hb.out.next hbx
          have Hc' : Hid (Tb wx8.heap.size c1 c2 ac cc c3 (wx9.alloc (.cells #[.int .i64 g1, .int .i64 g2, .slice ad (flen g3) cd] 35))) := Hc.out.next hbx
          clear Hlow HE HP HBS Ht Hl Hw Hx Hf Ho Hp Hb Hc
          have Hlow := Hlow'
          clear Hlow'
          have HE := HE'
          clear HE'
          have HP := HP'
          clear HP'
          have HBS := HBS'
          clear HBS'
          have Ht := Ht'
          clear Ht'
          have Hl := Hl'
          clear Hl'
          have Hw := Hw'
          clear Hw'
          have Hx := Hx'
          clear Hx'
          have Hf := Hf'
          clear Hf'
          have Ho := Ho'
          clear Ho'
          have Hp := Hp'
          clear Hp'
          have Hb := Hb'
          clear Hb'
          have Hc := Hc'
          clear Hc'
          have Hd := Hn
          clear Hn hbx
          clear Hld
          have qp0 := Hp.out.c0
          have qp1 := Hp.out.c1
          have qp2 := Hp.out.c2
          have qc0 := Hc.out.c0
          have qc1 := Hc.out.c1
          have qc2 := Hc.out.c2
          go_wp2_with fail
          with_reducible refine (laTerm_any (fsz p3) p1 p2 ap cp p3 c1 c2 ac cc c3 _ Hp.out.sl Hc.out.sl (Nat.le_refl _) (by omega)).mono ?_
          rintro e wx10 ⟨he, hb⟩
          rw [HTEQ.out] at he
          subst he
          clear qp0 qp1 qp2 qc0 qc1 qc2
          have Hlow' : Hid (Below w.heap.size w wx10) := below_next Hlow.out hb
          have HE' : Hid (ESl wx10 0 wx10.heap.size (some ⟨eb, eo, none⟩) es) := HE.out.next hb
          have HP' : Hid (ISc wx10 0 wx10.heap.size pA pC place) := HP.out.next hb
          have HBS' : Hid (BSl wx10 0 wx10.heap.size B bs) := HBS.out.next hb
          have Ht' : Hid (Tb wa.heap.size s v a c k wx10) := Ht.out.next hb
          have Hl' : Hid (Lb (wa.heap.size + 1) (i : Int) true pA pC place B D bs wx10) := Hl.out.next hb
          have Hw' : Hid (Tb wx1.heap.size sw vw aw cw kw wx10) := Hw.out.next hb
          have Hx' : Hid (Tb wx2.heap.size sw vw ax cx kw wx10) := Hx.out.next hb
          have Hf' : Hid (Tb wx5.heap.size s2 v2 a2 d2 k2 wx10) := Hf.out.next hb
          have Ho' : Hid (Tb (wx5.heap.size + 1) s1 v1 a1 d1 k1 wx10) := Ho.out.next hb
          have Hp' : Hid (Tb wx6.heap.size p1 p2 ap cp p3 wx10) := Hp.out.next hb
          have Hb' : Hid (Tb wx7.heap.size g1 g2 ab cb g3 wx10) := Hb.out.next hb
          have Hc' : Hid (Tb wx8.heap.size c1 c2 ac cc c3 wx10) := Hc.out.next hb
          have Hd' : Hid (Tb wx9.heap.size g1 g2 ad cd g3 wx10) := Hd.out.next hb
          clear Hlow HE HP HBS Ht Hl Hw Hx Hf Ho Hp Hb Hc Hd
          have Hlow := Hlow'
          clear Hlow'
          have HE := HE'
          clear HE'
          have HP := HP'
          clear HP'
          have HBS := HBS'
          clear HBS'
          have Ht := Ht'
          clear Ht'
          have Hl := Hl'
          clear Hl'
          have Hw := Hw'
          clear Hw'
          have Hx := Hx'
          clear Hx'
          have Hf := Hf'
          clear Hf'
          have Ho := Ho'
          clear Ho'
          have Hp := Hp'
          clear Hp'
          have Hb := Hb'
          clear Hb'
          have Hc := Hc'
          clear Hc'
          have Hd := Hd'
          clear Hd'
          clear hb
          have qb0 := Hb.out.c0
          have qb1 := Hb.out.c1
          have qb2 := Hb.out.c2
          have qd0 := Hd.out.c0
          have qd1 := Hd.out.c1
          have qd2 := Hd.out.c2
          go_wp2_with fail
          with_reducible refine (laTerm_same (fsz g3) g1 g2 ab ad cb cd g3 _ Hb.out.sl Hd.out.sl (Nat.le_refl _) (by omega)).mono ?_
          rintro e wx11 ⟨rfl, hb⟩
          clear qb0 qb1 qb2 qd0 qd1 qd2
          have Hlow' : Hid (Below w.heap.size w wx11) := below_next Hlow.out hb
          have HE' : Hid (ESl wx11 0 wx11.heap.size (some ⟨eb, eo, none⟩) es) := HE.out.next hb
          have HP' : Hid (ISc wx11 0 wx11.heap.size pA pC place) := HP.out.next hb
          have HBS' : Hid (BSl wx11 0 wx11.heap.size B bs) := HBS.out.next hb
          have Ht' : Hid (Tb wa.heap.size s v a c k wx11) := Ht.out.next hb
          have Hl' : Hid (Lb (wa.heap.size + 1) (i : Int) true pA pC place B D bs wx11) := Hl.out.next hb
          have Hw' : Hid (Tb wx1.heap.size sw vw aw cw kw wx11) := Hw.out.next hb
          have Hx' : Hid (Tb wx2.heap.size sw vw ax cx kw wx11) := Hx.out.next hb
          have Hf' : Hid (Tb wx5.heap.size s2 v2 a2 d2 k2 wx11) := Hf.out.next hb
          have Ho' : Hid (Tb (wx5.heap.size + 1) s1 v1 a1 d1 k1 wx11) := Ho.out.next hb
          have Hp' : Hid (Tb wx6.heap.size p1 p2 ap cp p3 wx11) := Hp.out.next hb
          have Hb' : Hid (Tb wx7.heap.size g1 g2 ab cb g3 wx11) := Hb.out.next hb
          have Hc' : Hid (Tb wx8.heap.size c1 c2 ac cc c3 wx11) := Hc.out.next hb
          have Hd' : Hid (Tb wx9.heap.size g1 g2 ad cd g3 wx11) := Hd.out.next hb
          clear Hlow HE HP HBS Ht Hl Hw Hx Hf Ho Hp Hb Hc Hd
          have Hlow := Hlow'
          clear Hlow'
          have HE := HE'
          clear HE'
          have HP := HP'
          clear HP'
          have HBS := HBS'
          clear HBS'
          have Ht := Ht'
          clear Ht'
          have Hl := Hl'
          clear Hl'
          have Hw := Hw'
          clear Hw'
          have Hx := Hx'
          clear Hx'
          have Hf := Hf'
          clear Hf'
          have Ho := Ho'
          clear Ho'
          have Hp := Hp'
          clear Hp'
          have Hb := Hb'
          clear Hb'
          have Hc := Hc'
          clear Hc'
          have Hd := Hd'
          clear Hd'
          clear hb
          go_wp2_with fail
          go_ret
          exact ⟨rfl, Hlow.out⟩
end Go.Proofs.Ytdkcbbhkoibplaa
