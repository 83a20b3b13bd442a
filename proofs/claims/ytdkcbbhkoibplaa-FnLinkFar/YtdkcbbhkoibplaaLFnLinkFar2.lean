/- Several texts in one: LawLFar. -/
import Derived.Test.YtdkcbbhkoibplaaLFnLinkFar1
import Derived.Test.YtdkcbbhkoibplaaKLm15
import Derived.Test.YtdkcbbhkoibplaaKLm31
import Derived.Test.YtdkcbbhkoibplaaKLm22
import Derived.Test.YtdkcbbhkoibplaaKLm16
import Derived.Test.YtdkcbbhkoibplaaKLm9
import Derived.Test.YtdkcbbhkoibplaaKLm7

/-! LawLFar: laws.FnLinkFar answers true at every code. -/
namespace Go.Proofs.Ytdkcbbhkoibplaa
open Go.RowKit Go.Deep
attribute [local go_sem ↓] Go.wp_at_zero Go.wp_at_succ

theorem lk_far {es : List Eqd} {s v : Int} {k : Fo} {eq : Int} {back : Bool} {place : List Int} {bs : List Bd} {sw vw : Int} {kw : Fo} (h : lkR es (s, v, k) (eq, back, place, bs) = some (sw, vw, kw)) (ho : okW s v k 16 = true) (hx : okW sw vw kw 16 = true) {pl : List Int} (hm : pl ∈ places k) (hap : apart pl place = true) :
    ∃ (y1 y2 : Int) (y3 : Fo), atR s v k pl = (y1, y2, y3, true) ∧ atR sw vw kw pl = (y1, y2, y3, true) ∧ fsz y3 ≤ 15 := by
  obtain ⟨he, _, h1⟩ := lkR_parts h
  obtain ⟨i, x, rfl, hx1, _, h2⟩ := lk1_parts h1
  obtain ⟨hh, hf, he3, hp, _⟩ := lkAt_parts h2
  dsimp only at hf hp
  obtain ⟨⟨y1, y2, y3⟩, hfat⟩ := places_at k s v pl hm
  have hfx := fput_far place pl s v k _ hap hp hfat
  have q1 := (okW_iff _ _ _ _).1 ho
  have hy := fat_ok pl s v k q1.1 q1.2.1 hfat
  exact ⟨y1, y2, y3, (atR_of ho hfat).1, (atR_of hx hfx).1, by omega⟩

set_option maxRecDepth 100000 in
set_option maxHeartbeats 8000000 in
theorem linkFar_walk (a0 : Option Addr) (len cap : Nat) (w : World) (hby : Bytes w a0 len) (hlen : len ≤ cap) :
    Calls Try.prog 5 #[.slice a0 len cap] w fun e w' => e = .returned (.bool true) ∧ Below w.heap.size w w' := by
  have HBY := Lib.hid hby
  clear hby
  by_cases hbiglen : 1048576 < len
  · go_enter Try.func5, Try.ntmps5
    go_wp2_with fail
    go_ret
    exact ⟨rfl, Below.refl _ _⟩
  go_enter Try.func5, Try.ntmps5
  go_wp2_with fail
  with_reducible refine (DrawLinkDo_any a0 len cap _ HBY.out hlen).mono ?_
  rintro e wa ⟨es, A, C, s, v, a, c, k, eq, back, pA, pC, place, B, D, bs, rfl, hel, hok, hz, hpl, hbl, hb, he, hl, hpi, hbi⟩
  have Hlow := Lib.hid hb
  have HE := Lib.hid he
  have HP := Lib.hid hpi
  have HBS := Lib.hid hbi
  have HL := Lib.hid hl
  have HOKZ := Lib.hid hok
  clear hb he hl hpi hbi hok HBY
  have hbx : Below wa.heap.size wa (wa.alloc (.cells #[.int .i64 s, .int .i64 v, .slice a (flen k) c] 35)) := box_low _ _
  have Hn : Hid (Tb wa.heap.size s v a c k (wa.alloc (.cells #[.int .i64 s, .int .i64 v, .slice a (flen k) c] 35))) := Tb.new HL.out
  have Hlow' : Hid (Below w.heap.size w (wa.alloc (.cells #[.int .i64 s, .int .i64 v, .slice a (flen k) c] 35))) := below_next Hlow.out hbx
  have HE' : Hid (ESl (wa.alloc (.cells #[.int .i64 s, .int .i64 v, .slice a (flen k) c] 35)) 0 (wa.alloc (.cells #[.int .i64 s, .int .i64 v, .slice a (flen k) c] 35)).heap.size A es) := HE.out.next hbx
  have HP' : Hid (ISc (wa.alloc (.cells #[.int .i64 s, .int .i64 v, .slice a (flen k) c] 35)) 0 (wa.alloc (.cells #[.int .i64 s, .int .i64 v, .slice a (flen k) c] 35)).heap.size pA pC place) := HP.out.next hbx
  have HBS' : Hid (BSl (wa.alloc (.cells #[.int .i64 s, .int .i64 v, .slice a (flen k) c] 35)) 0 (wa.alloc (.cells #[.int .i64 s, .int .i64 v, .slice a (flen k) c] 35)).heap.size B bs) := HBS.out.next hbx
  clear Hlow HE HP HBS
  have Hlow := Hlow'
  clear Hlow'
  have HE := HE'
  clear HE'
  have HP := HP'
  clear HP'
  have HBS := HBS'
  clear HBS'
  have Ht := Hn
  clear Hn hbx
  clear HL
  have hbx : Below (wa.alloc (.cells #[.int .i64 s, .int .i64 v, .slice a (flen k) c] 35)).heap.size (wa.alloc (.cells #[.int .i64 s, .int .i64 v, .slice a (flen k) c] 35)) ((wa.alloc (.cells #[.int .i64 s, .int .i64 v, .slice a (flen k) c] 35)).alloc (.cells #[.int .i64 eq, .bool back, .slice pA place.length pC, .slice B bs.length D] 43)) := box_low _ _
  have Hn : Hid (Lb (wa.heap.size + 1) eq back pA pC place B D bs ((wa.alloc (.cells #[.int .i64 s, .int .i64 v, .slice a (flen k) c] 35)).alloc (.cells #[.int .i64 eq, .bool back, .slice pA place.length pC, .slice B bs.length D] 43))) := (show (wa.alloc (.cells #[.int .i64 s, .int .i64 v, .slice a (flen k) c] 35)).heap.size = (wa.heap.size + 1) from by simp) ▸ Lb.new HP.out HBS.out
  have Hlow' : Hid (Below w.heap.size w ((wa.alloc (.cells #[.int .i64 s, .int .i64 v, .slice a (flen k) c] 35)).alloc (.cells #[.int .i64 eq, .bool back, .slice pA place.length pC, .slice B bs.length D] 43))) := below_next Hlow.out hbx
  have HE' : Hid (ESl ((wa.alloc (.cells #[.int .i64 s, .int .i64 v, .slice a (flen k) c] 35)).alloc (.cells #[.int .i64 eq, .bool back, .slice pA place.length pC, .slice B bs.length D] 43)) 0 ((wa.alloc (.cells #[.int .i64 s, .int .i64 v, .slice a (flen k) c] 35)).alloc (.cells #[.int .i64 eq, .bool back, .slice pA place.length pC, .slice B bs.length D] 43)).heap.size A es) := HE.out.next hbx
  have HP' : Hid (ISc ((wa.alloc (.cells #[.int .i64 s, .int .i64 v, .slice a (flen k) c] 35)).alloc (.cells #[.int .i64 eq, .bool back, .slice pA place.length pC, .slice B bs.length D] 43)) 0 ((wa.alloc (.cells #[.int .i64 s, .int .i64 v, .slice a (flen k) c] 35)).alloc (.cells #[.int .i64 eq, .bool back, .slice pA place.length pC, .slice B bs.length D] 43)).heap.size pA pC place) := HP.out.next hbx
  have HBS' : Hid (BSl ((wa.alloc (.cells #[.int .i64 s, .int .i64 v, .slice a (flen k) c] 35)).alloc (.cells #[.int .i64 eq, .bool back, .slice pA place.length pC, .slice B bs.length D] 43)) 0 ((wa.alloc (.cells #[.int .i64 s, .int .i64 v, .slice a (flen k) c] 35)).alloc (.cells #[.int .i64 eq, .bool back, .slice pA place.length pC, .slice B bs.length D] 43)).heap.size B bs) := HBS.out.next hbx
  have Ht' : Hid (Tb wa.heap.size s v a c k ((wa.alloc (.cells #[.int .i64 s, .int .i64 v, .slice a (flen k) c] 35)).alloc (.cells #[.int .i64 eq, .bool back, .slice pA place.length pC, .slice B bs.length D] 43))) := Ht.out.next hbx
  clear Hlow HE HP HBS Ht
  have Hlow := Hlow'
  clear Hlow'
  have HE := HE'
  clear HE'
  have HP := HP'
  clear HP'
  have HBS := HBS'
  clear HBS'
  have Ht := Ht'
  clear Ht'
  have Hl := Hn
  clear Hn hbx
  have qt0 := Ht.out.c0
  have qt1 := Ht.out.c1
  have qt2 := Ht.out.c2
  have ql0 := Hl.out.c0
  have ql1 := Hl.out.c1
  have ql2 := Hl.out.c2
  have ql3 := Hl.out.c3
  go_wp2_with fail
  with_reducible refine (sLinkDo_any es A C s v a c k eq back pA pC place B D bs _ HE.out (by omega) Ht.out.sl Hl.out.hp (by omega) Hl.out.hb (by omega)).mono ?_
  rintro e wx1 ⟨aw, cw, sw, vw, kw, tw, hdw, rfl, hb, hlw⟩
  have HDw := Lib.hid hdw
  clear hdw
  clear qt0 qt1 qt2 ql0 ql1 ql2 ql3
  have Hlow' : Hid (Below w.heap.size w wx1) := below_next Hlow.out hb
  have HE' : Hid (ESl wx1 0 wx1.heap.size A es) := HE.out.next hb
  have HP' : Hid (ISc wx1 0 wx1.heap.size pA pC place) := HP.out.next hb
  have HBS' : Hid (BSl wx1 0 wx1.heap.size B bs) := HBS.out.next hb
  have Ht' : Hid (Tb wa.heap.size s v a c k wx1) := Ht.out.next hb
  have Hl' : Hid (Lb (wa.heap.size + 1) eq back pA pC place B D bs wx1) := Hl.out.next hb
  clear Hlow HE HP HBS Ht Hl
  have Hlow := Hlow'
  clear Hlow'
  have HE := HE'
  clear HE'
  have HP := HP'
  clear HP'
  have HBS := HBS'
  clear HBS'
  have Ht := Ht'
  clear Ht'
  have Hl := Hl'
  clear Hl'
  clear hb
  have Hlw := Lib.hid hlw
  clear hlw
  have hbx : Below wx1.heap.size wx1 (wx1.alloc (.cells #[.int .i64 sw, .int .i64 vw, .slice aw (flen kw) cw] 35)) := box_low _ _
  have Hn : Hid (Tb wx1.heap.size sw vw aw cw kw (wx1.alloc (.cells #[.int .i64 sw, .int .i64 vw, .slice aw (flen kw) cw] 35))) := Tb.new Hlw.out
  have Hlow' : Hid (Below w.heap.size w (wx1.alloc (.cells #[.int .i64 sw, .int .i64 vw, .slice aw (flen kw) cw] 35))) := below_next Hlow.out hbx
  have HE' : Hid (ESl (wx1.alloc (.cells #[.int .i64 sw, .int .i64 vw, .slice aw (flen kw) cw] 35)) 0 (wx1.alloc (.cells #[.int .i64 sw, .int .i64 vw, .slice aw (flen kw) cw] 35)).heap.size A es) := HE.out.next hbx
  have HP' : Hid (ISc (wx1.alloc (.cells #[.int .i64 sw, .int .i64 vw, .slice aw (flen kw) cw] 35)) 0 (wx1.alloc (.cells #[.int .i64 sw, .int .i64 vw, .slice aw (flen kw) cw] 35)).heap.size pA pC place) := HP.out.next hbx
  have HBS' : Hid (BSl (wx1.alloc (.cells #[.int .i64 sw, .int .i64 vw, .slice aw (flen kw) cw] 35)) 0 (wx1.alloc (.cells #[.int .i64 sw, .int .i64 vw, .slice aw (flen kw) cw] 35)).heap.size B bs) := HBS.out.next hbx
  have Ht' : Hid (Tb wa.heap.size s v a c k (wx1.alloc (.cells #[.int .i64 sw, .int .i64 vw, .slice aw (flen kw) cw] 35))) := Ht.out.next hbx
  have Hl' : Hid (Lb (wa.heap.size + 1) eq back pA pC place B D bs (wx1.alloc (.cells #[.int .i64 sw, .int .i64 vw, .slice aw (flen kw) cw] 35))) := Hl.out.next hbx
  clear Hlow HE HP HBS Ht Hl
  have Hlow := Hlow'
  clear Hlow'
  have HE := HE'
  clear HE'
  have HP := HP'
  clear HP'
  have HBS := HBS'
  clear HBS'
  have Ht := Ht'
  clear Ht'
  have Hl := Hl'
  clear Hl'
  have Hw := Hn
  clear Hn hbx
  clear Hlw
  have qt0 := Ht.out.c0
  have qt1 := Ht.out.c1
  have qt2 := Ht.out.c2
  have ql0 := Hl.out.c0
  have ql1 := Hl.out.c1
  have ql2 := Hl.out.c2
  have ql3 := Hl.out.c3
  go_wp2_with fail
  with_reducible refine (iLinkDo_any es A C s v a c k eq back pA pC place B D bs _ HE.out (by omega) Ht.out.sl Hl.out.hp (by omega) Hl.out.hb (by omega)).mono ?_
  rintro e wx2 ⟨ax, cx, sx, vx, kx, tx, hdx, rfl, hb, hlx⟩
  rw [HDw.out] at hdx
  simp only [Prod.mk.injEq] at hdx
  obtain ⟨⟨rfl, rfl, rfl⟩, rfl⟩ := hdx
  clear qt0 qt1 qt2 ql0 ql1 ql2 ql3
  have Hlow' : Hid (Below w.heap.size w wx2) := below_next Hlow.out hb
  have HE' : Hid (ESl wx2 0 wx2.heap.size A es) := HE.out.next hb
  have HP' : Hid (ISc wx2 0 wx2.heap.size pA pC place) := HP.out.next hb
  have HBS' : Hid (BSl wx2 0 wx2.heap.size B bs) := HBS.out.next hb
  have Ht' : Hid (Tb wa.heap.size s v a c k wx2) := Ht.out.next hb
  have Hl' : Hid (Lb (wa.heap.size + 1) eq back pA pC place B D bs wx2) := Hl.out.next hb
  have Hw' : Hid (Tb wx1.heap.size sw vw aw cw kw wx2) := Hw.out.next hb
  clear Hlow HE HP HBS Ht Hl Hw
  have Hlow := Hlow'
  clear Hlow'
  have HE := HE'
  clear HE'
  have HP := HP'
  clear HP'
  have HBS := HBS'
  clear HBS'
  have Ht := Ht'
  clear Ht'
  have Hl := Hl'
  clear Hl'
  have Hw := Hw'
  clear Hw'
  clear hb
  have Hlx := Lib.hid hlx
  clear hlx
  have hbx : Below wx2.heap.size wx2 (wx2.alloc (.cells #[.int .i64 sw, .int .i64 vw, .slice ax (flen kw) cx] 35)) := box_low _ _
  have Hn : Hid (Tb wx2.heap.size sw vw ax cx kw (wx2.alloc (.cells #[.int .i64 sw, .int .i64 vw, .slice ax (flen kw) cx] 35))) := Tb.new Hlx.out
  have Hlow' : Hid (Below w.heap.size w (wx2.alloc (.cells #[.int .i64 sw, .int .i64 vw, .slice ax (flen kw) cx] 35))) := below_next Hlow.out hbx
  have HE' : Hid (ESl (wx2.alloc (.cells #[.int .i64 sw, .int .i64 vw, .slice ax (flen kw) cx] 35)) 0 (wx2.alloc (.cells #[.int .i64 sw, .int .i64 vw, .slice ax (flen kw) cx] 35)).heap.size A es) := HE.out.next hbx
  have HP' : Hid (ISc (wx2.alloc (.cells #[.int .i64 sw, .int .i64 vw, .slice ax (flen kw) cx] 35)) 0 (wx2.alloc (.cells #[.int .i64 sw, .int .i64 vw, .slice ax (flen kw) cx] 35)).heap.size pA pC place) := HP.out.next hbx
  have HBS' : Hid (BSl (wx2.alloc (.cells #[.int .i64 sw, .int .i64 vw, .slice ax (flen kw) cx] 35)) 0 (wx2.alloc (.cells #[.int .i64 sw, .int .i64 vw, .slice ax (flen kw) cx] 35)).heap.size B bs) := HBS.out.next hbx
  have Ht' : Hid (Tb wa.heap.size s v a c k (wx2.alloc (.cells #[.int .i64 sw, .int .i64 vw, .slice ax (flen kw) cx] 35))) := Ht.out.next hbx
  have Hl' : Hid (Lb (wa.heap.size + 1) eq back pA pC place B D bs (wx2.alloc (.cells #[.int .i64 sw, .int .i64 vw, .slice ax (flen kw) cx] 35))) := Hl.out.next hbx
  have Hw' : Hid (Tb wx1.heap.size sw vw aw cw kw (wx2.alloc (.cells #[.int .i64 sw, .int .i64 vw, .slice ax (flen kw) cx] 35))) := Hw.out.next hbx
  clear Hlow HE HP HBS Ht Hl Hw
  have Hlow := Hlow'
  clear Hlow'
  have HE := HE'
  clear HE'
  have HP := HP'
  clear HP'
  have HBS := HBS'
  clear HBS'
  have Ht := Ht'
  clear Ht'
  have Hl := Hl'
  clear Hl'
  have Hw := Hw'
  clear Hw'
  have Hx := Hn
  clear Hn hbx
  clear Hlx
  have hkw := lk_small HDw.out
  have eb : (tw != tw) = false := by simp
  have eb2 : (tw == tw) = true := by simp
  have qx0 := Hx.out.c0
  have qx1 := Hx.out.c1
  have qx2 := Hx.out.c2
  have qw0 := Hw.out.c0
  have qw1 := Hw.out.c1
  have qw2 := Hw.out.c2
  go_wp2_with fail
  with_reducible refine (laTerm_same (fsz kw) sw vw ax aw cx cw kw _ Hx.out.sl Hw.out.sl (Nat.le_refl _) (by omega)).mono ?_
  rintro e wx3 ⟨rfl, hb⟩
  clear qx0 qx1 qx2 qw0 qw1 qw2
  have Hlow' : Hid (Below w.heap.size w wx3) := below_next Hlow.out hb
  have HE' : Hid (ESl wx3 0 wx3.heap.size A es) := HE.out.next hb
  have HP' : Hid (ISc wx3 0 wx3.heap.size pA pC place) := HP.out.next hb
  have HBS' : Hid (BSl wx3 0 wx3.heap.size B bs) := HBS.out.next hb
  have Ht' : Hid (Tb wa.heap.size s v a c k wx3) := Ht.out.next hb
  have Hl' : Hid (Lb (wa.heap.size + 1) eq back pA pC place B D bs wx3) := Hl.out.next hb
  have Hw' : Hid (Tb wx1.heap.size sw vw aw cw kw wx3) := Hw.out.next hb
  have Hx' : Hid (Tb wx2.heap.size sw vw ax cx kw wx3) := Hx.out.next hb
  clear Hlow HE HP HBS Ht Hl Hw Hx
  have Hlow := Hlow'
  clear Hlow'
  have HE := HE'
  clear HE'
  have HP := HP'
  clear HP'
  have HBS := HBS'
  clear HBS'
  have Ht := Ht'
  clear Ht'
  have Hl := Hl'
  clear Hl'
  have Hw := Hw'
  clear Hw'
  have Hx := Hx'
  clear Hx'
  clear hb
  cases tw with
  | false =>
    have qx0 := Hx.out.c0
    have qx1 := Hx.out.c1
    have qx2 := Hx.out.c2
    have qw0 := Hw.out.c0
    have qw1 := Hw.out.c1
    have qw2 := Hw.out.c2
    go_wp2_with fail
    with_reducible refine (laTerm_same (fsz kw) sw vw ax aw cx cw kw _ Hx.out.sl Hw.out.sl (Nat.le_refl _) (by omega)).mono ?_
    rintro e wx4 ⟨rfl, hb⟩
    clear qx0 qx1 qx2 qw0 qw1 qw2
    have Hlow' : Hid (Below w.heap.size w wx4) := below_next Hlow.out hb
    have HE' : Hid (ESl wx4 0 wx4.heap.size A es) := HE.out.next hb
    have HP' : Hid (ISc wx4 0 wx4.heap.size pA pC place) := HP.out.next hb
    have HBS' : Hid (BSl wx4 0 wx4.heap.size B bs) := HBS.out.next hb
    have Ht' : Hid (Tb wa.heap.size s v a c k wx4) := Ht.out.next hb
    have Hl' : Hid (Lb (wa.heap.size + 1) eq back pA pC place B D bs wx4) := Hl.out.next hb
    have Hw' : Hid (Tb wx1.heap.size sw vw aw cw kw wx4) := Hw.out.next hb
    have Hx' : Hid (Tb wx2.heap.size sw vw ax cx kw wx4) := Hx.out.next hb
    clear Hlow HE HP HBS Ht Hl Hw Hx
    have Hlow := Hlow'
    clear Hlow'
    have HE := HE'
    clear HE'
    have HP := HP'
    clear HP'
    have HBS := HBS'
    clear HBS'
    have Ht := Ht'
    clear Ht'
    have Hl := Hl'
    clear Hl'
    have Hw := Hw'
    clear Hw'
    have Hx := Hx'
    clear Hx'
    clear hb
    go_wp2_with fail
    go_ret
    exact ⟨rfl, Hlow.out⟩
  | true =>
    have HR : Hid (lkR es (s, v, k) (eq, back, place, bs) = some (sw, vw, kw)) := ans_true HDw.out
    cases hokx : okW sw vw kw 16 with
    | false =>
      have HOKX := Lib.hid hokx
      clear hokx
      have qx0 := Hx.out.c0
      have qx1 := Hx.out.c1
      have qx2 := Hx.out.c2
      go_wp2_with fail
      with_reducible refine (iTermOk_any sw vw ax cx kw _ Hx.out.sl).mono ?_
      rw [HOKX.out]
      rintro e wx4 ⟨rfl, hb⟩
      clear qx0 qx1 qx2
      have Hlow' : Hid (Below w.heap.size w wx4) := below_next Hlow.out hb
      have HE' : Hid (ESl wx4 0 wx4.heap.size A es) := HE.out.next hb
      have HP' : Hid (ISc wx4 0 wx4.heap.size pA pC place) := HP.out.next hb
      have HBS' : Hid (BSl wx4 0 wx4.heap.size B bs) := HBS.out.next hb
      have Ht' : Hid (Tb wa.heap.size s v a c k wx4) := Ht.out.next hb
      have Hl' : Hid (Lb (wa.heap.size + 1) eq back pA pC place B D bs wx4) := Hl.out.next hb
      have Hw' : Hid (Tb wx1.heap.size sw vw aw cw kw wx4) := Hw.out.next hb
      have Hx' : Hid (Tb wx2.heap.size sw vw ax cx kw wx4) := Hx.out.next hb
      clear Hlow HE HP HBS Ht Hl Hw Hx
      have Hlow := Hlow'
      clear Hlow'
      have HE := HE'
      clear HE'
      have HP := HP'
      clear HP'
      have HBS := HBS'
      clear HBS'
      have Ht := Ht'
      clear Ht'
      have Hl := Hl'
      clear Hl'
      have Hw := Hw'
      clear Hw'
      have Hx := Hx'
      clear Hx'
      clear hb
      have qx0 := Hx.out.c0
      have qx1 := Hx.out.c1
      have qx2 := Hx.out.c2
      have qw0 := Hw.out.c0
      have qw1 := Hw.out.c1
      have qw2 := Hw.out.c2
      go_wp2_with fail
      with_reducible refine (laTerm_same (fsz kw) sw vw ax aw cx cw kw _ Hx.out.sl Hw.out.sl (Nat.le_refl _) (by omega)).mono ?_
      rintro e wx5 ⟨rfl, hb⟩
      clear qx0 qx1 qx2 qw0 qw1 qw2
      have Hlow' : Hid (Below w.heap.size w wx5) := below_next Hlow.out hb
      have HE' : Hid (ESl wx5 0 wx5.heap.size A es) := HE.out.next hb
      have HP' : Hid (ISc wx5 0 wx5.heap.size pA pC place) := HP.out.next hb
      have HBS' : Hid (BSl wx5 0 wx5.heap.size B bs) := HBS.out.next hb
      have Ht' : Hid (Tb wa.heap.size s v a c k wx5) := Ht.out.next hb
      have Hl' : Hid (Lb (wa.heap.size + 1) eq back pA pC place B D bs wx5) := Hl.out.next hb
      have Hw' : Hid (Tb wx1.heap.size sw vw aw cw kw wx5) := Hw.out.next hb
      have Hx' : Hid (Tb wx2.heap.size sw vw ax cx kw wx5) := Hx.out.next hb
      clear Hlow HE HP HBS Ht Hl Hw Hx
      have Hlow := Hlow'
      clear Hlow'
      have HE := HE'
      clear HE'
      have HP := HP'
      clear HP'
      have HBS := HBS'
      clear HBS'
      have Ht := Ht'
      clear Ht'
      have Hl := Hl'
      clear Hl'
      have Hw := Hw'
      clear Hw'
      have Hx := Hx'
      clear Hx'
      clear hb
      go_wp2_with fail
      go_ret
      exact ⟨rfl, Hlow.out⟩
    | true =>
      have HOKX := Lib.hid hokx
      clear hokx
      have qx0 := Hx.out.c0
      have qx1 := Hx.out.c1
      have qx2 := Hx.out.c2
      go_wp2_with fail
      with_reducible refine (iTermOk_any sw vw ax cx kw _ Hx.out.sl).mono ?_
      rw [HOKX.out]
      rintro e wx4 ⟨rfl, hb⟩
      clear qx0 qx1 qx2
      have Hlow' : Hid (Below w.heap.size w wx4) := below_next Hlow.out hb
      have HE' : Hid (ESl wx4 0 wx4.heap.size A es) := HE.out.next hb
      have HP' : Hid (ISc wx4 0 wx4.heap.size pA pC place) := HP.out.next hb
      have HBS' : Hid (BSl wx4 0 wx4.heap.size B bs) := HBS.out.next hb
      have Ht' : Hid (Tb wa.heap.size s v a c k wx4) := Ht.out.next hb
      have Hl' : Hid (Lb (wa.heap.size + 1) eq back pA pC place B D bs wx4) := Hl.out.next hb
      have Hw' : Hid (Tb wx1.heap.size sw vw aw cw kw wx4) := Hw.out.next hb
      have Hx' : Hid (Tb wx2.heap.size sw vw ax cx kw wx4) := Hx.out.next hb
      clear Hlow HE HP HBS Ht Hl Hw Hx
      have Hlow := Hlow'
      clear Hlow'
      have HE := HE'
      clear HE'
      have HP := HP'
      clear HP'
      have HBS := HBS'
      clear HBS'
      have Ht := Ht'
      clear Ht'
      have Hl := Hl'
      clear Hl'
      have Hw := Hw'
      clear Hw'
      have Hx := Hx'
      clear Hx'
      clear hb
      have HOK : Hid (okW s v k 16 = true) := (okW_iff _ _ _ _).2 ⟨HOKZ.out.1, HOKZ.out.2.1, by omega⟩
      clear eb eb2 Hw
      have qt0 := Ht.out.c0
      have qt1 := Ht.out.c1
      have qt2 := Ht.out.c2
      go_wp2_with fail
      with_reducible refine (iTermPlaces_any s v a c k _ Ht.out.sl).mono ?_
      rintro e wx5 ⟨AL, CL, rows, rfl, hrows, hb, hrs⟩
      rw [if_pos HOK.out] at hrows
      subst hrows
      have HRS := Lib.hid (hrs.mono (lo' := 0) (Nat.zero_le _) (Nat.le_refl _))
      have hpk : (places k).length ≤ 16 := by rw [places_len]; omega
      clear hrs
      clear qt0 qt1 qt2
      have Hlow' : Hid (Below w.heap.size w wx5) := below_next Hlow.out hb
      have HE' : Hid (ESl wx5 0 wx5.heap.size A es) := HE.out.next hb
      have HP' : Hid (ISc wx5 0 wx5.heap.size pA pC place) := HP.out.next hb
      have HBS' : Hid (BSl wx5 0 wx5.heap.size B bs) := HBS.out.next hb
      have Ht' : Hid (Tb wa.heap.size s v a c k wx5) := Ht.out.next hb
      have Hl' : Hid (Lb (wa.heap.size + 1) eq back pA pC place B D bs wx5) := Hl.out.next hb
      have Hx' : Hid (Tb wx2.heap.size sw vw ax cx kw wx5) := Hx.out.next hb
      clear Hlow HE HP HBS Ht Hl Hx
      have Hlow := Hlow'
      clear Hlow'
      have HE := HE'
      clear HE'
      have HP := HP'
      clear HP'
      have HBS := HBS'
      clear HBS'
      have Ht := Ht'
      clear Ht'
      have Hl := Hl'
      clear Hl'
      have Hx := Hx'
      clear Hx'
      clear hb
      go_wp2_with fail
      go_loopw [11] (fun i wr => ∃ j : Nat, i = .int .i64 j ∧ j ≤ (places k).length ∧ Hid (Below w.heap.size w wr) ∧ Hid (ESl wr 0 wr.heap.size A es) ∧ Hid (ISc wr 0 wr.heap.size pA pC place) ∧ Hid (BSl wr 0 wr.heap.size B bs) ∧ Hid (Tb wa.heap.size s v a c k wr) ∧ Hid (Lb (wa.heap.size + 1) eq back pA pC place B D bs wr) ∧ Hid (Tb wx2.heap.size sw vw ax cx kw wr) ∧ Hid (RSl wr 0 wr.heap.size AL (places k))) (fun i _ => (places k).length - (intOf i).toNat)
      case atStart => exact ⟨0, rfl, Nat.zero_le _, Hlow, HE, HP, HBS, Ht, Hl, Hx, HRS⟩
      case round =>
        clear Hlow HE HP HBS Ht Hl Hx HRS
        obtain ⟨j, rfl, hj, Hlow, HE, HP, HBS, Ht, Hl, Hx, HRS⟩ := hrel
        by_cases hlt : j < (places k).length
        · obtain ⟨rb, ro, qA, qC, pl, hAL, _, hrb, hrp, hrc, hpl9⟩ := rsl_at HRS.out hlt
          subst hAL
          have HPL := Lib.hid hpl9
          have HC := Lib.hid hrc
          have hpll : pl.length ≤ 16 := by have h1 := places_deep (List.mem_of_getElem? hrp); omega
          have HMEM := Lib.hid (List.mem_of_getElem? hrp)
          clear hrp hrc hpl9
          have g1 : (0 : Int) ≤ (j : Int) := by omega
          have g2 : (j : Int) < ((places k).length : Int) := by omega
          have hc0 := HC.out
          have hc1 := Hl.out.c2
          have hu0 : ∀ u : After wr.heap.size wr, u.world.cell? ⟨rb, ro + j, none⟩ = some (.slice qA pl.length qC) := fun u => cell_low u.below hc0
          have hu1 : ∀ u : After wr.heap.size wr, u.world.cell? ⟨wa.heap.size + 1, 2, none⟩ = some (.slice pA place.length pC) := fun u => cell_low u.below hc1
          clear hc0 hc1
          go_wp2_with fail
          refine wp_region_mix (fun w' => ∃ u : After wr.heap.size wr, w' = u.world) [] [(0, 0), (1, 0), (2, 0), (3, 0), (4, 0), (5, 0), (6, 1), (7, 1)] (by kernel_rfl) (by kernel_rfl) ⟨⟨_, (Below.refl _ _).drew⟩, rfl⟩ ?_
          have HBD : Hid (Below wr.heap.size wr wr.drew) := (Below.refl _ _).drew
          generalize wr.drew = wd at *
          iterate 6
            refine mix_see rfl (fun K hK => ?_)
            go_simp
            refine hK _ ?_
            clear hK K
          clear hu0 hu1
          refine mix_hold rfl (fun K hK => ?_)
          go_simp
          with_reducible refine (laApart_any pl place qA pA qC pC _ (HPL.out.next HBD.out) ((Hl.out.isl).next HBD.out) (by omega) (by omega)).mono ?_
          rintro e wq ⟨rfl, hbq⟩
          have HB2 := Lib.hid (below_next HBD.out hbq)
          refine hK _ _ ⟨⟨_, HB2.out⟩, rfl⟩ ?_
          clear hK K hbq
          refine mix_hold rfl (fun K hK => ?_)
          go_simp
          refine hK _ _ ⟨⟨_, HB2.out⟩, rfl⟩ ?_
          clear hK K
          refine mix_end ?_
          have Hlow' : Hid (Below w.heap.size w wq) := below_next Hlow.out HB2.out
          have HE' : Hid (ESl wq 0 wq.heap.size A es) := HE.out.next HB2.out
          have HP' : Hid (ISc wq 0 wq.heap.size pA pC place) := HP.out.next HB2.out
          have HBS' : Hid (BSl wq 0 wq.heap.size B bs) := HBS.out.next HB2.out
          have Ht' : Hid (Tb wa.heap.size s v a c k wq) := Ht.out.next HB2.out
          have Hl' : Hid (Lb (wa.heap.size + 1) eq back pA pC place B D bs wq) := Hl.out.next HB2.out
          have Hx' : Hid (Tb wx2.heap.size sw vw ax cx kw wq) := Hx.out.next HB2.out
          have HRS' : Hid (RSl wq 0 wq.heap.size (some ⟨rb, ro, none⟩) (places k)) := HRS.out.next HB2.out
          have HPL' : Hid (ISl wq 0 wq.heap.size qA pl) := HPL.out.next HB2.out
          have HC' : Hid (wq.cell? ⟨rb, ro + j, none⟩ = some (.slice qA pl.length qC)) := cell_low HB2.out HC.out
          clear Hlow HE HP HBS Ht Hl Hx HRS HPL HC
          have Hlow := Hlow'
          clear Hlow'
          have HE := HE'
          clear HE'
          have HP := HP'
          clear HP'
          have HBS := HBS'
          clear HBS'
          have Ht := Ht'
          clear Ht'
          have Hl := Hl'
          clear Hl'
          have Hx := Hx'
          clear Hx'
          have HRS := HRS'
          clear HRS'
          have HPL := HPL'
          clear HPL'
          have HC := HC'
          clear HC'
          clear HB2 HBD
          cases hap : apart pl place with
          | false =>
            go_wp2_with fail
            go_roundw
            case rel => exact ⟨j + 1, by go_num, by omega, Hlow, HE, HP, HBS, Ht, Hl, Hx, HRS⟩
            case measure => simp [intOf]; omega
          | true =>
            obtain ⟨y1, y2, y3, hat1, hat2, hy3⟩ := lk_far HR.out HOK.out HOKX.out HMEM.out hap
            have HAT1 := Lib.hid hat1
            have HAT2 := Lib.hid hat2
            clear hat1 hat2
            have hu0 : ∀ u : After wq.heap.size wq, u.world.cell? ⟨wa.heap.size, 0, none⟩ = some (.int .i64 s) := fun u => cell_low u.below Ht.out.c0
            have hu1 : ∀ u : After wq.heap.size wq, u.world.cell? ⟨wa.heap.size, 1, none⟩ = some (.int .i64 v) := fun u => cell_low u.below Ht.out.c1
            have hu2 : ∀ u : After wq.heap.size wq, u.world.cell? ⟨wa.heap.size, 2, none⟩ = some (.slice a (flen k) c) := fun u => cell_low u.below Ht.out.c2
            have hu3 : ∀ u : After wq.heap.size wq, u.world.cell? ⟨rb, ro + j, none⟩ = some (.slice qA pl.length qC) := fun u => cell_low u.below HC.out
            go_wp2_with fail
            refine wp_region_anyT (fun w' => ∃ u : After wq.heap.size wq, w' = u.world) (by kernel_rfl) ?_
            have HBD : Hid (Below wq.heap.size wq wq.drew) := (Below.refl _ _).drew
            generalize wq.drew = wdx6 at *
            refine anyT_look (i := 0) rfl (by kernel_rfl) ⟨⟨_, HBD.out⟩, rfl⟩ (fun K hK => ?_)
            go_simp
            refine hK _ ?_
            clear hK K
            refine anyT_look (i := 1) rfl (by kernel_rfl) ⟨⟨_, HBD.out⟩, rfl⟩ (fun K hK => ?_)
            go_simp
            refine hK _ ?_
            clear hK K
            refine anyT_look (i := 2) rfl (by kernel_rfl) ⟨⟨_, HBD.out⟩, rfl⟩ (fun K hK => ?_)
            go_simp
            refine hK _ ?_
            clear hK K
            refine anyT_look (i := 3) rfl (by kernel_rfl) ⟨⟨_, HBD.out⟩, rfl⟩ (fun K hK => ?_)
            go_simp
            refine hK _ ?_
            clear hK K
            refine anyT_look (i := 4) rfl (by kernel_rfl) ⟨⟨_, HBD.out⟩, rfl⟩ (fun K hK => ?_)
            go_simp
            refine hK _ ?_
            clear hK K
            clear hu0 hu1 hu2 hu3
            refine anyT_two (i := 5) (j := 9) (by kernel_rfl) rfl rfl (fun K hK => ?_) (fun K hK => ?_)
            · go_simp
              with_reducible refine (iTermAt_any s v a c k qA qC pl _ ((Ht.out.next HBD.out).sl) (HPL.out.next HBD.out) (by omega)).mono ?_
              rintro e wpx6 ⟨aq, cq, s9, v9, k9, t9, hR, rfl, hb, hlx⟩
              rw [HAT1.out] at hR
              simp only [Prod.mk.injEq] at hR
              obtain ⟨rfl, rfl, rfl, rfl⟩ := hR
              have HLX := Lib.hid hlx
              clear hlx
              have hlo : wq.heap.size ≤ wdx6.heap.size := HBD.out.size
              replace HBD := Lib.hid (HBD.out.trans (hb.mono hlo))
              refine hK _ _ ⟨⟨_, HBD.out⟩, rfl⟩ ?_
              clear hK K hb
              refine anyT_look (i := 6) rfl (by kernel_rfl) ⟨⟨_, HBD.out⟩, rfl⟩ (fun K hK => ?_)
              go_simp
              refine hK _ ?_
              clear hK K
              refine anyT_look (i := 7) rfl (by kernel_rfl) ⟨⟨_, HBD.out⟩, rfl⟩ (fun K hK => ?_)
              go_simp
              refine hK _ ?_
              clear hK K
              refine anyT_look (i := 8) rfl (by kernel_rfl) ⟨⟨_, HBD.out⟩, rfl⟩ (fun K hK => ?_)
              go_simp
              refine hK _ ?_
              clear hK K
              refine anyT_one (i := 9) (by kernel_rfl) rfl (fun K hK => ?_)
              go_simp
              have HZ := Lib.hid (zb_new wpx6)
              have hbz : wq.heap.size ≤ wpx6.heap.size := HBD.out.size
              have hbe : Below wpx6.heap.size wpx6 (wpx6.alloc (.cells #[.int .i64 0, .int .i64 0, .slice none 0 0] 35)) := (Below.refl _ _).alloc (Nat.le_refl _) _
              replace HLX := Lib.hid (HLX.out.below hbe)
              replace HBD := Lib.hid (HBD.out.trans (hbe.mono hbz))
              refine hK _ _ ⟨⟨_, HBD.out⟩, rfl⟩ ?_
              have hze := hbe.size
              clear hK K hbe
              generalize wpx6.alloc (.cells #[.int .i64 0, .int .i64 0, .slice none 0 0] 35) = wzx6 at *
              have hzz0 := HZ.out.z0
              have hzz1 := HZ.out.z1
              have hzz2 := HZ.out.z2
              have hzf0 := HZ.out.f 0
              have hzf1 := HZ.out.f 1
              have hzf2 := HZ.out.f 2
              have HFIN : Hid (Below wq.heap.size wq (((wzx6.setCell ⟨wpx6.heap.size, 0, none⟩ (.int .i64 y1)).setCell ⟨wpx6.heap.size, 1, none⟩ (.int .i64 y2)).setCell ⟨wpx6.heap.size, 2, none⟩ (.slice aq (flen y3) cq)) ∧ Tb wpx6.heap.size y1 y2 aq cq y3 (((wzx6.setCell ⟨wpx6.heap.size, 0, none⟩ (.int .i64 y1)).setCell ⟨wpx6.heap.size, 1, none⟩ (.int .i64 y2)).setCell ⟨wpx6.heap.size, 2, none⟩ (.slice aq (flen y3) cq))) := zb_fin HZ.out HBD.out hbz HLX.out hze (.inr (Nat.le_refl _))
              refine anyT_one (i := 10) (by kernel_rfl) rfl (fun K hK => ?_)
              go_simp
              refine hK _ _ ⟨⟨_, HFIN.out.1⟩, rfl⟩ ?_
              clear hK K hzz0 hzz1 hzz2 hzf0 hzf1 hzf2
              refine anyT_one (i := 11) (by kernel_rfl) rfl (fun K hK => ?_)
              go_simp
              refine hK _ _ ⟨⟨_, HFIN.out.1⟩, rfl⟩ ?_
              clear hK K
              refine anyT_done (by kernel_rfl) ?_
              have HBE := Lib.hid HFIN.out.1
              have Hq := Lib.hid HFIN.out.2
              clear HFIN HZ HLX HBD
              generalize (((wzx6.setCell ⟨wpx6.heap.size, 0, none⟩ (.int .i64 y1)).setCell ⟨wpx6.heap.size, 1, none⟩ (.int .i64 y2)).setCell ⟨wpx6.heap.size, 2, none⟩ (.slice aq (flen y3) cq)) = wex6 at *
              have Hlow' : Hid (Below w.heap.size w wex6) := below_next Hlow.out HBE.out
              have HE' : Hid (ESl wex6 0 wex6.heap.size A es) := HE.out.next HBE.out
              have HP' : Hid (ISc wex6 0 wex6.heap.size pA pC place) := HP.out.next HBE.out
              have HBS' : Hid (BSl wex6 0 wex6.heap.size B bs) := HBS.out.next HBE.out
              have Ht' : Hid (Tb wa.heap.size s v a c k wex6) := Ht.out.next HBE.out
              have Hl' : Hid (Lb (wa.heap.size + 1) eq back pA pC place B D bs wex6) := Hl.out.next HBE.out
              have Hx' : Hid (Tb wx2.heap.size sw vw ax cx kw wex6) := Hx.out.next HBE.out
              have HRS' : Hid (RSl wex6 0 wex6.heap.size (some ⟨rb, ro, none⟩) (places k)) := HRS.out.next HBE.out
              have HPL' : Hid (ISl wex6 0 wex6.heap.size qA pl) := HPL.out.next HBE.out
              have HC' : Hid (wex6.cell? ⟨rb, ro + j, none⟩ = some (.slice qA pl.length qC)) := cell_low HBE.out HC.out
              clear Hlow HE HP HBS Ht Hl Hx HRS HPL HC
              have Hlow := Hlow'
              clear Hlow'
              have HE := HE'
              clear HE'
              have HP := HP'
              clear HP'
              have HBS := HBS'
              clear HBS'
              have Ht := Ht'
              clear Ht'
              have Hl := Hl'
              clear Hl'
              have Hx := Hx'
              clear Hx'
              have HRS := HRS'
              clear HRS'
              have HPL := HPL'
              clear HPL'
              have HC := HC'
              clear HC'
              clear HBE
              go_wp2_with fail
              have hu0 : ∀ u : After wex6.heap.size wex6, u.world.cell? ⟨wx2.heap.size, 0, none⟩ = some (.int .i64 sw) := fun u => cell_low u.below Hx.out.c0
              have hu1 : ∀ u : After wex6.heap.size wex6, u.world.cell? ⟨wx2.heap.size, 1, none⟩ = some (.int .i64 vw) := fun u => cell_low u.below Hx.out.c1
              have hu2 : ∀ u : After wex6.heap.size wex6, u.world.cell? ⟨wx2.heap.size, 2, none⟩ = some (.slice ax (flen kw) cx) := fun u => cell_low u.below Hx.out.c2
              have hu3 : ∀ u : After wex6.heap.size wex6, u.world.cell? ⟨rb, ro + j, none⟩ = some (.slice qA pl.length qC) := fun u => cell_low u.below HC.out
              go_wp2_with fail
              refine wp_region_anyT (fun w' => ∃ u : After wex6.heap.size wex6, w' = u.world) (by kernel_rfl) ?_
              have HBD : Hid (Below wex6.heap.size wex6 wex6.drew) := (Below.refl _ _).drew
              generalize wex6.drew = wdx7 at *
              refine anyT_look (i := 0) rfl (by kernel_rfl) ⟨⟨_, HBD.out⟩, rfl⟩ (fun K hK => ?_)
              go_simp
              refine hK _ ?_
              clear hK K
              refine anyT_look (i := 1) rfl (by kernel_rfl) ⟨⟨_, HBD.out⟩, rfl⟩ (fun K hK => ?_)
              go_simp
              refine hK _ ?_
              clear hK K
              refine anyT_look (i := 2) rfl (by kernel_rfl) ⟨⟨_, HBD.out⟩, rfl⟩ (fun K hK => ?_)
              go_simp
              refine hK _ ?_
              clear hK K
              refine anyT_look (i := 3) rfl (by kernel_rfl) ⟨⟨_, HBD.out⟩, rfl⟩ (fun K hK => ?_)
              go_simp
              refine hK _ ?_
              clear hK K
              refine anyT_look (i := 4) rfl (by kernel_rfl) ⟨⟨_, HBD.out⟩, rfl⟩ (fun K hK => ?_)
              go_simp
              refine hK _ ?_
              clear hK K
              clear hu0 hu1 hu2 hu3
              refine anyT_two (i := 5) (j := 9) (by kernel_rfl) rfl rfl (fun K hK => ?_) (fun K hK => ?_)
              · go_simp
                with_reducible refine (iTermAt_any sw vw ax cx kw qA qC pl _ ((Hx.out.next HBD.out).sl) (HPL.out.next HBD.out) (by omega)).mono ?_
                rintro e wpx7 ⟨ar, cr, s9, v9, k9, t9, hR, rfl, hb, hlx⟩
                rw [HAT2.out] at hR
                simp only [Prod.mk.injEq] at hR
                obtain ⟨rfl, rfl, rfl, rfl⟩ := hR
                have HLX := Lib.hid hlx
                clear hlx
                have hlo : wex6.heap.size ≤ wdx7.heap.size := HBD.out.size
                replace HBD := Lib.hid (HBD.out.trans (hb.mono hlo))
                refine hK _ _ ⟨⟨_, HBD.out⟩, rfl⟩ ?_
                clear hK K hb
                refine anyT_look (i := 6) rfl (by kernel_rfl) ⟨⟨_, HBD.out⟩, rfl⟩ (fun K hK => ?_)
                go_simp
                refine hK _ ?_
                clear hK K
                refine anyT_look (i := 7) rfl (by kernel_rfl) ⟨⟨_, HBD.out⟩, rfl⟩ (fun K hK => ?_)
                go_simp
                refine hK _ ?_
                clear hK K
                refine anyT_look (i := 8) rfl (by kernel_rfl) ⟨⟨_, HBD.out⟩, rfl⟩ (fun K hK => ?_)
                go_simp
                refine hK _ ?_
                clear hK K
                refine anyT_one (i := 9) (by kernel_rfl) rfl (fun K hK => ?_)
                go_simp
                have HZ := Lib.hid (zb_new wpx7)
                have hbz : wex6.heap.size ≤ wpx7.heap.size := HBD.out.size
                have hbe : Below wpx7.heap.size wpx7 (wpx7.alloc (.cells #[.int .i64 0, .int .i64 0, .slice none 0 0] 35)) := (Below.refl _ _).alloc (Nat.le_refl _) _
                replace HLX := Lib.hid (HLX.out.below hbe)
                replace HBD := Lib.hid (HBD.out.trans (hbe.mono hbz))
                refine hK _ _ ⟨⟨_, HBD.out⟩, rfl⟩ ?_
                have hze := hbe.size
                clear hK K hbe
                generalize wpx7.alloc (.cells #[.int .i64 0, .int .i64 0, .slice none 0 0] 35) = wzx7 at *
                have hzz0 := HZ.out.z0
                have hzz1 := HZ.out.z1
                have hzz2 := HZ.out.z2
                have hzf0 := HZ.out.f 0
                have hzf1 := HZ.out.f 1
                have hzf2 := HZ.out.f 2
                have HFIN : Hid (Below wex6.heap.size wex6 (((wzx7.setCell ⟨wpx7.heap.size, 0, none⟩ (.int .i64 y1)).setCell ⟨wpx7.heap.size, 1, none⟩ (.int .i64 y2)).setCell ⟨wpx7.heap.size, 2, none⟩ (.slice ar (flen y3) cr)) ∧ Tb wpx7.heap.size y1 y2 ar cr y3 (((wzx7.setCell ⟨wpx7.heap.size, 0, none⟩ (.int .i64 y1)).setCell ⟨wpx7.heap.size, 1, none⟩ (.int .i64 y2)).setCell ⟨wpx7.heap.size, 2, none⟩ (.slice ar (flen y3) cr))) := zb_fin HZ.out HBD.out hbz HLX.out hze (.inr (Nat.le_refl _))
                refine anyT_one (i := 10) (by kernel_rfl) rfl (fun K hK => ?_)
                go_simp
                refine hK _ _ ⟨⟨_, HFIN.out.1⟩, rfl⟩ ?_
                clear hK K hzz0 hzz1 hzz2 hzf0 hzf1 hzf2
                refine anyT_one (i := 11) (by kernel_rfl) rfl (fun K hK => ?_)
                go_simp
                refine hK _ _ ⟨⟨_, HFIN.out.1⟩, rfl⟩ ?_
                clear hK K
                refine anyT_done (by kernel_rfl) ?_
                have HBE := Lib.hid HFIN.out.1
                have Hr := Lib.hid HFIN.out.2
                clear HFIN HZ HLX HBD
                generalize (((wzx7.setCell ⟨wpx7.heap.size, 0, none⟩ (.int .i64 y1)).setCell ⟨wpx7.heap.size, 1, none⟩ (.int .i64 y2)).setCell ⟨wpx7.heap.size, 2, none⟩ (.slice ar (flen y3) cr)) = wex7 at *
                have Hlow' : Hid (Below w.heap.size w wex7) := below_next Hlow.out HBE.out
                have HE' : Hid (ESl wex7 0 wex7.heap.size A es) := HE.out.next HBE.out
                have HP' : Hid (ISc wex7 0 wex7.heap.size pA pC place) := HP.out.next HBE.out
                have HBS' : Hid (BSl wex7 0 wex7.heap.size B bs) := HBS.out.next HBE.out
                have Ht' : Hid (Tb wa.heap.size s v a c k wex7) := Ht.out.next HBE.out
                have Hl' : Hid (Lb (wa.heap.size + 1) eq back pA pC place B D bs wex7) := Hl.out.next HBE.out
                have Hx' : Hid (Tb wx2.heap.size sw vw ax cx kw wex7) := Hx.out.next HBE.out
                have HRS' : Hid (RSl wex7 0 wex7.heap.size (some ⟨rb, ro, none⟩) (places k)) := HRS.out.next HBE.out
                have HPL' : Hid (ISl wex7 0 wex7.heap.size qA pl) := HPL.out.next HBE.out
                have HC' : Hid (wex7.cell? ⟨rb, ro + j, none⟩ = some (.slice qA pl.length qC)) := cell_low HBE.out HC.out
                have Hq' : Hid (Tb wpx6.heap.size y1 y2 aq cq y3 wex7) := Hq.out.next HBE.out
                clear Hlow HE HP HBS Ht Hl Hx HRS HPL HC Hq
                have Hlow := Hlow'
                clear Hlow'
                have HE := HE'
                clear HE'
                have HP := HP'
                clear HP'
                have HBS := HBS'
                clear HBS'
                have Ht := Ht'
                clear Ht'
                have Hl := Hl'
                clear Hl'
                have Hx := Hx'
                clear Hx'
                have HRS := HRS'
                clear HRS'
                have HPL := HPL'
                clear HPL'
                have HC := HC'
                clear HC'
                have Hq := Hq'
                clear Hq'
                clear HBE
                have qq0 := Hq.out.c0
                have qq1 := Hq.out.c1
                have qq2 := Hq.out.c2
                have qr0 := Hr.out.c0
                have qr1 := Hr.out.c1
                have qr2 := Hr.out.c2
                go_wp2_with fail
                with_reducible refine (laTerm_same (fsz y3) y1 y2 aq ar cq cr y3 _ Hq.out.sl Hr.out.sl (Nat.le_refl _) (by omega)).mono ?_
                rintro e wx8 ⟨rfl, hb⟩
                clear qq0 qq1 qq2 qr0 qr1 qr2
                have Hlow' : Hid (Below w.heap.size w wx8) := below_next Hlow.out hb
                have HE' : Hid (ESl wx8 0 wx8.heap.size A es) := HE.out.next hb
                have HP' : Hid (ISc wx8 0 wx8.heap.size pA pC place) := HP.out.next hb
                have HBS' : Hid (BSl wx8 0 wx8.heap.size B bs) := HBS.out.next hb
                have Ht' : Hid (Tb wa.heap.size s v a c k wx8) := Ht.out.next hb
                have Hl' : Hid (Lb (wa.heap.size + 1) eq back pA pC place B D bs wx8) := Hl.out.next hb
                have Hx' : Hid (Tb wx2.heap.size sw vw ax cx kw wx8) := Hx.out.next hb
                have HRS' : Hid (RSl wx8 0 wx8.heap.size (some ⟨rb, ro, none⟩) (places k)) := HRS.out.next hb
                have HPL' : Hid (ISl wx8 0 wx8.heap.size qA pl) := HPL.out.next hb
                have HC' : Hid (wx8.cell? ⟨rb, ro + j, none⟩ = some (.slice qA pl.length qC)) := cell_low hb HC.out
                have Hq' : Hid (Tb wpx6.heap.size y1 y2 aq cq y3 wx8) := Hq.out.next hb
                have Hr' : Hid (Tb wpx7.heap.size y1 y2 ar cr y3 wx8) := Hr.out.next hb
                clear Hlow HE HP HBS Ht Hl Hx HRS HPL HC Hq Hr
                have Hlow := Hlow'
                clear Hlow'
                have HE := HE'
                clear HE'
                have HP := HP'
                clear HP'
                have HBS := HBS'
                clear HBS'
                have Ht := Ht'
                clear Ht'
                have Hl := Hl'
                clear Hl'
                have Hx := Hx'
                clear Hx'
                have HRS := HRS'
                clear HRS'
                have HPL := HPL'
                clear HPL'
                have HC := HC'
                clear HC'
                have Hq := Hq'
                clear Hq'
                have Hr := Hr'
                clear Hr'
                clear hb
                go_wp2_with fail
                go_roundw
                case rel => exact ⟨j + 1, by go_num, by omega, Hlow, HE, HP, HBS, Ht, Hl, Hx, HRS⟩
                case measure => simp [intOf]; omega
              · go_simp
                have HZ := Lib.hid (zb_new wdx7)
                have hbz : wex6.heap.size ≤ wdx7.heap.size := HBD.out.size
                have hbe : Below wdx7.heap.size wdx7 (wdx7.alloc (.cells #[.int .i64 0, .int .i64 0, .slice none 0 0] 35)) := (Below.refl _ _).alloc (Nat.le_refl _) _
                replace HBD := Lib.hid (HBD.out.trans (hbe.mono hbz))
                refine hK _ _ ⟨⟨_, HBD.out⟩, rfl⟩ ?_
                clear hK K hbe
                generalize wdx7.alloc (.cells #[.int .i64 0, .int .i64 0, .slice none 0 0] 35) = wzx7 at *
                refine anyT_one (i := 5) (by kernel_rfl) rfl (fun K hK => ?_)
                go_simp
                with_reducible refine (iTermAt_any sw vw ax cx kw qA qC pl _ ((Hx.out.next HBD.out).sl) (HPL.out.next HBD.out) (by omega)).mono ?_
                rintro e wpx7 ⟨ar, cr, s9, v9, k9, t9, hR, rfl, hb, hlx⟩
                rw [HAT2.out] at hR
                simp only [Prod.mk.injEq] at hR
                obtain ⟨rfl, rfl, rfl, rfl⟩ := hR
                have HLX := Lib.hid hlx
                clear hlx
                have hlo : wex6.heap.size ≤ wzx7.heap.size := HBD.out.size
                have hzl := HZ.out.lt
                replace HZ := Lib.hid (HZ.out.low hb)
                replace HBD := Lib.hid (HBD.out.trans (hb.mono hlo))
                refine hK _ _ ⟨⟨_, HBD.out⟩, rfl⟩ ?_
                clear hK K hb
                refine anyT_look (i := 6) rfl (by kernel_rfl) ⟨⟨_, HBD.out⟩, rfl⟩ (fun K hK => ?_)
                go_simp
                refine hK _ ?_
                clear hK K
                refine anyT_look (i := 7) rfl (by kernel_rfl) ⟨⟨_, HBD.out⟩, rfl⟩ (fun K hK => ?_)
                go_simp
                refine hK _ ?_
                clear hK K
                refine anyT_look (i := 8) rfl (by kernel_rfl) ⟨⟨_, HBD.out⟩, rfl⟩ (fun K hK => ?_)
                go_simp
                refine hK _ ?_
                clear hK K
                have hzz0 := HZ.out.z0
                have hzz1 := HZ.out.z1
                have hzz2 := HZ.out.z2
                have hzf0 := HZ.out.f 0
                have hzf1 := HZ.out.f 1
                have hzf2 := HZ.out.f 2
                have HFIN : Hid (Below wex6.heap.size wex6 (((wpx7.setCell ⟨wdx7.heap.size, 0, none⟩ (.int .i64 y1)).setCell ⟨wdx7.heap.size, 1, none⟩ (.int .i64 y2)).setCell ⟨wdx7.heap.size, 2, none⟩ (.slice ar (flen y3) cr)) ∧ Tb wdx7.heap.size y1 y2 ar cr y3 (((wpx7.setCell ⟨wdx7.heap.size, 0, none⟩ (.int .i64 y1)).setCell ⟨wdx7.heap.size, 1, none⟩ (.int .i64 y2)).setCell ⟨wdx7.heap.size, 2, none⟩ (.slice ar (flen y3) cr))) := zb_fin HZ.out HBD.out hbz HLX.out (Nat.le_refl _) (.inl hzl)
                refine anyT_one (i := 10) (by kernel_rfl) rfl (fun K hK => ?_)
                go_simp
                refine hK _ _ ⟨⟨_, HFIN.out.1⟩, rfl⟩ ?_
                clear hK K hzz0 hzz1 hzz2 hzf0 hzf1 hzf2
                refine anyT_one (i := 11) (by kernel_rfl) rfl (fun K hK => ?_)
                go_simp
                refine hK _ _ ⟨⟨_, HFIN.out.1⟩, rfl⟩ ?_
                clear hK K
                refine anyT_done (by kernel_rfl) ?_
                have HBE := Lib.hid HFIN.out.1
                have Hr := Lib.hid HFIN.out.2
                clear HFIN HZ HLX HBD
                generalize (((wpx7.setCell ⟨wdx7.heap.size, 0, none⟩ (.int .i64 y1)).setCell ⟨wdx7.heap.size, 1, none⟩ (.int .i64 y2)).setCell ⟨wdx7.heap.size, 2, none⟩ (.slice ar (flen y3) cr)) = wex7 at *
                have Hlow' : Hid (Below w.heap.size w wex7) := below_next Hlow.out HBE.out
                have HE' : Hid (ESl wex7 0 wex7.heap.size A es) := HE.out.next HBE.out
                have HP' : Hid (ISc wex7 0 wex7.heap.size pA pC place) := HP.out.next HBE.out
                have HBS' : Hid (BSl wex7 0 wex7.heap.size B bs) := HBS.out.next HBE.out
                have Ht' : Hid (Tb wa.heap.size s v a c k wex7) := Ht.out.next HBE.out
                have Hl' : Hid (Lb (wa.heap.size + 1) eq back pA pC place B D bs wex7) := Hl.out.next HBE.out
                have Hx' : Hid (Tb wx2.heap.size sw vw ax cx kw wex7) := Hx.out.next HBE.out
                have HRS' : Hid (RSl wex7 0 wex7.heap.size (some ⟨rb, ro, none⟩) (places k)) := HRS.out.next HBE.out
                have HPL' : Hid (ISl wex7 0 wex7.heap.size qA pl) := HPL.out.next HBE.out
                have HC' : Hid (wex7.cell? ⟨rb, ro + j, none⟩ = some (.slice qA pl.length qC)) := cell_low HBE.out HC.out
                have Hq' : Hid (Tb wpx6.heap.size y1 y2 aq cq y3 wex7) := Hq.out.next HBE.out
                clear Hlow HE HP HBS Ht Hl Hx HRS HPL HC Hq
                have Hlow := Hlow'
                clear Hlow'
                have HE := HE'
                clear HE'
                have HP := HP'
                clear HP'
                have HBS := HBS'
                clear HBS'
                have Ht := Ht'
                clear Ht'
                have Hl := Hl'
                clear Hl'
                have Hx := Hx'
                clear Hx'
                have HRS := HRS'
                clear HRS'
                have HPL := HPL'
                clear HPL'
                have HC := HC'
                clear HC'
                have Hq := Hq'
                clear Hq'
                clear HBE
                have qq0 := Hq.out.c0
                have qq1 := Hq.out.c1
                have qq2 := Hq.out.c2
                have qr0 := Hr.out.c0
                have qr1 := Hr.out.c1
                have qr2 := Hr.out.c2
                go_wp2_with fail
                with_reducible refine (laTerm_same (fsz y3) y1 y2 aq ar cq cr y3 _ Hq.out.sl Hr.out.sl (Nat.le_refl _) (by omega)).mono ?_
                rintro e wx8 ⟨rfl, hb⟩
                clear qq0 qq1 qq2 qr0 qr1 qr2
                have Hlow' : Hid (Below w.heap.size w wx8) := below_next Hlow.out hb
                have HE' : Hid (ESl wx8 0 wx8.heap.size A es) := HE.out.next hb
                have HP' : Hid (ISc wx8 0 wx8.heap.size pA pC place) := HP.out.next hb
                have HBS' : Hid (BSl wx8 0 wx8.heap.size B bs) := HBS.out.next hb
                have Ht' : Hid (Tb wa.heap.size s v a c k wx8) := Ht.out.next hb
                have Hl' : Hid (Lb (wa.heap.size + 1) eq back pA pC place B D bs wx8) := Hl.out.next hb
                have Hx' : Hid (Tb wx2.heap.size sw vw ax cx kw wx8) := Hx.out.next hb
                have HRS' : Hid (RSl wx8 0 wx8.heap.size (some ⟨rb, ro, none⟩) (places k)) := HRS.out.next hb
                have HPL' : Hid (ISl wx8 0 wx8.heap.size qA pl) := HPL.out.next hb
                have HC' : Hid (wx8.cell? ⟨rb, ro + j, none⟩ = some (.slice qA pl.length qC)) := cell_low hb HC.out
                have Hq' : Hid (Tb wpx6.heap.size y1 y2 aq cq y3 wx8) := Hq.out.next hb
                have Hr' : Hid (Tb wdx7.heap.size y1 y2 ar cr y3 wx8) := Hr.out.next hb
                clear Hlow HE HP HBS Ht Hl Hx HRS HPL HC Hq Hr
                have Hlow := Hlow'
                clear Hlow'
                have HE := HE'
                clear HE'
                have HP := HP'
                clear HP'
                have HBS := HBS'
                clear HBS'
                have Ht := Ht'
                clear Ht'
                have Hl := Hl'
                clear Hl'
                have Hx := Hx'
                clear Hx'
                have HRS := HRS'
                clear HRS'
                have HPL := HPL'
                clear HPL'
                have HC := HC'
                clear HC'
                have Hq := Hq'
                clear Hq'
                have Hr := Hr'
                clear Hr'
                clear hb
                go_wp2_with fail
                go_roundw
                case rel => exact ⟨j + 1, by go_num, by omega, Hlow, HE, HP, HBS, Ht, Hl, Hx, HRS⟩
                case measure => simp [intOf]; omega
            · go_simp
              have HZ := Lib.hid (zb_new wdx6)
              have hbz : wq.heap.size ≤ wdx6.heap.size := HBD.out.size
              have hbe : Below wdx6.heap.size wdx6 (wdx6.alloc (.cells #[.int .i64 0, .int .i64 0, .slice none 0 0] 35)) := (Below.refl _ _).alloc (Nat.le_refl _) _
              replace HBD := Lib.hid (HBD.out.trans (hbe.mono hbz))
              refine hK _ _ ⟨⟨_, HBD.out⟩, rfl⟩ ?_
              clear hK K hbe
              generalize wdx6.alloc (.cells #[.int .i64 0, .int .i64 0, .slice none 0 0] 35) = wzx6 at *
              refine anyT_one (i := 5) (by kernel_rfl) rfl (fun K hK => ?_)
              go_simp
              with_reducible refine (iTermAt_any s v a c k qA qC pl _ ((Ht.out.next HBD.out).sl) (HPL.out.next HBD.out) (by omega)).mono ?_
              rintro e wpx6 ⟨aq, cq, s9, v9, k9, t9, hR, rfl, hb, hlx⟩
              rw [HAT1.out] at hR
              simp only [Prod.mk.injEq] at hR
              obtain ⟨rfl, rfl, rfl, rfl⟩ := hR
              have HLX := Lib.hid hlx
              clear hlx
              have hlo : wq.heap.size ≤ wzx6.heap.size := HBD.out.size
              have hzl := HZ.out.lt
              replace HZ := Lib.hid (HZ.out.low hb)
              replace HBD := Lib.hid (HBD.out.trans (hb.mono hlo))
              refine hK _ _ ⟨⟨_, HBD.out⟩, rfl⟩ ?_
              clear hK K hb
              refine anyT_look (i := 6) rfl (by kernel_rfl) ⟨⟨_, HBD.out⟩, rfl⟩ (fun K hK => ?_)
              go_simp
              refine hK _ ?_
              clear hK K
              refine anyT_look (i := 7) rfl (by kernel_rfl) ⟨⟨_, HBD.out⟩, rfl⟩ (fun K hK => ?_)
              go_simp
              refine hK _ ?_
              clear hK K
              refine anyT_look (i := 8) rfl (by kernel_rfl) ⟨⟨_, HBD.out⟩, rfl⟩ (fun K hK => ?_)
              go_simp
              refine hK _ ?_
              clear hK K
              have hzz0 := HZ.out.z0
              have hzz1 := HZ.out.z1
              have hzz2 := HZ.out.z2
              have hzf0 := HZ.out.f 0
              have hzf1 := HZ.out.f 1
              have hzf2 := HZ.out.f 2
              have HFIN : Hid (Below wq.heap.size wq (((wpx6.setCell ⟨wdx6.heap.size, 0, none⟩ (.int .i64 y1)).setCell ⟨wdx6.heap.size, 1, none⟩ (.int .i64 y2)).setCell ⟨wdx6.heap.size, 2, none⟩ (.slice aq (flen y3) cq)) ∧ Tb wdx6.heap.size y1 y2 aq cq y3 (((wpx6.setCell ⟨wdx6.heap.size, 0, none⟩ (.int .i64 y1)).setCell ⟨wdx6.heap.size, 1, none⟩ (.int .i64 y2)).setCell ⟨wdx6.heap.size, 2, none⟩ (.slice aq (flen y3) cq))) := zb_fin HZ.out HBD.out hbz HLX.out (Nat.le_refl _) (.inl hzl)
              refine anyT_one (i := 10) (by kernel_rfl) rfl (fun K hK => ?_)
              go_simp
              refine hK _ _ ⟨⟨_, HFIN.out.1⟩, rfl⟩ ?_
              clear hK K hzz0 hzz1 hzz2 hzf0 hzf1 hzf2
              refine anyT_one (i := 11) (by kernel_rfl) rfl (fun K hK => ?_)
              go_simp
              refine hK _ _ ⟨⟨_, HFIN.out.1⟩, rfl⟩ ?_
              clear hK K
              refine anyT_done (by kernel_rfl) ?_
              have HBE := Lib.hid HFIN.out.1
              have Hq := Lib.hid HFIN.out.2
              clear HFIN HZ HLX HBD
              generalize (((wpx6.setCell ⟨wdx6.heap.size, 0, none⟩ (.int .i64 y1)).setCell ⟨wdx6.heap.size, 1, none⟩ (.int .i64 y2)).setCell ⟨wdx6.heap.size, 2, none⟩ (.slice aq (flen y3) cq)) = wex6 at *
              have Hlow' : Hid (Below w.heap.size w wex6) := below_next Hlow.out HBE.out
              have HE' : Hid (ESl wex6 0 wex6.heap.size A es) := HE.out.next HBE.out
              have HP' : Hid (ISc wex6 0 wex6.heap.size pA pC place) := HP.out.next HBE.out
              have HBS' : Hid (BSl wex6 0 wex6.heap.size B bs) := HBS.out.next HBE.out
              have Ht' : Hid (Tb wa.heap.size s v a c k wex6) := Ht.out.next HBE.out
              have Hl' : Hid (Lb (wa.heap.size + 1) eq back pA pC place B D bs wex6) := Hl.out.next HBE.out
              have Hx' : Hid (Tb wx2.heap.size sw vw ax cx kw wex6) := Hx.out.next HBE.out
              have HRS' : Hid (RSl wex6 0 wex6.heap.size (some ⟨rb, ro, none⟩) (places k)) := HRS.out.next HBE.out
              have HPL' : Hid (ISl wex6 0 wex6.heap.size qA pl) := HPL.out.next HBE.out
              have HC' : Hid (wex6.cell? ⟨rb, ro + j, none⟩ = some (.slice qA pl.length qC)) := cell_low HBE.out HC.out
              clear Hlow HE HP HBS Ht Hl Hx HRS HPL HC
              have Hlow := Hlow'
              clear Hlow'
              have HE := HE'
              clear HE'
              have HP := HP'
              clear HP'
              have HBS := HBS'
              clear HBS'
              have Ht := Ht'
              clear Ht'
              have Hl := Hl'
              clear Hl'
              have Hx := Hx'
              clear Hx'
              have HRS := HRS'
              clear HRS'
              have HPL := HPL'
              clear HPL'
              have HC := HC'
              clear HC'
              clear HBE
              go_wp2_with fail
              have hu0 : ∀ u : After wex6.heap.size wex6, u.world.cell? ⟨wx2.heap.size, 0, none⟩ = some (.int .i64 sw) := fun u => cell_low u.below Hx.out.c0
              have hu1 : ∀ u : After wex6.heap.size wex6, u.world.cell? ⟨wx2.heap.size, 1, none⟩ = some (.int .i64 vw) := fun u => cell_low u.below Hx.out.c1
              have hu2 : ∀ u : After wex6.heap.size wex6, u.world.cell? ⟨wx2.heap.size, 2, none⟩ = some (.slice ax (flen kw) cx) := fun u => cell_low u.below Hx.out.c2
              have hu3 : ∀ u : After wex6.heap.size wex6, u.world.cell? ⟨rb, ro + j, none⟩ = some (.slice qA pl.length qC) := fun u => cell_low u.below HC.out
              go_wp2_with fail
              refine wp_region_anyT (fun w' => ∃ u : After wex6.heap.size wex6, w' = u.world) (by kernel_rfl) ?_
              have HBD : Hid (Below wex6.heap.size wex6 wex6.drew) := (Below.refl _ _).drew
              generalize wex6.drew = wdx7 at *
              refine anyT_look (i := 0) rfl (by kernel_rfl) ⟨⟨_, HBD.out⟩, rfl⟩ (fun K hK => ?_)
              go_simp
              refine hK _ ?_
              clear hK K
              refine anyT_look (i := 1) rfl (by kernel_rfl) ⟨⟨_, HBD.out⟩, rfl⟩ (fun K hK => ?_)
              go_simp
              refine hK _ ?_
              clear hK K
              refine anyT_look (i := 2) rfl (by kernel_rfl) ⟨⟨_, HBD.out⟩, rfl⟩ (fun K hK => ?_)
              go_simp
              refine hK _ ?_
              clear hK K
              refine anyT_look (i := 3) rfl (by kernel_rfl) ⟨⟨_, HBD.out⟩, rfl⟩ (fun K hK => ?_)
              go_simp
              refine hK _ ?_
              clear hK K
              refine anyT_look (i := 4) rfl (by kernel_rfl) ⟨⟨_, HBD.out⟩, rfl⟩ (fun K hK => ?_)
              go_simp
              refine hK _ ?_
              clear hK K
              clear hu0 hu1 hu2 hu3
              refine anyT_two (i := 5) (j := 9) (by kernel_rfl) rfl rfl (fun K hK => ?_) (fun K hK => ?_)
              · go_simp
                with_reducible refine (iTermAt_any sw vw ax cx kw qA qC pl _ ((Hx.out.next HBD.out).sl) (HPL.out.next HBD.out) (by omega)).mono ?_
                rintro e wpx7 ⟨ar, cr, s9, v9, k9, t9, hR, rfl, hb, hlx⟩
                rw [HAT2.out] at hR
                simp only [Prod.mk.injEq] at hR
                obtain ⟨rfl, rfl, rfl, rfl⟩ := hR
                have HLX := Lib.hid hlx
                clear hlx
                have hlo : wex6.heap.size ≤ wdx7.heap.size := HBD.out.size
                replace HBD := Lib.hid (HBD.out.trans (hb.mono hlo))
                refine hK _ _ ⟨⟨_, HBD.out⟩, rfl⟩ ?_
                clear hK K hb
                refine anyT_look (i := 6) rfl (by kernel_rfl) ⟨⟨_, HBD.out⟩, rfl⟩ (fun K hK => ?_)
                go_simp
                refine hK _ ?_
                clear hK K
                refine anyT_look (i := 7) rfl (by kernel_rfl) ⟨⟨_, HBD.out⟩, rfl⟩ (fun K hK => ?_)
                go_simp
                refine hK _ ?_
                clear hK K
                refine anyT_look (i := 8) rfl (by kernel_rfl) ⟨⟨_, HBD.out⟩, rfl⟩ (fun K hK => ?_)
                go_simp
                refine hK _ ?_
                clear hK K
                refine anyT_one (i := 9) (by kernel_rfl) rfl (fun K hK => ?_)
                go_simp
                have HZ := Lib.hid (zb_new wpx7)
                have hbz : wex6.heap.size ≤ wpx7.heap.size := HBD.out.size
                have hbe : Below wpx7.heap.size wpx7 (wpx7.alloc (.cells #[.int .i64 0, .int .i64 0, .slice none 0 0] 35)) := (Below.refl _ _).alloc (Nat.le_refl _) _
                replace HLX := Lib.hid (HLX.out.below hbe)
                replace HBD := Lib.hid (HBD.out.trans (hbe.mono hbz))
                refine hK _ _ ⟨⟨_, HBD.out⟩, rfl⟩ ?_
                have hze := hbe.size
                clear hK K hbe
                generalize wpx7.alloc (.cells #[.int .i64 0, .int .i64 0, .slice none 0 0] 35) = wzx7 at *
                have hzz0 := HZ.out.z0
                have hzz1 := HZ.out.z1
                have hzz2 := HZ.out.z2
                have hzf0 := HZ.out.f 0
                have hzf1 := HZ.out.f 1
                have hzf2 := HZ.out.f 2
                have HFIN : Hid (Below wex6.heap.size wex6 (((wzx7.setCell ⟨wpx7.heap.size, 0, none⟩ (.int .i64 y1)).setCell ⟨wpx7.heap.size, 1, none⟩ (.int .i64 y2)).setCell ⟨wpx7.heap.size, 2, none⟩ (.slice ar (flen y3) cr)) ∧ Tb wpx7.heap.size y1 y2 ar cr y3 (((wzx7.setCell ⟨wpx7.heap.size, 0, none⟩ (.int .i64 y1)).setCell ⟨wpx7.heap.size, 1, none⟩ (.int .i64 y2)).setCell ⟨wpx7.heap.size, 2, none⟩ (.slice ar (flen y3) cr))) := zb_fin HZ.out HBD.out hbz HLX.out hze (.inr (Nat.le_refl _))
                refine anyT_one (i := 10) (by kernel_rfl) rfl (fun K hK => ?_)
                go_simp
                refine hK _ _ ⟨⟨_, HFIN.out.1⟩, rfl⟩ ?_
                clear hK K hzz0 hzz1 hzz2 hzf0 hzf1 hzf2
                refine anyT_one (i := 11) (by kernel_rfl) rfl (fun K hK => ?_)
                go_simp
                refine hK _ _ ⟨⟨_, HFIN.out.1⟩, rfl⟩ ?_
                clear hK K
                refine anyT_done (by kernel_rfl) ?_
                have HBE := Lib.hid HFIN.out.1
                have Hr := Lib.hid HFIN.out.2
                clear HFIN HZ HLX HBD
                generalize (((wzx7.setCell ⟨wpx7.heap.size, 0, none⟩ (.int .i64 y1)).setCell ⟨wpx7.heap.size, 1, none⟩ (.int .i64 y2)).setCell ⟨wpx7.heap.size, 2, none⟩ (.slice ar (flen y3) cr)) = wex7 at *
                have Hlow' : Hid (Below w.heap.size w wex7) := below_next Hlow.out HBE.out
                have HE' : Hid (ESl wex7 0 wex7.heap.size A es) := HE.out.next HBE.out
                have HP' : Hid (ISc wex7 0 wex7.heap.size pA pC place) := HP.out.next HBE.out
                have HBS' : Hid (BSl wex7 0 wex7.heap.size B bs) := HBS.out.next HBE.out
                have Ht' : Hid (Tb wa.heap.size s v a c k wex7) := Ht.out.next HBE.out
                have Hl' : Hid (Lb (wa.heap.size + 1) eq back pA pC place B D bs wex7) := Hl.out.next HBE.out
                have Hx' : Hid (Tb wx2.heap.size sw vw ax cx kw wex7) := Hx.out.next HBE.out
                have HRS' : Hid (RSl wex7 0 wex7.heap.size (some ⟨rb, ro, none⟩) (places k)) := HRS.out.next HBE.out
                have HPL' : Hid (ISl wex7 0 wex7.heap.size qA pl) := HPL.out.next HBE.out
                have HC' : Hid (wex7.cell? ⟨rb, ro + j, none⟩ = some (.slice qA pl.length qC)) := cell_low HBE.out HC.out
                have Hq' : Hid (Tb wdx6.heap.size y1 y2 aq cq y3 wex7) := Hq.out.next HBE.out
                clear Hlow HE HP HBS Ht Hl Hx HRS HPL HC Hq
                have Hlow := Hlow'
                clear Hlow'
                have HE := HE'
                clear HE'
                have HP := HP'
                clear HP'
                have HBS := HBS'
                clear HBS'
                have Ht := Ht'
                clear Ht'
                have Hl := Hl'
                clear Hl'
                have Hx := Hx'
                clear Hx'
                have HRS := HRS'
                clear HRS'
                have HPL := HPL'
                clear HPL'
                have HC := HC'
                clear HC'
                have Hq := Hq'
                clear Hq'
                clear HBE
                have qq0 := Hq.out.c0
                have qq1 := Hq.out.c1
                have qq2 := Hq.out.c2
                have qr0 := Hr.out.c0
                have qr1 := Hr.out.c1
                have qr2 := Hr.out.c2
                go_wp2_with fail
                with_reducible refine (laTerm_same (fsz y3) y1 y2 aq ar cq cr y3 _ Hq.out.sl Hr.out.sl (Nat.le_refl _) (by omega)).mono ?_
                rintro e wx8 ⟨rfl, hb⟩
                clear qq0 qq1 qq2 qr0 qr1 qr2
                have Hlow' : Hid (Below w.heap.size w wx8) := below_next Hlow.out hb
                have HE' : Hid (ESl wx8 0 wx8.heap.size A es) := HE.out.next hb
                have HP' : Hid (ISc wx8 0 wx8.heap.size pA pC place) := HP.out.next hb
                have HBS' : Hid (BSl wx8 0 wx8.heap.size B bs) := HBS.out.next hb
                have Ht' : Hid (Tb wa.heap.size s v a c k wx8) := Ht.out.next hb
                have Hl' : Hid (Lb (wa.heap.size + 1) eq back pA pC place B D bs wx8) := Hl.out.next hb
                have Hx' : Hid (Tb wx2.heap.size sw vw ax cx kw wx8) := Hx.out.next hb
                have HRS' : Hid (RSl wx8 0 wx8.heap.size (some ⟨rb, ro, none⟩) (places k)) := HRS.out.next hb
                have HPL' : Hid (ISl wx8 0 wx8.heap.size qA pl) := HPL.out.next hb
                have HC' : Hid (wx8.cell? ⟨rb, ro + j, none⟩ = some (.slice qA pl.length qC)) := cell_low hb HC.out
                have Hq' : Hid (Tb wdx6.heap.size y1 y2 aq cq y3 wx8) := Hq.out.next hb
                have Hr' : Hid (Tb wpx7.heap.size y1 y2 ar cr y3 wx8) := Hr.out.next hb
                clear Hlow HE HP HBS Ht Hl Hx HRS HPL HC Hq Hr
                have Hlow := Hlow'
                clear Hlow'
                have HE := HE'
                clear HE'
                have HP := HP'
                clear HP'
                have HBS := HBS'
                clear HBS'
                have Ht := Ht'
                clear Ht'
                have Hl := Hl'
                clear Hl'
                have Hx := Hx'
                clear Hx'
                have HRS := HRS'
                clear HRS'
                have HPL := HPL'
                clear HPL'
                have HC := HC'
                clear HC'
                have Hq := Hq'
                clear Hq'
                have Hr := Hr'
                clear Hr'
                clear hb
                go_wp2_with fail
                go_roundw
                case rel => exact ⟨j + 1, by go_num, by omega, Hlow, HE, HP, HBS, Ht, Hl, Hx, HRS⟩
                case measure => simp [intOf]; omega
              · go_simp
                have HZ := Lib.hid (zb_new wdx7)
                have hbz : wex6.heap.size ≤ wdx7.heap.size := HBD.out.size
                have hbe : Below wdx7.heap.size wdx7 (wdx7.alloc (.cells #[.int .i64 0, .int .i64 0, .slice none 0 0] 35)) := (Below.refl _ _).alloc (Nat.le_refl _) _
                replace HBD := Lib.hid (HBD.out.trans (hbe.mono hbz))
                refine hK _ _ ⟨⟨_, HBD.out⟩, rfl⟩ ?_
                clear hK K hbe
                generalize wdx7.alloc (.cells #[.int .i64 0, .int .i64 0, .slice none 0 0] 35) = wzx7 at *
                refine anyT_one (i := 5) (by kernel_rfl) rfl (fun K hK => ?_)
                go_simp
                with_reducible refine (iTermAt_any sw vw ax cx kw qA qC pl _ ((Hx.out.next HBD.out).sl) (HPL.out.next HBD.out) (by omega)).mono ?_
                rintro e wpx7 ⟨ar, cr, s9, v9, k9, t9, hR, rfl, hb, hlx⟩
                rw [HAT2.out] at hR
                simp only [Prod.mk.injEq] at hR
                obtain ⟨rfl, rfl, rfl, rfl⟩ := hR
                have HLX := Lib.hid hlx
                clear hlx
                have hlo : wex6.heap.size ≤ wzx7.heap.size := HBD.out.size
                have hzl := HZ.out.lt
                replace HZ := Lib.hid (HZ.out.low hb)
                replace HBD := Lib.hid (HBD.out.trans (hb.mono hlo))
                refine hK _ _ ⟨⟨_, HBD.out⟩, rfl⟩ ?_
                clear hK K hb
                refine anyT_look (i := 6) rfl (by kernel_rfl) ⟨⟨_, HBD.out⟩, rfl⟩ (fun K hK => ?_)
                go_simp
                refine hK _ ?_
                clear hK K
                refine anyT_look (i := 7) rfl (by kernel_rfl) ⟨⟨_, HBD.out⟩, rfl⟩ (fun K hK => ?_)
                go_simp
                refine hK _ ?_
                clear hK K
                refine anyT_look (i := 8) rfl (by kernel_rfl) ⟨⟨_, HBD.out⟩, rfl⟩ (fun K hK => ?_)
                go_simp
                refine hK _ ?_
                clear hK K
                have hzz0 := HZ.out.z0
                have hzz1 := HZ.out.z1
                have hzz2 := HZ.out.z2
                have hzf0 := HZ.out.f 0
                have hzf1 := HZ.out.f 1
                have hzf2 := HZ.out.f 2
                have HFIN : Hid (Below wex6.heap.size wex6 (((wpx7.setCell ⟨wdx7.heap.size, 0, none⟩ (.int .i64 y1)).setCell ⟨wdx7.heap.size, 1, none⟩ (.int .i64 y2)).setCell ⟨wdx7.heap.size, 2, none⟩ (.slice ar (flen y3) cr)) ∧ Tb wdx7.heap.size y1 y2 ar cr y3 (((wpx7.setCell ⟨wdx7.heap.size, 0, none⟩ (.int .i64 y1)).setCell ⟨wdx7.heap.size, 1, none⟩ (.int .i64 y2)).setCell ⟨wdx7.heap.size, 2, none⟩ (.slice ar (flen y3) cr))) := zb_fin HZ.out HBD.out hbz HLX.out (Nat.le_refl _) (.inl hzl)
                refine anyT_one (i := 10) (by kernel_rfl) rfl (fun K hK => ?_)
                go_simp
                refine hK _ _ ⟨⟨_, HFIN.out.1⟩, rfl⟩ ?_
                clear hK K hzz0 hzz1 hzz2 hzf0 hzf1 hzf2
                refine anyT_one (i := 11) (by kernel_rfl) rfl (fun K hK => ?_)
                go_simp
                refine hK _ _ ⟨⟨_, HFIN.out.1⟩, rfl⟩ ?_
                clear hK K
                refine anyT_done (by kernel_rfl) ?_
                have HBE := Lib.hid HFIN.out.1
                have Hr := Lib.hid HFIN.out.2
                clear HFIN HZ HLX HBD
                generalize (((wpx7.setCell ⟨wdx7.heap.size, 0, none⟩ (.int .i64 y1)).setCell ⟨wdx7.heap.size, 1, none⟩ (.int .i64 y2)).setCell ⟨wdx7.heap.size, 2, none⟩ (.slice ar (flen y3) cr)) = wex7 at *
                have Hlow' : Hid (Below w.heap.size w wex7) := below_next Hlow.out HBE.out
                have HE' : Hid (ESl wex7 0 wex7.heap.size A es) := HE.out.next HBE.out
                have HP' : Hid (ISc wex7 0 wex7.heap.size pA pC place) := HP.out.next HBE.out
                have HBS' : Hid (BSl wex7 0 wex7.heap.size B bs) := HBS.out.next HBE.out
                have Ht' : Hid (Tb wa.heap.size s v a c k wex7) := Ht.out.next HBE.out
                have Hl' : Hid (Lb (wa.heap.size + 1) eq back pA pC place B D bs wex7) := Hl.out.next HBE.out
                have Hx' : Hid (Tb wx2.heap.size sw vw ax cx kw wex7) := Hx.out.next HBE.out
                have HRS' : Hid (RSl wex7 0 wex7.heap.size (some ⟨rb, ro, none⟩) (places k)) := HRS.out.next HBE.out
                have HPL' : Hid (ISl wex7 0 wex7.heap.size qA pl) := HPL.out.next HBE.out
                have HC' : Hid (wex7.cell? ⟨rb, ro + j, none⟩ = some (.slice qA pl.length qC)) := cell_low HBE.out HC.out
                have Hq' : Hid (Tb wdx6.heap.size y1 y2 aq cq y3 wex7) := Hq.out.next HBE.out
                clear Hlow HE HP HBS Ht Hl Hx HRS HPL HC Hq
                have Hlow := Hlow'
                clear Hlow'
                have HE := HE'
                clear HE'
                have HP := HP'
                clear HP'
                have HBS := HBS'
                clear HBS'
                have Ht := Ht'
                clear Ht'
                have Hl := Hl'
                clear Hl'
                have Hx := Hx'
                clear Hx'
                have HRS := HRS'
                clear HRS'
                have HPL := HPL'
                clear HPL'
                have HC := HC'
                clear HC'
                have Hq := Hq'
                clear Hq'
                clear HBE
                have qq0 := Hq.out.c0
                have qq1 := Hq.out.c1
                have qq2 := Hq.out.c2
                have qr0 := Hr.out.c0
                have qr1 := Hr.out.c1
                have qr2 := Hr.out.c2
                go_wp2_with fail
                with_reducible refine (laTerm_same (fsz y3) y1 y2 aq ar cq cr y3 _ Hq.out.sl Hr.out.sl (Nat.le_refl _) (by omega)).mono ?_
                rintro e wx8 ⟨rfl, hb⟩
                clear qq0 qq1 qq2 qr0 qr1 qr2
                have Hlow' : Hid (Below w.heap.size w wx8) := below_next Hlow.out hb
                have HE' : Hid (ESl wx8 0 wx8.heap.size A es) := HE.out.next hb
                have HP' : Hid (ISc wx8 0 wx8.heap.size pA pC place) := HP.out.next hb
                have HBS' : Hid (BSl wx8 0 wx8.heap.size B bs) := HBS.out.next hb
                have Ht' : Hid (Tb wa.heap.size s v a c k wx8) := Ht.out.next hb
                have Hl' : Hid (Lb (wa.heap.size + 1) eq back pA pC place B D bs wx8) := Hl.out.next hb
                have Hx' : Hid (Tb wx2.heap.size sw vw ax cx kw wx8) := Hx.out.next hb
                have HRS' : Hid (RSl wx8 0 wx8.heap.size (some ⟨rb, ro, none⟩) (places k)) := HRS.out.next hb
                have HPL' : Hid (ISl wx8 0 wx8.heap.size qA pl) := HPL.out.next hb
                have HC' : Hid (wx8.cell? ⟨rb, ro + j, none⟩ = some (.slice qA pl.length qC)) := cell_low hb HC.out
                have Hq' : Hid (Tb wdx6.heap.size y1 y2 aq cq y3 wx8) := Hq.out.next hb
                have Hr' : Hid (Tb wdx7.heap.size y1 y2 ar cr y3 wx8) := Hr.out.next hb
                clear Hlow HE HP HBS Ht Hl Hx HRS HPL HC Hq Hr
                have Hlow := Hlow'
                clear Hlow'
                have HE := HE'
                clear HE'
                have HP := HP'
                clear HP'
                have HBS := HBS'
                clear HBS'
                have Ht := Ht'
                clear Ht'
                have Hl := Hl'
                clear Hl'
                have Hx := Hx'
                clear Hx'
                have HRS := HRS'
                clear HRS'
                have HPL := HPL'
                clear HPL'
                have HC := HC'
                clear HC'
                have Hq := Hq'
                clear Hq'
                have Hr := Hr'
                clear Hr'
                clear hb
                go_wp2_with fail
                go_roundw
                case rel => exact ⟨j + 1, by go_num, by omega, Hlow, HE, HP, HBS, Ht, Hl, Hx, HRS⟩
                case measure => simp [intOf]; omega
        · have hje : j = (places k).length := by omega
          go_wp2_with fail
          go_ret
          exact ⟨rfl, Hlow.out⟩
end Go.Proofs.Ytdkcbbhkoibplaa
