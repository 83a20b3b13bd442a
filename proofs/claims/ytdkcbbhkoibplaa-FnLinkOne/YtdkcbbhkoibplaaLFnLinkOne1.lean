/- Several texts in one: LawLOne. -/
import Derived.Test.YtdkcbbhkoibplaaKLk21
import Derived.Test.YtdkcbbhkoibplaaKLk24
import Derived.Test.YtdkcbbhkoibplaaKLk25
import Derived.Test.YtdkcbbhkoibplaaKLk16

/-! LawLOne: laws.FnLinkOne answers true at every code. -/
namespace Go.Proofs.Ytdkcbbhkoibplaa
open Go.RowKit Go.Deep
attribute [local go_sem ↓] Go.wp_at_zero Go.wp_at_succ

set_option maxRecDepth 100000 in
set_option maxHeartbeats 4000000 in
theorem linkOne_walk (a0 : Option Addr) (len cap : Nat) (w : World) (hby : Bytes w a0 len) (hlen : len ≤ cap) :
    Calls Try.prog 7 #[.slice a0 len cap] w fun e w' => e = .returned (.bool true) ∧ Below w.heap.size w w' := by
  have HBY := Lib.hid hby
  clear hby
  by_cases hbiglen : 1048576 < len
  · go_enter Try.func7, Try.ntmps7
    go_wp2_with fail
    go_ret
    exact ⟨rfl, Below.refl _ _⟩
  go_enter Try.func7, Try.ntmps7
  go_wp2_with fail
  with_reducible refine (DrawLinkDo_any a0 len cap _ HBY.out hlen).mono ?_
  rintro e wa ⟨es, A, C, s, v, a, c, k, eq, back, pA, pC, place, B, D, bs, rfl, hel, hok, hz, hpl, hbl, hb, he, hl, hpi, hbi⟩
  have Hlow := Lib.hid hb
  have HE := Lib.hid he
  have HP := Lib.hid hpi
  have HBS := Lib.hid hbi
  have HL := Lib.hid hl
  have HOKZ := Lib.hid hok
  clear hb he hl hpi hbi hok HBY
  have hbx : Below wa.heap.size wa (wa.alloc (.cells #[.int .i64 s, .int .i64 v, .slice a (flen k) c] 35)) := box_low _ _
  have Hn : Hid (Tb wa.heap.size s v a c k (wa.alloc (.cells #[.int .i64 s, .int .i64 v, .slice a (flen k) c] 35))) := Tb.new HL.out
  have Hlow' : Hid (Below w.heap.size w (wa.alloc (.cells #[.int .i64 s, .int .i64 v, .slice a (flen k) c] 35))) := below_next Hlow.out hbx
  have HE' : Hid (ESl (wa.alloc (.cells #[.int .i64 s, .int .i64 v, .slice a (flen k) c] 35)) 0 (wa.alloc (.cells #[.int .i64 s, .int .i64 v, .slice a (flen k) c] 35)).heap.size A es) := HE.out.next hbx
  have HP' : Hid (ISc (wa.alloc (.cells #[.int .i64 s, .int .i64 v, .slice a (flen k) c] 35)) 0 (wa.alloc (.cells #[.int .i64 s, .int .i64 v, .slice a (flen k) c] 35)).heap.size pA pC place) := HP.out.next hbx
  have HBS' : Hid (BSl (wa.alloc (.cells #[.int .i64 s, .int .i64 v, .slice a (flen k) c] 35)) 0 (wa.alloc (.cells #[.int .i64 s, .int .i64 v, .slice a (flen k) c] 35)).heap.size B bs) := HBS.out.next hbx
  clear Hlow HE HP HBS
  have Hlow := Hlow'
  clear Hlow'
  have HE := HE'
  clear HE'
  have HP := HP'
  clear HP'
  have HBS := HBS'
  clear HBS'
  have Ht := Hn
  clear Hn hbx
  clear HL
  have hbx : Below (wa.alloc (.cells #[.int .i64 s, .int .i64 v, .slice a (flen k) c] 35)).heap.size (wa.alloc (.cells #[.int .i64 s, .int .i64 v, .slice a (flen k) c] 35)) ((wa.alloc (.cells #[.int .i64 s, .int .i64 v, .slice a (flen k) c] 35)).alloc (.cells #[.int .i64 eq, .bool back, .slice pA place.length pC, .slice B bs.length D] 43)) := box_low _ _
  have Hn : Hid (Lb (wa.heap.size + 1) eq back pA pC place B D bs ((wa.alloc (.cells #[.int .i64 s, .int .i64 v, .slice a (flen k) c] 35)).alloc (.cells #[.int .i64 eq, .bool back, .slice pA place.length pC, .slice B bs.length D] 43))) := (show (wa.alloc (.cells #[.int .i64 s, .int .i64 v, .slice a (flen k) c] 35)).heap.size = (wa.heap.size + 1) from by simp) ▸ Lb.new HP.out HBS.out
  have Hlow' : Hid (Below w.heap.size w ((wa.alloc (.cells #[.int .i64 s, .int .i64 v, .slice a (flen k) c] 35)).alloc (.cells #[.int .i64 eq, .bool back, .slice pA place.length pC, .slice B bs.length D] 43))) := below_next Hlow.out hbx
  have HE' : Hid (ESl ((wa.alloc (.cells #[.int .i64 s, .int .i64 v, .slice a (flen k) c] 35)).alloc (.cells #[.int .i64 eq, .bool back, .slice pA place.length pC, .slice B bs.length D] 43)) 0 ((wa.alloc (.cells #[.int .i64 s, .int .i64 v, .slice a (flen k) c] 35)).alloc (.cells #[.int .i64 eq, .bool back, .slice pA place.length pC, .slice B bs.length D] 43)).heap.size A es) := HE.out.next hbx
  have HP' : Hid (ISc ((wa.alloc (.cells #[.int .i64 s, .int .i64 v, .slice a (flen k) c] 35)).alloc (.cells #[.int .i64 eq, .bool back, .slice pA place.length pC, .slice B bs.length D] 43)) 0 ((wa.alloc (.cells #[.int .i64 s, .int .i64 v, .slice a (flen k) c] 35)).alloc (.cells #[.int .i64 eq, .bool back, .slice pA place.length pC, .slice B bs.length D] 43)).heap.size pA pC place) := HP.out.next hbx
  have HBS' : Hid (BSl ((wa.alloc (.cells #[.int .i64 s, .int .i64 v, .slice a (flen k) c] 35)).alloc (.cells #[.int .i64 eq, .bool back, .slice pA place.length pC, .slice B bs.length D] 43)) 0 ((wa.alloc (.cells #[.int .i64 s, .int .i64 v, .slice a (flen k) c] 35)).alloc (.cells #[.int .i64 eq, .bool back, .slice pA place.length pC, .slice B bs.length D] 43)).heap.size B bs) := HBS.out.next hbx
  have Ht' : Hid (Tb wa.heap.size s v a c k ((wa.alloc (.cells #[.int .i64 s, .int .i64 v, .slice a (flen k) c] 35)).alloc (.cells #[.int .i64 eq, .bool back, .slice pA place.length pC, .slice B bs.length D] 43))) := Ht.out.next hbx
  clear Hlow HE HP HBS Ht
  have Hlow := Hlow'
  clear Hlow'
  have HE := HE'
  clear HE'
  have HP := HP'
  clear HP'
  have HBS := HBS'
  clear HBS'
  have Ht := Ht'
  clear Ht'
  have Hl := Hn
  clear Hn hbx
  have qt0 := Ht.out.c0
  have qt1 := Ht.out.c1
  have qt2 := Ht.out.c2
  have ql0 := Hl.out.c0
  have ql1 := Hl.out.c1
  have ql2 := Hl.out.c2
  have ql3 := Hl.out.c3
  go_wp2_with fail
  with_reducible refine (sLinkDo_any es A C s v a c k eq back pA pC place B D bs _ HE.out (by omega) Ht.out.sl Hl.out.hp (by omega) Hl.out.hb (by omega)).mono ?_
  rintro e wx1 ⟨aw, cw, sw, vw, kw, tw, hdw, rfl, hb, hlw⟩
  have HDw := Lib.hid hdw
  clear hdw
  clear qt0 qt1 qt2 ql0 ql1 ql2 ql3
  have Hlow' : Hid (Below w.heap.size w wx1) := below_next Hlow.out hb
  have HE' : Hid (ESl wx1 0 wx1.heap.size A es) := HE.out.next hb
  have HP' : Hid (ISc wx1 0 wx1.heap.size pA pC place) := HP.out.next hb
  have HBS' : Hid (BSl wx1 0 wx1.heap.size B bs) := HBS.out.next hb
  have Ht' : Hid (Tb wa.heap.size s v a c k wx1) := Ht.out.next hb
  have Hl' : Hid (Lb (wa.heap.size + 1) eq back pA pC place B D bs wx1) := Hl.out.next hb
  clear Hlow HE HP HBS Ht Hl
  have Hlow := Hlow'
  clear Hlow'
  have HE := HE'
  clear HE'
  have HP := HP'
  clear HP'
  have HBS := HBS'
  clear HBS'
  have Ht := Ht'
  clear Ht'
  have Hl := Hl'
  clear Hl'
  clear hb
  have Hlw := Lib.hid hlw
  clear hlw
  have hbx : Below wx1.heap.size wx1 (wx1.alloc (.cells #[.int .i64 sw, .int .i64 vw, .slice aw (flen kw) cw] 35)) := box_low _ _
  have Hn : Hid (Tb wx1.heap.size sw vw aw cw kw (wx1.alloc (.cells #[.int .i64 sw, .int .i64 vw, .slice aw (flen kw) cw] 35))) := Tb.new Hlw.out
  have Hlow' : Hid (Below w.heap.size w (wx1.alloc (.cells #[.int .i64 sw, .int .i64 vw, .slice aw (flen kw) cw] 35))) := below_next Hlow.out hbx
  have HE' : Hid (ESl (wx1.alloc (.cells #[.int .i64 sw, .int .i64 vw, .slice aw (flen kw) cw] 35)) 0 (wx1.alloc (.cells #[.int .i64 sw, .int .i64 vw, .slice aw (flen kw) cw] 35)).heap.size A es) := HE.out.next hbx
  have HP' : Hid (ISc (wx1.alloc (.cells #[.int .i64 sw, .int .i64 vw, .slice aw (flen kw) cw] 35)) 0 (wx1.alloc (.cells #[.int .i64 sw, .int .i64 vw, .slice aw (flen kw) cw] 35)).heap.size pA pC place) := HP.out.next hbx
  have HBS' : Hid (BSl (wx1.alloc (.cells #[.int .i64 sw, .int .i64 vw, .slice aw (flen kw) cw] 35)) 0 (wx1.alloc (.cells #[.int .i64 sw, .int .i64 vw, .slice aw (flen kw) cw] 35)).heap.size B bs) := HBS.out.next hbx
  have Ht' : Hid (Tb wa.heap.size s v a c k (wx1.alloc (.cells #[.int .i64 sw, .int .i64 vw, .slice aw (flen kw) cw] 35))) := Ht.out.next hbx
  have Hl' : Hid (Lb (wa.heap.size + 1) eq back pA pC place B D bs (wx1.alloc (.cells #[.int .i64 sw, .int .i64 vw, .slice aw (flen kw) cw] 35))) := Hl.out.next hbx
  clear Hlow HE HP HBS Ht Hl
  have Hlow := Hlow'
  clear Hlow'
  have HE := HE'
  clear HE'
  have HP := HP'
  clear HP'
  have HBS := HBS'
  clear HBS'
  have Ht := Ht'
  clear Ht'
  have Hl := Hl'
  clear Hl'
  have Hw := Hn
  clear Hn hbx
  clear Hlw
  have qt0 := Ht.out.c0
  have qt1 := Ht.out.c1
  have qt2 := Ht.out.c2
  have ql0 := Hl.out.c0
  have ql1 := Hl.out.c1
  have ql2 := Hl.out.c2
  have ql3 := Hl.out.c3
  go_wp2_with fail
  with_reducible refine (iLinkDo_any es A C s v a c k eq back pA pC place B D bs _ HE.out (by omega) Ht.out.sl Hl.out.hp (by omega) Hl.out.hb (by omega)).mono ?_
  rintro e wx2 ⟨ax, cx, sx, vx, kx, tx, hdx, rfl, hb, hlx⟩
  rw [HDw.out] at hdx
  simp only [Prod.mk.injEq] at hdx
  obtain ⟨⟨rfl, rfl, rfl⟩, rfl⟩ := hdx
  clear qt0 qt1 qt2 ql0 ql1 ql2 ql3
  have Hlow' : Hid (Below w.heap.size w wx2) := below_next Hlow.out hb
  have HE' : Hid (ESl wx2 0 wx2.heap.size A es) := HE.out.next hb
  have HP' : Hid (ISc wx2 0 wx2.heap.size pA pC place) := HP.out.next hb
  have HBS' : Hid (BSl wx2 0 wx2.heap.size B bs) := HBS.out.next hb
  have Ht' : Hid (Tb wa.heap.size s v a c k wx2) := Ht.out.next hb
  have Hl' : Hid (Lb (wa.heap.size + 1) eq back pA pC place B D bs wx2) := Hl.out.next hb
  have Hw' : Hid (Tb wx1.heap.size sw vw aw cw kw wx2) := Hw.out.next hb
  clear Hlow HE HP HBS Ht Hl Hw
  have Hlow := Hlow'
  clear Hlow'
  have HE := HE'
  clear HE'
  have HP := HP'
  clear HP'
  have HBS := HBS'
  clear HBS'
  have Ht := Ht'
  clear Ht'
  have Hl := Hl'
  clear Hl'
  have Hw := Hw'
  clear Hw'
  clear hb
  have Hlx := Lib.hid hlx
  clear hlx
  have hbx : Below wx2.heap.size wx2 (wx2.alloc (.cells #[.int .i64 sw, .int .i64 vw, .slice ax (flen kw) cx] 35)) := box_low _ _
  have Hn : Hid (Tb wx2.heap.size sw vw ax cx kw (wx2.alloc (.cells #[.int .i64 sw, .int .i64 vw, .slice ax (flen kw) cx] 35))) := Tb.new Hlx.out
  have Hlow' : Hid (Below w.heap.size w (wx2.alloc (.cells #[.int .i64 sw, .int .i64 vw, .slice ax (flen kw) cx] 35))) := below_next Hlow.out hbx
  have HE' : Hid (ESl (wx2.alloc (.cells #[.int .i64 sw, .int .i64 vw, .slice ax (flen kw) cx] 35)) 0 (wx2.alloc (.cells #[.int .i64 sw, .int .i64 vw, .slice ax (flen kw) cx] 35)).heap.size A es) := HE.out.next hbx
  have HP' : Hid (ISc (wx2.alloc (.cells #[.int .i64 sw, .int .i64 vw, .slice ax (flen kw) cx] 35)) 0 (wx2.alloc (.cells #[.int .i64 sw, .int .i64 vw, .slice ax (flen kw) cx] 35)).heap.size pA pC place) := HP.out.next hbx
  have HBS' : Hid (BSl (wx2.alloc (.cells #[.int .i64 sw, .int .i64 vw, .slice ax (flen kw) cx] 35)) 0 (wx2.alloc (.cells #[.int .i64 sw, .int .i64 vw, .slice ax (flen kw) cx] 35)).heap.size B bs) := HBS.out.next hbx
  have Ht' : Hid (Tb wa.heap.size s v a c k (wx2.alloc (.cells #[.int .i64 sw, .int .i64 vw, .slice ax (flen kw) cx] 35))) := Ht.out.next hbx
  have Hl' : Hid (Lb (wa.heap.size + 1) eq back pA pC place B D bs (wx2.alloc (.cells #[.int .i64 sw, .int .i64 vw, .slice ax (flen kw) cx] 35))) := Hl.out.next hbx
  have Hw' : Hid (Tb wx1.heap.size sw vw aw cw kw (wx2.alloc (.cells #[.int .i64 sw, .int .i64 vw, .slice ax (flen kw) cx] 35))) := Hw.out.next hbx
  clear Hlow HE HP HBS Ht Hl Hw
  have Hlow := Hlow'
  clear Hlow'
  have HE := HE'
  clear HE'
  have HP := HP'
  clear HP'
  have HBS := HBS'
  clear HBS'
  have Ht := Ht'
  clear Ht'
  have Hl := Hl'
  clear Hl'
  have Hw := Hw'
  clear Hw'
  have Hx := Hn
  clear Hn hbx
  clear Hlx
  have hkw := lk_small HDw.out
  have eb : (tw != tw) = false := by simp
  have eb2 : (tw == tw) = true := by simp
  have qt0 := Ht.out.c0
  have qt1 := Ht.out.c1
  have qt2 := Ht.out.c2
  have ql0 := Hl.out.c0
  have ql1 := Hl.out.c1
  have ql2 := Hl.out.c2
  have ql3 := Hl.out.c3
  have hbx : Below (wx2.alloc (.cells #[.int .i64 sw, .int .i64 vw, .slice ax (flen kw) cx] 35)).heap.size (wx2.alloc (.cells #[.int .i64 sw, .int .i64 vw, .slice ax (flen kw) cx] 35)) ((wx2.alloc (.cells #[.int .i64 sw, .int .i64 vw, .slice ax (flen kw) cx] 35)).alloc (.cells #[.int .i64 eq, .bool back, .slice pA place.length pC, .slice B bs.length D] 43)) := box_low _ _
  have Hm := Lib.hid (Lb.new (eq := eq) (back := back) (D := D) Hl.out.hp Hl.out.hb)
  have HROW := Lib.hid (Lb.row Hm.out (by simp))
  have HE1 := Lib.hid (HE.out.next hbx)
  have Ht1 := Lib.hid (Ht.out.next hbx)
  clear hbx
  have hc := iProofEnd_any es A C s v a c k (some ⟨(wx2.alloc (.cells #[.int .i64 sw, .int .i64 vw, .slice ax (flen kw) cx] 35)).heap.size, 0, none⟩) 1 [(eq, back, place, bs)] _ HE1.out (by omega) Ht1.out.sl HROW.out (by simp) (by intro x hx; simp only [List.mem_singleton] at hx; subst hx; exact ⟨by dsimp only; omega, by dsimp only; omega⟩)
  rw [prR_one] at hc
  dsimp only [List.length_singleton] at hc
  simp only [World.size_alloc] at hc
  have HC := Lib.hid hc
  clear hc Hm HROW HE1 Ht1
  go_wp2_with fail
  refine HC.out.mono ?_
  clear HC
  rintro e wx3 ⟨ay, cy, sy, vy, ky, ty, hdy, rfl, hb, hly⟩
  rw [HDw.out] at hdy
  simp only [Prod.mk.injEq] at hdy
  obtain ⟨⟨rfl, rfl, rfl⟩, rfl⟩ := hdy
  clear qt0 qt1 qt2 ql0 ql1 ql2 ql3
  replace hb := (box_low (wx2.alloc (.cells #[.int .i64 sw, .int .i64 vw, .slice ax (flen kw) cx] 35)) (.cells #[.int .i64 eq, .bool back, .slice pA place.length pC, .slice B bs.length D] 43)).trans (hb.mono (by simp))
  have Hlow' : Hid (Below w.heap.size w wx3) := below_next Hlow.out hb
  have HE' : Hid (ESl wx3 0 wx3.heap.size A es) := HE.out.next hb
  have HP' : Hid (ISc wx3 0 wx3.heap.size pA pC place) := HP.out.next hb
  have HBS' : Hid (BSl wx3 0 wx3.heap.size B bs) := HBS.out.next hb
  have Ht' : Hid (Tb wa.heap.size s v a c k wx3) := Ht.out.next hb
  have Hl' : Hid (Lb (wa.heap.size + 1) eq back pA pC place B D bs wx3) := Hl.out.next hb
  have Hw' : Hid (Tb wx1.heap.size sw vw aw cw kw wx3) := Hw.out.next hb
  have Hx' : Hid (Tb wx2.heap.size sw vw ax cx kw wx3) := Hx.out.next hb
  clear Hlow HE HP HBS Ht Hl Hw Hx
  have Hlow := Hlow'
  clear Hlow'
  have HE := HE'
  clear HE'
  have HP := HP'
  clear HP'
  have HBS := HBS'
  clear HBS'
  have Ht := Ht'
  clear Ht'
  have Hl := Hl'
  clear Hl'
  have Hw := Hw'
  clear Hw'
  have Hx := Hx'
  clear Hx'
  clear hb
  have Hly := Lib.hid hly
  clear hly
  have hbx : Below wx3.heap.size wx3 (wx3.alloc (.cells #[.int .i64 sw, .int .i64 vw, .slice ay (flen kw) cy] 35)) := box_low _ _
  have Hn : Hid (Tb wx3.heap.size sw vw ay cy kw (wx3.alloc (.cells #[.int .i64 sw, .int .i64 vw, .slice ay (flen kw) cy] 35))) := Tb.new Hly.out
  have Hlow' : Hid (Below w.heap.size w (wx3.alloc (.cells #[.int .i64 sw, .int .i64 vw, .slice ay (flen kw) cy] 35))) := below_next Hlow.out hbx
  have HE' : Hid (ESl (wx3.alloc (.cells #[.int .i64 sw, .int .i64 vw, .slice ay (flen kw) cy] 35)) 0 (wx3.alloc (.cells #[.int .i64 sw, .int .i64 vw, .slice ay (flen kw) cy] 35)).heap.size A es) := HE.out.next hbx
  have HP' : Hid (ISc (wx3.alloc (.cells #[.int .i64 sw, .int .i64 vw, .slice ay (flen kw) cy] 35)) 0 (wx3.alloc (.cells #[.int .i64 sw, .int .i64 vw, .slice ay (flen kw) cy] 35)).heap.size pA pC place) := HP.out.next hbx
  have HBS' : Hid (BSl (wx3.alloc (.cells #[.int .i64 sw, .int .i64 vw, .slice ay (flen kw) cy] 35)) 0 (wx3.alloc (.cells #[.int .i64 sw, .int .i64 vw, .slice ay (flen kw) cy] 35)).heap.size B bs) := HBS.out.next hbx
  have Ht' : Hid (Tb wa.heap.size s v a c k (wx3.alloc (.cells #[.int .i64 sw, .int .i64 vw, .slice ay (flen kw) cy] 35))) := Ht.out.next hbx
  have Hl' : Hid (Lb (wa.heap.size + 1) eq back pA pC place B D bs (wx3.alloc (.cells #[.int .i64 sw, .int .i64 vw, .slice ay (flen kw) cy] 35))) := Hl.out.next hbx
  have Hw' : Hid (Tb wx1.heap.size sw vw aw cw kw (wx3.alloc (.cells #[.int .i64 sw, .int .i64 vw, .slice ay (flen kw) cy] 35))) := Hw.out.next hbx
  have Hx' : Hid (Tb wx2.heap.size sw vw ax cx kw (wx3.alloc (.cells #[.int .i64 sw, .int .i64 vw, .slice ay (flen kw) cy] 35))) := Hx.out.next hbx
  clear Hlow HE HP HBS Ht Hl Hw Hx
  have Hlow := Hlow'
  clear Hlow'
  have HE := HE'
  clear HE'
  have HP := HP'
  clear HP'
  have HBS := HBS'
  clear HBS'
  have Ht := Ht'
  clear Ht'
  have Hl := Hl'
  clear Hl'
  have Hw := Hw'
  clear Hw'
  have Hx := Hx'
  clear Hx'
  have Hy := Hn
  clear Hn hbx
  clear Hly
  have qx0 := Hx.out.c0
  have qx1 := Hx.out.c1
  have qx2 := Hx.out.c2
  have qw0 := Hw.out.c0
  have qw1 := Hw.out.c1
  have qw2 := Hw.out.c2
  go_wp2_with fail
  with_reducible refine (laTerm_same (fsz kw) sw vw ax aw cx cw kw _ Hx.out.sl Hw.out.sl (Nat.le_refl _) (by omega)).mono ?_
  rintro e wx4 ⟨rfl, hb⟩
  clear qx0 qx1 qx2 qw0 qw1 qw2
  have Hlow' : Hid (Below w.heap.size w wx4) := below_next Hlow.out hb
  have HE' : Hid (ESl wx4 0 wx4.heap.size A es) := HE.out.next hb
  have HP' : Hid (ISc wx4 0 wx4.heap.size pA pC place) := HP.out.next hb
  have HBS' : Hid (BSl wx4 0 wx4.heap.size B bs) := HBS.out.next hb
  have Ht' : Hid (Tb wa.heap.size s v a c k wx4) := Ht.out.next hb
  have Hl' : Hid (Lb (wa.heap.size + 1) eq back pA pC place B D bs wx4) := Hl.out.next hb
  have Hw' : Hid (Tb wx1.heap.size sw vw aw cw kw wx4) := Hw.out.next hb
  have Hx' : Hid (Tb wx2.heap.size sw vw ax cx kw wx4) := Hx.out.next hb
  have Hy' : Hid (Tb wx3.heap.size sw vw ay cy kw wx4) := Hy.out.next hb
  clear Hlow HE HP HBS Ht Hl Hw Hx Hy
  have Hlow := Hlow'
  clear Hlow'
  have HE := HE'
  clear HE'
  have HP := HP'
  clear HP'
  have HBS := HBS'
  clear HBS'
  have Ht := Ht'
  clear Ht'
  have Hl := Hl'
  clear Hl'
  have Hw := Hw'
  clear Hw'
  have Hx := Hx'
  clear Hx'
  have Hy := Hy'
  clear Hy'
  clear hb
  have qy0 := Hy.out.c0
  have qy1 := Hy.out.c1
  have qy2 := Hy.out.c2
  have qx0 := Hx.out.c0
  have qx1 := Hx.out.c1
  have qx2 := Hx.out.c2
  go_wp2_with fail
  with_reducible refine (laTerm_same (fsz kw) sw vw ay ax cy cx kw _ Hy.out.sl Hx.out.sl (Nat.le_refl _) (by omega)).mono ?_
  rintro e wx5 ⟨rfl, hb⟩
  clear qy0 qy1 qy2 qx0 qx1 qx2
  have Hlow' : Hid (Below w.heap.size w wx5) := below_next Hlow.out hb
  have HE' : Hid (ESl wx5 0 wx5.heap.size A es) := HE.out.next hb
  have HP' : Hid (ISc wx5 0 wx5.heap.size pA pC place) := HP.out.next hb
  have HBS' : Hid (BSl wx5 0 wx5.heap.size B bs) := HBS.out.next hb
  have Ht' : Hid (Tb wa.heap.size s v a c k wx5) := Ht.out.next hb
  have Hl' : Hid (Lb (wa.heap.size + 1) eq back pA pC place B D bs wx5) := Hl.out.next hb
  have Hw' : Hid (Tb wx1.heap.size sw vw aw cw kw wx5) := Hw.out.next hb
  have Hx' : Hid (Tb wx2.heap.size sw vw ax cx kw wx5) := Hx.out.next hb
  have Hy' : Hid (Tb wx3.heap.size sw vw ay cy kw wx5) := Hy.out.next hb
  clear Hlow HE HP HBS Ht Hl Hw Hx Hy
  have Hlow := Hlow'
  clear Hlow'
  have HE := HE'
  clear HE'
  have HP := HP'
  clear HP'
  have HBS := HBS'
  clear HBS'
  have Ht := Ht'
  clear Ht'
  have Hl := Hl'
  clear Hl'
  have Hw := Hw'
  clear Hw'
  have Hx := Hx'
  clear Hx'
  have Hy := Hy'
  clear Hy'
  clear hb
  go_wp2_with fail
  go_ret
  exact ⟨rfl, Hlow.out⟩
end Go.Proofs.Ytdkcbbhkoibplaa
