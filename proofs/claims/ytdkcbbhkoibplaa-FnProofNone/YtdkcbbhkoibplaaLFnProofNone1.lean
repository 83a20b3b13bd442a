/- Several texts in one: LawPNone. -/
import Derived.Test.YtdkcbbhkoibplaaKLm28
import Derived.Test.YtdkcbbhkoibplaaKLm29
import Derived.Test.YtdkcbbhkoibplaaKLm30
import Derived.Test.YtdkcbbhkoibplaaKLm11
import Derived.Test.YtdkcbbhkoibplaaKLm18
import Derived.Test.YtdkcbbhkoibplaaKLm31

/-! LawPNone: laws.FnProofNone answers true at every code. -/
namespace Go.Proofs.Ytdkcbbhkoibplaa
open Go.RowKit Go.Deep
attribute [local go_sem ↓] Go.wp_at_zero Go.wp_at_succ

set_option maxRecDepth 100000 in
set_option maxHeartbeats 4000000 in
theorem proofNone_walk (a0 : Option Addr) (len cap : Nat) (w : World) (hby : Bytes w a0 len) (hlen : len ≤ cap) :
    Calls Try.prog 10 #[.slice a0 len cap] w fun e w' => e = .returned (.bool true) ∧ Below w.heap.size w w' := by
  have HBY := Lib.hid hby
  clear hby
  by_cases hbiglen : 1048576 < len
  · go_enter Try.func10, Try.ntmps10
    go_wp2_with fail
    go_ret
    exact ⟨rfl, Below.refl _ _⟩
  go_enter Try.func10, Try.ntmps10
  go_wp2_with fail
  with_reducible refine (DrawProofEnd_any a0 len cap _ HBY.out hlen).mono ?_
  rintro e wa ⟨es, A, C, s, v, a, c, k, ls, A2, C2, rfl, hel, hok, hz, hl5, hcap, hsm, hb, he, hl, hls⟩
  have Hlow := Lib.hid hb
  have HE := Lib.hid he
  have HLS := Lib.hid hls
  have HL := Lib.hid hl
  have HOKZ := Lib.hid hok
  have HSM : Hid (∀ x ∈ ls, x.2.2.1.length ≤ 1048576 ∧ x.2.2.2.length ≤ 1000000) := fun x hx => by have := hsm x hx; omega
  clear hb he hl hls hok HBY hsm
  have hbx : Below wa.heap.size wa (wa.alloc (.cells #[.int .i64 s, .int .i64 v, .slice a (flen k) c] 35)) := box_low _ _
  have Hn : Hid (Tb wa.heap.size s v a c k (wa.alloc (.cells #[.int .i64 s, .int .i64 v, .slice a (flen k) c] 35))) := Tb.new HL.out
  have Hlow' : Hid (Below w.heap.size w (wa.alloc (.cells #[.int .i64 s, .int .i64 v, .slice a (flen k) c] 35))) := below_next Hlow.out hbx
  have HE' : Hid (ESl (wa.alloc (.cells #[.int .i64 s, .int .i64 v, .slice a (flen k) c] 35)) 0 (wa.alloc (.cells #[.int .i64 s, .int .i64 v, .slice a (flen k) c] 35)).heap.size A es) := HE.out.next hbx
  have HLS' : Hid (LSl (wa.alloc (.cells #[.int .i64 s, .int .i64 v, .slice a (flen k) c] 35)) 0 (wa.alloc (.cells #[.int .i64 s, .int .i64 v, .slice a (flen k) c] 35)).heap.size A2 ls) := HLS.out.next hbx
  clear Hlow HE HLS
  have Hlow := Hlow'
  clear Hlow'
  have HE := HE'
  clear HE'
  have HLS := HLS'
  clear HLS'
  have Ht := Hn
  clear Hn hbx
  clear HL
  have qt0 := Ht.out.c0
  have qt1 := Ht.out.c1
  have qt2 := Ht.out.c2
  go_wp2_with fail
  with_reducible refine (sProofEnd_any es A C s v a c k A2 C2 ls _ HE.out (by omega) Ht.out.sl HLS.out (by omega) HSM.out).mono ?_
  rintro e wx1 ⟨aw, cw, sw, vw, kw, tw, hdw, rfl, hb, hlw⟩
  have HDw := Lib.hid hdw
  clear hdw
  clear qt0 qt1 qt2
  have Hlow' : Hid (Below w.heap.size w wx1) := below_next Hlow.out hb
  have HE' : Hid (ESl wx1 0 wx1.heap.size A es) := HE.out.next hb
  have HLS' : Hid (LSl wx1 0 wx1.heap.size A2 ls) := HLS.out.next hb
  have Ht' : Hid (Tb wa.heap.size s v a c k wx1) := Ht.out.next hb
  clear Hlow HE HLS Ht
  have Hlow := Hlow'
  clear Hlow'
  have HE := HE'
  clear HE'
  have HLS := HLS'
  clear HLS'
  have Ht := Ht'
  clear Ht'
  clear hb
  have Hlw := Lib.hid hlw
  clear hlw
  have hbx : Below wx1.heap.size wx1 (wx1.alloc (.cells #[.int .i64 sw, .int .i64 vw, .slice aw (flen kw) cw] 35)) := box_low _ _
  have Hn : Hid (Tb wx1.heap.size sw vw aw cw kw (wx1.alloc (.cells #[.int .i64 sw, .int .i64 vw, .slice aw (flen kw) cw] 35))) := Tb.new Hlw.out
  have Hlow' : Hid (Below w.heap.size w (wx1.alloc (.cells #[.int .i64 sw, .int .i64 vw, .slice aw (flen kw) cw] 35))) := below_next Hlow.out hbx
  have HE' : Hid (ESl (wx1.alloc (.cells #[.int .i64 sw, .int .i64 vw, .slice aw (flen kw) cw] 35)) 0 (wx1.alloc (.cells #[.int .i64 sw, .int .i64 vw, .slice aw (flen kw) cw] 35)).heap.size A es) := HE.out.next hbx
  have HLS' : Hid (LSl (wx1.alloc (.cells #[.int .i64 sw, .int .i64 vw, .slice aw (flen kw) cw] 35)) 0 (wx1.alloc (.cells #[.int .i64 sw, .int .i64 vw, .slice aw (flen kw) cw] 35)).heap.size A2 ls) := HLS.out.next hbx
  have Ht' : Hid (Tb wa.heap.size s v a c k (wx1.alloc (.cells #[.int .i64 sw, .int .i64 vw, .slice aw (flen kw) cw] 35))) := Ht.out.next hbx
  clear Hlow HE HLS Ht
  have Hlow := Hlow'
  clear Hlow'
  have HE := HE'
  clear HE'
  have HLS := HLS'
  clear HLS'
  have Ht := Ht'
  clear Ht'
  have Hw := Hn
  clear Hn hbx
  clear Hlw
  have qt0 := Ht.out.c0
  have qt1 := Ht.out.c1
  have qt2 := Ht.out.c2
  go_wp2_with fail
  with_reducible refine (iProofEnd_any es A C s v a c k A2 C2 ls _ HE.out (by omega) Ht.out.sl HLS.out (by omega) HSM.out).mono ?_
  rintro e wx2 ⟨ax, cx, sx, vx, kx, tx, hdx, rfl, hb, hlx⟩
  rw [HDw.out] at hdx
  simp only [Prod.mk.injEq] at hdx
  obtain ⟨⟨rfl, rfl, rfl⟩, rfl⟩ := hdx
  clear qt0 qt1 qt2
  have Hlow' : Hid (Below w.heap.size w wx2) := below_next Hlow.out hb
  have HE' : Hid (ESl wx2 0 wx2.heap.size A es) := HE.out.next hb
  have HLS' : Hid (LSl wx2 0 wx2.heap.size A2 ls) := HLS.out.next hb
  have Ht' : Hid (Tb wa.heap.size s v a c k wx2) := Ht.out.next hb
  have Hw' : Hid (Tb wx1.heap.size sw vw aw cw kw wx2) := Hw.out.next hb
  clear Hlow HE HLS Ht Hw
  have Hlow := Hlow'
  clear Hlow'
  have HE := HE'
  clear HE'
  have HLS := HLS'
  clear HLS'
  have Ht := Ht'
  clear Ht'
  have Hw := Hw'
  clear Hw'
  clear hb
  have Hlx := Lib.hid hlx
  clear hlx
  have hbx : Below wx2.heap.size wx2 (wx2.alloc (.cells #[.int .i64 sw, .int .i64 vw, .slice ax (flen kw) cx] 35)) := box_low _ _
  have Hn : Hid (Tb wx2.heap.size sw vw ax cx kw (wx2.alloc (.cells #[.int .i64 sw, .int .i64 vw, .slice ax (flen kw) cx] 35))) := Tb.new Hlx.out
  have Hlow' : Hid (Below w.heap.size w (wx2.alloc (.cells #[.int .i64 sw, .int .i64 vw, .slice ax (flen kw) cx] 35))) := below_next Hlow.out hbx
  have HE' : Hid (ESl (wx2.alloc (.cells #[.int .i64 sw, .int .i64 vw, .slice ax (flen kw) cx] 35)) 0 (wx2.alloc (.cells #[.int .i64 sw, .int .i64 vw, .slice ax (flen kw) cx] 35)).heap.size A es) := HE.out.next hbx
  have HLS' : Hid (LSl (wx2.alloc (.cells #[.int .i64 sw, .int .i64 vw, .slice ax (flen kw) cx] 35)) 0 (wx2.alloc (.cells #[.int .i64 sw, .int .i64 vw, .slice ax (flen kw) cx] 35)).heap.size A2 ls) := HLS.out.next hbx
  have Ht' : Hid (Tb wa.heap.size s v a c k (wx2.alloc (.cells #[.int .i64 sw, .int .i64 vw, .slice ax (flen kw) cx] 35))) := Ht.out.next hbx
  have Hw' : Hid (Tb wx1.heap.size sw vw aw cw kw (wx2.alloc (.cells #[.int .i64 sw, .int .i64 vw, .slice ax (flen kw) cx] 35))) := Hw.out.next hbx
  clear Hlow HE HLS Ht Hw
  have Hlow := Hlow'
  clear Hlow'
  have HE := HE'
  clear HE'
  have HLS := HLS'
  clear HLS'
  have Ht := Ht'
  clear Ht'
  have Hw := Hw'
  clear Hw'
  have Hx := Hn
  clear Hn hbx
  clear Hlx
  have hkw := pr_small HDw.out (by dsimp only; omega)
  have eb : (tw != tw) = false := by simp
  have eb2 : (tw == tw) = true := by simp
  have HO64 : Hid (okT3 64 (s, v, k) = true) := (okW_iff _ _ _ _).2 ⟨HOKZ.out.1, HOKZ.out.2.1, by have := hz; dsimp only; omega⟩
  cases hes : okEs es with
  | false =>
    have HES := Lib.hid hes
    clear hes
    have qt0 := Ht.out.c0
    have qt1 := Ht.out.c1
    have qt2 := Ht.out.c2
    have hcc := fun (u : World) (h1 : ESl u 0 u.heap.size A es) (h2 : Sl u 0 u.heap.size a k) => iProofEnd_any es A C s v a c k none 0 [] u h1 (by omega) h2 (.inl rfl) (by simp) (by intro x hx; simp at hx)
    dsimp only [List.length_nil] at hcc
    have HCC := Lib.hid hcc
    clear hcc
    have HPN : Hid (prR es (s, v, k) [] = none) := prR_bad (.inl HES.out)
    go_wp2_with fail
    refine (HCC.out _ HE.out Ht.out.sl).mono ?_
    rw [HPN.out]
    rintro e wx3 ⟨ay, cy, sy, vy, ky, ty, hdy, rfl, hb, hly⟩
    simp only [ansR, t0, Prod.mk.injEq] at hdy
    obtain ⟨⟨rfl, rfl, rfl⟩, rfl⟩ := hdy
    clear HCC
    clear qt0 qt1 qt2
    have Hlow' : Hid (Below w.heap.size w wx3) := below_next Hlow.out hb
    have HE' : Hid (ESl wx3 0 wx3.heap.size A es) := HE.out.next hb
    have HLS' : Hid (LSl wx3 0 wx3.heap.size A2 ls) := HLS.out.next hb
    have Ht' : Hid (Tb wa.heap.size s v a c k wx3) := Ht.out.next hb
    have Hw' : Hid (Tb wx1.heap.size sw vw aw cw kw wx3) := Hw.out.next hb
    have Hx' : Hid (Tb wx2.heap.size sw vw ax cx kw wx3) := Hx.out.next hb
    clear Hlow HE HLS Ht Hw Hx
    have Hlow := Hlow'
    clear Hlow'
    have HE := HE'
    clear HE'
    have HLS := HLS'
    clear HLS'
    have Ht := Ht'
    clear Ht'
    have Hw := Hw'
    clear Hw'
    have Hx := Hx'
    clear Hx'
    clear hb
    have Hly := Lib.hid hly
    clear hly
    have hbx : Below wx3.heap.size wx3 (wx3.alloc (.cells #[.int .i64 0, .int .i64 0, .slice ay (flen (.nil : Fo)) cy] 35)) := box_low _ _
    have Hn : Hid (Tb wx3.heap.size 0 0 ay cy (.nil : Fo) (wx3.alloc (.cells #[.int .i64 0, .int .i64 0, .slice ay (flen (.nil : Fo)) cy] 35))) := Tb.new Hly.out
    have Hlow' : Hid (Below w.heap.size w (wx3.alloc (.cells #[.int .i64 0, .int .i64 0, .slice ay (flen (.nil : Fo)) cy] 35))) := below_next Hlow.out hbx
    have HE' : Hid (ESl (wx3.alloc (.cells #[.int .i64 0, .int .i64 0, .slice ay (flen (.nil : Fo)) cy] 35)) 0 (wx3.alloc (.cells #[.int .i64 0, .int .i64 0, .slice ay (flen (.nil : Fo)) cy] 35)).heap.size A es) := HE.out.next hbx
    have HLS' : Hid (LSl (wx3.alloc (.cells #[.int .i64 0, .int .i64 0, .slice ay (flen (.nil : Fo)) cy] 35)) 0 (wx3.alloc (.cells #[.int .i64 0, .int .i64 0, .slice ay (flen (.nil : Fo)) cy] 35)).heap.size A2 ls) := HLS.out.next hbx
    have Ht' : Hid (Tb wa.heap.size s v a c k (wx3.alloc (.cells #[.int .i64 0, .int .i64 0, .slice ay (flen (.nil : Fo)) cy] 35))) := Ht.out.next hbx
    have Hw' : Hid (Tb wx1.heap.size sw vw aw cw kw (wx3.alloc (.cells #[.int .i64 0, .int .i64 0, .slice ay (flen (.nil : Fo)) cy] 35))) := Hw.out.next hbx
    have Hx' : Hid (Tb wx2.heap.size sw vw ax cx kw (wx3.alloc (.cells #[.int .i64 0, .int .i64 0, .slice ay (flen (.nil : Fo)) cy] 35))) := Hx.out.next hbx
    clear Hlow HE HLS Ht Hw Hx
    have Hlow := Hlow'
    clear Hlow'
    have HE := HE'
    clear HE'
    have HLS := HLS'
    clear HLS'
    have Ht := Ht'
    clear Ht'
    have Hw := Hw'
    clear Hw'
    have Hx := Hx'
    clear Hx'
    have Hy := Hn
    clear Hn hbx
    clear Hly
    have qx0 := Hx.out.c0
    have qx1 := Hx.out.c1
    have qx2 := Hx.out.c2
    have qw0 := Hw.out.c0
    have qw1 := Hw.out.c1
    have qw2 := Hw.out.c2
    go_wp2_with fail
    with_reducible refine (laTerm_same (fsz kw) sw vw ax aw cx cw kw _ Hx.out.sl Hw.out.sl (Nat.le_refl _) (by omega)).mono ?_
    rintro e wx4 ⟨rfl, hb⟩
    clear qx0 qx1 qx2 qw0 qw1 qw2
    have Hlow' : Hid (Below w.heap.size w wx4) := below_next Hlow.out hb
    have HE' : Hid (ESl wx4 0 wx4.heap.size A es) := HE.out.next hb
    have HLS' : Hid (LSl wx4 0 wx4.heap.size A2 ls) := HLS.out.next hb
    have Ht' : Hid (Tb wa.heap.size s v a c k wx4) := Ht.out.next hb
    have Hw' : Hid (Tb wx1.heap.size sw vw aw cw kw wx4) := Hw.out.next hb
    have Hx' : Hid (Tb wx2.heap.size sw vw ax cx kw wx4) := Hx.out.next hb
    have Hy' : Hid (Tb wx3.heap.size 0 0 ay cy (.nil : Fo) wx4) := Hy.out.next hb
    clear Hlow HE HLS Ht Hw Hx Hy
    have Hlow := Hlow'
    clear Hlow'
    have HE := HE'
    clear HE'
    have HLS := HLS'
    clear HLS'
    have Ht := Ht'
    clear Ht'
    have Hw := Hw'
    clear Hw'
    have Hx := Hx'
    clear Hx'
    have Hy := Hy'
    clear Hy'
    clear hb
    go_wp2_with fail
    with_reducible refine (sEqsOk_any es A C _ HE.out (by omega)).mono ?_
    rw [HES.out]
    rintro e wx5 ⟨rfl, hb⟩
    have Hlow' : Hid (Below w.heap.size w wx5) := below_next Hlow.out hb
    have HE' : Hid (ESl wx5 0 wx5.heap.size A es) := HE.out.next hb
    have HLS' : Hid (LSl wx5 0 wx5.heap.size A2 ls) := HLS.out.next hb
    have Ht' : Hid (Tb wa.heap.size s v a c k wx5) := Ht.out.next hb
    have Hw' : Hid (Tb wx1.heap.size sw vw aw cw kw wx5) := Hw.out.next hb
    have Hx' : Hid (Tb wx2.heap.size sw vw ax cx kw wx5) := Hx.out.next hb
    have Hy' : Hid (Tb wx3.heap.size 0 0 ay cy (.nil : Fo) wx5) := Hy.out.next hb
    clear Hlow HE HLS Ht Hw Hx Hy
    have Hlow := Hlow'
    clear Hlow'
    have HE := HE'
    clear HE'
    have HLS := HLS'
    clear HLS'
    have Ht := Ht'
    clear Ht'
    have Hw := Hw'
    clear Hw'
    have Hx := Hx'
    clear Hx'
    have Hy := Hy'
    clear Hy'
    clear hb
    go_wp2_with fail
    with_reducible refine (iEqsOk_any es A C _ HE.out (by omega)).mono ?_
    rw [HES.out]
    rintro e wx6 ⟨rfl, hb⟩
    have Hlow' : Hid (Below w.heap.size w wx6) := below_next Hlow.out hb
    have HE' : Hid (ESl wx6 0 wx6.heap.size A es) := HE.out.next hb
    have HLS' : Hid (LSl wx6 0 wx6.heap.size A2 ls) := HLS.out.next hb
    have Ht' : Hid (Tb wa.heap.size s v a c k wx6) := Ht.out.next hb
    have Hw' : Hid (Tb wx1.heap.size sw vw aw cw kw wx6) := Hw.out.next hb
    have Hx' : Hid (Tb wx2.heap.size sw vw ax cx kw wx6) := Hx.out.next hb
    have Hy' : Hid (Tb wx3.heap.size 0 0 ay cy (.nil : Fo) wx6) := Hy.out.next hb
    clear Hlow HE HLS Ht Hw Hx Hy
    have Hlow := Hlow'
    clear Hlow'
    have HE := HE'
    clear HE'
    have HLS := HLS'
    clear HLS'
    have Ht := Ht'
    clear Ht'
    have Hw := Hw'
    clear Hw'
    have Hx := Hx'
    clear Hx'
    have Hy := Hy'
    clear Hy'
    clear hb
    go_wp2_with fail
    with_reducible refine (sEqsOk_any es A C _ HE.out (by omega)).mono ?_
    rw [HES.out]
    rintro e wx7 ⟨rfl, hb⟩
    have Hlow' : Hid (Below w.heap.size w wx7) := below_next Hlow.out hb
    have HE' : Hid (ESl wx7 0 wx7.heap.size A es) := HE.out.next hb
    have HLS' : Hid (LSl wx7 0 wx7.heap.size A2 ls) := HLS.out.next hb
    have Ht' : Hid (Tb wa.heap.size s v a c k wx7) := Ht.out.next hb
    have Hw' : Hid (Tb wx1.heap.size sw vw aw cw kw wx7) := Hw.out.next hb
    have Hx' : Hid (Tb wx2.heap.size sw vw ax cx kw wx7) := Hx.out.next hb
    have Hy' : Hid (Tb wx3.heap.size 0 0 ay cy (.nil : Fo) wx7) := Hy.out.next hb
    clear Hlow HE HLS Ht Hw Hx Hy
    have Hlow := Hlow'
    clear Hlow'
    have HE := HE'
    clear HE'
    have HLS := HLS'
    clear HLS'
    have Ht := Ht'
    clear Ht'
    have Hw := Hw'
    clear Hw'
    have Hx := Hx'
    clear Hx'
    have Hy := Hy'
    clear Hy'
    clear hb
    go_wp2_with fail
    go_ret
    exact ⟨rfl, Hlow.out⟩
  | true =>
    have HES := Lib.hid hes
    clear hes
    have qt0 := Ht.out.c0
    have qt1 := Ht.out.c1
    have qt2 := Ht.out.c2
    have hcc := fun (u : World) (h1 : ESl u 0 u.heap.size A es) (h2 : Sl u 0 u.heap.size a k) => iProofEnd_any es A C s v a c k none 0 [] u h1 (by omega) h2 (.inl rfl) (by simp) (by intro x hx; simp at hx)
    dsimp only [List.length_nil] at hcc
    have HCC := Lib.hid hcc
    clear hcc
    have HPN : Hid (prR es (s, v, k) [] = some (s, v, k)) := prR_nil HES.out HO64.out
    go_wp2_with fail
    refine (HCC.out _ HE.out Ht.out.sl).mono ?_
    rw [HPN.out]
    rintro e wx3 ⟨ay, cy, sy, vy, ky, ty, hdy, rfl, hb, hly⟩
    simp only [ansR, Prod.mk.injEq] at hdy
    obtain ⟨⟨rfl, rfl, rfl⟩, rfl⟩ := hdy
    clear HCC
    clear qt0 qt1 qt2
    have Hlow' : Hid (Below w.heap.size w wx3) := below_next Hlow.out hb
    have HE' : Hid (ESl wx3 0 wx3.heap.size A es) := HE.out.next hb
    have HLS' : Hid (LSl wx3 0 wx3.heap.size A2 ls) := HLS.out.next hb
    have Ht' : Hid (Tb wa.heap.size s v a c k wx3) := Ht.out.next hb
    have Hw' : Hid (Tb wx1.heap.size sw vw aw cw kw wx3) := Hw.out.next hb
    have Hx' : Hid (Tb wx2.heap.size sw vw ax cx kw wx3) := Hx.out.next hb
    clear Hlow HE HLS Ht Hw Hx
    have Hlow := Hlow'
    clear Hlow'
    have HE := HE'
    clear HE'
    have HLS := HLS'
    clear HLS'
    have Ht := Ht'
    clear Ht'
    have Hw := Hw'
    clear Hw'
    have Hx := Hx'
    clear Hx'
    clear hb
    have Hly := Lib.hid hly
    clear hly
    have hbx : Below wx3.heap.size wx3 (wx3.alloc (.cells #[.int .i64 s, .int .i64 v, .slice ay (flen k) cy] 35)) := box_low _ _
    have Hn : Hid (Tb wx3.heap.size s v ay cy k (wx3.alloc (.cells #[.int .i64 s, .int .i64 v, .slice ay (flen k) cy] 35))) := Tb.new Hly.out
    have Hlow' : Hid (Below w.heap.size w (wx3.alloc (.cells #[.int .i64 s, .int .i64 v, .slice ay (flen k) cy] 35))) := below_next Hlow.out hbx
    have HE' : Hid (ESl (wx3.alloc (.cells #[.int .i64 s, .int .i64 v, .slice ay (flen k) cy] 35)) 0 (wx3.alloc (.cells #[.int .i64 s, .int .i64 v, .slice ay (flen k) cy] 35)).heap.size A es) := HE.out.next hbx
    have HLS' : Hid (LSl (wx3.alloc (.cells #[.int .i64 s, .int .i64 v, .slice ay (flen k) cy] 35)) 0 (wx3.alloc (.cells #[.int .i64 s, .int .i64 v, .slice ay (flen k) cy] 35)).heap.size A2 ls) := HLS.out.next hbx
    have Ht' : Hid (Tb wa.heap.size s v a c k (wx3.alloc (.cells #[.int .i64 s, .int .i64 v, .slice ay (flen k) cy] 35))) := Ht.out.next hbx
    have Hw' : Hid (Tb wx1.heap.size sw vw aw cw kw (wx3.alloc (.cells #[.int .i64 s, .int .i64 v, .slice ay (flen k) cy] 35))) := Hw.out.next hbx
    have Hx' : Hid (Tb wx2.heap.size sw vw ax cx kw (wx3.alloc (.cells #[.int .i64 s, .int .i64 v, .slice ay (flen k) cy] 35))) := Hx.out.next hbx
    clear Hlow HE HLS Ht Hw Hx
    have Hlow := Hlow'
    clear Hlow'
    have HE := HE'
    clear HE'
    have HLS := HLS'
    clear HLS'
    have Ht := Ht'
    clear Ht'
    have Hw := Hw'
    clear Hw'
    have Hx := Hx'
    clear Hx'
    have Hy := Hn
    clear Hn hbx
    clear Hly
    have qx0 := Hx.out.c0
    have qx1 := Hx.out.c1
    have qx2 := Hx.out.c2
    have qw0 := Hw.out.c0
    have qw1 := Hw.out.c1
    have qw2 := Hw.out.c2
    go_wp2_with fail
    with_reducible refine (laTerm_same (fsz kw) sw vw ax aw cx cw kw _ Hx.out.sl Hw.out.sl (Nat.le_refl _) (by omega)).mono ?_
    rintro e wx4 ⟨rfl, hb⟩
    clear qx0 qx1 qx2 qw0 qw1 qw2
    have Hlow' : Hid (Below w.heap.size w wx4) := below_next Hlow.out hb
    have HE' : Hid (ESl wx4 0 wx4.heap.size A es) := HE.out.next hb
    have HLS' : Hid (LSl wx4 0 wx4.heap.size A2 ls) := HLS.out.next hb
    have Ht' : Hid (Tb wa.heap.size s v a c k wx4) := Ht.out.next hb
    have Hw' : Hid (Tb wx1.heap.size sw vw aw cw kw wx4) := Hw.out.next hb
    have Hx' : Hid (Tb wx2.heap.size sw vw ax cx kw wx4) := Hx.out.next hb
    have Hy' : Hid (Tb wx3.heap.size s v ay cy k wx4) := Hy.out.next hb
    clear Hlow HE HLS Ht Hw Hx Hy
    have Hlow := Hlow'
    clear Hlow'
    have HE := HE'
    clear HE'
    have HLS := HLS'
    clear HLS'
    have Ht := Ht'
    clear Ht'
    have Hw := Hw'
    clear Hw'
    have Hx := Hx'
    clear Hx'
    have Hy := Hy'
    clear Hy'
    clear hb
    go_wp2_with fail
    with_reducible refine (sEqsOk_any es A C _ HE.out (by omega)).mono ?_
    rw [HES.out]
    rintro e wx5 ⟨rfl, hb⟩
    have Hlow' : Hid (Below w.heap.size w wx5) := below_next Hlow.out hb
    have HE' : Hid (ESl wx5 0 wx5.heap.size A es) := HE.out.next hb
    have HLS' : Hid (LSl wx5 0 wx5.heap.size A2 ls) := HLS.out.next hb
    have Ht' : Hid (Tb wa.heap.size s v a c k wx5) := Ht.out.next hb
    have Hw' : Hid (Tb wx1.heap.size sw vw aw cw kw wx5) := Hw.out.next hb
    have Hx' : Hid (Tb wx2.heap.size sw vw ax cx kw wx5) := Hx.out.next hb
    have Hy' : Hid (Tb wx3.heap.size s v ay cy k wx5) := Hy.out.next hb
    clear Hlow HE HLS Ht Hw Hx Hy
    have Hlow := Hlow'
    clear Hlow'
    have HE := HE'
    clear HE'
    have HLS := HLS'
    clear HLS'
    have Ht := Ht'
    clear Ht'
    have Hw := Hw'
    clear Hw'
    have Hx := Hx'
    clear Hx'
    have Hy := Hy'
    clear Hy'
    clear hb
    go_wp2_with fail
    with_reducible refine (iEqsOk_any es A C _ HE.out (by omega)).mono ?_
    rw [HES.out]
    rintro e wx6 ⟨rfl, hb⟩
    have Hlow' : Hid (Below w.heap.size w wx6) := below_next Hlow.out hb
    have HE' : Hid (ESl wx6 0 wx6.heap.size A es) := HE.out.next hb
    have HLS' : Hid (LSl wx6 0 wx6.heap.size A2 ls) := HLS.out.next hb
    have Ht' : Hid (Tb wa.heap.size s v a c k wx6) := Ht.out.next hb
    have Hw' : Hid (Tb wx1.heap.size sw vw aw cw kw wx6) := Hw.out.next hb
    have Hx' : Hid (Tb wx2.heap.size sw vw ax cx kw wx6) := Hx.out.next hb
    have Hy' : Hid (Tb wx3.heap.size s v ay cy k wx6) := Hy.out.next hb
    clear Hlow HE HLS Ht Hw Hx Hy
    have Hlow := Hlow'
    clear Hlow'
    have HE := HE'
    clear HE'
    have HLS := HLS'
    clear HLS'
    have Ht := Ht'
    clear Ht'
    have Hw := Hw'
    clear Hw'
    have Hx := Hx'
    clear Hx'
    have Hy := Hy'
    clear Hy'
    clear hb
    go_wp2_with fail
    with_reducible refine (sEqsOk_any es A C _ HE.out (by omega)).mono ?_
    rw [HES.out]
    rintro e wx7 ⟨rfl, hb⟩
    have Hlow' : Hid (Below w.heap.size w wx7) := below_next Hlow.out hb
    have HE' : Hid (ESl wx7 0 wx7.heap.size A es) := HE.out.next hb
    have HLS' : Hid (LSl wx7 0 wx7.heap.size A2 ls) := HLS.out.next hb
    have Ht' : Hid (Tb wa.heap.size s v a c k wx7) := Ht.out.next hb
    have Hw' : Hid (Tb wx1.heap.size sw vw aw cw kw wx7) := Hw.out.next hb
    have Hx' : Hid (Tb wx2.heap.size sw vw ax cx kw wx7) := Hx.out.next hb
    have Hy' : Hid (Tb wx3.heap.size s v ay cy k wx7) := Hy.out.next hb
    clear Hlow HE HLS Ht Hw Hx Hy
    have Hlow := Hlow'
    clear Hlow'
    have HE := HE'
    clear HE'
    have HLS := HLS'
    clear HLS'
    have Ht := Ht'
    clear Ht'
    have Hw := Hw'
    clear Hw'
    have Hx := Hx'
    clear Hx'
    have Hy := Hy'
    clear Hy'
    clear hb
    have qy0 := Hy.out.c0
    have qy1 := Hy.out.c1
    have qy2 := Hy.out.c2
    have qt0 := Ht.out.c0
    have qt1 := Ht.out.c1
    have qt2 := Ht.out.c2
    go_wp2_with fail
    with_reducible refine (laTerm_same (fsz k) s v ay a cy c k _ Hy.out.sl Ht.out.sl (Nat.le_refl _) (by omega)).mono ?_
    rintro e wx8 ⟨rfl, hb⟩
    clear qy0 qy1 qy2 qt0 qt1 qt2
    have Hlow' : Hid (Below w.heap.size w wx8) := below_next Hlow.out hb
    have HE' : Hid (ESl wx8 0 wx8.heap.size A es) := HE.out.next hb
    have HLS' : Hid (LSl wx8 0 wx8.heap.size A2 ls) := HLS.out.next hb
    have Ht' : Hid (Tb wa.heap.size s v a c k wx8) := Ht.out.next hb
    have Hw' : Hid (Tb wx1.heap.size sw vw aw cw kw wx8) := Hw.out.next hb
    have Hx' : Hid (Tb wx2.heap.size sw vw ax cx kw wx8) := Hx.out.next hb
    have Hy' : Hid (Tb wx3.heap.size s v ay cy k wx8) := Hy.out.next hb
    clear Hlow HE HLS Ht Hw Hx Hy
    have Hlow := Hlow'
    clear Hlow'
    have HE := HE'
    clear HE'
    have HLS := HLS'
    clear HLS'
    have Ht := Ht'
    clear Ht'
    have Hw := Hw'
    clear Hw'
    have Hx := Hx'
    clear Hx'
    have Hy := Hy'
    clear Hy'
    clear hb
    go_wp2_with fail
    go_ret
    exact ⟨rfl, Hlow.out⟩
end Go.Proofs.Ytdkcbbhkoibplaa
