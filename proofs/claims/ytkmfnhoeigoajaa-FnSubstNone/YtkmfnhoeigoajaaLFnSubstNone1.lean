/- Several texts in one: LawSNone. -/
import Derived.Test.YtkmfnhoeigoajaaKSub9
import Derived.Test.YtkmfnhoeigoajaaKSub11
import Derived.Test.YtkmfnhoeigoajaaKSub12
import Derived.Test.YtkmfnhoeigoajaaKSub13

/-! LawSNone: laws.FnSubstNone answers true at every code. -/
namespace Go.Proofs.Ytkmfnhoeigoajaa
open Go.RowKit Go.Deep
attribute [local go_sem ↓] Go.wp_at_zero Go.wp_at_succ

set_option maxRecDepth 100000 in
set_option maxHeartbeats 2000000 in
theorem substNone_walk (a0 : Option Addr) (len cap : Nat) (w : World) (hby : Bytes w a0 len) (hlen : len ≤ cap) :
    Calls Try.prog 4 #[.slice a0 len cap] w fun e w' => e = .returned (.bool true) ∧ Below w.heap.size w w' := by
  have HBY := Lib.hid hby
  clear hby
  by_cases hbiglen : 1048576 < len
  · go_enter Try.func4, Try.ntmps4
    go_wp2_with fail
    go_ret
    exact ⟨rfl, Below.refl _ _⟩
  go_enter Try.func4, Try.ntmps4
  go_wp2_with fail
  with_reducible refine (DrawSubstDo_any a0 len cap _ HBY.out hlen).mono ?_
  rintro e wa ⟨bs, A, C, s, v, a, c, k, rfl, hbl, hSk, hb, hi, hl⟩
  have Hlow := Lib.hid hb
  have HBS : Hid (BSl wa 0 wa.heap.size A bs) := hi.mono (Nat.zero_le _) (Nat.le_refl _)
  have HL := Lib.hid hl
  clear hb hi hl HBY
  have hbx : Below wa.heap.size wa (wa.alloc (.cells #[.int .i64 s, .int .i64 v, .slice a (flen k) c] 26)) := box_low _ _
  have Hn : Hid (Tb wa.heap.size s v a c k (wa.alloc (.cells #[.int .i64 s, .int .i64 v, .slice a (flen k) c] 26))) := Tb.new HL.out
  have Hlow' : Hid (Below w.heap.size w (wa.alloc (.cells #[.int .i64 s, .int .i64 v, .slice a (flen k) c] 26))) := below_next Hlow.out hbx
  have HBS' : Hid (BSl (wa.alloc (.cells #[.int .i64 s, .int .i64 v, .slice a (flen k) c] 26)) 0 (wa.alloc (.cells #[.int .i64 s, .int .i64 v, .slice a (flen k) c] 26)).heap.size A bs) := HBS.out.next hbx
  clear Hlow HBS
  have Hlow := Hlow'
  clear Hlow'
  have HBS := HBS'
  clear HBS'
  have Ht := Hn
  clear Hn hbx
  have qt0 := Ht.out.c0
  have qt1 := Ht.out.c1
  have qt2 := Ht.out.c2
  go_wp2_with fail
  with_reducible refine (sSubstDo_any bs A C s v a c k _ HBS.out (by omega) Ht.out.sl).mono ?_
  rintro e wx1 ⟨aw, cw, sw, vw, kw, tw, hdw, rfl, hb, hlw⟩
  have HDw := Lib.hid hdw
  clear hdw
  clear qt0 qt1 qt2
  have Hlow' : Hid (Below w.heap.size w wx1) := below_next Hlow.out hb
  have HBS' : Hid (BSl wx1 0 wx1.heap.size A bs) := HBS.out.next hb
  have Ht' : Hid (Tb wa.heap.size s v a c k wx1) := Ht.out.next hb
  clear Hlow HBS Ht
  have Hlow := Hlow'
  clear Hlow'
  have HBS := HBS'
  clear HBS'
  have Ht := Ht'
  clear Ht'
  clear hb
  have Hlw := Lib.hid hlw
  clear hlw
  have hbx : Below wx1.heap.size wx1 (wx1.alloc (.cells #[.int .i64 sw, .int .i64 vw, .slice aw (flen kw) cw] 26)) := box_low _ _
  have Hn : Hid (Tb wx1.heap.size sw vw aw cw kw (wx1.alloc (.cells #[.int .i64 sw, .int .i64 vw, .slice aw (flen kw) cw] 26))) := Tb.new Hlw.out
  have Hlow' : Hid (Below w.heap.size w (wx1.alloc (.cells #[.int .i64 sw, .int .i64 vw, .slice aw (flen kw) cw] 26))) := below_next Hlow.out hbx
  have HBS' : Hid (BSl (wx1.alloc (.cells #[.int .i64 sw, .int .i64 vw, .slice aw (flen kw) cw] 26)) 0 (wx1.alloc (.cells #[.int .i64 sw, .int .i64 vw, .slice aw (flen kw) cw] 26)).heap.size A bs) := HBS.out.next hbx
  have Ht' : Hid (Tb wa.heap.size s v a c k (wx1.alloc (.cells #[.int .i64 sw, .int .i64 vw, .slice aw (flen kw) cw] 26))) := Ht.out.next hbx
  clear Hlow HBS Ht
  have Hlow := Hlow'
  clear Hlow'
  have HBS := HBS'
  clear HBS'
  have Ht := Ht'
  clear Ht'
  have Hw := Hn
  clear Hn hbx
  clear Hlw
  have qt0 := Ht.out.c0
  have qt1 := Ht.out.c1
  have qt2 := Ht.out.c2
  go_wp2_with fail
  with_reducible refine (iSubstDo_any bs A C s v a c k _ HBS.out (by omega) Ht.out.sl).mono ?_
  rintro e wx2 ⟨ax, cx, sx, vx, kx, tx, hdx, rfl, hb, hlx⟩
  rw [HDw.out] at hdx
  simp only [Prod.mk.injEq] at hdx
  obtain ⟨rfl, rfl, rfl, rfl⟩ := hdx
  clear qt0 qt1 qt2
  have Hlow' : Hid (Below w.heap.size w wx2) := below_next Hlow.out hb
  have HBS' : Hid (BSl wx2 0 wx2.heap.size A bs) := HBS.out.next hb
  have Ht' : Hid (Tb wa.heap.size s v a c k wx2) := Ht.out.next hb
  have Hw' : Hid (Tb wx1.heap.size sw vw aw cw kw wx2) := Hw.out.next hb
  clear Hlow HBS Ht Hw
  have Hlow := Hlow'
  clear Hlow'
  have HBS := HBS'
  clear HBS'
  have Ht := Ht'
  clear Ht'
  have Hw := Hw'
  clear Hw'
  clear hb
  have Hlx := Lib.hid hlx
  clear hlx
  have hbx : Below wx2.heap.size wx2 (wx2.alloc (.cells #[.int .i64 sw, .int .i64 vw, .slice ax (flen kw) cx] 26)) := box_low _ _
  have Hn : Hid (Tb wx2.heap.size sw vw ax cx kw (wx2.alloc (.cells #[.int .i64 sw, .int .i64 vw, .slice ax (flen kw) cx] 26))) := Tb.new Hlx.out
  have Hlow' : Hid (Below w.heap.size w (wx2.alloc (.cells #[.int .i64 sw, .int .i64 vw, .slice ax (flen kw) cx] 26))) := below_next Hlow.out hbx
  have HBS' : Hid (BSl (wx2.alloc (.cells #[.int .i64 sw, .int .i64 vw, .slice ax (flen kw) cx] 26)) 0 (wx2.alloc (.cells #[.int .i64 sw, .int .i64 vw, .slice ax (flen kw) cx] 26)).heap.size A bs) := HBS.out.next hbx
  have Ht' : Hid (Tb wa.heap.size s v a c k (wx2.alloc (.cells #[.int .i64 sw, .int .i64 vw, .slice ax (flen kw) cx] 26))) := Ht.out.next hbx
  have Hw' : Hid (Tb wx1.heap.size sw vw aw cw kw (wx2.alloc (.cells #[.int .i64 sw, .int .i64 vw, .slice ax (flen kw) cx] 26))) := Hw.out.next hbx
  clear Hlow HBS Ht Hw
  have Hlow := Hlow'
  clear Hlow'
  have HBS := HBS'
  clear HBS'
  have Ht := Ht'
  clear Ht'
  have Hw := Hw'
  clear Hw'
  have Hx := Hn
  clear Hn hbx
  clear Hlx
  have hkw := sdR_sz HDw.out
  have eb : (tw != tw) = false := by simp
  have eb2 : (tw == tw) = true := by simp
  have qx0 := Hx.out.c0
  have qx1 := Hx.out.c1
  have qx2 := Hx.out.c2
  have qw0 := Hw.out.c0
  have qw1 := Hw.out.c1
  have qw2 := Hw.out.c2
  go_wp2_with fail
  with_reducible refine (laTerm_same (fsz kw) sw vw ax aw cx cw kw _ Hx.out.sl Hw.out.sl (Nat.le_refl _) (by omega)).mono ?_
  rintro e wx3 ⟨rfl, hb⟩
  clear qx0 qx1 qx2 qw0 qw1 qw2
  have Hlow' : Hid (Below w.heap.size w wx3) := below_next Hlow.out hb
  have HBS' : Hid (BSl wx3 0 wx3.heap.size A bs) := HBS.out.next hb
  have Ht' : Hid (Tb wa.heap.size s v a c k wx3) := Ht.out.next hb
  have Hw' : Hid (Tb wx1.heap.size sw vw aw cw kw wx3) := Hw.out.next hb
  have Hx' : Hid (Tb wx2.heap.size sw vw ax cx kw wx3) := Hx.out.next hb
  clear Hlow HBS Ht Hw Hx
  have Hlow := Hlow'
  clear Hlow'
  have HBS := HBS'
  clear HBS'
  have Ht := Ht'
  clear Ht'
  have Hw := Hw'
  clear Hw'
  have Hx := Hx'
  clear Hx'
  clear hb
  cases hok : okW s v k 16 with
  | false =>
    have HOK := Lib.hid hok
    clear hok
    have qt0 := Ht.out.c0
    have qt1 := Ht.out.c1
    have qt2 := Ht.out.c2
    go_wp2_with fail
    with_reducible refine (sTermOk_any s v a c k _ Ht.out.sl).mono ?_
    rw [HOK.out]
    rintro e wx4 ⟨rfl, hb⟩
    clear qt0 qt1 qt2
    have Hlow' : Hid (Below w.heap.size w wx4) := below_next Hlow.out hb
    have HBS' : Hid (BSl wx4 0 wx4.heap.size A bs) := HBS.out.next hb
    have Ht' : Hid (Tb wa.heap.size s v a c k wx4) := Ht.out.next hb
    have Hw' : Hid (Tb wx1.heap.size sw vw aw cw kw wx4) := Hw.out.next hb
    have Hx' : Hid (Tb wx2.heap.size sw vw ax cx kw wx4) := Hx.out.next hb
    clear Hlow HBS Ht Hw Hx
    have Hlow := Hlow'
    clear Hlow'
    have HBS := HBS'
    clear HBS'
    have Ht := Ht'
    clear Ht'
    have Hw := Hw'
    clear Hw'
    have Hx := Hx'
    clear Hx'
    clear hb
    have qx0 := Hx.out.c0
    have qx1 := Hx.out.c1
    have qx2 := Hx.out.c2
    have qw0 := Hw.out.c0
    have qw1 := Hw.out.c1
    have qw2 := Hw.out.c2
    go_wp2_with fail
    with_reducible refine (laTerm_same (fsz kw) sw vw ax aw cx cw kw _ Hx.out.sl Hw.out.sl (Nat.le_refl _) (by omega)).mono ?_
    rintro e wx5 ⟨rfl, hb⟩
    clear qx0 qx1 qx2 qw0 qw1 qw2
    have Hlow' : Hid (Below w.heap.size w wx5) := below_next Hlow.out hb
    have HBS' : Hid (BSl wx5 0 wx5.heap.size A bs) := HBS.out.next hb
    have Ht' : Hid (Tb wa.heap.size s v a c k wx5) := Ht.out.next hb
    have Hw' : Hid (Tb wx1.heap.size sw vw aw cw kw wx5) := Hw.out.next hb
    have Hx' : Hid (Tb wx2.heap.size sw vw ax cx kw wx5) := Hx.out.next hb
    clear Hlow HBS Ht Hw Hx
    have Hlow := Hlow'
    clear Hlow'
    have HBS := HBS'
    clear HBS'
    have Ht := Ht'
    clear Ht'
    have Hw := Hw'
    clear Hw'
    have Hx := Hx'
    clear Hx'
    clear hb
    go_wp2_with fail
    go_ret
    exact ⟨rfl, Hlow.out⟩
  | true =>
    have HOK := Lib.hid hok
    have hk16 := ((okW_iff _ _ _ _).1 hok).2.2
    clear hok
    have qt0 := Ht.out.c0
    have qt1 := Ht.out.c1
    have qt2 := Ht.out.c2
    go_wp2_with fail
    with_reducible refine (sTermOk_any s v a c k _ Ht.out.sl).mono ?_
    rw [HOK.out]
    rintro e wx4 ⟨rfl, hb⟩
    clear qt0 qt1 qt2
    have Hlow' : Hid (Below w.heap.size w wx4) := below_next Hlow.out hb
    have HBS' : Hid (BSl wx4 0 wx4.heap.size A bs) := HBS.out.next hb
    have Ht' : Hid (Tb wa.heap.size s v a c k wx4) := Ht.out.next hb
    have Hw' : Hid (Tb wx1.heap.size sw vw aw cw kw wx4) := Hw.out.next hb
    have Hx' : Hid (Tb wx2.heap.size sw vw ax cx kw wx4) := Hx.out.next hb
    clear Hlow HBS Ht Hw Hx
    have Hlow := Hlow'
    clear Hlow'
    have HBS := HBS'
    clear HBS'
    have Ht := Ht'
    clear Ht'
    have Hw := Hw'
    clear Hw'
    have Hx := Hx'
    clear Hx'
    clear hb
    have qt0 := Ht.out.c0
    have qt1 := Ht.out.c1
    have qt2 := Ht.out.c2
    go_wp2_with fail
    have HC := Lib.hid (fun w0 hl => iSubstDo_any [] none 0 s v a c k w0 (.inl rfl) (Nat.zero_le _) hl)
    refine (HC.out _ Ht.out.sl).mono ?_
    rintro e wx5 ⟨ay, cy, sy, vy, ky, ty, hdy, rfl, hb, hly⟩
    rw [sdR_nil HOK.out] at hdy
    simp only [Prod.mk.injEq] at hdy
    obtain ⟨rfl, rfl, rfl, rfl⟩ := hdy
    clear qt0 qt1 qt2
    have Hlow' : Hid (Below w.heap.size w wx5) := below_next Hlow.out hb
    have HBS' : Hid (BSl wx5 0 wx5.heap.size A bs) := HBS.out.next hb
    have Ht' : Hid (Tb wa.heap.size s v a c k wx5) := Ht.out.next hb
    have Hw' : Hid (Tb wx1.heap.size sw vw aw cw kw wx5) := Hw.out.next hb
    have Hx' : Hid (Tb wx2.heap.size sw vw ax cx kw wx5) := Hx.out.next hb
    clear Hlow HBS Ht Hw Hx
    have Hlow := Hlow'
    clear Hlow'
    have HBS := HBS'
    clear HBS'
    have Ht := Ht'
    clear Ht'
    have Hw := Hw'
    clear Hw'
    have Hx := Hx'
    clear Hx'
    clear hb HC
    have Hly := Lib.hid hly
    clear hly
    have hbx : Below wx5.heap.size wx5 (wx5.alloc (.cells #[.int .i64 s, .int .i64 v, .slice ay (flen k) cy] 26)) := box_low _ _
    have Hn : Hid (Tb wx5.heap.size s v ay cy k (wx5.alloc (.cells #[.int .i64 s, .int .i64 v, .slice ay (flen k) cy] 26))) := Tb.new Hly.out
    have Hlow' : Hid (Below w.heap.size w (wx5.alloc (.cells #[.int .i64 s, .int .i64 v, .slice ay (flen k) cy] 26))) := below_next Hlow.out hbx
    have HBS' : Hid (BSl (wx5.alloc (.cells #[.int .i64 s, .int .i64 v, .slice ay (flen k) cy] 26)) 0 (wx5.alloc (.cells #[.int .i64 s, .int .i64 v, .slice ay (flen k) cy] 26)).heap.size A bs) := HBS.out.next hbx
    have Ht' : Hid (Tb wa.heap.size s v a c k (wx5.alloc (.cells #[.int .i64 s, .int .i64 v, .slice ay (flen k) cy] 26))) := Ht.out.next hbx
    have Hw' : Hid (Tb wx1.heap.size sw vw aw cw kw (wx5.alloc (.cells #[.int .i64 s, .int .i64 v, .slice ay (flen k) cy] 26))) := Hw.out.next hbx
    have Hx' : Hid (Tb wx2.heap.size sw vw ax cx kw (wx5.alloc (.cells #[.int .i64 s, .int .i64 v, .slice ay (flen k) cy] 26))) := Hx.out.next hbx
    clear Hlow HBS Ht Hw Hx
    have Hlow := Hlow'
    clear Hlow'
    have HBS := HBS'
    clear HBS'
    have Ht := Ht'
    clear Ht'
    have Hw := Hw'
    clear Hw'
    have Hx := Hx'
    clear Hx'
    have Hy := Hn
    clear Hn hbx
    have qy0 := Hy.out.c0
    have qy1 := Hy.out.c1
    have qy2 := Hy.out.c2
    have qt0 := Ht.out.c0
    have qt1 := Ht.out.c1
    have qt2 := Ht.out.c2
    go_wp2_with fail
    with_reducible refine (laTerm_same (fsz k) s v ay a cy c k _ Hy.out.sl Ht.out.sl (Nat.le_refl _) (by omega)).mono ?_
    rintro e wx6 ⟨rfl, hb⟩
    clear qy0 qy1 qy2 qt0 qt1 qt2
    have Hlow' : Hid (Below w.heap.size w wx6) := below_next Hlow.out hb
    have HBS' : Hid (BSl wx6 0 wx6.heap.size A bs) := HBS.out.next hb
    have Ht' : Hid (Tb wa.heap.size s v a c k wx6) := Ht.out.next hb
    have Hw' : Hid (Tb wx1.heap.size sw vw aw cw kw wx6) := Hw.out.next hb
    have Hx' : Hid (Tb wx2.heap.size sw vw ax cx kw wx6) := Hx.out.next hb
    have Hy' : Hid (Tb wx5.heap.size s v ay cy k wx6) := Hy.out.next hb
    clear Hlow HBS Ht Hw Hx Hy
    have Hlow := Hlow'
    clear Hlow'
    have HBS := HBS'
    clear HBS'
    have Ht := Ht'
    clear Ht'
    have Hw := Hw'
    clear Hw'
    have Hx := Hx'
    clear Hx'
    have Hy := Hy'
    clear Hy'
    clear hb
    cases tw with
    | false =>
      go_wp2_with fail
      go_ret
      exact ⟨rfl, Hlow.out⟩
    | true =>
      have HV0 : Hid ((tvR s v k).length = 0 → tsub (sv bs) s v k = (s, v, k)) := fun h0 => tsub_id fun x hx => by
        have hnil := List.eq_nil_of_length_eq_zero h0
        have hin := fvs_in HOK.out x hx
        have : x ∈ tvR s v k := by unfold tvR; rw [if_pos HOK.out]; exact (among_mem _ _ _).2 ⟨hx, hin.1, by omega⟩
        rw [hnil] at this; cases this
      have qt0 := Ht.out.c0
      have qt1 := Ht.out.c1
      have qt2 := Ht.out.c2
      go_wp2_with fail
      with_reducible refine (iTermVars_any s v a c k _ Ht.out.sl).mono ?_
      rintro e wx7 ⟨A9, C9, xs, rfl, rfl, hb, _⟩
      clear qt0 qt1 qt2
      have Hlow' : Hid (Below w.heap.size w wx7) := below_next Hlow.out hb
      have HBS' : Hid (BSl wx7 0 wx7.heap.size A bs) := HBS.out.next hb
      have Ht' : Hid (Tb wa.heap.size s v a c k wx7) := Ht.out.next hb
      have Hw' : Hid (Tb wx1.heap.size sw vw aw cw kw wx7) := Hw.out.next hb
      have Hx' : Hid (Tb wx2.heap.size sw vw ax cx kw wx7) := Hx.out.next hb
      have Hy' : Hid (Tb wx5.heap.size s v ay cy k wx7) := Hy.out.next hb
      clear Hlow HBS Ht Hw Hx Hy
      have Hlow := Hlow'
      clear Hlow'
      have HBS := HBS'
      clear HBS'
      have Ht := Ht'
      clear Ht'
      have Hw := Hw'
      clear Hw'
      have Hx := Hx'
      clear Hx'
      have Hy := Hy'
      clear Hy'
      clear hb
      by_cases hpos : 0 < (tvR s v k).length
      · have gp : (0 : Int) < ((tvR s v k).length : Int) := by omega
        go_wp2_with fail
        go_ret
        exact ⟨rfl, Hlow.out⟩
      · have gp : (tvR s v k).length = 0 := by omega
        have hE := HV0.out gp
        have gq : ((tvR s v k).length : Int) = 0 := by omega
        rcases sdR_cases HDw.out with ⟨h, _⟩ | ⟨_, _, _, hT, _⟩
        · cases h
        rw [hE] at hT
        simp only [Prod.mk.injEq] at hT
        obtain ⟨rfl, rfl, rfl⟩ := hT
        clear hE HDw HV0
        have qx0 := Hx.out.c0
        have qx1 := Hx.out.c1
        have qx2 := Hx.out.c2
        have qt0 := Ht.out.c0
        have qt1 := Ht.out.c1
        have qt2 := Ht.out.c2
        go_wp2_with fail
        with_reducible refine (laTerm_same (fsz k) s v ax a cx c k _ Hx.out.sl Ht.out.sl (Nat.le_refl _) (by omega)).mono ?_
        rintro e wx8 ⟨rfl, hb⟩
        clear qx0 qx1 qx2 qt0 qt1 qt2
        have Hlow' : Hid (Below w.heap.size w wx8) := below_next Hlow.out hb
        have HBS' : Hid (BSl wx8 0 wx8.heap.size A bs) := HBS.out.next hb
        have Ht' : Hid (Tb wa.heap.size s v a c k wx8) := Ht.out.next hb
        have Hw' : Hid (Tb wx1.heap.size s v aw cw k wx8) := Hw.out.next hb
        have Hx' : Hid (Tb wx2.heap.size s v ax cx k wx8) := Hx.out.next hb
        have Hy' : Hid (Tb wx5.heap.size s v ay cy k wx8) := Hy.out.next hb
        clear Hlow HBS Ht Hw Hx Hy
        have Hlow := Hlow'
        clear Hlow'
        have HBS := HBS'
        clear HBS'
        have Ht := Ht'
        clear Ht'
        have Hw := Hw'
        clear Hw'
        have Hx := Hx'
        clear Hx'
        have Hy := Hy'
        clear Hy'
        clear hb
        go_wp2_with fail
        go_ret
        exact ⟨rfl, Hlow.out⟩
end Go.Proofs.Ytkmfnhoeigoajaa
