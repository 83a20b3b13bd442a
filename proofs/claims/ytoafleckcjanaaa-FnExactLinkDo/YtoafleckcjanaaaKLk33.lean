/- Several texts in one: LD. -/
import Derived.Test.YtoafleckcjanaaaKLk22
import Derived.Test.YtoafleckcjanaaaKLk26
import Derived.Test.YtoafleckcjanaaaKLk30
import Derived.Test.YtoafleckcjanaaaKLk27
import Derived.Test.YtoafleckcjanaaaKLk31
import Derived.Test.YtoafleckcjanaaaKLk32
import Derived.Test.YtoafleckcjanaaaKLk12

/-! LD: The specification's LinkDo. -/
namespace Go.Proofs.Ytoafleckcjanaaa
open Go.RowKit Go.Deep

theorem arr_eq {tm : Array Value} {n : Nat} (h : tm.size = n) : tm = ((List.range n).map fun i => (tm[i]?).getD undef).toArray := by
  apply Array.ext
  · simp [h]
  · intro i h1 h2
    simp [h1]
theorem arr78 {tm : Array Value} (h : tm.size = 78) : ∃ x0 x1 x2 x3 x4 x5 x6 x7 x8 x9 x10 x11 x12 x13 x14 x15 x16 x17 x18 x19 x20 x21 x22 x23 x24 x25 x26 x27 x28 x29 x30 x31 x32 x33 x34 x35 x36 x37 x38 x39 x40 x41 x42 x43 x44 x45 x46 x47 x48 x49 x50 x51 x52 x53 x54 x55 x56 x57 x58 x59 x60 x61 x62 x63 x64 x65 x66 x67 x68 x69 x70 x71 x72 x73 x74 x75 x76 x77, tm = #[x0, x1, x2, x3, x4, x5, x6, x7, x8, x9, x10, x11, x12, x13, x14, x15, x16, x17, x18, x19, x20, x21, x22, x23, x24, x25, x26, x27, x28, x29, x30, x31, x32, x33, x34, x35, x36, x37, x38, x39, x40, x41, x42, x43, x44, x45, x46, x47, x48, x49, x50, x51, x52, x53, x54, x55, x56, x57, x58, x59, x60, x61, x62, x63, x64, x65, x66, x67, x68, x69, x70, x71, x72, x73, x74, x75, x76, x77] :=
  ⟨_, _, _, _, _, _, _, _, _, _, _, _, _, _, _, _, _, _, _, _, _, _, _, _, _, _, _, _, _, _, _, _, _, _, _, _, _, _, _, _, _, _, _, _, _, _, _, _, _, _, _, _, _, _, _, _, _, _, _, _, _, _, _, _, _, _, _, _, _, _, _, _, _, _, _, _, _, _, arr_eq h⟩

set_option maxRecDepth 100000 in
set_option maxHeartbeats 8000000 in
theorem sLinkDo_any (es : List Eqd) (A : Option Addr) (C : Nat) (s v : Int) (a : Option Addr) (c : Nat) (k : Fo) (eq : Int) (back : Bool) (pA : Option Addr) (pC : Nat) (place : List Int) (B : Option Addr) (D : Nat) (bs : List Bd) (w : World) (he : ESl w 0 w.heap.size A es) (hel : es.length ≤ 1048576)
    (hl : Sl w 0 w.heap.size a k) (hp : ISc w 0 w.heap.size pA pC place) (hpl : place.length ≤ 1048576) (hb : BSl w 0 w.heap.size B bs) (hbl : bs.length ≤ 1048576) :
    Calls Try.prog 13 #[.slice A es.length C, .agg #[.int .i64 s, .int .i64 v, .slice a (flen k) c], .agg #[.int .i64 eq, .bool back, .slice pA place.length pC, .slice B bs.length D]] w (LkPost (lkR es (s, v, k) (eq, back, place, bs)) w) := by
  have HE := Lib.hid he
  have HL := Lib.hid hl
  have HP := Lib.hid hp
  have HB := Lib.hid hb
  clear he hl hp hb
  have HS : Hid (LdS w s v (.slice a (flen k) c) eq back (.slice pA place.length pC) (.slice B bs.length D) (((w.alloc (.cells #[.int .i64 s, .int .i64 v, .slice a (flen k) c] 35)).alloc (.cells #[.int .i64 eq, .bool back, .slice pA place.length pC, .slice B bs.length D] 43)).alloc (.cells #[.int .i64 0, .int .i64 0, .slice none 0 0] 35))) := LdS.start
  go_enter Try.func13, Try.ntmps13
  go_wp2_with fail
  with_reducible refine (sEqsOk_any es A C _ (HE.out.next HS.out.low) (by omega)).mono ?_
  rintro e w1 ⟨rfl, hb1⟩
  have HS1 := Lib.hid (HS.out.next hb1)
  clear hb1 HS
  cases hes : okEs es with
  | false =>
    have HRR : Hid (lkR es (s, v, k) (eq, back, place, bs) = none) := lkR_bad hes
    obtain ⟨r0, r1, r2, f0, f1, f2⟩ : _ ∧ _ ∧ _ ∧ _ ∧ _ ∧ _ := ⟨HS1.out.r0, HS1.out.r1, HS1.out.r2, HS1.out.f 0, HS1.out.f 1, HS1.out.f 2⟩
    go_wp2_with fail
    refine bodyPost_ret (v := .tuple #[.agg #[.int .i64 0, .int .i64 0, .slice none 0 0], .bool false]) ?_ rfl (lk_end (k := .nil) (ans_none HRR.out) HS1.out.low (.inl rfl) _ _ _)
    simp [results, Try.results13, go_sem, r0, r1, r2]
  | true =>
    have HES := Lib.hid hes
    clear hes
    have q0 := HS1.out.t0
    have q1 := HS1.out.t1
    have q2 := HS1.out.t2
    go_wp2_with fail
    with_reducible refine (l2BigG_any s v a c k _ (HL.out.next HS1.out.low)).mono ?_
    rintro e w2 ⟨rfl, hb2⟩
    have HS2 := Lib.hid (HS1.out.next hb2)
    clear hb2 HS1 q0 q1 q2
    cases hbg : okW s v k 64 with
    | false =>
      have HRR : Hid (lkR es (s, v, k) (eq, back, place, bs) = none) := lkR_big hbg
      obtain ⟨r0, r1, r2, f0, f1, f2⟩ : _ ∧ _ ∧ _ ∧ _ ∧ _ ∧ _ := ⟨HS2.out.r0, HS2.out.r1, HS2.out.r2, HS2.out.f 0, HS2.out.f 1, HS2.out.f 2⟩
      go_wp2_with fail
      refine bodyPost_ret (v := .tuple #[.agg #[.int .i64 0, .int .i64 0, .slice none 0 0], .bool false]) ?_ rfl (lk_end (k := .nil) (ans_none HRR.out) HS2.out.low (.inl rfl) _ _ _)
      simp [results, Try.results13, go_sem, r0, r1, r2]
    | true =>
      have HBG := Lib.hid hbg
      have hsz := ((okW_iff _ _ _ _).1 hbg).2.2
      have HRE : Hid (lkR es (s, v, k) (eq, back, place, bs) = lk1 es (s, v, k) (eq, back, place, bs)) := lkR_eq HES.out hbg
      clear hbg
      have q0 := HS2.out.l0
      by_cases hin : 0 ≤ eq ∧ eq < (es.length : Int)
      rotate_left
      · have hid : decide (0 ≤ eq ∧ eq ≤ (es.length : Int) - 1) = false := by simp; omega
        go_wp2_with fail
        with_reducible refine (l6In_is hid).mono ?_
        rintro e w3 ⟨rfl, rfl⟩
        clear q0
        have HRR : Hid (lkR es (s, v, k) (eq, back, place, bs) = none) := HRE.out.trans (lk1_in hin)
        obtain ⟨r0, r1, r2, f0, f1, f2⟩ : _ ∧ _ ∧ _ ∧ _ ∧ _ ∧ _ := ⟨HS2.out.r0, HS2.out.r1, HS2.out.r2, HS2.out.f 0, HS2.out.f 1, HS2.out.f 2⟩
        go_wp2_with fail
        refine bodyPost_ret (v := .tuple #[.agg #[.int .i64 0, .int .i64 0, .slice none 0 0], .bool false]) ?_ rfl (lk_end (k := .nil) (ans_none HRR.out) HS2.out.low (.inl rfl) _ _ _)
        simp [results, Try.results13, go_sem, r0, r1, r2]
      obtain ⟨i, rfl⟩ : ∃ i : Nat, eq = i := ⟨eq.toNat, by omega⟩
      have hid : decide (0 ≤ (i : Int) ∧ (i : Int) ≤ (es.length : Int) - 1) = true := by simp; omega
      go_wp2_with fail
      with_reducible refine (l6In_is hid).mono ?_
      rintro e w3 ⟨rfl, rfl⟩
      have q3 := HS2.out.l3
      go_wp2_with fail
      with_reducible refine (l11Subst_any bs B D _ (HB.out.next HS2.out.low) (by omega)).mono ?_
      rintro e w4 ⟨rfl, hb4⟩
      have HS4 := Lib.hid (HS2.out.next hb4)
      clear hb4 HS2 q0 q3
      cases hso : sok 64 bs with
      | false =>
        have HRR : Hid (lkR es (s, v, k) ((i : Int), back, place, bs) = none) := HRE.out.trans (lk1_sok hso)
        obtain ⟨r0, r1, r2, f0, f1, f2⟩ : _ ∧ _ ∧ _ ∧ _ ∧ _ ∧ _ := ⟨HS4.out.r0, HS4.out.r1, HS4.out.r2, HS4.out.f 0, HS4.out.f 1, HS4.out.f 2⟩
        go_wp2_with fail
        refine bodyPost_ret (v := .tuple #[.agg #[.int .i64 0, .int .i64 0, .slice none 0 0], .bool false]) ?_ rfl (lk_end (k := .nil) (ans_none HRR.out) HS4.out.low (.inl rfl) _ _ _)
        simp [results, Try.results13, go_sem, r0, r1, r2]
      | true =>
        have HSO := Lib.hid hso
        clear hso
        obtain ⟨x, hx⟩ : ∃ x, es[i]? = some x := ⟨es[i], List.getElem?_eq_getElem (by omega)⟩
        have HX := Lib.hid hx
        have HE4 := Lib.hid (HE.out.next HS4.out.low)
        obtain ⟨⟨es1, ev1, ek1⟩, es2, ev2, ek2⟩ := x
        obtain ⟨eb, eo, hA, _, hebB, a1, d1, a2, d2, e0, e1, e2, e3, e4, e5, hsl1, hsl2⟩ := HE4.out.at hx
        dsimp only at e0 e1 e2 e3 e4 e5 hsl1 hsl2
        subst hA
        have HQ := Lib.hid (And.intro e0 (And.intro e1 (And.intro e2 (And.intro e3 (And.intro e4 e5)))))
        have HQS := Lib.hid (And.intro hsl1 hsl2)
        clear hx e0 e1 e2 e3 e4 e5 hsl1 hsl2
        have hws := HS4.out.size
        obtain ⟨fs, fv, fk, fa, fd, gs, gv, gk, ga, gd, hsides, hsd, hfl, hgl⟩ : ∃ fs fv fk fa fd gs gv gk ga gd, sidesR ((es1, ev1, ek1), es2, ev2, ek2) back = ((fs, fv, fk), gs, gv, gk) ∧ (if back = true then (#[.agg #[.int .i64 es2, .int .i64 ev2, .slice a2 (flen ek2) d2], .agg #[.int .i64 es1, .int .i64 ev1, .slice a1 (flen ek1) d1]] : Array Value) else #[.agg #[.int .i64 es1, .int .i64 ev1, .slice a1 (flen ek1) d1], .agg #[.int .i64 es2, .int .i64 ev2, .slice a2 (flen ek2) d2]]) = #[.agg #[.int .i64 fs, .int .i64 fv, .slice fa (flen fk) fd], .agg #[.int .i64 gs, .int .i64 gv, .slice ga (flen gk) gd]] ∧ Sl w4 0 w4.heap.size fa fk ∧ Sl w4 0 w4.heap.size ga gk := by
          cases back with
          | true => exact ⟨es2, ev2, ek2, a2, d2, es1, ev1, ek1, a1, d1, rfl, rfl, HQS.out.2, HQS.out.1⟩
          | false => exact ⟨es1, ev1, ek1, a1, d1, es2, ev2, ek2, a2, d2, rfl, rfl, HQS.out.1, HQS.out.2⟩
        have HSD := Lib.hid hsd
        have HFL := Lib.hid hfl
        have HGL := Lib.hid hgl
        have hso2 := sides_ok HES.out HX.out back
        rw [hsides] at hso2
        have HSO2 := Lib.hid hso2
        have HLK : Hid (lkR es (s, v, k) ((i : Int), back, place, bs) = lkAt (s, v, k) place (put3 (sv bs) (fs, fv, fk)) (put3 (sv bs) (gs, gv, gk))) := by
          rw [Hid, HRE.out, lk1_at HX.out HSO.out, hsides]
        clear hsd hfl hgl hso2 hsides HQS HRE
        go_wp2_with fail
        refine wp_region_typed (fun j x _ => match ([some (.slice (some ⟨eb, eo, none⟩) es.length C), some (.pointer (some ⟨w.heap.size + 1, 0, none⟩)), some (.int .i64 (i : Int)), some (.pointer (some ⟨eb, eo + i * 6, none⟩)), some (.agg #[.int .i64 es1, .int .i64 ev1, .slice a1 (flen ek1) d1, .int .i64 es2, .int .i64 ev2, .slice a2 (flen ek2) d2]), some (.pointer (some ⟨w.heap.size + 1, 1, none⟩)), some (.bool back), some (.tuple #[.agg #[.int .i64 fs, .int .i64 fv, .slice fa (flen fk) fd], .agg #[.int .i64 gs, .int .i64 gv, .slice ga (flen gk) gd]]), some (.tuple #[.agg #[.int .i64 fs, .int .i64 fv, .slice fa (flen fk) fd], .agg #[.int .i64 gs, .int .i64 gv, .slice ga (flen gk) gd]]), some (.agg #[.int .i64 fs, .int .i64 fv, .slice fa (flen fk) fd]), some (.agg #[.int .i64 gs, .int .i64 gv, .slice ga (flen gk) gd]), none, none, none, none] : List (Option Value)).getD j none with | some y => x = y | none => True) (fun listed act u => LdS w s v (.slice a (flen k) c) (i : Int) back (.slice pA place.length pC) (.slice B bs.length D) u ∧ Below w4.heap.size w4 u ∧ Bx 11 13 8 45 w4.heap.size listed act u ∧ Bx 12 14 9 46 w4.heap.size listed act u ∧ Bx2 11 12 8 9 listed act) (fun _ _ => True) (by kernel_rfl) (by kernel_rfl) (fun j x u u' h _ => h) ⟨HS4.out.next (Below.refl _ _).drew, (Below.refl _ _).drew, Bx.start, Bx.start, Bx2.start⟩ ?_ ?_
        · intro j o hj listed act u hst hun hdep
          have hin2 : j < 15 := (Array.getElem?_eq_some_iff.1 hj).1
          obtain ⟨hL, hlow, hx1, hx2, hx12⟩ := hst.s
          have hus := hlow.size
          have h16 : j = 0 ∨ j = 1 ∨ j = 2 ∨ j = 3 ∨ j = 4 ∨ j = 5 ∨ j = 6 ∨ j = 7 ∨ j = 8 ∨ j = 9 ∨ j = 10 ∨ j = 11 ∨ j = 12 ∨ j = 13 ∨ j = 14 := by omega
          rcases h16 with rfl | rfl | rfl | rfl | rfl | rfl | rfl | rfl | rfl | rfl | rfl | rfl | rfl | rfl | rfl
          · -- ('mv', 37, None, 0)
            obtain rfl := Option.some.inj hj
            have t0 : (act.tmps[0]?).getD undef = .slice (some ⟨eb, eo, none⟩) es.length C := hst.old 0 (by kernel_rfl)
            refine wpOp_of rfl rfl (fun K hK => ?_)
            go_simp
            have hbb := Below.refl u.heap.size u
            refine hK _ _ ⟨_, rfl, ⟨hL.next hbb, hlow.trans (hbb.mono hus), hx1.keep (i := 0) (dst := some 37) (by decide) (by decide) (by decide) (.inl (by decide)) hbb, hx2.keep (i := 0) (dst := some 37) (by decide) (by decide) (by decide) (.inl (by decide)) hbb, hx12.keep (i := 0) (dst := some 37) (by decide) (by decide) (by decide) (by decide)⟩, trivial, fun d hd => rfl⟩
          · -- ('fa', 38, 5)
            obtain rfl := Option.some.inj hj
            have t5 : (act.tmps[5]?).getD undef = .pointer (some ⟨w.heap.size + 1, 0, none⟩) := hst.old 5 (by kernel_rfl)
            refine wpOp_of rfl rfl (fun K hK => ?_)
            go_simp
            have hbb := Below.refl u.heap.size u
            refine hK _ _ ⟨_, rfl, ⟨hL.next hbb, hlow.trans (hbb.mono hus), hx1.keep (i := 1) (dst := some 38) (by decide) (by decide) (by decide) (.inl (by decide)) hbb, hx2.keep (i := 1) (dst := some 38) (by decide) (by decide) (by decide) (.inl (by decide)) hbb, hx12.keep (i := 1) (dst := some 38) (by decide) (by decide) (by decide) (by decide)⟩, trivial, fun d hd => rfl⟩
          · -- ('ld', 39, (38, 1))
            obtain rfl := Option.some.inj hj
            have t38 : (act.tmps[38]?).getD undef = .pointer (some ⟨w.heap.size + 1, 0, none⟩) := hst.at hdep 1 38 (by kernel_rfl) (by kernel_rfl)
            have q0 := hL.l0
            have q1 := hL.l1
            refine wpOp_of rfl rfl (fun K hK => ?_)
            go_simp
            have hbb := Below.refl u.heap.size u
            refine hK _ _ ⟨_, rfl, ⟨hL.next hbb, hlow.trans (hbb.mono hus), hx1.keep (i := 2) (dst := some 39) (by decide) (by decide) (by decide) (.inl (by decide)) hbb, hx2.keep (i := 2) (dst := some 39) (by decide) (by decide) (by decide) (.inl (by decide)) hbb, hx12.keep (i := 2) (dst := some 39) (by decide) (by decide) (by decide) (by decide)⟩, trivial, fun d hd => rfl⟩
          · -- ('ix', 40, (37, 0), (39, 2))
            obtain rfl := Option.some.inj hj
            have t37 : (act.tmps[37]?).getD undef = .slice (some ⟨eb, eo, none⟩) es.length C := hst.at hdep 0 37 (by kernel_rfl) (by kernel_rfl)
            have t39 : (act.tmps[39]?).getD undef = .int .i64 (i : Int) := hst.at hdep 2 39 (by kernel_rfl) (by kernel_rfl)
            have g1 : (0 : Int) ≤ (i : Int) := by omega
            have g2 : (i : Int) < (es.length : Int) := by omega
            refine wpOp_of rfl rfl (fun K hK => ?_)
            go_simp
            have hbb := Below.refl u.heap.size u
            refine hK _ _ ⟨_, rfl, ⟨hL.next hbb, hlow.trans (hbb.mono hus), hx1.keep (i := 3) (dst := some 40) (by decide) (by decide) (by decide) (.inl (by decide)) hbb, hx2.keep (i := 3) (dst := some 40) (by decide) (by decide) (by decide) (.inl (by decide)) hbb, hx12.keep (i := 3) (dst := some 40) (by decide) (by decide) (by decide) (by decide)⟩, trivial, fun d hd => rfl⟩
          · -- ('ldE', 41, (40, 3))
            obtain rfl := Option.some.inj hj
            have t40 : (act.tmps[40]?).getD undef = .pointer (some ⟨eb, eo + i * 6, none⟩) := hst.at hdep 3 40 (by kernel_rfl) (by kernel_rfl)
            obtain ⟨e0, e1, e2, e3, e4, e5⟩ := HQ.out
            replace e0 := cell_low hlow e0
            replace e1 := cell_low hlow e1
            replace e2 := cell_low hlow e2
            replace e3 := cell_low hlow e3
            replace e4 := cell_low hlow e4
            replace e5 := cell_low hlow e5
            refine wpOp_of rfl rfl (fun K hK => ?_)
            go_simp
            have hbb := Below.refl u.heap.size u
            refine hK _ _ ⟨_, rfl, ⟨hL.next hbb, hlow.trans (hbb.mono hus), hx1.keep (i := 4) (dst := some 41) (by decide) (by decide) (by decide) (.inl (by decide)) hbb, hx2.keep (i := 4) (dst := some 41) (by decide) (by decide) (by decide) (.inl (by decide)) hbb, hx12.keep (i := 4) (dst := some 41) (by decide) (by decide) (by decide) (by decide)⟩, trivial, fun d hd => rfl⟩
          · -- ('fa', 42, 5)
            obtain rfl := Option.some.inj hj
            have t5 : (act.tmps[5]?).getD undef = .pointer (some ⟨w.heap.size + 1, 0, none⟩) := hst.old 5 (by kernel_rfl)
            refine wpOp_of rfl rfl (fun K hK => ?_)
            go_simp
            have hbb := Below.refl u.heap.size u
            refine hK _ _ ⟨_, rfl, ⟨hL.next hbb, hlow.trans (hbb.mono hus), hx1.keep (i := 5) (dst := some 42) (by decide) (by decide) (by decide) (.inl (by decide)) hbb, hx2.keep (i := 5) (dst := some 42) (by decide) (by decide) (by decide) (.inl (by decide)) hbb, hx12.keep (i := 5) (dst := some 42) (by decide) (by decide) (by decide) (by decide)⟩, trivial, fun d hd => rfl⟩
          · -- ('ld', 43, (42, 5))
            obtain rfl := Option.some.inj hj
            have t42 : (act.tmps[42]?).getD undef = .pointer (some ⟨w.heap.size + 1, 1, none⟩) := hst.at hdep 5 42 (by kernel_rfl) (by kernel_rfl)
            have q0 := hL.l0
            have q1 := hL.l1
            refine wpOp_of rfl rfl (fun K hK => ?_)
            go_simp
            have hbb := Below.refl u.heap.size u
            refine hK _ _ ⟨_, rfl, ⟨hL.next hbb, hlow.trans (hbb.mono hus), hx1.keep (i := 6) (dst := some 43) (by decide) (by decide) (by decide) (.inl (by decide)) hbb, hx2.keep (i := 6) (dst := some 43) (by decide) (by decide) (by decide) (.inl (by decide)) hbb, hx12.keep (i := 6) (dst := some 43) (by decide) (by decide) (by decide) (by decide)⟩, trivial, fun d hd => rfl⟩
          · -- ('call', 44, (41, 4), (43, 6))
            obtain rfl := Option.some.inj hj
            have t41 : (act.tmps[41]?).getD undef = .agg #[.int .i64 es1, .int .i64 ev1, .slice a1 (flen ek1) d1, .int .i64 es2, .int .i64 ev2, .slice a2 (flen ek2) d2] := hst.at hdep 4 41 (by kernel_rfl) (by kernel_rfl)
            have t43 : (act.tmps[43]?).getD undef = .bool back := hst.at hdep 6 43 (by kernel_rfl) (by kernel_rfl)
            refine wpOp_of rfl rfl (fun K hK => ?_)
            go_simp
            with_reducible refine (l11Sides_any es1 ev1 es2 ev2 a1 a2 (flen ek1) d1 (flen ek2) d2 back u).mono ?_
            rintro e u' ⟨he, hbb⟩
            rw [HSD.out] at he
            subst he
            refine hK _ _ ⟨_, rfl, ⟨hL.next hbb, hlow.trans (hbb.mono hus), hx1.keep (i := 7) (dst := some 44) (by decide) (by decide) (by decide) (.inl (by decide)) hbb, hx2.keep (i := 7) (dst := some 44) (by decide) (by decide) (by decide) (.inl (by decide)) hbb, hx12.keep (i := 7) (dst := some 44) (by decide) (by decide) (by decide) (by decide)⟩, trivial, fun d hd => rfl⟩
          · -- ('mvi', 36, (44, 7))
            obtain rfl := Option.some.inj hj
            have t44 : (act.tmps[44]?).getD undef = .tuple #[.agg #[.int .i64 fs, .int .i64 fv, .slice fa (flen fk) fd], .agg #[.int .i64 gs, .int .i64 gv, .slice ga (flen gk) gd]] := hst.at hdep 7 44 (by kernel_rfl) (by kernel_rfl)
            refine wpOp_of rfl rfl (fun K hK => ?_)
            go_simp
            have hbb := Below.refl u.heap.size u
            refine hK _ _ ⟨_, rfl, ⟨hL.next hbb, hlow.trans (hbb.mono hus), hx1.keep (i := 8) (dst := some 36) (by decide) (by decide) (by decide) (.inl (by decide)) hbb, hx2.keep (i := 8) (dst := some 36) (by decide) (by decide) (by decide) (.inl (by decide)) hbb, hx12.keep (i := 8) (dst := some 36) (by decide) (by decide) (by decide) (by decide)⟩, trivial, fun d hd => rfl⟩
          · -- ('ext', 45, (36, 8))
            obtain rfl := Option.some.inj hj
            have t36 : (act.tmps[36]?).getD undef = .tuple #[.agg #[.int .i64 fs, .int .i64 fv, .slice fa (flen fk) fd], .agg #[.int .i64 gs, .int .i64 gv, .slice ga (flen gk) gd]] := hst.at hdep 8 36 (by kernel_rfl) (by kernel_rfl)
            refine wpOp_of rfl rfl (fun K hK => ?_)
            go_simp
            have hbb := Below.refl u.heap.size u
            refine hK _ _ ⟨_, rfl, ⟨hL.next hbb, hlow.trans (hbb.mono hus), hx1.keep (i := 9) (dst := some 45) (by decide) (by decide) (by decide) (.inr (hst.no hun (st := 13) (by kernel_rfl))) hbb, hx2.keep (i := 9) (dst := some 45) (by decide) (by decide) (by decide) (.inl (by decide)) hbb, hx12.keep (i := 9) (dst := some 45) (by decide) (by decide) (by decide) (by decide)⟩, trivial, fun d hd => rfl⟩
          · -- ('ext', 46, (36, 8))
            obtain rfl := Option.some.inj hj
            have t36 : (act.tmps[36]?).getD undef = .tuple #[.agg #[.int .i64 fs, .int .i64 fv, .slice fa (flen fk) fd], .agg #[.int .i64 gs, .int .i64 gv, .slice ga (flen gk) gd]] := hst.at hdep 8 36 (by kernel_rfl) (by kernel_rfl)
            refine wpOp_of rfl rfl (fun K hK => ?_)
            go_simp
            have hbb := Below.refl u.heap.size u
            refine hK _ _ ⟨_, rfl, ⟨hL.next hbb, hlow.trans (hbb.mono hus), hx1.keep (i := 10) (dst := some 46) (by decide) (by decide) (by decide) (.inl (by decide)) hbb, hx2.keep (i := 10) (dst := some 46) (by decide) (by decide) (by decide) (.inr (hst.no hun (st := 14) (by kernel_rfl))) hbb, hx12.keep (i := 10) (dst := some 46) (by decide) (by decide) (by decide) (by decide)⟩, trivial, fun d hd => rfl⟩
          · -- ('al', 8)
            obtain rfl := Option.some.inj hj
            refine wpOp_of rfl rfl (fun K hK => ?_)
            go_simp
            have hbb := box_low u (.cells #[.int .i64 0, .int .i64 0, .slice none 0 0] 35)
            have hts : act.tmps.size = 78 := hst.size
            refine hK _ _ ⟨_, rfl, ⟨hL.next hbb, hlow.trans (hbb.mono hus), Bx.make (by omega) (hst.no hun (st := 13) (by kernel_rfl)) (by decide) hus, hx2.keep (i := 11) (dst := some 8) (by decide) (by decide) (by decide) (.inl (by decide)) hbb, Bx2.make1 hx2 (by decide) (by decide) (by omega)⟩, trivial, fun d hd => trivial⟩
          · -- ('al', 9)
            obtain rfl := Option.some.inj hj
            refine wpOp_of rfl rfl (fun K hK => ?_)
            go_simp
            have hbb := box_low u (.cells #[.int .i64 0, .int .i64 0, .slice none 0 0] 35)
            have hts : act.tmps.size = 78 := hst.size
            refine hK _ _ ⟨_, rfl, ⟨hL.next hbb, hlow.trans (hbb.mono hus), hx1.keep (i := 12) (dst := some 9) (by decide) (by decide) (by decide) (.inl (by decide)) hbb, Bx.make (by omega) (hst.no hun (st := 14) (by kernel_rfl)) (by decide) hus, Bx2.make2 hx1 (by decide) (by decide) (by omega)⟩, trivial, fun d hd => trivial⟩
          · -- ('st', 8, 45, 11, 9, 13)
            obtain rfl := Option.some.inj hj
            have hal : listed.getD 11 false = true := hst.dep hdep 11 (by kernel_rfl) (by decide)
            have tv : (act.tmps[45]?).getD undef = .agg #[.int .i64 fs, .int .i64 fv, .slice fa (flen fk) fd] := hst.at hdep 9 45 (by kernel_rfl) (by kernel_rfl)
            obtain ⟨b, tb, q1, q2, q3, q4, q5⟩ := hx1 hal
            obtain ⟨p0, c0⟩ := q3 0 (by omega)
            obtain ⟨p1, c1⟩ := q3 1 (by omega)
            obtain ⟨p2, c2⟩ := q3 2 (by omega)
            have f0 := q4 0
            have f1 := q4 1
            have f2 := q4 2
            refine wpOp_of rfl rfl (fun K hK => ?_)
            go_simp
            refine hK _ _ ⟨undef, rfl, ⟨hL.s3 (by omega) (.int .i64 fs) (.int .i64 fv) (.slice fa (flen fk) fd), s3_low hlow q1 _ _ _, hx1.fill hal tb tv, hx2.other (i := 13) (by decide) (by decide) (fun h1 h2 => hx12 hal h1 (tb.trans h2.symm)), hx12.keep (i := 13) (dst := none) (v := undef) (by decide) (by decide) (by decide) (by decide)⟩, trivial, fun d hd => by cases hd⟩
          · -- ('st', 9, 46, 12, 10, 14)
            obtain rfl := Option.some.inj hj
            have hal : listed.getD 12 false = true := hst.dep hdep 12 (by kernel_rfl) (by decide)
            have tv : (act.tmps[46]?).getD undef = .agg #[.int .i64 gs, .int .i64 gv, .slice ga (flen gk) gd] := hst.at hdep 10 46 (by kernel_rfl) (by kernel_rfl)
            obtain ⟨b, tb, q1, q2, q3, q4, q5⟩ := hx2 hal
            obtain ⟨p0, c0⟩ := q3 0 (by omega)
            obtain ⟨p1, c1⟩ := q3 1 (by omega)
            obtain ⟨p2, c2⟩ := q3 2 (by omega)
            have f0 := q4 0
            have f1 := q4 1
            have f2 := q4 2
            refine wpOp_of rfl rfl (fun K hK => ?_)
            go_simp
            refine hK _ _ ⟨undef, rfl, ⟨hL.s3 (by omega) (.int .i64 gs) (.int .i64 gv) (.slice ga (flen gk) gd), s3_low hlow q1 _ _ _, hx1.other (i := 14) (by decide) (by decide) (fun h1 h2 => hx12 h1 hal (h2.trans tb.symm)), hx2.fill hal tb tv, hx12.keep (i := 14) (dst := none) (v := undef) (by decide) (by decide) (by decide) (by decide)⟩, trivial, fun d hd => by cases hd⟩
        · intro listed act u hst hall
          obtain ⟨hL, hlow, hx1, hx2, hx12⟩ := hst.s
          have t0 : (act.tmps[0]?).getD undef = .slice (some ⟨eb, eo, none⟩) es.length C := hst.old 0 (by kernel_rfl)
          have t4 : (act.tmps[4]?).getD undef = .pointer (some ⟨w.heap.size, 0, none⟩) := hst.old 4 (by kernel_rfl)
          have t5 : (act.tmps[5]?).getD undef = .pointer (some ⟨w.heap.size + 1, 0, none⟩) := hst.old 5 (by kernel_rfl)
          have t6 : (act.tmps[6]?).getD undef = .pointer (some ⟨w.heap.size + 1 + 1, 0, none⟩) := hst.old 6 (by kernel_rfl)
          obtain ⟨b8, t8, b8q1, b8q2, _, _, b8q⟩ := hx1 (hall 11 (by decide))
          obtain ⟨y0, y1, y2, y3, b8c0, b8c1, b8c2⟩ := b8q (hall 13 (by decide))
          have tv8 : (act.tmps[45]?).getD undef = .agg #[.int .i64 fs, .int .i64 fv, .slice fa (flen fk) fd] := hst.fin hall 9 45 (by kernel_rfl)
          rw [tv8] at y3
          simp only [Value.agg.injEq, Array.mk.injEq, List.cons.injEq, and_true] at y3
          obtain ⟨rfl, rfl, rfl⟩ := y3
          clear b8q tv8
          obtain ⟨b9, t9, b9q1, b9q2, _, _, b9q⟩ := hx2 (hall 12 (by decide))
          obtain ⟨y0, y1, y2, y3, b9c0, b9c1, b9c2⟩ := b9q (hall 14 (by decide))
          have tv9 : (act.tmps[46]?).getD undef = .agg #[.int .i64 gs, .int .i64 gv, .slice ga (flen gk) gd] := hst.fin hall 10 46 (by kernel_rfl)
          rw [tv9] at y3
          simp only [Value.agg.injEq, Array.mk.injEq, List.cons.injEq, and_true] at y3
          obtain ⟨rfl, rfl, rfl⟩ := y3
          clear b9q tv9
          have hdf : act.defers = [] := hst.defers
          have hts : act.tmps.size = 78 := hst.size
          clear hst hx1 hx2 hx12 hall
          obtain ⟨tm, df⟩ := act
          dsimp only at hdf hts t0 t4 t5 t6 t8 t9
          subst hdf
          obtain ⟨x0, x1, x2, x3, x4, x5, x6, x7, x8, x9, x10, x11, x12, x13, x14, x15, x16, x17, x18, x19, x20, x21, x22, x23, x24, x25, x26, x27, x28, x29, x30, x31, x32, x33, x34, x35, x36, x37, x38, x39, x40, x41, x42, x43, x44, x45, x46, x47, x48, x49, x50, x51, x52, x53, x54, x55, x56, x57, x58, x59, x60, x61, x62, x63, x64, x65, x66, x67, x68, x69, x70, x71, x72, x73, x74, x75, x76, x77, rfl⟩ := arr78 hts
          clear hts
          obtain rfl : x0 = _ := t0
          obtain rfl : x4 = _ := t4
          obtain rfl : x5 = _ := t5
          obtain rfl : x6 = _ := t6
          obtain rfl : x8 = _ := t8
          obtain rfl : x9 = _ := t9
          have HU := Lib.hid hL
          have HUL := Lib.hid hlow
          have HF8 := Lib.hid (And.intro b8c0 (And.intro b8c1 b8c2))
          have HF9 := Lib.hid (And.intro b9c0 (And.intro b9c1 b9c2))
          have hus := hlow.size
          clear hL hlow b8c0 b8c1 b8c2 b9c0 b9c1 b9c2 HQ HS4
          have q0 := HU.out.t0
          have q1 := HU.out.t1
          have q2 := HU.out.t2
          have q3 := HU.out.l2
          have HP5 : Hid (ISl u 0 u.heap.size pA place) := ISl.next (show ISl w 0 w.heap.size pA place ∧ _ from HP.out).1 HU.out.low
          go_wp2_with fail
          with_reducible refine (l1At_any s v a c k pA pC place _ (HL.out.next HU.out.low) HP5.out hpl (by omega)).mono ?_
          rintro e w6 ⟨hb6, hcase⟩
          have HU6 := Lib.hid (HU.out.next hb6)
          have HG8 : Hid _ := Lib.hid (And.intro (cell_low hb6 HF8.out.1) (And.intro (cell_low hb6 HF8.out.2.1) (cell_low hb6 HF8.out.2.2)))
          have HG9 : Hid _ := Lib.hid (And.intro (cell_low hb6 HF9.out.1) (And.intro (cell_low hb6 HF9.out.2.1) (cell_low hb6 HF9.out.2.2)))
          have HL6 := Lib.hid (below_next HUL.out hb6)
          have hs6 := hb6.size
          clear q0 q1 q2 q3
          rcases hcase with ⟨hs', hv', hk', ha', hc', hfat, rfl, hslh⟩ | ⟨hfat, rfl⟩
          rotate_left
          · have HRR : Hid (lkR es (s, v, k) ((i : Int), back, place, bs) = none) := HLK.out.trans (lkAt_none hfat)
            clear HF8 HF9 HG8 HG9 HU hb6 HP5
            go_wp2_with fail
            have HU7 := Lib.hid (HU6.out.next (box_low w6 (.cells #[.int .i64 0, .int .i64 0, .slice none 0 0] 35)))
            refine wp_region_mix (fun w' => ∃ u : After (w6.alloc (.cells #[.int .i64 0, .int .i64 0, .slice none 0 0] 35)).heap.size (w6.alloc (.cells #[.int .i64 0, .int .i64 0, .slice none 0 0] 35)), w' = u.world) [] [(0, 0), (1, 0), (2, 0), (3, 0), (4, 0), (5, 0), (6, 0), (7, 0), (8, 0), (9, 0), (10, 0)] (by kernel_rfl) (by kernel_rfl) ⟨⟨_, (Below.refl _ _).drew⟩, rfl⟩ ?_
            iterate 11
              refine mix_see rfl (fun K hK => ?_)
              go_simp
              first | exact hK _ ?_ | refine hK _ ?_
              clear hK K
            refine mix_end ?_
            have HU8 := Lib.hid (HU7.out.next (Below.refl (w6.alloc (.cells #[.int .i64 0, .int .i64 0, .slice none 0 0] 35)).heap.size (w6.alloc (.cells #[.int .i64 0, .int .i64 0, .slice none 0 0] 35))).drew)
            generalize (w6.alloc (.cells #[.int .i64 0, .int .i64 0, .slice none 0 0] 35)).drew = wz at *
            obtain ⟨r0, r1, r2, f0, f1, f2⟩ : _ ∧ _ ∧ _ ∧ _ ∧ _ ∧ _ := ⟨HU8.out.r0, HU8.out.r1, HU8.out.r2, HU8.out.f 0, HU8.out.f 1, HU8.out.f 2⟩
            go_wp2_with fail
            refine bodyPost_ret (v := .tuple #[.agg #[.int .i64 0, .int .i64 0, .slice none 0 0], .bool false]) ?_ rfl (lk_end (k := .nil) (ans_none HRR.out) HU8.out.low (.inl rfl) _ _ _)
            simp [results, Try.results13, go_sem, r0, r1, r2]
          have hfo := fat_ok place s v k ((okW_iff _ _ _ _).1 HBG.out).1 ((okW_iff _ _ _ _).1 HBG.out).2.1 hfat
          obtain ⟨hfo1, hfo2, hfo3⟩ := hfo
          have HFAT := Lib.hid hfat
          have hb7 := box_low w6 (.cells #[.int .i64 hs', .int .i64 hv', .slice ha' (flen hk') hc'] 35)
          have HU7 := Lib.hid (HU6.out.next hb7)
          have hg80 := cell_low hb7 HG8.out.1
          have hg81 := cell_low hb7 HG8.out.2.1
          have hg82 := cell_low hb7 HG8.out.2.2
          have hg90 := cell_low hb7 HG9.out.1
          have hg91 := cell_low hb7 HG9.out.2.1
          have hg92 := cell_low hb7 HG9.out.2.2
          have hh0 : (w6.alloc (.cells #[.int .i64 hs', .int .i64 hv', .slice ha' (flen hk') hc'] 35)).cell? ⟨w6.heap.size, 0, none⟩ = some (.int .i64 hs') := by rw [World.cell?_alloc_at _ _ _ _ (by simp)]; rfl
          have hh1 : (w6.alloc (.cells #[.int .i64 hs', .int .i64 hv', .slice ha' (flen hk') hc'] 35)).cell? ⟨w6.heap.size, 1, none⟩ = some (.int .i64 hv') := by rw [World.cell?_alloc_at _ _ _ _ (by simp)]; rfl
          have hh2 : (w6.alloc (.cells #[.int .i64 hs', .int .i64 hv', .slice ha' (flen hk') hc'] 35)).cell? ⟨w6.heap.size, 2, none⟩ = some (.slice ha' (flen hk') hc') := by rw [World.cell?_alloc_at _ _ _ _ (by simp)]; rfl
          have HL7 := Lib.hid (below_next HL6.out hb7)
          have hsu : Sl u 0 u.heap.size ha' hk' := hslh
          have HSLH := Lib.hid ((hsu.next hb6).next hb7)
          go_wp2_with fail
          generalize (w6.alloc (.cells #[.int .i64 hs', .int .i64 hv', .slice ha' (flen hk') hc'] 35)) = w7 at *
          clear HF8 HF9 HG8 HG9 HU HU6 hb6 hb7 HP5 HL6 hslh hsu hfat HUL
          have hl3 := HU7.out.l3
          have hu0 : ∀ u : After w7.heap.size w7, u.world.cell? ⟨w6.heap.size, 0, none⟩ = some (.int .i64 hs') := fun u => cell_low u.below hh0
          have hu1 : ∀ u : After w7.heap.size w7, u.world.cell? ⟨w6.heap.size, 1, none⟩ = some (.int .i64 hv') := fun u => cell_low u.below hh1
          have hu2 : ∀ u : After w7.heap.size w7, u.world.cell? ⟨w6.heap.size, 2, none⟩ = some (.slice ha' (flen hk') hc') := fun u => cell_low u.below hh2
          have hu3 : ∀ u : After w7.heap.size w7, u.world.cell? ⟨w.heap.size + 1, 3, none⟩ = some (.slice B bs.length D) := fun u => cell_low u.below hl3
          have hu4 : ∀ u : After w7.heap.size w7, u.world.cell? ⟨b8, 0, none⟩ = some (.int .i64 fs) := fun u => cell_low u.below hg80
          have hu5 : ∀ u : After w7.heap.size w7, u.world.cell? ⟨b8, 1, none⟩ = some (.int .i64 fv) := fun u => cell_low u.below hg81
          have hu6 : ∀ u : After w7.heap.size w7, u.world.cell? ⟨b8, 2, none⟩ = some (.slice fa (flen fk) fd) := fun u => cell_low u.below hg82
          clear hl3 hh0 hh1 hh2 hg80 hg81 hg82
          refine wp_region_mix (fun w' => ∃ u : After w7.heap.size w7, w' = u.world) [] [(0, 0), (1, 0), (2, 0), (3, 0), (4, 0), (5, 0), (6, 0), (7, 1), (8, 1), (9, 0), (10, 0)] (by kernel_rfl) (by kernel_rfl) ⟨⟨_, (Below.refl _ _).drew⟩, rfl⟩ ?_
          have HBD : Hid (Below w7.heap.size w7 w7.drew) := (Below.refl _ _).drew
          generalize w7.drew = wd at *
          iterate 7
            refine mix_see rfl (fun K hK => ?_)
            go_simp
            refine hK _ ?_
            clear hK K
          clear hu0 hu1 hu2 hu3 hu4 hu5 hu6
          obtain ⟨hok1, hok2, hok3⟩ := (okW_iff _ _ _ _).1 HSO2.out.1
          dsimp only at hok1 hok2 hok3
          have HSV : Hid (∀ x t, sv bs x = some t → fsz t.2.2 ≤ 1000000) := fun x t ht => by have := ((okW_iff _ _ _ _).1 (sok_ok HSO.out ht)).2.2; omega
          have HBS7 := Lib.hid (BSl.next (BSl.next HB.out HU7.out.low) HBD.out)
          have HFL7 := Lib.hid (Sl.next (Sl.next HFL.out HL7.out) HBD.out)
          refine mix_hold rfl (fun K hK => ?_)
          go_simp
          with_reducible refine (l2Put_any bs B D (by omega) HSV.out 1000 fs fv fa fd fk _ HBS7.out HFL7.out hok1 hok2 (by omega) (Nat.le_refl _)).mono ?_
          rintro e wp ⟨pa, pc, rfl, hbp, hown⟩
          have HWN := Lib.hid hown.sl
          have hbd2 := HBD.out.trans (hbp.mono HBD.out.size)
          have HSLH2 := Lib.hid (Sl.next (Sl.next HSLH.out HBD.out) hbp)
          have hpsz := put3_small HSO.out HSO2.out.1
          unfold put3 at hpsz
          dsimp only at hpsz
          refine hK _ _ ⟨⟨_, hbd2⟩, rfl⟩ ?_
          clear hK K hown
          refine mix_hold rfl (fun K hK => ?_)
          go_simp
          with_reducible refine (l1Same_any (fsz hk') hs' hv' ha' hc' hk' _ _ pa pc _ _ HSLH2.out (HWN.out.mono (Nat.zero_le _) (Nat.le_refl _)) (Nat.le_refl _) (by omega)).mono ?_
          rintro e wq ⟨rfl, hbq⟩
          have hbd3 := hbd2.trans (hbq.mono hbd2.size)
          refine hK _ _ ⟨⟨_, hbd3⟩, rfl⟩ ?_
          clear hK K hbp hbq hbd2 HSLH2 HWN hpsz HBS7 HFL7 HBD
          obtain ⟨te, hte⟩ : ∃ te, te = teq hs' hv' hk' (tsub (sv bs) fs fv fk).1 (tsub (sv bs) fs fv fk).2.1 (tsub (sv bs) fs fv fk).2.2 := ⟨_, rfl⟩
          rw [← hte]
          have HTE := Lib.hid hte
          clear hte
          iterate 2
            refine mix_see rfl (fun K hK => ?_)
            go_simp
            refine hK _ ?_
            clear hK K
          refine mix_end ?_
          have HU9 := Lib.hid (HU7.out.next hbd3)
          have HL9 := Lib.hid (below_next HL7.out hbd3)
          have hh90 := cell_low hbd3 hg90
          have hh91 := cell_low hbd3 hg91
          have hh92 := cell_low hbd3 hg92
          clear hbd3 HU7 HL7 hg90 hg91 hg92 HSLH
          cases te with
          | false =>
            have HRR : Hid (lkR es (s, v, k) ((i : Int), back, place, bs) = none) := HLK.out.trans (lkAt_other HFAT.out HTE.out.symm)
            clear hh90 hh91 hh92
            obtain ⟨r0, r1, r2, f0, f1, f2⟩ : _ ∧ _ ∧ _ ∧ _ ∧ _ ∧ _ := ⟨HU9.out.r0, HU9.out.r1, HU9.out.r2, HU9.out.f 0, HU9.out.f 1, HU9.out.f 2⟩
            go_wp2_with fail
            refine bodyPost_ret (v := .tuple #[.agg #[.int .i64 0, .int .i64 0, .slice none 0 0], .bool false]) ?_ rfl (lk_end (k := .nil) (ans_none HRR.out) HU9.out.low (.inl rfl) _ _ _)
            simp [results, Try.results13, go_sem, r0, r1, r2]
          | true =>
            obtain ⟨⟨os, ov, ok⟩, hout⟩ : ∃ o, fput s v k place (put3 (sv bs) (gs, gv, gk)) = some o := by
              have := fput_there place s v k (put3 (sv bs) (gs, gv, gk))
              rw [HFAT.out] at this
              exact Option.isSome_iff_exists.1 this
            have HOUT : Hid (lkR es (s, v, k) ((i : Int), back, place, bs) = if okT3 64 (os, ov, ok) = true then some (os, ov, ok) else none) := HLK.out.trans (lkAt_out HFAT.out HTE.out.symm hout)
            have hgsz := put3_small HSO.out HSO2.out.2
            have HFP := Lib.hid hout
            obtain ⟨hok1', hok2', hok3'⟩ := (okW_iff _ _ _ _).1 HSO2.out.2
            dsimp only at hok1' hok2' hok3'
            have HGS := Lib.hid (show fsz (tsub (sv bs) gs gv gk).2.2 ≤ 1000 from hgsz)
            have hsq := HL9.out.size
            have HB9 := Lib.hid (BSl.next HB.out HU9.out.low)
            have HG9' := Lib.hid (Sl.next HGL.out HL9.out)
            have HT9 := Lib.hid (Sl.next HL.out HU9.out.low)
            have HP9 := Lib.hid (ISc.next HP.out HU9.out.low)
            have HH9 := Lib.hid (And.intro hh90 (And.intro hh91 hh92))
            have hwq := HU9.out.size
            clear hout hgsz hh90 hh91 hh92 hok1 hok2 hok3 hfo1 hfo2 hfo3 HFL HSD HX HE4 HL HE HP HB HGL
            go_wp2_with fail
            refine wp_region_typed (fun j x _ => match ([some (.agg #[.int .i64 s, .int .i64 v, .slice a (flen k) c]), some (.pointer (some ⟨w.heap.size + 1, 2, none⟩)), some (.slice pA place.length pC), some (.pointer (some ⟨w.heap.size + 1, 3, none⟩)), some (.slice B bs.length D), some (.agg #[.int .i64 gs, .int .i64 gv, .slice ga (flen gk) gd]), none, none, none, none] : List (Option Value)).getD j none with | some y => x = y | none => True) (fun listed act u => LdS w s v (.slice a (flen k) c) (i : Int) back (.slice pA place.length pC) (.slice B bs.length D) u ∧ Below wq.heap.size wq u ∧ Bx 8 9 12 73 wq.heap.size listed act u ∧ Tr1 8 12 6 72 wq.heap.size (tsub (sv bs) gs gv gk) listed act u ∧ Tr1 8 12 7 73 wq.heap.size (os, ov, ok) listed act u) (fun _ _ => True) (by kernel_rfl) (by kernel_rfl) (fun j x u u' h _ => h) ⟨HU9.out.next (Below.refl _ _).drew, (Below.refl _ _).drew, Bx.start, Tr1.start, Tr1.start⟩ ?_ ?_
            · intro j o hj listed act u hst hun hdep
              have hin2 : j < 10 := (Array.getElem?_eq_some_iff.1 hj).1
              obtain ⟨hL, hlow, hx1, hr1, hr2⟩ := hst.s
              have hus := hlow.size
              have h16 : j = 0 ∨ j = 1 ∨ j = 2 ∨ j = 3 ∨ j = 4 ∨ j = 5 ∨ j = 6 ∨ j = 7 ∨ j = 8 ∨ j = 9 := by omega
              rcases h16 with rfl | rfl | rfl | rfl | rfl | rfl | rfl | rfl | rfl | rfl
              · -- ('ldT', 66)
                obtain rfl := Option.some.inj hj
                have t4 : (act.tmps[4]?).getD undef = .pointer (some ⟨w.heap.size, 0, none⟩) := hst.old 4 (by kernel_rfl)
                have q0 := hL.t0
                have q1 := hL.t1
                have q2 := hL.t2
                refine wpOp_of rfl rfl (fun K hK => ?_)
                go_simp
                have hbb := Below.refl u.heap.size u
                refine hK _ _ ⟨_, rfl, ⟨hL.next hbb, hlow.trans (hbb.mono hus), hx1.keep (i := 0) (dst := some 66) (by decide) (by decide) (by decide) (.inl (by decide)) hbb, hr1.keep (i := 0) (dst := some 66) (by decide) (by decide) (by decide) (by decide) hbb, hr2.keep (i := 0) (dst := some 66) (by decide) (by decide) (by decide) (by decide) hbb⟩, trivial, fun d hd => rfl⟩
              · -- ('fa', 67)
                obtain rfl := Option.some.inj hj
                have t5 : (act.tmps[5]?).getD undef = .pointer (some ⟨w.heap.size + 1, 0, none⟩) := hst.old 5 (by kernel_rfl)
                refine wpOp_of rfl rfl (fun K hK => ?_)
                go_simp
                have hbb := Below.refl u.heap.size u
                refine hK _ _ ⟨_, rfl, ⟨hL.next hbb, hlow.trans (hbb.mono hus), hx1.keep (i := 1) (dst := some 67) (by decide) (by decide) (by decide) (.inl (by decide)) hbb, hr1.keep (i := 1) (dst := some 67) (by decide) (by decide) (by decide) (by decide) hbb, hr2.keep (i := 1) (dst := some 67) (by decide) (by decide) (by decide) (by decide) hbb⟩, trivial, fun d hd => rfl⟩
              · -- ('ld', 68, (67, 1))
                obtain rfl := Option.some.inj hj
                have t67 : (act.tmps[67]?).getD undef = .pointer (some ⟨w.heap.size + 1, 2, none⟩) := hst.at hdep 1 67 (by kernel_rfl) (by kernel_rfl)
                have q2 := hL.l2
                have q3 := hL.l3
                refine wpOp_of rfl rfl (fun K hK => ?_)
                go_simp
                have hbb := Below.refl u.heap.size u
                refine hK _ _ ⟨_, rfl, ⟨hL.next hbb, hlow.trans (hbb.mono hus), hx1.keep (i := 2) (dst := some 68) (by decide) (by decide) (by decide) (.inl (by decide)) hbb, hr1.keep (i := 2) (dst := some 68) (by decide) (by decide) (by decide) (by decide) hbb, hr2.keep (i := 2) (dst := some 68) (by decide) (by decide) (by decide) (by decide) hbb⟩, trivial, fun d hd => rfl⟩
              · -- ('fa', 69)
                obtain rfl := Option.some.inj hj
                have t5 : (act.tmps[5]?).getD undef = .pointer (some ⟨w.heap.size + 1, 0, none⟩) := hst.old 5 (by kernel_rfl)
                refine wpOp_of rfl rfl (fun K hK => ?_)
                go_simp
                have hbb := Below.refl u.heap.size u
                refine hK _ _ ⟨_, rfl, ⟨hL.next hbb, hlow.trans (hbb.mono hus), hx1.keep (i := 3) (dst := some 69) (by decide) (by decide) (by decide) (.inl (by decide)) hbb, hr1.keep (i := 3) (dst := some 69) (by decide) (by decide) (by decide) (by decide) hbb, hr2.keep (i := 3) (dst := some 69) (by decide) (by decide) (by decide) (by decide) hbb⟩, trivial, fun d hd => rfl⟩
              · -- ('ld', 70, (69, 3))
                obtain rfl := Option.some.inj hj
                have t69 : (act.tmps[69]?).getD undef = .pointer (some ⟨w.heap.size + 1, 3, none⟩) := hst.at hdep 3 69 (by kernel_rfl) (by kernel_rfl)
                have q2 := hL.l2
                have q3 := hL.l3
                refine wpOp_of rfl rfl (fun K hK => ?_)
                go_simp
                have hbb := Below.refl u.heap.size u
                refine hK _ _ ⟨_, rfl, ⟨hL.next hbb, hlow.trans (hbb.mono hus), hx1.keep (i := 4) (dst := some 70) (by decide) (by decide) (by decide) (.inl (by decide)) hbb, hr1.keep (i := 4) (dst := some 70) (by decide) (by decide) (by decide) (by decide) hbb, hr2.keep (i := 4) (dst := some 70) (by decide) (by decide) (by decide) (by decide) hbb⟩, trivial, fun d hd => rfl⟩
              · -- ('ldG', 71)
                obtain rfl := Option.some.inj hj
                have t9 : (act.tmps[9]?).getD undef = .pointer (some ⟨b9, 0, none⟩) := hst.old 9 (by kernel_rfl)
                obtain ⟨h0, h1, h2⟩ := HH9.out
                replace h0 := cell_low hlow h0
                replace h1 := cell_low hlow h1
                replace h2 := cell_low hlow h2
                refine wpOp_of rfl rfl (fun K hK => ?_)
                go_simp
                have hbb := Below.refl u.heap.size u
                refine hK _ _ ⟨_, rfl, ⟨hL.next hbb, hlow.trans (hbb.mono hus), hx1.keep (i := 5) (dst := some 71) (by decide) (by decide) (by decide) (.inl (by decide)) hbb, hr1.keep (i := 5) (dst := some 71) (by decide) (by decide) (by decide) (by decide) hbb, hr2.keep (i := 5) (dst := some 71) (by decide) (by decide) (by decide) (by decide) hbb⟩, trivial, fun d hd => rfl⟩
              · -- ('put', 72)
                obtain rfl := Option.some.inj hj
                have t70 : (act.tmps[70]?).getD undef = .slice B bs.length D := hst.at hdep 4 70 (by kernel_rfl) (by kernel_rfl)
                have t71 : (act.tmps[71]?).getD undef = .agg #[.int .i64 gs, .int .i64 gv, .slice ga (flen gk) gd] := hst.at hdep 5 71 (by kernel_rfl) (by kernel_rfl)
                refine wpOp_of rfl rfl (fun K hK => ?_)
                go_simp
                have hbu := BSl.next HB9.out hlow
                have hgu := Sl.next HG9'.out hlow
                with_reducible refine (l2Put_any bs B D (by omega) HSV.out 1000 gs gv ga gd gk _ hbu hgu hok1' hok2' (by omega) (Nat.le_refl _)).mono ?_
                rintro e u' ⟨pa, pc, rfl, hbb, hown⟩
                have hts : act.tmps.size = 78 := hst.size
                refine hK _ _ ⟨_, rfl, ⟨hL.next hbb, hlow.trans (hbb.mono hus), hx1.keep (i := 6) (dst := some 72) (by decide) (by decide) (by decide) (.inl (by decide)) hbb, Tr1.make hx1 (by decide) (by decide) (by omega) hus hown.sl, hr2.keep (i := 6) (dst := some 72) (by decide) (by decide) (by decide) (by decide) hbb⟩, trivial, fun d hd => trivial⟩
              · -- ('lput', 73)
                obtain rfl := Option.some.inj hj
                have t66 : (act.tmps[66]?).getD undef = .agg #[.int .i64 s, .int .i64 v, .slice a (flen k) c] := hst.at hdep 0 66 (by kernel_rfl) (by kernel_rfl)
                have t68 : (act.tmps[68]?).getD undef = .slice pA place.length pC := hst.at hdep 2 68 (by kernel_rfl) (by kernel_rfl)
                obtain ⟨pa, pc, pL, pH, t72, hpsl, hp1, hp2, _⟩ := hr1 (hst.dep hdep 6 (by kernel_rfl) (by decide))
                refine wpOp_of rfl rfl (fun K hK => ?_)
                go_simp
                have htu := Sl.next HT9.out hlow
                have hpu : ISc u 0 u.heap.size pA pC place := ISc.next HP9.out hlow
                with_reducible refine (l1Put_any _ _ pa pc _ HGS.out place s v a c k pA pC os ov ok _ htu hpu hpl (hpsl.mono (Nat.zero_le _) hp2) (by omega) HFP.out).mono ?_
                rintro e u' ⟨qa, qc, rfl, hbb, hqs⟩
                have hts : act.tmps.size = 78 := hst.size
                refine hK _ _ ⟨_, rfl, ⟨hL.next hbb, hlow.trans (hbb.mono hus), hx1.keep (i := 7) (dst := some 73) (by decide) (by decide) (by decide) (.inr (hst.no hun (st := 9) (by kernel_rfl))) hbb, hr1.keep (i := 7) (dst := some 73) (by decide) (by decide) (by decide) (by decide) hbb, Tr1.make (t := (os, ov, ok)) hx1 (by decide) (by decide) (by omega) hus hqs⟩, trivial, fun d hd => trivial⟩
              · -- ('al', 12)
                obtain rfl := Option.some.inj hj
                refine wpOp_of rfl rfl (fun K hK => ?_)
                go_simp
                have hts : act.tmps.size = 78 := hst.size
                have hbb := box_low u (.cells #[.int .i64 0, .int .i64 0, .slice none 0 0] 35)
                refine hK _ _ ⟨_, rfl, ⟨hL.next hbb, hlow.trans (hbb.mono hus), Bx.make (by omega) (hst.no hun (st := 9) (by kernel_rfl)) (by decide) hus, hr1.box (by decide) (by decide) (by omega), hr2.box (by decide) (by decide) (by omega)⟩, trivial, fun d hd => trivial⟩
              · -- ('st',)
                obtain rfl := Option.some.inj hj
                have hal : listed.getD 8 false = true := hst.dep hdep 8 (by kernel_rfl) (by decide)
                obtain ⟨qa, qc, qL, qH, t73, hqsl, _, _, _⟩ := hr2 (hst.dep hdep 7 (by kernel_rfl) (by decide))
                dsimp only at t73
                obtain ⟨b, tb, q1, q2, q3, q4, q5⟩ := hx1 hal
                obtain ⟨p0, c0⟩ := q3 0 (by omega)
                obtain ⟨p1, c1⟩ := q3 1 (by omega)
                obtain ⟨p2, c2⟩ := q3 2 (by omega)
                have f0 := q4 0
                have f1 := q4 1
                have f2 := q4 2
                refine wpOp_of rfl rfl (fun K hK => ?_)
                go_simp
                refine hK _ _ ⟨undef, rfl, ⟨hL.s3 (by omega) (.int .i64 os) (.int .i64 ov) (.slice qa (flen ok) qc), s3_low hlow q1 _ _ _, hx1.fill hal tb t73, hr1.fill (i := 9) (by decide) (by decide) hal tb, hr2.fill (i := 9) (by decide) (by decide) hal tb⟩, trivial, fun d hd => by cases hd⟩
            · intro listed act u hst hall
              obtain ⟨hL, hlow, hx1, hr1, hr2⟩ := hst.s
              have t6 : (act.tmps[6]?).getD undef = .pointer (some ⟨w.heap.size + 1 + 1, 0, none⟩) := hst.old 6 (by kernel_rfl)
              obtain ⟨qa, qc, qL, qH, t73, hqsl, hqL, hqH, _⟩ := hr2 (hall 7 (by decide))
              dsimp only at t73 hqsl
              obtain ⟨b12, t12, _, hb12, _, _, hq12⟩ := hx1 (hall 8 (by decide))
              obtain ⟨y0, y1, y2, y3, d0, d1, d2⟩ := hq12 (hall 9 (by decide))
              rw [t73] at y3
              simp only [Value.agg.injEq, Array.mk.injEq, List.cons.injEq, and_true] at y3
              obtain ⟨rfl, rfl, rfl⟩ := y3
              have hdf : act.defers = [] := hst.defers
              have hts : act.tmps.size = 78 := hst.size
              clear hst hx1 hr1 hr2 hall hq12 t73
              obtain ⟨tm, df⟩ := act
              dsimp only at hdf hts t6 t12
              subst hdf
              obtain ⟨z0, z1, z2, z3, z4, z5, z6, z7, z8, z9, z10, z11, z12, z13, z14, z15, z16, z17, z18, z19, z20, z21, z22, z23, z24, z25, z26, z27, z28, z29, z30, z31, z32, z33, z34, z35, z36, z37, z38, z39, z40, z41, z42, z43, z44, z45, z46, z47, z48, z49, z50, z51, z52, z53, z54, z55, z56, z57, z58, z59, z60, z61, z62, z63, z64, z65, z66, z67, z68, z69, z70, z71, z72, z73, z74, z75, z76, z77, rfl⟩ := arr78 hts
              clear hts
              obtain rfl : z6 = _ := t6
              obtain rfl : z12 = _ := t12
              have HU := Lib.hid hL
              have hlo := hlow.size
              have HQ : Hid (Sl u 0 u.heap.size qa ok) := hqsl.mono (Nat.zero_le _) hqH
              have HQ3 : Hid (Sl u (w.heap.size + 3) u.heap.size qa ok) := hqsl.mono (by omega) hqH
              clear hL hlow hqsl HU9 HL9 HH9 HB9 HG9' HT9 HP9
              go_wp2_with fail
              with_reducible refine (l2BigG_any os ov qa qc ok _ HQ.out).mono ?_
              rintro e wk ⟨rfl, hbk⟩
              have HUK := Lib.hid (HU.out.next hbk)
              have HK3 : Hid (Sl wk (w.heap.size + 3) wk.heap.size qa ok) := (HQ3.out.below hbk).mono (Nat.le_refl _) hbk.size
              have k0 := cell_low hbk d0
              have k1 := cell_low hbk d1
              have k2 := cell_low hbk d2
              clear hbk d0 d1 d2 HU HQ HQ3
              cases hok64 : okW os ov ok 64 with
              | false =>
                have HRR : Hid (lkR es (s, v, k) ((i : Int), back, place, bs) = none) := by rw [Hid, HOUT.out, if_neg (by simp [okT3, hok64])]
                clear hok64 k0 k1 k2
                obtain ⟨r0, r1, r2, f0, f1, f2⟩ : _ ∧ _ ∧ _ ∧ _ ∧ _ ∧ _ := ⟨HUK.out.r0, HUK.out.r1, HUK.out.r2, HUK.out.f 0, HUK.out.f 1, HUK.out.f 2⟩
                go_wp2_with fail
                refine bodyPost_ret (v := .tuple #[.agg #[.int .i64 0, .int .i64 0, .slice none 0 0], .bool false]) ?_ rfl (lk_end (k := .nil) (ans_none HRR.out) HUK.out.low (.inl rfl) _ _ _)
                simp [results, Try.results13, go_sem, r0, r1, r2]
              | true =>
                have HRR : Hid (lkR es (s, v, k) ((i : Int), back, place, bs) = some (os, ov, ok)) := by rw [Hid, HOUT.out, if_pos (by simp [okT3, hok64])]
                clear hok64
                obtain ⟨r0, r1, r2, f0, f1, f2⟩ : _ ∧ _ ∧ _ ∧ _ ∧ _ ∧ _ := ⟨HUK.out.r0, HUK.out.r1, HUK.out.r2, HUK.out.f 0, HUK.out.f 1, HUK.out.f 2⟩
                go_wp2_with fail
                refine bodyPost_ret (v := .tuple #[.agg #[.int .i64 os, .int .i64 ov, .slice qa (flen ok) qc], .bool true]) ?_ rfl (lk_end (k := ok) (ans_some HRR.out) HUK.out.low HK3.out _ _ _)
                simp [results, Try.results13, go_sem, r0, r1, r2]
end Go.Proofs.Ytoafleckcjanaaa
