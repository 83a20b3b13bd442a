/- Several texts in one: LQ. -/
import Derived.Test.YtbnbogdglffkmaaGreatDoorKEb21

/-! LQ: l71Eq. -/
namespace Go.Proofs.YtbnbogdglffkmaaGreatDoor
open Go.RowKit Go.Deep

def LeqPost (br p : Nat) (w : World) (e : Ending) (w' : World) : Prop :=
  ∃ s v a c k s' v' a' c' k' p', e = .returned (.agg #[.int .i64 s, .int .i64 v, .slice a (flen k) c, .int .i64 s', .int .i64 v', .slice a' (flen k') c']) ∧ OkZ s v k ∧ fsz k < 16 ∧ OkZ s' v' k' ∧ fsz k' < 16 ∧ p ≤ p' ∧ p' ≤ p + 100 ∧ Adv w br p' w' ∧ Sl w' w.heap.size w'.heap.size a k ∧ Sl w' w.heap.size w'.heap.size a' k'
theorem ty_n_le (listed : Array Bool) (i : Nat) : ty_n listed i ≤ 2 := by unfold ty_n; split <;> omega

set_option maxRecDepth 100000 in
set_option maxHeartbeats 8000000 in
theorem l71Eq_any (br p : Nat) (w : World) (hr : Rd w br p) (hp : p ≤ 10000000) :
    Calls Tryz.prog 19 #[.pointer (some ⟨br, 0, none⟩)] w (LeqPost br p w) := by
  have hlt := hr.lt
  have HR := Lib.hid hr
  clear hr
  go_enter Tryz.func19, Tryz.ntmps19
  go_wp2_with fail
  with_reducible refine (l71Var_any 0 _).mono ?_
  rintro e w1 ⟨rfl, hb1⟩
  go_wp2_with fail
  with_reducible refine (l71Var_any 1 _).mono ?_
  rintro e w2 ⟨rfl, hb2⟩
  go_wp2_with fail
  with_reducible refine (l71Var_any 2 _).mono ?_
  rintro e w3 ⟨rfl, hb3⟩
  go_wp2_with fail
  with_reducible refine (l71Of_any 1 none 0 0 _).mono ?_
  rintro e w4 ⟨rfl, hb4⟩
  go_wp2_with fail
  with_reducible refine (l71Of_any 2 none 0 0 _).mono ?_
  rintro e w5 ⟨rfl, hb5⟩
  go_wp2_with fail
  obtain ⟨⟨l0, l1, l2, l3, l4⟩, hS⟩ := EqS.start HR.out hb1 hb2 hb3 hb4 hb5
  have HS := Lib.hid hS
  have HR5 : Hid (Rd (w5.alloc (.cells #[.int .i64 2, .int .i64 0, .slice none 0 0] 25)) br p) := by
    obtain ⟨p5, hA5, q1, q2⟩ := hS.adv
    obtain rfl : p5 = p := by omega
    exact hA5.rd HR.out
  clear hS hb1 hb2 hb3 hb4 hb5
  with_reducible refine (pick_any 16 br p _ HR5.out (by omega) (by omega) (by omega)).mono ?_
  rintro e wr ⟨y, rfl, hy, hb⟩
  have HA6 : Adv (w5.alloc (.cells #[.int .i64 2, .int .i64 0, .slice none 0 0] 25)) br (p + 1) wr := hb
  have HS1 : Hid (EqS w br w.heap.size w1.heap.size w2.heap.size w3.heap.size w4.heap.size w5.heap.size 0 p (0 + 1) wr) := by
    obtain ⟨p5, hA5, q1, q2⟩ := HS.out.adv
    obtain rfl : p5 = p := by omega
    exact HS.out.pick hlt (Nat.le_refl _) (by omega) (by omega) (by omega) (by omega) (by omega) hA5 q1 q2 HA6
  have hsz6 := HA6.size
  simp only [World.size_alloc] at hsz6
  have hb0 : w.heap.size < wr.heap.size := by omega
  have HS0 : Hid (EqS w br w.heap.size w1.heap.size w2.heap.size w3.heap.size w4.heap.size w5.heap.size wr.heap.size p 1 wr.drew) := by
    have h := HS1.out.add (Below.refl _ _).drew
    exact ⟨h.adv, Nat.le_refl _, h.x, h.y, h.z, h.a, h.b, h.res⟩
  have HSW : Hid (EqS w br w.heap.size w1.heap.size w2.heap.size w3.heap.size w4.heap.size w5.heap.size wr.heap.size p 1 wr) := by
    have h := HS1.out
    exact ⟨h.adv, Nat.le_refl _, h.x, h.y, h.z, h.a, h.b, h.res⟩
  clear hb HA6 HS HR5 HS1 hsz6
  by_cases hy0 : y = 0
  · subst hy0
    go_wp2_with fail
    refine wp_region_typed (fun i v u => (([.tm 1, .tm 1, .row 2 3, .tm 3, .tm 1, .eq, .any] : List Kd).getD i .any).is wr.heap.size v u) (fun listed _ u => EqS w br w.heap.size w1.heap.size w2.heap.size w3.heap.size w4.heap.size w5.heap.size wr.heap.size p 1 u ∧ (listed.getD 6 false = true → EqD wr.heap.size w.heap.size u)) (Up wr.heap.size) (by kernel_rfl) (by kernel_rfl) (fun i v u u' h hR => Kd.up hR h) ⟨HS0.out, fun h => by simp at h⟩ ?_ ?_
    · intro i o hi listed a u hst hun hdep
      have hin : i < 7 := (Array.getElem?_eq_some_iff.1 hi).1
      have hH := hst.s.1
      have hE := hst.s.2
      have hsz := hH.size
      have h16 : i = 0 ∨ i = 1 ∨ i = 2 ∨ i = 3 ∨ i = 4 ∨ i = 5 ∨ i = 6 := by omega
      rcases h16 with rfl | rfl | rfl | rfl | rfl | rfl | rfl
      · -- ('box', 0, 17, 3)
        obtain rfl := Option.some.inj hi
        have ht : (a.tmps[3]?).getD undef = .pointer (some ⟨w1.heap.size, 0, none⟩) := hst.old 3 (by kernel_rfl)
        obtain ⟨c0, c1, c2⟩ := hH.x
        refine wpOp_of rfl rfl (fun K hK => ?_)
        go_simp
        refine hK _ _ ⟨_, rfl, ⟨hH.mono (by simp), fun h => hE (ty_was 0 6 (by decide) h)⟩, Up.refl _ _, fun d hd => ⟨0, 0, none, 0, .nil, rfl, (okz_var (by omega) (by omega)), by decide, .inl rfl⟩⟩
      · -- ('box', 1, 18, 6)
        obtain rfl := Option.some.inj hi
        have ht : (a.tmps[6]?).getD undef = .pointer (some ⟨w4.heap.size, 0, none⟩) := hst.old 6 (by kernel_rfl)
        obtain ⟨c0, c1, c2⟩ := hH.a
        refine wpOp_of rfl rfl (fun K hK => ?_)
        go_simp
        refine hK _ _ ⟨_, rfl, ⟨hH.mono (by simp), fun h => hE (ty_was 1 6 (by decide) h)⟩, Up.refl _ _, fun d hd => ⟨1, 0, none, 0, .nil, rfl, okz_a, by decide, .inl rfl⟩⟩
      · -- ('row2', 2, 19, 17, 18)
        obtain rfl := Option.some.inj hi
        have t1 : TmE wr.heap.size 1 ((a.tmps[17]?).getD undef) u := hst.at hdep 0 17 (by kernel_rfl) (by kernel_rfl)
        obtain ⟨s1, v1, a1, c1, k1, e1, ok1, z1, l1⟩ := t1
        have t2 : TmE wr.heap.size 1 ((a.tmps[18]?).getD undef) u := hst.at hdep 1 18 (by kernel_rfl) (by kernel_rfl)
        obtain ⟨s2, v2, a2, c2, k2, e2, ok2, z2, l2⟩ := t2
        refine wpOp_of rfl rfl (fun K hK => ?_)
        go_simp
        have HB := box_low u (.cells #[.int .i64 s1, .int .i64 v1, .slice a1 (flen k1) c1, .int .i64 s2, .int .i64 v2, .slice a2 (flen k2) c2] 25)
        refine hK _ _ ⟨_, rfl, ⟨(hH.add HB).mono (by simp), fun h => (hE (ty_was 2 6 (by decide) h)).up (Up.below HB) (fun i x hx => cell_low HB hx)⟩, Up.below HB, fun d hd => rw_two hsz ok1 z1 l1 ok2 z2 l2⟩
      · -- ('of', 3, 20, 4, 19)
        obtain rfl := Option.some.inj hi
        have t1 : RwE wr.heap.size 2 3 ((a.tmps[19]?).getD undef) u := hst.at hdep 2 19 (by kernel_rfl) (by kernel_rfl)
        obtain ⟨b1, k1, e1, fl1, fo1, zf1, sz1, lb1, bu1, r1⟩ := t1
        refine wpOp_of rfl rfl (fun K hK => ?_)
        go_simp
        with_reducible refine (l71Of_any 4 _ 2 2 _).mono ?_
        rintro e u' ⟨rfl, HB⟩
        refine hK _ _ ⟨_, rfl, ⟨(hH.add HB).mono (by simp), fun h => (hE (ty_was 3 6 (by decide) h)).up (Up.below HB) (fun i x hx => cell_low HB hx)⟩, Up.below HB, fun d hd => Kd.up (d := .tm 3) (Up.below HB) (tm_of_row2 fl1 fo1 zf1 sz1 r1)⟩
      · -- ('box', 4, 21, 3)
        obtain rfl := Option.some.inj hi
        have ht : (a.tmps[3]?).getD undef = .pointer (some ⟨w1.heap.size, 0, none⟩) := hst.old 3 (by kernel_rfl)
        obtain ⟨c0, c1, c2⟩ := hH.x
        refine wpOp_of rfl rfl (fun K hK => ?_)
        go_simp
        refine hK _ _ ⟨_, rfl, ⟨hH.mono (by simp), fun h => hE (ty_was 4 6 (by decide) h)⟩, Up.refl _ _, fun d hd => ⟨0, 0, none, 0, .nil, rfl, (okz_var (by omega) (by omega)), by decide, .inl rfl⟩⟩
      · -- ('build', 5, 22, 20, 21)
        obtain rfl := Option.some.inj hi
        have t1 : TmE wr.heap.size 3 ((a.tmps[20]?).getD undef) u := hst.at hdep 3 20 (by kernel_rfl) (by kernel_rfl)
        obtain ⟨s1, v1, a1, c1, k1, e1, ok1, z1, l1⟩ := t1
        have t2 : TmE wr.heap.size 1 ((a.tmps[21]?).getD undef) u := hst.at hdep 4 21 (by kernel_rfl) (by kernel_rfl)
        obtain ⟨s2, v2, a2, c2, k2, e2, ok2, z2, l2⟩ := t2
        refine wpOp_of rfl rfl (fun K hK => ?_)
        go_simp
        refine hK _ _ ⟨_, rfl, ⟨hH.mono (by simp), fun h => hE (ty_was 5 6 (by decide) h)⟩, Up.refl _ _, fun d hd => eq_of_two ok1 z1 l1 ok2 z2 l2 (by omega) (by omega)⟩
      · -- ('store', 6, None, 22)
        obtain rfl := Option.some.inj hi
        have ht : (a.tmps[2]?).getD undef = .pointer (some ⟨w.heap.size, 0, none⟩) := hst.old 2 (by kernel_rfl)
        have t1 : EqE wr.heap.size ((a.tmps[22]?).getD undef) u := hst.at hdep 5 22 (by kernel_rfl) (by kernel_rfl)
        obtain ⟨s1, v1, a1, c1, k1, s2, v2, a2, c2, k2, e1, ok1, z1, l1, ok2, z2, l2⟩ := t1
        obtain ⟨⟨m0, h0⟩, f0⟩ := hH.res 0 (by omega)
        obtain ⟨⟨m1, h1⟩, f1⟩ := hH.res 1 (by omega)
        obtain ⟨⟨m2, h2⟩, f2⟩ := hH.res 2 (by omega)
        obtain ⟨⟨m3, h3⟩, f3⟩ := hH.res 3 (by omega)
        obtain ⟨⟨m4, h4⟩, f4⟩ := hH.res 4 (by omega)
        obtain ⟨⟨m5, h5⟩, f5⟩ := hH.res 5 (by omega)
        refine wpOp_of rfl rfl (fun K hK => ?_)
        go_simp
        refine hK _ _ ⟨undef, rfl, ⟨(st6_eqs hH (Nat.le_refl _) (by omega) (by omega) (by omega) (by omega) (by omega) s1 v1 (.slice a1 (flen k1) c1) s2 v2 (.slice a2 (flen k2) c2)).mono (Nat.le_refl _), fun _ => st6_eqd hH hb0 ok1 z1 l1 ok2 z2 l2⟩, st6_up hb0 _ _ _ _ _ _, fun d hd => by cases hd⟩
    · intro listed a u hst hall
      have hD := hst.s.2 (hall 6 (by decide))
      have hH := hst.s.1
      have ht : (a.tmps[2]?).getD undef = .pointer (some ⟨w.heap.size, 0, none⟩) := hst.old 2 (by kernel_rfl)
      have hdf : a.defers = [] := hst.defers
      clear hst
      obtain ⟨tm, df⟩ := a
      dsimp only at hdf ht
      subst hdf
      obtain ⟨s, v, a, c, k, s2, v2, a2, c2, k2, ⟨h0, h1, h2, h3, h4, h5⟩, ok1, z1, l1, ok2, z2, l2⟩ := hD
      obtain ⟨pp, hA, hp1, hp2⟩ := hH.adv
      go_wp2_with fail
      refine bodyPost_ret (v := .agg #[.int .i64 s, .int .i64 v, .slice a (flen k) c, .int .i64 s2, .int .i64 v2, .slice a2 (flen k2) c2]) ?_ rfl ?_
      · simp [results, Tryz.results19, go_sem, ht, h0, h1, h2, h3, h4, h5]
      · exact ⟨s, v, a, c, k, s2, v2, a2, c2, k2, pp, rfl, ok1, z1, ok2, z2, hp1, (by omega), hA, l1.mono (by omega) (Nat.le_refl _), l2.mono (by omega) (Nat.le_refl _)⟩
  have y0 : ((y : Int) == 0) = false := by simp; omega
  by_cases hy1 : y = 1
  · subst hy1
    go_wp2_with fail
    refine wp_region_typed (fun i v u => (([.tm 1, .tm 1, .row 2 3, .tm 3, .tm 1, .eq, .any] : List Kd).getD i .any).is wr.heap.size v u) (fun listed _ u => EqS w br w.heap.size w1.heap.size w2.heap.size w3.heap.size w4.heap.size w5.heap.size wr.heap.size p 1 u ∧ (listed.getD 6 false = true → EqD wr.heap.size w.heap.size u)) (Up wr.heap.size) (by kernel_rfl) (by kernel_rfl) (fun i v u u' h hR => Kd.up hR h) ⟨HS0.out, fun h => by simp at h⟩ ?_ ?_
    · intro i o hi listed a u hst hun hdep
      have hin : i < 7 := (Array.getElem?_eq_some_iff.1 hi).1
      have hH := hst.s.1
      have hE := hst.s.2
      have hsz := hH.size
      have h16 : i = 0 ∨ i = 1 ∨ i = 2 ∨ i = 3 ∨ i = 4 ∨ i = 5 ∨ i = 6 := by omega
      rcases h16 with rfl | rfl | rfl | rfl | rfl | rfl | rfl
      · -- ('box', 0, 25, 6)
        obtain rfl := Option.some.inj hi
        have ht : (a.tmps[6]?).getD undef = .pointer (some ⟨w4.heap.size, 0, none⟩) := hst.old 6 (by kernel_rfl)
        obtain ⟨c0, c1, c2⟩ := hH.a
        refine wpOp_of rfl rfl (fun K hK => ?_)
        go_simp
        refine hK _ _ ⟨_, rfl, ⟨hH.mono (by simp), fun h => hE (ty_was 0 6 (by decide) h)⟩, Up.refl _ _, fun d hd => ⟨1, 0, none, 0, .nil, rfl, okz_a, by decide, .inl rfl⟩⟩
      · -- ('box', 1, 26, 3)
        obtain rfl := Option.some.inj hi
        have ht : (a.tmps[3]?).getD undef = .pointer (some ⟨w1.heap.size, 0, none⟩) := hst.old 3 (by kernel_rfl)
        obtain ⟨c0, c1, c2⟩ := hH.x
        refine wpOp_of rfl rfl (fun K hK => ?_)
        go_simp
        refine hK _ _ ⟨_, rfl, ⟨hH.mono (by simp), fun h => hE (ty_was 1 6 (by decide) h)⟩, Up.refl _ _, fun d hd => ⟨0, 0, none, 0, .nil, rfl, (okz_var (by omega) (by omega)), by decide, .inl rfl⟩⟩
      · -- ('row2', 2, 27, 25, 26)
        obtain rfl := Option.some.inj hi
        have t1 : TmE wr.heap.size 1 ((a.tmps[25]?).getD undef) u := hst.at hdep 0 25 (by kernel_rfl) (by kernel_rfl)
        obtain ⟨s1, v1, a1, c1, k1, e1, ok1, z1, l1⟩ := t1
        have t2 : TmE wr.heap.size 1 ((a.tmps[26]?).getD undef) u := hst.at hdep 1 26 (by kernel_rfl) (by kernel_rfl)
        obtain ⟨s2, v2, a2, c2, k2, e2, ok2, z2, l2⟩ := t2
        refine wpOp_of rfl rfl (fun K hK => ?_)
        go_simp
        have HB := box_low u (.cells #[.int .i64 s1, .int .i64 v1, .slice a1 (flen k1) c1, .int .i64 s2, .int .i64 v2, .slice a2 (flen k2) c2] 25)
        refine hK _ _ ⟨_, rfl, ⟨(hH.add HB).mono (by simp), fun h => (hE (ty_was 2 6 (by decide) h)).up (Up.below HB) (fun i x hx => cell_low HB hx)⟩, Up.below HB, fun d hd => rw_two hsz ok1 z1 l1 ok2 z2 l2⟩
      · -- ('of', 3, 28, 4, 27)
        obtain rfl := Option.some.inj hi
        have t1 : RwE wr.heap.size 2 3 ((a.tmps[27]?).getD undef) u := hst.at hdep 2 27 (by kernel_rfl) (by kernel_rfl)
        obtain ⟨b1, k1, e1, fl1, fo1, zf1, sz1, lb1, bu1, r1⟩ := t1
        refine wpOp_of rfl rfl (fun K hK => ?_)
        go_simp
        with_reducible refine (l71Of_any 4 _ 2 2 _).mono ?_
        rintro e u' ⟨rfl, HB⟩
        refine hK _ _ ⟨_, rfl, ⟨(hH.add HB).mono (by simp), fun h => (hE (ty_was 3 6 (by decide) h)).up (Up.below HB) (fun i x hx => cell_low HB hx)⟩, Up.below HB, fun d hd => Kd.up (d := .tm 3) (Up.below HB) (tm_of_row2 fl1 fo1 zf1 sz1 r1)⟩
      · -- ('box', 4, 29, 3)
        obtain rfl := Option.some.inj hi
        have ht : (a.tmps[3]?).getD undef = .pointer (some ⟨w1.heap.size, 0, none⟩) := hst.old 3 (by kernel_rfl)
        obtain ⟨c0, c1, c2⟩ := hH.x
        refine wpOp_of rfl rfl (fun K hK => ?_)
        go_simp
        refine hK _ _ ⟨_, rfl, ⟨hH.mono (by simp), fun h => hE (ty_was 4 6 (by decide) h)⟩, Up.refl _ _, fun d hd => ⟨0, 0, none, 0, .nil, rfl, (okz_var (by omega) (by omega)), by decide, .inl rfl⟩⟩
      · -- ('build', 5, 30, 28, 29)
        obtain rfl := Option.some.inj hi
        have t1 : TmE wr.heap.size 3 ((a.tmps[28]?).getD undef) u := hst.at hdep 3 28 (by kernel_rfl) (by kernel_rfl)
        obtain ⟨s1, v1, a1, c1, k1, e1, ok1, z1, l1⟩ := t1
        have t2 : TmE wr.heap.size 1 ((a.tmps[29]?).getD undef) u := hst.at hdep 4 29 (by kernel_rfl) (by kernel_rfl)
        obtain ⟨s2, v2, a2, c2, k2, e2, ok2, z2, l2⟩ := t2
        refine wpOp_of rfl rfl (fun K hK => ?_)
        go_simp
        refine hK _ _ ⟨_, rfl, ⟨hH.mono (by simp), fun h => hE (ty_was 5 6 (by decide) h)⟩, Up.refl _ _, fun d hd => eq_of_two ok1 z1 l1 ok2 z2 l2 (by omega) (by omega)⟩
      · -- ('store', 6, None, 30)
        obtain rfl := Option.some.inj hi
        have ht : (a.tmps[2]?).getD undef = .pointer (some ⟨w.heap.size, 0, none⟩) := hst.old 2 (by kernel_rfl)
        have t1 : EqE wr.heap.size ((a.tmps[30]?).getD undef) u := hst.at hdep 5 30 (by kernel_rfl) (by kernel_rfl)
        obtain ⟨s1, v1, a1, c1, k1, s2, v2, a2, c2, k2, e1, ok1, z1, l1, ok2, z2, l2⟩ := t1
        obtain ⟨⟨m0, h0⟩, f0⟩ := hH.res 0 (by omega)
        obtain ⟨⟨m1, h1⟩, f1⟩ := hH.res 1 (by omega)
        obtain ⟨⟨m2, h2⟩, f2⟩ := hH.res 2 (by omega)
        obtain ⟨⟨m3, h3⟩, f3⟩ := hH.res 3 (by omega)
        obtain ⟨⟨m4, h4⟩, f4⟩ := hH.res 4 (by omega)
        obtain ⟨⟨m5, h5⟩, f5⟩ := hH.res 5 (by omega)
        refine wpOp_of rfl rfl (fun K hK => ?_)
        go_simp
        refine hK _ _ ⟨undef, rfl, ⟨(st6_eqs hH (Nat.le_refl _) (by omega) (by omega) (by omega) (by omega) (by omega) s1 v1 (.slice a1 (flen k1) c1) s2 v2 (.slice a2 (flen k2) c2)).mono (Nat.le_refl _), fun _ => st6_eqd hH hb0 ok1 z1 l1 ok2 z2 l2⟩, st6_up hb0 _ _ _ _ _ _, fun d hd => by cases hd⟩
    · intro listed a u hst hall
      have hD := hst.s.2 (hall 6 (by decide))
      have hH := hst.s.1
      have ht : (a.tmps[2]?).getD undef = .pointer (some ⟨w.heap.size, 0, none⟩) := hst.old 2 (by kernel_rfl)
      have hdf : a.defers = [] := hst.defers
      clear hst
      obtain ⟨tm, df⟩ := a
      dsimp only at hdf ht
      subst hdf
      obtain ⟨s, v, a, c, k, s2, v2, a2, c2, k2, ⟨h0, h1, h2, h3, h4, h5⟩, ok1, z1, l1, ok2, z2, l2⟩ := hD
      obtain ⟨pp, hA, hp1, hp2⟩ := hH.adv
      go_wp2_with fail
      refine bodyPost_ret (v := .agg #[.int .i64 s, .int .i64 v, .slice a (flen k) c, .int .i64 s2, .int .i64 v2, .slice a2 (flen k2) c2]) ?_ rfl ?_
      · simp [results, Tryz.results19, go_sem, ht, h0, h1, h2, h3, h4, h5]
      · exact ⟨s, v, a, c, k, s2, v2, a2, c2, k2, pp, rfl, ok1, z1, ok2, z2, hp1, (by omega), hA, l1.mono (by omega) (Nat.le_refl _), l2.mono (by omega) (Nat.le_refl _)⟩
  have y1 : ((y : Int) == 1) = false := by simp; omega
  by_cases hy2 : y = 2
  · subst hy2
    go_wp2_with fail
    refine wp_region_typed (fun i v u => (([.tm 1, .tm 1, .row 2 3, .tm 3, .tm 1, .row 2 5, .tm 5, .tm 1, .tm 1, .tm 1, .row 2 3, .tm 3, .row 2 5, .tm 5, .eq, .any] : List Kd).getD i .any).is wr.heap.size v u) (fun listed _ u => EqS w br w.heap.size w1.heap.size w2.heap.size w3.heap.size w4.heap.size w5.heap.size wr.heap.size p 1 u ∧ (listed.getD 15 false = true → EqD wr.heap.size w.heap.size u)) (Up wr.heap.size) (by kernel_rfl) (by kernel_rfl) (fun i v u u' h hR => Kd.up hR h) ⟨HS0.out, fun h => by simp at h⟩ ?_ ?_
    · intro i o hi listed a u hst hun hdep
      have hin : i < 16 := (Array.getElem?_eq_some_iff.1 hi).1
      have hH := hst.s.1
      have hE := hst.s.2
      have hsz := hH.size
      have h16 : i = 0 ∨ i = 1 ∨ i = 2 ∨ i = 3 ∨ i = 4 ∨ i = 5 ∨ i = 6 ∨ i = 7 ∨ i = 8 ∨ i = 9 ∨ i = 10 ∨ i = 11 ∨ i = 12 ∨ i = 13 ∨ i = 14 ∨ i = 15 := by omega
      rcases h16 with rfl | rfl | rfl | rfl | rfl | rfl | rfl | rfl | rfl | rfl | rfl | rfl | rfl | rfl | rfl | rfl
      · -- ('box', 0, 33, 3)
        obtain rfl := Option.some.inj hi
        have ht : (a.tmps[3]?).getD undef = .pointer (some ⟨w1.heap.size, 0, none⟩) := hst.old 3 (by kernel_rfl)
        obtain ⟨c0, c1, c2⟩ := hH.x
        refine wpOp_of rfl rfl (fun K hK => ?_)
        go_simp
        refine hK _ _ ⟨_, rfl, ⟨hH.mono (by simp), fun h => hE (ty_was 0 15 (by decide) h)⟩, Up.refl _ _, fun d hd => ⟨0, 0, none, 0, .nil, rfl, (okz_var (by omega) (by omega)), by decide, .inl rfl⟩⟩
      · -- ('box', 1, 34, 4)
        obtain rfl := Option.some.inj hi
        have ht : (a.tmps[4]?).getD undef = .pointer (some ⟨w2.heap.size, 0, none⟩) := hst.old 4 (by kernel_rfl)
        obtain ⟨c0, c1, c2⟩ := hH.y
        refine wpOp_of rfl rfl (fun K hK => ?_)
        go_simp
        refine hK _ _ ⟨_, rfl, ⟨hH.mono (by simp), fun h => hE (ty_was 1 15 (by decide) h)⟩, Up.refl _ _, fun d hd => ⟨0, 1, none, 0, .nil, rfl, (okz_var (by omega) (by omega)), by decide, .inl rfl⟩⟩
      · -- ('row2', 2, 35, 33, 34)
        obtain rfl := Option.some.inj hi
        have t1 : TmE wr.heap.size 1 ((a.tmps[33]?).getD undef) u := hst.at hdep 0 33 (by kernel_rfl) (by kernel_rfl)
        obtain ⟨s1, v1, a1, c1, k1, e1, ok1, z1, l1⟩ := t1
        have t2 : TmE wr.heap.size 1 ((a.tmps[34]?).getD undef) u := hst.at hdep 1 34 (by kernel_rfl) (by kernel_rfl)
        obtain ⟨s2, v2, a2, c2, k2, e2, ok2, z2, l2⟩ := t2
        refine wpOp_of rfl rfl (fun K hK => ?_)
        go_simp
        have HB := box_low u (.cells #[.int .i64 s1, .int .i64 v1, .slice a1 (flen k1) c1, .int .i64 s2, .int .i64 v2, .slice a2 (flen k2) c2] 25)
        refine hK _ _ ⟨_, rfl, ⟨(hH.add HB).mono (by simp), fun h => (hE (ty_was 2 15 (by decide) h)).up (Up.below HB) (fun i x hx => cell_low HB hx)⟩, Up.below HB, fun d hd => rw_two hsz ok1 z1 l1 ok2 z2 l2⟩
      · -- ('of', 3, 36, 4, 35)
        obtain rfl := Option.some.inj hi
        have t1 : RwE wr.heap.size 2 3 ((a.tmps[35]?).getD undef) u := hst.at hdep 2 35 (by kernel_rfl) (by kernel_rfl)
        obtain ⟨b1, k1, e1, fl1, fo1, zf1, sz1, lb1, bu1, r1⟩ := t1
        refine wpOp_of rfl rfl (fun K hK => ?_)
        go_simp
        with_reducible refine (l71Of_any 4 _ 2 2 _).mono ?_
        rintro e u' ⟨rfl, HB⟩
        refine hK _ _ ⟨_, rfl, ⟨(hH.add HB).mono (by simp), fun h => (hE (ty_was 3 15 (by decide) h)).up (Up.below HB) (fun i x hx => cell_low HB hx)⟩, Up.below HB, fun d hd => Kd.up (d := .tm 3) (Up.below HB) (tm_of_row2 fl1 fo1 zf1 sz1 r1)⟩
      · -- ('box', 4, 37, 5)
        obtain rfl := Option.some.inj hi
        have ht : (a.tmps[5]?).getD undef = .pointer (some ⟨w3.heap.size, 0, none⟩) := hst.old 5 (by kernel_rfl)
        obtain ⟨c0, c1, c2⟩ := hH.z
        refine wpOp_of rfl rfl (fun K hK => ?_)
        go_simp
        refine hK _ _ ⟨_, rfl, ⟨hH.mono (by simp), fun h => hE (ty_was 4 15 (by decide) h)⟩, Up.refl _ _, fun d hd => ⟨0, 2, none, 0, .nil, rfl, (okz_var (by omega) (by omega)), by decide, .inl rfl⟩⟩
      · -- ('row2', 5, 38, 36, 37)
        obtain rfl := Option.some.inj hi
        have t1 : TmE wr.heap.size 3 ((a.tmps[36]?).getD undef) u := hst.at hdep 3 36 (by kernel_rfl) (by kernel_rfl)
        obtain ⟨s1, v1, a1, c1, k1, e1, ok1, z1, l1⟩ := t1
        have t2 : TmE wr.heap.size 1 ((a.tmps[37]?).getD undef) u := hst.at hdep 4 37 (by kernel_rfl) (by kernel_rfl)
        obtain ⟨s2, v2, a2, c2, k2, e2, ok2, z2, l2⟩ := t2
        refine wpOp_of rfl rfl (fun K hK => ?_)
        go_simp
        have HB := box_low u (.cells #[.int .i64 s1, .int .i64 v1, .slice a1 (flen k1) c1, .int .i64 s2, .int .i64 v2, .slice a2 (flen k2) c2] 25)
        refine hK _ _ ⟨_, rfl, ⟨(hH.add HB).mono (by simp), fun h => (hE (ty_was 5 15 (by decide) h)).up (Up.below HB) (fun i x hx => cell_low HB hx)⟩, Up.below HB, fun d hd => rw_two hsz ok1 z1 l1 ok2 z2 l2⟩
      · -- ('of', 6, 39, 4, 38)
        obtain rfl := Option.some.inj hi
        have t1 : RwE wr.heap.size 2 5 ((a.tmps[38]?).getD undef) u := hst.at hdep 5 38 (by kernel_rfl) (by kernel_rfl)
        obtain ⟨b1, k1, e1, fl1, fo1, zf1, sz1, lb1, bu1, r1⟩ := t1
        refine wpOp_of rfl rfl (fun K hK => ?_)
        go_simp
        with_reducible refine (l71Of_any 4 _ 2 2 _).mono ?_
        rintro e u' ⟨rfl, HB⟩
        refine hK _ _ ⟨_, rfl, ⟨(hH.add HB).mono (by simp), fun h => (hE (ty_was 6 15 (by decide) h)).up (Up.below HB) (fun i x hx => cell_low HB hx)⟩, Up.below HB, fun d hd => Kd.up (d := .tm 5) (Up.below HB) (tm_of_row2 fl1 fo1 zf1 sz1 r1)⟩
      · -- ('box', 7, 40, 3)
        obtain rfl := Option.some.inj hi
        have ht : (a.tmps[3]?).getD undef = .pointer (some ⟨w1.heap.size, 0, none⟩) := hst.old 3 (by kernel_rfl)
        obtain ⟨c0, c1, c2⟩ := hH.x
        refine wpOp_of rfl rfl (fun K hK => ?_)
        go_simp
        refine hK _ _ ⟨_, rfl, ⟨hH.mono (by simp), fun h => hE (ty_was 7 15 (by decide) h)⟩, Up.refl _ _, fun d hd => ⟨0, 0, none, 0, .nil, rfl, (okz_var (by omega) (by omega)), by decide, .inl rfl⟩⟩
      · -- ('box', 8, 41, 4)
        obtain rfl := Option.some.inj hi
        have ht : (a.tmps[4]?).getD undef = .pointer (some ⟨w2.heap.size, 0, none⟩) := hst.old 4 (by kernel_rfl)
        obtain ⟨c0, c1, c2⟩ := hH.y
        refine wpOp_of rfl rfl (fun K hK => ?_)
        go_simp
        refine hK _ _ ⟨_, rfl, ⟨hH.mono (by simp), fun h => hE (ty_was 8 15 (by decide) h)⟩, Up.refl _ _, fun d hd => ⟨0, 1, none, 0, .nil, rfl, (okz_var (by omega) (by omega)), by decide, .inl rfl⟩⟩
      · -- ('box', 9, 42, 5)
        obtain rfl := Option.some.inj hi
        have ht : (a.tmps[5]?).getD undef = .pointer (some ⟨w3.heap.size, 0, none⟩) := hst.old 5 (by kernel_rfl)
        obtain ⟨c0, c1, c2⟩ := hH.z
        refine wpOp_of rfl rfl (fun K hK => ?_)
        go_simp
        refine hK _ _ ⟨_, rfl, ⟨hH.mono (by simp), fun h => hE (ty_was 9 15 (by decide) h)⟩, Up.refl _ _, fun d hd => ⟨0, 2, none, 0, .nil, rfl, (okz_var (by omega) (by omega)), by decide, .inl rfl⟩⟩
      · -- ('row2', 10, 43, 41, 42)
        obtain rfl := Option.some.inj hi
        have t1 : TmE wr.heap.size 1 ((a.tmps[41]?).getD undef) u := hst.at hdep 8 41 (by kernel_rfl) (by kernel_rfl)
        obtain ⟨s1, v1, a1, c1, k1, e1, ok1, z1, l1⟩ := t1
        have t2 : TmE wr.heap.size 1 ((a.tmps[42]?).getD undef) u := hst.at hdep 9 42 (by kernel_rfl) (by kernel_rfl)
        obtain ⟨s2, v2, a2, c2, k2, e2, ok2, z2, l2⟩ := t2
        refine wpOp_of rfl rfl (fun K hK => ?_)
        go_simp
        have HB := box_low u (.cells #[.int .i64 s1, .int .i64 v1, .slice a1 (flen k1) c1, .int .i64 s2, .int .i64 v2, .slice a2 (flen k2) c2] 25)
        refine hK _ _ ⟨_, rfl, ⟨(hH.add HB).mono (by simp), fun h => (hE (ty_was 10 15 (by decide) h)).up (Up.below HB) (fun i x hx => cell_low HB hx)⟩, Up.below HB, fun d hd => rw_two hsz ok1 z1 l1 ok2 z2 l2⟩
      · -- ('of', 11, 44, 4, 43)
        obtain rfl := Option.some.inj hi
        have t1 : RwE wr.heap.size 2 3 ((a.tmps[43]?).getD undef) u := hst.at hdep 10 43 (by kernel_rfl) (by kernel_rfl)
        obtain ⟨b1, k1, e1, fl1, fo1, zf1, sz1, lb1, bu1, r1⟩ := t1
        refine wpOp_of rfl rfl (fun K hK => ?_)
        go_simp
        with_reducible refine (l71Of_any 4 _ 2 2 _).mono ?_
        rintro e u' ⟨rfl, HB⟩
        refine hK _ _ ⟨_, rfl, ⟨(hH.add HB).mono (by simp), fun h => (hE (ty_was 11 15 (by decide) h)).up (Up.below HB) (fun i x hx => cell_low HB hx)⟩, Up.below HB, fun d hd => Kd.up (d := .tm 3) (Up.below HB) (tm_of_row2 fl1 fo1 zf1 sz1 r1)⟩
      · -- ('row2', 12, 45, 40, 44)
        obtain rfl := Option.some.inj hi
        have t1 : TmE wr.heap.size 1 ((a.tmps[40]?).getD undef) u := hst.at hdep 7 40 (by kernel_rfl) (by kernel_rfl)
        obtain ⟨s1, v1, a1, c1, k1, e1, ok1, z1, l1⟩ := t1
        have t2 : TmE wr.heap.size 3 ((a.tmps[44]?).getD undef) u := hst.at hdep 11 44 (by kernel_rfl) (by kernel_rfl)
        obtain ⟨s2, v2, a2, c2, k2, e2, ok2, z2, l2⟩ := t2
        refine wpOp_of rfl rfl (fun K hK => ?_)
        go_simp
        have HB := box_low u (.cells #[.int .i64 s1, .int .i64 v1, .slice a1 (flen k1) c1, .int .i64 s2, .int .i64 v2, .slice a2 (flen k2) c2] 25)
        refine hK _ _ ⟨_, rfl, ⟨(hH.add HB).mono (by simp), fun h => (hE (ty_was 12 15 (by decide) h)).up (Up.below HB) (fun i x hx => cell_low HB hx)⟩, Up.below HB, fun d hd => rw_two hsz ok1 z1 l1 ok2 z2 l2⟩
      · -- ('of', 13, 46, 4, 45)
        obtain rfl := Option.some.inj hi
        have t1 : RwE wr.heap.size 2 5 ((a.tmps[45]?).getD undef) u := hst.at hdep 12 45 (by kernel_rfl) (by kernel_rfl)
        obtain ⟨b1, k1, e1, fl1, fo1, zf1, sz1, lb1, bu1, r1⟩ := t1
        refine wpOp_of rfl rfl (fun K hK => ?_)
        go_simp
        with_reducible refine (l71Of_any 4 _ 2 2 _).mono ?_
        rintro e u' ⟨rfl, HB⟩
        refine hK _ _ ⟨_, rfl, ⟨(hH.add HB).mono (by simp), fun h => (hE (ty_was 13 15 (by decide) h)).up (Up.below HB) (fun i x hx => cell_low HB hx)⟩, Up.below HB, fun d hd => Kd.up (d := .tm 5) (Up.below HB) (tm_of_row2 fl1 fo1 zf1 sz1 r1)⟩
      · -- ('build', 14, 47, 39, 46)
        obtain rfl := Option.some.inj hi
        have t1 : TmE wr.heap.size 5 ((a.tmps[39]?).getD undef) u := hst.at hdep 6 39 (by kernel_rfl) (by kernel_rfl)
        obtain ⟨s1, v1, a1, c1, k1, e1, ok1, z1, l1⟩ := t1
        have t2 : TmE wr.heap.size 5 ((a.tmps[46]?).getD undef) u := hst.at hdep 13 46 (by kernel_rfl) (by kernel_rfl)
        obtain ⟨s2, v2, a2, c2, k2, e2, ok2, z2, l2⟩ := t2
        refine wpOp_of rfl rfl (fun K hK => ?_)
        go_simp
        refine hK _ _ ⟨_, rfl, ⟨hH.mono (by simp), fun h => hE (ty_was 14 15 (by decide) h)⟩, Up.refl _ _, fun d hd => eq_of_two ok1 z1 l1 ok2 z2 l2 (by omega) (by omega)⟩
      · -- ('store', 15, None, 47)
        obtain rfl := Option.some.inj hi
        have ht : (a.tmps[2]?).getD undef = .pointer (some ⟨w.heap.size, 0, none⟩) := hst.old 2 (by kernel_rfl)
        have t1 : EqE wr.heap.size ((a.tmps[47]?).getD undef) u := hst.at hdep 14 47 (by kernel_rfl) (by kernel_rfl)
        obtain ⟨s1, v1, a1, c1, k1, s2, v2, a2, c2, k2, e1, ok1, z1, l1, ok2, z2, l2⟩ := t1
        obtain ⟨⟨m0, h0⟩, f0⟩ := hH.res 0 (by omega)
        obtain ⟨⟨m1, h1⟩, f1⟩ := hH.res 1 (by omega)
        obtain ⟨⟨m2, h2⟩, f2⟩ := hH.res 2 (by omega)
        obtain ⟨⟨m3, h3⟩, f3⟩ := hH.res 3 (by omega)
        obtain ⟨⟨m4, h4⟩, f4⟩ := hH.res 4 (by omega)
        obtain ⟨⟨m5, h5⟩, f5⟩ := hH.res 5 (by omega)
        refine wpOp_of rfl rfl (fun K hK => ?_)
        go_simp
        refine hK _ _ ⟨undef, rfl, ⟨(st6_eqs hH (Nat.le_refl _) (by omega) (by omega) (by omega) (by omega) (by omega) s1 v1 (.slice a1 (flen k1) c1) s2 v2 (.slice a2 (flen k2) c2)).mono (Nat.le_refl _), fun _ => st6_eqd hH hb0 ok1 z1 l1 ok2 z2 l2⟩, st6_up hb0 _ _ _ _ _ _, fun d hd => by cases hd⟩
    · intro listed a u hst hall
      have hD := hst.s.2 (hall 15 (by decide))
      have hH := hst.s.1
      have ht : (a.tmps[2]?).getD undef = .pointer (some ⟨w.heap.size, 0, none⟩) := hst.old 2 (by kernel_rfl)
      have hdf : a.defers = [] := hst.defers
      clear hst
      obtain ⟨tm, df⟩ := a
      dsimp only at hdf ht
      subst hdf
      obtain ⟨s, v, a, c, k, s2, v2, a2, c2, k2, ⟨h0, h1, h2, h3, h4, h5⟩, ok1, z1, l1, ok2, z2, l2⟩ := hD
      obtain ⟨pp, hA, hp1, hp2⟩ := hH.adv
      go_wp2_with fail
      refine bodyPost_ret (v := .agg #[.int .i64 s, .int .i64 v, .slice a (flen k) c, .int .i64 s2, .int .i64 v2, .slice a2 (flen k2) c2]) ?_ rfl ?_
      · simp [results, Tryz.results19, go_sem, ht, h0, h1, h2, h3, h4, h5]
      · exact ⟨s, v, a, c, k, s2, v2, a2, c2, k2, pp, rfl, ok1, z1, ok2, z2, hp1, (by omega), hA, l1.mono (by omega) (Nat.le_refl _), l2.mono (by omega) (Nat.le_refl _)⟩
  have y2 : ((y : Int) == 2) = false := by simp; omega
  by_cases hy3 : y = 3
  · subst hy3
    go_wp2_with fail
    refine wp_region_typed (fun i v u => (([.tm 1, .row 1 2, .tm 2, .row 1 3, .tm 3, .tm 1, .tm 1, .row 1 2, .tm 2, .row 2 4, .val (.pointer (some ⟨br, 0, none⟩)), .ix, .pt 4, .tm 4, .eq, .any] : List Kd).getD i .any).is wr.heap.size v u) (fun listed _ u => EqS w br w.heap.size w1.heap.size w2.heap.size w3.heap.size w4.heap.size w5.heap.size wr.heap.size p (ty_n listed 11) u ∧ (listed.getD 15 false = true → EqD wr.heap.size w.heap.size u)) (Up wr.heap.size) (by kernel_rfl) (by kernel_rfl) (fun i v u u' h hR => Kd.up hR h) ⟨HS0.out, fun h => by simp at h⟩ ?_ ?_
    · intro i o hi listed a u hst hun hdep
      have hin : i < 16 := (Array.getElem?_eq_some_iff.1 hi).1
      have hH := hst.s.1
      have hE := hst.s.2
      have hsz := hH.size
      have h16 : i = 0 ∨ i = 1 ∨ i = 2 ∨ i = 3 ∨ i = 4 ∨ i = 5 ∨ i = 6 ∨ i = 7 ∨ i = 8 ∨ i = 9 ∨ i = 10 ∨ i = 11 ∨ i = 12 ∨ i = 13 ∨ i = 14 ∨ i = 15 := by omega
      rcases h16 with rfl | rfl | rfl | rfl | rfl | rfl | rfl | rfl | rfl | rfl | rfl | rfl | rfl | rfl | rfl | rfl
      · -- ('box', 0, 50, 3)
        obtain rfl := Option.some.inj hi
        have ht : (a.tmps[3]?).getD undef = .pointer (some ⟨w1.heap.size, 0, none⟩) := hst.old 3 (by kernel_rfl)
        obtain ⟨c0, c1, c2⟩ := hH.x
        refine wpOp_of rfl rfl (fun K hK => ?_)
        go_simp
        refine hK _ _ ⟨_, rfl, ⟨hH.mono (ty_bound _ 0 11), fun h => hE (ty_was 0 15 (by decide) h)⟩, Up.refl _ _, fun d hd => ⟨0, 0, none, 0, .nil, rfl, (okz_var (by omega) (by omega)), by decide, .inl rfl⟩⟩
      · -- ('row1', 1, 51, 50)
        obtain rfl := Option.some.inj hi
        have t1 : TmE wr.heap.size 1 ((a.tmps[50]?).getD undef) u := hst.at hdep 0 50 (by kernel_rfl) (by kernel_rfl)
        obtain ⟨s1, v1, a1, c1, k1, e1, ok1, z1, l1⟩ := t1
        refine wpOp_of rfl rfl (fun K hK => ?_)
        go_simp
        have HB := box_low u (.cells #[.int .i64 s1, .int .i64 v1, .slice a1 (flen k1) c1] 25)
        refine hK _ _ ⟨_, rfl, ⟨(hH.add HB).mono (ty_bound _ 1 11), fun h => (hE (ty_was 1 15 (by decide) h)).up (Up.below HB) (fun i x hx => cell_low HB hx)⟩, Up.below HB, fun d hd => rw_one hsz ok1 z1 l1⟩
      · -- ('of', 2, 52, 3, 51)
        obtain rfl := Option.some.inj hi
        have t1 : RwE wr.heap.size 1 2 ((a.tmps[51]?).getD undef) u := hst.at hdep 1 51 (by kernel_rfl) (by kernel_rfl)
        obtain ⟨b1, k1, e1, fl1, fo1, zf1, sz1, lb1, bu1, r1⟩ := t1
        refine wpOp_of rfl rfl (fun K hK => ?_)
        go_simp
        with_reducible refine (l71Of_any 3 _ 1 1 _).mono ?_
        rintro e u' ⟨rfl, HB⟩
        refine hK _ _ ⟨_, rfl, ⟨(hH.add HB).mono (ty_bound _ 2 11), fun h => (hE (ty_was 2 15 (by decide) h)).up (Up.below HB) (fun i x hx => cell_low HB hx)⟩, Up.below HB, fun d hd => Kd.up (d := .tm 2) (Up.below HB) (tm_of_row1 fl1 fo1 zf1 sz1 r1)⟩
      · -- ('row1', 3, 53, 52)
        obtain rfl := Option.some.inj hi
        have t1 : TmE wr.heap.size 2 ((a.tmps[52]?).getD undef) u := hst.at hdep 2 52 (by kernel_rfl) (by kernel_rfl)
        obtain ⟨s1, v1, a1, c1, k1, e1, ok1, z1, l1⟩ := t1
        refine wpOp_of rfl rfl (fun K hK => ?_)
        go_simp
        have HB := box_low u (.cells #[.int .i64 s1, .int .i64 v1, .slice a1 (flen k1) c1] 25)
        refine hK _ _ ⟨_, rfl, ⟨(hH.add HB).mono (ty_bound _ 3 11), fun h => (hE (ty_was 3 15 (by decide) h)).up (Up.below HB) (fun i x hx => cell_low HB hx)⟩, Up.below HB, fun d hd => rw_one hsz ok1 z1 l1⟩
      · -- ('of', 4, 54, 3, 53)
        obtain rfl := Option.some.inj hi
        have t1 : RwE wr.heap.size 1 3 ((a.tmps[53]?).getD undef) u := hst.at hdep 3 53 (by kernel_rfl) (by kernel_rfl)
        obtain ⟨b1, k1, e1, fl1, fo1, zf1, sz1, lb1, bu1, r1⟩ := t1
        refine wpOp_of rfl rfl (fun K hK => ?_)
        go_simp
        with_reducible refine (l71Of_any 3 _ 1 1 _).mono ?_
        rintro e u' ⟨rfl, HB⟩
        refine hK _ _ ⟨_, rfl, ⟨(hH.add HB).mono (ty_bound _ 4 11), fun h => (hE (ty_was 4 15 (by decide) h)).up (Up.below HB) (fun i x hx => cell_low HB hx)⟩, Up.below HB, fun d hd => Kd.up (d := .tm 3) (Up.below HB) (tm_of_row1 fl1 fo1 zf1 sz1 r1)⟩
      · -- ('box', 5, 55, 3)
        obtain rfl := Option.some.inj hi
        have ht : (a.tmps[3]?).getD undef = .pointer (some ⟨w1.heap.size, 0, none⟩) := hst.old 3 (by kernel_rfl)
        obtain ⟨c0, c1, c2⟩ := hH.x
        refine wpOp_of rfl rfl (fun K hK => ?_)
        go_simp
        refine hK _ _ ⟨_, rfl, ⟨hH.mono (ty_bound _ 5 11), fun h => hE (ty_was 5 15 (by decide) h)⟩, Up.refl _ _, fun d hd => ⟨0, 0, none, 0, .nil, rfl, (okz_var (by omega) (by omega)), by decide, .inl rfl⟩⟩
      · -- ('box', 6, 56, 3)
        obtain rfl := Option.some.inj hi
        have ht : (a.tmps[3]?).getD undef = .pointer (some ⟨w1.heap.size, 0, none⟩) := hst.old 3 (by kernel_rfl)
        obtain ⟨c0, c1, c2⟩ := hH.x
        refine wpOp_of rfl rfl (fun K hK => ?_)
        go_simp
        refine hK _ _ ⟨_, rfl, ⟨hH.mono (ty_bound _ 6 11), fun h => hE (ty_was 6 15 (by decide) h)⟩, Up.refl _ _, fun d hd => ⟨0, 0, none, 0, .nil, rfl, (okz_var (by omega) (by omega)), by decide, .inl rfl⟩⟩
      · -- ('row1', 7, 57, 56)
        obtain rfl := Option.some.inj hi
        have t1 : TmE wr.heap.size 1 ((a.tmps[56]?).getD undef) u := hst.at hdep 6 56 (by kernel_rfl) (by kernel_rfl)
        obtain ⟨s1, v1, a1, c1, k1, e1, ok1, z1, l1⟩ := t1
        refine wpOp_of rfl rfl (fun K hK => ?_)
        go_simp
        have HB := box_low u (.cells #[.int .i64 s1, .int .i64 v1, .slice a1 (flen k1) c1] 25)
        refine hK _ _ ⟨_, rfl, ⟨(hH.add HB).mono (ty_bound _ 7 11), fun h => (hE (ty_was 7 15 (by decide) h)).up (Up.below HB) (fun i x hx => cell_low HB hx)⟩, Up.below HB, fun d hd => rw_one hsz ok1 z1 l1⟩
      · -- ('of', 8, 58, 3, 57)
        obtain rfl := Option.some.inj hi
        have t1 : RwE wr.heap.size 1 2 ((a.tmps[57]?).getD undef) u := hst.at hdep 7 57 (by kernel_rfl) (by kernel_rfl)
        obtain ⟨b1, k1, e1, fl1, fo1, zf1, sz1, lb1, bu1, r1⟩ := t1
        refine wpOp_of rfl rfl (fun K hK => ?_)
        go_simp
        with_reducible refine (l71Of_any 3 _ 1 1 _).mono ?_
        rintro e u' ⟨rfl, HB⟩
        refine hK _ _ ⟨_, rfl, ⟨(hH.add HB).mono (ty_bound _ 8 11), fun h => (hE (ty_was 8 15 (by decide) h)).up (Up.below HB) (fun i x hx => cell_low HB hx)⟩, Up.below HB, fun d hd => Kd.up (d := .tm 2) (Up.below HB) (tm_of_row1 fl1 fo1 zf1 sz1 r1)⟩
      · -- ('row2', 9, 59, 55, 58)
        obtain rfl := Option.some.inj hi
        have t1 : TmE wr.heap.size 1 ((a.tmps[55]?).getD undef) u := hst.at hdep 5 55 (by kernel_rfl) (by kernel_rfl)
        obtain ⟨s1, v1, a1, c1, k1, e1, ok1, z1, l1⟩ := t1
        have t2 : TmE wr.heap.size 2 ((a.tmps[58]?).getD undef) u := hst.at hdep 8 58 (by kernel_rfl) (by kernel_rfl)
        obtain ⟨s2, v2, a2, c2, k2, e2, ok2, z2, l2⟩ := t2
        refine wpOp_of rfl rfl (fun K hK => ?_)
        go_simp
        have HB := box_low u (.cells #[.int .i64 s1, .int .i64 v1, .slice a1 (flen k1) c1, .int .i64 s2, .int .i64 v2, .slice a2 (flen k2) c2] 25)
        refine hK _ _ ⟨_, rfl, ⟨(hH.add HB).mono (ty_bound _ 9 11), fun h => (hE (ty_was 9 15 (by decide) h)).up (Up.below HB) (fun i x hx => cell_low HB hx)⟩, Up.below HB, fun d hd => rw_two hsz ok1 z1 l1 ok2 z2 l2⟩
      · -- ('mv', 10, 60)
        obtain rfl := Option.some.inj hi
        have ht : (a.tmps[0]?).getD undef = .pointer (some ⟨br, 0, none⟩) := hst.old 0 (by kernel_rfl)
        refine wpOp_of rfl rfl (fun K hK => ?_)
        go_simp
        refine hK _ _ ⟨_, rfl, ⟨hH.mono (ty_bound _ 10 11), fun h => hE (ty_was 10 15 (by decide) h)⟩, Up.refl _ _, fun d hd => rfl⟩
      · -- ('pick', 11, 61, 60)
        obtain rfl := Option.some.inj hi
        have ht : (a.tmps[60]?).getD undef = .pointer (some ⟨br, 0, none⟩) := hst.at hdep 10 60 (by kernel_rfl) (by kernel_rfl)
        have hH1 := hH
        rw [ty_not hun] at hH1
        obtain ⟨pp, hA, hp1, hp2⟩ := hH1.adv
        refine wpOp_of rfl rfl (fun K hK => ?_)
        go_simp
        with_reducible refine (pick_any 2 br pp _ (hA.rd HR.out) (by omega) (by omega) (by omega)).mono ?_
        rintro e u' ⟨x, rfl, hx, hb⟩
        have HB : Adv u br (pp + 1) u' := hb
        have HP := hH1.pick hlt (Nat.le_refl _) (by omega) (by omega) (by omega) (by omega) (by omega) hA hp1 hp2 HB
        have HU : Up wr.heap.size u u' := ⟨HB.size, HB.same (Nat.le_refl _) (.inl (by omega))⟩
        refine hK _ _ ⟨_, rfl, ⟨HP.mono (ty_now hun), fun h => (hE (ty_was 11 15 (by decide) h)).up HU (fun i x hx => HB.cell hx (by simp; omega))⟩, HU, fun d hd => ⟨x, by omega, rfl⟩⟩
      · -- ('idx', 12, 62, 59, 61)
        obtain rfl := Option.some.inj hi
        have t1 : RwE wr.heap.size 2 4 ((a.tmps[59]?).getD undef) u := hst.at hdep 9 59 (by kernel_rfl) (by kernel_rfl)
        obtain ⟨b1, k1, e1, fl1, fo1, zf1, sz1, lb1, bu1, r1⟩ := t1
        have t2 : ∃ y : Nat, y < 2 ∧ (a.tmps[61]?).getD undef = .int .i64 (y : Int) := hst.at hdep 11 61 (by kernel_rfl) (by kernel_rfl)
        obtain ⟨y2, hy2, e2⟩ := t2
        have g1 : (0 : Int) ≤ (y2 : Int) := by omega
        have g2 : (y2 : Int) < 2 := by omega
        refine wpOp_of rfl rfl (fun K hK => ?_)
        go_simp
        refine hK _ _ ⟨_, rfl, ⟨hH.mono (ty_bound _ 12 11), fun h => hE (ty_was 12 15 (by decide) h)⟩, Up.refl _ _, fun d hd => pt_of_row fl1 fo1 zf1 sz1 lb1 bu1 r1 hy2⟩
      · -- ('ldp', 13, 63, 62)
        obtain rfl := Option.some.inj hi
        have t1 : PtE wr.heap.size 4 ((a.tmps[62]?).getD undef) u := hst.at hdep 12 62 (by kernel_rfl) (by kernel_rfl)
        obtain ⟨b1, o1, s1, v1, a1, c1, k1, e1, lb1, bu1, d0, d1, d2, ok1, z1, l1⟩ := t1
        refine wpOp_of rfl rfl (fun K hK => ?_)
        go_simp
        refine hK _ _ ⟨_, rfl, ⟨hH.mono (ty_bound _ 13 11), fun h => hE (ty_was 13 15 (by decide) h)⟩, Up.refl _ _, fun d hd => ⟨s1, v1, a1, c1, k1, rfl, ok1, z1, l1⟩⟩
      · -- ('build', 14, 64, 54, 63)
        obtain rfl := Option.some.inj hi
        have t1 : TmE wr.heap.size 3 ((a.tmps[54]?).getD undef) u := hst.at hdep 4 54 (by kernel_rfl) (by kernel_rfl)
        obtain ⟨s1, v1, a1, c1, k1, e1, ok1, z1, l1⟩ := t1
        have t2 : TmE wr.heap.size 4 ((a.tmps[63]?).getD undef) u := hst.at hdep 13 63 (by kernel_rfl) (by kernel_rfl)
        obtain ⟨s2, v2, a2, c2, k2, e2, ok2, z2, l2⟩ := t2
        refine wpOp_of rfl rfl (fun K hK => ?_)
        go_simp
        refine hK _ _ ⟨_, rfl, ⟨hH.mono (ty_bound _ 14 11), fun h => hE (ty_was 14 15 (by decide) h)⟩, Up.refl _ _, fun d hd => eq_of_two ok1 z1 l1 ok2 z2 l2 (by omega) (by omega)⟩
      · -- ('store', 15, None, 64)
        obtain rfl := Option.some.inj hi
        have ht : (a.tmps[2]?).getD undef = .pointer (some ⟨w.heap.size, 0, none⟩) := hst.old 2 (by kernel_rfl)
        have t1 : EqE wr.heap.size ((a.tmps[64]?).getD undef) u := hst.at hdep 14 64 (by kernel_rfl) (by kernel_rfl)
        obtain ⟨s1, v1, a1, c1, k1, s2, v2, a2, c2, k2, e1, ok1, z1, l1, ok2, z2, l2⟩ := t1
        obtain ⟨⟨m0, h0⟩, f0⟩ := hH.res 0 (by omega)
        obtain ⟨⟨m1, h1⟩, f1⟩ := hH.res 1 (by omega)
        obtain ⟨⟨m2, h2⟩, f2⟩ := hH.res 2 (by omega)
        obtain ⟨⟨m3, h3⟩, f3⟩ := hH.res 3 (by omega)
        obtain ⟨⟨m4, h4⟩, f4⟩ := hH.res 4 (by omega)
        obtain ⟨⟨m5, h5⟩, f5⟩ := hH.res 5 (by omega)
        refine wpOp_of rfl rfl (fun K hK => ?_)
        go_simp
        refine hK _ _ ⟨undef, rfl, ⟨(st6_eqs hH (Nat.le_refl _) (by omega) (by omega) (by omega) (by omega) (by omega) s1 v1 (.slice a1 (flen k1) c1) s2 v2 (.slice a2 (flen k2) c2)).mono (ty_bound _ 15 11), fun _ => st6_eqd hH hb0 ok1 z1 l1 ok2 z2 l2⟩, st6_up hb0 _ _ _ _ _ _, fun d hd => by cases hd⟩
    · intro listed a u hst hall
      have hD := hst.s.2 (hall 15 (by decide))
      have hH := hst.s.1
      have ht : (a.tmps[2]?).getD undef = .pointer (some ⟨w.heap.size, 0, none⟩) := hst.old 2 (by kernel_rfl)
      have hdf : a.defers = [] := hst.defers
      clear hst
      obtain ⟨tm, df⟩ := a
      dsimp only at hdf ht
      subst hdf
      obtain ⟨s, v, a, c, k, s2, v2, a2, c2, k2, ⟨h0, h1, h2, h3, h4, h5⟩, ok1, z1, l1, ok2, z2, l2⟩ := hD
      obtain ⟨pp, hA, hp1, hp2⟩ := hH.adv
      go_wp2_with fail
      refine bodyPost_ret (v := .agg #[.int .i64 s, .int .i64 v, .slice a (flen k) c, .int .i64 s2, .int .i64 v2, .slice a2 (flen k2) c2]) ?_ rfl ?_
      · simp [results, Tryz.results19, go_sem, ht, h0, h1, h2, h3, h4, h5]
      · exact ⟨s, v, a, c, k, s2, v2, a2, c2, k2, pp, rfl, ok1, z1, ok2, z2, hp1, (by have := ty_n_le listed 11; omega), hA, l1.mono (by omega) (Nat.le_refl _), l2.mono (by omega) (Nat.le_refl _)⟩
  have y3 : ((y : Int) == 3) = false := by simp; omega
  by_cases hy4 : y = 4
  · subst hy4
    go_wp2_with fail
    refine wp_region_typed (fun i v u => (([.tm 1, .tm 1, .row 2 3, .tm 3, .tm 1, .tm 1, .row 2 3, .val (.pointer (some ⟨br, 0, none⟩)), .ix, .pt 3, .tm 3, .eq, .any] : List Kd).getD i .any).is wr.heap.size v u) (fun listed _ u => EqS w br w.heap.size w1.heap.size w2.heap.size w3.heap.size w4.heap.size w5.heap.size wr.heap.size p (ty_n listed 8) u ∧ (listed.getD 12 false = true → EqD wr.heap.size w.heap.size u)) (Up wr.heap.size) (by kernel_rfl) (by kernel_rfl) (fun i v u u' h hR => Kd.up hR h) ⟨HS0.out, fun h => by simp at h⟩ ?_ ?_
    · intro i o hi listed a u hst hun hdep
      have hin : i < 13 := (Array.getElem?_eq_some_iff.1 hi).1
      have hH := hst.s.1
      have hE := hst.s.2
      have hsz := hH.size
      have h16 : i = 0 ∨ i = 1 ∨ i = 2 ∨ i = 3 ∨ i = 4 ∨ i = 5 ∨ i = 6 ∨ i = 7 ∨ i = 8 ∨ i = 9 ∨ i = 10 ∨ i = 11 ∨ i = 12 := by omega
      rcases h16 with rfl | rfl | rfl | rfl | rfl | rfl | rfl | rfl | rfl | rfl | rfl | rfl | rfl
      · -- ('box', 0, 67, 3)
        obtain rfl := Option.some.inj hi
        have ht : (a.tmps[3]?).getD undef = .pointer (some ⟨w1.heap.size, 0, none⟩) := hst.old 3 (by kernel_rfl)
        obtain ⟨c0, c1, c2⟩ := hH.x
        refine wpOp_of rfl rfl (fun K hK => ?_)
        go_simp
        refine hK _ _ ⟨_, rfl, ⟨hH.mono (ty_bound _ 0 8), fun h => hE (ty_was 0 12 (by decide) h)⟩, Up.refl _ _, fun d hd => ⟨0, 0, none, 0, .nil, rfl, (okz_var (by omega) (by omega)), by decide, .inl rfl⟩⟩
      · -- ('box', 1, 68, 3)
        obtain rfl := Option.some.inj hi
        have ht : (a.tmps[3]?).getD undef = .pointer (some ⟨w1.heap.size, 0, none⟩) := hst.old 3 (by kernel_rfl)
        obtain ⟨c0, c1, c2⟩ := hH.x
        refine wpOp_of rfl rfl (fun K hK => ?_)
        go_simp
        refine hK _ _ ⟨_, rfl, ⟨hH.mono (ty_bound _ 1 8), fun h => hE (ty_was 1 12 (by decide) h)⟩, Up.refl _ _, fun d hd => ⟨0, 0, none, 0, .nil, rfl, (okz_var (by omega) (by omega)), by decide, .inl rfl⟩⟩
      · -- ('row2', 2, 69, 67, 68)
        obtain rfl := Option.some.inj hi
        have t1 : TmE wr.heap.size 1 ((a.tmps[67]?).getD undef) u := hst.at hdep 0 67 (by kernel_rfl) (by kernel_rfl)
        obtain ⟨s1, v1, a1, c1, k1, e1, ok1, z1, l1⟩ := t1
        have t2 : TmE wr.heap.size 1 ((a.tmps[68]?).getD undef) u := hst.at hdep 1 68 (by kernel_rfl) (by kernel_rfl)
        obtain ⟨s2, v2, a2, c2, k2, e2, ok2, z2, l2⟩ := t2
        refine wpOp_of rfl rfl (fun K hK => ?_)
        go_simp
        have HB := box_low u (.cells #[.int .i64 s1, .int .i64 v1, .slice a1 (flen k1) c1, .int .i64 s2, .int .i64 v2, .slice a2 (flen k2) c2] 25)
        refine hK _ _ ⟨_, rfl, ⟨(hH.add HB).mono (ty_bound _ 2 8), fun h => (hE (ty_was 2 12 (by decide) h)).up (Up.below HB) (fun i x hx => cell_low HB hx)⟩, Up.below HB, fun d hd => rw_two hsz ok1 z1 l1 ok2 z2 l2⟩
      · -- ('of', 3, 70, 4, 69)
        obtain rfl := Option.some.inj hi
        have t1 : RwE wr.heap.size 2 3 ((a.tmps[69]?).getD undef) u := hst.at hdep 2 69 (by kernel_rfl) (by kernel_rfl)
        obtain ⟨b1, k1, e1, fl1, fo1, zf1, sz1, lb1, bu1, r1⟩ := t1
        refine wpOp_of rfl rfl (fun K hK => ?_)
        go_simp
        with_reducible refine (l71Of_any 4 _ 2 2 _).mono ?_
        rintro e u' ⟨rfl, HB⟩
        refine hK _ _ ⟨_, rfl, ⟨(hH.add HB).mono (ty_bound _ 3 8), fun h => (hE (ty_was 3 12 (by decide) h)).up (Up.below HB) (fun i x hx => cell_low HB hx)⟩, Up.below HB, fun d hd => Kd.up (d := .tm 3) (Up.below HB) (tm_of_row2 fl1 fo1 zf1 sz1 r1)⟩
      · -- ('box', 4, 71, 3)
        obtain rfl := Option.some.inj hi
        have ht : (a.tmps[3]?).getD undef = .pointer (some ⟨w1.heap.size, 0, none⟩) := hst.old 3 (by kernel_rfl)
        obtain ⟨c0, c1, c2⟩ := hH.x
        refine wpOp_of rfl rfl (fun K hK => ?_)
        go_simp
        refine hK _ _ ⟨_, rfl, ⟨hH.mono (ty_bound _ 4 8), fun h => hE (ty_was 4 12 (by decide) h)⟩, Up.refl _ _, fun d hd => ⟨0, 0, none, 0, .nil, rfl, (okz_var (by omega) (by omega)), by decide, .inl rfl⟩⟩
      · -- ('box', 5, 72, 6)
        obtain rfl := Option.some.inj hi
        have ht : (a.tmps[6]?).getD undef = .pointer (some ⟨w4.heap.size, 0, none⟩) := hst.old 6 (by kernel_rfl)
        obtain ⟨c0, c1, c2⟩ := hH.a
        refine wpOp_of rfl rfl (fun K hK => ?_)
        go_simp
        refine hK _ _ ⟨_, rfl, ⟨hH.mono (ty_bound _ 5 8), fun h => hE (ty_was 5 12 (by decide) h)⟩, Up.refl _ _, fun d hd => ⟨1, 0, none, 0, .nil, rfl, okz_a, by decide, .inl rfl⟩⟩
      · -- ('row2', 6, 73, 71, 72)
        obtain rfl := Option.some.inj hi
        have t1 : TmE wr.heap.size 1 ((a.tmps[71]?).getD undef) u := hst.at hdep 4 71 (by kernel_rfl) (by kernel_rfl)
        obtain ⟨s1, v1, a1, c1, k1, e1, ok1, z1, l1⟩ := t1
        have t2 : TmE wr.heap.size 1 ((a.tmps[72]?).getD undef) u := hst.at hdep 5 72 (by kernel_rfl) (by kernel_rfl)
        obtain ⟨s2, v2, a2, c2, k2, e2, ok2, z2, l2⟩ := t2
        refine wpOp_of rfl rfl (fun K hK => ?_)
        go_simp
        have HB := box_low u (.cells #[.int .i64 s1, .int .i64 v1, .slice a1 (flen k1) c1, .int .i64 s2, .int .i64 v2, .slice a2 (flen k2) c2] 25)
        refine hK _ _ ⟨_, rfl, ⟨(hH.add HB).mono (ty_bound _ 6 8), fun h => (hE (ty_was 6 12 (by decide) h)).up (Up.below HB) (fun i x hx => cell_low HB hx)⟩, Up.below HB, fun d hd => rw_two hsz ok1 z1 l1 ok2 z2 l2⟩
      · -- ('mv', 7, 74)
        obtain rfl := Option.some.inj hi
        have ht : (a.tmps[0]?).getD undef = .pointer (some ⟨br, 0, none⟩) := hst.old 0 (by kernel_rfl)
        refine wpOp_of rfl rfl (fun K hK => ?_)
        go_simp
        refine hK _ _ ⟨_, rfl, ⟨hH.mono (ty_bound _ 7 8), fun h => hE (ty_was 7 12 (by decide) h)⟩, Up.refl _ _, fun d hd => rfl⟩
      · -- ('pick', 8, 75, 74)
        obtain rfl := Option.some.inj hi
        have ht : (a.tmps[74]?).getD undef = .pointer (some ⟨br, 0, none⟩) := hst.at hdep 7 74 (by kernel_rfl) (by kernel_rfl)
        have hH1 := hH
        rw [ty_not hun] at hH1
        obtain ⟨pp, hA, hp1, hp2⟩ := hH1.adv
        refine wpOp_of rfl rfl (fun K hK => ?_)
        go_simp
        with_reducible refine (pick_any 2 br pp _ (hA.rd HR.out) (by omega) (by omega) (by omega)).mono ?_
        rintro e u' ⟨x, rfl, hx, hb⟩
        have HB : Adv u br (pp + 1) u' := hb
        have HP := hH1.pick hlt (Nat.le_refl _) (by omega) (by omega) (by omega) (by omega) (by omega) hA hp1 hp2 HB
        have HU : Up wr.heap.size u u' := ⟨HB.size, HB.same (Nat.le_refl _) (.inl (by omega))⟩
        refine hK _ _ ⟨_, rfl, ⟨HP.mono (ty_now hun), fun h => (hE (ty_was 8 12 (by decide) h)).up HU (fun i x hx => HB.cell hx (by simp; omega))⟩, HU, fun d hd => ⟨x, by omega, rfl⟩⟩
      · -- ('idx', 9, 76, 73, 75)
        obtain rfl := Option.some.inj hi
        have t1 : RwE wr.heap.size 2 3 ((a.tmps[73]?).getD undef) u := hst.at hdep 6 73 (by kernel_rfl) (by kernel_rfl)
        obtain ⟨b1, k1, e1, fl1, fo1, zf1, sz1, lb1, bu1, r1⟩ := t1
        have t2 : ∃ y : Nat, y < 2 ∧ (a.tmps[75]?).getD undef = .int .i64 (y : Int) := hst.at hdep 8 75 (by kernel_rfl) (by kernel_rfl)
        obtain ⟨y2, hy2, e2⟩ := t2
        have g1 : (0 : Int) ≤ (y2 : Int) := by omega
        have g2 : (y2 : Int) < 2 := by omega
        refine wpOp_of rfl rfl (fun K hK => ?_)
        go_simp
        refine hK _ _ ⟨_, rfl, ⟨hH.mono (ty_bound _ 9 8), fun h => hE (ty_was 9 12 (by decide) h)⟩, Up.refl _ _, fun d hd => pt_of_row fl1 fo1 zf1 sz1 lb1 bu1 r1 hy2⟩
      · -- ('ldp', 10, 77, 76)
        obtain rfl := Option.some.inj hi
        have t1 : PtE wr.heap.size 3 ((a.tmps[76]?).getD undef) u := hst.at hdep 9 76 (by kernel_rfl) (by kernel_rfl)
        obtain ⟨b1, o1, s1, v1, a1, c1, k1, e1, lb1, bu1, d0, d1, d2, ok1, z1, l1⟩ := t1
        refine wpOp_of rfl rfl (fun K hK => ?_)
        go_simp
        refine hK _ _ ⟨_, rfl, ⟨hH.mono (ty_bound _ 10 8), fun h => hE (ty_was 10 12 (by decide) h)⟩, Up.refl _ _, fun d hd => ⟨s1, v1, a1, c1, k1, rfl, ok1, z1, l1⟩⟩
      · -- ('build', 11, 78, 70, 77)
        obtain rfl := Option.some.inj hi
        have t1 : TmE wr.heap.size 3 ((a.tmps[70]?).getD undef) u := hst.at hdep 3 70 (by kernel_rfl) (by kernel_rfl)
        obtain ⟨s1, v1, a1, c1, k1, e1, ok1, z1, l1⟩ := t1
        have t2 : TmE wr.heap.size 3 ((a.tmps[77]?).getD undef) u := hst.at hdep 10 77 (by kernel_rfl) (by kernel_rfl)
        obtain ⟨s2, v2, a2, c2, k2, e2, ok2, z2, l2⟩ := t2
        refine wpOp_of rfl rfl (fun K hK => ?_)
        go_simp
        refine hK _ _ ⟨_, rfl, ⟨hH.mono (ty_bound _ 11 8), fun h => hE (ty_was 11 12 (by decide) h)⟩, Up.refl _ _, fun d hd => eq_of_two ok1 z1 l1 ok2 z2 l2 (by omega) (by omega)⟩
      · -- ('store', 12, None, 78)
        obtain rfl := Option.some.inj hi
        have ht : (a.tmps[2]?).getD undef = .pointer (some ⟨w.heap.size, 0, none⟩) := hst.old 2 (by kernel_rfl)
        have t1 : EqE wr.heap.size ((a.tmps[78]?).getD undef) u := hst.at hdep 11 78 (by kernel_rfl) (by kernel_rfl)
        obtain ⟨s1, v1, a1, c1, k1, s2, v2, a2, c2, k2, e1, ok1, z1, l1, ok2, z2, l2⟩ := t1
        obtain ⟨⟨m0, h0⟩, f0⟩ := hH.res 0 (by omega)
        obtain ⟨⟨m1, h1⟩, f1⟩ := hH.res 1 (by omega)
        obtain ⟨⟨m2, h2⟩, f2⟩ := hH.res 2 (by omega)
        obtain ⟨⟨m3, h3⟩, f3⟩ := hH.res 3 (by omega)
        obtain ⟨⟨m4, h4⟩, f4⟩ := hH.res 4 (by omega)
        obtain ⟨⟨m5, h5⟩, f5⟩ := hH.res 5 (by omega)
        refine wpOp_of rfl rfl (fun K hK => ?_)
        go_simp
        refine hK _ _ ⟨undef, rfl, ⟨(st6_eqs hH (Nat.le_refl _) (by omega) (by omega) (by omega) (by omega) (by omega) s1 v1 (.slice a1 (flen k1) c1) s2 v2 (.slice a2 (flen k2) c2)).mono (ty_bound _ 12 8), fun _ => st6_eqd hH hb0 ok1 z1 l1 ok2 z2 l2⟩, st6_up hb0 _ _ _ _ _ _, fun d hd => by cases hd⟩
    · intro listed a u hst hall
      have hD := hst.s.2 (hall 12 (by decide))
      have hH := hst.s.1
      have ht : (a.tmps[2]?).getD undef = .pointer (some ⟨w.heap.size, 0, none⟩) := hst.old 2 (by kernel_rfl)
      have hdf : a.defers = [] := hst.defers
      clear hst
      obtain ⟨tm, df⟩ := a
      dsimp only at hdf ht
      subst hdf
      obtain ⟨s, v, a, c, k, s2, v2, a2, c2, k2, ⟨h0, h1, h2, h3, h4, h5⟩, ok1, z1, l1, ok2, z2, l2⟩ := hD
      obtain ⟨pp, hA, hp1, hp2⟩ := hH.adv
      go_wp2_with fail
      refine bodyPost_ret (v := .agg #[.int .i64 s, .int .i64 v, .slice a (flen k) c, .int .i64 s2, .int .i64 v2, .slice a2 (flen k2) c2]) ?_ rfl ?_
      · simp [results, Tryz.results19, go_sem, ht, h0, h1, h2, h3, h4, h5]
      · exact ⟨s, v, a, c, k, s2, v2, a2, c2, k2, pp, rfl, ok1, z1, ok2, z2, hp1, (by have := ty_n_le listed 8; omega), hA, l1.mono (by omega) (Nat.le_refl _), l2.mono (by omega) (Nat.le_refl _)⟩
  have y4 : ((y : Int) == 4) = false := by simp; omega
  by_cases hy5 : y = 5
  · subst hy5
    go_wp2_with fail
    refine wp_region_typed (fun i v u => (([.tm 1, .row 1 2, .tm 2, .tm 1, .tm 1, .row 2 3, .val (.pointer (some ⟨br, 0, none⟩)), .ix, .pt 3, .tm 3, .eq, .any] : List Kd).getD i .any).is wr.heap.size v u) (fun listed _ u => EqS w br w.heap.size w1.heap.size w2.heap.size w3.heap.size w4.heap.size w5.heap.size wr.heap.size p (ty_n listed 7) u ∧ (listed.getD 11 false = true → EqD wr.heap.size w.heap.size u)) (Up wr.heap.size) (by kernel_rfl) (by kernel_rfl) (fun i v u u' h hR => Kd.up hR h) ⟨HS0.out, fun h => by simp at h⟩ ?_ ?_
    · intro i o hi listed a u hst hun hdep
      have hin : i < 12 := (Array.getElem?_eq_some_iff.1 hi).1
      have hH := hst.s.1
      have hE := hst.s.2
      have hsz := hH.size
      have h16 : i = 0 ∨ i = 1 ∨ i = 2 ∨ i = 3 ∨ i = 4 ∨ i = 5 ∨ i = 6 ∨ i = 7 ∨ i = 8 ∨ i = 9 ∨ i = 10 ∨ i = 11 := by omega
      rcases h16 with rfl | rfl | rfl | rfl | rfl | rfl | rfl | rfl | rfl | rfl | rfl | rfl
      · -- ('box', 0, 81, 6)
        obtain rfl := Option.some.inj hi
        have ht : (a.tmps[6]?).getD undef = .pointer (some ⟨w4.heap.size, 0, none⟩) := hst.old 6 (by kernel_rfl)
        obtain ⟨c0, c1, c2⟩ := hH.a
        refine wpOp_of rfl rfl (fun K hK => ?_)
        go_simp
        refine hK _ _ ⟨_, rfl, ⟨hH.mono (ty_bound _ 0 7), fun h => hE (ty_was 0 11 (by decide) h)⟩, Up.refl _ _, fun d hd => ⟨1, 0, none, 0, .nil, rfl, okz_a, by decide, .inl rfl⟩⟩
      · -- ('row1', 1, 82, 81)
        obtain rfl := Option.some.inj hi
        have t1 : TmE wr.heap.size 1 ((a.tmps[81]?).getD undef) u := hst.at hdep 0 81 (by kernel_rfl) (by kernel_rfl)
        obtain ⟨s1, v1, a1, c1, k1, e1, ok1, z1, l1⟩ := t1
        refine wpOp_of rfl rfl (fun K hK => ?_)
        go_simp
        have HB := box_low u (.cells #[.int .i64 s1, .int .i64 v1, .slice a1 (flen k1) c1] 25)
        refine hK _ _ ⟨_, rfl, ⟨(hH.add HB).mono (ty_bound _ 1 7), fun h => (hE (ty_was 1 11 (by decide) h)).up (Up.below HB) (fun i x hx => cell_low HB hx)⟩, Up.below HB, fun d hd => rw_one hsz ok1 z1 l1⟩
      · -- ('of', 2, 83, 3, 82)
        obtain rfl := Option.some.inj hi
        have t1 : RwE wr.heap.size 1 2 ((a.tmps[82]?).getD undef) u := hst.at hdep 1 82 (by kernel_rfl) (by kernel_rfl)
        obtain ⟨b1, k1, e1, fl1, fo1, zf1, sz1, lb1, bu1, r1⟩ := t1
        refine wpOp_of rfl rfl (fun K hK => ?_)
        go_simp
        with_reducible refine (l71Of_any 3 _ 1 1 _).mono ?_
        rintro e u' ⟨rfl, HB⟩
        refine hK _ _ ⟨_, rfl, ⟨(hH.add HB).mono (ty_bound _ 2 7), fun h => (hE (ty_was 2 11 (by decide) h)).up (Up.below HB) (fun i x hx => cell_low HB hx)⟩, Up.below HB, fun d hd => Kd.up (d := .tm 2) (Up.below HB) (tm_of_row1 fl1 fo1 zf1 sz1 r1)⟩
      · -- ('box', 3, 84, 7)
        obtain rfl := Option.some.inj hi
        have ht : (a.tmps[7]?).getD undef = .pointer (some ⟨w5.heap.size, 0, none⟩) := hst.old 7 (by kernel_rfl)
        obtain ⟨c0, c1, c2⟩ := hH.b
        refine wpOp_of rfl rfl (fun K hK => ?_)
        go_simp
        refine hK _ _ ⟨_, rfl, ⟨hH.mono (ty_bound _ 3 7), fun h => hE (ty_was 3 11 (by decide) h)⟩, Up.refl _ _, fun d hd => ⟨2, 0, none, 0, .nil, rfl, okz_b, by decide, .inl rfl⟩⟩
      · -- ('box', 4, 85, 6)
        obtain rfl := Option.some.inj hi
        have ht : (a.tmps[6]?).getD undef = .pointer (some ⟨w4.heap.size, 0, none⟩) := hst.old 6 (by kernel_rfl)
        obtain ⟨c0, c1, c2⟩ := hH.a
        refine wpOp_of rfl rfl (fun K hK => ?_)
        go_simp
        refine hK _ _ ⟨_, rfl, ⟨hH.mono (ty_bound _ 4 7), fun h => hE (ty_was 4 11 (by decide) h)⟩, Up.refl _ _, fun d hd => ⟨1, 0, none, 0, .nil, rfl, okz_a, by decide, .inl rfl⟩⟩
      · -- ('row2', 5, 86, 84, 85)
        obtain rfl := Option.some.inj hi
        have t1 : TmE wr.heap.size 1 ((a.tmps[84]?).getD undef) u := hst.at hdep 3 84 (by kernel_rfl) (by kernel_rfl)
        obtain ⟨s1, v1, a1, c1, k1, e1, ok1, z1, l1⟩ := t1
        have t2 : TmE wr.heap.size 1 ((a.tmps[85]?).getD undef) u := hst.at hdep 4 85 (by kernel_rfl) (by kernel_rfl)
        obtain ⟨s2, v2, a2, c2, k2, e2, ok2, z2, l2⟩ := t2
        refine wpOp_of rfl rfl (fun K hK => ?_)
        go_simp
        have HB := box_low u (.cells #[.int .i64 s1, .int .i64 v1, .slice a1 (flen k1) c1, .int .i64 s2, .int .i64 v2, .slice a2 (flen k2) c2] 25)
        refine hK _ _ ⟨_, rfl, ⟨(hH.add HB).mono (ty_bound _ 5 7), fun h => (hE (ty_was 5 11 (by decide) h)).up (Up.below HB) (fun i x hx => cell_low HB hx)⟩, Up.below HB, fun d hd => rw_two hsz ok1 z1 l1 ok2 z2 l2⟩
      · -- ('mv', 6, 87)
        obtain rfl := Option.some.inj hi
        have ht : (a.tmps[0]?).getD undef = .pointer (some ⟨br, 0, none⟩) := hst.old 0 (by kernel_rfl)
        refine wpOp_of rfl rfl (fun K hK => ?_)
        go_simp
        refine hK _ _ ⟨_, rfl, ⟨hH.mono (ty_bound _ 6 7), fun h => hE (ty_was 6 11 (by decide) h)⟩, Up.refl _ _, fun d hd => rfl⟩
      · -- ('pick', 7, 88, 87)
        obtain rfl := Option.some.inj hi
        have ht : (a.tmps[87]?).getD undef = .pointer (some ⟨br, 0, none⟩) := hst.at hdep 6 87 (by kernel_rfl) (by kernel_rfl)
        have hH1 := hH
        rw [ty_not hun] at hH1
        obtain ⟨pp, hA, hp1, hp2⟩ := hH1.adv
        refine wpOp_of rfl rfl (fun K hK => ?_)
        go_simp
        with_reducible refine (pick_any 2 br pp _ (hA.rd HR.out) (by omega) (by omega) (by omega)).mono ?_
        rintro e u' ⟨x, rfl, hx, hb⟩
        have HB : Adv u br (pp + 1) u' := hb
        have HP := hH1.pick hlt (Nat.le_refl _) (by omega) (by omega) (by omega) (by omega) (by omega) hA hp1 hp2 HB
        have HU : Up wr.heap.size u u' := ⟨HB.size, HB.same (Nat.le_refl _) (.inl (by omega))⟩
        refine hK _ _ ⟨_, rfl, ⟨HP.mono (ty_now hun), fun h => (hE (ty_was 7 11 (by decide) h)).up HU (fun i x hx => HB.cell hx (by simp; omega))⟩, HU, fun d hd => ⟨x, by omega, rfl⟩⟩
      · -- ('idx', 8, 89, 86, 88)
        obtain rfl := Option.some.inj hi
        have t1 : RwE wr.heap.size 2 3 ((a.tmps[86]?).getD undef) u := hst.at hdep 5 86 (by kernel_rfl) (by kernel_rfl)
        obtain ⟨b1, k1, e1, fl1, fo1, zf1, sz1, lb1, bu1, r1⟩ := t1
        have t2 : ∃ y : Nat, y < 2 ∧ (a.tmps[88]?).getD undef = .int .i64 (y : Int) := hst.at hdep 7 88 (by kernel_rfl) (by kernel_rfl)
        obtain ⟨y2, hy2, e2⟩ := t2
        have g1 : (0 : Int) ≤ (y2 : Int) := by omega
        have g2 : (y2 : Int) < 2 := by omega
        refine wpOp_of rfl rfl (fun K hK => ?_)
        go_simp
        refine hK _ _ ⟨_, rfl, ⟨hH.mono (ty_bound _ 8 7), fun h => hE (ty_was 8 11 (by decide) h)⟩, Up.refl _ _, fun d hd => pt_of_row fl1 fo1 zf1 sz1 lb1 bu1 r1 hy2⟩
      · -- ('ldp', 9, 90, 89)
        obtain rfl := Option.some.inj hi
        have t1 : PtE wr.heap.size 3 ((a.tmps[89]?).getD undef) u := hst.at hdep 8 89 (by kernel_rfl) (by kernel_rfl)
        obtain ⟨b1, o1, s1, v1, a1, c1, k1, e1, lb1, bu1, d0, d1, d2, ok1, z1, l1⟩ := t1
        refine wpOp_of rfl rfl (fun K hK => ?_)
        go_simp
        refine hK _ _ ⟨_, rfl, ⟨hH.mono (ty_bound _ 9 7), fun h => hE (ty_was 9 11 (by decide) h)⟩, Up.refl _ _, fun d hd => ⟨s1, v1, a1, c1, k1, rfl, ok1, z1, l1⟩⟩
      · -- ('build', 10, 91, 83, 90)
        obtain rfl := Option.some.inj hi
        have t1 : TmE wr.heap.size 2 ((a.tmps[83]?).getD undef) u := hst.at hdep 2 83 (by kernel_rfl) (by kernel_rfl)
        obtain ⟨s1, v1, a1, c1, k1, e1, ok1, z1, l1⟩ := t1
        have t2 : TmE wr.heap.size 3 ((a.tmps[90]?).getD undef) u := hst.at hdep 9 90 (by kernel_rfl) (by kernel_rfl)
        obtain ⟨s2, v2, a2, c2, k2, e2, ok2, z2, l2⟩ := t2
        refine wpOp_of rfl rfl (fun K hK => ?_)
        go_simp
        refine hK _ _ ⟨_, rfl, ⟨hH.mono (ty_bound _ 10 7), fun h => hE (ty_was 10 11 (by decide) h)⟩, Up.refl _ _, fun d hd => eq_of_two ok1 z1 l1 ok2 z2 l2 (by omega) (by omega)⟩
      · -- ('store', 11, None, 91)
        obtain rfl := Option.some.inj hi
        have ht : (a.tmps[2]?).getD undef = .pointer (some ⟨w.heap.size, 0, none⟩) := hst.old 2 (by kernel_rfl)
        have t1 : EqE wr.heap.size ((a.tmps[91]?).getD undef) u := hst.at hdep 10 91 (by kernel_rfl) (by kernel_rfl)
        obtain ⟨s1, v1, a1, c1, k1, s2, v2, a2, c2, k2, e1, ok1, z1, l1, ok2, z2, l2⟩ := t1
        obtain ⟨⟨m0, h0⟩, f0⟩ := hH.res 0 (by omega)
        obtain ⟨⟨m1, h1⟩, f1⟩ := hH.res 1 (by omega)
        obtain ⟨⟨m2, h2⟩, f2⟩ := hH.res 2 (by omega)
        obtain ⟨⟨m3, h3⟩, f3⟩ := hH.res 3 (by omega)
        obtain ⟨⟨m4, h4⟩, f4⟩ := hH.res 4 (by omega)
        obtain ⟨⟨m5, h5⟩, f5⟩ := hH.res 5 (by omega)
        refine wpOp_of rfl rfl (fun K hK => ?_)
        go_simp
        refine hK _ _ ⟨undef, rfl, ⟨(st6_eqs hH (Nat.le_refl _) (by omega) (by omega) (by omega) (by omega) (by omega) s1 v1 (.slice a1 (flen k1) c1) s2 v2 (.slice a2 (flen k2) c2)).mono (ty_bound _ 11 7), fun _ => st6_eqd hH hb0 ok1 z1 l1 ok2 z2 l2⟩, st6_up hb0 _ _ _ _ _ _, fun d hd => by cases hd⟩
    · intro listed a u hst hall
      have hD := hst.s.2 (hall 11 (by decide))
      have hH := hst.s.1
      have ht : (a.tmps[2]?).getD undef = .pointer (some ⟨w.heap.size, 0, none⟩) := hst.old 2 (by kernel_rfl)
      have hdf : a.defers = [] := hst.defers
      clear hst
      obtain ⟨tm, df⟩ := a
      dsimp only at hdf ht
      subst hdf
      obtain ⟨s, v, a, c, k, s2, v2, a2, c2, k2, ⟨h0, h1, h2, h3, h4, h5⟩, ok1, z1, l1, ok2, z2, l2⟩ := hD
      obtain ⟨pp, hA, hp1, hp2⟩ := hH.adv
      go_wp2_with fail
      refine bodyPost_ret (v := .agg #[.int .i64 s, .int .i64 v, .slice a (flen k) c, .int .i64 s2, .int .i64 v2, .slice a2 (flen k2) c2]) ?_ rfl ?_
      · simp [results, Tryz.results19, go_sem, ht, h0, h1, h2, h3, h4, h5]
      · exact ⟨s, v, a, c, k, s2, v2, a2, c2, k2, pp, rfl, ok1, z1, ok2, z2, hp1, (by have := ty_n_le listed 7; omega), hA, l1.mono (by omega) (Nat.le_refl _), l2.mono (by omega) (Nat.le_refl _)⟩
  have y5 : ((y : Int) == 5) = false := by simp; omega
  by_cases hy6 : y = 6
  · subst hy6
    go_wp2_with fail
    refine wp_region_typed (fun i v u => (([.tm 1, .row 1 2, .tm 2, .tm 1, .row 2 4, .tm 4, .tm 1, .eq, .any] : List Kd).getD i .any).is wr.heap.size v u) (fun listed _ u => EqS w br w.heap.size w1.heap.size w2.heap.size w3.heap.size w4.heap.size w5.heap.size wr.heap.size p 1 u ∧ (listed.getD 8 false = true → EqD wr.heap.size w.heap.size u)) (Up wr.heap.size) (by kernel_rfl) (by kernel_rfl) (fun i v u u' h hR => Kd.up hR h) ⟨HS0.out, fun h => by simp at h⟩ ?_ ?_
    · intro i o hi listed a u hst hun hdep
      have hin : i < 9 := (Array.getElem?_eq_some_iff.1 hi).1
      have hH := hst.s.1
      have hE := hst.s.2
      have hsz := hH.size
      have h16 : i = 0 ∨ i = 1 ∨ i = 2 ∨ i = 3 ∨ i = 4 ∨ i = 5 ∨ i = 6 ∨ i = 7 ∨ i = 8 := by omega
      rcases h16 with rfl | rfl | rfl | rfl | rfl | rfl | rfl | rfl | rfl
      · -- ('box', 0, 94, 3)
        obtain rfl := Option.some.inj hi
        have ht : (a.tmps[3]?).getD undef = .pointer (some ⟨w1.heap.size, 0, none⟩) := hst.old 3 (by kernel_rfl)
        obtain ⟨c0, c1, c2⟩ := hH.x
        refine wpOp_of rfl rfl (fun K hK => ?_)
        go_simp
        refine hK _ _ ⟨_, rfl, ⟨hH.mono (by simp), fun h => hE (ty_was 0 8 (by decide) h)⟩, Up.refl _ _, fun d hd => ⟨0, 0, none, 0, .nil, rfl, (okz_var (by omega) (by omega)), by decide, .inl rfl⟩⟩
      · -- ('row1', 1, 95, 94)
        obtain rfl := Option.some.inj hi
        have t1 : TmE wr.heap.size 1 ((a.tmps[94]?).getD undef) u := hst.at hdep 0 94 (by kernel_rfl) (by kernel_rfl)
        obtain ⟨s1, v1, a1, c1, k1, e1, ok1, z1, l1⟩ := t1
        refine wpOp_of rfl rfl (fun K hK => ?_)
        go_simp
        have HB := box_low u (.cells #[.int .i64 s1, .int .i64 v1, .slice a1 (flen k1) c1] 25)
        refine hK _ _ ⟨_, rfl, ⟨(hH.add HB).mono (by simp), fun h => (hE (ty_was 1 8 (by decide) h)).up (Up.below HB) (fun i x hx => cell_low HB hx)⟩, Up.below HB, fun d hd => rw_one hsz ok1 z1 l1⟩
      · -- ('of', 2, 96, 3, 95)
        obtain rfl := Option.some.inj hi
        have t1 : RwE wr.heap.size 1 2 ((a.tmps[95]?).getD undef) u := hst.at hdep 1 95 (by kernel_rfl) (by kernel_rfl)
        obtain ⟨b1, k1, e1, fl1, fo1, zf1, sz1, lb1, bu1, r1⟩ := t1
        refine wpOp_of rfl rfl (fun K hK => ?_)
        go_simp
        with_reducible refine (l71Of_any 3 _ 1 1 _).mono ?_
        rintro e u' ⟨rfl, HB⟩
        refine hK _ _ ⟨_, rfl, ⟨(hH.add HB).mono (by simp), fun h => (hE (ty_was 2 8 (by decide) h)).up (Up.below HB) (fun i x hx => cell_low HB hx)⟩, Up.below HB, fun d hd => Kd.up (d := .tm 2) (Up.below HB) (tm_of_row1 fl1 fo1 zf1 sz1 r1)⟩
      · -- ('box', 3, 97, 3)
        obtain rfl := Option.some.inj hi
        have ht : (a.tmps[3]?).getD undef = .pointer (some ⟨w1.heap.size, 0, none⟩) := hst.old 3 (by kernel_rfl)
        obtain ⟨c0, c1, c2⟩ := hH.x
        refine wpOp_of rfl rfl (fun K hK => ?_)
        go_simp
        refine hK _ _ ⟨_, rfl, ⟨hH.mono (by simp), fun h => hE (ty_was 3 8 (by decide) h)⟩, Up.refl _ _, fun d hd => ⟨0, 0, none, 0, .nil, rfl, (okz_var (by omega) (by omega)), by decide, .inl rfl⟩⟩
      · -- ('row2', 4, 98, 96, 97)
        obtain rfl := Option.some.inj hi
        have t1 : TmE wr.heap.size 2 ((a.tmps[96]?).getD undef) u := hst.at hdep 2 96 (by kernel_rfl) (by kernel_rfl)
        obtain ⟨s1, v1, a1, c1, k1, e1, ok1, z1, l1⟩ := t1
        have t2 : TmE wr.heap.size 1 ((a.tmps[97]?).getD undef) u := hst.at hdep 3 97 (by kernel_rfl) (by kernel_rfl)
        obtain ⟨s2, v2, a2, c2, k2, e2, ok2, z2, l2⟩ := t2
        refine wpOp_of rfl rfl (fun K hK => ?_)
        go_simp
        have HB := box_low u (.cells #[.int .i64 s1, .int .i64 v1, .slice a1 (flen k1) c1, .int .i64 s2, .int .i64 v2, .slice a2 (flen k2) c2] 25)
        refine hK _ _ ⟨_, rfl, ⟨(hH.add HB).mono (by simp), fun h => (hE (ty_was 4 8 (by decide) h)).up (Up.below HB) (fun i x hx => cell_low HB hx)⟩, Up.below HB, fun d hd => rw_two hsz ok1 z1 l1 ok2 z2 l2⟩
      · -- ('of', 5, 99, 4, 98)
        obtain rfl := Option.some.inj hi
        have t1 : RwE wr.heap.size 2 4 ((a.tmps[98]?).getD undef) u := hst.at hdep 4 98 (by kernel_rfl) (by kernel_rfl)
        obtain ⟨b1, k1, e1, fl1, fo1, zf1, sz1, lb1, bu1, r1⟩ := t1
        refine wpOp_of rfl rfl (fun K hK => ?_)
        go_simp
        with_reducible refine (l71Of_any 4 _ 2 2 _).mono ?_
        rintro e u' ⟨rfl, HB⟩
        refine hK _ _ ⟨_, rfl, ⟨(hH.add HB).mono (by simp), fun h => (hE (ty_was 5 8 (by decide) h)).up (Up.below HB) (fun i x hx => cell_low HB hx)⟩, Up.below HB, fun d hd => Kd.up (d := .tm 4) (Up.below HB) (tm_of_row2 fl1 fo1 zf1 sz1 r1)⟩
      · -- ('box', 6, 100, 6)
        obtain rfl := Option.some.inj hi
        have ht : (a.tmps[6]?).getD undef = .pointer (some ⟨w4.heap.size, 0, none⟩) := hst.old 6 (by kernel_rfl)
        obtain ⟨c0, c1, c2⟩ := hH.a
        refine wpOp_of rfl rfl (fun K hK => ?_)
        go_simp
        refine hK _ _ ⟨_, rfl, ⟨hH.mono (by simp), fun h => hE (ty_was 6 8 (by decide) h)⟩, Up.refl _ _, fun d hd => ⟨1, 0, none, 0, .nil, rfl, okz_a, by decide, .inl rfl⟩⟩
      · -- ('build', 7, 101, 99, 100)
        obtain rfl := Option.some.inj hi
        have t1 : TmE wr.heap.size 4 ((a.tmps[99]?).getD undef) u := hst.at hdep 5 99 (by kernel_rfl) (by kernel_rfl)
        obtain ⟨s1, v1, a1, c1, k1, e1, ok1, z1, l1⟩ := t1
        have t2 : TmE wr.heap.size 1 ((a.tmps[100]?).getD undef) u := hst.at hdep 6 100 (by kernel_rfl) (by kernel_rfl)
        obtain ⟨s2, v2, a2, c2, k2, e2, ok2, z2, l2⟩ := t2
        refine wpOp_of rfl rfl (fun K hK => ?_)
        go_simp
        refine hK _ _ ⟨_, rfl, ⟨hH.mono (by simp), fun h => hE (ty_was 7 8 (by decide) h)⟩, Up.refl _ _, fun d hd => eq_of_two ok1 z1 l1 ok2 z2 l2 (by omega) (by omega)⟩
      · -- ('store', 8, None, 101)
        obtain rfl := Option.some.inj hi
        have ht : (a.tmps[2]?).getD undef = .pointer (some ⟨w.heap.size, 0, none⟩) := hst.old 2 (by kernel_rfl)
        have t1 : EqE wr.heap.size ((a.tmps[101]?).getD undef) u := hst.at hdep 7 101 (by kernel_rfl) (by kernel_rfl)
        obtain ⟨s1, v1, a1, c1, k1, s2, v2, a2, c2, k2, e1, ok1, z1, l1, ok2, z2, l2⟩ := t1
        obtain ⟨⟨m0, h0⟩, f0⟩ := hH.res 0 (by omega)
        obtain ⟨⟨m1, h1⟩, f1⟩ := hH.res 1 (by omega)
        obtain ⟨⟨m2, h2⟩, f2⟩ := hH.res 2 (by omega)
        obtain ⟨⟨m3, h3⟩, f3⟩ := hH.res 3 (by omega)
        obtain ⟨⟨m4, h4⟩, f4⟩ := hH.res 4 (by omega)
        obtain ⟨⟨m5, h5⟩, f5⟩ := hH.res 5 (by omega)
        refine wpOp_of rfl rfl (fun K hK => ?_)
        go_simp
        refine hK _ _ ⟨undef, rfl, ⟨(st6_eqs hH (Nat.le_refl _) (by omega) (by omega) (by omega) (by omega) (by omega) s1 v1 (.slice a1 (flen k1) c1) s2 v2 (.slice a2 (flen k2) c2)).mono (Nat.le_refl _), fun _ => st6_eqd hH hb0 ok1 z1 l1 ok2 z2 l2⟩, st6_up hb0 _ _ _ _ _ _, fun d hd => by cases hd⟩
    · intro listed a u hst hall
      have hD := hst.s.2 (hall 8 (by decide))
      have hH := hst.s.1
      have ht : (a.tmps[2]?).getD undef = .pointer (some ⟨w.heap.size, 0, none⟩) := hst.old 2 (by kernel_rfl)
      have hdf : a.defers = [] := hst.defers
      clear hst
      obtain ⟨tm, df⟩ := a
      dsimp only at hdf ht
      subst hdf
      obtain ⟨s, v, a, c, k, s2, v2, a2, c2, k2, ⟨h0, h1, h2, h3, h4, h5⟩, ok1, z1, l1, ok2, z2, l2⟩ := hD
      obtain ⟨pp, hA, hp1, hp2⟩ := hH.adv
      go_wp2_with fail
      refine bodyPost_ret (v := .agg #[.int .i64 s, .int .i64 v, .slice a (flen k) c, .int .i64 s2, .int .i64 v2, .slice a2 (flen k2) c2]) ?_ rfl ?_
      · simp [results, Tryz.results19, go_sem, ht, h0, h1, h2, h3, h4, h5]
      · exact ⟨s, v, a, c, k, s2, v2, a2, c2, k2, pp, rfl, ok1, z1, ok2, z2, hp1, (by omega), hA, l1.mono (by omega) (Nat.le_refl _), l2.mono (by omega) (Nat.le_refl _)⟩
  have y6 : ((y : Int) == 6) = false := by simp; omega
  by_cases hy7 : y = 7
  · subst hy7
    go_wp2_with fail
    refine wp_region_typed (fun i v u => (([.tm 1, .tm 1, .row 2 3, .tm 3, .row 1 4, .tm 4, .tm 1, .row 1 2, .tm 2, .tm 1, .row 1 2, .tm 2, .row 2 5, .tm 5, .eq, .any] : List Kd).getD i .any).is wr.heap.size v u) (fun listed _ u => EqS w br w.heap.size w1.heap.size w2.heap.size w3.heap.size w4.heap.size w5.heap.size wr.heap.size p 1 u ∧ (listed.getD 15 false = true → EqD wr.heap.size w.heap.size u)) (Up wr.heap.size) (by kernel_rfl) (by kernel_rfl) (fun i v u u' h hR => Kd.up hR h) ⟨HS0.out, fun h => by simp at h⟩ ?_ ?_
    · intro i o hi listed a u hst hun hdep
      have hin : i < 16 := (Array.getElem?_eq_some_iff.1 hi).1
      have hH := hst.s.1
      have hE := hst.s.2
      have hsz := hH.size
      have h16 : i = 0 ∨ i = 1 ∨ i = 2 ∨ i = 3 ∨ i = 4 ∨ i = 5 ∨ i = 6 ∨ i = 7 ∨ i = 8 ∨ i = 9 ∨ i = 10 ∨ i = 11 ∨ i = 12 ∨ i = 13 ∨ i = 14 ∨ i = 15 := by omega
      rcases h16 with rfl | rfl | rfl | rfl | rfl | rfl | rfl | rfl | rfl | rfl | rfl | rfl | rfl | rfl | rfl | rfl
      · -- ('box', 0, 104, 3)
        obtain rfl := Option.some.inj hi
        have ht : (a.tmps[3]?).getD undef = .pointer (some ⟨w1.heap.size, 0, none⟩) := hst.old 3 (by kernel_rfl)
        obtain ⟨c0, c1, c2⟩ := hH.x
        refine wpOp_of rfl rfl (fun K hK => ?_)
        go_simp
        refine hK _ _ ⟨_, rfl, ⟨hH.mono (by simp), fun h => hE (ty_was 0 15 (by decide) h)⟩, Up.refl _ _, fun d hd => ⟨0, 0, none, 0, .nil, rfl, (okz_var (by omega) (by omega)), by decide, .inl rfl⟩⟩
      · -- ('box', 1, 105, 4)
        obtain rfl := Option.some.inj hi
        have ht : (a.tmps[4]?).getD undef = .pointer (some ⟨w2.heap.size, 0, none⟩) := hst.old 4 (by kernel_rfl)
        obtain ⟨c0, c1, c2⟩ := hH.y
        refine wpOp_of rfl rfl (fun K hK => ?_)
        go_simp
        refine hK _ _ ⟨_, rfl, ⟨hH.mono (by simp), fun h => hE (ty_was 1 15 (by decide) h)⟩, Up.refl _ _, fun d hd => ⟨0, 1, none, 0, .nil, rfl, (okz_var (by omega) (by omega)), by decide, .inl rfl⟩⟩
      · -- ('row2', 2, 106, 104, 105)
        obtain rfl := Option.some.inj hi
        have t1 : TmE wr.heap.size 1 ((a.tmps[104]?).getD undef) u := hst.at hdep 0 104 (by kernel_rfl) (by kernel_rfl)
        obtain ⟨s1, v1, a1, c1, k1, e1, ok1, z1, l1⟩ := t1
        have t2 : TmE wr.heap.size 1 ((a.tmps[105]?).getD undef) u := hst.at hdep 1 105 (by kernel_rfl) (by kernel_rfl)
        obtain ⟨s2, v2, a2, c2, k2, e2, ok2, z2, l2⟩ := t2
        refine wpOp_of rfl rfl (fun K hK => ?_)
        go_simp
        have HB := box_low u (.cells #[.int .i64 s1, .int .i64 v1, .slice a1 (flen k1) c1, .int .i64 s2, .int .i64 v2, .slice a2 (flen k2) c2] 25)
        refine hK _ _ ⟨_, rfl, ⟨(hH.add HB).mono (by simp), fun h => (hE (ty_was 2 15 (by decide) h)).up (Up.below HB) (fun i x hx => cell_low HB hx)⟩, Up.below HB, fun d hd => rw_two hsz ok1 z1 l1 ok2 z2 l2⟩
      · -- ('of', 3, 107, 4, 106)
        obtain rfl := Option.some.inj hi
        have t1 : RwE wr.heap.size 2 3 ((a.tmps[106]?).getD undef) u := hst.at hdep 2 106 (by kernel_rfl) (by kernel_rfl)
        obtain ⟨b1, k1, e1, fl1, fo1, zf1, sz1, lb1, bu1, r1⟩ := t1
        refine wpOp_of rfl rfl (fun K hK => ?_)
        go_simp
        with_reducible refine (l71Of_any 4 _ 2 2 _).mono ?_
        rintro e u' ⟨rfl, HB⟩
        refine hK _ _ ⟨_, rfl, ⟨(hH.add HB).mono (by simp), fun h => (hE (ty_was 3 15 (by decide) h)).up (Up.below HB) (fun i x hx => cell_low HB hx)⟩, Up.below HB, fun d hd => Kd.up (d := .tm 3) (Up.below HB) (tm_of_row2 fl1 fo1 zf1 sz1 r1)⟩
      · -- ('row1', 4, 108, 107)
        obtain rfl := Option.some.inj hi
        have t1 : TmE wr.heap.size 3 ((a.tmps[107]?).getD undef) u := hst.at hdep 3 107 (by kernel_rfl) (by kernel_rfl)
        obtain ⟨s1, v1, a1, c1, k1, e1, ok1, z1, l1⟩ := t1
        refine wpOp_of rfl rfl (fun K hK => ?_)
        go_simp
        have HB := box_low u (.cells #[.int .i64 s1, .int .i64 v1, .slice a1 (flen k1) c1] 25)
        refine hK _ _ ⟨_, rfl, ⟨(hH.add HB).mono (by simp), fun h => (hE (ty_was 4 15 (by decide) h)).up (Up.below HB) (fun i x hx => cell_low HB hx)⟩, Up.below HB, fun d hd => rw_one hsz ok1 z1 l1⟩
      · -- ('of', 5, 109, 3, 108)
        obtain rfl := Option.some.inj hi
        have t1 : RwE wr.heap.size 1 4 ((a.tmps[108]?).getD undef) u := hst.at hdep 4 108 (by kernel_rfl) (by kernel_rfl)
        obtain ⟨b1, k1, e1, fl1, fo1, zf1, sz1, lb1, bu1, r1⟩ := t1
        refine wpOp_of rfl rfl (fun K hK => ?_)
        go_simp
        with_reducible refine (l71Of_any 3 _ 1 1 _).mono ?_
        rintro e u' ⟨rfl, HB⟩
        refine hK _ _ ⟨_, rfl, ⟨(hH.add HB).mono (by simp), fun h => (hE (ty_was 5 15 (by decide) h)).up (Up.below HB) (fun i x hx => cell_low HB hx)⟩, Up.below HB, fun d hd => Kd.up (d := .tm 4) (Up.below HB) (tm_of_row1 fl1 fo1 zf1 sz1 r1)⟩
      · -- ('box', 6, 110, 3)
        obtain rfl := Option.some.inj hi
        have ht : (a.tmps[3]?).getD undef = .pointer (some ⟨w1.heap.size, 0, none⟩) := hst.old 3 (by kernel_rfl)
        obtain ⟨c0, c1, c2⟩ := hH.x
        refine wpOp_of rfl rfl (fun K hK => ?_)
        go_simp
        refine hK _ _ ⟨_, rfl, ⟨hH.mono (by simp), fun h => hE (ty_was 6 15 (by decide) h)⟩, Up.refl _ _, fun d hd => ⟨0, 0, none, 0, .nil, rfl, (okz_var (by omega) (by omega)), by decide, .inl rfl⟩⟩
      · -- ('row1', 7, 111, 110)
        obtain rfl := Option.some.inj hi
        have t1 : TmE wr.heap.size 1 ((a.tmps[110]?).getD undef) u := hst.at hdep 6 110 (by kernel_rfl) (by kernel_rfl)
        obtain ⟨s1, v1, a1, c1, k1, e1, ok1, z1, l1⟩ := t1
        refine wpOp_of rfl rfl (fun K hK => ?_)
        go_simp
        have HB := box_low u (.cells #[.int .i64 s1, .int .i64 v1, .slice a1 (flen k1) c1] 25)
        refine hK _ _ ⟨_, rfl, ⟨(hH.add HB).mono (by simp), fun h => (hE (ty_was 7 15 (by decide) h)).up (Up.below HB) (fun i x hx => cell_low HB hx)⟩, Up.below HB, fun d hd => rw_one hsz ok1 z1 l1⟩
      · -- ('of', 8, 112, 3, 111)
        obtain rfl := Option.some.inj hi
        have t1 : RwE wr.heap.size 1 2 ((a.tmps[111]?).getD undef) u := hst.at hdep 7 111 (by kernel_rfl) (by kernel_rfl)
        obtain ⟨b1, k1, e1, fl1, fo1, zf1, sz1, lb1, bu1, r1⟩ := t1
        refine wpOp_of rfl rfl (fun K hK => ?_)
        go_simp
        with_reducible refine (l71Of_any 3 _ 1 1 _).mono ?_
        rintro e u' ⟨rfl, HB⟩
        refine hK _ _ ⟨_, rfl, ⟨(hH.add HB).mono (by simp), fun h => (hE (ty_was 8 15 (by decide) h)).up (Up.below HB) (fun i x hx => cell_low HB hx)⟩, Up.below HB, fun d hd => Kd.up (d := .tm 2) (Up.below HB) (tm_of_row1 fl1 fo1 zf1 sz1 r1)⟩
      · -- ('box', 9, 113, 4)
        obtain rfl := Option.some.inj hi
        have ht : (a.tmps[4]?).getD undef = .pointer (some ⟨w2.heap.size, 0, none⟩) := hst.old 4 (by kernel_rfl)
        obtain ⟨c0, c1, c2⟩ := hH.y
        refine wpOp_of rfl rfl (fun K hK => ?_)
        go_simp
        refine hK _ _ ⟨_, rfl, ⟨hH.mono (by simp), fun h => hE (ty_was 9 15 (by decide) h)⟩, Up.refl _ _, fun d hd => ⟨0, 1, none, 0, .nil, rfl, (okz_var (by omega) (by omega)), by decide, .inl rfl⟩⟩
      · -- ('row1', 10, 114, 113)
        obtain rfl := Option.some.inj hi
        have t1 : TmE wr.heap.size 1 ((a.tmps[113]?).getD undef) u := hst.at hdep 9 113 (by kernel_rfl) (by kernel_rfl)
        obtain ⟨s1, v1, a1, c1, k1, e1, ok1, z1, l1⟩ := t1
        refine wpOp_of rfl rfl (fun K hK => ?_)
        go_simp
        have HB := box_low u (.cells #[.int .i64 s1, .int .i64 v1, .slice a1 (flen k1) c1] 25)
        refine hK _ _ ⟨_, rfl, ⟨(hH.add HB).mono (by simp), fun h => (hE (ty_was 10 15 (by decide) h)).up (Up.below HB) (fun i x hx => cell_low HB hx)⟩, Up.below HB, fun d hd => rw_one hsz ok1 z1 l1⟩
      · -- ('of', 11, 115, 3, 114)
        obtain rfl := Option.some.inj hi
        have t1 : RwE wr.heap.size 1 2 ((a.tmps[114]?).getD undef) u := hst.at hdep 10 114 (by kernel_rfl) (by kernel_rfl)
        obtain ⟨b1, k1, e1, fl1, fo1, zf1, sz1, lb1, bu1, r1⟩ := t1
        refine wpOp_of rfl rfl (fun K hK => ?_)
        go_simp
        with_reducible refine (l71Of_any 3 _ 1 1 _).mono ?_
        rintro e u' ⟨rfl, HB⟩
        refine hK _ _ ⟨_, rfl, ⟨(hH.add HB).mono (by simp), fun h => (hE (ty_was 11 15 (by decide) h)).up (Up.below HB) (fun i x hx => cell_low HB hx)⟩, Up.below HB, fun d hd => Kd.up (d := .tm 2) (Up.below HB) (tm_of_row1 fl1 fo1 zf1 sz1 r1)⟩
      · -- ('row2', 12, 116, 112, 115)
        obtain rfl := Option.some.inj hi
        have t1 : TmE wr.heap.size 2 ((a.tmps[112]?).getD undef) u := hst.at hdep 8 112 (by kernel_rfl) (by kernel_rfl)
        obtain ⟨s1, v1, a1, c1, k1, e1, ok1, z1, l1⟩ := t1
        have t2 : TmE wr.heap.size 2 ((a.tmps[115]?).getD undef) u := hst.at hdep 11 115 (by kernel_rfl) (by kernel_rfl)
        obtain ⟨s2, v2, a2, c2, k2, e2, ok2, z2, l2⟩ := t2
        refine wpOp_of rfl rfl (fun K hK => ?_)
        go_simp
        have HB := box_low u (.cells #[.int .i64 s1, .int .i64 v1, .slice a1 (flen k1) c1, .int .i64 s2, .int .i64 v2, .slice a2 (flen k2) c2] 25)
        refine hK _ _ ⟨_, rfl, ⟨(hH.add HB).mono (by simp), fun h => (hE (ty_was 12 15 (by decide) h)).up (Up.below HB) (fun i x hx => cell_low HB hx)⟩, Up.below HB, fun d hd => rw_two hsz ok1 z1 l1 ok2 z2 l2⟩
      · -- ('of', 13, 117, 4, 116)
        obtain rfl := Option.some.inj hi
        have t1 : RwE wr.heap.size 2 5 ((a.tmps[116]?).getD undef) u := hst.at hdep 12 116 (by kernel_rfl) (by kernel_rfl)
        obtain ⟨b1, k1, e1, fl1, fo1, zf1, sz1, lb1, bu1, r1⟩ := t1
        refine wpOp_of rfl rfl (fun K hK => ?_)
        go_simp
        with_reducible refine (l71Of_any 4 _ 2 2 _).mono ?_
        rintro e u' ⟨rfl, HB⟩
        refine hK _ _ ⟨_, rfl, ⟨(hH.add HB).mono (by simp), fun h => (hE (ty_was 13 15 (by decide) h)).up (Up.below HB) (fun i x hx => cell_low HB hx)⟩, Up.below HB, fun d hd => Kd.up (d := .tm 5) (Up.below HB) (tm_of_row2 fl1 fo1 zf1 sz1 r1)⟩
      · -- ('build', 14, 118, 109, 117)
        obtain rfl := Option.some.inj hi
        have t1 : TmE wr.heap.size 4 ((a.tmps[109]?).getD undef) u := hst.at hdep 5 109 (by kernel_rfl) (by kernel_rfl)
        obtain ⟨s1, v1, a1, c1, k1, e1, ok1, z1, l1⟩ := t1
        have t2 : TmE wr.heap.size 5 ((a.tmps[117]?).getD undef) u := hst.at hdep 13 117 (by kernel_rfl) (by kernel_rfl)
        obtain ⟨s2, v2, a2, c2, k2, e2, ok2, z2, l2⟩ := t2
        refine wpOp_of rfl rfl (fun K hK => ?_)
        go_simp
        refine hK _ _ ⟨_, rfl, ⟨hH.mono (by simp), fun h => hE (ty_was 14 15 (by decide) h)⟩, Up.refl _ _, fun d hd => eq_of_two ok1 z1 l1 ok2 z2 l2 (by omega) (by omega)⟩
      · -- ('store', 15, None, 118)
        obtain rfl := Option.some.inj hi
        have ht : (a.tmps[2]?).getD undef = .pointer (some ⟨w.heap.size, 0, none⟩) := hst.old 2 (by kernel_rfl)
        have t1 : EqE wr.heap.size ((a.tmps[118]?).getD undef) u := hst.at hdep 14 118 (by kernel_rfl) (by kernel_rfl)
        obtain ⟨s1, v1, a1, c1, k1, s2, v2, a2, c2, k2, e1, ok1, z1, l1, ok2, z2, l2⟩ := t1
        obtain ⟨⟨m0, h0⟩, f0⟩ := hH.res 0 (by omega)
        obtain ⟨⟨m1, h1⟩, f1⟩ := hH.res 1 (by omega)
        obtain ⟨⟨m2, h2⟩, f2⟩ := hH.res 2 (by omega)
        obtain ⟨⟨m3, h3⟩, f3⟩ := hH.res 3 (by omega)
        obtain ⟨⟨m4, h4⟩, f4⟩ := hH.res 4 (by omega)
        obtain ⟨⟨m5, h5⟩, f5⟩ := hH.res 5 (by omega)
        refine wpOp_of rfl rfl (fun K hK => ?_)
        go_simp
        refine hK _ _ ⟨undef, rfl, ⟨(st6_eqs hH (Nat.le_refl _) (by omega) (by omega) (by omega) (by omega) (by omega) s1 v1 (.slice a1 (flen k1) c1) s2 v2 (.slice a2 (flen k2) c2)).mono (Nat.le_refl _), fun _ => st6_eqd hH hb0 ok1 z1 l1 ok2 z2 l2⟩, st6_up hb0 _ _ _ _ _ _, fun d hd => by cases hd⟩
    · intro listed a u hst hall
      have hD := hst.s.2 (hall 15 (by decide))
      have hH := hst.s.1
      have ht : (a.tmps[2]?).getD undef = .pointer (some ⟨w.heap.size, 0, none⟩) := hst.old 2 (by kernel_rfl)
      have hdf : a.defers = [] := hst.defers
      clear hst
      obtain ⟨tm, df⟩ := a
      dsimp only at hdf ht
      subst hdf
      obtain ⟨s, v, a, c, k, s2, v2, a2, c2, k2, ⟨h0, h1, h2, h3, h4, h5⟩, ok1, z1, l1, ok2, z2, l2⟩ := hD
      obtain ⟨pp, hA, hp1, hp2⟩ := hH.adv
      go_wp2_with fail
      refine bodyPost_ret (v := .agg #[.int .i64 s, .int .i64 v, .slice a (flen k) c, .int .i64 s2, .int .i64 v2, .slice a2 (flen k2) c2]) ?_ rfl ?_
      · simp [results, Tryz.results19, go_sem, ht, h0, h1, h2, h3, h4, h5]
      · exact ⟨s, v, a, c, k, s2, v2, a2, c2, k2, pp, rfl, ok1, z1, ok2, z2, hp1, (by omega), hA, l1.mono (by omega) (Nat.le_refl _), l2.mono (by omega) (Nat.le_refl _)⟩
  have y7 : ((y : Int) == 7) = false := by simp; omega
  by_cases hy8 : y = 8
  · subst hy8
    go_wp2_with fail
    refine wp_region_typed (fun i v u => (([.tm 1, .tm 1, .row 2 3, .tm 3, .tm 1, .tm 1, .row 2 3, .tm 3, .eq, .any] : List Kd).getD i .any).is wr.heap.size v u) (fun listed _ u => EqS w br w.heap.size w1.heap.size w2.heap.size w3.heap.size w4.heap.size w5.heap.size wr.heap.size p 1 u ∧ (listed.getD 9 false = true → EqD wr.heap.size w.heap.size u)) (Up wr.heap.size) (by kernel_rfl) (by kernel_rfl) (fun i v u u' h hR => Kd.up hR h) ⟨HS0.out, fun h => by simp at h⟩ ?_ ?_
    · intro i o hi listed a u hst hun hdep
      have hin : i < 10 := (Array.getElem?_eq_some_iff.1 hi).1
      have hH := hst.s.1
      have hE := hst.s.2
      have hsz := hH.size
      have h16 : i = 0 ∨ i = 1 ∨ i = 2 ∨ i = 3 ∨ i = 4 ∨ i = 5 ∨ i = 6 ∨ i = 7 ∨ i = 8 ∨ i = 9 := by omega
      rcases h16 with rfl | rfl | rfl | rfl | rfl | rfl | rfl | rfl | rfl | rfl
      · -- ('box', 0, 121, 3)
        obtain rfl := Option.some.inj hi
        have ht : (a.tmps[3]?).getD undef = .pointer (some ⟨w1.heap.size, 0, none⟩) := hst.old 3 (by kernel_rfl)
        obtain ⟨c0, c1, c2⟩ := hH.x
        refine wpOp_of rfl rfl (fun K hK => ?_)
        go_simp
        refine hK _ _ ⟨_, rfl, ⟨hH.mono (by simp), fun h => hE (ty_was 0 9 (by decide) h)⟩, Up.refl _ _, fun d hd => ⟨0, 0, none, 0, .nil, rfl, (okz_var (by omega) (by omega)), by decide, .inl rfl⟩⟩
      · -- ('box', 1, 122, 4)
        obtain rfl := Option.some.inj hi
        have ht : (a.tmps[4]?).getD undef = .pointer (some ⟨w2.heap.size, 0, none⟩) := hst.old 4 (by kernel_rfl)
        obtain ⟨c0, c1, c2⟩ := hH.y
        refine wpOp_of rfl rfl (fun K hK => ?_)
        go_simp
        refine hK _ _ ⟨_, rfl, ⟨hH.mono (by simp), fun h => hE (ty_was 1 9 (by decide) h)⟩, Up.refl _ _, fun d hd => ⟨0, 1, none, 0, .nil, rfl, (okz_var (by omega) (by omega)), by decide, .inl rfl⟩⟩
      · -- ('row2', 2, 123, 121, 122)
        obtain rfl := Option.some.inj hi
        have t1 : TmE wr.heap.size 1 ((a.tmps[121]?).getD undef) u := hst.at hdep 0 121 (by kernel_rfl) (by kernel_rfl)
        obtain ⟨s1, v1, a1, c1, k1, e1, ok1, z1, l1⟩ := t1
        have t2 : TmE wr.heap.size 1 ((a.tmps[122]?).getD undef) u := hst.at hdep 1 122 (by kernel_rfl) (by kernel_rfl)
        obtain ⟨s2, v2, a2, c2, k2, e2, ok2, z2, l2⟩ := t2
        refine wpOp_of rfl rfl (fun K hK => ?_)
        go_simp
        have HB := box_low u (.cells #[.int .i64 s1, .int .i64 v1, .slice a1 (flen k1) c1, .int .i64 s2, .int .i64 v2, .slice a2 (flen k2) c2] 25)
        refine hK _ _ ⟨_, rfl, ⟨(hH.add HB).mono (by simp), fun h => (hE (ty_was 2 9 (by decide) h)).up (Up.below HB) (fun i x hx => cell_low HB hx)⟩, Up.below HB, fun d hd => rw_two hsz ok1 z1 l1 ok2 z2 l2⟩
      · -- ('of', 3, 124, 4, 123)
        obtain rfl := Option.some.inj hi
        have t1 : RwE wr.heap.size 2 3 ((a.tmps[123]?).getD undef) u := hst.at hdep 2 123 (by kernel_rfl) (by kernel_rfl)
        obtain ⟨b1, k1, e1, fl1, fo1, zf1, sz1, lb1, bu1, r1⟩ := t1
        refine wpOp_of rfl rfl (fun K hK => ?_)
        go_simp
        with_reducible refine (l71Of_any 4 _ 2 2 _).mono ?_
        rintro e u' ⟨rfl, HB⟩
        refine hK _ _ ⟨_, rfl, ⟨(hH.add HB).mono (by simp), fun h => (hE (ty_was 3 9 (by decide) h)).up (Up.below HB) (fun i x hx => cell_low HB hx)⟩, Up.below HB, fun d hd => Kd.up (d := .tm 3) (Up.below HB) (tm_of_row2 fl1 fo1 zf1 sz1 r1)⟩
      · -- ('box', 4, 125, 4)
        obtain rfl := Option.some.inj hi
        have ht : (a.tmps[4]?).getD undef = .pointer (some ⟨w2.heap.size, 0, none⟩) := hst.old 4 (by kernel_rfl)
        obtain ⟨c0, c1, c2⟩ := hH.y
        refine wpOp_of rfl rfl (fun K hK => ?_)
        go_simp
        refine hK _ _ ⟨_, rfl, ⟨hH.mono (by simp), fun h => hE (ty_was 4 9 (by decide) h)⟩, Up.refl _ _, fun d hd => ⟨0, 1, none, 0, .nil, rfl, (okz_var (by omega) (by omega)), by decide, .inl rfl⟩⟩
      · -- ('box', 5, 126, 3)
        obtain rfl := Option.some.inj hi
        have ht : (a.tmps[3]?).getD undef = .pointer (some ⟨w1.heap.size, 0, none⟩) := hst.old 3 (by kernel_rfl)
        obtain ⟨c0, c1, c2⟩ := hH.x
        refine wpOp_of rfl rfl (fun K hK => ?_)
        go_simp
        refine hK _ _ ⟨_, rfl, ⟨hH.mono (by simp), fun h => hE (ty_was 5 9 (by decide) h)⟩, Up.refl _ _, fun d hd => ⟨0, 0, none, 0, .nil, rfl, (okz_var (by omega) (by omega)), by decide, .inl rfl⟩⟩
      · -- ('row2', 6, 127, 125, 126)
        obtain rfl := Option.some.inj hi
        have t1 : TmE wr.heap.size 1 ((a.tmps[125]?).getD undef) u := hst.at hdep 4 125 (by kernel_rfl) (by kernel_rfl)
        obtain ⟨s1, v1, a1, c1, k1, e1, ok1, z1, l1⟩ := t1
        have t2 : TmE wr.heap.size 1 ((a.tmps[126]?).getD undef) u := hst.at hdep 5 126 (by kernel_rfl) (by kernel_rfl)
        obtain ⟨s2, v2, a2, c2, k2, e2, ok2, z2, l2⟩ := t2
        refine wpOp_of rfl rfl (fun K hK => ?_)
        go_simp
        have HB := box_low u (.cells #[.int .i64 s1, .int .i64 v1, .slice a1 (flen k1) c1, .int .i64 s2, .int .i64 v2, .slice a2 (flen k2) c2] 25)
        refine hK _ _ ⟨_, rfl, ⟨(hH.add HB).mono (by simp), fun h => (hE (ty_was 6 9 (by decide) h)).up (Up.below HB) (fun i x hx => cell_low HB hx)⟩, Up.below HB, fun d hd => rw_two hsz ok1 z1 l1 ok2 z2 l2⟩
      · -- ('of', 7, 128, 4, 127)
        obtain rfl := Option.some.inj hi
        have t1 : RwE wr.heap.size 2 3 ((a.tmps[127]?).getD undef) u := hst.at hdep 6 127 (by kernel_rfl) (by kernel_rfl)
        obtain ⟨b1, k1, e1, fl1, fo1, zf1, sz1, lb1, bu1, r1⟩ := t1
        refine wpOp_of rfl rfl (fun K hK => ?_)
        go_simp
        with_reducible refine (l71Of_any 4 _ 2 2 _).mono ?_
        rintro e u' ⟨rfl, HB⟩
        refine hK _ _ ⟨_, rfl, ⟨(hH.add HB).mono (by simp), fun h => (hE (ty_was 7 9 (by decide) h)).up (Up.below HB) (fun i x hx => cell_low HB hx)⟩, Up.below HB, fun d hd => Kd.up (d := .tm 3) (Up.below HB) (tm_of_row2 fl1 fo1 zf1 sz1 r1)⟩
      · -- ('build', 8, 129, 124, 128)
        obtain rfl := Option.some.inj hi
        have t1 : TmE wr.heap.size 3 ((a.tmps[124]?).getD undef) u := hst.at hdep 3 124 (by kernel_rfl) (by kernel_rfl)
        obtain ⟨s1, v1, a1, c1, k1, e1, ok1, z1, l1⟩ := t1
        have t2 : TmE wr.heap.size 3 ((a.tmps[128]?).getD undef) u := hst.at hdep 7 128 (by kernel_rfl) (by kernel_rfl)
        obtain ⟨s2, v2, a2, c2, k2, e2, ok2, z2, l2⟩ := t2
        refine wpOp_of rfl rfl (fun K hK => ?_)
        go_simp
        refine hK _ _ ⟨_, rfl, ⟨hH.mono (by simp), fun h => hE (ty_was 8 9 (by decide) h)⟩, Up.refl _ _, fun d hd => eq_of_two ok1 z1 l1 ok2 z2 l2 (by omega) (by omega)⟩
      · -- ('store', 9, None, 129)
        obtain rfl := Option.some.inj hi
        have ht : (a.tmps[2]?).getD undef = .pointer (some ⟨w.heap.size, 0, none⟩) := hst.old 2 (by kernel_rfl)
        have t1 : EqE wr.heap.size ((a.tmps[129]?).getD undef) u := hst.at hdep 8 129 (by kernel_rfl) (by kernel_rfl)
        obtain ⟨s1, v1, a1, c1, k1, s2, v2, a2, c2, k2, e1, ok1, z1, l1, ok2, z2, l2⟩ := t1
        obtain ⟨⟨m0, h0⟩, f0⟩ := hH.res 0 (by omega)
        obtain ⟨⟨m1, h1⟩, f1⟩ := hH.res 1 (by omega)
        obtain ⟨⟨m2, h2⟩, f2⟩ := hH.res 2 (by omega)
        obtain ⟨⟨m3, h3⟩, f3⟩ := hH.res 3 (by omega)
        obtain ⟨⟨m4, h4⟩, f4⟩ := hH.res 4 (by omega)
        obtain ⟨⟨m5, h5⟩, f5⟩ := hH.res 5 (by omega)
        refine wpOp_of rfl rfl (fun K hK => ?_)
        go_simp
        refine hK _ _ ⟨undef, rfl, ⟨(st6_eqs hH (Nat.le_refl _) (by omega) (by omega) (by omega) (by omega) (by omega) s1 v1 (.slice a1 (flen k1) c1) s2 v2 (.slice a2 (flen k2) c2)).mono (Nat.le_refl _), fun _ => st6_eqd hH hb0 ok1 z1 l1 ok2 z2 l2⟩, st6_up hb0 _ _ _ _ _ _, fun d hd => by cases hd⟩
    · intro listed a u hst hall
      have hD := hst.s.2 (hall 9 (by decide))
      have hH := hst.s.1
      have ht : (a.tmps[2]?).getD undef = .pointer (some ⟨w.heap.size, 0, none⟩) := hst.old 2 (by kernel_rfl)
      have hdf : a.defers = [] := hst.defers
      clear hst
      obtain ⟨tm, df⟩ := a
      dsimp only at hdf ht
      subst hdf
      obtain ⟨s, v, a, c, k, s2, v2, a2, c2, k2, ⟨h0, h1, h2, h3, h4, h5⟩, ok1, z1, l1, ok2, z2, l2⟩ := hD
      obtain ⟨pp, hA, hp1, hp2⟩ := hH.adv
      go_wp2_with fail
      refine bodyPost_ret (v := .agg #[.int .i64 s, .int .i64 v, .slice a (flen k) c, .int .i64 s2, .int .i64 v2, .slice a2 (flen k2) c2]) ?_ rfl ?_
      · simp [results, Tryz.results19, go_sem, ht, h0, h1, h2, h3, h4, h5]
      · exact ⟨s, v, a, c, k, s2, v2, a2, c2, k2, pp, rfl, ok1, z1, ok2, z2, hp1, (by omega), hA, l1.mono (by omega) (Nat.le_refl _), l2.mono (by omega) (Nat.le_refl _)⟩
  have y8 : ((y : Int) == 8) = false := by simp; omega
  by_cases hy9 : y = 9
  · subst hy9
    go_wp2_with fail
    refine wp_region_typed (fun i v u => (([.tm 1, .tm 1, .row 2 3, .tm 3, .tm 1, .eq, .any] : List Kd).getD i .any).is wr.heap.size v u) (fun listed _ u => EqS w br w.heap.size w1.heap.size w2.heap.size w3.heap.size w4.heap.size w5.heap.size wr.heap.size p 1 u ∧ (listed.getD 6 false = true → EqD wr.heap.size w.heap.size u)) (Up wr.heap.size) (by kernel_rfl) (by kernel_rfl) (fun i v u u' h hR => Kd.up hR h) ⟨HS0.out, fun h => by simp at h⟩ ?_ ?_
    · intro i o hi listed a u hst hun hdep
      have hin : i < 7 := (Array.getElem?_eq_some_iff.1 hi).1
      have hH := hst.s.1
      have hE := hst.s.2
      have hsz := hH.size
      have h16 : i = 0 ∨ i = 1 ∨ i = 2 ∨ i = 3 ∨ i = 4 ∨ i = 5 ∨ i = 6 := by omega
      rcases h16 with rfl | rfl | rfl | rfl | rfl | rfl | rfl
      · -- ('box', 0, 132, 3)
        obtain rfl := Option.some.inj hi
        have ht : (a.tmps[3]?).getD undef = .pointer (some ⟨w1.heap.size, 0, none⟩) := hst.old 3 (by kernel_rfl)
        obtain ⟨c0, c1, c2⟩ := hH.x
        refine wpOp_of rfl rfl (fun K hK => ?_)
        go_simp
        refine hK _ _ ⟨_, rfl, ⟨hH.mono (by simp), fun h => hE (ty_was 0 6 (by decide) h)⟩, Up.refl _ _, fun d hd => ⟨0, 0, none, 0, .nil, rfl, (okz_var (by omega) (by omega)), by decide, .inl rfl⟩⟩
      · -- ('box', 1, 133, 7)
        obtain rfl := Option.some.inj hi
        have ht : (a.tmps[7]?).getD undef = .pointer (some ⟨w5.heap.size, 0, none⟩) := hst.old 7 (by kernel_rfl)
        obtain ⟨c0, c1, c2⟩ := hH.b
        refine wpOp_of rfl rfl (fun K hK => ?_)
        go_simp
        refine hK _ _ ⟨_, rfl, ⟨hH.mono (by simp), fun h => hE (ty_was 1 6 (by decide) h)⟩, Up.refl _ _, fun d hd => ⟨2, 0, none, 0, .nil, rfl, okz_b, by decide, .inl rfl⟩⟩
      · -- ('row2', 2, 134, 132, 133)
        obtain rfl := Option.some.inj hi
        have t1 : TmE wr.heap.size 1 ((a.tmps[132]?).getD undef) u := hst.at hdep 0 132 (by kernel_rfl) (by kernel_rfl)
        obtain ⟨s1, v1, a1, c1, k1, e1, ok1, z1, l1⟩ := t1
        have t2 : TmE wr.heap.size 1 ((a.tmps[133]?).getD undef) u := hst.at hdep 1 133 (by kernel_rfl) (by kernel_rfl)
        obtain ⟨s2, v2, a2, c2, k2, e2, ok2, z2, l2⟩ := t2
        refine wpOp_of rfl rfl (fun K hK => ?_)
        go_simp
        have HB := box_low u (.cells #[.int .i64 s1, .int .i64 v1, .slice a1 (flen k1) c1, .int .i64 s2, .int .i64 v2, .slice a2 (flen k2) c2] 25)
        refine hK _ _ ⟨_, rfl, ⟨(hH.add HB).mono (by simp), fun h => (hE (ty_was 2 6 (by decide) h)).up (Up.below HB) (fun i x hx => cell_low HB hx)⟩, Up.below HB, fun d hd => rw_two hsz ok1 z1 l1 ok2 z2 l2⟩
      · -- ('of', 3, 135, 4, 134)
        obtain rfl := Option.some.inj hi
        have t1 : RwE wr.heap.size 2 3 ((a.tmps[134]?).getD undef) u := hst.at hdep 2 134 (by kernel_rfl) (by kernel_rfl)
        obtain ⟨b1, k1, e1, fl1, fo1, zf1, sz1, lb1, bu1, r1⟩ := t1
        refine wpOp_of rfl rfl (fun K hK => ?_)
        go_simp
        with_reducible refine (l71Of_any 4 _ 2 2 _).mono ?_
        rintro e u' ⟨rfl, HB⟩
        refine hK _ _ ⟨_, rfl, ⟨(hH.add HB).mono (by simp), fun h => (hE (ty_was 3 6 (by decide) h)).up (Up.below HB) (fun i x hx => cell_low HB hx)⟩, Up.below HB, fun d hd => Kd.up (d := .tm 3) (Up.below HB) (tm_of_row2 fl1 fo1 zf1 sz1 r1)⟩
      · -- ('box', 4, 136, 7)
        obtain rfl := Option.some.inj hi
        have ht : (a.tmps[7]?).getD undef = .pointer (some ⟨w5.heap.size, 0, none⟩) := hst.old 7 (by kernel_rfl)
        obtain ⟨c0, c1, c2⟩ := hH.b
        refine wpOp_of rfl rfl (fun K hK => ?_)
        go_simp
        refine hK _ _ ⟨_, rfl, ⟨hH.mono (by simp), fun h => hE (ty_was 4 6 (by decide) h)⟩, Up.refl _ _, fun d hd => ⟨2, 0, none, 0, .nil, rfl, okz_b, by decide, .inl rfl⟩⟩
      · -- ('build', 5, 137, 135, 136)
        obtain rfl := Option.some.inj hi
        have t1 : TmE wr.heap.size 3 ((a.tmps[135]?).getD undef) u := hst.at hdep 3 135 (by kernel_rfl) (by kernel_rfl)
        obtain ⟨s1, v1, a1, c1, k1, e1, ok1, z1, l1⟩ := t1
        have t2 : TmE wr.heap.size 1 ((a.tmps[136]?).getD undef) u := hst.at hdep 4 136 (by kernel_rfl) (by kernel_rfl)
        obtain ⟨s2, v2, a2, c2, k2, e2, ok2, z2, l2⟩ := t2
        refine wpOp_of rfl rfl (fun K hK => ?_)
        go_simp
        refine hK _ _ ⟨_, rfl, ⟨hH.mono (by simp), fun h => hE (ty_was 5 6 (by decide) h)⟩, Up.refl _ _, fun d hd => eq_of_two ok1 z1 l1 ok2 z2 l2 (by omega) (by omega)⟩
      · -- ('store', 6, None, 137)
        obtain rfl := Option.some.inj hi
        have ht : (a.tmps[2]?).getD undef = .pointer (some ⟨w.heap.size, 0, none⟩) := hst.old 2 (by kernel_rfl)
        have t1 : EqE wr.heap.size ((a.tmps[137]?).getD undef) u := hst.at hdep 5 137 (by kernel_rfl) (by kernel_rfl)
        obtain ⟨s1, v1, a1, c1, k1, s2, v2, a2, c2, k2, e1, ok1, z1, l1, ok2, z2, l2⟩ := t1
        obtain ⟨⟨m0, h0⟩, f0⟩ := hH.res 0 (by omega)
        obtain ⟨⟨m1, h1⟩, f1⟩ := hH.res 1 (by omega)
        obtain ⟨⟨m2, h2⟩, f2⟩ := hH.res 2 (by omega)
        obtain ⟨⟨m3, h3⟩, f3⟩ := hH.res 3 (by omega)
        obtain ⟨⟨m4, h4⟩, f4⟩ := hH.res 4 (by omega)
        obtain ⟨⟨m5, h5⟩, f5⟩ := hH.res 5 (by omega)
        refine wpOp_of rfl rfl (fun K hK => ?_)
        go_simp
        refine hK _ _ ⟨undef, rfl, ⟨(st6_eqs hH (Nat.le_refl _) (by omega) (by omega) (by omega) (by omega) (by omega) s1 v1 (.slice a1 (flen k1) c1) s2 v2 (.slice a2 (flen k2) c2)).mono (Nat.le_refl _), fun _ => st6_eqd hH hb0 ok1 z1 l1 ok2 z2 l2⟩, st6_up hb0 _ _ _ _ _ _, fun d hd => by cases hd⟩
    · intro listed a u hst hall
      have hD := hst.s.2 (hall 6 (by decide))
      have hH := hst.s.1
      have ht : (a.tmps[2]?).getD undef = .pointer (some ⟨w.heap.size, 0, none⟩) := hst.old 2 (by kernel_rfl)
      have hdf : a.defers = [] := hst.defers
      clear hst
      obtain ⟨tm, df⟩ := a
      dsimp only at hdf ht
      subst hdf
      obtain ⟨s, v, a, c, k, s2, v2, a2, c2, k2, ⟨h0, h1, h2, h3, h4, h5⟩, ok1, z1, l1, ok2, z2, l2⟩ := hD
      obtain ⟨pp, hA, hp1, hp2⟩ := hH.adv
      go_wp2_with fail
      refine bodyPost_ret (v := .agg #[.int .i64 s, .int .i64 v, .slice a (flen k) c, .int .i64 s2, .int .i64 v2, .slice a2 (flen k2) c2]) ?_ rfl ?_
      · simp [results, Tryz.results19, go_sem, ht, h0, h1, h2, h3, h4, h5]
      · exact ⟨s, v, a, c, k, s2, v2, a2, c2, k2, pp, rfl, ok1, z1, ok2, z2, hp1, (by omega), hA, l1.mono (by omega) (Nat.le_refl _), l2.mono (by omega) (Nat.le_refl _)⟩
  have y9 : ((y : Int) == 9) = false := by simp; omega
  by_cases hy10 : y = 10
  · subst hy10
    clear HS0
    obtain ⟨ca0, ca1, ca2⟩ := HSW.out.a
    obtain ⟨cb0, cb1, cb2⟩ := HSW.out.b
    obtain ⟨⟨m0, h0⟩, f0⟩ := HSW.out.res 0 (by omega)
    obtain ⟨⟨m1, h1⟩, f1⟩ := HSW.out.res 1 (by omega)
    obtain ⟨⟨m2, h2⟩, f2⟩ := HSW.out.res 2 (by omega)
    obtain ⟨⟨m3, h3⟩, f3⟩ := HSW.out.res 3 (by omega)
    obtain ⟨⟨m4, h4⟩, f4⟩ := HSW.out.res 4 (by omega)
    obtain ⟨⟨m5, h5⟩, f5⟩ := HSW.out.res 5 (by omega)
    have HF := st6_eqs HSW.out (Nat.le_refl _) (by omega) (by omega) (by omega) (by omega) (by omega) 1 0 (.slice none 0 0) 2 0 (.slice none 0 0)
    obtain ⟨d0, d1, d2, d3, d4, d5⟩ := st6_cells HSW.out 1 0 (.slice none 0 0) 2 0 (.slice none 0 0)
    unfold st6 at HF d0 d1 d2 d3 d4 d5
    have HFH := Lib.hid HF
    have HD := Lib.hid (And.intro d0 (And.intro d1 (And.intro d2 (And.intro d3 (And.intro d4 d5)))))
    clear HF d0 d1 d2 d3 d4 d5
    go_wp2_with fail
    obtain ⟨d0, d1, d2, d3, d4, d5⟩ := HD.out
    obtain ⟨pp, hA, hp1, hp2⟩ := HFH.out.adv
    refine bodyPost_ret (v := .agg #[.int .i64 1, .int .i64 0, .slice none 0 0, .int .i64 2, .int .i64 0, .slice none 0 0]) ?_ rfl ?_
    · simp [results, Tryz.results19, go_sem, d0, d1, d2, d3, d4, d5]
    · exact ⟨1, 0, none, 0, .nil, 2, 0, none, 0, .nil, pp, rfl, okz_a, by decide, okz_b, by decide, hp1, by omega, hA, .inl rfl, .inl rfl⟩
  have y10 : ((y : Int) == 10) = false := by simp; omega
  by_cases hy11 : y = 11
  · subst hy11
    go_wp2_with fail
    refine wp_region_typed (fun i v u => (([.tm 1, .tm 1, .row 1 2, .tm 2, .row 2 4, .tm 4, .tm 1, .tm 1, .row 2 3, .tm 3, .row 1 4, .tm 4, .eq, .any] : List Kd).getD i .any).is wr.heap.size v u) (fun listed _ u => EqS w br w.heap.size w1.heap.size w2.heap.size w3.heap.size w4.heap.size w5.heap.size wr.heap.size p 1 u ∧ (listed.getD 13 false = true → EqD wr.heap.size w.heap.size u)) (Up wr.heap.size) (by kernel_rfl) (by kernel_rfl) (fun i v u u' h hR => Kd.up hR h) ⟨HS0.out, fun h => by simp at h⟩ ?_ ?_
    · intro i o hi listed a u hst hun hdep
      have hin : i < 14 := (Array.getElem?_eq_some_iff.1 hi).1
      have hH := hst.s.1
      have hE := hst.s.2
      have hsz := hH.size
      have h16 : i = 0 ∨ i = 1 ∨ i = 2 ∨ i = 3 ∨ i = 4 ∨ i = 5 ∨ i = 6 ∨ i = 7 ∨ i = 8 ∨ i = 9 ∨ i = 10 ∨ i = 11 ∨ i = 12 ∨ i = 13 := by omega
      rcases h16 with rfl | rfl | rfl | rfl | rfl | rfl | rfl | rfl | rfl | rfl | rfl | rfl | rfl | rfl
      · -- ('box', 0, 145, 3)
        obtain rfl := Option.some.inj hi
        have ht : (a.tmps[3]?).getD undef = .pointer (some ⟨w1.heap.size, 0, none⟩) := hst.old 3 (by kernel_rfl)
        obtain ⟨c0, c1, c2⟩ := hH.x
        refine wpOp_of rfl rfl (fun K hK => ?_)
        go_simp
        refine hK _ _ ⟨_, rfl, ⟨hH.mono (by simp), fun h => hE (ty_was 0 13 (by decide) h)⟩, Up.refl _ _, fun d hd => ⟨0, 0, none, 0, .nil, rfl, (okz_var (by omega) (by omega)), by decide, .inl rfl⟩⟩
      · -- ('box', 1, 146, 4)
        obtain rfl := Option.some.inj hi
        have ht : (a.tmps[4]?).getD undef = .pointer (some ⟨w2.heap.size, 0, none⟩) := hst.old 4 (by kernel_rfl)
        obtain ⟨c0, c1, c2⟩ := hH.y
        refine wpOp_of rfl rfl (fun K hK => ?_)
        go_simp
        refine hK _ _ ⟨_, rfl, ⟨hH.mono (by simp), fun h => hE (ty_was 1 13 (by decide) h)⟩, Up.refl _ _, fun d hd => ⟨0, 1, none, 0, .nil, rfl, (okz_var (by omega) (by omega)), by decide, .inl rfl⟩⟩
      · -- ('row1', 2, 147, 146)
        obtain rfl := Option.some.inj hi
        have t1 : TmE wr.heap.size 1 ((a.tmps[146]?).getD undef) u := hst.at hdep 1 146 (by kernel_rfl) (by kernel_rfl)
        obtain ⟨s1, v1, a1, c1, k1, e1, ok1, z1, l1⟩ := t1
        refine wpOp_of rfl rfl (fun K hK => ?_)
        go_simp
        have HB := box_low u (.cells #[.int .i64 s1, .int .i64 v1, .slice a1 (flen k1) c1] 25)
        refine hK _ _ ⟨_, rfl, ⟨(hH.add HB).mono (by simp), fun h => (hE (ty_was 2 13 (by decide) h)).up (Up.below HB) (fun i x hx => cell_low HB hx)⟩, Up.below HB, fun d hd => rw_one hsz ok1 z1 l1⟩
      · -- ('of', 3, 148, 3, 147)
        obtain rfl := Option.some.inj hi
        have t1 : RwE wr.heap.size 1 2 ((a.tmps[147]?).getD undef) u := hst.at hdep 2 147 (by kernel_rfl) (by kernel_rfl)
        obtain ⟨b1, k1, e1, fl1, fo1, zf1, sz1, lb1, bu1, r1⟩ := t1
        refine wpOp_of rfl rfl (fun K hK => ?_)
        go_simp
        with_reducible refine (l71Of_any 3 _ 1 1 _).mono ?_
        rintro e u' ⟨rfl, HB⟩
        refine hK _ _ ⟨_, rfl, ⟨(hH.add HB).mono (by simp), fun h => (hE (ty_was 3 13 (by decide) h)).up (Up.below HB) (fun i x hx => cell_low HB hx)⟩, Up.below HB, fun d hd => Kd.up (d := .tm 2) (Up.below HB) (tm_of_row1 fl1 fo1 zf1 sz1 r1)⟩
      · -- ('row2', 4, 149, 145, 148)
        obtain rfl := Option.some.inj hi
        have t1 : TmE wr.heap.size 1 ((a.tmps[145]?).getD undef) u := hst.at hdep 0 145 (by kernel_rfl) (by kernel_rfl)
        obtain ⟨s1, v1, a1, c1, k1, e1, ok1, z1, l1⟩ := t1
        have t2 : TmE wr.heap.size 2 ((a.tmps[148]?).getD undef) u := hst.at hdep 3 148 (by kernel_rfl) (by kernel_rfl)
        obtain ⟨s2, v2, a2, c2, k2, e2, ok2, z2, l2⟩ := t2
        refine wpOp_of rfl rfl (fun K hK => ?_)
        go_simp
        have HB := box_low u (.cells #[.int .i64 s1, .int .i64 v1, .slice a1 (flen k1) c1, .int .i64 s2, .int .i64 v2, .slice a2 (flen k2) c2] 25)
        refine hK _ _ ⟨_, rfl, ⟨(hH.add HB).mono (by simp), fun h => (hE (ty_was 4 13 (by decide) h)).up (Up.below HB) (fun i x hx => cell_low HB hx)⟩, Up.below HB, fun d hd => rw_two hsz ok1 z1 l1 ok2 z2 l2⟩
      · -- ('of', 5, 150, 4, 149)
        obtain rfl := Option.some.inj hi
        have t1 : RwE wr.heap.size 2 4 ((a.tmps[149]?).getD undef) u := hst.at hdep 4 149 (by kernel_rfl) (by kernel_rfl)
        obtain ⟨b1, k1, e1, fl1, fo1, zf1, sz1, lb1, bu1, r1⟩ := t1
        refine wpOp_of rfl rfl (fun K hK => ?_)
        go_simp
        with_reducible refine (l71Of_any 4 _ 2 2 _).mono ?_
        rintro e u' ⟨rfl, HB⟩
        refine hK _ _ ⟨_, rfl, ⟨(hH.add HB).mono (by simp), fun h => (hE (ty_was 5 13 (by decide) h)).up (Up.below HB) (fun i x hx => cell_low HB hx)⟩, Up.below HB, fun d hd => Kd.up (d := .tm 4) (Up.below HB) (tm_of_row2 fl1 fo1 zf1 sz1 r1)⟩
      · -- ('box', 6, 151, 3)
        obtain rfl := Option.some.inj hi
        have ht : (a.tmps[3]?).getD undef = .pointer (some ⟨w1.heap.size, 0, none⟩) := hst.old 3 (by kernel_rfl)
        obtain ⟨c0, c1, c2⟩ := hH.x
        refine wpOp_of rfl rfl (fun K hK => ?_)
        go_simp
        refine hK _ _ ⟨_, rfl, ⟨hH.mono (by simp), fun h => hE (ty_was 6 13 (by decide) h)⟩, Up.refl _ _, fun d hd => ⟨0, 0, none, 0, .nil, rfl, (okz_var (by omega) (by omega)), by decide, .inl rfl⟩⟩
      · -- ('box', 7, 152, 4)
        obtain rfl := Option.some.inj hi
        have ht : (a.tmps[4]?).getD undef = .pointer (some ⟨w2.heap.size, 0, none⟩) := hst.old 4 (by kernel_rfl)
        obtain ⟨c0, c1, c2⟩ := hH.y
        refine wpOp_of rfl rfl (fun K hK => ?_)
        go_simp
        refine hK _ _ ⟨_, rfl, ⟨hH.mono (by simp), fun h => hE (ty_was 7 13 (by decide) h)⟩, Up.refl _ _, fun d hd => ⟨0, 1, none, 0, .nil, rfl, (okz_var (by omega) (by omega)), by decide, .inl rfl⟩⟩
      · -- ('row2', 8, 153, 151, 152)
        obtain rfl := Option.some.inj hi
        have t1 : TmE wr.heap.size 1 ((a.tmps[151]?).getD undef) u := hst.at hdep 6 151 (by kernel_rfl) (by kernel_rfl)
        obtain ⟨s1, v1, a1, c1, k1, e1, ok1, z1, l1⟩ := t1
        have t2 : TmE wr.heap.size 1 ((a.tmps[152]?).getD undef) u := hst.at hdep 7 152 (by kernel_rfl) (by kernel_rfl)
        obtain ⟨s2, v2, a2, c2, k2, e2, ok2, z2, l2⟩ := t2
        refine wpOp_of rfl rfl (fun K hK => ?_)
        go_simp
        have HB := box_low u (.cells #[.int .i64 s1, .int .i64 v1, .slice a1 (flen k1) c1, .int .i64 s2, .int .i64 v2, .slice a2 (flen k2) c2] 25)
        refine hK _ _ ⟨_, rfl, ⟨(hH.add HB).mono (by simp), fun h => (hE (ty_was 8 13 (by decide) h)).up (Up.below HB) (fun i x hx => cell_low HB hx)⟩, Up.below HB, fun d hd => rw_two hsz ok1 z1 l1 ok2 z2 l2⟩
      · -- ('of', 9, 154, 4, 153)
        obtain rfl := Option.some.inj hi
        have t1 : RwE wr.heap.size 2 3 ((a.tmps[153]?).getD undef) u := hst.at hdep 8 153 (by kernel_rfl) (by kernel_rfl)
        obtain ⟨b1, k1, e1, fl1, fo1, zf1, sz1, lb1, bu1, r1⟩ := t1
        refine wpOp_of rfl rfl (fun K hK => ?_)
        go_simp
        with_reducible refine (l71Of_any 4 _ 2 2 _).mono ?_
        rintro e u' ⟨rfl, HB⟩
        refine hK _ _ ⟨_, rfl, ⟨(hH.add HB).mono (by simp), fun h => (hE (ty_was 9 13 (by decide) h)).up (Up.below HB) (fun i x hx => cell_low HB hx)⟩, Up.below HB, fun d hd => Kd.up (d := .tm 3) (Up.below HB) (tm_of_row2 fl1 fo1 zf1 sz1 r1)⟩
      · -- ('row1', 10, 155, 154)
        obtain rfl := Option.some.inj hi
        have t1 : TmE wr.heap.size 3 ((a.tmps[154]?).getD undef) u := hst.at hdep 9 154 (by kernel_rfl) (by kernel_rfl)
        obtain ⟨s1, v1, a1, c1, k1, e1, ok1, z1, l1⟩ := t1
        refine wpOp_of rfl rfl (fun K hK => ?_)
        go_simp
        have HB := box_low u (.cells #[.int .i64 s1, .int .i64 v1, .slice a1 (flen k1) c1] 25)
        refine hK _ _ ⟨_, rfl, ⟨(hH.add HB).mono (by simp), fun h => (hE (ty_was 10 13 (by decide) h)).up (Up.below HB) (fun i x hx => cell_low HB hx)⟩, Up.below HB, fun d hd => rw_one hsz ok1 z1 l1⟩
      · -- ('of', 11, 156, 3, 155)
        obtain rfl := Option.some.inj hi
        have t1 : RwE wr.heap.size 1 4 ((a.tmps[155]?).getD undef) u := hst.at hdep 10 155 (by kernel_rfl) (by kernel_rfl)
        obtain ⟨b1, k1, e1, fl1, fo1, zf1, sz1, lb1, bu1, r1⟩ := t1
        refine wpOp_of rfl rfl (fun K hK => ?_)
        go_simp
        with_reducible refine (l71Of_any 3 _ 1 1 _).mono ?_
        rintro e u' ⟨rfl, HB⟩
        refine hK _ _ ⟨_, rfl, ⟨(hH.add HB).mono (by simp), fun h => (hE (ty_was 11 13 (by decide) h)).up (Up.below HB) (fun i x hx => cell_low HB hx)⟩, Up.below HB, fun d hd => Kd.up (d := .tm 4) (Up.below HB) (tm_of_row1 fl1 fo1 zf1 sz1 r1)⟩
      · -- ('build', 12, 157, 150, 156)
        obtain rfl := Option.some.inj hi
        have t1 : TmE wr.heap.size 4 ((a.tmps[150]?).getD undef) u := hst.at hdep 5 150 (by kernel_rfl) (by kernel_rfl)
        obtain ⟨s1, v1, a1, c1, k1, e1, ok1, z1, l1⟩ := t1
        have t2 : TmE wr.heap.size 4 ((a.tmps[156]?).getD undef) u := hst.at hdep 11 156 (by kernel_rfl) (by kernel_rfl)
        obtain ⟨s2, v2, a2, c2, k2, e2, ok2, z2, l2⟩ := t2
        refine wpOp_of rfl rfl (fun K hK => ?_)
        go_simp
        refine hK _ _ ⟨_, rfl, ⟨hH.mono (by simp), fun h => hE (ty_was 12 13 (by decide) h)⟩, Up.refl _ _, fun d hd => eq_of_two ok1 z1 l1 ok2 z2 l2 (by omega) (by omega)⟩
      · -- ('store', 13, None, 157)
        obtain rfl := Option.some.inj hi
        have ht : (a.tmps[2]?).getD undef = .pointer (some ⟨w.heap.size, 0, none⟩) := hst.old 2 (by kernel_rfl)
        have t1 : EqE wr.heap.size ((a.tmps[157]?).getD undef) u := hst.at hdep 12 157 (by kernel_rfl) (by kernel_rfl)
        obtain ⟨s1, v1, a1, c1, k1, s2, v2, a2, c2, k2, e1, ok1, z1, l1, ok2, z2, l2⟩ := t1
        obtain ⟨⟨m0, h0⟩, f0⟩ := hH.res 0 (by omega)
        obtain ⟨⟨m1, h1⟩, f1⟩ := hH.res 1 (by omega)
        obtain ⟨⟨m2, h2⟩, f2⟩ := hH.res 2 (by omega)
        obtain ⟨⟨m3, h3⟩, f3⟩ := hH.res 3 (by omega)
        obtain ⟨⟨m4, h4⟩, f4⟩ := hH.res 4 (by omega)
        obtain ⟨⟨m5, h5⟩, f5⟩ := hH.res 5 (by omega)
        refine wpOp_of rfl rfl (fun K hK => ?_)
        go_simp
        refine hK _ _ ⟨undef, rfl, ⟨(st6_eqs hH (Nat.le_refl _) (by omega) (by omega) (by omega) (by omega) (by omega) s1 v1 (.slice a1 (flen k1) c1) s2 v2 (.slice a2 (flen k2) c2)).mono (Nat.le_refl _), fun _ => st6_eqd hH hb0 ok1 z1 l1 ok2 z2 l2⟩, st6_up hb0 _ _ _ _ _ _, fun d hd => by cases hd⟩
    · intro listed a u hst hall
      have hD := hst.s.2 (hall 13 (by decide))
      have hH := hst.s.1
      have ht : (a.tmps[2]?).getD undef = .pointer (some ⟨w.heap.size, 0, none⟩) := hst.old 2 (by kernel_rfl)
      have hdf : a.defers = [] := hst.defers
      clear hst
      obtain ⟨tm, df⟩ := a
      dsimp only at hdf ht
      subst hdf
      obtain ⟨s, v, a, c, k, s2, v2, a2, c2, k2, ⟨h0, h1, h2, h3, h4, h5⟩, ok1, z1, l1, ok2, z2, l2⟩ := hD
      obtain ⟨pp, hA, hp1, hp2⟩ := hH.adv
      go_wp2_with fail
      refine bodyPost_ret (v := .agg #[.int .i64 s, .int .i64 v, .slice a (flen k) c, .int .i64 s2, .int .i64 v2, .slice a2 (flen k2) c2]) ?_ rfl ?_
      · simp [results, Tryz.results19, go_sem, ht, h0, h1, h2, h3, h4, h5]
      · exact ⟨s, v, a, c, k, s2, v2, a2, c2, k2, pp, rfl, ok1, z1, ok2, z2, hp1, (by omega), hA, l1.mono (by omega) (Nat.le_refl _), l2.mono (by omega) (Nat.le_refl _)⟩
  have y11 : ((y : Int) == 11) = false := by simp; omega
  clear HS0
  obtain ⟨pp, hA, hp1, hp2⟩ := HSW.out.adv
  have HA := Lib.hid hA
  have HR6 := Lib.hid (hA.rd HR.out)
  clear hA
  have hk2 : pkN 2 = 21 := rfl
  have hk1 : pkN 1 = 9 := rfl
  have hz2 : szN 2 = 7 := rfl
  have hz1 : szN 1 = 3 := rfl
  go_wp2_with fail
  with_reducible refine (l71Term_ok 2 3 2 br pp _ (by omega) (by omega) (by omega) (by omega) (by omega) HR6.out (by omega)).mono ?_
  rintro e wx ⟨s, v, a, c, k, p2, rfl, ok1, q1, q2, z1, ha1, hl1⟩
  have HA1 := Lib.hid ha1
  have HL1 := Lib.hid hl1
  have HR7 := Lib.hid (ha1.rd HR6.out)
  have hs1 := ha1.size
  clear ha1 hl1
  go_wp2_with fail
  with_reducible refine (l71Term_ok 1 2 2 br p2 _ (by omega) (by omega) (by omega) (by omega) (by omega) HR7.out (by omega)).mono ?_
  rintro e wy ⟨s2, v2, a2, c2, k2, p3, rfl, ok2, q3, q4, z2, ha2, hl2⟩
  have hs2 := ha2.size
  have hE := HSW.out.more (n' := 50) hlt (Nat.le_refl _) (by omega) (by omega) (by omega) (by omega) (by omega) HA.out (by omega) (by omega) (HA1.out.trans ha2)
  have hm1 : Sl wy wr.heap.size wy.heap.size a k := (HL1.out.same (ha2.same (Nat.le_refl _) (.inl (by omega)))).mono (Nat.le_refl _) hs2
  have hm2 : Sl wy wr.heap.size wy.heap.size a2 k2 := hl2.mono hs1 (Nat.le_refl _)
  obtain ⟨⟨m0, h0⟩, f0⟩ := hE.res 0 (by omega)
  obtain ⟨⟨m1, h1⟩, f1⟩ := hE.res 1 (by omega)
  obtain ⟨⟨m2, h2⟩, f2⟩ := hE.res 2 (by omega)
  obtain ⟨⟨m3, h3⟩, f3⟩ := hE.res 3 (by omega)
  obtain ⟨⟨m4, h4⟩, f4⟩ := hE.res 4 (by omega)
  obtain ⟨⟨m5, h5⟩, f5⟩ := hE.res 5 (by omega)
  have HU := st6_up hb0 (u := wy) s v (.slice a (flen k) c) s2 v2 (.slice a2 (flen k2) c2)
  have HF := st6_eqs hE (Nat.le_refl _) (by omega) (by omega) (by omega) (by omega) (by omega) s v (.slice a (flen k) c) s2 v2 (.slice a2 (flen k2) c2)
  have hD := st6_cells hE s v (.slice a (flen k) c) s2 v2 (.slice a2 (flen k2) c2)
  have hn1 := HU.sl hm1
  have hn2 := HU.sl hm2
  unfold st6 at HF hD hn1 hn2
  have HFH := Lib.hid HF
  have HD := Lib.hid hD
  have HN1 := Lib.hid hn1
  have HN2 := Lib.hid hn2
  clear HF hD hn1 hn2 HU hE ha2 hl2 hm1 hm2
  go_wp2_with fail
  obtain ⟨d0, d1, d2, d3, d4, d5⟩ := HD.out
  obtain ⟨pp, hA, hp1, hp2⟩ := HFH.out.adv
  refine bodyPost_ret (v := .agg #[.int .i64 s, .int .i64 v, .slice a (flen k) c, .int .i64 s2, .int .i64 v2, .slice a2 (flen k2) c2]) ?_ rfl ?_
  · simp [results, Tryz.results19, go_sem, d0, d1, d2, d3, d4, d5]
  · exact ⟨s, v, a, c, k, s2, v2, a2, c2, k2, pp, rfl, ok1, by omega, ok2, by omega, hp1, by omega, hA, HN1.out.mono (by omega) (by simp), HN2.out.mono (by omega) (by simp)⟩
end Go.Proofs.YtbnbogdglffkmaaGreatDoor
