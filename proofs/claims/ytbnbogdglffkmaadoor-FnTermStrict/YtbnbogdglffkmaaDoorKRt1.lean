/- Several texts in one: WF2, WI, WJ0, WK0, V5d, DT. -/
import Derived.Test.YtbnbogdglffkmaaDoorKRd3
import Derived.Test.YtbnbogdglffkmaaDoorKRd8
import Derived.Test.YtbnbogdglffkmaaDoorKRd5

/-! WF2: l71Term once more: what is drawn is a term in form, without marks, no larger than its depth lets. -/
namespace Go.Proofs.YtbnbogdglffkmaaDoor
open Go.RowKit Go.Deep

/-- In form, without marks. -/
def OkZ (s v : Int) (k : Fo) : Prop := okN s v (flen k) = true ∧ fok k = true ∧ Zf k
theorem okz_a : OkZ 1 0 .nil := ⟨by decide, rfl, rfl⟩
theorem okz_b : OkZ 2 0 .nil := ⟨by decide, rfl, rfl⟩
theorem okz_var {v : Int} (h1 : 0 ≤ v) (h2 : v ≤ 11) : OkZ 0 v .nil := ⟨(okN_iff _ _ _).2 ⟨by simp [flen, ar], fun _ => ⟨h1, h2⟩, fun h => absurd rfl h⟩, rfl, rfl⟩
theorem okz_g {s v : Int} {k : Fo} (h : OkZ s v k) : OkZ 3 0 (.node 0 0 (s, v) k .nil) := by
  obtain ⟨h1, h2, h3⟩ := h
  exact ⟨by show okN 3 0 1 = true; decide, by simp [fok, h1, h2], zf_node.2 ⟨rfl, rfl, h3, rfl⟩⟩
theorem okz_f {s v s' v' : Int} {k k' : Fo} (h : OkZ s v k) (h' : OkZ s' v' k') : OkZ 4 0 (.node 0 0 (s, v) k (.node 0 0 (s', v') k' .nil)) := by
  obtain ⟨h1, h2, h3⟩ := h
  obtain ⟨h1', h2', h3'⟩ := h'
  exact ⟨by show okN 4 0 2 = true; decide, by simp [fok, h1, h2, h1', h2'], zf_node.2 ⟨rfl, rfl, h3, zf_node.2 ⟨rfl, rfl, h3', rfl⟩⟩⟩
def DrawnOk (br p K S : Nat) (w : World) (e : Ending) (w' : World) : Prop :=
  ∃ s v a c k p', e = .returned (.agg #[.int .i64 s, .int .i64 v, .slice a (flen k) c]) ∧ OkZ s v k ∧ p ≤ p' ∧ p' ≤ p + K ∧ 1 + fsz k ≤ S ∧ Adv w br p' w' ∧ Sl w' w.heap.size w'.heap.size a k
theorem drawn_ok {w w2 : World} {br p p' K S : Nat} {s v : Int} {a : Option Addr} {c : Nat} {k : Fo} {o : Obj} {x y z : Value} (hok : OkZ s v k) (ha : Adv (w.alloc o) br p' w2) (hbr : br < w.heap.size) (h1 : p ≤ p') (h2 : p' ≤ p + K) (h3 : 1 + fsz k ≤ S)
    (hl : Sl w2 (w.heap.size + 1) w2.heap.size a k) : DrawnOk br p K S w (.returned (.agg #[.int .i64 s, .int .i64 v, .slice a (flen k) c])) (((w2.setCell ⟨w.heap.size, 0, none⟩ x).setCell ⟨w.heap.size, 1, none⟩ y).setCell ⟨w.heap.size, 2, none⟩ z) := by
  refine ⟨s, v, a, c, k, p', rfl, hok, h1, h2, h3, (((ha.off hbr).store (by simp) _).store (by simp) _).store (by simp) _, ?_⟩
  have hs : Same (w.heap.size + 1) w2.heap.size w2 (((w2.setCell ⟨w.heap.size, 0, none⟩ x).setCell ⟨w.heap.size, 1, none⟩ y).setCell ⟨w.heap.size, 2, none⟩ z) :=
    (((Same.setCell (fun _ _ _ => rfl) (.inl (by simp)) _).setCell (.inl (by simp)) _).setCell (.inl (by simp)) _)
  exact (hl.same hs).mono (by omega) (by simp)

set_option maxRecDepth 100000 in
set_option maxHeartbeats 1000000 in
theorem l71Term_ok (D : Nat) : ∀ (deep vars : Int) (br p : Nat) (w : World), deep ≤ D + 1 → -1000 ≤ deep → D ≤ 20 → 1 ≤ vars → vars ≤ 12 → Rd w br p → p + pkN D ≤ 100000000 →
    Calls Tryd.prog 29 #[.pointer (some ⟨br, 0, none⟩), .int .i64 deep, .int .i64 vars] w (DrawnOk br p (pkN D) (szN D) w) := by
  induction D with
  | zero =>
    intro deep vars br p w h1 h2 h3 h4 h5 hr hp
    have hpk : pkN 0 = 3 := rfl
    have HPK := Lib.hid hpk
    have hk3 : 3 ≤ pkN 0 := by omega
    clear hpk
    have e1 : decide (deep < 2) = true := by simp; omega
    have HR0 := Lib.hid hr
    have hlt := hr.lt
    have hr' := hr.alloc (.cells #[.int .i64 0, .int .i64 0, .slice none 0 0] 25)
    have HA : Hid (Adv (w.alloc (.cells #[.int .i64 0, .int .i64 0, .slice none 0 0] 25)) br p (w.alloc (.cells #[.int .i64 0, .int .i64 0, .slice none 0 0] 25))) := Adv.start hr' (Below.refl _ _)
    have HR := Lib.hid hr'
    clear hr hr'
    go_enter Tryd.func29, Tryd.ntmps29
    go_wp2_with fail
    with_reducible refine (pick_any 5 br (p) _ HR.out (by omega) (by omega) (by omega)).mono ?_
    rintro e w1 ⟨x, rfl, hx, hb⟩
    have ha : Adv (w.alloc (.cells #[.int .i64 0, .int .i64 0, .slice none 0 0] 25)) br (p + 1) w1 := HA.out.trans hb
    have hr1 := ha.rd (HR0.out.alloc _)
    have HA1 := Lib.hid ha
    have HR1 := Lib.hid hr1
    clear ha hb hr1
    by_cases hx0 : x = 0
    · subst hx0
      go_wp2_with fail
      with_reducible refine (l71Of_any 1 none 0 0 _).mono ?_
      rintro e w2 ⟨rfl, hb2⟩
      have ha2 := HA1.out.more hb2
      obtain ⟨hc0, hc1, hc2, hf0, hf1, hf2⟩ := res_cells ha2 hlt
      clear hb2
      go_wp2_with fail
      refine bodyPost_ret (v := .agg #[.int .i64 1, .int .i64 0, .slice none 0 0]) ?_ rfl (drawn_ok (s := 1) (v := 0) (k := .nil) okz_a ha2 hlt (by omega) (by omega) (by simp [fsz, szN]) (.inl rfl))
      simp [results, Tryd.results29, go_sem, hc0, hc1, hc2]
    by_cases hx1 : x = 1
    · subst hx1
      go_wp2_with fail
      with_reducible refine (l71Of_any 2 none 0 0 _).mono ?_
      rintro e w2 ⟨rfl, hb2⟩
      have ha2 := HA1.out.more hb2
      obtain ⟨hc0, hc1, hc2, hf0, hf1, hf2⟩ := res_cells ha2 hlt
      clear hb2
      go_wp2_with fail
      refine bodyPost_ret (v := .agg #[.int .i64 2, .int .i64 0, .slice none 0 0]) ?_ rfl (drawn_ok (s := 2) (v := 0) (k := .nil) okz_b ha2 hlt (by omega) (by omega) (by simp [fsz, szN]) (.inl rfl))
      simp [results, Tryd.results29, go_sem, hc0, hc1, hc2]
    have x0 : ((x : Int) == 0) = false := by simpa using hx0
    have x1 : ((x : Int) == 1) = false := by simp; omega
    go_wp2_with fail
    with_reducible refine (pick_any vars br (p + 1) _ HR1.out (by omega) (by omega) (by omega)).mono ?_
    rintro e w2 ⟨y, rfl, hy, hb2⟩
    have ha2 := HA1.out.trans hb2
    have HA2 := Lib.hid ha2
    clear ha2 hb2
    go_wp2_with fail
    with_reducible refine (l71Var_any y _).mono ?_
    rintro e w3 ⟨rfl, hb3⟩
    have ha3 := HA2.out.more hb3
    obtain ⟨hc0, hc1, hc2, hf0, hf1, hf2⟩ := res_cells ha3 hlt
    clear hb3
    go_wp2_with fail
    refine bodyPost_ret (v := .agg #[.int .i64 0, .int .i64 y, .slice none 0 0]) ?_ rfl (drawn_ok (s := 0) (v := y) (k := .nil) (okz_var (by omega) (by omega)) ha3 hlt (by omega) (by omega) (by simp [fsz, szN]) (.inl rfl))
    simp [results, Tryd.results29, go_sem, hc0, hc1, hc2]
  | succ D ih =>
    intro deep vars br p w h1 h2 h3 h4 h5 hr hp
    have hk3 : 2 * pkN D + 3 ≤ pkN (D + 1) := Nat.le_refl _
    have hs1 : 2 * szN D + 1 ≤ szN (D + 1) := Nat.le_refl _
    have hs0 := szN_pos D
    have hdm : deep ≤ 1000 := by omega
    have IH := Lib.hid ih
    clear ih
    have HR0 := Lib.hid hr
    have hlt := hr.lt
    have hr' := hr.alloc (.cells #[.int .i64 0, .int .i64 0, .slice none 0 0] 25)
    have HA : Hid (Adv (w.alloc (.cells #[.int .i64 0, .int .i64 0, .slice none 0 0] 25)) br p (w.alloc (.cells #[.int .i64 0, .int .i64 0, .slice none 0 0] 25))) := Adv.start hr' (Below.refl _ _)
    have HR := Lib.hid hr'
    clear hr hr'
    by_cases hd : deep < 2
    · have e1 : decide (deep < 2) = true := by simp; omega
      go_enter Tryd.func29, Tryd.ntmps29
      go_wp2_with fail
      with_reducible refine (pick_any 5 br (p) _ HR.out (by omega) (by omega) (by omega)).mono ?_
      rintro e w1 ⟨x, rfl, hx, hb⟩
      have ha : Adv (w.alloc (.cells #[.int .i64 0, .int .i64 0, .slice none 0 0] 25)) br (p + 1) w1 := HA.out.trans hb
      have hr1 := ha.rd (HR0.out.alloc _)
      have HA1 := Lib.hid ha
      have HR1 := Lib.hid hr1
      clear ha hb hr1
      by_cases hx0 : x = 0
      · subst hx0
        go_wp2_with fail
        with_reducible refine (l71Of_any 1 none 0 0 _).mono ?_
        rintro e w2 ⟨rfl, hb2⟩
        have ha2 := HA1.out.more hb2
        obtain ⟨hc0, hc1, hc2, hf0, hf1, hf2⟩ := res_cells ha2 hlt
        clear hb2
        go_wp2_with fail
        refine bodyPost_ret (v := .agg #[.int .i64 1, .int .i64 0, .slice none 0 0]) ?_ rfl (drawn_ok (s := 1) (v := 0) (k := .nil) okz_a ha2 hlt (by omega) (by omega) (by simp only [fsz]; omega) (.inl rfl))
        simp [results, Tryd.results29, go_sem, hc0, hc1, hc2]
      by_cases hx1 : x = 1
      · subst hx1
        go_wp2_with fail
        with_reducible refine (l71Of_any 2 none 0 0 _).mono ?_
        rintro e w2 ⟨rfl, hb2⟩
        have ha2 := HA1.out.more hb2
        obtain ⟨hc0, hc1, hc2, hf0, hf1, hf2⟩ := res_cells ha2 hlt
        clear hb2
        go_wp2_with fail
        refine bodyPost_ret (v := .agg #[.int .i64 2, .int .i64 0, .slice none 0 0]) ?_ rfl (drawn_ok (s := 2) (v := 0) (k := .nil) okz_b ha2 hlt (by omega) (by omega) (by simp only [fsz]; omega) (.inl rfl))
        simp [results, Tryd.results29, go_sem, hc0, hc1, hc2]
      have x0 : ((x : Int) == 0) = false := by simpa using hx0
      have x1 : ((x : Int) == 1) = false := by simp; omega
      go_wp2_with fail
      with_reducible refine (pick_any vars br (p + 1) _ HR1.out (by omega) (by omega) (by omega)).mono ?_
      rintro e w2 ⟨y, rfl, hy, hb2⟩
      have ha2 := HA1.out.trans hb2
      have HA2 := Lib.hid ha2
      clear ha2 hb2
      go_wp2_with fail
      with_reducible refine (l71Var_any y _).mono ?_
      rintro e w3 ⟨rfl, hb3⟩
      have ha3 := HA2.out.more hb3
      obtain ⟨hc0, hc1, hc2, hf0, hf1, hf2⟩ := res_cells ha3 hlt
      clear hb3
      go_wp2_with fail
      refine bodyPost_ret (v := .agg #[.int .i64 0, .int .i64 y, .slice none 0 0]) ?_ rfl (drawn_ok (s := 0) (v := y) (k := .nil) (okz_var (by omega) (by omega)) ha3 hlt (by omega) (by omega) (by simp only [fsz]; omega) (.inl rfl))
      simp [results, Tryd.results29, go_sem, hc0, hc1, hc2]
    have e1 : decide (deep < 2) = false := by simp; omega
    go_enter Tryd.func29, Tryd.ntmps29
    go_wp2_with fail
    with_reducible refine (pick_any 4 br p _ HR.out (by omega) (by omega) (by omega)).mono ?_
    rintro e w0 ⟨x4, rfl, hx4, hb0⟩
    have ha0 : Adv (w.alloc (.cells #[.int .i64 0, .int .i64 0, .slice none 0 0] 25)) br (p + 1) w0 := HA.out.trans hb0
    have hr0 := ha0.rd (HR0.out.alloc _)
    clear HA HR
    have HA := Lib.hid ha0
    have HR := Lib.hid hr0
    clear ha0 hr0 hb0 hx4
    by_cases hx : x4 = 0
    · subst hx
      go_wp2_with fail
      with_reducible refine (pick_any 5 br (p + 1) _ HR.out (by omega) (by omega) (by omega)).mono ?_
      rintro e w1 ⟨x, rfl, hx, hb⟩
      have ha : Adv (w.alloc (.cells #[.int .i64 0, .int .i64 0, .slice none 0 0] 25)) br (p + 1 + 1) w1 := HA.out.trans hb
      have hr1 := ha.rd (HR0.out.alloc _)
      have HA1 := Lib.hid ha
      have HR1 := Lib.hid hr1
      clear ha hb hr1
      by_cases hx0 : x = 0
      · subst hx0
        go_wp2_with fail
        with_reducible refine (l71Of_any 1 none 0 0 _).mono ?_
        rintro e w2 ⟨rfl, hb2⟩
        have ha2 := HA1.out.more hb2
        obtain ⟨hc0, hc1, hc2, hf0, hf1, hf2⟩ := res_cells ha2 hlt
        clear hb2
        go_wp2_with fail
        refine bodyPost_ret (v := .agg #[.int .i64 1, .int .i64 0, .slice none 0 0]) ?_ rfl (drawn_ok (s := 1) (v := 0) (k := .nil) okz_a ha2 hlt (by omega) (by omega) (by simp only [fsz]; omega) (.inl rfl))
        simp [results, Tryd.results29, go_sem, hc0, hc1, hc2]
      by_cases hx1 : x = 1
      · subst hx1
        go_wp2_with fail
        with_reducible refine (l71Of_any 2 none 0 0 _).mono ?_
        rintro e w2 ⟨rfl, hb2⟩
        have ha2 := HA1.out.more hb2
        obtain ⟨hc0, hc1, hc2, hf0, hf1, hf2⟩ := res_cells ha2 hlt
        clear hb2
        go_wp2_with fail
        refine bodyPost_ret (v := .agg #[.int .i64 2, .int .i64 0, .slice none 0 0]) ?_ rfl (drawn_ok (s := 2) (v := 0) (k := .nil) okz_b ha2 hlt (by omega) (by omega) (by simp only [fsz]; omega) (.inl rfl))
        simp [results, Tryd.results29, go_sem, hc0, hc1, hc2]
      have x0 : ((x : Int) == 0) = false := by simpa using hx0
      have x1 : ((x : Int) == 1) = false := by simp; omega
      go_wp2_with fail
      with_reducible refine (pick_any vars br (p + 1 + 1) _ HR1.out (by omega) (by omega) (by omega)).mono ?_
      rintro e w2 ⟨y, rfl, hy, hb2⟩
      have ha2 := HA1.out.trans hb2
      have HA2 := Lib.hid ha2
      clear ha2 hb2
      go_wp2_with fail
      with_reducible refine (l71Var_any y _).mono ?_
      rintro e w3 ⟨rfl, hb3⟩
      have ha3 := HA2.out.more hb3
      obtain ⟨hc0, hc1, hc2, hf0, hf1, hf2⟩ := res_cells ha3 hlt
      clear hb3
      go_wp2_with fail
      refine bodyPost_ret (v := .agg #[.int .i64 0, .int .i64 y, .slice none 0 0]) ?_ rfl (drawn_ok (s := 0) (v := y) (k := .nil) (okz_var (by omega) (by omega)) ha3 hlt (by omega) (by omega) (by simp only [fsz]; omega) (.inl rfl))
      simp [results, Tryd.results29, go_sem, hc0, hc1, hc2]
    have x0 : ((x4 : Int) == 0) = false := by simpa using hx
    go_wp2_with fail
    with_reducible refine (pick_any 5 br (p + 1) _ HR.out (by omega) (by omega) (by omega)).mono ?_
    rintro e w1 ⟨x, rfl, hx5, hb⟩
    have ha : Adv (w.alloc (.cells #[.int .i64 0, .int .i64 0, .slice none 0 0] 25)) br (p + 1 + 1) w1 := HA.out.trans hb
    have hr1 := ha.rd (HR0.out.alloc _)
    have hsz1 := ha.size
    simp at hsz1
    have HA1 := Lib.hid ha
    have HR1 := Lib.hid hr1
    clear ha hb hr1 HA HR
    by_cases hx2 : x < 2
    · have g2 : decide ((x : Int) < 2) = true := by simp; omega
      go_wp2_with fail
      with_reducible refine (IH.out (deep - 1) vars br (p + 1 + 1) _ (by omega) (by omega) (by omega) h4 h5 HR1.out (by omega)).mono ?_
      rintro e w2 ⟨s', v', a', c', k', p', rfl, hok1, hp1, hp2, hsz, ha2, hl2⟩
      have ha3 := HA1.out.trans ha2
      have hsz2 := ha2.size
      have HA3 := Lib.hid ha3
      have HL := Lib.hid (kid1 (T := 25) (s := s') (v := v') (c := c') (hl2.mono (lo' := w.heap.size + 1) (by omega) (Nat.le_refl _)) (by omega))
      clear ha2 hl2 ha3
      go_wp2_with fail
      with_reducible refine (l71Of_any 3 _ 1 1 _).mono ?_
      rintro e w3 ⟨rfl, hb3⟩
      have ha4 := (HA3.out.alloc _).more hb3
      have HL3 := Lib.hid ((HL.out.below hb3).mono (Nat.le_refl _) hb3.size)
      obtain ⟨hc0, hc1, hc2, hf0, hf1, hf2⟩ := res_cells ha4 hlt
      clear hb3
      go_wp2_with fail
      refine bodyPost_ret (v := .agg #[.int .i64 3, .int .i64 0, .slice (some ⟨w2.heap.size, 0, none⟩) 1 1]) ?_ rfl (drawn_ok (s := 3) (v := 0) (k := .node 0 0 (s', v') k' .nil) (okz_g hok1) ha4 hlt (by omega) (by omega) (by simp only [fsz]; omega) HL3.out)
      simp [results, Tryd.results29, go_sem, hc0, hc1, hc2]
    · have g2 : decide ((x : Int) < 2) = false := by simp; omega
      go_wp2_with fail
      with_reducible refine (IH.out (deep - 1) vars br (p + 1 + 1) _ (by omega) (by omega) (by omega) h4 h5 HR1.out (by omega)).mono ?_
      rintro e w2 ⟨s', v', a', c', k', p', rfl, hok1, hp1, hp2, hsz, ha2, hl2⟩
      have ha3 := HA1.out.trans ha2
      have hsz2 := ha2.size
      have hr2 := ha2.rd HR1.out
      have HR2 := Lib.hid hr2
      have HA3 := Lib.hid ha3
      have HL := Lib.hid (hl2.mono (lo' := w.heap.size + 1) (by omega) (Nat.le_refl _))
      clear ha2 hl2 ha3 hr2
      go_wp2_with fail
      with_reducible refine (IH.out (deep - 1) vars br p' _ (by omega) (by omega) (by omega) h4 h5 HR2.out (by omega)).mono ?_
      rintro e w3 ⟨s2, v2, a2, c2, k2, p2, rfl, hok2, hp3, hp4, hszb, ha4, hl4⟩
      have ha5 := HA3.out.trans ha4
      have hsz3 := ha4.size
      have HA5 := Lib.hid ha5
      have HLK := Lib.hid (kid2 (T := 25) (s := s') (v := v') (c := c') (s' := s2) (v' := v2) (c' := c2) ((HL.out.same (ha4.same (Nat.le_refl _) (.inl (by omega)))).mono (Nat.le_refl _) hsz3) (hl4.mono (lo' := w.heap.size + 1) (by omega) (Nat.le_refl _)) (by omega))
      clear ha4 hl4 ha5
      go_wp2_with fail
      with_reducible refine (l71Of_any 4 _ 2 2 _).mono ?_
      rintro e w4 ⟨rfl, hb3⟩
      have ha6 := (HA5.out.alloc _).more hb3
      have HL3 := Lib.hid ((HLK.out.below hb3).mono (Nat.le_refl _) hb3.size)
      obtain ⟨hc0, hc1, hc2, hf0, hf1, hf2⟩ := res_cells ha6 hlt
      clear hb3
      go_wp2_with fail
      refine bodyPost_ret (v := .agg #[.int .i64 4, .int .i64 0, .slice (some ⟨w3.heap.size, 0, none⟩) 2 2]) ?_ rfl (drawn_ok (s := 4) (v := 0) (k := .node 0 0 (s', v') k' (.node 0 0 (s2, v2) k2 .nil)) (okz_f hok1 hok2) ha6 hlt (by omega) (by omega) (by simp only [fsz]; omega) HL3.out)
      simp [results, Tryd.results29, go_sem, hc0, hc1, hc2]
end Go.Proofs.YtbnbogdglffkmaaDoor

/-! WI: l71Bad. -/
namespace Go.Proofs.YtbnbogdglffkmaaDoor
open Go.RowKit Go.Deep
attribute [local go_sem ↓] Go.wp_at_zero Go.wp_at_succ

theorem l1Count_n (N : Nat) (s v : Int) (a : Option Addr) (c : Nat) (k : Fo) (most : Int) (w : World) (n : Nat) (hn : flen k = n) (hl : Sl w 0 w.heap.size a k) (h1 : -1000 ≤ most) (h2 : most ≤ 1000) (h3 : most ≤ N) :
    Calls Tryd.prog 42 #[.agg #[.int .i64 s, .int .i64 v, .slice a n c], .int .i64 most] w fun e w' => e = .returned (.int .i64 (cntT s v k most)) ∧ Below w.heap.size w w' := by
  subst hn
  exact l1Count_any N s v a c k most w hl h1 h2 h3

/-- What holds at the head of the loop that doubles. -/
def BadLoop (w : World) (br p S j : Nat) (wr : World) : Prop :=
  ∃ s v A C k, BadAt w br p s v A (flen k) C wr ∧ Sl wr (w.heap.size + 2) wr.heap.size A k ∧ fsz k + 2 ≤ (S + 1) * 2 ^ j
theorem bad_size {n S j : Nat} (h : n + 2 ≤ (S + 1) * 2 ^ j) (hj : j ≤ 8) (hS : 1 ≤ S) : 1 + n ≤ 1000 * S := by
  have h2 : 2 ^ j ≤ 2 ^ 8 := Nat.pow_le_pow_right (by omega) hj
  have h3 : (S + 1) * 2 ^ j ≤ (S + 1) * 256 := Nat.mul_le_mul (Nat.le_refl _) h2
  omega

set_option maxRecDepth 100000 in
set_option maxHeartbeats 1000000 in
theorem l71Bad_any (s v : Int) (a : Option Addr) (c : Nat) (k : Fo) (br p S : Nat) (w : World) (hl : Sl w 0 w.heap.size a k) (hr : Rd w br p) (hp : p ≤ 100000000) (hS : 1 + fsz k ≤ S) (hS2 : S ≤ 1000) :
    Calls Tryd.prog 54 #[.pointer (some ⟨br, 0, none⟩), .agg #[.int .i64 s, .int .i64 v, .slice a (flen k) c]] w (DrawnPost br p 2 (1000 * S) w) := by
  have hlt := hr.lt
  have hfl := flen_le_sz k
  have HR := Lib.hid hr
  clear hr
  go_enter Tryd.func54, Tryd.ntmps54
  go_wp2_with fail
  with_reducible refine (l1Copy_any (fsz k) s v a c k _ ?_ (Nat.le_refl _) ?_).mono ?_
  · exact (hl.below (((Below.refl _ _).alloc (Nat.le_refl _) _).alloc (by simp) _)).mono (Nat.le_refl _) (by simp; omega)
  · omega
  rintro e w1 ⟨a1, c1, rfl, hb1, hown1⟩
  have hat := (BadAt.start HR.out s v a (flen k) c).more hlt hb1
  have ht0 := hat.t0
  have ht1 := hat.t1
  have ht2 := hat.t2
  have hf0 := hat.f0
  have hf1 := hat.f1
  have hf2 := hat.f2
  have HAT := Lib.hid (((hat.set0 hlt s).set1 hlt v).set2 hlt (A' := a1) (n' := flen k) (C' := c1))
  have HOWN : Hid (Own w1 (w.heap.size + 2) k (flen k) a1 c1) := hown1.low (Below.refl _ _) (by simp)
  clear hb1 hown1 hat
  go_wp2_with fail
  with_reducible refine (pick_any 6 br p _ HAT.out.rd (by omega) (by omega) (by omega)).mono ?_
  rintro e w2 ⟨x, rfl, hx, hb2⟩
  have ha2 : Adv _ br (p + 1) w2 := hb2
  have HAT2 := Lib.hid (HAT.out.call hlt ha2)
  have HOWN2 := Lib.hid ((((HOWN.out.store (by simp) (.int .i64 s) (q := ⟨w.heap.size, 0, none⟩)).store (by simp) (.int .i64 v) (q := ⟨w.heap.size, 1, none⟩)).store (by simp) (.slice a1 (flen k) c1) (q := ⟨w.heap.size, 2, none⟩)).adv ha2 (by omega))
  clear ht0 ht1 ht2 hf0 hf1 hf2 hb2 ha2 HAT HOWN
  by_cases hx0 : x = 0
  · subst hx0
    go_wp2_with fail
    with_reducible refine (pick_any 8 br (p + 1) _ HAT2.out.rd (by omega) (by omega) (by omega)).mono ?_
    rintro e w3 ⟨y, rfl, hy, hb3⟩
    have ha3 : Adv w2 br (p + 1 + 1) w3 := hb3
    have HAT3 := Lib.hid (HAT2.out.call hlt ha3)
    have HOWN3 := Lib.hid (HOWN2.out.adv ha3 (by omega))
    clear hb3 ha3
    have ht0 := HAT3.out.t0
    have ht1 := HAT3.out.t1
    have ht2 := HAT3.out.t2
    have hf0 := HAT3.out.f0
    have hf1 := HAT3.out.f1
    have hf2 := HAT3.out.f2
    have hr0 := HAT3.out.r0
    have hr1 := HAT3.out.r1
    have hr2 := HAT3.out.r2
    have hg0 := HAT3.out.g0
    have hg1 := HAT3.out.g1
    have hg2 := HAT3.out.g2
    have hy8 : (y : Int) < 8 := by omega
    go_wp2_with fail
    refine bodyPost_ret (v := .agg #[.int .i64 ((y : Int) - 1), .int .i64 v, .slice a1 (flen k) c1]) ?_ rfl ((HAT3.out.set0 hlt _).done (by omega) (by omega) (by omega) (HOWN3.out.store (by simp) _).sl)
    simp [results, Tryd.results54, go_sem, hr0, hr1, hr2]
  have x0 : ((x : Int) == 0) = false := by simpa using hx0
  by_cases hx1 : x = 1
  · subst hx1
    go_wp2_with fail
    with_reducible refine (pick_any 3 br (p + 1) _ (HAT2.out.rd.alloc _) (by omega) (by omega) (by omega)).mono ?_
    rintro e w3 ⟨y, rfl, hy, hb3⟩
    have ha3 : Adv (w2.alloc (.cells #[.int .i64 (-1), .int .i64 12, .int .i64 1] 3)) br (p + 1 + 1) w3 := hb3
    have hsz2 := HAT2.out.size
    have HAT3 := Lib.hid ((HAT2.out.more hlt ((Below.refl _ _).alloc (Nat.le_refl _) _)).call hlt ha3)
    have HOWN3 := Lib.hid ((HOWN2.out.low ((Below.refl _ _).alloc (Nat.le_refl _) _) (Nat.le_refl _)).adv ha3 (by omega))
    have hc0 := ha3.cell (q := ⟨w2.heap.size, 0, none⟩) (v := .int .i64 (-1)) (by simp) (by simp; omega)
    have hc1 := ha3.cell (q := ⟨w2.heap.size, 1, none⟩) (v := .int .i64 12) (by simp) (by simp; omega)
    have hc2 := ha3.cell (q := ⟨w2.heap.size, 2, none⟩) (v := .int .i64 1) (by simp) (by simp; omega)
    clear hb3 ha3
    have ht0 := HAT3.out.t0
    have ht1 := HAT3.out.t1
    have ht2 := HAT3.out.t2
    have hf0 := HAT3.out.f0
    have hf1 := HAT3.out.f1
    have hf2 := HAT3.out.f2
    have hr0 := HAT3.out.r0
    have hr1 := HAT3.out.r1
    have hr2 := HAT3.out.r2
    have hg0 := HAT3.out.g0
    have hg1 := HAT3.out.g1
    have hg2 := HAT3.out.g2
    have hy3 : y = 0 ∨ y = 1 ∨ y = 2 := by omega
    rcases hy3 with rfl | rfl | rfl
    · go_wp2_with fail
      refine bodyPost_ret (v := .agg #[.int .i64 s, .int .i64 (-1), .slice a1 (flen k) c1]) ?_ rfl ((HAT3.out.set1 hlt _).done (by omega) (by omega) (by omega) (HOWN3.out.store (by simp) _).sl)
      simp [results, Tryd.results54, go_sem, hr0, hr1, hr2]
    · go_wp2_with fail
      refine bodyPost_ret (v := .agg #[.int .i64 s, .int .i64 12, .slice a1 (flen k) c1]) ?_ rfl ((HAT3.out.set1 hlt _).done (by omega) (by omega) (by omega) (HOWN3.out.store (by simp) _).sl)
      simp [results, Tryd.results54, go_sem, hr0, hr1, hr2]
    · go_wp2_with fail
      refine bodyPost_ret (v := .agg #[.int .i64 s, .int .i64 1, .slice a1 (flen k) c1]) ?_ rfl ((HAT3.out.set1 hlt _).done (by omega) (by omega) (by omega) (HOWN3.out.store (by simp) _).sl)
      simp [results, Tryd.results54, go_sem, hr0, hr1, hr2]
  have x1 : ((x : Int) == 1) = false := by simp; omega
  by_cases hx2 : x = 2
  · subst hx2
    have ht2 := HAT2.out.t2
    have hf2 := HAT2.out.f2
    have hsz2 := HAT2.out.size
    have hu0 : ∀ u : After (w.heap.size + 2) w2, u.world.cell? ⟨w.heap.size, 2, none⟩ = some (.slice a1 (flen k) c1) := fun u => u.cell (by simp) ht2
    obtain ⟨ti, hti, htz, hts, htb⟩ := Tryd.infoTerm
    obtain ⟨xs, hown, hall⟩ := HOWN2.out
    have HTI := Lib.hid hti
    have HTZ := Lib.hid htz
    have HTS := Lib.hid hts
    have HTB := Lib.hid htb
    have HOWN := Lib.hid hown
    have HALL := Lib.hid hall
    have HLT : Hid (∀ g, (Value.slice a1 (flen k) c1).ownBlock = some g → w.heap.size + 2 ≤ g) := fun g hg => (hown.lt g hg).1
    clear hti htz hts htb hown hall
    go_wp2_with fail
    refine wp_region_mix (fun w' => ∃ u : After (w.heap.size + 2) w2, w' = u.world) [5, 6] [(0, 0), (1, 0), (2, 1), (3, 1), (4, 1), (5, 2), (6, 2)] (by kernel_rfl) (by kernel_rfl) ⟨⟨_, (Below.refl _ _).drew⟩, rfl⟩ ?_
    iterate 2
      refine mix_see rfl (fun K hK => ?_)
      go_simp
      refine hK _ ?_
      clear hK K
    clear hu0
    refine mix_hold rfl (fun K hK => ?_)
    go_simp
    with_reducible refine (l71Of_any 1 none 0 0 _).mono ?_
    rintro e w3 ⟨rfl, hb3'⟩
    have hb3 : Below w2.heap.size w2 w3 := bl_undrew hb3'
    have hs3 := hb3.size
    refine hK _ _ ⟨⟨_, hb3.mono (by omega)⟩, rfl⟩ ?_
    clear hK K hb3'
    refine mix_hold rfl (fun K hK => ?_)
    go_simp
    refine hK _ _ ⟨⟨_, (hb3.mono (by omega)).alloc (by omega) _⟩, rfl⟩ ?_
    clear hK K
    refine mix_hold rfl (fun K hK => ?_)
    refine step_append_lies _ (by rfl) _ _ _ (by rfl) (w.heap.size + 2) 25 ti _ 3 40 Tryd.underlying23 HTI.out HTZ.out HTS.out HTB.out rfl (by omega) (.slice a1 (flen k) c1) (flen k) xs (by rfl) (own_low ((Below.refl _ _).alloc (Nat.le_refl _) _) (own_low hb3 HOWN.out)) ⟨w3.heap.size, 0, none⟩ 1 1 [.int .i64 1, .int .i64 0, .slice none (flen .nil) 0] (by rfl) (by rfl) (World.news_of_block (heap_alloc_new _ _)) (by simp [Value.oneCell']) (by omega) (by unfold maxLen; omega) (by omega) (by simp; omega) (w3.heap.size + 1) (by simp) ?_
    intro g cap w4 hown4 hgrow hatg hg4
    have hlow : Below (w.heap.size + 2) w2 w4 := ((hb3.mono (by omega)).alloc (by omega) _).grown hgrow (by simp; omega) HLT.out
    have hz2 : w4.cell? ⟨w.heap.size, 2, none⟩ = some (.slice a1 (flen k) c1) := by rw [hlow.cell (by simp)]; exact ht2
    have hz3 : w4.frozen? ⟨w.heap.size, 2, none⟩ = false := by rw [hlow.frozen (by simp)]; exact hf2
    have hown5 : Own w4 (w.heap.size + 2) (fsnoc k (1, 0)) (flen k + 1) (some ⟨g, 0, none⟩) cap := by
      refine Own.append (k := fsnoc k (1, 0)) (kk := .nil) ⟨xs, HOWN.out, hown4, fun i hi => ?_⟩ hb3 (.inl rfl) (by omega) (fdrop_snoc_end (1, 0) k) hgrow hatg
      obtain ⟨x, y, s', v', kk, a', c', L, H, e, h0, h1, h2, hs, hL, hH, hg⟩ := HALL.out i hi
      exact ⟨x, y, s', v', kk, a', c', L, H, fdrop_snoc _ i k e, h0, h1, h2, hs, hL, hH, hg⟩
    have hat4 : BadAt w br (p + 1) s v a1 (flen k) c1 w4 := HAT2.out.keep hlt hlow (by have := hgrow.size; simp at this; omega)
    have HOWN5 := Lib.hid hown5
    have HAT4 := Lib.hid (hat4.set2 hlt (A' := some ⟨g, 0, none⟩) (n' := flen k + 1) (C' := cap))
    refine hK _ _ ⟨⟨_, hlow⟩, rfl⟩ ?_
    clear hK K hown4 hgrow hatg hown5
    refine mix_late rfl (fun K hK => ?_)
    go_simp
    refine hK _ _ ?_
    clear hK K
    refine mix_late rfl (fun K hK => ?_)
    go_simp
    refine hK _ _ ?_
    clear hK K
    refine mix_end ?_
    clear hz2 hz3 ht2 hf2
    have ht0 := HAT4.out.t0
    have ht1 := HAT4.out.t1
    have ht2 := HAT4.out.t2
    have hf0 := HAT4.out.f0
    have hf1 := HAT4.out.f1
    have hf2 := HAT4.out.f2
    have hr0 := HAT4.out.r0
    have hr1 := HAT4.out.r1
    have hr2 := HAT4.out.r2
    have hg0 := HAT4.out.g0
    have hg1 := HAT4.out.g1
    have hg2 := HAT4.out.g2
    have hkl := flen_snoc (1, 0) k
    have HKL := Lib.hid hkl
    have hks := fsz_snoc (1, 0) k
    have HKS := Lib.hid hks
    clear hkl hks
    go_wp2_with fail
    refine bodyPost_ret (v := .agg #[.int .i64 s, .int .i64 v, .slice (some ⟨g, 0, none⟩) (flen (fsnoc k (1, 0))) cap]) ?_ rfl (BadAt.done (k := fsnoc k (1, 0)) (by rw [HKL.out]; exact HAT4.out) (by omega) (by omega) (by rw [HKS.out]; omega) (Own.sl (by rw [HKL.out]; exact HOWN5.out.store (by simp) _)))
    rw [HKL.out]
    simp [results, Tryd.results54, go_sem, hr0, hr1, hr2]
  have x2 : ((x : Int) == 2) = false := by simp; omega
  by_cases hx3 : x = 3
  · subst hx3
    have HST : Hid (BadLoop w br (p + 1) S 0 w2) := ⟨s, v, a1, c1, k, HAT2.out, HOWN2.out.sl, by omega⟩
    clear HAT2 HOWN2
    go_wp2_with fail
    go_loopw [5] (fun i wr => ∃ j : Nat, j ≤ 8 ∧ i = .int .i64 j ∧ BadLoop w br (p + 1) S j wr) (fun i _ => 8 - (intOf i).toNat)
    case atStart => exact ⟨0, by omega, rfl, HST.out⟩
    case round =>
      clear HST
      obtain ⟨j, hj, rfl, s1, v1, A1, C1, k1, hat, hsl, hbd⟩ := hrel
      have ht0 := hat.t0
      have ht1 := hat.t1
      have ht2 := hat.t2
      have hf0 := hat.f0
      have hf1 := hat.f1
      have hf2 := hat.f2
      have hr0 := hat.r0
      have hr1 := hat.r1
      have hr2 := hat.r2
      have hg0 := hat.g0
      have hg1 := hat.g1
      have hg2 := hat.g2
      have hsz1 := hat.size
      by_cases hlt8 : j < 8
      · have HAT1 := Lib.hid hat
        have HL1 := Lib.hid (kid2 (T := 25) (s := s1) (v := v1) (c := C1) (s' := s1) (v' := v1) (c' := C1) hsl hsl hsz1)
        have HBD := Lib.hid hbd
        clear hat hsl hbd
        go_wp2_with fail
        with_reducible refine (l71Of_any 4 _ 2 2 _).mono ?_
        rintro e w3 ⟨rfl, hb3⟩
        have hat3 := (HAT1.out.more hlt ((Below.refl _ _).alloc (Nat.le_refl _) _)).more hlt hb3
        have hl3 := HL1.out.low hb3
        have hs3 := hat3.size
        have hat4 := ((hat3.set0 hlt 4).set1 hlt 0).set2 hlt (A' := some ⟨wr.heap.size, 0, none⟩) (n' := flen (.node 0 0 (s1, v1) k1 (.node 0 0 (s1, v1) k1 .nil))) (C' := 2)
        have hl4 := ((hl3.store (q := ⟨w.heap.size, 0, none⟩) (by simp) (.int .i64 4)).store (q := ⟨w.heap.size, 1, none⟩) (by simp) (.int .i64 0)).store (q := ⟨w.heap.size, 2, none⟩) (by simp) (.slice (some ⟨wr.heap.size, 0, none⟩) 2 2)
        have hbd4 : fsz (.node 0 0 (s1, v1) k1 (.node 0 0 (s1, v1) k1 .nil)) + 2 ≤ (S + 1) * 2 ^ (j + 1) := by
          have := HBD.out
          rw [Nat.pow_succ, ← Nat.mul_assoc]
          simp only [fsz]
          omega
        clear ht0 ht1 ht2 hf0 hf1 hf2 hr0 hr1 hr2 hg0 hg1 hg2
        have ht0 := hat3.t0
        have ht1 := hat3.t1
        have ht2 := hat3.t2
        have hf0 := hat3.f0
        have hf1 := hat3.f1
        have hf2 := hat3.f2
        have HAT4 := Lib.hid hat4
        have HL4 := Lib.hid hl4
        have HBD4 := Lib.hid hbd4
        clear hat3 hl3 hat4 hl4 hbd4 hb3
        go_wp2_with fail
        with_reducible refine (l1Count_n 60 4 0 (some ⟨wr.heap.size, 0, none⟩) 2 (.node 0 0 (s1, v1) k1 (.node 0 0 (s1, v1) k1 .nil)) 60 _ 2 rfl ?_ ?_ ?_ ?_).mono ?_
        · exact HL4.out.mono (Nat.zero_le _) (by simp)
        · omega
        · omega
        · omega
        rintro e w4 ⟨rfl, hb4⟩
        have hat5 := HAT4.out.more hlt hb4
        have hl5 := (HL4.out.mono (Nat.le_refl _) (show _ ≤ _ by simp)).low hb4
        clear ht0 ht1 ht2 hf0 hf1 hf2
        by_cases hcnt : 60 < cntT 4 0 (.node 0 0 (s1, v1) k1 (.node 0 0 (s1, v1) k1 .nil)) 60
        · have ht0 := hat5.t0
          have ht1 := hat5.t1
          have ht2 := hat5.t2
          have hf0 := hat5.f0
          have hf1 := hat5.f1
          have hf2 := hat5.f2
          have hr0 := hat5.r0
          have hr1 := hat5.r1
          have hr2 := hat5.r2
          have hg0 := hat5.g0
          have hg1 := hat5.g1
          have hg2 := hat5.g2
          have HAT5 := Lib.hid hat5
          have HL5 := Lib.hid hl5
          clear hat5 hl5 hb4
          go_wp2_with fail
          refine bodyPost_ret (v := .agg #[.int .i64 4, .int .i64 0, .slice (some ⟨wr.heap.size, 0, none⟩) 2 2]) ?_ rfl (HAT5.out.done (by omega) (by omega) (bad_size HBD4.out (by omega) (by omega)) HL5.out)
          simp [results, Tryd.results54, go_sem, hr0, hr1, hr2, flen]
        · have HREL : Hid (BadLoop w br (p + 1) S (j + 1) w4) := ⟨4, 0, _, 2, _, hat5, hl5, HBD4.out⟩
          clear hat5 hl5 hb4
          go_wp2_with fail
          go_roundw
          case rel => exact ⟨j + 1, by omega, by go_num, HREL.out⟩
          case measure => simp [intOf]; omega
      · have HAT1 := Lib.hid hat
        have HL1 := Lib.hid hsl
        have HBD := Lib.hid hbd
        clear hat hsl hbd
        go_wp2_with fail
        refine bodyPost_ret (v := .agg #[.int .i64 s1, .int .i64 v1, .slice A1 (flen k1) C1]) ?_ rfl (HAT1.out.done (by omega) (by omega) (bad_size HBD.out (by omega) (by omega)) HL1.out)
        simp [results, Tryd.results54, go_sem, hr0, hr1, hr2]
  have x3 : ((x : Int) == 3) = false := by simp; omega
  have ht0 := HAT2.out.t0
  have ht1 := HAT2.out.t1
  have ht2 := HAT2.out.t2
  have hf0 := HAT2.out.f0
  have hf1 := HAT2.out.f1
  have hf2 := HAT2.out.f2
  have hr0 := HAT2.out.r0
  have hr1 := HAT2.out.r1
  have hr2 := HAT2.out.r2
  have hg0 := HAT2.out.g0
  have hg1 := HAT2.out.g1
  have hg2 := HAT2.out.g2
  cases hk : k with
  | nil =>
    subst hk
    go_wp2_with fail
    refine bodyPost_ret (v := .agg #[.int .i64 s, .int .i64 v, .slice a1 (flen .nil) c1]) ?_ rfl (HAT2.out.done (by omega) (by omega) (by omega) HOWN2.out.sl)
    simp [results, Tryd.results54, go_sem, hr0, hr1, hr2]
  | node x' y' pk kk r =>
    subst hk
    have hpos : 0 < flen (.node x' y' pk kk r) := by simp [flen]
    obtain ⟨g, rfl, hgb, hgl, ⟨u0, hu0⟩, ⟨u1, hu1⟩, ⟨u2, hu2⟩, hz0, hz1, hz2⟩ := own_first HOWN2.out hpos
    have hne : g ≠ w.heap.size := by omega
    have hne1 : g ≠ w.heap.size + 1 := by omega
    have HSL := Lib.hid (own_put0 HOWN2.out 3 0)
    have HATF := Lib.hid (((HAT2.out.far hlt (q := ⟨g, 0, none⟩) hgb (.int .i64 3)).far hlt (q := ⟨g, 1, none⟩) hgb (.int .i64 0)).far hlt (q := ⟨g, 2, none⟩) hgb (.slice none 0 0))
    have hn : flen (.node x' y' pk kk r) = flen r + 1 := rfl
    have HN := Lib.hid hn
    clear hn
    have hS1 : 1 + fsz (BT.node 0 0 ((3 : Int), (0 : Int)) BT.nil r) ≤ 1000 * S := by
      have h3 : fsz (BT.node 0 0 ((3 : Int), (0 : Int)) BT.nil r) = fsz r + 1 := by simp [fsz]
      have h4 : fsz r + 1 ≤ fsz (.node x' y' pk kk r) := by simp only [fsz]; omega
      omega
    have hq0 := HATF.out.r0
    have hq1 := HATF.out.r1
    have hq2 := HATF.out.r2
    go_wp2_with fail
    refine bodyPost_ret (v := .agg #[.int .i64 s, .int .i64 v, .slice (some ⟨g, 0, none⟩) (flen (.node 0 0 (3, 0) .nil r)) c1]) ?_ rfl (BadAt.done (k := .node 0 0 (3, 0) .nil r) HATF.out (by omega) (by omega) hS1 (by simpa using HSL.out))
    simp [results, Tryd.results54, go_sem, hq0, hq1, hq2, flen]
end Go.Proofs.YtbnbogdglffkmaaDoor

/-! WJ0: What the drawn functions of one term end with. -/
namespace Go.Proofs.YtbnbogdglffkmaaDoor
open Go.RowKit Go.Deep

/-- A term of at most that size is handed back, in new memory. -/
def TermPost (S : Nat) (w : World) (e : Ending) (w' : World) : Prop :=
  ∃ s v a c k, e = .returned (.agg #[.int .i64 s, .int .i64 v, .slice a (flen k) c]) ∧ 1 + fsz k ≤ S ∧ Below w.heap.size w w' ∧ Sl w' w.heap.size w'.heap.size a k

theorem adv_low {w w1 w2 : World} {n br p : Nat} (hb : Below n w w1) (h1 : n ≤ br) (h2 : n ≤ w1.heap.size) (ha : Adv w1 br p w2) : Below n w w2 :=
  (hb.setCell (p := ⟨br, 1, none⟩) (by simpa using h1) (.int .i64 p)).trans (Below.mono ha h2)

/-- The result's cells, laid at the call's head, in a later world. -/
theorem res_low {w w2 : World} {x y z : Value} {T : TypeId} (hb : Below (w.heap.size + 1) (w.alloc (.cells #[x, y, z] T)) w2) :
    w2.cell? ⟨w.heap.size, 0, none⟩ = some x ∧ w2.cell? ⟨w.heap.size, 1, none⟩ = some y ∧ w2.cell? ⟨w.heap.size, 2, none⟩ = some z ∧
      w2.frozen? ⟨w.heap.size, 0, none⟩ = false ∧ w2.frozen? ⟨w.heap.size, 1, none⟩ = false ∧ w2.frozen? ⟨w.heap.size, 2, none⟩ = false := by
  refine ⟨?_, ?_, ?_, ?_, ?_, ?_⟩
  iterate 3
    · rw [hb.cell (by simp)]; simp
  iterate 3
    · rw [hb.frozen (by simp)]; simp
theorem term_end {w w2 : World} {S : Nat} {s v : Int} {a : Option Addr} {c : Nat} {k : Fo} {o : Obj} {x y z : Value} (hb : Below (w.heap.size + 1) (w.alloc o) w2) (hS : 1 + fsz k ≤ S) (hl : Sl w2 (w.heap.size + 1) w2.heap.size a k) :
    TermPost S w (.returned (.agg #[.int .i64 s, .int .i64 v, .slice a (flen k) c])) (((w2.setCell ⟨w.heap.size, 0, none⟩ x).setCell ⟨w.heap.size, 1, none⟩ y).setCell ⟨w.heap.size, 2, none⟩ z) := by
  refine ⟨s, v, a, c, k, rfl, hS, (((after_top hb).setCell (by simp) _).setCell (by simp) _).setCell (by simp) _, ?_⟩
  exact (((hl.store (q := ⟨w.heap.size, 0, none⟩) (by simp) x).store (q := ⟨w.heap.size, 1, none⟩) (by simp) y).store (q := ⟨w.heap.size, 2, none⟩) (by simp) z).mono (by omega) (by simp)

theorem Bytes.alloc {w : World} {a : Option Addr} {len : Nat} (h : Bytes w a len) (o : Obj) : Bytes (w.alloc o) a len := by
  rcases h with h | ⟨b, o', e, hb, h⟩
  · exact .inl h
  · refine .inr ⟨b, o', e, by simp; omega, fun i hi => ?_⟩
    obtain ⟨x, hx, hc⟩ := h i hi
    exact ⟨x, hx, by rw [World.cell?_alloc_lt _ _ _ hb]; exact hc⟩
end Go.Proofs.YtbnbogdglffkmaaDoor

/-! WK0: l71Some. -/
namespace Go.Proofs.YtbnbogdglffkmaaDoor
open Go.RowKit Go.Deep

set_option maxRecDepth 100000 in
set_option maxHeartbeats 1000000 in
theorem l71Some_any (br p : Nat) (w : World) (hr : Rd w br p) (hp : p ≤ 10000000) :
    Calls Tryd.prog 40 #[.pointer (some ⟨br, 0, none⟩)] w (DrawnPost br p 100 31000 w) := by
  have hlt := hr.lt
  have hr' := hr.alloc (.cells #[.int .i64 0, .int .i64 0, .slice none 0 0] 25)
  have HA0 := Lib.hid (Adv.start hr' (Below.refl _ _))
  have HR0 := Lib.hid hr'
  clear hr hr'
  go_enter Tryd.func40, Tryd.ntmps40
  go_wp2_with fail
  with_reducible refine (pick_any 2 br p _ HR0.out (by omega) (by omega) (by omega)).mono ?_
  rintro e w1 ⟨x, rfl, hx, hb1⟩
  have ha1 := HA0.out.trans hb1
  have hx2 : x < 2 := by omega
  have HR1 := Lib.hid (Adv.rd hb1 HR0.out)
  have HA1 := Lib.hid ha1
  clear hb1 ha1 hx
  have hs1 := HA1.out.size
  simp at hs1
  have hpb : Hid (p + 1 + pkN 4 ≤ 100000000) := by
    have h93 : pkN 4 = 93 := by decide
    unfold Hid
    omega
  go_wp2_with fail
  with_reducible refine (l71Term_any 4 (3 + x) 3 br (p + 1) _ (by omega) (by omega) (by omega) (by omega) (by omega) HR1.out hpb.out).mono ?_
  rintro e w2 ⟨s, v, a2, c2, k, p2, rfl, hp1, hp2, hS2, ha2, hl2⟩
  have hp2' : p2 ≤ p + 1 + 93 := by simpa [pkN] using hp2
  have hS2' : 1 + fsz k ≤ 31 := by simpa [szN] using hS2
  have HR2 := Lib.hid (ha2.rd HR1.out)
  have HA2 := Lib.hid (HA1.out.trans ha2)
  have hs2 := ha2.size
  have HL2 := Lib.hid (hl2.mono (lo' := w.heap.size + 1) (by omega) (Nat.le_refl _))
  clear ha2 hl2 hp2 hS2
  go_wp2_with fail
  with_reducible refine (pick_any 14 br p2 _ (HR2.out.alloc _) (by omega) (by omega) (by omega)).mono ?_
  rintro e w3 ⟨y, rfl, hy, hb3⟩
  have ha3 : Adv (w2.alloc (.cells #[.int .i64 s, .int .i64 v, .slice a2 (flen k) c2] 25)) br (p2 + 1) w3 := hb3
  have hs3 := ha3.size
  simp at hs3
  have hlt2 : br < w2.heap.size := HR2.out.lt
  have HA3 := Lib.hid ((HA2.out.alloc (.cells #[.int .i64 s, .int .i64 v, .slice a2 (flen k) c2] 25)).trans ha3)
  have HR3 := Lib.hid (ha3.rd (HR2.out.alloc _))
  have HL3 := Lib.hid ((HL2.out.low ((Below.refl _ _).alloc (Nat.le_refl _) _)).adv ha3 (by omega))
  have hc0 := ha3.cell (q := ⟨w2.heap.size, 0, none⟩) (v := .int .i64 s) (by simp) (by simp; omega)
  have hc1 := ha3.cell (q := ⟨w2.heap.size, 1, none⟩) (v := .int .i64 v) (by simp) (by simp; omega)
  have hc2 := ha3.cell (q := ⟨w2.heap.size, 2, none⟩) (v := .slice a2 (flen k) c2) (by simp) (by simp; omega)
  clear ha3 hb3 hy
  by_cases hy0 : y = 0
  · subst hy0
    go_wp2_with fail
    with_reducible refine (l71Bad_any s v a2 c2 k br (p2 + 1) 31 _ (HL3.out.mono (Nat.zero_le _) (Nat.le_refl _)) HR3.out (by omega) (by omega) (by omega)).mono ?_
    rintro e w4 ⟨s4, v4, a4, c4, k4, p4, rfl, hp3, hp4, hS4, ha4, hl4⟩
    have ha5 := HA3.out.trans ha4
    obtain ⟨hr0, hr1, hr2, hf0, hf1, hf2⟩ := res_cells ha5 hlt
    have HA5 := Lib.hid ha5
    have HL4 := Lib.hid (hl4.mono (lo' := w.heap.size + 1) (by omega) (Nat.le_refl _))
    clear ha4 hl4 ha5 hc0 hc1 hc2
    go_wp2_with fail
    refine bodyPost_ret (v := .agg #[.int .i64 s4, .int .i64 v4, .slice a4 (flen k4) c4]) ?_ rfl (drawn_end HA5.out hlt (by omega) (by omega) (by omega) HL4.out)
    simp [results, Tryd.results40, go_sem, hr0, hr1, hr2]
  · have y0 : ((y : Int) == 0) = false := by simpa using hy0
    obtain ⟨hr0, hr1, hr2, hf0, hf1, hf2⟩ := res_cells HA3.out hlt
    go_wp2_with fail
    refine bodyPost_ret (v := .agg #[.int .i64 s, .int .i64 v, .slice a2 (flen k) c2]) ?_ rfl (drawn_end HA3.out hlt (by omega) (by omega) (by omega) HL3.out)
    simp [results, Tryd.results40, go_sem, hr0, hr1, hr2]
end Go.Proofs.YtbnbogdglffkmaaDoor

/-! V5d: DrawTermVars. -/
namespace Go.Proofs.YtbnbogdglffkmaaDoor
open Go.RowKit Go.Deep

set_option maxRecDepth 100000 in
set_option maxHeartbeats 1000000 in
theorem DrawTermVars_any (a : Option Addr) (len cap : Nat) (w : World) (hby : Bytes w a len) (hlen : len ≤ cap) :
    Calls Tryd.prog 23 #[.slice a len cap] w (TermPost 31000 w) := by
  have HBY := Lib.hid hby
  clear hby
  go_enter Tryd.func23, Tryd.ntmps23
  go_wp2_with fail
  with_reducible refine (l6Open_any a len cap _ (HBY.out.alloc _) hlen).mono ?_
  rintro e w1 ⟨rfl, hb1, hrd⟩
  have hb1' : Below (w.heap.size + 1) (w.alloc (.cells #[.int .i64 0, .int .i64 0, .slice none 0 0] 25)) w1 := hb1.mono (by simp)
  have hs1 := hb1.size
  simp at hs1
  simp only [World.size_alloc] at hrd
  have hlt1 := hrd.lt
  have HRD := Lib.hid hrd
  have HB1 := Lib.hid hb1'
  clear hb1 hb1' hrd
  simp only [World.size_alloc]
  go_wp2_with fail
  with_reducible refine (pick_any 4 (w.heap.size + 1) 0 _ HRD.out (by omega) (by omega) (by omega)).mono ?_
  rintro e w2 ⟨x, rfl, hx, hb2⟩
  have ha2 : Adv w1 (w.heap.size + 1) (0 + 1) w2 := hb2
  have hs2 := ha2.size
  have HB2 := Lib.hid (adv_low HB1.out (by omega) (by omega) ha2)
  have HRD2 := Lib.hid (ha2.rd HRD.out)
  clear ha2 hb2
  by_cases hx0 : x = 0
  · subst hx0
    go_wp2_with fail
    with_reducible refine (l71Some_any (w.heap.size + 1) (0 + 1) _ HRD2.out (by omega)).mono ?_
    rintro e w4 ⟨s4, v4, a4, c4, k4, p4, rfl, _, hp4, hS4, ha4, hl4⟩
    have hb4 := adv_low HB2.out (by omega) (by omega) ha4
    have HB4 := Lib.hid hb4
    obtain ⟨hr0, hr1, hr2, hf0, hf1, hf2⟩ := res_low hb4
    have HL4 := Lib.hid (hl4.mono (lo' := w.heap.size + 1) (by omega) (Nat.le_refl _))
    clear ha4 hl4 hb4
    go_wp2_with fail
    refine bodyPost_ret (v := .agg #[.int .i64 s4, .int .i64 v4, .slice a4 (flen k4) c4]) ?_ rfl (term_end HB4.out (by omega) HL4.out)
    simp [results, Tryd.results23, go_sem, hr0, hr1, hr2]
  · have x0 : ((x : Int) == 0) = false := by simpa using hx0
    go_wp2_with fail
    with_reducible refine (l71Term_any 4 4 12 (w.heap.size + 1) (0 + 1) _ (by omega) (by omega) (by omega) (by omega) (by omega) HRD2.out (by decide)).mono ?_
    rintro e w4 ⟨s4, v4, a4, c4, k4, p4, rfl, _, hp4, hS4, ha4, hl4⟩
    have hS4' : 1 + fsz k4 ≤ 31 := by simpa [szN] using hS4
    have hb4 := adv_low HB2.out (by omega) (by omega) ha4
    have HB4 := Lib.hid hb4
    obtain ⟨hr0, hr1, hr2, hf0, hf1, hf2⟩ := res_low hb4
    have HL4 := Lib.hid (hl4.mono (lo' := w.heap.size + 1) (by omega) (Nat.le_refl _))
    clear ha4 hl4 hb4
    go_wp2_with fail
    refine bodyPost_ret (v := .agg #[.int .i64 s4, .int .i64 v4, .slice a4 (flen k4) c4]) ?_ rfl (term_end HB4.out (by omega) HL4.out)
    simp [results, Tryd.results23, go_sem, hr0, hr1, hr2]
end Go.Proofs.YtbnbogdglffkmaaDoor

/-! DT: DrawTermText. -/
namespace Go.Proofs.YtbnbogdglffkmaaDoor
open Go.RowKit Go.Deep

set_option maxRecDepth 100000 in
set_option maxHeartbeats 1000000 in
theorem DrawTermText_any (a : Option Addr) (len cap : Nat) (w : World) (hby : Bytes w a len) (hlen : len ≤ cap) :
    Calls Tryd.prog 7 #[.slice a len cap] w (TermPost 31000 w) := by
  have HBY := Lib.hid hby
  clear hby
  go_enter Tryd.func7, Tryd.ntmps7
  go_wp2_with fail
  with_reducible refine (DrawTermVars_any a len cap _ (HBY.out.alloc _) hlen).mono ?_
  rintro e w4 ⟨s4, v4, a4, c4, k4, rfl, hS4, hb4, hl4⟩
  have hb4' : Below (w.heap.size + 1) (w.alloc (.cells #[.int .i64 0, .int .i64 0, .slice none 0 0] 25)) w4 := hb4.mono (by simp)
  have HB4 := Lib.hid hb4'
  obtain ⟨hr0, hr1, hr2, hf0, hf1, hf2⟩ := res_low hb4'
  have HL4 := Lib.hid (hl4.mono (lo' := w.heap.size + 1) (by simp) (Nat.le_refl _))
  clear hl4 hb4 hb4'
  go_wp2_with fail
  refine bodyPost_ret (v := .agg #[.int .i64 s4, .int .i64 v4, .slice a4 (flen k4) c4]) ?_ rfl (term_end HB4.out hS4 HL4.out)
  simp [results, Tryd.results7, go_sem, hr0, hr1, hr2]
end Go.Proofs.YtbnbogdglffkmaaDoor
