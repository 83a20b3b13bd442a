/- Several texts in one: WF2, LB, EQ, Mix2, Mix3. -/
import Derived.Test.YtdkcbbhkoibplaaKLn2
import Derived.Test.YtdkcbbhkoibplaaKLn6
import Derived.Test.YtdkcbbhkoibplaaKLn3
import Derived.Test.YtdkcbbhkoibplaaKLn5

/-! WF2: l71Term once more: what is drawn is a term in form, without marks, no larger than its depth lets. -/
namespace Go.Proofs.Ytdkcbbhkoibplaa
open Go.RowKit Go.Deep

/-- In form, without marks. -/
def OkZ (s v : Int) (k : Fo) : Prop := okN s v (flen k) = true ∧ fok k = true ∧ Zf k
theorem okz_a : OkZ 1 0 .nil := ⟨by decide, rfl, rfl⟩
theorem okz_b : OkZ 2 0 .nil := ⟨by decide, rfl, rfl⟩
theorem okz_var {v : Int} (h1 : 0 ≤ v) (h2 : v ≤ 11) : OkZ 0 v .nil := ⟨(okN_iff _ _ _).2 ⟨by simp [flen, ar], fun _ => ⟨h1, h2⟩, fun h => absurd rfl h⟩, rfl, rfl⟩
theorem okz_g {s v : Int} {k : Fo} (h : OkZ s v k) : OkZ 3 0 (.node 0 0 (s, v) k .nil) := by
  obtain ⟨h1, h2, h3⟩ := h
  exact ⟨by show okN 3 0 1 = true; decide, by simp [fok, h1, h2], zf_node.2 ⟨rfl, rfl, h3, rfl⟩⟩
theorem okz_f {s v s' v' : Int} {k k' : Fo} (h : OkZ s v k) (h' : OkZ s' v' k') : OkZ 4 0 (.node 0 0 (s, v) k (.node 0 0 (s', v') k' .nil)) := by
  obtain ⟨h1, h2, h3⟩ := h
  obtain ⟨h1', h2', h3'⟩ := h'
  exact ⟨by show okN 4 0 2 = true; decide, by simp [fok, h1, h2, h1', h2'], zf_node.2 ⟨rfl, rfl, h3, zf_node.2 ⟨rfl, rfl, h3', rfl⟩⟩⟩
def DrawnOk (br p K S : Nat) (w : World) (e : Ending) (w' : World) : Prop :=
  ∃ s v a c k p', e = .returned (.agg #[.int .i64 s, .int .i64 v, .slice a (flen k) c]) ∧ OkZ s v k ∧ p ≤ p' ∧ p' ≤ p + K ∧ 1 + fsz k ≤ S ∧ Adv w br p' w' ∧ Sl w' w.heap.size w'.heap.size a k
theorem drawn_ok {w w2 : World} {br p p' K S : Nat} {s v : Int} {a : Option Addr} {c : Nat} {k : Fo} {o : Obj} {x y z : Value} (hok : OkZ s v k) (ha : Adv (w.alloc o) br p' w2) (hbr : br < w.heap.size) (h1 : p ≤ p') (h2 : p' ≤ p + K) (h3 : 1 + fsz k ≤ S)
    (hl : Sl w2 (w.heap.size + 1) w2.heap.size a k) : DrawnOk br p K S w (.returned (.agg #[.int .i64 s, .int .i64 v, .slice a (flen k) c])) (((w2.setCell ⟨w.heap.size, 0, none⟩ x).setCell ⟨w.heap.size, 1, none⟩ y).setCell ⟨w.heap.size, 2, none⟩ z) := by
  refine ⟨s, v, a, c, k, p', rfl, hok, h1, h2, h3, (((ha.off hbr).store (by simp) _).store (by simp) _).store (by simp) _, ?_⟩
  have hs : Same (w.heap.size + 1) w2.heap.size w2 (((w2.setCell ⟨w.heap.size, 0, none⟩ x).setCell ⟨w.heap.size, 1, none⟩ y).setCell ⟨w.heap.size, 2, none⟩ z) :=
    (((Same.setCell (fun _ _ _ => rfl) (.inl (by simp)) _).setCell (.inl (by simp)) _).setCell (.inl (by simp)) _)
  exact (hl.same hs).mono (by omega) (by simp)

set_option maxRecDepth 100000 in
set_option maxHeartbeats 1000000 in
theorem l71Term_ok (D : Nat) : ∀ (deep vars : Int) (br p : Nat) (w : World), deep ≤ D + 1 → -1000 ≤ deep → D ≤ 20 → 1 ≤ vars → vars ≤ 12 → Rd w br p → p + pkN D ≤ 100000000 →
    Calls Try.prog 68 #[.pointer (some ⟨br, 0, none⟩), .int .i64 deep, .int .i64 vars] w (DrawnOk br p (pkN D) (szN D) w) := by
  induction D with
  | zero =>
    intro deep vars br p w h1 h2 h3 h4 h5 hr hp
    have hpk : pkN 0 = 3 := rfl
    have HPK := Lib.hid hpk
    have hk3 : 3 ≤ pkN 0 := by omega
    clear hpk
    have e1 : decide (deep < 2) = true := by simp; omega
    have HR0 := Lib.hid hr
    have hlt := hr.lt
    have hr' := hr.alloc (.cells #[.int .i64 0, .int .i64 0, .slice none 0 0] 35)
    have HA : Hid (Adv (w.alloc (.cells #[.int .i64 0, .int .i64 0, .slice none 0 0] 35)) br p (w.alloc (.cells #[.int .i64 0, .int .i64 0, .slice none 0 0] 35))) := Adv.start hr' (Below.refl _ _)
    have HR := Lib.hid hr'
    clear hr hr'
    go_enter Try.func68, Try.ntmps68
    go_wp2_with fail
    with_reducible refine (pick_any 5 br (p) _ HR.out (by omega) (by omega) (by omega)).mono ?_
    rintro e w1 ⟨x, rfl, hx, hb⟩
    have ha : Adv (w.alloc (.cells #[.int .i64 0, .int .i64 0, .slice none 0 0] 35)) br (p + 1) w1 := HA.out.trans hb
    have hr1 := ha.rd (HR0.out.alloc _)
    have HA1 := Lib.hid ha
    have HR1 := Lib.hid hr1
    clear ha hb hr1
    by_cases hx0 : x = 0
    · subst hx0
      go_wp2_with fail
      with_reducible refine (l71Of_any 1 none 0 0 _).mono ?_
      rintro e w2 ⟨rfl, hb2⟩
      have ha2 := HA1.out.more hb2
      obtain ⟨hc0, hc1, hc2, hf0, hf1, hf2⟩ := res_cells ha2 hlt
      clear hb2
      go_wp2_with fail
      refine bodyPost_ret (v := .agg #[.int .i64 1, .int .i64 0, .slice none 0 0]) ?_ rfl (drawn_ok (s := 1) (v := 0) (k := .nil) okz_a ha2 hlt (by omega) (by omega) (by simp [fsz, szN]) (.inl rfl))
      simp [results, Try.results68, go_sem, hc0, hc1, hc2]
    by_cases hx1 : x = 1
    · subst hx1
      go_wp2_with fail
      with_reducible refine (l71Of_any 2 none 0 0 _).mono ?_
      rintro e w2 ⟨rfl, hb2⟩
      have ha2 := HA1.out.more hb2
      obtain ⟨hc0, hc1, hc2, hf0, hf1, hf2⟩ := res_cells ha2 hlt
      clear hb2
      go_wp2_with fail
      refine bodyPost_ret (v := .agg #[.int .i64 2, .int .i64 0, .slice none 0 0]) ?_ rfl (drawn_ok (s := 2) (v := 0) (k := .nil) okz_b ha2 hlt (by omega) (by omega) (by simp [fsz, szN]) (.inl rfl))
      simp [results, Try.results68, go_sem, hc0, hc1, hc2]
    have x0 : ((x : Int) == 0) = false := by simpa using hx0
    have x1 : ((x : Int) == 1) = false := by simp; omega
    go_wp2_with fail
    with_reducible refine (pick_any vars br (p + 1) _ HR1.out (by omega) (by omega) (by omega)).mono ?_
    rintro e w2 ⟨y, rfl, hy, hb2⟩
    have ha2 := HA1.out.trans hb2
    have HA2 := Lib.hid ha2
    clear ha2 hb2
    go_wp2_with fail
    with_reducible refine (l71Var_any y _).mono ?_
    rintro e w3 ⟨rfl, hb3⟩
    have ha3 := HA2.out.more hb3
    obtain ⟨hc0, hc1, hc2, hf0, hf1, hf2⟩ := res_cells ha3 hlt
    clear hb3
    go_wp2_with fail
    refine bodyPost_ret (v := .agg #[.int .i64 0, .int .i64 y, .slice none 0 0]) ?_ rfl (drawn_ok (s := 0) (v := y) (k := .nil) (okz_var (by omega) (by omega)) ha3 hlt (by omega) (by omega) (by simp [fsz, szN]) (.inl rfl))
    simp [results, Try.results68, go_sem, hc0, hc1, hc2]
  | succ D ih =>
    intro deep vars br p w h1 h2 h3 h4 h5 hr hp
    have hk3 : 2 * pkN D + 3 ≤ pkN (D + 1) := Nat.le_refl _
    have hs1 : 2 * szN D + 1 ≤ szN (D + 1) := Nat.le_refl _
    have hs0 := szN_pos D
    have hdm : deep ≤ 1000 := by omega
    have IH := Lib.hid ih
    clear ih
    have HR0 := Lib.hid hr
    have hlt := hr.lt
    have hr' := hr.alloc (.cells #[.int .i64 0, .int .i64 0, .slice none 0 0] 35)
    have HA : Hid (Adv (w.alloc (.cells #[.int .i64 0, .int .i64 0, .slice none 0 0] 35)) br p (w.alloc (.cells #[.int .i64 0, .int .i64 0, .slice none 0 0] 35))) := Adv.start hr' (Below.refl _ _)
    have HR := Lib.hid hr'
    clear hr hr'
    by_cases hd : deep < 2
    · have e1 : decide (deep < 2) = true := by simp; omega
      go_enter Try.func68, Try.ntmps68
      go_wp2_with fail
      with_reducible refine (pick_any 5 br (p) _ HR.out (by omega) (by omega) (by omega)).mono ?_
      rintro e w1 ⟨x, rfl, hx, hb⟩
      have ha : Adv (w.alloc (.cells #[.int .i64 0, .int .i64 0, .slice none 0 0] 35)) br (p + 1) w1 := HA.out.trans hb
      have hr1 := ha.rd (HR0.out.alloc _)
      have HA1 := Lib.hid ha
      have HR1 := Lib.hid hr1
      clear ha hb hr1
      by_cases hx0 : x = 0
      · subst hx0
        go_wp2_with fail
        with_reducible refine (l71Of_any 1 none 0 0 _).mono ?_
        rintro e w2 ⟨rfl, hb2⟩
        have ha2 := HA1.out.more hb2
        obtain ⟨hc0, hc1, hc2, hf0, hf1, hf2⟩ := res_cells ha2 hlt
        clear hb2
        go_wp2_with fail
        refine bodyPost_ret (v := .agg #[.int .i64 1, .int .i64 0, .slice none 0 0]) ?_ rfl (drawn_ok (s := 1) (v := 0) (k := .nil) okz_a ha2 hlt (by omega) (by omega) (by simp only [fsz]; omega) (.inl rfl))
        simp [results, Try.results68, go_sem, hc0, hc1, hc2]
      by_cases hx1 : x = 1
      · subst hx1
        go_wp2_with fail
        with_reducible refine (l71Of_any 2 none 0 0 _).mono ?_
        rintro e w2 ⟨rfl, hb2⟩
        have ha2 := HA1.out.more hb2
        obtain ⟨hc0, hc1, hc2, hf0, hf1, hf2⟩ := res_cells ha2 hlt
        clear hb2
        go_wp2_with fail
        refine bodyPost_ret (v := .agg #[.int .i64 2, .int .i64 0, .slice none 0 0]) ?_ rfl (drawn_ok (s := 2) (v := 0) (k := .nil) okz_b ha2 hlt (by omega) (by omega) (by simp only [fsz]; omega) (.inl rfl))
        simp [results, Try.results68, go_sem, hc0, hc1, hc2]
      have x0 : ((x : Int) == 0) = false := by simpa using hx0
      have x1 : ((x : Int) == 1) = false := by simp; omega
      go_wp2_with fail
      with_reducible refine (pick_any vars br (p + 1) _ HR1.out (by omega) (by omega) (by omega)).mono ?_
      rintro e w2 ⟨y, rfl, hy, hb2⟩
      have ha2 := HA1.out.trans hb2
      have HA2 := Lib.hid ha2
      clear ha2 hb2
      go_wp2_with fail
      with_reducible refine (l71Var_any y _).mono ?_
      rintro e w3 ⟨rfl, hb3⟩
      have ha3 := HA2.out.more hb3
      obtain ⟨hc0, hc1, hc2, hf0, hf1, hf2⟩ := res_cells ha3 hlt
      clear hb3
      go_wp2_with fail
      refine bodyPost_ret (v := .agg #[.int .i64 0, .int .i64 y, .slice none 0 0]) ?_ rfl (drawn_ok (s := 0) (v := y) (k := .nil) (okz_var (by omega) (by omega)) ha3 hlt (by omega) (by omega) (by simp only [fsz]; omega) (.inl rfl))
      simp [results, Try.results68, go_sem, hc0, hc1, hc2]
    have e1 : decide (deep < 2) = false := by simp; omega
    go_enter Try.func68, Try.ntmps68
    go_wp2_with fail
    with_reducible refine (pick_any 4 br p _ HR.out (by omega) (by omega) (by omega)).mono ?_
    rintro e w0 ⟨x4, rfl, hx4, hb0⟩
    have ha0 : Adv (w.alloc (.cells #[.int .i64 0, .int .i64 0, .slice none 0 0] 35)) br (p + 1) w0 := HA.out.trans hb0
    have hr0 := ha0.rd (HR0.out.alloc _)
    clear HA HR
    have HA := Lib.hid ha0
    have HR := Lib.hid hr0
    clear ha0 hr0 hb0 hx4
    by_cases hx : x4 = 0
    · subst hx
      go_wp2_with fail
      with_reducible refine (pick_any 5 br (p + 1) _ HR.out (by omega) (by omega) (by omega)).mono ?_
      rintro e w1 ⟨x, rfl, hx, hb⟩
      have ha : Adv (w.alloc (.cells #[.int .i64 0, .int .i64 0, .slice none 0 0] 35)) br (p + 1 + 1) w1 := HA.out.trans hb
      have hr1 := ha.rd (HR0.out.alloc _)
      have HA1 := Lib.hid ha
      have HR1 := Lib.hid hr1
      clear ha hb hr1
      by_cases hx0 : x = 0
      · subst hx0
        go_wp2_with fail
        with_reducible refine (l71Of_any 1 none 0 0 _).mono ?_
        rintro e w2 ⟨rfl, hb2⟩
        have ha2 := HA1.out.more hb2
        obtain ⟨hc0, hc1, hc2, hf0, hf1, hf2⟩ := res_cells ha2 hlt
        clear hb2
        go_wp2_with fail
        refine bodyPost_ret (v := .agg #[.int .i64 1, .int .i64 0, .slice none 0 0]) ?_ rfl (drawn_ok (s := 1) (v := 0) (k := .nil) okz_a ha2 hlt (by omega) (by omega) (by simp only [fsz]; omega) (.inl rfl))
        simp [results, Try.results68, go_sem, hc0, hc1, hc2]
      by_cases hx1 : x = 1
      · subst hx1
        go_wp2_with fail
        with_reducible refine (l71Of_any 2 none 0 0 _).mono ?_
        rintro e w2 ⟨rfl, hb2⟩
        have ha2 := HA1.out.more hb2
        obtain ⟨hc0, hc1, hc2, hf0, hf1, hf2⟩ := res_cells ha2 hlt
        clear hb2
        go_wp2_with fail
        refine bodyPost_ret (v := .agg #[.int .i64 2, .int .i64 0, .slice none 0 0]) ?_ rfl (drawn_ok (s := 2) (v := 0) (k := .nil) okz_b ha2 hlt (by omega) (by omega) (by simp only [fsz]; omega) (.inl rfl))
        simp [results, Try.results68, go_sem, hc0, hc1, hc2]
      have x0 : ((x : Int) == 0) = false := by simpa using hx0
      have x1 : ((x : Int) == 1) = false := by simp; omega
      go_wp2_with fail
      with_reducible refine (pick_any vars br (p + 1 + 1) _ HR1.out (by omega) (by omega) (by omega)).mono ?_
      rintro e w2 ⟨y, rfl, hy, hb2⟩
      have ha2 := HA1.out.trans hb2
      have HA2 := Lib.hid ha2
      clear ha2 hb2
      go_wp2_with fail
      with_reducible refine (l71Var_any y _).mono ?_
      rintro e w3 ⟨rfl, hb3⟩
      have ha3 := HA2.out.more hb3
      obtain ⟨hc0, hc1, hc2, hf0, hf1, hf2⟩ := res_cells ha3 hlt
      clear hb3
      go_wp2_with fail
      refine bodyPost_ret (v := .agg #[.int .i64 0, .int .i64 y, .slice none 0 0]) ?_ rfl (drawn_ok (s := 0) (v := y) (k := .nil) (okz_var (by omega) (by omega)) ha3 hlt (by omega) (by omega) (by simp only [fsz]; omega) (.inl rfl))
      simp [results, Try.results68, go_sem, hc0, hc1, hc2]
    have x0 : ((x4 : Int) == 0) = false := by simpa using hx
    go_wp2_with fail
    with_reducible refine (pick_any 5 br (p + 1) _ HR.out (by omega) (by omega) (by omega)).mono ?_
    rintro e w1 ⟨x, rfl, hx5, hb⟩
    have ha : Adv (w.alloc (.cells #[.int .i64 0, .int .i64 0, .slice none 0 0] 35)) br (p + 1 + 1) w1 := HA.out.trans hb
    have hr1 := ha.rd (HR0.out.alloc _)
    have hsz1 := ha.size
    simp at hsz1
    have HA1 := Lib.hid ha
    have HR1 := Lib.hid hr1
    clear ha hb hr1 HA HR
    by_cases hx2 : x < 2
    · have g2 : decide ((x : Int) < 2) = true := by simp; omega
      go_wp2_with fail
      with_reducible refine (IH.out (deep - 1) vars br (p + 1 + 1) _ (by omega) (by omega) (by omega) h4 h5 HR1.out (by omega)).mono ?_
      rintro e w2 ⟨s', v', a', c', k', p', rfl, hok1, hp1, hp2, hsz, ha2, hl2⟩
      have ha3 := HA1.out.trans ha2
      have hsz2 := ha2.size
      have HA3 := Lib.hid ha3
      have HL := Lib.hid (kid1 (T := 35) (s := s') (v := v') (c := c') (hl2.mono (lo' := w.heap.size + 1) (by omega) (Nat.le_refl _)) (by omega))
      clear ha2 hl2 ha3
      go_wp2_with fail
      with_reducible refine (l71Of_any 3 _ 1 1 _).mono ?_
      rintro e w3 ⟨rfl, hb3⟩
      have ha4 := (HA3.out.alloc _).more hb3
      have HL3 := Lib.hid ((HL.out.below hb3).mono (Nat.le_refl _) hb3.size)
      obtain ⟨hc0, hc1, hc2, hf0, hf1, hf2⟩ := res_cells ha4 hlt
      clear hb3
      go_wp2_with fail
      refine bodyPost_ret (v := .agg #[.int .i64 3, .int .i64 0, .slice (some ⟨w2.heap.size, 0, none⟩) 1 1]) ?_ rfl (drawn_ok (s := 3) (v := 0) (k := .node 0 0 (s', v') k' .nil) (okz_g hok1) ha4 hlt (by omega) (by omega) (by simp only [fsz]; omega) HL3.out)
      simp [results, Try.results68, go_sem, hc0, hc1, hc2]
    · have g2 : decide ((x : Int) < 2) = false := by simp; omega
      go_wp2_with fail
      with_reducible refine (IH.out (deep - 1) vars br (p + 1 + 1) _ (by omega) (by omega) (by omega) h4 h5 HR1.out (by omega)).mono ?_
      rintro e w2 ⟨s', v', a', c', k', p', rfl, hok1, hp1, hp2, hsz, ha2, hl2⟩
      have ha3 := HA1.out.trans ha2
      have hsz2 := ha2.size
      have hr2 := ha2.rd HR1.out
      have HR2 := Lib.hid hr2
      have HA3 := Lib.hid ha3
      have HL := Lib.hid (hl2.mono (lo' := w.heap.size + 1) (by omega) (Nat.le_refl _))
      clear ha2 hl2 ha3 hr2
      go_wp2_with fail
      with_reducible refine (IH.out (deep - 1) vars br p' _ (by omega) (by omega) (by omega) h4 h5 HR2.out (by omega)).mono ?_
      rintro e w3 ⟨s2, v2, a2, c2, k2, p2, rfl, hok2, hp3, hp4, hszb, ha4, hl4⟩
      have ha5 := HA3.out.trans ha4
      have hsz3 := ha4.size
      have HA5 := Lib.hid ha5
      have HLK := Lib.hid (kid2 (T := 35) (s := s') (v := v') (c := c') (s' := s2) (v' := v2) (c' := c2) ((HL.out.same (ha4.same (Nat.le_refl _) (.inl (by omega)))).mono (Nat.le_refl _) hsz3) (hl4.mono (lo' := w.heap.size + 1) (by omega) (Nat.le_refl _)) (by omega))
      clear ha4 hl4 ha5
      go_wp2_with fail
      with_reducible refine (l71Of_any 4 _ 2 2 _).mono ?_
      rintro e w4 ⟨rfl, hb3⟩
      have ha6 := (HA5.out.alloc _).more hb3
      have HL3 := Lib.hid ((HLK.out.below hb3).mono (Nat.le_refl _) hb3.size)
      obtain ⟨hc0, hc1, hc2, hf0, hf1, hf2⟩ := res_cells ha6 hlt
      clear hb3
      go_wp2_with fail
      refine bodyPost_ret (v := .agg #[.int .i64 4, .int .i64 0, .slice (some ⟨w3.heap.size, 0, none⟩) 2 2]) ?_ rfl (drawn_ok (s := 4) (v := 0) (k := .node 0 0 (s', v') k' (.node 0 0 (s2, v2) k2 .nil)) (okz_f hok1 hok2) ha6 hlt (by omega) (by omega) (by simp only [fsz]; omega) HL3.out)
      simp [results, Try.results68, go_sem, hc0, hc1, hc2]
end Go.Proofs.Ytdkcbbhkoibplaa

/-! LB: What the walks of laws hold on to: boxes of terms, and what stays when memory is added. Plain lemmas. -/
namespace Go.Proofs.Ytdkcbbhkoibplaa
open Go.RowKit Go.Deep

/-- Block b is a box that holds the term s v k; what it leads to lies in memory. -/
structure Tb (b : Nat) (s v : Int) (a : Option Addr) (c : Nat) (k : Fo) (w : World) : Prop where
  c0 : w.cell? ⟨b, 0, none⟩ = some (.int .i64 s)
  c1 : w.cell? ⟨b, 1, none⟩ = some (.int .i64 v)
  c2 : w.cell? ⟨b, 2, none⟩ = some (.slice a (flen k) c)
  sl : Sl w 0 w.heap.size a k
theorem Tb.next {b : Nat} {s v : Int} {a : Option Addr} {c : Nat} {k : Fo} {w w2 : World} (h : Tb b s v a c k w) (hb : Below w.heap.size w w2) : Tb b s v a c k w2 :=
  ⟨cell_low hb h.c0, cell_low hb h.c1, cell_low hb h.c2, (h.sl.below hb).mono (Nat.le_refl _) hb.size⟩
theorem Tb.new {s v : Int} {a : Option Addr} {c : Nat} {k : Fo} {w : World} {lo : Nat} (h : Sl w lo w.heap.size a k) : Tb w.heap.size s v a c k (w.alloc (.cells #[.int .i64 s, .int .i64 v, .slice a (flen k) c] 35)) := by
  have hb : Below w.heap.size w (w.alloc (.cells #[.int .i64 s, .int .i64 v, .slice a (flen k) c] 35)) := (Below.refl _ _).alloc (Nat.le_refl _) _
  refine ⟨?_, ?_, ?_, ((h.mono (Nat.zero_le _) (Nat.le_refl _)).below hb).mono (Nat.le_refl _) hb.size⟩
  · rw [World.cell?_alloc_at _ _ _ _ (by simp)]; rfl
  · rw [World.cell?_alloc_at _ _ _ _ (by simp)]; rfl
  · rw [World.cell?_alloc_at _ _ _ _ (by simp)]; rfl
theorem box_low (w : World) (o : Obj) : Below w.heap.size w (w.alloc o) := (Below.refl _ _).alloc (Nat.le_refl _) o
theorem Sl.next {w w2 : World} {lo : Nat} {a : Option Addr} {k : Fo} (h : Sl w lo w.heap.size a k) (hb : Below w.heap.size w w2) : Sl w2 0 w2.heap.size a k := ((h.mono (Nat.zero_le _) (Nat.le_refl _)).below hb).mono (Nat.le_refl _) hb.size
theorem BSl.next {w w2 : World} {lo : Nat} {a : Option Addr} {bs : List Bd} (h : BSl w lo w.heap.size a bs) (hb : Below w.heap.size w w2) : BSl w2 0 w2.heap.size a bs := ((h.mono (Nat.zero_le _) (Nat.le_refl _)).below hb).mono (Nat.le_refl _) hb.size
theorem ISl.next {w w2 : World} {lo : Nat} {a : Option Addr} {xs : List Int} (h : ISl w lo w.heap.size a xs) (hb : Below w.heap.size w w2) : ISl w2 0 w2.heap.size a xs := ((h.mono (Nat.zero_le _) (Nat.le_refl _)).below hb).mono (Nat.le_refl _) hb.size
theorem ISc.next {w w2 : World} {lo : Nat} {a : Option Addr} {c : Nat} {xs : List Int} (h : ISc w lo w.heap.size a c xs) (hb : Below w.heap.size w w2) : ISc w2 0 w2.heap.size a c xs := ⟨h.1.next hb, h.2⟩
theorem below_next {w0 w w2 : World} (h : Below w0.heap.size w0 w) (hb : Below w.heap.size w w2) : Below w0.heap.size w0 w2 := h.trans (hb.mono h.size)
end Go.Proofs.Ytdkcbbhkoibplaa

/-! EQ: Lists of equations as plain data, and in memory as rows of six cells. Definitions and plain lemmas. -/
namespace Go.Proofs.Ytdkcbbhkoibplaa
open Go.RowKit Go.Deep

/-- A sign, a variable, the kids. -/
abbrev Tm3 := Int × Int × Fo
/-- Both sides of an equation. -/
abbrev Eqd := Tm3 × Tm3
def okT3 (room : Int) (t : Tm3) : Bool := okW t.1 t.2.1 t.2.2 room
/-- A slice's address at which the equations es lie. -/
def ESl (w : World) (lo B : Nat) (a : Option Addr) (es : List Eqd) : Prop :=
  es = [] ∨ ∃ b o, a = some ⟨b, o, none⟩ ∧ lo ≤ b ∧ b < B ∧ ∀ (i : Nat) (x : Eqd), es[i]? = some x → ∃ a1 c1 a2 c2, w.cell? ⟨b, o + i * 6, none⟩ = some (.int .i64 x.1.1) ∧ w.cell? ⟨b, o + i * 6 + 1, none⟩ = some (.int .i64 x.1.2.1) ∧ w.cell? ⟨b, o + i * 6 + 2, none⟩ = some (.slice a1 (flen x.1.2.2) c1) ∧
    w.cell? ⟨b, o + i * 6 + 3, none⟩ = some (.int .i64 x.2.1) ∧ w.cell? ⟨b, o + i * 6 + 3 + 1, none⟩ = some (.int .i64 x.2.2.1) ∧ w.cell? ⟨b, o + i * 6 + 3 + 2, none⟩ = some (.slice a2 (flen x.2.2.2) c2) ∧ Sl w lo B a1 x.1.2.2 ∧ Sl w lo B a2 x.2.2.2
theorem ESl.same {w w' : World} {lo B : Nat} {a : Option Addr} {es : List Eqd} (hb : Same lo B w w') (h : ESl w lo B a es) : ESl w' lo B a es := by
  rcases h with h | ⟨b, o, e, h1, h2, h3⟩
  · exact .inl h
  · refine .inr ⟨b, o, e, h1, h2, fun i x hx => ?_⟩
    obtain ⟨a1, k1, a2, k2, c0, c1, c2, c3, c4, c5, hl, hl2⟩ := h3 i x hx
    exact ⟨a1, k1, a2, k2, by rw [hb.cell h1 h2]; exact c0, by rw [hb.cell h1 h2]; exact c1, by rw [hb.cell h1 h2]; exact c2, by rw [hb.cell h1 h2]; exact c3, by rw [hb.cell h1 h2]; exact c4, by rw [hb.cell h1 h2]; exact c5, hl.same hb, hl2.same hb⟩
theorem ESl.mono {w : World} {lo lo' B B' : Nat} {a : Option Addr} {es : List Eqd} (hlo : lo' ≤ lo) (hB : B ≤ B') (h : ESl w lo B a es) : ESl w lo' B' a es := by
  rcases h with h | ⟨b, o, e, h1, h2, h3⟩
  · exact .inl h
  · refine .inr ⟨b, o, e, by omega, by omega, fun i x hx => ?_⟩
    obtain ⟨a1, k1, a2, k2, c0, c1, c2, c3, c4, c5, hl, hl2⟩ := h3 i x hx
    exact ⟨a1, k1, a2, k2, c0, c1, c2, c3, c4, c5, hl.mono hlo hB, hl2.mono hlo hB⟩
theorem ESl.below {w w' : World} {lo B : Nat} {a : Option Addr} {es : List Eqd} (hb : Below B w w') (h : ESl w lo B a es) : ESl w' lo B a es := h.same (Same.of_below hb)
theorem ESl.next {w w' : World} {a : Option Addr} {es : List Eqd} (h : ESl w 0 w.heap.size a es) (hb : Below w.heap.size w w') : ESl w' 0 w'.heap.size a es := (h.below hb).mono (Nat.le_refl _) hb.size
/-- What the cells of an equation hold. -/
theorem ESl.at {w : World} {lo B : Nat} {a : Option Addr} {es : List Eqd} (h : ESl w lo B a es) {i : Nat} {x : Eqd} (hx : es[i]? = some x) :
    ∃ b o, a = some ⟨b, o, none⟩ ∧ lo ≤ b ∧ b < B ∧ ∃ a1 c1 a2 c2, w.cell? ⟨b, o + i * 6, none⟩ = some (.int .i64 x.1.1) ∧ w.cell? ⟨b, o + i * 6 + 1, none⟩ = some (.int .i64 x.1.2.1) ∧ w.cell? ⟨b, o + i * 6 + 2, none⟩ = some (.slice a1 (flen x.1.2.2) c1) ∧
    w.cell? ⟨b, o + i * 6 + 3, none⟩ = some (.int .i64 x.2.1) ∧ w.cell? ⟨b, o + i * 6 + 3 + 1, none⟩ = some (.int .i64 x.2.2.1) ∧ w.cell? ⟨b, o + i * 6 + 3 + 2, none⟩ = some (.slice a2 (flen x.2.2.2) c2) ∧ Sl w lo B a1 x.1.2.2 ∧ Sl w lo B a2 x.2.2.2 := by
  rcases h with rfl | ⟨b, o, e, h1, h2, h3⟩
  · simp at hx
  · exact ⟨b, o, e, h1, h2, h3 i x hx⟩

/-- An equation of valid terms. -/
def okE (x : Eqd) : Bool := okT3 16 x.1 && okT3 16 x.2
/-- A valid equation list. -/
def okEs (es : List Eqd) : Bool := decide (es.length ≤ 6) && es.all okE
theorem okEs_iff (es : List Eqd) : okEs es = true ↔ es.length ≤ 6 ∧ ∀ x ∈ es, okE x = true := by simp [okEs]
theorem all_take {es : List Eqd} {j : Nat} {x : Eqd} (h : (es.take j).all okE = true) (hx : es[j]? = some x) (h1 : okE x = true) : (es.take (j + 1)).all okE = true := by
  rw [List.take_add_one, hx]
  simp only [Option.toList_some, List.all_append, h, List.all_cons, h1, List.all_nil, Bool.and_true]
theorem all_no {es : List Eqd} {j : Nat} {x : Eqd} (hx : es[j]? = some x) (h1 : okE x = false) : okEs es = false := by
  cases h : okEs es with
  | false => rfl
  | true => rw [((okEs_iff es).1 h).2 x (List.mem_of_getElem? hx)] at h1; cases h1
end Go.Proofs.Ytdkcbbhkoibplaa

/-! Mix3: Regions that draw their order, walked order by order; what only looks is taken first. No condition. -/
namespace Go.Proofs.Ytdkcbbhkoibplaa

section
variable {P : Program} {ops : Array Oper} {Q : Exit → Act → World → Prop} {S : World → Prop}

theorem wp_region_anyT {id : Nat} {a : Act} {w : World} (S : World → Prop) (hm : P.follows .mixedOrders = true) (h : wpAnyT P .any ops (QN Q) S [] ops.size (Array.replicate ops.size false) a w.drew) : (Code.region id ops true).wp P Q a w := by
  refine Code.wp_mono (Q := QN Q) (fun e a w h => by cases e <;> first | exact h | exact h.elim) ?_
  exact wp_region_any hm (wpAny_of_T (S := S) (late := []) _ _ _ _ h)

theorem anyT_look {fuel : Nat} {listed : Array Bool} {i : Nat} {a : Act} {w : World} {o : Oper} (ho : ops[i]? = some o) (hB : (Region.noSelect ops && (Region.ready .any ops listed).contains i && Region.free .any ops listed i) = true) (hS : S w)
    (h : ∀ K : Act → Prop, (∀ a', wpAnyT P .any ops (QN Q) S [] fuel (listed.setIfInBounds i true) a' w → K a') → if Region.wanted o (yielded ops a.tmps) = true then ∃ v, (∀ w, S w → (execOp a.eval o).run P w = .ok (.value v) w) ∧ K (a.put o.dst v) else K (a.put o.dst undef)) :
    wpAnyT P .any ops (QN Q) S [] (fuel + 1) listed a w := by
  simp only [Bool.and_eq_true] at hB
  obtain ⟨⟨h1, h2⟩, h3⟩ := hB
  have := h (fun a' => wpAnyT P .any ops (QN Q) S [] fuel (listed.setIfInBounds i true) a' w) (fun _ h => h)
  split at this
  · rename_i hw
    obtain ⟨v, h4, h5⟩ := this
    exact wpAnyT_first ho (Region.noSelect_spec h1) (fun c a w h => h.elim) (fun j hj => by cases hj) fuel listed a w (Region.free_spec ho h3) (by simpa using h2) (.inl ⟨hw, h4⟩) hS (fun j hj => by cases hj) h5
  · rename_i hw
    exact wpAnyT_first (v := undef) ho (Region.noSelect_spec h1) (fun c a w h => h.elim) (fun j hj => by cases hj) fuel listed a w (Region.free_spec ho h3) (by simpa using h2) (.inr ⟨by simpa using hw, rfl⟩) hS (fun j hj => by cases hj) this

theorem anyT_op {fuel : Nat} {listed : Array Bool} {i : Nat} {a : Act} {w : World} {o : Oper} (ho : ops[i]? = some o)
    (h : ∀ K : Act → World → Prop, (∀ a' w', S w' → wpAnyT P .any ops Q S [] fuel (listed.setIfInBounds i true) a' w' → K a' w') → if Region.wanted o (yielded ops a.tmps) = true then o.wp P a w K Q else K (a.put o.dst undef) w) :
    wpOp P ops Q i (fun a' w' => ((∃ j ∈ ([] : List Nat), (listed.setIfInBounds i true).getD j false = true) ∨ S w') ∧ wpAnyT P .any ops Q S [] fuel (listed.setIfInBounds i true) a' w') a w := by
  have := h (fun a' w' => ((∃ j ∈ ([] : List Nat), (listed.setIfInBounds i true).getD j false = true) ∨ S w') ∧ wpAnyT P .any ops Q S [] fuel (listed.setIfInBounds i true) a' w') (fun _ _ h1 h2 => ⟨.inr h1, h2⟩)
  unfold wpOp
  simp only [ho]
  split at this
  · rename_i hw; rw [if_pos hw]; exact .inl this
  · rename_i hw; rw [if_neg hw]; exact this

/-- One operation may come up. -/
theorem anyT_one {fuel : Nat} {listed : Array Bool} {i : Nat} {a : Act} {w : World} {o : Oper} (hB : Region.ready .any ops listed = [i]) (ho : ops[i]? = some o)
    (h : ∀ K : Act → World → Prop, (∀ a' w', S w' → wpAnyT P .any ops (QN Q) S [] fuel (listed.setIfInBounds i true) a' w' → K a' w') → if Region.wanted o (yielded ops a.tmps) = true then o.wp P a w K (QN Q) else K (a.put o.dst undef) w) :
    wpAnyT P .any ops (QN Q) S [] (fuel + 1) listed a w := by
  refine ⟨fun h0 => (by rw [hB] at h0; cases h0), fun k hk => ?_⟩
  rw [hB] at hk
  simp only [List.mem_singleton] at hk
  subst hk
  exact anyT_op ho h
/-- One of two may come up. -/
theorem anyT_two {fuel : Nat} {listed : Array Bool} {i j : Nat} {a : Act} {w : World} {o o' : Oper} (hB : Region.ready .any ops listed = [i, j]) (ho : ops[i]? = some o) (ho' : ops[j]? = some o')
    (h : ∀ K : Act → World → Prop, (∀ a' w', S w' → wpAnyT P .any ops (QN Q) S [] fuel (listed.setIfInBounds i true) a' w' → K a' w') → if Region.wanted o (yielded ops a.tmps) = true then o.wp P a w K (QN Q) else K (a.put o.dst undef) w)
    (h' : ∀ K : Act → World → Prop, (∀ a' w', S w' → wpAnyT P .any ops (QN Q) S [] fuel (listed.setIfInBounds j true) a' w' → K a' w') → if Region.wanted o' (yielded ops a.tmps) = true then o'.wp P a w K (QN Q) else K (a.put o'.dst undef) w) :
    wpAnyT P .any ops (QN Q) S [] (fuel + 1) listed a w := by
  refine ⟨fun h0 => (by rw [hB] at h0; cases h0), fun k hk => ?_⟩
  rw [hB] at hk
  simp only [List.mem_cons, List.not_mem_nil, or_false] at hk
  rcases hk with rfl | rfl
  · exact anyT_op ho h
  · exact anyT_op ho' h'
theorem anyT_done {listed : Array Bool} {a : Act} {w : World} (hB : Region.ready .any ops listed = []) (h : Q .normal a w) : wpAnyT P .any ops (QN Q) S [] 0 listed a w := ⟨hB, h⟩
end

/-- Cells that a store elsewhere leaves. -/
theorem seen_set {l : List (Addr × Value)} {w : World} (h : ∀ p, p ∈ l → w.cell? p.1 = some p.2) {n : Nat} (hn : ∀ p, p ∈ l → p.1.block ≠ n) (i : Nat) (x : Value) : ∀ p, p ∈ l → (w.setCell ⟨n, i, none⟩ x).cell? p.1 = some p.2 := fun p hp => by
  rw [World.cell?_setCell_other _ _ _ _ (by intro e; exact hn p hp (congrArg Addr.block e).symm)]
  exact h p hp
end Go.Proofs.Ytdkcbbhkoibplaa
