/- l71Var, l71Of, l71Term. -/
import Derived.Test.YthbakmdcepoikaaWE
namespace Go.Proofs.Ythbakmdcepoikaa
open Go.RowKit Go.Deep

set_option maxHeartbeats 400000 in
theorem l71Var_any (v : Int) (w : World) :
    Calls Try.prog 42 #[.int .i64 v] w fun e w' => e = .returned (.agg #[.int .i64 0, .int .i64 v, .slice none 0 0]) ∧ Below w.heap.size w w' := by
  go_enter Try.func42, Try.ntmps42
  go_wp2_with fail
  exact bodyPost_ret (v := .agg #[.int .i64 0, .int .i64 v, .slice none 0 0]) (by simp [results, Try.results42, go_sem]) rfl ⟨rfl, (Below.refl _ _).alloc (Nat.le_refl _) _⟩

set_option maxHeartbeats 400000 in
theorem l71Of_any (s : Int) (a : Option Addr) (n c : Nat) (w : World) :
    Calls Try.prog 41 #[.int .i64 s, .slice a n c] w fun e w' => e = .returned (.agg #[.int .i64 s, .int .i64 0, .slice a n c]) ∧ Below w.heap.size w w' := by
  go_enter Try.func41, Try.ntmps41
  go_wp2_with fail
  exact bodyPost_ret (v := .agg #[.int .i64 s, .int .i64 0, .slice a n c]) (by simp [results, Try.results41, go_sem]) rfl ⟨rfl, (Below.refl _ _).alloc (Nat.le_refl _) _⟩

/-- The reader has gone on to p; all else that was there is as it was. -/
def Adv (w : World) (br p : Nat) (w' : World) : Prop := Below w.heap.size (w.setCell ⟨br, 1, none⟩ (.int .i64 p)) w'
theorem Adv.size {w w' : World} {br p : Nat} (h : Adv w br p w') : w.heap.size ≤ w'.heap.size := by have := Below.size h; simpa using this
theorem Adv.rd {w w' : World} {br p p' : Nat} (h : Adv w br p' w') (hr : Rd w br p) : Rd w' br p' := hr.next h
theorem Adv.start {w w' : World} {br p : Nat} (hr : Rd w br p) (h : Below w.heap.size w w') : Adv w br p w' := bl_self h hr.place
theorem Adv.more {w w1 w2 : World} {br p : Nat} (h : Adv w br p w1) (h' : Below w1.heap.size w1 w2) : Adv w br p w2 := Below.trans h (h'.mono h.size)
theorem Adv.trans {w w1 w2 : World} {br p p' : Nat} (h : Adv w br p w1) (h' : Adv w1 br p' w2) : Adv w br p' w2 := bl_room h h' h.size
theorem Adv.store {w w' : World} {br p : Nat} (h : Adv w br p w') {q : Addr} (hq : w.heap.size ≤ q.block) (u : Value) : Adv w br p (w'.setCell q u) := Below.setCell h hq u
theorem Adv.alloc {w w' : World} {br p : Nat} (h : Adv w br p w') (o : Obj) : Adv w br p (w'.alloc o) := Below.alloc h h.size o
theorem Adv.cell {w w' : World} {br p : Nat} (h : Adv w br p w') {q : Addr} {v : Value} (hc : w.cell? q = some v) (hq : q.block ≠ br) : w'.cell? q = some v := by
  rw [Below.cell h (World.block_lt_of_cell? _ _ hc), World.cell?_setCell_other _ _ _ _ (fun h' => hq (by rw [← h']))]
  exact hc
theorem Adv.frozen {w w' : World} {br p : Nat} (h : Adv w br p w') {q : Addr} (hq : q.block < w.heap.size) : w'.frozen? q = w.frozen? q := by
  rw [Below.frozen h hq, World.frozen?_setCell]
theorem Adv.same {w w' : World} {br p lo B : Nat} (h : Adv w br p w') (hB : B ≤ w.heap.size) (hlo : br < lo ∨ B ≤ br) : Same lo B w w' := fun b h1 h2 => by
  rw [Below.block h b (by omega), Below.heap_setCell _ _ _ _ (by simp; omega)]
/-- The call's own result cell, its block laid at the call's head, and what the reader has become. -/
theorem Adv.off {w w' : World} {br p : Nat} {o : Obj} (h : Adv (w.alloc o) br p w') (hbr : br < w.heap.size) : Adv w br p w' := by
  unfold Adv at h ⊢
  rw [World.setCell_alloc_past _ _ _ _ hbr] at h
  exact after_top2 (by simp) (by simpa using h)

def DrawnPost (br p K S : Nat) (w : World) (e : Ending) (w' : World) : Prop :=
  ∃ s v a c k p', e = .returned (.agg #[.int .i64 s, .int .i64 v, .slice a (flen k) c]) ∧ p ≤ p' ∧ p' ≤ p + K ∧ 1 + fsz k ≤ S ∧ Adv w br p' w' ∧ Sl w' w.heap.size w'.heap.size a k

theorem Rd.alloc {w : World} {br p : Nat} (h : Rd w br p) (o : Obj) : Rd (w.alloc o) br p := h.next (bl_self ((Below.refl _ _).alloc (Nat.le_refl _) o) h.place)

theorem res_cells {w w' : World} {br p : Nat} {x y z : Value} {T : TypeId} (h : Adv (w.alloc (.cells #[x, y, z] T)) br p w') (hbr : br < w.heap.size) :
    w'.cell? ⟨w.heap.size, 0, none⟩ = some x ∧ w'.cell? ⟨w.heap.size, 1, none⟩ = some y ∧ w'.cell? ⟨w.heap.size, 2, none⟩ = some z ∧
      w'.frozen? ⟨w.heap.size, 0, none⟩ = false ∧ w'.frozen? ⟨w.heap.size, 1, none⟩ = false ∧ w'.frozen? ⟨w.heap.size, 2, none⟩ = false := by
  refine ⟨h.cell (by simp) (by simp; omega), h.cell (by simp) (by simp; omega), h.cell (by simp) (by simp; omega), ?_, ?_, ?_⟩
  all_goals
    rw [h.frozen (by simp)]
    simp

theorem drawn_end {w w2 : World} {br p p' K S : Nat} {s v : Int} {a : Option Addr} {c : Nat} {k : Fo} {o : Obj} {x y z : Value} (ha : Adv (w.alloc o) br p' w2) (hbr : br < w.heap.size) (h1 : p ≤ p') (h2 : p' ≤ p + K) (h3 : 1 + fsz k ≤ S)
    (hl : Sl w2 (w.heap.size + 1) w2.heap.size a k) : DrawnPost br p K S w (.returned (.agg #[.int .i64 s, .int .i64 v, .slice a (flen k) c])) (((w2.setCell ⟨w.heap.size, 0, none⟩ x).setCell ⟨w.heap.size, 1, none⟩ y).setCell ⟨w.heap.size, 2, none⟩ z) := by
  refine ⟨s, v, a, c, k, p', rfl, h1, h2, h3, (((ha.off hbr).store (by simp) _).store (by simp) _).store (by simp) _, ?_⟩
  have hs : Same (w.heap.size + 1) w2.heap.size w2 (((w2.setCell ⟨w.heap.size, 0, none⟩ x).setCell ⟨w.heap.size, 1, none⟩ y).setCell ⟨w.heap.size, 2, none⟩ z) :=
    (((Same.setCell (fun _ _ _ => rfl) (.inl (by simp)) _).setCell (.inl (by simp)) _).setCell (.inl (by simp)) _)
  exact (hl.same hs).mono (by omega) (by simp)

/-- So many picks at most, so large at most, for a term so deep. -/
def pkN : Nat → Nat
  | 0 => 3
  | d + 1 => 2 * pkN d + 3
def szN : Nat → Nat
  | 0 => 1
  | d + 1 => 2 * szN d + 1
theorem szN_pos : ∀ d, 1 ≤ szN d
  | 0 => Nat.le_refl _
  | d + 1 => by simp only [szN]; omega

/-- One kid, laid into a block of its own. -/
theorem kid1 {w : World} {lo : Nat} {s v : Int} {a : Option Addr} {c : Nat} {k : Fo} {T : TypeId} (hl : Sl w lo w.heap.size a k) (hlo : lo ≤ w.heap.size) :
    Sl (w.alloc (.cells #[.int .i64 s, .int .i64 v, .slice a (flen k) c] T)) lo (w.alloc (.cells #[.int .i64 s, .int .i64 v, .slice a (flen k) c] T)).heap.size (some ⟨w.heap.size, 0, none⟩) (.node 0 0 (s, v) k .nil) := by
  refine .inr ⟨_, _, rfl, hlo, by simp, by simp, by simp, ⟨a, c, by simp, ?_⟩, trivial⟩
  exact (hl.below ((Below.refl _ _).alloc (Nat.le_refl _) _)).mono (Nat.le_refl _) (by simp)
/-- Two kids, laid into a block of their own. -/
theorem kid2 {w : World} {lo : Nat} {s v s' v' : Int} {a a' : Option Addr} {c c' : Nat} {k k' : Fo} {T : TypeId} (hl : Sl w lo w.heap.size a k) (hl' : Sl w lo w.heap.size a' k') (hlo : lo ≤ w.heap.size) :
    Sl (w.alloc (.cells #[.int .i64 s, .int .i64 v, .slice a (flen k) c, .int .i64 s', .int .i64 v', .slice a' (flen k') c'] T)) lo
      (w.alloc (.cells #[.int .i64 s, .int .i64 v, .slice a (flen k) c, .int .i64 s', .int .i64 v', .slice a' (flen k') c'] T)).heap.size (some ⟨w.heap.size, 0, none⟩) (.node 0 0 (s, v) k (.node 0 0 (s', v') k' .nil)) := by
  refine .inr ⟨_, _, rfl, hlo, by simp, by simp, by simp, ⟨a, c, by simp, ?_⟩, ⟨hlo, by simp, by simp, by simp, ⟨a', c', by simp, ?_⟩, trivial⟩⟩
  · exact (hl.below ((Below.refl _ _).alloc (Nat.le_refl _) _)).mono (Nat.le_refl _) (by simp)
  · exact (hl'.below ((Below.refl _ _).alloc (Nat.le_refl _) _)).mono (Nat.le_refl _) (by simp)

set_option maxRecDepth 100000 in
set_option maxHeartbeats 1000000 in
theorem l71Term_any (D : Nat) : ∀ (deep vars : Int) (br p : Nat) (w : World), deep ≤ D → -1000 ≤ deep → D ≤ 20 → 1 ≤ vars → vars ≤ 1000 → Rd w br p → p + pkN D ≤ 100000000 →
    Calls Try.prog 35 #[.pointer (some ⟨br, 0, none⟩), .int .i64 deep, .int .i64 vars] w (DrawnPost br p (pkN D) (szN D) w) := by
  induction D with
  | zero =>
    intro deep vars br p w h1 h2 h3 h4 h5 hr hp
    have hpk : pkN 0 = 3 := rfl
    have HPK := Lib.hid hpk
    have hk3 : 3 ≤ pkN 0 := by omega
    clear hpk
    have e1 : decide (deep < 2) = true := by simp; omega
    have HR0 := Lib.hid hr
    have hlt := hr.lt
    have hr' := hr.alloc (.cells #[.int .i64 0, .int .i64 0, .slice none 0 0] 25)
    have HA : Hid (Adv (w.alloc (.cells #[.int .i64 0, .int .i64 0, .slice none 0 0] 25)) br p (w.alloc (.cells #[.int .i64 0, .int .i64 0, .slice none 0 0] 25))) := Adv.start hr' (Below.refl _ _)
    have HR := Lib.hid hr'
    clear hr hr'
    go_enter Try.func35, Try.ntmps35
    go_wp2_with fail
    with_reducible refine (pick_any 5 br (p) _ HR.out (by omega) (by omega) (by omega)).mono ?_
    rintro e w1 ⟨x, rfl, hx, hb⟩
    have ha : Adv (w.alloc (.cells #[.int .i64 0, .int .i64 0, .slice none 0 0] 25)) br (p + 1) w1 := HA.out.trans hb
    have hr1 := ha.rd (HR0.out.alloc _)
    have HA1 := Lib.hid ha
    have HR1 := Lib.hid hr1
    clear ha hb hr1
    by_cases hx0 : x = 0
    · subst hx0
      go_wp2_with fail
      with_reducible refine (l71Of_any 1 none 0 0 _).mono ?_
      rintro e w2 ⟨rfl, hb2⟩
      have ha2 := HA1.out.more hb2
      obtain ⟨hc0, hc1, hc2, hf0, hf1, hf2⟩ := res_cells ha2 hlt
      clear hb2
      go_wp2_with fail
      refine bodyPost_ret (v := .agg #[.int .i64 1, .int .i64 0, .slice none 0 0]) ?_ rfl (drawn_end (k := .nil) ha2 hlt (by omega) (by omega) (by simp [fsz, szN]) (.inl rfl))
      simp [results, Try.results35, go_sem, hc0, hc1, hc2]
    by_cases hx1 : x = 1
    · subst hx1
      go_wp2_with fail
      with_reducible refine (l71Of_any 2 none 0 0 _).mono ?_
      rintro e w2 ⟨rfl, hb2⟩
      have ha2 := HA1.out.more hb2
      obtain ⟨hc0, hc1, hc2, hf0, hf1, hf2⟩ := res_cells ha2 hlt
      clear hb2
      go_wp2_with fail
      refine bodyPost_ret (v := .agg #[.int .i64 2, .int .i64 0, .slice none 0 0]) ?_ rfl (drawn_end (k := .nil) ha2 hlt (by omega) (by omega) (by simp [fsz, szN]) (.inl rfl))
      simp [results, Try.results35, go_sem, hc0, hc1, hc2]
    have x0 : ((x : Int) == 0) = false := by simpa using hx0
    have x1 : ((x : Int) == 1) = false := by simp; omega
    go_wp2_with fail
    with_reducible refine (pick_any vars br (p + 1) _ HR1.out (by omega) (by omega) (by omega)).mono ?_
    rintro e w2 ⟨y, rfl, hy, hb2⟩
    have ha2 := HA1.out.trans hb2
    have HA2 := Lib.hid ha2
    clear ha2 hb2
    go_wp2_with fail
    with_reducible refine (l71Var_any y _).mono ?_
    rintro e w3 ⟨rfl, hb3⟩
    have ha3 := HA2.out.more hb3
    obtain ⟨hc0, hc1, hc2, hf0, hf1, hf2⟩ := res_cells ha3 hlt
    clear hb3
    go_wp2_with fail
    refine bodyPost_ret (v := .agg #[.int .i64 0, .int .i64 y, .slice none 0 0]) ?_ rfl (drawn_end (k := .nil) ha3 hlt (by omega) (by omega) (by simp [fsz, szN]) (.inl rfl))
    simp [results, Try.results35, go_sem, hc0, hc1, hc2]
  | succ D ih =>
    intro deep vars br p w h1 h2 h3 h4 h5 hr hp
    have hk3 : 2 * pkN D + 3 ≤ pkN (D + 1) := Nat.le_refl _
    have hs1 : 2 * szN D + 1 ≤ szN (D + 1) := Nat.le_refl _
    have hs0 := szN_pos D
    have hdm : deep ≤ 1000 := by omega
    have IH := Lib.hid ih
    clear ih
    have HR0 := Lib.hid hr
    have hlt := hr.lt
    have hr' := hr.alloc (.cells #[.int .i64 0, .int .i64 0, .slice none 0 0] 25)
    have HA : Hid (Adv (w.alloc (.cells #[.int .i64 0, .int .i64 0, .slice none 0 0] 25)) br p (w.alloc (.cells #[.int .i64 0, .int .i64 0, .slice none 0 0] 25))) := Adv.start hr' (Below.refl _ _)
    have HR := Lib.hid hr'
    clear hr hr'
    by_cases hd : deep < 2
    · have e1 : decide (deep < 2) = true := by simp; omega
      go_enter Try.func35, Try.ntmps35
      go_wp2_with fail
      with_reducible refine (pick_any 5 br (p) _ HR.out (by omega) (by omega) (by omega)).mono ?_
      rintro e w1 ⟨x, rfl, hx, hb⟩
      have ha : Adv (w.alloc (.cells #[.int .i64 0, .int .i64 0, .slice none 0 0] 25)) br (p + 1) w1 := HA.out.trans hb
      have hr1 := ha.rd (HR0.out.alloc _)
      have HA1 := Lib.hid ha
      have HR1 := Lib.hid hr1
      clear ha hb hr1
      by_cases hx0 : x = 0
      · subst hx0
        go_wp2_with fail
        with_reducible refine (l71Of_any 1 none 0 0 _).mono ?_
        rintro e w2 ⟨rfl, hb2⟩
        have ha2 := HA1.out.more hb2
        obtain ⟨hc0, hc1, hc2, hf0, hf1, hf2⟩ := res_cells ha2 hlt
        clear hb2
        go_wp2_with fail
        refine bodyPost_ret (v := .agg #[.int .i64 1, .int .i64 0, .slice none 0 0]) ?_ rfl (drawn_end (k := .nil) ha2 hlt (by omega) (by omega) (by simp only [fsz]; omega) (.inl rfl))
        simp [results, Try.results35, go_sem, hc0, hc1, hc2]
      by_cases hx1 : x = 1
      · subst hx1
        go_wp2_with fail
        with_reducible refine (l71Of_any 2 none 0 0 _).mono ?_
        rintro e w2 ⟨rfl, hb2⟩
        have ha2 := HA1.out.more hb2
        obtain ⟨hc0, hc1, hc2, hf0, hf1, hf2⟩ := res_cells ha2 hlt
        clear hb2
        go_wp2_with fail
        refine bodyPost_ret (v := .agg #[.int .i64 2, .int .i64 0, .slice none 0 0]) ?_ rfl (drawn_end (k := .nil) ha2 hlt (by omega) (by omega) (by simp only [fsz]; omega) (.inl rfl))
        simp [results, Try.results35, go_sem, hc0, hc1, hc2]
      have x0 : ((x : Int) == 0) = false := by simpa using hx0
      have x1 : ((x : Int) == 1) = false := by simp; omega
      go_wp2_with fail
      with_reducible refine (pick_any vars br (p + 1) _ HR1.out (by omega) (by omega) (by omega)).mono ?_
      rintro e w2 ⟨y, rfl, hy, hb2⟩
      have ha2 := HA1.out.trans hb2
      have HA2 := Lib.hid ha2
      clear ha2 hb2
      go_wp2_with fail
      with_reducible refine (l71Var_any y _).mono ?_
      rintro e w3 ⟨rfl, hb3⟩
      have ha3 := HA2.out.more hb3
      obtain ⟨hc0, hc1, hc2, hf0, hf1, hf2⟩ := res_cells ha3 hlt
      clear hb3
      go_wp2_with fail
      refine bodyPost_ret (v := .agg #[.int .i64 0, .int .i64 y, .slice none 0 0]) ?_ rfl (drawn_end (k := .nil) ha3 hlt (by omega) (by omega) (by simp only [fsz]; omega) (.inl rfl))
      simp [results, Try.results35, go_sem, hc0, hc1, hc2]
    have e1 : decide (deep < 2) = false := by simp; omega
    go_enter Try.func35, Try.ntmps35
    go_wp2_with fail
    with_reducible refine (pick_any 4 br p _ HR.out (by omega) (by omega) (by omega)).mono ?_
    rintro e w0 ⟨x4, rfl, hx4, hb0⟩
    have ha0 : Adv (w.alloc (.cells #[.int .i64 0, .int .i64 0, .slice none 0 0] 25)) br (p + 1) w0 := HA.out.trans hb0
    have hr0 := ha0.rd (HR0.out.alloc _)
    clear HA HR
    have HA := Lib.hid ha0
    have HR := Lib.hid hr0
    clear ha0 hr0 hb0 hx4
    by_cases hx : x4 = 0
    · subst hx
      go_wp2_with fail
      with_reducible refine (pick_any 5 br (p + 1) _ HR.out (by omega) (by omega) (by omega)).mono ?_
      rintro e w1 ⟨x, rfl, hx, hb⟩
      have ha : Adv (w.alloc (.cells #[.int .i64 0, .int .i64 0, .slice none 0 0] 25)) br (p + 1 + 1) w1 := HA.out.trans hb
      have hr1 := ha.rd (HR0.out.alloc _)
      have HA1 := Lib.hid ha
      have HR1 := Lib.hid hr1
      clear ha hb hr1
      by_cases hx0 : x = 0
      · subst hx0
        go_wp2_with fail
        with_reducible refine (l71Of_any 1 none 0 0 _).mono ?_
        rintro e w2 ⟨rfl, hb2⟩
        have ha2 := HA1.out.more hb2
        obtain ⟨hc0, hc1, hc2, hf0, hf1, hf2⟩ := res_cells ha2 hlt
        clear hb2
        go_wp2_with fail
        refine bodyPost_ret (v := .agg #[.int .i64 1, .int .i64 0, .slice none 0 0]) ?_ rfl (drawn_end (k := .nil) ha2 hlt (by omega) (by omega) (by simp only [fsz]; omega) (.inl rfl))
        simp [results, Try.results35, go_sem, hc0, hc1, hc2]
      by_cases hx1 : x = 1
      · subst hx1
        go_wp2_with fail
        with_reducible refine (l71Of_any 2 none 0 0 _).mono ?_
        rintro e w2 ⟨rfl, hb2⟩
        have ha2 := HA1.out.more hb2
        obtain ⟨hc0, hc1, hc2, hf0, hf1, hf2⟩ := res_cells ha2 hlt
        clear hb2
        go_wp2_with fail
        refine bodyPost_ret (v := .agg #[.int .i64 2, .int .i64 0, .slice none 0 0]) ?_ rfl (drawn_end (k := .nil) ha2 hlt (by omega) (by omega) (by simp only [fsz]; omega) (.inl rfl))
        simp [results, Try.results35, go_sem, hc0, hc1, hc2]
      have x0 : ((x : Int) == 0) = false := by simpa using hx0
      have x1 : ((x : Int) == 1) = false := by simp; omega
      go_wp2_with fail
      with_reducible refine (pick_any vars br (p + 1 + 1) _ HR1.out (by omega) (by omega) (by omega)).mono ?_
      rintro e w2 ⟨y, rfl, hy, hb2⟩
      have ha2 := HA1.out.trans hb2
      have HA2 := Lib.hid ha2
      clear ha2 hb2
      go_wp2_with fail
      with_reducible refine (l71Var_any y _).mono ?_
      rintro e w3 ⟨rfl, hb3⟩
      have ha3 := HA2.out.more hb3
      obtain ⟨hc0, hc1, hc2, hf0, hf1, hf2⟩ := res_cells ha3 hlt
      clear hb3
      go_wp2_with fail
      refine bodyPost_ret (v := .agg #[.int .i64 0, .int .i64 y, .slice none 0 0]) ?_ rfl (drawn_end (k := .nil) ha3 hlt (by omega) (by omega) (by simp only [fsz]; omega) (.inl rfl))
      simp [results, Try.results35, go_sem, hc0, hc1, hc2]
    have x0 : ((x4 : Int) == 0) = false := by simpa using hx
    go_wp2_with fail
    with_reducible refine (pick_any 5 br (p + 1) _ HR.out (by omega) (by omega) (by omega)).mono ?_
    rintro e w1 ⟨x, rfl, hx5, hb⟩
    have ha : Adv (w.alloc (.cells #[.int .i64 0, .int .i64 0, .slice none 0 0] 25)) br (p + 1 + 1) w1 := HA.out.trans hb
    have hr1 := ha.rd (HR0.out.alloc _)
    have hsz1 := ha.size
    simp at hsz1
    have HA1 := Lib.hid ha
    have HR1 := Lib.hid hr1
    clear ha hb hr1 HA HR
    by_cases hx2 : x < 2
    · have g2 : decide ((x : Int) < 2) = true := by simp; omega
      go_wp2_with fail
      with_reducible refine (IH.out (deep - 1) vars br (p + 1 + 1) _ (by omega) (by omega) (by omega) h4 h5 HR1.out (by omega)).mono ?_
      rintro e w2 ⟨s', v', a', c', k', p', rfl, hp1, hp2, hsz, ha2, hl2⟩
      have ha3 := HA1.out.trans ha2
      have hsz2 := ha2.size
      have HA3 := Lib.hid ha3
      have HL := Lib.hid (kid1 (T := 25) (s := s') (v := v') (c := c') (hl2.mono (lo' := w.heap.size + 1) (by omega) (Nat.le_refl _)) (by omega))
      clear ha2 hl2 ha3
      go_wp2_with fail
      with_reducible refine (l71Of_any 3 _ 1 1 _).mono ?_
      rintro e w3 ⟨rfl, hb3⟩
      have ha4 := (HA3.out.alloc _).more hb3
      have HL3 := Lib.hid ((HL.out.below hb3).mono (Nat.le_refl _) hb3.size)
      obtain ⟨hc0, hc1, hc2, hf0, hf1, hf2⟩ := res_cells ha4 hlt
      clear hb3
      go_wp2_with fail
      refine bodyPost_ret (v := .agg #[.int .i64 3, .int .i64 0, .slice (some ⟨w2.heap.size, 0, none⟩) 1 1]) ?_ rfl (drawn_end (k := .node 0 0 (s', v') k' .nil) ha4 hlt (by omega) (by omega) (by simp only [fsz]; omega) HL3.out)
      simp [results, Try.results35, go_sem, hc0, hc1, hc2]
    · have g2 : decide ((x : Int) < 2) = false := by simp; omega
      go_wp2_with fail
      with_reducible refine (IH.out (deep - 1) vars br (p + 1 + 1) _ (by omega) (by omega) (by omega) h4 h5 HR1.out (by omega)).mono ?_
      rintro e w2 ⟨s', v', a', c', k', p', rfl, hp1, hp2, hsz, ha2, hl2⟩
      have ha3 := HA1.out.trans ha2
      have hsz2 := ha2.size
      have hr2 := ha2.rd HR1.out
      have HR2 := Lib.hid hr2
      have HA3 := Lib.hid ha3
      have HL := Lib.hid (hl2.mono (lo' := w.heap.size + 1) (by omega) (Nat.le_refl _))
      clear ha2 hl2 ha3 hr2
      go_wp2_with fail
      with_reducible refine (IH.out (deep - 1) vars br p' _ (by omega) (by omega) (by omega) h4 h5 HR2.out (by omega)).mono ?_
      rintro e w3 ⟨s2, v2, a2, c2, k2, p2, rfl, hp3, hp4, hszb, ha4, hl4⟩
      have ha5 := HA3.out.trans ha4
      have hsz3 := ha4.size
      have HA5 := Lib.hid ha5
      have HLK := Lib.hid (kid2 (T := 25) (s := s') (v := v') (c := c') (s' := s2) (v' := v2) (c' := c2) ((HL.out.same (ha4.same (Nat.le_refl _) (.inl (by omega)))).mono (Nat.le_refl _) hsz3) (hl4.mono (lo' := w.heap.size + 1) (by omega) (Nat.le_refl _)) (by omega))
      clear ha4 hl4 ha5
      go_wp2_with fail
      with_reducible refine (l71Of_any 4 _ 2 2 _).mono ?_
      rintro e w4 ⟨rfl, hb3⟩
      have ha6 := (HA5.out.alloc _).more hb3
      have HL3 := Lib.hid ((HLK.out.below hb3).mono (Nat.le_refl _) hb3.size)
      obtain ⟨hc0, hc1, hc2, hf0, hf1, hf2⟩ := res_cells ha6 hlt
      clear hb3
      go_wp2_with fail
      refine bodyPost_ret (v := .agg #[.int .i64 4, .int .i64 0, .slice (some ⟨w3.heap.size, 0, none⟩) 2 2]) ?_ rfl (drawn_end (k := .node 0 0 (s', v') k' (.node 0 0 (s2, v2) k2 .nil)) ha6 hlt (by omega) (by omega) (by simp only [fsz]; omega) HL3.out)
      simp [results, Try.results35, go_sem, hc0, hc1, hc2]
end Go.Proofs.Ythbakmdcepoikaa
