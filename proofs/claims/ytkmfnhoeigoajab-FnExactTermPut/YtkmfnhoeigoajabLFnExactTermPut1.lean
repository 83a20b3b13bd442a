/- Several texts in one: C4t, PC. -/
import Derived.Test.YtkmfnhoeigoajabKVar7
import Derived.Test.YtkmfnhoeigoajabKVar14
import Derived.Test.YtkmfnhoeigoajabKVar15
import Derived.Test.YtkmfnhoeigoajabKVar9

/-! C4t: impl.TermPut: its answer is a tree of one's own. -/
namespace Go.Proofs.Ytkmfnhoeigoajab
open Go.RowKit Go.Deep
attribute [local go_sem ↓] Go.wp_at_zero Go.wp_at_succ

def PutPostT (s v : Int) (k : Fo) (place : List Int) (x : Int × Int × Fo) (w : World) (e : Ending) (w' : World) : Prop :=
  ∃ a c s' v' k' t, putR s v k place x = (s', v', k', t) ∧ e = .returned (.tuple #[.agg #[.int .i64 s', .int .i64 v', .slice a (flen k') c], .bool t]) ∧ Below w.heap.size w w' ∧ TX w' w.heap.size w'.heap.size a k'

theorem put_endT {w w1 : World} {s v s' v' : Int} {k k' : Fo} {t : Bool} {place : List Int} {x : Int × Int × Fo} {a : Option Addr} {c : Nat} (hr : putR s v k place x = (s', v', k', t)) (hb : Below w.heap.size w w1) (hl : TX w1 (w.heap.size + 3) w1.heap.size a k') (p q r : Value) :
    PutPostT s v k place x w (.returned (.tuple #[.agg #[.int .i64 s', .int .i64 v', .slice a (flen k') c], .bool t])) (((w1.setCell ⟨w.heap.size + 1 + 1, 0, none⟩ p).setCell ⟨w.heap.size + 1 + 1, 1, none⟩ q).setCell ⟨w.heap.size + 1 + 1, 2, none⟩ r) := by
  refine ⟨a, c, s', v', k', t, hr, rfl, ((hb.setCell (by simp; omega) _).setCell (by simp; omega) _).setCell (by simp; omega) _, ?_⟩
  have hs : Same (w.heap.size + 3) w1.heap.size w1 (((w1.setCell ⟨w.heap.size + 1 + 1, 0, none⟩ p).setCell ⟨w.heap.size + 1 + 1, 1, none⟩ q).setCell ⟨w.heap.size + 1 + 1, 2, none⟩ r) :=
    (((Same.setCell (fun _ _ _ => rfl) (.inl (by simp)) _).setCell (.inl (by simp)) _).setCell (.inl (by simp)) _)
  exact (hl.same hs).mono (by omega) (by simp)

set_option maxRecDepth 100000 in
set_option maxHeartbeats 1000000 in
theorem iTermPutT_any (s v : Int) (a : Option Addr) (c : Nat) (k : Fo) (pA : Option Addr) (pC : Nat) (place : List Int) (s2 v2 : Int) (a2 : Option Addr) (c2 : Nat) (k2 : Fo) (w : World) (hl : Sl w 0 w.heap.size a k) (hp : ISc w 0 w.heap.size pA pC place) (hpl : place.length ≤ 1048576) (hl2 : Sl w 0 w.heap.size a2 k2) :
    Calls Try.prog 11 #[.agg #[.int .i64 s, .int .i64 v, .slice a (flen k) c], .slice pA place.length pC, .agg #[.int .i64 s2, .int .i64 v2, .slice a2 (flen k2) c2]] w (PutPostT s v k place (s2, v2, k2) w) := by
  have HL := Lib.hid hl
  have HL2 := Lib.hid hl2
  have HP := Lib.hid hp
  clear hl hl2 hp
  have hb0 : Below w.heap.size w (((w.alloc (.cells #[.int .i64 s, .int .i64 v, .slice a (flen k) c] 25)).alloc (.cells #[.int .i64 s2, .int .i64 v2, .slice a2 (flen k2) c2] 25)).alloc (.cells #[.int .i64 0, .int .i64 0, .slice none 0 0] 25)) := (((Below.refl _ _).alloc (Nat.le_refl _) _).alloc (by simp) _).alloc (by simp; omega) _
  have HB0 := Lib.hid hb0
  clear hb0
  go_enter Try.func11, Try.ntmps11
  go_wp2_with fail
  with_reducible refine (nodeOf_any s v a c k 16 _ ?_ (by omega) (by omega)).mono ?_
  · exact (HL.out.below HB0.out).mono (Nat.le_refl _) HB0.out.size
  rintro e w2 ⟨nv, rfl, hb, hyes⟩
  have hs2 := hb.size
  simp at hs2
  have hb' := hb.mono (show w.heap.size + 3 ≤ _ by simp)
  obtain ⟨hc0, hc1, hc2⟩ := put_box hb'
  have HB2' := Lib.hid hb'
  have HB2 := Lib.hid (HB0.out.trans (hb.mono HB0.out.size))
  have HN : Hid (okW s v k 16 = true → NodeIs w2 0 w2.heap.size nv s v k) := fun h => (hyes h).mono (lo' := 0) (Nat.zero_le _) (Nat.le_refl _)
  clear hyes hb hb'
  go_wp2_with fail
  with_reducible refine (nodeOf_any s2 v2 a2 c2 k2 16 _ ?_ (by omega) (by omega)).mono ?_
  · exact (HL2.out.below HB2.out).mono (Nat.le_refl _) HB2.out.size
  rintro e w3 ⟨nv2, rfl, hb3, hyes2⟩
  have hs3 := hb3.size
  have hb3' := HB2'.out.trans (hb3.mono (show w.heap.size + 3 ≤ _ by omega))
  obtain ⟨hr0, hr1, hr2, hq0, hq1, hq2⟩ := put_cells hb3'
  have HB3' := Lib.hid hb3'
  have HB3 := Lib.hid (HB2.out.trans (hb3.mono (by omega)))
  have HN2 : Hid (okW s2 v2 k2 16 = true → NodeIs w3 0 w3.heap.size nv2 s2 v2 k2) := fun h => (hyes2 h).mono (lo' := 0) (Nat.zero_le _) (Nat.le_refl _)
  have HN1 : Hid (okW s v k 16 = true → NodeIs w3 0 w3.heap.size nv s v k) := fun h => ((HN.out h).below hb3).mono (Nat.le_refl _) hs3
  clear hyes2 hb3 hb3' HN hc0 hc1 hc2
  cases hok : okW s v k 16 with
  | false =>
    have HR : Hid (putR s v k place (s2, v2, k2) = (0, 0, .nil, false)) := by unfold Hid putR; rw [hok]; simp
    clear hok
    go_wp2_with fail
    refine bodyPost_ret (v := .tuple #[.agg #[.int .i64 0, .int .i64 0, .slice none 0 0], .bool false]) ?_ rfl (put_endT (k' := .nil) HR.out HB3.out ⟨.inl rfl, .inl rfl⟩ _ _ _)
    simp [results, Try.results11, go_sem, hr0, hr1, hr2]
  | true =>
    cases hok2 : okW s2 v2 k2 16 with
    | false =>
      have HR : Hid (putR s v k place (s2, v2, k2) = (0, 0, .nil, false)) := by unfold Hid putR; simp [hok2]
      clear hok hok2
      go_wp2_with fail
      refine bodyPost_ret (v := .tuple #[.agg #[.int .i64 0, .int .i64 0, .slice none 0 0], .bool false]) ?_ rfl (put_endT (k' := .nil) HR.out HB3.out ⟨.inl rfl, .inl rfl⟩ _ _ _)
      simp [results, Try.results11, go_sem, hr0, hr1, hr2]
    | true =>
      have HNA := Lib.hid (HN1.out hok)
      have HNB := Lib.hid (HN2.out hok2)
      have HOK := Lib.hid hok
      have HOK2 := Lib.hid hok2
      have hsz := ((okW_iff _ _ _ _).1 hok).2.2
      have hsz2 := ((okW_iff _ _ _ _).1 hok2).2.2
      clear hok hok2 HN1 HN2 hr0 hr1 hr2 hq0 hq1 hq2
      obtain ⟨ty, vv, rfl⟩ : ∃ ty vv, nv = .iface ty vv := by
        rcases HNA.out with ⟨_, _, rfl⟩ | ⟨_, _, _, rfl, _⟩
        · exact ⟨_, _, rfl⟩
        · exact ⟨_, _, rfl⟩
      obtain ⟨ty2, vv2, rfl⟩ : ∃ ty vv, nv2 = .iface ty vv := by
        rcases HNB.out with ⟨_, _, rfl⟩ | ⟨_, _, _, rfl, _⟩
        · exact ⟨_, _, rfl⟩
        · exact ⟨_, _, rfl⟩
      go_wp2_with fail
      with_reducible refine (nodePut_any (s2, v2, k2) place s v k _ _ pA pC _ HNA.out HNB.out ?_ hpl (by omega)).mono ?_
      · exact (HP.out.same (Same.of_below HB3.out)).mono (Nat.le_refl _) HB3.out.size
      rintro e w4 ⟨nv', t4, rfl, hb4, hcase⟩
      have hs4 := hb4.size
      have HB4' := Lib.hid (HB3'.out.trans (hb4.mono (by omega)))
      have HB4 := Lib.hid (HB3.out.trans (hb4.mono (by omega)))
      clear hb4
      rcases hcase with ⟨s', v', k', hf, rfl, hn'⟩ | ⟨hf, rfl⟩
      · have h1 := (okW_iff _ _ _ _).1 HOK.out
        have h2 := (okW_iff _ _ _ _).1 HOK2.out
        have hfo := fput_ok place s v k _ h1.1 h1.2.1 h2.1 h2.2.1 hf
        have hfs : fsz k' ≤ 1000 := by
          have hth := fput_there place s v k (s2, v2, k2)
          rw [hf] at hth
          obtain ⟨⟨s0, v0, k0⟩, h0⟩ := Option.isSome_iff_exists.1 hth.symm
          have := fput_sz place s v k _ hf h0
          dsimp only at this
          omega
        by_cases hbig : 1 + fsz k' ≤ 16
        · have e1 : decide ((16 : Int) < 1 + (fsz k' : Int)) = false := decide_eq_false (by omega)
          have HR : Hid (putR s v k place (s2, v2, k2) = (s', v', k', true)) := putR_some HOK.out HOK2.out hf hbig
          clear h1 h2 hf
          rcases hn' with ⟨rfl, rfl, rfl⟩ | ⟨hs', a5, c5, rfl, hn2⟩
          · clear hfo e1
            go_wp2_with fail
            refine upon_method 114 (by kernel_rfl) (by kernel_rfl) ?_
            go_simp
            with_reducible refine (varSize_any v' _).mono ?_
            rintro e w5 ⟨rfl, rfl⟩
            go_wp2_with fail
            refine upon_method 115 (by kernel_rfl) (by kernel_rfl) ?_
            go_simp
            with_reducible refine (varTermT_any v' _).mono ?_
            rintro e w6 ⟨a6, c6, rfl, hb6, hl6⟩
            have hs6 := hb6.size
            obtain ⟨hr0, hr1, hr2, hq0, hq1, hq2⟩ := put_cells (HB4'.out.trans (hb6.mono (by omega)))
            have HB6 := Lib.hid (HB4.out.trans (hb6.mono (by omega)))
            have HL6 := Lib.hid (hl6.mono (lo' := w.heap.size + 3) (by omega) (Nat.le_refl _))
            clear hb6 hl6
            go_wp2_with fail
            refine bodyPost_ret (v := .tuple #[.agg #[.int .i64 0, .int .i64 v', .slice a6 (flen .nil) c6], .bool true]) ?_ rfl (put_endT HR.out HB6.out HL6.out _ _ _)
            simp [results, Try.results11, go_sem, hr0, hr1, hr2]
          · have hv0 : v' = 0 := ((okN_iff _ _ _).1 hfo.1).2.2 hs'
            subst hv0
            have HKK := Lib.hid hfo.2
            have HNS := Lib.hid hn2
            clear hn2 hfo
            go_wp2_with fail
            refine upon_method 103 (by kernel_rfl) (by kernel_rfl) ?_
            go_simp
            with_reducible refine (symSize_any (fsz k') s' a5 c5 k' _ HNS.out (Nat.le_refl _) (by omega)).mono ?_
            rintro e w5 ⟨rfl, hb5⟩
            have hs5 := hb5.size
            have HNS5 := Lib.hid ((HNS.out.below hb5).mono (lo' := 0) (Nat.le_refl _) hs5)
            have HB5' := Lib.hid (HB4'.out.trans (hb5.mono (by omega)))
            have HB5 := Lib.hid (HB4.out.trans (hb5.mono (by omega)))
            clear hb5
            go_wp2_with fail
            refine upon_method 104 (by kernel_rfl) (by kernel_rfl) ?_
            go_simp
            with_reducible refine (symTermT_any (fsz k') s' a5 c5 k' _ HNS5.out HKK.out (Nat.le_refl _) (by omega)).mono ?_
            rintro e w6 ⟨a6, c6, rfl, hb6, hl6⟩
            have hs6 := hb6.size
            obtain ⟨hr0, hr1, hr2, hq0, hq1, hq2⟩ := put_cells (HB5'.out.trans (hb6.mono (by omega)))
            have HB6 := Lib.hid (HB5.out.trans (hb6.mono (by omega)))
            have HL6 := Lib.hid (hl6.mono (lo' := w.heap.size + 3) (by omega) (Nat.le_refl _))
            clear hb6 hl6
            go_wp2_with fail
            refine bodyPost_ret (v := .tuple #[.agg #[.int .i64 s', .int .i64 0, .slice a6 (flen k') c6], .bool true]) ?_ rfl (put_endT HR.out HB6.out HL6.out _ _ _)
            simp [results, Try.results11, go_sem, hr0, hr1, hr2]
        · have e1 : decide ((16 : Int) < 1 + (fsz k' : Int)) = true := decide_eq_true (by omega)
          have HR : Hid (putR s v k place (s2, v2, k2) = (0, 0, .nil, false)) := by unfold Hid putR; rw [if_pos ⟨HOK.out, HOK2.out⟩, hf]; dsimp only; rw [if_neg hbig]
          clear h1 h2 hf hfo
          rcases hn' with ⟨rfl, rfl, rfl⟩ | ⟨hs', a5, c5, rfl, hn2⟩
          · simp [fsz] at hbig
          · have HNS := Lib.hid hn2
            clear hn2
            go_wp2_with fail
            refine upon_method 103 (by kernel_rfl) (by kernel_rfl) ?_
            go_simp
            with_reducible refine (symSize_any (fsz k') s' a5 c5 k' _ HNS.out (Nat.le_refl _) (by omega)).mono ?_
            rintro e w5 ⟨rfl, hb5⟩
            have hs5 := hb5.size
            obtain ⟨hr0, hr1, hr2, hq0, hq1, hq2⟩ := put_cells (HB4'.out.trans (hb5.mono (by omega)))
            have HB5 := Lib.hid (HB4.out.trans (hb5.mono (by omega)))
            clear hb5
            go_wp2_with fail
            refine bodyPost_ret (v := .tuple #[.agg #[.int .i64 0, .int .i64 0, .slice none 0 0], .bool false]) ?_ rfl (put_endT (k' := .nil) HR.out HB5.out ⟨.inl rfl, .inl rfl⟩ _ _ _)
            simp [results, Try.results11, go_sem, hr0, hr1, hr2]
      · have HR : Hid (putR s v k place (s2, v2, k2) = (0, 0, .nil, false)) := by unfold Hid putR; rw [if_pos ⟨HOK.out, HOK2.out⟩, hf]
        obtain ⟨hr0, hr1, hr2, hq0, hq1, hq2⟩ := put_cells HB4'.out
        clear hf
        go_wp2_with fail
        refine bodyPost_ret (v := .tuple #[.agg #[.int .i64 0, .int .i64 0, .slice none 0 0], .bool false]) ?_ rfl (put_endT (k' := .nil) HR.out HB4.out ⟨.inl rfl, .inl rfl⟩ _ _ _)
        simp [results, Try.results11, go_sem, hr0, hr1, hr2]
end Go.Proofs.Ytkmfnhoeigoajab

/-! PC: Regions of several calls in which a new box is made at any time: what is kept from call to call. -/
namespace Go.Proofs.Ytkmfnhoeigoajab
open Go.RowKit Go.Deep

structure PutCut (w0 wx : World) (g : Nat) (a : Option Addr) (c : Nat) (s v : Int) (k : Fo) : Prop where
  below : Below w0.heap.size w0 wx
  lo : w0.heap.size ≤ g
  hi : g < wx.heap.size
  c0 : wx.cell? ⟨g, 0, none⟩ = some (.int .i64 s)
  c1 : wx.cell? ⟨g, 1, none⟩ = some (.int .i64 v)
  c2 : wx.cell? ⟨g, 2, none⟩ = some (.slice a (flen k) c)
  sl : Sl wx 0 wx.heap.size a k
theorem PutCut.cells {w0 wx w' : World} {g : Nat} {a : Option Addr} {c : Nat} {s v : Int} {k : Fo} (h : PutCut w0 wx g a c s v k) (hb : Below wx.heap.size wx w') :
    w'.cell? ⟨g, 0, none⟩ = some (.int .i64 s) ∧ w'.cell? ⟨g, 1, none⟩ = some (.int .i64 v) ∧ w'.cell? ⟨g, 2, none⟩ = some (.slice a (flen k) c) :=
  ⟨cell_lowX hb h.c0, cell_lowX hb h.c1, cell_lowX hb h.c2⟩

theorem pc_one {W : World} {o : Obj} : Below W.heap.size W (W.alloc o) := (Below.refl _ _).alloc (Nat.le_refl _) o
theorem pc_tr {W0 W w2 : World} (h : Below W0.heap.size W0 W) (h2 : Below W.heap.size W w2) : Below W0.heap.size W0 w2 := h.trans (h2.mono h.size)
theorem pc_al {W0 W : World} {o : Obj} (h : Below W0.heap.size W0 W) : Below W0.heap.size W0 (W.alloc o) := h.alloc h.size o
theorem pc_sl {W0 W : World} {a : Option Addr} {k : Fo} (h : Sl W0 0 W0.heap.size a k) (hb : Below W0.heap.size W0 W) : Sl W 0 W.heap.size a k := (h.below hb).mono (Nat.le_refl _) hb.size
theorem pc_il {W0 W : World} {a : Option Addr} {xs : List Int} (h : ISl W0 0 W0.heap.size a xs) (hb : Below W0.heap.size W0 W) : ISl W 0 W.heap.size a xs := (h.below hb).mono (Nat.le_refl _) hb.size
theorem pc_ic {W0 W : World} {a : Option Addr} {c : Nat} {xs : List Int} (h : ISc W0 0 W0.heap.size a c xs) (hb : Below W0.heap.size W0 W) : ISc W 0 W.heap.size a c xs := (h.same (Same.of_below hb)).mono (Nat.le_refl _) hb.size
theorem pc_own {W : World} {base : Nat} {a : Option Addr} {c : Nat} {xs : List Int} (h : IOwn W base xs a c) : ISc W 0 W.heap.size a c xs := (isc_of_own h).mono (Nat.zero_le _) (Nat.le_refl _)
theorem pc_zero {W : World} {lo : Nat} {a : Option Addr} {k : Fo} (h : Sl W lo W.heap.size a k) : Sl W 0 W.heap.size a k := h.mono (Nat.zero_le _) (Nat.le_refl _)
theorem pc_lt {W : World} {o : Obj} : W.heap.size < (W.alloc o).heap.size := by simp

/-- A box of zeros. -/
structure PB (W : World) (g : Nat) : Prop where
  lt : g < W.heap.size
  c0 : W.cell? ⟨g, 0, none⟩ = some (.int .i64 0)
  c1 : W.cell? ⟨g, 1, none⟩ = some (.int .i64 0)
  c2 : W.cell? ⟨g, 2, none⟩ = some (.slice none 0 0)
  f0 : W.frozen? ⟨g, 0, none⟩ = false
  f1 : W.frozen? ⟨g, 1, none⟩ = false
  f2 : W.frozen? ⟨g, 2, none⟩ = false
theorem PB.keep {W w2 : World} {g : Nat} (h : PB W g) (hb : Below W.heap.size W w2) : PB w2 g :=
  ⟨Nat.lt_of_lt_of_le h.lt hb.size, cell_lowX hb h.c0, cell_lowX hb h.c1, cell_lowX hb h.c2, by rw [hb.frozen h.lt]; exact h.f0, by rw [hb.frozen h.lt]; exact h.f1, by rw [hb.frozen h.lt]; exact h.f2⟩
theorem pc_new {W : World} {T : TypeId} : PB (W.alloc (.cells #[.int .i64 0, .int .i64 0, .slice none 0 0] T)) W.heap.size := by
  refine ⟨by simp, ?_, ?_, ?_, ?_, ?_, ?_⟩
  · rw [World.cell?_alloc_at _ _ _ _ rfl]; rfl
  · rw [World.cell?_alloc_at _ _ _ _ rfl]; rfl
  · rw [World.cell?_alloc_at _ _ _ _ rfl]; rfl
  · rw [World.frozen?_alloc_at _ _ _ _ rfl]
  · rw [World.frozen?_alloc_at _ _ _ _ rfl]
  · rw [World.frozen?_alloc_at _ _ _ _ rfl]

theorem pc_set {W0 W : World} {g : Nat} {x y z : Value} (h : Below W0.heap.size W0 W) (hg : W0.heap.size ≤ g) : Below W0.heap.size W0 (((W.setCell ⟨g, 0, none⟩ x).setCell ⟨g, 1, none⟩ y).setCell ⟨g, 2, none⟩ z) :=
  ((h.setCell hg _).setCell hg _).setCell hg _
theorem pc_finS {W0 W : World} {g lo : Nat} {a : Option Addr} {c : Nat} {s v : Int} {k : Fo} (h : Below W0.heap.size W0 W) (hg : W0.heap.size ≤ g) (hq : PB W g) (hlo : g < lo) (hl : Sl W lo W.heap.size a k) :
    PutCut W0 (((W.setCell ⟨g, 0, none⟩ (.int .i64 s)).setCell ⟨g, 1, none⟩ (.int .i64 v)).setCell ⟨g, 2, none⟩ (.slice a (flen k) c)) g a c s v k := by
  have hs : Same lo W.heap.size W (((W.setCell ⟨g, 0, none⟩ (.int .i64 s)).setCell ⟨g, 1, none⟩ (.int .i64 v)).setCell ⟨g, 2, none⟩ (.slice a (flen k) c)) :=
    (((Same.setCell (fun _ _ _ => rfl) (.inl hlo) _).setCell (.inl hlo) _).setCell (.inl hlo) _)
  refine ⟨pc_set h hg, hg, by simpa using hq.lt, ?_, ?_, ?_, (hl.same hs).mono (Nat.zero_le _) (by simp)⟩
  · rw [World.cell?_setCell_other _ _ _ _ (by simp), World.cell?_setCell_other _ _ _ _ (by simp)]
    exact World.cell?_setCell_same _ _ _ hq.c0
  · rw [World.cell?_setCell_other _ _ _ _ (by simp)]
    exact World.cell?_setCell_same _ _ _ ((World.cell?_setCell_other _ _ _ _ (by simp)).trans hq.c1)
  · exact World.cell?_setCell_same _ _ _ ((World.cell?_setCell_other _ _ _ _ (by simp)).trans ((World.cell?_setCell_other _ _ _ _ (by simp)).trans hq.c2))
theorem pc_finA {W0 W : World} {lo : Nat} {a : Option Addr} {c : Nat} {s v : Int} {k : Fo} {T : TypeId} (h : Below W0.heap.size W0 W) (hl : Sl W lo W.heap.size a k) :
    PutCut W0 (W.alloc (.cells #[.int .i64 s, .int .i64 v, .slice a (flen k) c] T)) W.heap.size a c s v k := by
  refine ⟨pc_al h, h.size, by simp, ?_, ?_, ?_, pc_sl (pc_zero hl) pc_one⟩
  · rw [World.cell?_alloc_at _ _ _ _ rfl]; rfl
  · rw [World.cell?_alloc_at _ _ _ _ rfl]; rfl
  · rw [World.cell?_alloc_at _ _ _ _ rfl]; rfl

/-- The cells of two boxes that a region looks at. -/
structure Six (W : World) (n : Nat) (x y z x' y' z' : Value) : Prop where
  a0 : W.cell? ⟨n, 0, none⟩ = some x
  a1 : W.cell? ⟨n, 1, none⟩ = some y
  a2 : W.cell? ⟨n, 2, none⟩ = some z
  b0 : W.cell? ⟨n + 1, 0, none⟩ = some x'
  b1 : W.cell? ⟨n + 1, 1, none⟩ = some y'
  b2 : W.cell? ⟨n + 1, 2, none⟩ = some z'
theorem Six.on {W w' : World} {n : Nat} {x y z x' y' z' : Value} (h : Six W n x y z x' y' z') (hb : Below W.heap.size W w') :
    w'.cell? ⟨n, 0, none⟩ = some x ∧ w'.cell? ⟨n, 1, none⟩ = some y ∧ w'.cell? ⟨n, 2, none⟩ = some z ∧ w'.cell? ⟨n + 1, 0, none⟩ = some x' ∧ w'.cell? ⟨n + 1, 1, none⟩ = some y' ∧ w'.cell? ⟨n + 1, 2, none⟩ = some z' :=
  ⟨cell_lowX hb h.a0, cell_lowX hb h.a1, cell_lowX hb h.a2, cell_lowX hb h.b0, cell_lowX hb h.b1, cell_lowX hb h.b2⟩
end Go.Proofs.Ytkmfnhoeigoajab
