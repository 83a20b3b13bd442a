/- Several texts in one: B1, B2, B4, B5, B6. -/
import Derived.Test.YtiinmlagcbjloaaGreatKAll17
import Derived.Test.YtiinmlagcbjloaaGreatKAll16
import Derived.Deep.RegionHeld3
import Derived.Deep.DrawnRows

/-! B1: spec.l1At: kid by kid. -/
namespace Go.Proofs.YtiinmlagcbjloaaGreat
open Go.RowKit Go.Deep
attribute [local go_sem ↓] Go.wp_at_zero Go.wp_at_succ

/-- What holds at the head of l1At's loop: the box holds the part. -/
structure LaAt (w : World) (s v : Int) (a : Option Addr) (c : Nat) (k : Fo) (wr : World) : Prop where
  below : Below w.heap.size w wr
  size : w.heap.size + 2 ≤ wr.heap.size
  b0 : wr.cell? ⟨w.heap.size, 0, none⟩ = some (.int .i64 s)
  b1 : wr.cell? ⟨w.heap.size, 1, none⟩ = some (.int .i64 v)
  b2 : wr.cell? ⟨w.heap.size, 2, none⟩ = some (.slice a (flen k) c)
  f0 : wr.frozen? ⟨w.heap.size, 0, none⟩ = false
  f1 : wr.frozen? ⟨w.heap.size, 1, none⟩ = false
  f2 : wr.frozen? ⟨w.heap.size, 2, none⟩ = false
  r0 : wr.cell? ⟨w.heap.size + 1, 0, none⟩ = some (.int .i64 0)
  r1 : wr.cell? ⟨w.heap.size + 1, 1, none⟩ = some (.int .i64 0)
  r2 : wr.cell? ⟨w.heap.size + 1, 2, none⟩ = some (.slice none 0 0)
  q0 : wr.frozen? ⟨w.heap.size + 1, 0, none⟩ = false
  q1 : wr.frozen? ⟨w.heap.size + 1, 1, none⟩ = false
  q2 : wr.frozen? ⟨w.heap.size + 1, 2, none⟩ = false
  sl : Sl w 0 w.heap.size a k

theorem LaAt.start {w : World} {s v : Int} {a : Option Addr} {c : Nat} {k : Fo} (hl : Sl w 0 w.heap.size a k) : LaAt w s v a c k ((w.alloc (.cells #[.int .i64 s, .int .i64 v, .slice a (flen k) c] 26)).alloc (.cells #[.int .i64 0, .int .i64 0, .slice none 0 0] 26)) := by
  refine ⟨((Below.refl _ _).alloc (Nat.le_refl _) _).alloc (by simp) _, by simp, ?_, ?_, ?_, ?_, ?_, ?_, ?_, ?_, ?_, ?_, ?_, ?_, hl⟩
  · rw [World.cell?_alloc_lt _ _ _ (by simp), World.cell?_alloc_at _ _ _ _ (by simp)]; rfl
  · rw [World.cell?_alloc_lt _ _ _ (by simp), World.cell?_alloc_at _ _ _ _ (by simp)]; rfl
  · rw [World.cell?_alloc_lt _ _ _ (by simp), World.cell?_alloc_at _ _ _ _ (by simp)]; rfl
  · rw [World.frozen?_alloc_past _ _ _ (by simp), World.frozen?_alloc_at _ _ _ _ (by simp)]
  · rw [World.frozen?_alloc_past _ _ _ (by simp), World.frozen?_alloc_at _ _ _ _ (by simp)]
  · rw [World.frozen?_alloc_past _ _ _ (by simp), World.frozen?_alloc_at _ _ _ _ (by simp)]
  · rw [World.cell?_alloc_at _ _ _ _ (by simp)]; rfl
  · rw [World.cell?_alloc_at _ _ _ _ (by simp)]; rfl
  · rw [World.cell?_alloc_at _ _ _ _ (by simp)]; rfl
  · rw [World.frozen?_alloc_at _ _ _ _ (by simp)]
  · rw [World.frozen?_alloc_at _ _ _ _ (by simp)]
  · rw [World.frozen?_alloc_at _ _ _ _ (by simp)]
theorem LaAt.low {w wr w2 : World} {s v : Int} {a : Option Addr} {c : Nat} {k : Fo} (h : LaAt w s v a c k wr) (hb : Below wr.heap.size wr w2) : LaAt w s v a c k w2 := by
  have hs := h.size
  have hc : ∀ {q : Addr} {u : Value}, wr.cell? q = some u → w2.cell? q = some u := fun hq => by rw [hb.cell (World.block_lt_of_cell? _ _ hq)]; exact hq
  have hf : ∀ {q : Addr}, q.block < w.heap.size + 2 → wr.frozen? q = false → w2.frozen? q = false := fun hlt hq => by rw [hb.frozen (by omega)]; exact hq
  exact ⟨h.below.trans (hb.mono (by omega)), Nat.le_trans hs hb.size, hc h.b0, hc h.b1, hc h.b2, hf (by simp) h.f0, hf (by simp) h.f1, hf (by simp) h.f2, hc h.r0, hc h.r1, hc h.r2, hf (by simp) h.q0, hf (by simp) h.q1, hf (by simp) h.q2, h.sl⟩
theorem LaAt.step {w wr : World} {s v s' v' : Int} {a a' : Option Addr} {c c' : Nat} {k k' : Fo} (h : LaAt w s v a c k wr) (hl : Sl w 0 w.heap.size a' k') :
    LaAt w s' v' a' c' k' (((wr.setCell ⟨w.heap.size, 0, none⟩ (.int .i64 s')).setCell ⟨w.heap.size, 1, none⟩ (.int .i64 v')).setCell ⟨w.heap.size, 2, none⟩ (.slice a' (flen k') c')) := by
  have hc : ∀ {q : Addr} {u : Value}, wr.cell? q = some u → q.block ≠ w.heap.size → (((wr.setCell ⟨w.heap.size, 0, none⟩ (.int .i64 s')).setCell ⟨w.heap.size, 1, none⟩ (.int .i64 v')).setCell ⟨w.heap.size, 2, none⟩ (.slice a' (flen k') c')).cell? q = some u := fun {q u} hq hne => by
    rw [World.cell?_setCell_other _ _ _ _ (by intro e; exact hne (congrArg Addr.block e).symm), World.cell?_setCell_other _ _ _ _ (by intro e; exact hne (congrArg Addr.block e).symm), World.cell?_setCell_other _ _ _ _ (by intro e; exact hne (congrArg Addr.block e).symm)]
    exact hq
  have hf : ∀ {q : Addr}, wr.frozen? q = false → (((wr.setCell ⟨w.heap.size, 0, none⟩ (.int .i64 s')).setCell ⟨w.heap.size, 1, none⟩ (.int .i64 v')).setCell ⟨w.heap.size, 2, none⟩ (.slice a' (flen k') c')).frozen? q = false := fun {q} hq => by
    rw [World.frozen?_setCell, World.frozen?_setCell, World.frozen?_setCell]
    exact hq
  refine ⟨((h.below.setCell (Nat.le_refl _) _).setCell (Nat.le_refl _) _).setCell (Nat.le_refl _) _, by simpa using h.size, ?_, ?_, ?_, hf h.f0, hf h.f1, hf h.f2, hc h.r0 (by simp), hc h.r1 (by simp), hc h.r2 (by simp), hf h.q0, hf h.q1, hf h.q2, hl⟩
  · rw [World.cell?_setCell_other _ _ _ _ (by intro h; have := congrArg Addr.off h; simp at this), World.cell?_setCell_other _ _ _ _ (by intro h; have := congrArg Addr.off h; simp at this)]
    exact World.cell?_setCell_same _ _ _ h.b0
  · rw [World.cell?_setCell_other _ _ _ _ (by intro h; have := congrArg Addr.off h; simp at this)]
    exact World.cell?_setCell_same _ _ _ (show World.cell? _ ⟨w.heap.size, 1, none⟩ = some (.int .i64 v) from by rw [World.cell?_setCell_other _ _ _ _ (by intro h; have := congrArg Addr.off h; simp at this)]; exact h.b1)
  · exact World.cell?_setCell_same _ _ _ (show World.cell? _ ⟨w.heap.size, 2, none⟩ = some (.slice a (flen k) c) from by rw [World.cell?_setCell_other _ _ _ _ (by intro h; have := congrArg Addr.off h; simp at this), World.cell?_setCell_other _ _ _ _ (by intro h; have := congrArg Addr.off h; simp at this)]; exact h.b2)

def LatPost (s v : Int) (k : Fo) (place : List Int) (w : World) (e : Ending) (w' : World) : Prop :=
  Below w.heap.size w w' ∧ ((∃ s' v' k' a c, fat s v k place = some (s', v', k') ∧ e = .returned (.tuple #[.agg #[.int .i64 s', .int .i64 v', .slice a (flen k') c], .bool true]) ∧ Sl w 0 w.heap.size a k') ∨
    (fat s v k place = none ∧ e = .returned (.tuple #[.agg #[.int .i64 0, .int .i64 0, .slice none 0 0], .bool false])))

theorem lat_low {w w1 : World} (hb : Below w.heap.size w w1) (x y z : Value) : Below w.heap.size w (((w1.setCell ⟨w.heap.size + 1, 0, none⟩ x).setCell ⟨w.heap.size + 1, 1, none⟩ y).setCell ⟨w.heap.size + 1, 2, none⟩ z) :=
  ((hb.setCell (by simp) _).setCell (by simp) _).setCell (by simp) _

set_option maxRecDepth 100000 in
set_option maxHeartbeats 1000000 in
theorem l1At_any (s v : Int) (a : Option Addr) (c : Nat) (k : Fo) (pA : Option Addr) (pC : Nat) (place : List Int) (w : World) (hl : Sl w 0 w.heap.size a k) (hp : ISl w 0 w.heap.size pA place) (hpl : place.length ≤ 1048576) (hsz : fsz k ≤ 1048576) :
    Calls Tryz.prog 32 #[.agg #[.int .i64 s, .int .i64 v, .slice a (flen k) c], .slice pA place.length pC] w (LatPost s v k place w) := by
  have HST := Lib.hid (LaAt.start (s := s) (v := v) (c := c) hl)
  have HP := Lib.hid hp
  clear hl hp
  go_enter Tryz.func32, Tryz.ntmps32
  go_wp2_with fail
  go_loopw [6] (fun i wr => ∃ (j : Nat) (s' v' : Int) (a' : Option Addr) (c' : Nat) (k' : Fo), j ≤ place.length ∧ i = .int .i64 j ∧ Hid (fat s v k place = fat s' v' k' (place.drop j)) ∧ fsz k' ≤ 1048576 ∧ LaAt w s' v' a' c' k' wr) (fun i _ => place.length - (intOf i).toNat)
  case atStart => exact ⟨0, s, v, a, c, k, by omega, rfl, by simp [Hid], hsz, HST.out⟩
  case round =>
    clear HST
    obtain ⟨j, s', v', a', c', k', hj, rfl, hf, hsz', hat⟩ := hrel
    have hsr := hat.size
    have hfl := flen_le_sz k'
    by_cases hlt : j < place.length
    · obtain ⟨b, o, rfl, _, hbB, hc⟩ := isl_get (HP.out.below hat.below) hlt
      have hdr : place.drop j = place[j] :: place.drop (j + 1) := List.drop_eq_getElem_cons hlt
      rw [hdr] at hf
      generalize place[j] = x at hc hf
      have hb2 := hat.b2
      have g1 : (0 : Int) ≤ (j : Int) := by omega
      have g2 : (j : Int) < (place.length : Int) := by omega
      have HF := Lib.hid hf.out
      have HAT := Lib.hid hat
      clear hf hat hdr
      have hu0 : ∀ u : After wr.heap.size wr, u.world.cell? ⟨b, o + j, none⟩ = some (.int .i64 x) := fun u => u.cell (by simp; omega) hc
      have hu1 : ∀ u : After wr.heap.size wr, u.world.cell? ⟨w.heap.size, 2, none⟩ = some (.slice a' (flen k') c') := fun u => u.cell (by simp; omega) hb2
      by_cases hx : 0 ≤ x ∧ x ≤ (flen k' : Int) - 1
      · have hxd : decide (0 ≤ x ∧ x ≤ (flen k' : Int) - 1) = true := by simpa using hx
        go_wp2_with fail
        refine wp_region_after wr.heap.size (by kernel_rfl) (by kernel_rfl) ?_
        repeat (go_big_quiet_step ((go_at_call 26; exact Calls.after_same (l6In_is hxd))))
        refine wpQuiet_nil ?_
        rintro w3 ⟨⟨_, hu⟩, rfl⟩
        have HAT3 := Lib.hid (HAT.out.low hu)
        have hc3 : w3.cell? ⟨b, o + j, none⟩ = some (.int .i64 x) := cell_low hu hc
        clear hu0 hu1 hc hb2 HAT hu
        clear hxd
        obtain ⟨q, rfl⟩ : ∃ q : Nat, x = q := ⟨x.toNat, by omega⟩
        have hq : q < flen k' := by omega
        have hslw := HAT3.out.sl
        obtain ⟨bk, ok, rfl⟩ : ∃ bk ok, a' = some ⟨bk, ok, none⟩ := by
          rcases hslw with rfl | ⟨b, o, rfl, _⟩
          · simp [flen] at hq
          · exact ⟨_, _, rfl⟩
        have hrow : Row w 0 w.heap.size k' bk ok := by
          rcases hslw with rfl | ⟨b, o, e, h⟩
          · simp [flen] at hq
          · cases e; exact h
        obtain ⟨s2, v2, kk, a2, c2, ⟨x2, y2, hd⟩, _, hbB2, hm0, hm1, hm2, hsl⟩ := row_at hrow hq
        have HE : Hid (fat s v k place = fat s2 v2 kk (place.drop (j + 1))) := by
          rw [Hid, HF.out]; simp only [fat]; rw [if_pos (by omega)]
          simp only [Int.toNat_natCast, hd]
        have hks := fsz_kid hd
        have hbw := HAT3.out.below
        have hs3 := HAT3.out.size
        have hn0 : w3.cell? ⟨bk, ok + q * 3, none⟩ = some (.int .i64 s2) := by rw [hbw.cell (by simp; omega)]; exact hm0
        have hn1 : w3.cell? ⟨bk, ok + q * 3 + 1, none⟩ = some (.int .i64 v2) := by rw [hbw.cell (by simp; omega)]; exact hm1
        have hn2 : w3.cell? ⟨bk, ok + q * 3 + 2, none⟩ = some (.slice a2 (flen kk) c2) := by rw [hbw.cell (by simp; omega)]; exact hm2
        have hb0 := HAT3.out.b0
        have hb1 := HAT3.out.b1
        have hb2 := HAT3.out.b2
        have hf0 := HAT3.out.f0
        have hf1 := HAT3.out.f1
        have hf2 := HAT3.out.f2
        have HSTEP := Lib.hid ((HAT3.out.step (s' := s2) (v' := v2) (c' := c2) hsl).low (Below.refl _ _).drew)
        have hu0 : ∀ u : After w3.heap.size w3, u.world.cell? ⟨b, o + j, none⟩ = some (.int .i64 (q : Int)) := fun u => u.cell (by simp; omega) hc3
        have hu1 : ∀ u : After w3.heap.size w3, u.world.cell? ⟨w.heap.size, 2, none⟩ = some (.slice (some ⟨bk, ok, none⟩) (flen k') c') := fun u => u.cell (by simp; omega) hb2
        have hu2 : ∀ u : After w3.heap.size w3, u.world.cell? ⟨bk, ok + q * 3, none⟩ = some (.int .i64 s2) := fun u => u.cell (by simp; omega) hn0
        have hu3 : ∀ u : After w3.heap.size w3, u.world.cell? ⟨bk, ok + q * 3 + 1, none⟩ = some (.int .i64 v2) := fun u => u.cell (by simp; omega) hn1
        have hu4 : ∀ u : After w3.heap.size w3, u.world.cell? ⟨bk, ok + q * 3 + 2, none⟩ = some (.slice a2 (flen kk) c2) := fun u => u.cell (by simp; omega) hn2
        have g3 : (0 : Int) ≤ (q : Int) := by omega
        have g4 : (q : Int) < (flen k' : Int) := by omega
        clear hslw hrow hd hm0 hm1 hm2 hsl hbw hx hn0 hn1 hn2 hc3 HAT3
        go_wp2_with fail
        refine wp_region_mix (fun w' => ∃ u : After w3.heap.size w3, w' = u.world) [8] [(0, 0), (1, 0), (2, 0), (3, 0), (4, 0), (5, 0), (6, 0), (7, 0), (8, 2)] (by kernel_rfl) (by kernel_rfl) ⟨⟨_, (Below.refl _ _).drew⟩, rfl⟩ ?_
        iterate 8
          refine mix_see rfl (fun K hK => ?_)
          go_simp
          refine hK _ ?_
          clear hK K
        clear hu0 hu1 hu2 hu3 hu4
        refine mix_late rfl (fun K hK => ?_)
        go_simp
        refine hK _ _ ?_
        clear hK K
        refine mix_end ?_
        clear hb0 hb1 hb2 hf0 hf1 hf2
        go_wp2_with fail
        go_roundw
        case rel => exact ⟨j + 1, s2, v2, a2, c2, kk, by omega, by go_num, HE.out, by omega, HSTEP.out⟩
        case measure => simp [intOf]; omega
      · have hxd : decide (0 ≤ x ∧ x ≤ (flen k' : Int) - 1) = false := by simpa using hx
        go_wp2_with fail
        refine wp_region_after wr.heap.size (by kernel_rfl) (by kernel_rfl) ?_
        repeat (go_big_quiet_step ((go_at_call 26; exact Calls.after_same (l6In_is hxd))))
        refine wpQuiet_nil ?_
        rintro w3 ⟨⟨_, hu⟩, rfl⟩
        have HAT3 := Lib.hid (HAT.out.low hu)
        have hc3 : w3.cell? ⟨b, o + j, none⟩ = some (.int .i64 x) := cell_low hu hc
        clear hu0 hu1 hc hb2 HAT hu
        clear hxd
        have HE : Hid (fat s v k place = none) := by rw [Hid, HF.out]; simp only [fat]; rw [if_neg (by omega)]
        have hr0 := HAT3.out.r0
        have hr1 := HAT3.out.r1
        have hr2 := HAT3.out.r2
        have hq0 := HAT3.out.q0
        have hq1 := HAT3.out.q1
        have hq2 := HAT3.out.q2
        have HBE := Lib.hid (fun x y z => lat_low HAT3.out.below x y z)
        go_wp2_with fail
        refine bodyPost_ret (v := .tuple #[.agg #[.int .i64 0, .int .i64 0, .slice none 0 0], .bool false]) ?_ rfl ⟨HBE.out _ _ _, .inr ⟨HE.out, rfl⟩⟩
        simp [results, Tryz.results32, go_sem, hr0, hr1, hr2]
    · have HE : Hid (fat s v k place = some (s', v', k')) := by
        rw [Hid, hf.out, List.drop_eq_nil_of_le (by omega)]; rfl
      have hb0 := hat.b0
      have hb1 := hat.b1
      have hb2 := hat.b2
      have hr0 := hat.r0
      have hr1 := hat.r1
      have hr2 := hat.r2
      have hq0 := hat.q0
      have hq1 := hat.q1
      have hq2 := hat.q2
      have HBE := Lib.hid (fun x y z => lat_low hat.below x y z)
      have HSL := Lib.hid hat.sl
      clear hat hf
      go_wp2_with fail
      refine bodyPost_ret (v := .tuple #[.agg #[.int .i64 s', .int .i64 v', .slice a' (flen k') c'], .bool true]) ?_ rfl ⟨HBE.out _ _ _, .inl ⟨s', v', k', a', c', HE.out, rfl, HSL.out⟩⟩
      simp [results, Tryz.results32, go_sem, hr0, hr1, hr2]
end Go.Proofs.YtiinmlagcbjloaaGreat

/-! B2: spec.TermAt. -/
namespace Go.Proofs.YtiinmlagcbjloaaGreat
open Go.RowKit Go.Deep

set_option maxRecDepth 100000 in
set_option maxHeartbeats 1000000 in
theorem sTermAt_any (s v : Int) (a : Option Addr) (c : Nat) (k : Fo) (pA : Option Addr) (pC : Nat) (place : List Int) (w : World) (hl : Sl w 0 w.heap.size a k) (hp : ISl w 0 w.heap.size pA place) (hpl : place.length ≤ 1048576) :
    Calls Tryz.prog 16 #[.agg #[.int .i64 s, .int .i64 v, .slice a (flen k) c], .slice pA place.length pC] w (AtPost s v k place w) := by
  have HL := Lib.hid hl
  have HP := Lib.hid hp
  clear hl hp
  have hb0 : Below w.heap.size w ((w.alloc (.cells #[.int .i64 s, .int .i64 v, .slice a (flen k) c] 26)).alloc (.cells #[.int .i64 0, .int .i64 0, .slice none 0 0] 26)) := ((Below.refl _ _).alloc (Nat.le_refl _) _).alloc (by simp) _
  have HB0 := Lib.hid hb0
  clear hb0
  go_enter Tryz.func16, Tryz.ntmps16
  go_wp2_with fail
  with_reducible refine (sTermOk_any s v a c k _ ?_).mono ?_
  · exact (HL.out.below HB0.out).mono (Nat.le_refl _) HB0.out.size
  rintro e w2 ⟨rfl, hb⟩
  have hb' := hb.mono (show w.heap.size + 2 ≤ _ by simp)
  have hs2 := hb.size
  simp at hs2
  obtain ⟨hc0, hc1, hc2⟩ := box_cells (w := w) ⟨w2, ((Below.refl _ _).alloc (by simp) _).trans (hb.mono (by simp))⟩
  dsimp only at hc0 hc1 hc2
  obtain ⟨hr0, hr1, hr2, hq0, hq1, hq2⟩ := at_cells hb'
  have HB2' := Lib.hid hb'
  have HB2 := Lib.hid (HB0.out.trans (hb.mono HB0.out.size))
  clear hb hb'
  cases hok : okW s v k 16 with
  | false =>
    have HR : Hid (atR s v k place = (0, 0, .nil, false)) := by unfold Hid atR; rw [hok]; rfl
    clear hok
    go_wp2_with fail
    refine bodyPost_ret (v := .tuple #[.agg #[.int .i64 0, .int .i64 0, .slice none 0 0], .bool false]) ?_ rfl (at_end (k' := .nil) HR.out HB2.out (.inl rfl) _ _ _)
    simp [results, Tryz.results16, go_sem, hr0, hr1, hr2]
  | true =>
    have HOK := Lib.hid hok
    have hsz := ((okW_iff _ _ _ _).1 hok).2.2
    clear hok
    have HL2 := Lib.hid ((HL.out.below HB2.out).mono (lo' := 0) (Nat.le_refl _) HB2.out.size)
    clear hr0 hr1 hr2 hq0 hq1 hq2
    go_wp2_with fail
    with_reducible refine (l1At_any s v a c k pA pC place _ HL2.out ?_ hpl (by omega)).mono ?_
    · exact (HP.out.below HB2.out).mono (Nat.le_refl _) HB2.out.size
    rintro e w3 ⟨hb3, hcase⟩
    have hs3 := hb3.size
    have HB3' := Lib.hid (HB2'.out.trans (hb3.mono (by omega)))
    have HB3 := Lib.hid (HB2.out.trans (hb3.mono (by omega)))
    clear hc0 hc1 hc2
    rcases hcase with ⟨s', v', k', a3, c3, hf, rfl, hl3⟩ | ⟨hf, rfl⟩
    · have HR : Hid (atR s v k place = (s', v', k', true)) := by unfold Hid atR; rw [HOK.out, hf]; rfl
      have hfo := fat_ok place s v k ((okW_iff _ _ _ _).1 HOK.out).1 ((okW_iff _ _ _ _).1 HOK.out).2.1 hf
      have hk' := hfo.2.2
      have HL3 := Lib.hid (hl3.below hb3)
      clear hl3 hb3 hf hfo
      go_wp2_with fail
      with_reducible refine (l1Copy_any (fsz k') s' v' a3 c3 k' _ ?_ (Nat.le_refl _) (by omega)).mono ?_
      · exact (HL3.out.below ((Below.refl _ _).alloc (by omega) _)).mono (Nat.le_refl _) (by simp; omega)
      rintro e w4 ⟨a4, c4, rfl, hb4, hown4⟩
      have hb4' : Below w3.heap.size w3 w4 := ((Below.refl _ _).alloc (Nat.le_refl _) _).trans (hb4.mono (by simp))
      have hs4 := hb4.size
      simp at hs4
      obtain ⟨hr0, hr1, hr2, hq0, hq1, hq2⟩ := at_cells (HB3'.out.trans (hb4'.mono (by omega)))
      have HB4 := Lib.hid (HB3.out.trans (hb4'.mono (by omega)))
      have HL4 := Lib.hid (hown4.sl.mono (lo' := w.heap.size + 2) (by simp; omega) (Nat.le_refl _))
      clear hb4 hb4' hown4
      go_wp2_with fail
      refine bodyPost_ret (v := .tuple #[.agg #[.int .i64 s', .int .i64 v', .slice a4 (flen k') c4], .bool true]) ?_ rfl (at_end HR.out HB4.out HL4.out _ _ _)
      simp [results, Tryz.results16, go_sem, hr0, hr1, hr2]
    · have HR : Hid (atR s v k place = (0, 0, .nil, false)) := by unfold Hid atR; rw [HOK.out, hf]; rfl
      have hb4 := HB3.out.alloc HB3.out.size (.cells #[.int .i64 0, .int .i64 0, .slice none 0 0] 26)
      obtain ⟨hr0, hr1, hr2, hq0, hq1, hq2⟩ := at_cells (HB3'.out.alloc (by omega) (.cells #[.int .i64 0, .int .i64 0, .slice none 0 0] 26))
      have HB4 := Lib.hid hb4
      clear hb3 hf hb4
      go_wp2_with fail
      refine bodyPost_ret (v := .tuple #[.agg #[.int .i64 0, .int .i64 0, .slice none 0 0], .bool false]) ?_ rfl (at_end (k' := .nil) HR.out HB4.out (.inl rfl) _ _ _)
      simp [results, Tryz.results16, go_sem, hr0, hr1, hr2]
end Go.Proofs.YtiinmlagcbjloaaGreat

/-! B4: l71Place, DrawTermAt. -/
namespace Go.Proofs.YtiinmlagcbjloaaGreat
open Go.RowKit Go.Deep

def PlcPost (br p : Nat) (w : World) (e : Ending) (w' : World) : Prop :=
  ∃ A C place p', e = .returned (.slice A (List.length place) C) ∧ p ≤ p' ∧ p' ≤ p + 100 ∧ place.length ≤ 2000 ∧ Adv w br p' w' ∧ ISc w' w.heap.size w'.heap.size A C place

theorem plc_end {w w6 w7 : World} {o : Obj} {br p p' p'' C : Nat} {x y : Int} (ha : Adv (w.alloc o) br p' w6) (hb : Adv (w6.alloc (.cells #[.int .i64 x, .int .i64 y] 3)) br p'' w7) (hlt : br < w.heap.size) (h1 : p ≤ p'') (h2 : p'' ≤ p + 100) (hlt6 : br < w6.heap.size) (hs : 2 ≤ C) :
    PlcPost br p w (.returned (.slice (some ⟨w6.heap.size, 0, none⟩) 1 C)) w7 ∧ PlcPost br p w (.returned (.slice (some ⟨w6.heap.size, 0, none⟩) 2 C)) w7 := by
  have hsz := ha.size
  simp at hsz
  have hs7 := hb.size
  simp at hs7
  have hA : Adv w br p'' w7 := ((ha.alloc (.cells #[.int .i64 x, .int .i64 y] 3)).trans hb).off hlt
  have c0 : w7.cell? ⟨w6.heap.size, 0, none⟩ = some (.int .i64 x) := hb.cell (by simp) (by simp; omega)
  have c1 : w7.cell? ⟨w6.heap.size, 1, none⟩ = some (.int .i64 y) := hb.cell (by simp) (by simp; omega)
  refine ⟨⟨_, C, [x], p'', rfl, h1, h2, by simp, hA, .inr ⟨_, 0, rfl, by omega, by omega, fun i u hu => ?_⟩, by simp; omega⟩, ⟨_, C, [x, y], p'', rfl, h1, h2, by simp, hA, .inr ⟨_, 0, rfl, by omega, by omega, fun i u hu => ?_⟩, by simpa using hs⟩⟩
  · match i with
    | 0 => simp at hu; subst hu; exact c0
    | n + 1 => simp at hu
  · match i with
    | 0 => simp at hu; subst hu; exact c0
    | 1 => simp at hu; subst hu; exact c1
    | n + 2 => simp at hu

set_option maxRecDepth 100000 in
set_option maxHeartbeats 1000000 in
theorem l71Place_any (br p : Nat) (s v : Int) (a : Option Addr) (c : Nat) (k : Fo) (w : World) (hr : Rd w br p) (hp : p ≤ 10000000) (hl : Sl w (br + 1) w.heap.size a k) :
    Calls Tryz.prog 15 #[.pointer (some ⟨br, 0, none⟩), .agg #[.int .i64 s, .int .i64 v, .slice a (flen k) c]] w (PlcPost br p w) := by
  have hlt := hr.lt
  have hr' := hr.alloc (.cells #[.int .i64 s, .int .i64 v, .slice a (flen k) c] 26)
  have hl' := hl.low ((Below.refl _ _).alloc (Nat.le_refl _) (.cells #[.int .i64 s, .int .i64 v, .slice a (flen k) c] 26))
  have HL0 := Lib.hid hl'
  have HA0 := Lib.hid (Adv.start hr' (Below.refl _ _))
  have HR0 := Lib.hid hr'
  clear hr hr' hl hl'
  go_enter Tryz.func15, Tryz.ntmps15
  go_wp2_with fail
  with_reducible refine (sTermOk_any s v a c k _ (HL0.out.mono (Nat.zero_le _) (Nat.le_refl _))).mono ?_
  rintro e w2 ⟨rfl, hb2⟩
  have HA2 := Lib.hid (HA0.out.more hb2)
  have HR2 := Lib.hid (HA2.out.rd HR0.out)
  have HL2 := Lib.hid (HL0.out.low hb2)
  have hs2 := hb2.size
  simp at hs2
  clear hb2
  cases hok : okW s v k 16 with
  | false =>
    clear hok
    go_wp2_with fail
    with_reducible refine (pick_any 4 br (p) _ HR2.out (by omega) (by omega) (by omega)).mono ?_
    rintro e w5 ⟨x4, rfl, hx4, hb5⟩
    have HR5 := Lib.hid (Adv.rd hb5 HR2.out)
    have HA5 := Lib.hid (HA2.out.trans hb5)
    clear hb5
    go_wp2_with fail
    with_reducible refine (pick_any 3 br (p + 1) _ HR5.out (by omega) (by omega) (by omega)).mono ?_
    rintro e w6 ⟨x3, rfl, hx3, hb6⟩
    have HR6 := Lib.hid (Adv.rd hb6 HR5.out)
    have HA6 := Lib.hid (HA5.out.trans hb6)
    have hlt6 : br < w6.heap.size := HR6.out.lt
    have hs6 := HA6.out.size
    simp at hs6
    clear hb6
    go_wp2_with fail
    with_reducible refine (pick_any 2 br (p + 1 + 1) _ (HR6.out.alloc _) (by omega) (by omega) (by omega)).mono ?_
    rintro e w7 ⟨x2, rfl, hx2, hb7⟩
    have hb7' : Adv (w6.alloc (.cells #[.int .i64 ((x4 : Int) - 1), .int .i64 (x3 : Int)] 3)) br (p + 1 + 1 + 1) w7 := hb7
    have HP := Lib.hid (plc_end (p := p) (C := 2) HA6.out hb7' hlt (by omega) (by omega) hlt6 (by simp))
    clear hb7 hb7'
    have hx2' : x2 < 2 := by omega
    rcases (show x2 = 0 ∨ x2 = 1 by omega) with rfl | rfl
    · go_wp2_with fail
      go_ret
      exact HP.out.1
    · go_wp2_with fail
      go_ret
      exact HP.out.2
  | true =>
    have hsz := ((okW_iff _ _ _ _).1 hok).2.2
    clear hok
    go_wp2_with fail
    with_reducible refine (pick_any 10 br p _ HR2.out (by omega) (by omega) (by omega)).mono ?_
    rintro e w3 ⟨y, rfl, hy, hb3⟩
    have HR3 := Lib.hid (Adv.rd hb3 HR2.out)
    have ha3 : Adv w2 br (p + 1) w3 := hb3
    have HA3 := Lib.hid (HA2.out.trans hb3)
    have HL3 := Lib.hid (HL2.out.adv ha3 (Nat.lt_succ_self _))
    have hs3 := ha3.size
    clear hb3 ha3 hy
    by_cases hy0 : y = 0
    · subst hy0
      go_wp2_with fail
      with_reducible refine (pick_any 4 br (p + 1) _ HR3.out (by omega) (by omega) (by omega)).mono ?_
      rintro e w5 ⟨x4, rfl, hx4, hb5⟩
      have HR5 := Lib.hid (Adv.rd hb5 HR3.out)
      have HA5 := Lib.hid (HA3.out.trans hb5)
      clear hb5
      go_wp2_with fail
      with_reducible refine (pick_any 3 br (p + 1 + 1) _ HR5.out (by omega) (by omega) (by omega)).mono ?_
      rintro e w6 ⟨x3, rfl, hx3, hb6⟩
      have HR6 := Lib.hid (Adv.rd hb6 HR5.out)
      have HA6 := Lib.hid (HA5.out.trans hb6)
      have hlt6 : br < w6.heap.size := HR6.out.lt
      have hs6 := HA6.out.size
      simp at hs6
      clear hb6
      go_wp2_with fail
      with_reducible refine (pick_any 2 br (p + 1 + 1 + 1) _ (HR6.out.alloc _) (by omega) (by omega) (by omega)).mono ?_
      rintro e w7 ⟨x2, rfl, hx2, hb7⟩
      have hb7' : Adv (w6.alloc (.cells #[.int .i64 ((x4 : Int) - 1), .int .i64 (x3 : Int)] 3)) br (p + 1 + 1 + 1 + 1) w7 := hb7
      have HP := Lib.hid (plc_end (p := p) (C := 2) HA6.out hb7' hlt (by omega) (by omega) hlt6 (by simp))
      clear hb7 hb7'
      have hx2' : x2 < 2 := by omega
      rcases (show x2 = 0 ∨ x2 = 1 by omega) with rfl | rfl
      · go_wp2_with fail
        go_ret
        exact HP.out.1
      · go_wp2_with fail
        go_ret
        exact HP.out.2
    · have y0 : ((y : Int) == 0) = false := by simpa using hy0
      obtain ⟨hr0, hr1, hr2, hf0, hf1, hf2⟩ := res_cells HA3.out hlt
      go_wp2_with fail
      with_reducible refine (l1Places_any (fsz k) s v a c k none 0 0 [] _ (HL3.out.mono (Nat.zero_le _) (Nat.le_refl _)) isl_nil rfl (Nat.le_refl _) (by omega) (by simp; omega)).mono ?_
      rintro e w4 ⟨A4, C4, rfl, hb4, hr4⟩
      have hr4' : RSl w4 w3.heap.size w4.heap.size A4 (places k) := by simpa using hr4
      have HA4 := Lib.hid (HA3.out.more hb4)
      have HR4 := Lib.hid (Rd.next HR3.out (bl_self hb4 HR3.out.place))
      have hs4 := hb4.size
      have hlt3 : br < w3.heap.size := HR3.out.lt
      have HRS := Lib.hid hr4'
      clear hb4 hr4 hr4' hr0 hr1 hr2 hf0 hf1 hf2
      go_wp2_with fail
      with_reducible refine (pick_any (1 + fsz k) br (p + 1) _ HR4.out (by omega) (by omega) (by omega)).mono ?_
      rintro e w5 ⟨z, rfl, hz, hb5⟩
      have ha5 : Adv w4 br (p + 1 + 1) w5 := hb5
      have hs5 := ha5.size
      have hz2 : z < (places k).length := by rw [places_len]; omega
      have hrs5 : RSl w5 w3.heap.size w5.heap.size A4 (places k) := (HRS.out.same (ha5.same (Nat.le_refl _) (.inl hlt3))).mono (Nat.le_refl _) hs5
      obtain ⟨b, o, a6, c6, r, rfl, _, hbB, hrz, hk0, hi6⟩ := rsl_at2 hrs5 hz2
      have hdp := places_deep (List.mem_of_getElem? hrz)
      have HP : Hid (PlcPost br p w (.returned (.slice a6 r.length c6)) w5) := ⟨a6, c6, r, p + 1 + 1, rfl, by omega, by omega, by omega, (HA4.out.trans hb5).off hlt, hi6.mono (by omega) (Nat.le_refl _)⟩
      have g1 : (0 : Int) ≤ (z : Int) := by omega
      have g2 : (z : Int) < 1 + (fsz k : Int) := by omega
      clear hb5 ha5 hrs5 hrz hi6
      go_wp2_with fail
      go_ret
      exact HP.out
end Go.Proofs.YtiinmlagcbjloaaGreat

/-! B5: - DrawTermAt. -/
namespace Go.Proofs.YtiinmlagcbjloaaGreat
open Go.RowKit Go.Deep
attribute [local go_sem ↓] Go.wp_at_zero Go.wp_at_succ

theorem keep_set {w3 : World} {b n : Nat} {x y z x' y' z' : Value} (h0 : w3.cell? ⟨b, 0, none⟩ = some x) (h1 : w3.cell? ⟨b, 1, none⟩ = some y) (h2 : w3.cell? ⟨b, 2, none⟩ = some z) (hne : n < b) :
    (((w3.setCell ⟨n, 0, none⟩ x').setCell ⟨n, 1, none⟩ y').setCell ⟨n, 2, none⟩ z').cell? ⟨b, 0, none⟩ = some x ∧ (((w3.setCell ⟨n, 0, none⟩ x').setCell ⟨n, 1, none⟩ y').setCell ⟨n, 2, none⟩ z').cell? ⟨b, 1, none⟩ = some y ∧ (((w3.setCell ⟨n, 0, none⟩ x').setCell ⟨n, 1, none⟩ y').setCell ⟨n, 2, none⟩ z').cell? ⟨b, 2, none⟩ = some z := by
  have hc : ∀ {q : Addr} {u : Value}, w3.cell? q = some u → q.block ≠ n → (((w3.setCell ⟨n, 0, none⟩ x').setCell ⟨n, 1, none⟩ y').setCell ⟨n, 2, none⟩ z').cell? q = some u := fun {q u} hq hne => by
    rw [World.cell?_setCell_other _ _ _ _ (by intro e; exact hne (congrArg Addr.block e).symm), World.cell?_setCell_other _ _ _ _ (by intro e; exact hne (congrArg Addr.block e).symm), World.cell?_setCell_other _ _ _ _ (by intro e; exact hne (congrArg Addr.block e).symm)]
    exact hq
  exact ⟨hc h0 (by simp; omega), hc h1 (by simp; omega), hc h2 (by simp; omega)⟩

def TaPost (w : World) (e : Ending) (w' : World) : Prop :=
  ∃ s v a c k A C place, e = .returned (.tuple #[.agg #[.int .i64 s, .int .i64 v, .slice a (flen k) c], .slice A (List.length place) C]) ∧ 1 + fsz k ≤ 31000 ∧ place.length ≤ 2000 ∧ Below w.heap.size w w' ∧ Sl w' w.heap.size w'.heap.size a k ∧ ISc w' w.heap.size w'.heap.size A C place

theorem ta_end {w w1 : World} {o : Obj} {s v : Int} {a A : Option Addr} {c C : Nat} {k : Fo} {place : List Int} (hb : Below (w.heap.size + 1) (w.alloc o) w1) (hS : 1 + fsz k ≤ 31000) (hpl : place.length ≤ 2000) (hl : Sl w1 (w.heap.size + 1) w1.heap.size a k) (hi : ISc w1 (w.heap.size + 1) w1.heap.size A C place) (x y z : Value) :
    TaPost w (.returned (.tuple #[.agg #[.int .i64 s, .int .i64 v, .slice a (flen k) c], .slice A place.length C])) (((w1.setCell ⟨w.heap.size, 0, none⟩ x).setCell ⟨w.heap.size, 1, none⟩ y).setCell ⟨w.heap.size, 2, none⟩ z) := by
  have hs : Same (w.heap.size + 1) w1.heap.size w1 (((w1.setCell ⟨w.heap.size, 0, none⟩ x).setCell ⟨w.heap.size, 1, none⟩ y).setCell ⟨w.heap.size, 2, none⟩ z) :=
    (((Same.setCell (fun _ _ _ => rfl) (.inl (by simp)) _).setCell (.inl (by simp)) _).setCell (.inl (by simp)) _)
  have hb' : Below w.heap.size w w1 := ((Below.refl _ _).alloc (Nat.le_refl _) o).trans (hb.mono (by omega))
  exact ⟨s, v, a, c, k, A, C, place, rfl, hS, hpl, ((hb'.setCell (Nat.le_refl _) _).setCell (Nat.le_refl _) _).setCell (Nat.le_refl _) _, (hl.same hs).mono (by omega) (by simp), (hi.same hs).mono (by omega) (by simp)⟩

end Go.Proofs.YtiinmlagcbjloaaGreat

/-! B6: A place cut in two; the size of TermAt's answer. -/
namespace Go.Proofs.YtiinmlagcbjloaaGreat
open Go.RowKit Go.Deep

theorem fat_append : ∀ (p q : List Int) (s v : Int) (k : Fo), fat s v k (p ++ q) = (fat s v k p).bind fun x => fat x.1 x.2.1 x.2.2 q
  | [], _, _, _, _ => rfl
  | i :: ps, q, s, v, k => by
    simp only [List.cons_append, fat]
    split
    · split
      · exact fat_append ps q _ _ _
      · rfl
    · rfl

theorem atR_sz {s v : Int} {k : Fo} {place : List Int} {s' v' : Int} {k' : Fo} {t : Bool} (h : atR s v k place = (s', v', k', t)) : fsz k' ≤ 15 := by
  unfold atR at h
  split at h
  · rename_i hok
    have hok' := (okW_iff _ _ _ _).1 hok
    split at h
    · rename_i s2 v2 k2 hf
      simp only [Prod.mk.injEq] at h
      obtain ⟨_, _, rfl, _⟩ := h
      have := (fat_ok place s v k hok'.1 hok'.2.1 hf).2.2
      have := hok'.2.2
      omega
    · simp only [Prod.mk.injEq] at h
      obtain ⟨_, _, rfl, _⟩ := h
      simp [fsz]
  · simp only [Prod.mk.injEq] at h
    obtain ⟨_, _, rfl, _⟩ := h
    simp [fsz]
theorem atR_true {s v : Int} {k : Fo} {place : List Int} {s' v' : Int} {k' : Fo} (h : atR s v k place = (s', v', k', true)) : okW s v k 16 = true ∧ fat s v k place = some (s', v', k') := by
  unfold atR at h
  split at h
  · rename_i hok
    refine ⟨hok, ?_⟩
    split at h
    · rename_i s2 v2 k2 hf
      simp only [Prod.mk.injEq] at h
      obtain ⟨rfl, rfl, rfl, _⟩ := h
      exact hf
    · simp at h
  · simp at h
/-- A place cut in two. -/
theorem atR_cut {s v : Int} {k : Fo} {place : List Int} {s' v' : Int} {k' : Fo} (n : Nat) (h : atR s v k place = (s', v', k', true)) : ∃ s1 v1 k1, atR s v k (place.take n) = (s1, v1, k1, true) ∧ atR s1 v1 k1 (place.drop n) = (s', v', k', true) := by
  obtain ⟨hok, hf⟩ := atR_true h
  rw [← List.take_append_drop n place, fat_append] at hf
  obtain ⟨⟨s1, v1, k1⟩, h1, h2⟩ := Option.bind_eq_some_iff.1 hf
  have hok' := (okW_iff _ _ _ _).1 hok
  have hfo := fat_ok _ s v k hok'.1 hok'.2.1 h1
  have hok1 : okW s1 v1 k1 16 = true := (okW_iff _ _ _ _).2 ⟨hfo.1, hfo.2.1, by have := hok'.2.2; have := hfo.2.2; omega⟩
  refine ⟨s1, v1, k1, ?_, ?_⟩
  · unfold atR; rw [hok, h1]; rfl
  · unfold atR; rw [hok1]; simp only [if_true]; dsimp only at h2; rw [h2]
end Go.Proofs.YtiinmlagcbjloaaGreat
