/- Several texts in one: B1, SM. -/
import Derived.Test.YtoafleckcjanaaaKLk11
import Derived.Test.YtoafleckcjanaaaKLk12
import Derived.Test.YtoafleckcjanaaaKLk6

/-! B1: spec.l1At: kid by kid. -/
namespace Go.Proofs.Ytoafleckcjanaaa
open Go.RowKit Go.Deep
attribute [local go_sem ↓] Go.wp_at_zero Go.wp_at_succ

/-- What holds at the head of l1At's loop: the box holds the part. -/
structure LaAt (w : World) (s v : Int) (a : Option Addr) (c : Nat) (k : Fo) (wr : World) : Prop where
  below : Below w.heap.size w wr
  size : w.heap.size + 2 ≤ wr.heap.size
  b0 : wr.cell? ⟨w.heap.size, 0, none⟩ = some (.int .i64 s)
  b1 : wr.cell? ⟨w.heap.size, 1, none⟩ = some (.int .i64 v)
  b2 : wr.cell? ⟨w.heap.size, 2, none⟩ = some (.slice a (flen k) c)
  f0 : wr.frozen? ⟨w.heap.size, 0, none⟩ = false
  f1 : wr.frozen? ⟨w.heap.size, 1, none⟩ = false
  f2 : wr.frozen? ⟨w.heap.size, 2, none⟩ = false
  r0 : wr.cell? ⟨w.heap.size + 1, 0, none⟩ = some (.int .i64 0)
  r1 : wr.cell? ⟨w.heap.size + 1, 1, none⟩ = some (.int .i64 0)
  r2 : wr.cell? ⟨w.heap.size + 1, 2, none⟩ = some (.slice none 0 0)
  q0 : wr.frozen? ⟨w.heap.size + 1, 0, none⟩ = false
  q1 : wr.frozen? ⟨w.heap.size + 1, 1, none⟩ = false
  q2 : wr.frozen? ⟨w.heap.size + 1, 2, none⟩ = false
  sl : Sl w 0 w.heap.size a k

theorem LaAt.start {w : World} {s v : Int} {a : Option Addr} {c : Nat} {k : Fo} (hl : Sl w 0 w.heap.size a k) : LaAt w s v a c k ((w.alloc (.cells #[.int .i64 s, .int .i64 v, .slice a (flen k) c] 35)).alloc (.cells #[.int .i64 0, .int .i64 0, .slice none 0 0] 35)) := by
  refine ⟨((Below.refl _ _).alloc (Nat.le_refl _) _).alloc (by simp) _, by simp, ?_, ?_, ?_, ?_, ?_, ?_, ?_, ?_, ?_, ?_, ?_, ?_, hl⟩
  · rw [World.cell?_alloc_lt _ _ _ (by simp), World.cell?_alloc_at _ _ _ _ (by simp)]; rfl
  · rw [World.cell?_alloc_lt _ _ _ (by simp), World.cell?_alloc_at _ _ _ _ (by simp)]; rfl
  · rw [World.cell?_alloc_lt _ _ _ (by simp), World.cell?_alloc_at _ _ _ _ (by simp)]; rfl
  · rw [World.frozen?_alloc_past _ _ _ (by simp), World.frozen?_alloc_at _ _ _ _ (by simp)]
  · rw [World.frozen?_alloc_past _ _ _ (by simp), World.frozen?_alloc_at _ _ _ _ (by simp)]
  · rw [World.frozen?_alloc_past _ _ _ (by simp), World.frozen?_alloc_at _ _ _ _ (by simp)]
  · rw [World.cell?_alloc_at _ _ _ _ (by simp)]; rfl
  · rw [World.cell?_alloc_at _ _ _ _ (by simp)]; rfl
  · rw [World.cell?_alloc_at _ _ _ _ (by simp)]; rfl
  · rw [World.frozen?_alloc_at _ _ _ _ (by simp)]
  · rw [World.frozen?_alloc_at _ _ _ _ (by simp)]
  · rw [World.frozen?_alloc_at _ _ _ _ (by simp)]
theorem LaAt.low {w wr w2 : World} {s v : Int} {a : Option Addr} {c : Nat} {k : Fo} (h : LaAt w s v a c k wr) (hb : Below wr.heap.size wr w2) : LaAt w s v a c k w2 := by
  have hs := h.size
  have hc : ∀ {q : Addr} {u : Value}, wr.cell? q = some u → w2.cell? q = some u := fun hq => by rw [hb.cell (World.block_lt_of_cell? _ _ hq)]; exact hq
  have hf : ∀ {q : Addr}, q.block < w.heap.size + 2 → wr.frozen? q = false → w2.frozen? q = false := fun hlt hq => by rw [hb.frozen (by omega)]; exact hq
  exact ⟨h.below.trans (hb.mono (by omega)), Nat.le_trans hs hb.size, hc h.b0, hc h.b1, hc h.b2, hf (by simp) h.f0, hf (by simp) h.f1, hf (by simp) h.f2, hc h.r0, hc h.r1, hc h.r2, hf (by simp) h.q0, hf (by simp) h.q1, hf (by simp) h.q2, h.sl⟩
theorem LaAt.step {w wr : World} {s v s' v' : Int} {a a' : Option Addr} {c c' : Nat} {k k' : Fo} (h : LaAt w s v a c k wr) (hl : Sl w 0 w.heap.size a' k') :
    LaAt w s' v' a' c' k' (((wr.setCell ⟨w.heap.size, 0, none⟩ (.int .i64 s')).setCell ⟨w.heap.size, 1, none⟩ (.int .i64 v')).setCell ⟨w.heap.size, 2, none⟩ (.slice a' (flen k') c')) := by
  have hc : ∀ {q : Addr} {u : Value}, wr.cell? q = some u → q.block ≠ w.heap.size → (((wr.setCell ⟨w.heap.size, 0, none⟩ (.int .i64 s')).setCell ⟨w.heap.size, 1, none⟩ (.int .i64 v')).setCell ⟨w.heap.size, 2, none⟩ (.slice a' (flen k') c')).cell? q = some u := fun {q u} hq hne => by
    rw [World.cell?_setCell_other _ _ _ _ (by intro e; exact hne (congrArg Addr.block e).symm), World.cell?_setCell_other _ _ _ _ (by intro e; exact hne (congrArg Addr.block e).symm), World.cell?_setCell_other _ _ _ _ (by intro e; exact hne (congrArg Addr.block e).symm)]
    exact hq
  have hf : ∀ {q : Addr}, wr.frozen? q = false → (((wr.setCell ⟨w.heap.size, 0, none⟩ (.int .i64 s')).setCell ⟨w.heap.size, 1, none⟩ (.int .i64 v')).setCell ⟨w.heap.size, 2, none⟩ (.slice a' (flen k') c')).frozen? q = false := fun {q} hq => by
    rw [World.frozen?_setCell, World.frozen?_setCell, World.frozen?_setCell]
    exact hq
  refine ⟨((h.below.setCell (Nat.le_refl _) _).setCell (Nat.le_refl _) _).setCell (Nat.le_refl _) _, by simpa using h.size, ?_, ?_, ?_, hf h.f0, hf h.f1, hf h.f2, hc h.r0 (by simp), hc h.r1 (by simp), hc h.r2 (by simp), hf h.q0, hf h.q1, hf h.q2, hl⟩
  · rw [World.cell?_setCell_other _ _ _ _ (by intro h; have := congrArg Addr.off h; simp at this), World.cell?_setCell_other _ _ _ _ (by intro h; have := congrArg Addr.off h; simp at this)]
    exact World.cell?_setCell_same _ _ _ h.b0
  · rw [World.cell?_setCell_other _ _ _ _ (by intro h; have := congrArg Addr.off h; simp at this)]
    exact World.cell?_setCell_same _ _ _ (show World.cell? _ ⟨w.heap.size, 1, none⟩ = some (.int .i64 v) from by rw [World.cell?_setCell_other _ _ _ _ (by intro h; have := congrArg Addr.off h; simp at this)]; exact h.b1)
  · exact World.cell?_setCell_same _ _ _ (show World.cell? _ ⟨w.heap.size, 2, none⟩ = some (.slice a (flen k) c) from by rw [World.cell?_setCell_other _ _ _ _ (by intro h; have := congrArg Addr.off h; simp at this), World.cell?_setCell_other _ _ _ _ (by intro h; have := congrArg Addr.off h; simp at this)]; exact h.b2)

def LatPost (s v : Int) (k : Fo) (place : List Int) (w : World) (e : Ending) (w' : World) : Prop :=
  Below w.heap.size w w' ∧ ((∃ s' v' k' a c, fat s v k place = some (s', v', k') ∧ e = .returned (.tuple #[.agg #[.int .i64 s', .int .i64 v', .slice a (flen k') c], .bool true]) ∧ Sl w 0 w.heap.size a k') ∨
    (fat s v k place = none ∧ e = .returned (.tuple #[.agg #[.int .i64 0, .int .i64 0, .slice none 0 0], .bool false])))

theorem lat_low {w w1 : World} (hb : Below w.heap.size w w1) (x y z : Value) : Below w.heap.size w (((w1.setCell ⟨w.heap.size + 1, 0, none⟩ x).setCell ⟨w.heap.size + 1, 1, none⟩ y).setCell ⟨w.heap.size + 1, 2, none⟩ z) :=
  ((hb.setCell (by simp) _).setCell (by simp) _).setCell (by simp) _

set_option maxRecDepth 100000 in
set_option maxHeartbeats 1000000 in
theorem l1At_any (s v : Int) (a : Option Addr) (c : Nat) (k : Fo) (pA : Option Addr) (pC : Nat) (place : List Int) (w : World) (hl : Sl w 0 w.heap.size a k) (hp : ISl w 0 w.heap.size pA place) (hpl : place.length ≤ 1048576) (hsz : fsz k ≤ 1048576) :
    Calls Try.prog 50 #[.agg #[.int .i64 s, .int .i64 v, .slice a (flen k) c], .slice pA place.length pC] w (LatPost s v k place w) := by
  have HST := Lib.hid (LaAt.start (s := s) (v := v) (c := c) hl)
  have HP := Lib.hid hp
  clear hl hp
  go_enter Try.func50, Try.ntmps50
  go_wp2_with fail
  go_loopw [6] (fun i wr => ∃ (j : Nat) (s' v' : Int) (a' : Option Addr) (c' : Nat) (k' : Fo), j ≤ place.length ∧ i = .int .i64 j ∧ Hid (fat s v k place = fat s' v' k' (place.drop j)) ∧ fsz k' ≤ 1048576 ∧ LaAt w s' v' a' c' k' wr) (fun i _ => place.length - (intOf i).toNat)
  case atStart => exact ⟨0, s, v, a, c, k, by omega, rfl, by simp [Hid], hsz, HST.out⟩
  case round =>
    clear HST
    obtain ⟨j, s', v', a', c', k', hj, rfl, hf, hsz', hat⟩ := hrel
    have hsr := hat.size
    have hfl := flen_le_sz k'
    by_cases hlt : j < place.length
    · obtain ⟨b, o, rfl, _, hbB, hc⟩ := isl_get (HP.out.below hat.below) hlt
      have hdr : place.drop j = place[j] :: place.drop (j + 1) := List.drop_eq_getElem_cons hlt
      rw [hdr] at hf
      generalize place[j] = x at hc hf
      have hb2 := hat.b2
      have g1 : (0 : Int) ≤ (j : Int) := by omega
      have g2 : (j : Int) < (place.length : Int) := by omega
      have HF := Lib.hid hf.out
      have HAT := Lib.hid hat
      clear hf hat hdr
      have hu0 : ∀ u : After wr.heap.size wr, u.world.cell? ⟨b, o + j, none⟩ = some (.int .i64 x) := fun u => u.cell (by simp; omega) hc
      have hu1 : ∀ u : After wr.heap.size wr, u.world.cell? ⟨w.heap.size, 2, none⟩ = some (.slice a' (flen k') c') := fun u => u.cell (by simp; omega) hb2
      by_cases hx : 0 ≤ x ∧ x ≤ (flen k' : Int) - 1
      · have hxd : decide (0 ≤ x ∧ x ≤ (flen k' : Int) - 1) = true := by simpa using hx
        go_wp2_with fail
        refine wp_region_after wr.heap.size (by kernel_rfl) (by kernel_rfl) ?_
        repeat (go_big_quiet_step ((go_at_call 47; exact Calls.after_same (l6In_is hxd))))
        refine wpQuiet_nil ?_
        rintro w3 ⟨⟨_, hu⟩, rfl⟩
        have HAT3 := Lib.hid (HAT.out.low hu)
        have hc3 : w3.cell? ⟨b, o + j, none⟩ = some (.int .i64 x) := cell_low hu hc
        clear hu0 hu1 hc hb2 HAT hu
        clear hxd
        obtain ⟨q, rfl⟩ : ∃ q : Nat, x = q := ⟨x.toNat, by omega⟩
        have hq : q < flen k' := by omega
        have hslw := HAT3.out.sl
        obtain ⟨bk, ok, rfl⟩ : ∃ bk ok, a' = some ⟨bk, ok, none⟩ := by
          rcases hslw with rfl | ⟨b, o, rfl, _⟩
          · simp [flen] at hq
          · exact ⟨_, _, rfl⟩
        have hrow : Row w 0 w.heap.size k' bk ok := by
          rcases hslw with rfl | ⟨b, o, e, h⟩
          · simp [flen] at hq
          · cases e; exact h
        obtain ⟨s2, v2, kk, a2, c2, ⟨x2, y2, hd⟩, _, hbB2, hm0, hm1, hm2, hsl⟩ := row_at hrow hq
        have HE : Hid (fat s v k place = fat s2 v2 kk (place.drop (j + 1))) := by
          rw [Hid, HF.out]; simp only [fat]; rw [if_pos (by omega)]
          simp only [Int.toNat_natCast, hd]
        have hks := fsz_kid hd
        have hbw := HAT3.out.below
        have hs3 := HAT3.out.size
        have hn0 : w3.cell? ⟨bk, ok + q * 3, none⟩ = some (.int .i64 s2) := by rw [hbw.cell (by simp; omega)]; exact hm0
        have hn1 : w3.cell? ⟨bk, ok + q * 3 + 1, none⟩ = some (.int .i64 v2) := by rw [hbw.cell (by simp; omega)]; exact hm1
        have hn2 : w3.cell? ⟨bk, ok + q * 3 + 2, none⟩ = some (.slice a2 (flen kk) c2) := by rw [hbw.cell (by simp; omega)]; exact hm2
        have hb0 := HAT3.out.b0
        have hb1 := HAT3.out.b1
        have hb2 := HAT3.out.b2
        have hf0 := HAT3.out.f0
        have hf1 := HAT3.out.f1
        have hf2 := HAT3.out.f2
        have HSTEP := Lib.hid ((HAT3.out.step (s' := s2) (v' := v2) (c' := c2) hsl).low (Below.refl _ _).drew)
        have hu0 : ∀ u : After w3.heap.size w3, u.world.cell? ⟨b, o + j, none⟩ = some (.int .i64 (q : Int)) := fun u => u.cell (by simp; omega) hc3
        have hu1 : ∀ u : After w3.heap.size w3, u.world.cell? ⟨w.heap.size, 2, none⟩ = some (.slice (some ⟨bk, ok, none⟩) (flen k') c') := fun u => u.cell (by simp; omega) hb2
        have hu2 : ∀ u : After w3.heap.size w3, u.world.cell? ⟨bk, ok + q * 3, none⟩ = some (.int .i64 s2) := fun u => u.cell (by simp; omega) hn0
        have hu3 : ∀ u : After w3.heap.size w3, u.world.cell? ⟨bk, ok + q * 3 + 1, none⟩ = some (.int .i64 v2) := fun u => u.cell (by simp; omega) hn1
        have hu4 : ∀ u : After w3.heap.size w3, u.world.cell? ⟨bk, ok + q * 3 + 2, none⟩ = some (.slice a2 (flen kk) c2) := fun u => u.cell (by simp; omega) hn2
        have g3 : (0 : Int) ≤ (q : Int) := by omega
        have g4 : (q : Int) < (flen k' : Int) := by omega
        clear hslw hrow hd hm0 hm1 hm2 hsl hbw hx hn0 hn1 hn2 hc3 HAT3
        go_wp2_with fail
        refine wp_region_mix (fun w' => ∃ u : After w3.heap.size w3, w' = u.world) [8] [(0, 0), (1, 0), (2, 0), (3, 0), (4, 0), (5, 0), (6, 0), (7, 0), (8, 2)] (by kernel_rfl) (by kernel_rfl) ⟨⟨_, (Below.refl _ _).drew⟩, rfl⟩ ?_
        iterate 8
          refine mix_see rfl (fun K hK => ?_)
          go_simp
          refine hK _ ?_
          clear hK K
        clear hu0 hu1 hu2 hu3 hu4
        refine mix_late rfl (fun K hK => ?_)
        go_simp
        refine hK _ _ ?_
        clear hK K
        refine mix_end ?_
        clear hb0 hb1 hb2 hf0 hf1 hf2
        go_wp2_with fail
        go_roundw
        case rel => exact ⟨j + 1, s2, v2, a2, c2, kk, by omega, by go_num, HE.out, by omega, HSTEP.out⟩
        case measure => simp [intOf]; omega
      · have hxd : decide (0 ≤ x ∧ x ≤ (flen k' : Int) - 1) = false := by simpa using hx
        go_wp2_with fail
        refine wp_region_after wr.heap.size (by kernel_rfl) (by kernel_rfl) ?_
        repeat (go_big_quiet_step ((go_at_call 47; exact Calls.after_same (l6In_is hxd))))
        refine wpQuiet_nil ?_
        rintro w3 ⟨⟨_, hu⟩, rfl⟩
        have HAT3 := Lib.hid (HAT.out.low hu)
        have hc3 : w3.cell? ⟨b, o + j, none⟩ = some (.int .i64 x) := cell_low hu hc
        clear hu0 hu1 hc hb2 HAT hu
        clear hxd
        have HE : Hid (fat s v k place = none) := by rw [Hid, HF.out]; simp only [fat]; rw [if_neg (by omega)]
        have hr0 := HAT3.out.r0
        have hr1 := HAT3.out.r1
        have hr2 := HAT3.out.r2
        have hq0 := HAT3.out.q0
        have hq1 := HAT3.out.q1
        have hq2 := HAT3.out.q2
        have HBE := Lib.hid (fun x y z => lat_low HAT3.out.below x y z)
        go_wp2_with fail
        refine bodyPost_ret (v := .tuple #[.agg #[.int .i64 0, .int .i64 0, .slice none 0 0], .bool false]) ?_ rfl ⟨HBE.out _ _ _, .inr ⟨HE.out, rfl⟩⟩
        simp [results, Try.results50, go_sem, hr0, hr1, hr2]
    · have HE : Hid (fat s v k place = some (s', v', k')) := by
        rw [Hid, hf.out, List.drop_eq_nil_of_le (by omega)]; rfl
      have hb0 := hat.b0
      have hb1 := hat.b1
      have hb2 := hat.b2
      have hr0 := hat.r0
      have hr1 := hat.r1
      have hr2 := hat.r2
      have hq0 := hat.q0
      have hq1 := hat.q1
      have hq2 := hat.q2
      have HBE := Lib.hid (fun x y z => lat_low hat.below x y z)
      have HSL := Lib.hid hat.sl
      clear hat hf
      go_wp2_with fail
      refine bodyPost_ret (v := .tuple #[.agg #[.int .i64 s', .int .i64 v', .slice a' (flen k') c'], .bool true]) ?_ rfl ⟨HBE.out _ _ _, .inl ⟨s', v', k', a', c', HE.out, rfl, HSL.out⟩⟩
      simp [results, Try.results50, go_sem, hr0, hr1, hr2]
end Go.Proofs.Ytoafleckcjanaaa

/-! SM: l1Same on any two terms. -/
namespace Go.Proofs.Ytoafleckcjanaaa
open Go.RowKit Go.Deep

theorem boxes_SM {w wr : World} {x y z x' y' z' : Value} (h : Below (w.heap.size + 2) ((w.alloc (.cells #[x, y, z] 35)).alloc (.cells #[x', y', z'] 35)) wr) :
    wr.cell? ⟨w.heap.size, 2, none⟩ = some z ∧ wr.cell? ⟨w.heap.size + 1, 2, none⟩ = some z' := by
  refine ⟨?_, ?_⟩
  · rw [h.cell (by simp), World.cell?_alloc_lt _ _ _ (by simp), World.cell?_alloc_at _ _ _ _ (by simp)]; rfl
  · rw [h.cell (by simp), World.cell?_alloc_at _ _ _ _ (by simp)]; rfl

set_option maxRecDepth 100000 in
set_option maxHeartbeats 2000000 in
theorem l1Same_any (N : Nat) : ∀ (s v : Int) (a : Option Addr) (c : Nat) (k : Fo) (s' v' : Int) (a' : Option Addr) (c' : Nat) (k' : Fo) (w : World), Sl w 0 w.heap.size a k → Sl w 0 w.heap.size a' k' → fsz k ≤ N → N ≤ 1000000 →
    Calls Try.prog 51 #[.agg #[.int .i64 s, .int .i64 v, .slice a (flen k) c], .agg #[.int .i64 s', .int .i64 v', .slice a' (flen k') c']] w fun e w' => e = .returned (.bool (teq s v k s' v' k')) ∧ Below w.heap.size w w' := by
  induction N using Nat.strongRecOn with
  | _ N ih =>
    intro s v a c k s' v' a' c' k' w hl hl' hN hN2
    have hfl := flen_le_sz k
    have IH := Lib.hid ih
    clear ih
    have hb0 : Below w.heap.size w ((w.alloc (.cells #[.int .i64 s, .int .i64 v, .slice a (flen k) c] 35)).alloc (.cells #[.int .i64 s', .int .i64 v', .slice a' (flen k') c'] 35)) := ((Below.refl _ _).alloc (Nat.le_refl _) _).alloc (by simp) _
    have HB0 := Lib.hid hb0
    clear hb0
    by_cases hs : s = s'
    case neg =>
      have e0 : (s != s') = true := by simp [hs]
      have HF := Lib.hid (teq_sign (v := v) (k := k) (v' := v') (k' := k') hs)
      clear hs
      go_enter Try.func51, Try.ntmps51
      go_wp2_with fail
      go_ret
      exact ⟨by rw [HF.out]; rfl, HB0.out⟩
    subst hs
    have e0 : (s != s) = false := by simp
    by_cases hv : v = v'
    case neg =>
      have e1 : (v != v') = true := by simp [hv]
      have HF := Lib.hid (teq_var (s := s) (k := k) (s' := s) (k' := k') hv)
      clear hv
      go_enter Try.func51, Try.ntmps51
      go_wp2_with fail
      go_ret
      exact ⟨by rw [HF.out]; rfl, HB0.out⟩
    subst hv
    have e1 : (v != v) = false := by simp
    by_cases hk : flen k = flen k'
    case neg =>
      have e2 : ((flen k : Int) != (flen k' : Int)) = true := by simp; omega
      have HF := Lib.hid (teq_len (s := s) (v := v) (s' := s) (v' := v) hk)
      clear hk
      go_enter Try.func51, Try.ntmps51
      go_wp2_with fail
      go_ret
      exact ⟨by rw [HF.out]; rfl, HB0.out⟩
    have e2 : ((flen k : Int) != (flen k' : Int)) = false := by simp [hk]
    have hkl : flen k ≤ flen k' := by omega
    have hkg : flen k' ≤ flen k := by omega
    clear hk
    rw [teq_kids]
    go_enter Try.func51, Try.ntmps51
    go_wp2_with fail
    go_loopw [5] (fun i wr => ∃ j : Nat, j ≤ flen k ∧ i = .int .i64 j ∧ Hid (feq k k' = feq (fdrop j k) (fdrop j k')) ∧ Below (w.heap.size + 2) ((w.alloc (.cells #[.int .i64 s, .int .i64 v, .slice a (flen k) c] 35)).alloc (.cells #[.int .i64 s, .int .i64 v, .slice a' (flen k') c'] 35)) wr) (fun i _ => flen k - (intOf i).toNat)
    case atStart => exact ⟨0, by omega, rfl, rfl, Below.refl _ _⟩
    case round =>
      obtain ⟨j, hj, rfl, hfe, hbl⟩ := hrel
      have hsr := hbl.size
      simp at hsr
      obtain ⟨hx2, hy2⟩ := boxes_SM hbl
      have hbw := HB0.out.trans (hbl.mono (show w.heap.size ≤ w.heap.size + 2 by omega))
      by_cases hlt : j < flen k
      · rcases hl with rfl | ⟨b, o, rfl, hrow⟩
        · simp [flen] at hlt
        rcases hl' with rfl | ⟨b', o', rfl, hrow'⟩
        · simp [flen] at hkl; omega
        obtain ⟨s1, v1, kk, a1, c1, ⟨x, y, hd⟩, _, hbB, hk0, hk1, hk2, hsl⟩ := row_at (hrow.below hbw) hlt
        obtain ⟨s2, v2, kk2, a2, c2, ⟨x2, y2, hd2⟩, _, hbB', hk3, hk4, hk5, hsl2⟩ := row_at (hrow'.below hbw) (show j < flen k' by omega)
        have hfd := feq_drop hd hd2
        have hkN := fsz_kid hd
        have HS := Lib.hid hsl
        have HS2 := Lib.hid hsl2
        have HBL := Lib.hid hbl
        clear hd hd2 hsl hsl2 hrow hrow' hbl hbw
        have g1 : (0 : Int) ≤ (j : Int) := by omega
        have g2 : (j : Int) < (flen k : Int) := by omega
        have g3 : (j : Int) < (flen k' : Int) := by omega
        have hu0 : ∀ u : After wr.heap.size wr, u.world.cell? ⟨b, o + j * 3, none⟩ = some (.int .i64 s1) := fun u => u.cell (by simp; omega) hk0
        have hu1 : ∀ u : After wr.heap.size wr, u.world.cell? ⟨b, o + j * 3 + 1, none⟩ = some (.int .i64 v1) := fun u => u.cell (by simp; omega) hk1
        have hu2 : ∀ u : After wr.heap.size wr, u.world.cell? ⟨b, o + j * 3 + 2, none⟩ = some (.slice a1 (flen kk) c1) := fun u => u.cell (by simp; omega) hk2
        have hu3 : ∀ u : After wr.heap.size wr, u.world.cell? ⟨b', o' + j * 3, none⟩ = some (.int .i64 s2) := fun u => u.cell (by simp; omega) hk3
        have hu4 : ∀ u : After wr.heap.size wr, u.world.cell? ⟨b', o' + j * 3 + 1, none⟩ = some (.int .i64 v2) := fun u => u.cell (by simp; omega) hk4
        have hu5 : ∀ u : After wr.heap.size wr, u.world.cell? ⟨b', o' + j * 3 + 2, none⟩ = some (.slice a2 (flen kk2) c2) := fun u => u.cell (by simp; omega) hk5
        have hu6 : ∀ u : After wr.heap.size wr, u.world.cell? ⟨w.heap.size, 2, none⟩ = some (.slice (some ⟨b, o, none⟩) (flen k) c) := fun u => u.cell (by simp; omega) hx2
        have hu7 : ∀ u : After wr.heap.size wr, u.world.cell? ⟨w.heap.size + 1, 2, none⟩ = some (.slice (some ⟨b', o', none⟩) (flen k') c') := fun u => u.cell (by simp; omega) hy2
        have HCALL : Hid (∀ u : After wr.heap.size wr, Calls Try.prog 51 #[.agg #[.int .i64 s1, .int .i64 v1, .slice a1 (flen kk) c1], .agg #[.int .i64 s2, .int .i64 v2, .slice a2 (flen kk2) c2]] u.world fun e w' => e = .returned (.bool (teq s1 v1 kk s2 v2 kk2)) ∧ Below u.world.heap.size u.world w') := fun u => by
          have hu := u.below
          have hus := hu.size
          refine IH.out (fsz kk) (by omega) s1 v1 a1 c1 kk s2 v2 a2 c2 kk2 u.world ?_ ?_ (Nat.le_refl _) (by omega)
          · exact (HS.out.below (hu.mono (by omega))).mono (Nat.le_refl _) (by omega)
          · exact (HS2.out.below (hu.mono (by omega))).mono (Nat.le_refl _) (by omega)
        cases hte : teq s1 v1 kk s2 v2 kk2 with
        | true =>
          have HFE : Hid (feq k k' = feq (fdrop (j + 1) k) (fdrop (j + 1) k')) := by unfold Hid; rw [hfe.out, hfd, hte, Bool.true_and]
          rw [hte] at HCALL
          clear hfe hfd hte
          go_wp2_with fail
          refine wp_region_after wr.heap.size (by kernel_rfl) (by kernel_rfl) ?_
          repeat (go_big_quiet_step ((go_at_call 51; exact Calls.after (After.below ‹_›).size (HCALL.out _))))
          refine wpQuiet_nil ?_
          rintro u ⟨⟨_, hu⟩, rfl⟩
          clear hu0 hu1 hu2 hu3 hu4 hu5 hu6 hu7 hk0 hk1 hk2 hk3 hk4 hk5 hx2 hy2
          have HB2 := Lib.hid (HBL.out.trans (hu.mono hsr))
          clear hu
          go_wp2_with fail
          go_roundw
          case rel => exact ⟨j + 1, by omega, by go_num, HFE, HB2.out⟩
          case measure => simp [intOf]; omega
        | false =>
          have HFE : Hid (feq k k' = false) := by unfold Hid; rw [hfe.out, hfd, hte, Bool.false_and]
          rw [hte] at HCALL
          clear hfe hfd hte
          go_wp2_with fail
          refine wp_region_after wr.heap.size (by kernel_rfl) (by kernel_rfl) ?_
          repeat (go_big_quiet_step ((go_at_call 51; exact Calls.after (After.below ‹_›).size (HCALL.out _))))
          refine wpQuiet_nil ?_
          rintro u ⟨⟨_, hu⟩, rfl⟩
          clear hu0 hu1 hu2 hu3 hu4 hu5 hu6 hu7 hk0 hk1 hk2 hk3 hk4 hk5 hx2 hy2
          have HB2 := Lib.hid (HB0.out.trans ((HBL.out.trans (hu.mono hsr)).mono (by omega)))
          clear hu
          go_wp2_with fail
          go_ret
          exact ⟨by rw [HFE.out]; rfl, HB2.out⟩
      · have HBW := Lib.hid hbw
        have HFE : Hid (feq k k' = true) := by unfold Hid; rw [hfe.out, fdrop_all (by omega), fdrop_all (by omega)]; rfl
        clear hbw hbl hfe
        go_wp2_with fail
        go_ret
        exact ⟨by rw [HFE.out]; rfl, HBW.out⟩
end Go.Proofs.Ytoafleckcjanaaa
