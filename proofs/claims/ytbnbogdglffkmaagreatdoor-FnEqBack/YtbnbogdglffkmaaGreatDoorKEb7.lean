/- Several texts in one: A2, A3, S6, C1. -/
import Derived.Test.YtbnbogdglffkmaaGreatDoorKEb2
import Derived.Test.YtbnbogdglffkmaaGreatDoorKEb6
import Derived.Test.YtbnbogdglffkmaaGreatDoorKEb4
import Derived.Deep.OwnRows

/-! A2: The term that a node stands for, made anew. -/
namespace Go.Proofs.YtbnbogdglffkmaaGreatDoor
open Go.RowKit Go.Deep
attribute [local go_sem ↓] Go.wp_at_zero Go.wp_at_succ

def TmPost (s v : Int) (k : Fo) (w : World) (e : Ending) (w' : World) : Prop :=
  ∃ a c, e = .returned (.agg #[.int .i64 s, .int .i64 v, .slice a (flen k) c]) ∧ Below w.heap.size w w' ∧ Sl w' w.heap.size w'.heap.size a k

set_option maxRecDepth 100000 in
set_option maxHeartbeats 1000000 in
theorem varTerm_any (v : Int) (w : World) : Calls Tryz.prog 115 #[.int .i64 v] w (TmPost 0 v .nil w) := by
  go_enter Tryz.func115, Tryz.ntmps115
  go_wp2_with fail
  refine bodyPost_ret (v := .agg #[.int .i64 0, .int .i64 v, .slice none 0 0]) ?_ rfl ⟨none, 0, rfl, (Below.refl _ _).alloc (Nat.le_refl _) _, .inl rfl⟩
  simp [results, Tryz.results115, go_sem]

theorem make_termsA (n : Nat) (hn : n ≤ 1048576) (w : World) :
    (Instr.makeSlice 23 (.int .i64 (n : Int)) (.int .i64 (n : Int))).run Tryz.prog w = .ok (.slice (some ⟨w.heap.size, 0, none⟩) n n) (w.alloc (.cells (madeCells #[.int .i64 0, .int .i64 0, .slice none 0 0] (n * 3)) 25)) := by
  obtain ⟨i, hi, hz, hs, hb⟩ := Tryz.infoTerm
  have := run_make (P := Tryz.prog) w 23 25 i _ Tryz.underlying23 hi hz .i64 .i64 (n : Int) (n : Int) (by omega) (by omega) (by rw [hb]; omega) (by omega)
  rw [hs] at this
  simpa [Value.cells] using this
theorem made_atA (n i : Nat) (z : Array Value) (h : i < n) : (madeCells z n)[i]? = some (z[i % z.size]!) := by simp [madeCells, h]

/-- What holds at the head of term's loop: the first j kids are made. -/
structure TmAt (w : World) (s : Int) (k : Fo) (j : Nat) (wr : World) : Prop where
  below : Below w.heap.size w wr
  size : w.heap.size + 4 ≤ wr.heap.size
  t0 : wr.cell? ⟨w.heap.size + 1 + 1, 0, none⟩ = some (.int .i64 s)
  t1 : wr.cell? ⟨w.heap.size + 1 + 1, 1, none⟩ = some (.int .i64 0)
  t2 : wr.cell? ⟨w.heap.size + 1 + 1, 2, none⟩ = some (.slice (some ⟨w.heap.size + 1 + 1 + 1, 0, none⟩) (flen k) (flen k))
  r0 : wr.cell? ⟨w.heap.size + 1, 0, none⟩ = some (.int .i64 0)
  r1 : wr.cell? ⟨w.heap.size + 1, 1, none⟩ = some (.int .i64 0)
  r2 : wr.cell? ⟨w.heap.size + 1, 2, none⟩ = some (.slice none 0 0)
  q0 : wr.frozen? ⟨w.heap.size + 1, 0, none⟩ = false
  q1 : wr.frozen? ⟨w.heap.size + 1, 1, none⟩ = false
  q2 : wr.frozen? ⟨w.heap.size + 1, 2, none⟩ = false
  row : ∃ f : Nat → Value, wr.rowIs (w.heap.size + 1 + 1 + 1) 25 (flen k * 3) f ∧ ∀ i, i < j → ∃ x y s v kk a c, fdrop i k = .node x y (s, v) kk (fdrop (i + 1) k) ∧
    f (i * 3) = .int .i64 s ∧ f (i * 3 + 1) = .int .i64 v ∧ f (i * 3 + 2) = .slice a (flen kk) c ∧ Sl wr (w.heap.size + 4) wr.heap.size a kk

theorem TmAt.start (w : World) (s : Int) (k : Fo) (x : Value) (y : Value) : TmAt w s k 0 ((((w.alloc (.cells #[x, y] 83)).alloc (.cells #[.int .i64 0, .int .i64 0, .slice none 0 0] 25)).alloc (.cells #[.int .i64 s, .int .i64 0, .slice (some ⟨w.heap.size + 1 + 1 + 1, 0, none⟩) (flen k) (flen k)] 25)).alloc (.cells (madeCells #[.int .i64 0, .int .i64 0, .slice none 0 0] (flen k * 3)) 25)) := by
  refine ⟨((((Below.refl _ _).alloc (Nat.le_refl _) _).alloc (by simp) _).alloc (by simp; omega) _).alloc (by simp; omega) _, by simp, ?_, ?_, ?_, ?_, ?_, ?_, ?_, ?_, ?_, ?_⟩
  · rw [World.cell?_alloc_lt _ _ _ (by simp), World.cell?_alloc_at _ _ _ _ (by simp)]; rfl
  · rw [World.cell?_alloc_lt _ _ _ (by simp), World.cell?_alloc_at _ _ _ _ (by simp)]; rfl
  · rw [World.cell?_alloc_lt _ _ _ (by simp), World.cell?_alloc_at _ _ _ _ (by simp)]; rfl
  · rw [World.cell?_alloc_lt _ _ _ (by simp), World.cell?_alloc_lt _ _ _ (by simp), World.cell?_alloc_at _ _ _ _ (by simp)]; rfl
  · rw [World.cell?_alloc_lt _ _ _ (by simp), World.cell?_alloc_lt _ _ _ (by simp), World.cell?_alloc_at _ _ _ _ (by simp)]; rfl
  · rw [World.cell?_alloc_lt _ _ _ (by simp), World.cell?_alloc_lt _ _ _ (by simp), World.cell?_alloc_at _ _ _ _ (by simp)]; rfl
  · rw [World.frozen?_alloc_past _ _ _ (by simp), World.frozen?_alloc_past _ _ _ (by simp), World.frozen?_alloc_at _ _ _ _ (by simp)]
  · rw [World.frozen?_alloc_past _ _ _ (by simp), World.frozen?_alloc_past _ _ _ (by simp), World.frozen?_alloc_at _ _ _ _ (by simp)]
  · rw [World.frozen?_alloc_past _ _ _ (by simp), World.frozen?_alloc_past _ _ _ (by simp), World.frozen?_alloc_at _ _ _ _ (by simp)]
  · refine ⟨fun i => #[Value.int .i64 0, .int .i64 0, .slice none 0 0][i % 3]!, ?_, fun i hi => by omega⟩
    have := World.rowIs_alloc (((w.alloc (.cells #[x, y] 83)).alloc (.cells #[.int .i64 0, .int .i64 0, .slice none 0 0] 25)).alloc (.cells #[.int .i64 s, .int .i64 0, .slice (some ⟨w.heap.size + 1 + 1 + 1, 0, none⟩) (flen k) (flen k)] 25)) (madeCells #[.int .i64 0, .int .i64 0, .slice none 0 0] (flen k * 3)) 25 (fun i => #[Value.int .i64 0, .int .i64 0, .slice none 0 0][i % 3]!) (fun i hi => by
      rw [size_madeCells] at hi
      exact made_atA _ _ _ hi)
    rw [size_madeCells] at this
    simp only [World.size_alloc] at this
    exact this
theorem TmAt.step {w wr w2 : World} {s0 : Int} {k : Fo} {j x y : Nat} {s v : Int} {kk : Fo} {a : Option Addr} {c : Nat} (h : TmAt w s0 k j wr) (hd : fdrop j k = .node x y (s, v) kk (fdrop (j + 1) k)) (hb : Below wr.heap.size wr w2) (hl : Sl w2 wr.heap.size w2.heap.size a kk) :
    TmAt w s0 k (j + 1) (((w2.setCell ⟨w.heap.size + 1 + 1 + 1, j * 3, none⟩ (.int .i64 s)).setCell ⟨w.heap.size + 1 + 1 + 1, j * 3 + 1, none⟩ (.int .i64 v)).setCell ⟨w.heap.size + 1 + 1 + 1, j * 3 + 2, none⟩ (.slice a (flen kk) c)) := by
  have hs := h.size
  have hs2 := hb.size
  obtain ⟨f, hf, hall⟩ := h.row
  have hf2 := hf.of_block (hb.block _ (by omega))
  have hsame : ∀ {L H : Nat}, w.heap.size + 3 < L → Same L H w2 (((w2.setCell ⟨w.heap.size + 1 + 1 + 1, j * 3, none⟩ (.int .i64 s)).setCell ⟨w.heap.size + 1 + 1 + 1, j * 3 + 1, none⟩ (.int .i64 v)).setCell ⟨w.heap.size + 1 + 1 + 1, j * 3 + 2, none⟩ (.slice a (flen kk) c)) := fun hL =>
    ((Same.setCell (fun _ _ _ => rfl) (.inl (by simp; omega)) _).setCell (.inl (by simp; omega)) _).setCell (.inl (by simp; omega)) _
  have hcell : ∀ {q : Addr} {u : Value}, wr.cell? q = some u → q.block < w.heap.size + 3 → (((w2.setCell ⟨w.heap.size + 1 + 1 + 1, j * 3, none⟩ (.int .i64 s)).setCell ⟨w.heap.size + 1 + 1 + 1, j * 3 + 1, none⟩ (.int .i64 v)).setCell ⟨w.heap.size + 1 + 1 + 1, j * 3 + 2, none⟩ (.slice a (flen kk) c)).cell? q = some u := fun {q u} hq hlt => by
    rw [World.cell?_setCell_other _ _ _ _ (by intro h'; have := congrArg Addr.block h'; simp at this; omega), World.cell?_setCell_other _ _ _ _ (by intro h'; have := congrArg Addr.block h'; simp at this; omega), World.cell?_setCell_other _ _ _ _ (by intro h'; have := congrArg Addr.block h'; simp at this; omega), hb.cell (World.block_lt_of_cell? _ _ hq)]
    exact hq
  have hfro : ∀ {q : Addr}, wr.frozen? q = false → q.block < w.heap.size + 3 → (((w2.setCell ⟨w.heap.size + 1 + 1 + 1, j * 3, none⟩ (.int .i64 s)).setCell ⟨w.heap.size + 1 + 1 + 1, j * 3 + 1, none⟩ (.int .i64 v)).setCell ⟨w.heap.size + 1 + 1 + 1, j * 3 + 2, none⟩ (.slice a (flen kk) c)).frozen? q = false := fun {q} hq hlt => by
    rw [World.frozen?_setCell, World.frozen?_setCell, World.frozen?_setCell, hb.frozen (by omega)]
    exact hq
  refine ⟨(((h.below.trans (hb.mono (by omega))).setCell (by simp; omega) _).setCell (by simp; omega) _).setCell (by simp; omega) _, by simp; omega, hcell h.t0 (by simp), hcell h.t1 (by simp), hcell h.t2 (by simp), hcell h.r0 (by simp), hcell h.r1 (by simp), hcell h.r2 (by simp), hfro h.q0 (by simp), hfro h.q1 (by simp), hfro h.q2 (by simp), ⟨_, ((hf2.set _ _).set _ _).set _ _, fun i hi => ?_⟩⟩
  by_cases hij : i = j
  · subst hij
    exact ⟨x, y, s, v, kk, a, c, hd, by simp, by simp, by simp, (hl.same (hsame (by omega))).mono (by omega) (by simp)⟩
  · obtain ⟨x', y', s', v', k', a', c', e, h0, h1, h2, hsl⟩ := hall i (by omega)
    refine ⟨x', y', s', v', k', a', c', e, ?_, ?_, ?_, ((hsl.same (fun b h1 h2 => hb.block b h2)).same (hsame (by omega))).mono (Nat.le_refl _) (by simp; omega)⟩
    · rw [if_neg (by omega), if_neg (by omega), if_neg (by omega)]; exact h0
    · rw [if_neg (by omega), if_neg (by omega), if_neg (by omega)]; exact h1
    · rw [if_neg (by omega), if_neg (by omega), if_neg (by omega)]; exact h2
theorem TmAt.sl {w wr : World} {s : Int} {k : Fo} {j : Nat} (h : TmAt w s k j wr) (hj : flen k ≤ j) : Sl wr (w.heap.size + 3) wr.heap.size (some ⟨w.heap.size + 1 + 1 + 1, 0, none⟩) k := by
  have hs := h.size
  obtain ⟨f, hf, hall⟩ := h.row
  refine .inr ⟨_, 0, rfl, row_of_all k _ 0 (by omega) (by omega) fun i hi => ?_⟩
  obtain ⟨x, y, s, v, kk, a, c, e, h0, h1, h2, hs⟩ := hall i (by omega)
  refine ⟨x, y, s, v, kk, a, c, e, ?_, ?_, ?_, hs.mono (by omega) (Nat.le_refl _)⟩
  · rw [Nat.zero_add, ← h0]; exact hf.cell (by omega)
  · rw [Nat.zero_add, ← h1]; exact hf.cell (by omega)
  · rw [Nat.zero_add, ← h2]; exact hf.cell (by omega)
theorem tm_end {w w1 : World} {s v : Int} {k : Fo} {a : Option Addr} {c : Nat} (hb : Below w.heap.size w w1) (hl : Sl w1 (w.heap.size + 3) w1.heap.size a k) (x y z : Value) :
    TmPost s v k w (.returned (.agg #[.int .i64 s, .int .i64 v, .slice a (flen k) c])) (((w1.setCell ⟨w.heap.size + 1, 0, none⟩ x).setCell ⟨w.heap.size + 1, 1, none⟩ y).setCell ⟨w.heap.size + 1, 2, none⟩ z) := by
  refine ⟨a, c, rfl, ((hb.setCell (by simp) _).setCell (by simp) _).setCell (by simp) _, ?_⟩
  have hs : Same (w.heap.size + 3) w1.heap.size w1 (((w1.setCell ⟨w.heap.size + 1, 0, none⟩ x).setCell ⟨w.heap.size + 1, 1, none⟩ y).setCell ⟨w.heap.size + 1, 2, none⟩ z) :=
    (((Same.setCell (fun _ _ _ => rfl) (.inl (by simp)) _).setCell (.inl (by simp)) _).setCell (.inl (by simp)) _)
  exact (hl.same hs).mono (by omega) (by simp)

set_option maxRecDepth 100000 in
set_option maxHeartbeats 1000000 in
theorem symTerm_any (N : Nat) : ∀ (s : Int) (a : Option Addr) (c : Nat) (k : Fo) (w : World), NSl w 0 w.heap.size a k → fok k = true → fsz k ≤ N → N ≤ 1000000 →
    Calls Tryz.prog 118 #[.agg #[.int .i64 s, .slice a (flen k) c]] w (TmPost s 0 k w) := by
  induction N using Nat.strongRecOn with
  | _ N ih =>
    intro s a c k w hl hok hN hN2
    have hfl := flen_le_sz k
    have IH := Lib.hid ih
    have HOK := Lib.hid hok
    clear ih hok
    by_cases h0 : flen k = 0
    · have hk : k = .nil := by
        cases k with
        | nil => rfl
        | node _ _ _ _ _ => simp [flen] at h0
      subst hk
      clear hl h0
      simp only [flen]
      go_enter Tryz.func118, Tryz.ntmps118
      go_wp2_with fail
      go_loopw [21] (fun i wr => i = .int .i64 0 ∧ wr = (((w.alloc (.cells #[.int .i64 s, .slice a 0 c] 83)).alloc (.cells #[.int .i64 0, .int .i64 0, .slice none 0 0] 25)).alloc (.cells #[.int .i64 s, .int .i64 0, .slice none 0 0] 25))) (fun _ _ => 0)
      case atStart => exact ⟨rfl, rfl⟩
      case round =>
        obtain ⟨rfl, rfl⟩ := hrel
        go_wp2_with fail
        refine bodyPost_ret (v := .agg #[.int .i64 s, .int .i64 0, .slice none 0 0]) ?_ rfl ⟨none, 0, rfl, (((Below.refl _ _).alloc (Nat.le_refl _) _).alloc (by simp) _).alloc (by simp; omega) _, .inl rfl⟩
        simp [results, Tryz.results118, go_sem]
    · have hmk := make_termsA (flen k) (by omega)
      have HST := Lib.hid (TmAt.start w s k (.int .i64 s) (.slice a (flen k) c))
      have hpos : 0 < flen k := by omega
      go_enter Tryz.func118, Tryz.ntmps118
      go_wp2_with fail
      clear hmk
      go_loopw [21] (fun i wr => ∃ j : Nat, j ≤ flen k ∧ i = .int .i64 j ∧ TmAt w s k j wr) (fun i _ => flen k - (intOf i).toNat)
      case atStart => exact ⟨0, by omega, rfl, HST.out⟩
      case round =>
        clear HST
        obtain ⟨j, hj, rfl, hat⟩ := hrel
        have hsr := hat.size
        by_cases hlt : j < flen k
        · rcases hl with rfl | ⟨b, o, rfl, hrow⟩
          · simp [flen] at hlt
          obtain ⟨s', v', kk, val, ⟨x, y, hd⟩, _, hbB, hk0, hn⟩ := nrow_at (hrow.below hat.below) hlt
          have hkN := fsz_kid hd
          have hkok := fok_kid HOK.out hd
          have ht2 := hat.t2
          have hu0 : ∀ u : After wr.heap.size wr, u.world.cell? ⟨w.heap.size + 1 + 1, 2, none⟩ = some (.slice (some ⟨w.heap.size + 1 + 1 + 1, 0, none⟩) (flen k) (flen k)) := fun u => u.cell (by simp; omega) ht2
          have g1 : (0 : Int) ≤ (j : Int) := by omega
          have g2 : (j : Int) < (flen k : Int) := by omega
          have HAT := Lib.hid hat
          have HD := Lib.hid hd
          clear hd hrow hat
          rcases hn with ⟨rfl, rfl, rfl⟩ | ⟨hs', a2, c2, rfl, hn2⟩
          · clear hkok
            go_wp2_with fail
            refine wp_region_mix (fun w' => ∃ u : After wr.heap.size wr, w' = u.world) [6] [(0, 0), (1, 0), (2, 0), (3, 0), (4, 1), (5, 1), (6, 2)] (by kernel_rfl) (by kernel_rfl) ⟨⟨_, (Below.refl _ _).drew⟩, rfl⟩ ?_
            iterate 4
              refine mix_see rfl (fun K hK => ?_)
              go_simp
              refine hK _ ?_
              clear hK K
            clear hu0
            refine mix_hold rfl (fun K hK => ?_)
            go_simp
            refine upon_method 115 (by kernel_rfl) (by kernel_rfl) ?_
            go_simp
            with_reducible refine (varTerm_any v' _).mono ?_
            rintro e w2 ⟨a2', c2', rfl, hb2', hl2⟩
            have hb2 : Below wr.heap.size wr w2 := bl_undrew hb2'
            obtain ⟨f, hf, _⟩ := HAT.out.row
            have hf2 := hf.of_block (hb2.block _ (by omega))
            have hg0 := hf2.cell (i := j * 3) (by omega)
            have hg1 := hf2.cell (i := j * 3 + 1) (by omega)
            have hg2 := hf2.cell (i := j * 3 + 2) (by omega)
            have hz0 := hf2.frozen (j * 3)
            have hz1 := hf2.frozen (j * 3 + 1)
            have hz2 := hf2.frozen (j * 3 + 2)
            have HSTEP := Lib.hid (HAT.out.step (c := c2') HD.out hb2 hl2)
            refine hK _ _ ⟨⟨_, hb2⟩, rfl⟩ ?_
            clear hK K hf hf2 hb2' hl2
            refine mix_hold rfl (fun K hK => ?_)
            go_simp
            refine hK _ _ ⟨⟨_, hb2⟩, rfl⟩ ?_
            clear hK K hb2
            refine mix_late rfl (fun K hK => ?_)
            go_simp
            refine hK _ _ ?_
            clear hK K
            refine mix_end ?_
            clear hg0 hg1 hg2 hz0 hz1 hz2 ht2 hk0
            go_wp2_with fail
            go_roundw
            case rel => exact ⟨j + 1, by omega, by go_num, HSTEP.out⟩
            case measure => simp [intOf]; omega
          · have hv0 : v' = 0 := ((okN_iff _ _ _).1 hkok.1).2.2 hs'
            subst hv0
            have HKK := Lib.hid hkok.2
            have HN2 := Lib.hid hn2
            clear hn2 hkok
            go_wp2_with fail
            refine wp_region_mix (fun w' => ∃ u : After wr.heap.size wr, w' = u.world) [6] [(0, 0), (1, 0), (2, 0), (3, 0), (4, 1), (5, 1), (6, 2)] (by kernel_rfl) (by kernel_rfl) ⟨⟨_, (Below.refl _ _).drew⟩, rfl⟩ ?_
            iterate 4
              refine mix_see rfl (fun K hK => ?_)
              go_simp
              refine hK _ ?_
              clear hK K
            clear hu0
            refine mix_hold rfl (fun K hK => ?_)
            go_simp
            refine upon_method 118 (by kernel_rfl) (by kernel_rfl) ?_
            go_simp
            with_reducible refine (IH.out (fsz kk) (by omega) s' a2 c2 kk _ ?_ HKK.out (Nat.le_refl _) (by omega)).mono ?_
            · exact (HN2.out.below (Below.refl _ _).drew).mono (Nat.le_refl _) (by simp; omega)
            rintro e w2 ⟨a2', c2', rfl, hb2', hl2⟩
            have hb2 : Below wr.heap.size wr w2 := bl_undrew hb2'
            obtain ⟨f, hf, _⟩ := HAT.out.row
            have hf2 := hf.of_block (hb2.block _ (by omega))
            have hg0 := hf2.cell (i := j * 3) (by omega)
            have hg1 := hf2.cell (i := j * 3 + 1) (by omega)
            have hg2 := hf2.cell (i := j * 3 + 2) (by omega)
            have hz0 := hf2.frozen (j * 3)
            have hz1 := hf2.frozen (j * 3 + 1)
            have hz2 := hf2.frozen (j * 3 + 2)
            have HSTEP := Lib.hid (HAT.out.step (c := c2') HD.out hb2 hl2)
            refine hK _ _ ⟨⟨_, hb2⟩, rfl⟩ ?_
            clear hK K hf hf2 hb2' hl2
            refine mix_hold rfl (fun K hK => ?_)
            go_simp
            refine hK _ _ ⟨⟨_, hb2⟩, rfl⟩ ?_
            clear hK K hb2
            refine mix_late rfl (fun K hK => ?_)
            go_simp
            refine hK _ _ ?_
            clear hK K
            refine mix_end ?_
            clear hg0 hg1 hg2 hz0 hz1 hz2 ht2 hk0
            go_wp2_with fail
            go_roundw
            case rel => exact ⟨j + 1, by omega, by go_num, HSTEP.out⟩
            case measure => simp [intOf]; omega
        · have hjk : j = flen k := by omega
          subst hjk
          have HDN := Lib.hid (fun x y z => tm_end (s := s) (v := 0) (c := flen k) hat.below (hat.sl (Nat.le_refl _)) x y z)
          have ht0 := hat.t0
          have ht1 := hat.t1
          have ht2 := hat.t2
          have hr0 := hat.r0
          have hr1 := hat.r1
          have hr2 := hat.r2
          have hq0 := hat.q0
          have hq1 := hat.q1
          have hq2 := hat.q2
          clear hat
          go_wp2_with fail
          refine bodyPost_ret (v := .agg #[.int .i64 s, .int .i64 0, .slice (some ⟨w.heap.size + 1 + 1 + 1, 0, none⟩) (flen k) (flen k)]) ?_ rfl (HDN.out _ _ _)
          simp [results, Tryz.results118, go_sem, hr0, hr1, hr2]
end Go.Proofs.YtbnbogdglffkmaaGreatDoor

/-! A3: - impl.TermAt: what stands at a place of a term, made anew. -/
namespace Go.Proofs.YtbnbogdglffkmaaGreatDoor
open Go.RowKit Go.Deep

/-- TermAt's answer. -/
def atR (s v : Int) (k : Fo) (place : List Int) : Int × Int × Fo × Bool :=
  if okW s v k 16 = true then (match fat s v k place with
    | some (s', v', k') => (s', v', k', true)
    | none => (0, 0, .nil, false)) else (0, 0, .nil, false)

def AtPost (s v : Int) (k : Fo) (place : List Int) (w : World) (e : Ending) (w' : World) : Prop :=
  ∃ a c s' v' k' t, atR s v k place = (s', v', k', t) ∧ e = .returned (.tuple #[.agg #[.int .i64 s', .int .i64 v', .slice a (flen k') c], .bool t]) ∧ Below w.heap.size w w' ∧ Sl w' w.heap.size w'.heap.size a k'

theorem fat_ok : ∀ (place : List Int) (s v : Int) (k : Fo) {s' v' : Int} {k' : Fo}, okN s v (flen k) = true → fok k = true → fat s v k place = some (s', v', k') → okN s' v' (flen k') = true ∧ fok k' = true ∧ fsz k' ≤ fsz k
  | [], s, v, k, s', v', k', h1, h2, h => by
    simp only [fat, Option.some.injEq, Prod.mk.injEq] at h
    obtain ⟨rfl, rfl, rfl⟩ := h
    exact ⟨h1, h2, Nat.le_refl _⟩
  | i :: ps, s, v, k, s', v', k', h1, h2, h => by
    simp only [fat] at h
    split at h
    · split at h
      · rename_i x y s2 v2 kk r hd
        have hk := fok_kid h2 hd
        have hs := fsz_kid hd
        have := fat_ok ps s2 v2 kk hk.1 hk.2 h
        exact ⟨this.1, this.2.1, by omega⟩
      · cases h
    · cases h

theorem at_end {w w1 : World} {s v s' v' : Int} {k k' : Fo} {t : Bool} {place : List Int} {a : Option Addr} {c : Nat} (hr : atR s v k place = (s', v', k', t)) (hb : Below w.heap.size w w1) (hl : Sl w1 (w.heap.size + 2) w1.heap.size a k') (x y z : Value) :
    AtPost s v k place w (.returned (.tuple #[.agg #[.int .i64 s', .int .i64 v', .slice a (flen k') c], .bool t])) (((w1.setCell ⟨w.heap.size + 1, 0, none⟩ x).setCell ⟨w.heap.size + 1, 1, none⟩ y).setCell ⟨w.heap.size + 1, 2, none⟩ z) := by
  refine ⟨a, c, s', v', k', t, hr, rfl, ((hb.setCell (by simp) _).setCell (by simp) _).setCell (by simp) _, ?_⟩
  have hs : Same (w.heap.size + 2) w1.heap.size w1 (((w1.setCell ⟨w.heap.size + 1, 0, none⟩ x).setCell ⟨w.heap.size + 1, 1, none⟩ y).setCell ⟨w.heap.size + 1, 2, none⟩ z) :=
    (((Same.setCell (fun _ _ _ => rfl) (.inl (by simp)) _).setCell (.inl (by simp)) _).setCell (.inl (by simp)) _)
  exact (hl.same hs).mono (by omega) (by simp)

/-- The cells that hold TermAt's answer. -/
theorem at_cells {w w1 : World} {o : Obj} (hb : Below (w.heap.size + 2) ((w.alloc o).alloc (.cells #[.int .i64 0, .int .i64 0, .slice none 0 0] 25)) w1) :
    w1.cell? ⟨w.heap.size + 1, 0, none⟩ = some (.int .i64 0) ∧ w1.cell? ⟨w.heap.size + 1, 1, none⟩ = some (.int .i64 0) ∧ w1.cell? ⟨w.heap.size + 1, 2, none⟩ = some (.slice none 0 0) ∧
      w1.frozen? ⟨w.heap.size + 1, 0, none⟩ = false ∧ w1.frozen? ⟨w.heap.size + 1, 1, none⟩ = false ∧ w1.frozen? ⟨w.heap.size + 1, 2, none⟩ = false := by
  refine ⟨?_, ?_, ?_, ?_, ?_, ?_⟩
  · rw [hb.cell (by simp), World.cell?_alloc_at _ _ _ _ (by simp)]; rfl
  · rw [hb.cell (by simp), World.cell?_alloc_at _ _ _ _ (by simp)]; rfl
  · rw [hb.cell (by simp), World.cell?_alloc_at _ _ _ _ (by simp)]; rfl
  · rw [hb.frozen (by simp), World.frozen?_alloc_at _ _ _ _ (by simp)]
  · rw [hb.frozen (by simp), World.frozen?_alloc_at _ _ _ _ (by simp)]
  · rw [hb.frozen (by simp), World.frozen?_alloc_at _ _ _ _ (by simp)]

end Go.Proofs.YtbnbogdglffkmaaGreatDoor

/-! S6: - impl.SubstDo. -/
namespace Go.Proofs.YtbnbogdglffkmaaGreatDoor
open Go.RowKit Go.Deep Go.Maps

theorem fsub_sz {σ : Int → Option (Int × Int × Fo)} (h : ∀ x t, σ x = some t → fsz t.2.2 ≤ 15) : ∀ k : Fo, fsz (fsub σ k) ≤ 16 * fsz k
  | .nil => by simp [fsub, fsz]
  | .node _ _ p k r => by
    have h1 := fsub_sz h k
    have h2 := fsub_sz h r
    simp only [fsub]
    split
    · split
      · rename_i t ht
        have := h _ _ ht
        simp only [fsz]; omega
      · simp only [fsz]; omega
    · simp only [fsz]; omega
theorem fsub_ok {σ : Int → Option (Int × Int × Fo)} (h : ∀ x t, σ x = some t → okN t.1 t.2.1 (flen t.2.2) = true ∧ fok t.2.2 = true) : ∀ k : Fo, fok k = true → fok (fsub σ k) = true
  | .nil, _ => rfl
  | .node _ _ p k r, hk => by
    simp only [fok, Bool.and_eq_true] at hk
    have h1 := fsub_ok h k hk.1.2
    have h2 := fsub_ok h r hk.2
    simp only [fsub]
    split
    · split
      · rename_i t ht
        have := h _ _ ht
        simp only [fok, Bool.and_eq_true]
        exact ⟨⟨this.1, this.2⟩, h2⟩
      · simp only [fok, Bool.and_eq_true]
        exact ⟨⟨hk.1.1, hk.1.2⟩, h2⟩
    · simp only [fok, Bool.and_eq_true, fsub_len]
      exact ⟨⟨hk.1.1, h1⟩, h2⟩
theorem sv_ok {room : Int} : ∀ (bs : List Bd) (last : Int), sokFrom room last bs = true → ∀ x t, sv bs x = some t → okW t.1 t.2.1 t.2.2 room = true
  | [], _, _, _, _, h => by simp [sv] at h
  | y :: r, last, hs, x, t, h => by
    simp only [sokFrom, Bool.and_eq_true] at hs
    simp only [sv] at h
    split at h
    · obtain rfl := Option.some.inj h; exact hs.1
    · exact sv_ok r y.1 hs.2.2.2 x t h
/-- The answer of SubstDo. -/
def sdR (bs : List Bd) (s v : Int) (k : Fo) : Int × Int × Fo × Bool :=
  if sok 16 bs = true ∧ okW s v k 16 = true ∧ 1 + fsz (tsub (sv bs) s v k).2.2 ≤ 16 then ((tsub (sv bs) s v k).1, (tsub (sv bs) s v k).2.1, (tsub (sv bs) s v k).2.2, true) else (0, 0, .nil, false)
theorem tsub_ok {bs : List Bd} {s v : Int} {k : Fo} (hs : sok 16 bs = true) (ho : okW s v k 16 = true) : okN (tsub (sv bs) s v k).1 (tsub (sv bs) s v k).2.1 (flen (tsub (sv bs) s v k).2.2) = true ∧ fok (tsub (sv bs) s v k).2.2 = true ∧ fsz (tsub (sv bs) s v k).2.2 ≤ 1000 := by
  obtain ⟨o1, o2, o3⟩ := (okW_iff _ _ _ _).1 ho
  have hsv := sv_ok bs (-1) hs
  have h1 : ∀ x t, sv bs x = some t → okN t.1 t.2.1 (flen t.2.2) = true ∧ fok t.2.2 = true := fun x t ht => by have := (okW_iff _ _ _ _).1 (hsv x t ht); exact ⟨this.1, this.2.1⟩
  have h2 : ∀ x t, sv bs x = some t → fsz t.2.2 ≤ 15 := fun x t ht => by have := (okW_iff _ _ _ _).1 (hsv x t ht); omega
  unfold tsub
  by_cases e : s = 0
  · rw [if_pos e]
    cases ht : sv bs v with
    | none => exact ⟨o1, o2, by simp only [Option.getD]; omega⟩
    | some t => simp only [Option.getD]; exact ⟨(h1 v t ht).1, (h1 v t ht).2, by have := h2 v t ht; omega⟩
  · rw [if_neg e]
    refine ⟨by dsimp only; rw [fsub_len]; exact o1, fsub_ok h1 k o2, ?_⟩
    have := fsub_sz h2 k
    dsimp only; omega

def SdPost (bs : List Bd) (s v : Int) (k : Fo) (w : World) (e : Ending) (w' : World) : Prop :=
  ∃ a c s' v' k' t, sdR bs s v k = (s', v', k', t) ∧ e = .returned (.tuple #[.agg #[.int .i64 s', .int .i64 v', .slice a (flen k') c], .bool t]) ∧ Below w.heap.size w w' ∧ Sl w' w.heap.size w'.heap.size a k'
theorem tb_cellsS {w w' : World} {x y z x' y' z' : Value} {T T' : TypeId} (h : Below (w.heap.size + 2) ((w.alloc (.cells #[x, y, z] T)).alloc (.cells #[x', y', z'] T')) w') :
    w'.cell? ⟨w.heap.size, 0, none⟩ = some x ∧ w'.cell? ⟨w.heap.size, 1, none⟩ = some y ∧ w'.cell? ⟨w.heap.size, 2, none⟩ = some z ∧
      w'.cell? ⟨w.heap.size + 1, 0, none⟩ = some x' ∧ w'.cell? ⟨w.heap.size + 1, 1, none⟩ = some y' ∧ w'.cell? ⟨w.heap.size + 1, 2, none⟩ = some z' := by
  refine ⟨?_, ?_, ?_, ?_, ?_, ?_⟩
  · rw [h.cell (by simp), World.cell?_alloc_lt _ _ _ (by simp), World.cell?_alloc_at _ _ _ _ (by simp)]; rfl
  · rw [h.cell (by simp), World.cell?_alloc_lt _ _ _ (by simp), World.cell?_alloc_at _ _ _ _ (by simp)]; rfl
  · rw [h.cell (by simp), World.cell?_alloc_lt _ _ _ (by simp), World.cell?_alloc_at _ _ _ _ (by simp)]; rfl
  · rw [h.cell (by simp), World.cell?_alloc_at _ _ _ _ (by simp)]; rfl
  · rw [h.cell (by simp), World.cell?_alloc_at _ _ _ _ (by simp)]; rfl
  · rw [h.cell (by simp), World.cell?_alloc_at _ _ _ _ (by simp)]; rfl
theorem tb_freeS {w w' : World} {o o' : Obj} (h : Below (w.heap.size + 2) ((w.alloc o).alloc o') w') (j : Nat) {c c' : Array Value} {T T' : TypeId} (ho : o = .cells c T) (ho' : o' = .cells c' T') :
    w'.frozen? ⟨w.heap.size, j, none⟩ = false ∧ w'.frozen? ⟨w.heap.size + 1, j, none⟩ = false := by
  subst ho
  subst ho'
  constructor
  · rw [h.frozen (by simp), World.frozen?_alloc_past _ _ _ (by simp), World.frozen?_alloc_at _ _ _ _ (by simp)]
  · rw [h.frozen (by simp), World.frozen?_alloc_at _ _ _ _ (by simp)]


theorem sd_end {w w1 : World} {bs : List Bd} {s v s' v' : Int} {k k' : Fo} {t : Bool} {a : Option Addr} {c : Nat} {o o' : Obj} (hr : sdR bs s v k = (s', v', k', t)) (hb : Below (w.heap.size + 2) ((w.alloc o).alloc o') w1) (hl : Sl w1 (w.heap.size + 2) w1.heap.size a k') (x y z : Value) :
    SdPost bs s v k w (.returned (.tuple #[.agg #[.int .i64 s', .int .i64 v', .slice a (flen k') c], .bool t])) (((w1.setCell ⟨w.heap.size + 1, 0, none⟩ x).setCell ⟨w.heap.size + 1, 1, none⟩ y).setCell ⟨w.heap.size + 1, 2, none⟩ z) := by
  have h0 : Same (w.heap.size + 2) w1.heap.size w1 w1 := fun _ _ _ => rfl
  have hb' : Below w.heap.size w w1 := (((Below.refl _ _).alloc (Nat.le_refl _) o).alloc (by simp) o').trans (hb.mono (by omega))
  exact ⟨a, c, s', v', k', t, hr, rfl, ((hb'.setCell (by simp) _).setCell (by simp) _).setCell (by simp) _, (hl.same (((h0.setCell (.inl (by simp)) _).setCell (.inl (by simp)) _).setCell (.inl (by simp)) _)).mono (by omega) (by simp)⟩

end Go.Proofs.YtbnbogdglffkmaaGreatDoor

/-! C1: A term with another put to a place. Definitions and plain lemmas. -/
namespace Go.Proofs.YtbnbogdglffkmaaGreatDoor
open Go.RowKit Go.Deep

/-- The terms, the n-th of them another. -/
def fset : Fo → Nat → Int × Int × Fo → Fo
  | .nil, _, _ => .nil
  | .node b o _ _ r, 0, x => .node b o (x.1, x.2.1) x.2.2 r
  | .node b o p k r, n + 1, x => .node b o p k (fset r n x)
theorem flen_set : ∀ (k : Fo) (n : Nat) (x : Int × Int × Fo), flen (fset k n x) = flen k
  | .nil, _, _ => rfl
  | .node _ _ _ _ _, 0, _ => rfl
  | .node _ _ _ _ r, n + 1, x => by simp only [fset, flen, flen_set r n x]
theorem fset_at : ∀ (k : Fo) (n : Nat) (x : Int × Int × Fo), n < flen k → ∃ b o, fdrop n (fset k n x) = .node b o (x.1, x.2.1) x.2.2 (fdrop (n + 1) (fset k n x))
  | .nil, _, _, h => by simp [flen] at h
  | .node b o _ _ _, 0, _, _ => ⟨b, o, rfl⟩
  | .node _ _ _ _ r, n + 1, x, h => by
    obtain ⟨b, o, e⟩ := fset_at r n x (by simp [flen] at h; omega)
    exact ⟨b, o, by simp only [fset, fdrop]; exact e⟩
theorem fset_same : ∀ (k : Fo) (n : Nat) {b o : Nat} {s v : Int} {kk r : Fo}, fdrop n k = .node b o (s, v) kk r → fset k n (s, v, kk) = k
  | .nil, _, _, _, _, _, _, _, _ => rfl
  | .node _ _ _ _ _, 0, _, _, _, _, _, _, h => by
    simp only [fdrop, BT.node.injEq] at h
    obtain ⟨_, _, rfl, rfl, _⟩ := h
    rfl
  | .node _ _ _ _ r, n + 1, _, _, _, _, _, _, h => by simp only [fset]; rw [fset_same r n (by simpa [fdrop] using h)]
theorem fset_set : ∀ (k : Fo) (n : Nat) (x y : Int × Int × Fo), fset (fset k n x) n y = fset k n y
  | .nil, _, _, _ => rfl
  | .node _ _ _ _ _, 0, _, _ => rfl
  | .node _ _ _ _ r, n + 1, x, y => by simp only [fset, fset_set r n x y]
theorem fset_sz : ∀ (k : Fo) (n : Nat) (x : Int × Int × Fo) {b o : Nat} {p : Int × Int} {kk r : Fo}, fdrop n k = .node b o p kk r → fsz (fset k n x) + fsz kk = fsz k + fsz x.2.2
  | .nil, n, _, _, _, _, _, _, h => by cases n <;> simp [fdrop] at h
  | .node _ _ _ _ _, 0, _, _, _, _, _, _, h => by
    simp only [fdrop, BT.node.injEq] at h
    obtain ⟨_, _, rfl, rfl, _⟩ := h
    simp only [fset, fsz]; omega
  | .node _ _ _ _ r, n + 1, x, _, _, _, _, _, h => by
    have := fset_sz r n x (by simpa [fdrop] using h)
    simp only [fset, fsz]; omega
theorem fset_ok : ∀ (k : Fo) (n : Nat) (x : Int × Int × Fo), fok k = true → okN x.1 x.2.1 (flen x.2.2) = true → fok x.2.2 = true → fok (fset k n x) = true
  | .nil, _, _, _, _, _ => rfl
  | .node _ _ _ _ _, 0, _, h, h1, h2 => by
    simp only [fok, Bool.and_eq_true] at h
    simp only [fset, fok, h1, h2, h.2, Bool.and_true]
  | .node _ _ _ _ r, n + 1, x, h, h1, h2 => by
    simp only [fok, Bool.and_eq_true] at h
    simp only [fset, fok, h.1.1, h.1.2, fset_ok r n x h.2 h1 h2, Bool.and_true]
theorem fset_far : ∀ (k : Fo) (n m : Nat) (x : Int × Int × Fo) {b o : Nat} {p : Int × Int} {kk r : Fo}, n ≠ m → fdrop m k = .node b o p kk r → ∃ r', fdrop m (fset k n x) = .node b o p kk r'
  | .nil, _, m, _, _, _, _, _, _, _, h => by cases m <;> simp [fdrop] at h
  | .node _ _ _ _ _, 0, 0, _, _, _, _, _, _, hne, _ => absurd rfl hne
  | .node _ _ _ _ r, 0, m + 1, _, _, _, _, _, _, _, h => ⟨_, by simp only [fset, fdrop] at h ⊢; exact h⟩
  | .node _ _ _ _ r, n + 1, 0, x, _, _, _, _, _, _, h => by
    simp only [fdrop, BT.node.injEq] at h
    obtain ⟨rfl, rfl, rfl, rfl, _⟩ := h
    exact ⟨_, rfl⟩
  | .node _ _ _ _ r, n + 1, m + 1, x, _, _, _, _, _, hne, h => by
    obtain ⟨r', e⟩ := fset_far r n m x (by omega) (by simpa [fdrop] using h)
    exact ⟨r', by simp only [fset, fdrop]; exact e⟩

/-- What comes of it if x is put to a place. -/
def fput : Int → Int → Fo → List Int → Int × Int × Fo → Option (Int × Int × Fo)
  | _, _, _, [], x => some x
  | s, v, k, i :: ps, x => if 0 ≤ i ∧ i < (flen k : Int) then (match fdrop i.toNat k with
    | .node _ _ (s', v') kk _ => (fput s' v' kk ps x).map fun y => (s, v, fset k i.toNat y)
    | .nil => none) else none

/-- One step of it. -/
theorem fput_cons {s v : Int} {k : Fo} {i : Int} {ps : List Int} {x z : Int × Int × Fo} (h : fput s v k (i :: ps) x = some z) :
    ∃ (n b o : Nat) (s' v' : Int) (kk : Fo) (y : Int × Int × Fo), i = n ∧ n < flen k ∧ fdrop n k = .node b o (s', v') kk (fdrop (n + 1) k) ∧ fput s' v' kk ps x = some y ∧ z = (s, v, fset k n y) := by
  simp only [fput] at h
  split at h
  · rename_i hi
    obtain ⟨b, o, s', v', kk, e⟩ := fdrop_succ i.toNat k (by omega)
    rw [e] at h
    obtain ⟨y, hy, rfl⟩ := Option.map_eq_some_iff.1 h
    exact ⟨i.toNat, b, o, s', v', kk, y, by omega, by omega, e, hy, rfl⟩
  · cases h
theorem fput_step {s v : Int} {k : Fo} {n b o : Nat} {ps : List Int} {s' v' : Int} {kk r : Fo} {x y : Int × Int × Fo} (hn : n < flen k) (hd : fdrop n k = .node b o (s', v') kk r) (hy : fput s' v' kk ps x = some y) :
    fput s v k ((n : Int) :: ps) x = some (s, v, fset k n y) := by
  simp only [fput, Int.toNat_natCast]
  rw [if_pos (by omega), hd]
  simp only [hy, Option.map_some]
theorem fput_none {s v : Int} {k : Fo} {n b o : Nat} {ps : List Int} {s' v' : Int} {kk r : Fo} {x : Int × Int × Fo} (hd : fdrop n k = .node b o (s', v') kk r) (hy : fput s' v' kk ps x = none) :
    fput s v k ((n : Int) :: ps) x = none := by
  simp only [fput, Int.toNat_natCast]
  rw [hd]
  simp only [hy, Option.map_none]
  split <;> rfl
theorem fput_out {s v : Int} {k : Fo} {i : Int} {ps : List Int} {x : Int × Int × Fo} (h : ¬(0 ≤ i ∧ i < (flen k : Int))) : fput s v k (i :: ps) x = none := by
  simp only [fput]
  rw [if_neg h]
theorem fat_step {s v : Int} {k : Fo} {n b o : Nat} {ps : List Int} {s' v' : Int} {kk r : Fo} (hn : n < flen k) (hd : fdrop n k = .node b o (s', v') kk r) : fat s v k ((n : Int) :: ps) = fat s' v' kk ps := by
  simp only [fat, Int.toNat_natCast]
  rw [if_pos (by omega), hd]
theorem fat_out {s v : Int} {k : Fo} {i : Int} {ps : List Int} (h : ¬(0 ≤ i ∧ i < (flen k : Int))) : fat s v k (i :: ps) = none := by
  simp only [fat]
  rw [if_neg h]

/-- It can be put just where something stands. -/
theorem fput_there : ∀ (p : List Int) (s v : Int) (k : Fo) (x : Int × Int × Fo), (fput s v k p x).isSome = (fat s v k p).isSome
  | [], _, _, _, _ => rfl
  | i :: ps, s, v, k, x => by
    by_cases hi : 0 ≤ i ∧ i < (flen k : Int)
    · obtain ⟨b, o, s', v', kk, e⟩ := fdrop_succ i.toNat k (by omega)
      have hin : i = (i.toNat : Int) := by omega
      rw [hin, fat_step (by omega) e, ← fput_there ps s' v' kk x]
      cases hy : fput s' v' kk ps x with
      | none => rw [fput_none e hy]
      | some y => rw [fput_step (by omega) e hy]; rfl
    · rw [fput_out hi, fat_out hi]
/-- What is put is there. -/
theorem fput_at : ∀ (p : List Int) (s v : Int) (k : Fo) (x : Int × Int × Fo) {s' v' : Int} {k' : Fo}, fput s v k p x = some (s', v', k') → fat s' v' k' p = some x
  | [], _, _, _, _, _, _, _, h => by simp only [fput, Option.some.injEq] at h; subst h; rfl
  | i :: ps, s, v, k, x, s', v', k', h => by
    obtain ⟨n, b, o, s1, v1, kk, y, rfl, hn, hd, hy, e⟩ := fput_cons h
    simp only [Prod.mk.injEq] at e
    obtain ⟨rfl, rfl, rfl⟩ := e
    obtain ⟨b', o', e'⟩ := fset_at k n y hn
    rw [fat_step (by rw [flen_set]; exact hn) e']
    exact fput_at ps s1 v1 kk x hy
/-- To put what was there changes nothing. -/
theorem fput_same : ∀ (p : List Int) (s v : Int) (k : Fo) {x : Int × Int × Fo}, fat s v k p = some x → fput s v k p x = some (s, v, k)
  | [], _, _, _, _, h => by simp only [fat, Option.some.injEq] at h; subst h; rfl
  | i :: ps, s, v, k, x, h => by
    by_cases hi : 0 ≤ i ∧ i < (flen k : Int)
    · obtain ⟨b, o, s', v', kk, e⟩ := fdrop_succ i.toNat k (by omega)
      have hin : i = (i.toNat : Int) := by omega
      rw [hin, fat_step (by omega) e] at h
      rw [hin, fput_step (by omega) e (fput_same ps s' v' kk h), fset_same k _ e]
    · rw [fat_out hi] at h; cases h
/-- What is put last counts. -/
theorem fput_twice : ∀ (p : List Int) (s v : Int) (k : Fo) (x y : Int × Int × Fo) {s' v' : Int} {k' : Fo}, fput s v k p x = some (s', v', k') → fput s' v' k' p y = fput s v k p y
  | [], _, _, _, _, _, _, _, _, _ => rfl
  | i :: ps, s, v, k, x, y, s', v', k', h => by
    obtain ⟨n, b, o, s1, v1, kk, z, rfl, hn, hd, hz, e⟩ := fput_cons h
    simp only [Prod.mk.injEq] at e
    obtain ⟨rfl, rfl, rfl⟩ := e
    obtain ⟨b', o', e'⟩ := fset_at k n z hn
    have ih := fput_twice ps s1 v1 kk x y hz
    cases hq : fput s1 v1 kk ps y with
    | none => rw [fput_none hd hq, fput_none e' (by rw [ih]; exact hq)]
    | some q => rw [fput_step hn hd hq, fput_step (by rw [flen_set]; exact hn) e' (by rw [ih]; exact hq), fset_set]
/-- The room that it takes. -/
theorem fput_sz : ∀ (p : List Int) (s v : Int) (k : Fo) (x : Int × Int × Fo) {s' v' s0 v0 : Int} {k' k0 : Fo}, fput s v k p x = some (s', v', k') → fat s v k p = some (s0, v0, k0) → fsz k' + fsz k0 = fsz k + fsz x.2.2
  | [], _, _, _, _, _, _, _, _, _, _, h, h0 => by
    simp only [fput, Option.some.injEq] at h
    simp only [fat, Option.some.injEq, Prod.mk.injEq] at h0
    obtain ⟨_, _, rfl⟩ := h0
    subst h
    exact Nat.add_comm _ _
  | i :: ps, s, v, k, x, s', v', s0, v0, k', k0, h, h0 => by
    obtain ⟨n, b, o, s1, v1, kk, ⟨z1, z2, z3⟩, rfl, hn, hd, hz, e⟩ := fput_cons h
    simp only [Prod.mk.injEq] at e
    obtain ⟨rfl, rfl, rfl⟩ := e
    rw [fat_step hn hd] at h0
    have h1 := fput_sz ps s1 v1 kk x hz h0
    have h2 := fset_sz k n (z1, z2, z3) hd
    dsimp only at h2
    omega
theorem fput_ok : ∀ (p : List Int) (s v : Int) (k : Fo) (x : Int × Int × Fo) {s' v' : Int} {k' : Fo}, okN s v (flen k) = true → fok k = true → okN x.1 x.2.1 (flen x.2.2) = true → fok x.2.2 = true → fput s v k p x = some (s', v', k') →
    okN s' v' (flen k') = true ∧ fok k' = true
  | [], _, _, _, _, _, _, _, _, _, h3, h4, h => by simp only [fput, Option.some.injEq] at h; subst h; exact ⟨h3, h4⟩
  | i :: ps, s, v, k, x, s', v', k', h1, h2, h3, h4, h => by
    obtain ⟨n, b, o, s1, v1, kk, z, rfl, hn, hd, hz, e⟩ := fput_cons h
    simp only [Prod.mk.injEq] at e
    obtain ⟨rfl, rfl, rfl⟩ := e
    have hk := fok_kid h2 hd
    have ih := fput_ok ps s1 v1 kk x hk.1 hk.2 h3 h4 hz
    exact ⟨by rw [flen_set]; exact h1, fset_ok k n z h2 ih.1 ih.2⟩

/-- No one of two places begins with the other. -/
def apart : List Int → List Int → Bool
  | i :: ps, j :: qs => i != j || apart ps qs
  | _, _ => false
/-- What stands apart from it stays. -/
theorem fput_far : ∀ (p q : List Int) (s v : Int) (k : Fo) (x : Int × Int × Fo) {s' v' : Int} {k' : Fo} {y : Int × Int × Fo}, apart q p = true → fput s v k p x = some (s', v', k') → fat s v k q = some y → fat s' v' k' q = some y
  | [], [], _, _, _, _, _, _, _, _, h, _, _ => by simp [apart] at h
  | [], _ :: _, _, _, _, _, _, _, _, _, h, _, _ => by simp [apart] at h
  | _ :: _, [], _, _, _, _, _, _, _, _, h, _, _ => by simp [apart] at h
  | i :: ps, j :: qs, s, v, k, x, s', v', k', y, ha, h, hq => by
    obtain ⟨n, b, o, s1, v1, kk, z, rfl, hn, hd, hz, e⟩ := fput_cons h
    simp only [Prod.mk.injEq] at e
    obtain ⟨rfl, rfl, rfl⟩ := e
    by_cases hj : 0 ≤ j ∧ j < (flen k : Int)
    · obtain ⟨m, rfl⟩ : ∃ m : Nat, j = m := ⟨j.toNat, by omega⟩
      obtain ⟨b2, o2, s2, v2, k2, e2⟩ := fdrop_succ m k (by omega)
      by_cases hne : n = m
      · subst hne
        obtain ⟨b', o', e'⟩ := fset_at k n z hn
        rw [fat_step hn hd] at hq
        rw [fat_step (by rw [flen_set]; exact hn) e']
        refine fput_far ps qs s1 v1 kk x ?_ hz hq
        simpa [apart] using ha
      · obtain ⟨r', e'⟩ := fset_far k n m z hne e2
        rw [fat_step (by omega) e2] at hq
        rw [fat_step (by rw [flen_set]; omega) e']
        exact hq
    · rw [fat_out hj] at hq; cases hq

/-- TermPut's answer. -/
def putR (s v : Int) (k : Fo) (place : List Int) (x : Int × Int × Fo) : Int × Int × Fo × Bool :=
  if okW s v k 16 = true ∧ okW x.1 x.2.1 x.2.2 16 = true then (match fput s v k place x with
    | some (s', v', k') => if 1 + fsz k' ≤ 16 then (s', v', k', true) else (0, 0, .nil, false)
    | none => (0, 0, .nil, false)) else (0, 0, .nil, false)
theorem putR_true {s v : Int} {k : Fo} {place : List Int} {x : Int × Int × Fo} {s' v' : Int} {k' : Fo} (h : putR s v k place x = (s', v', k', true)) :
    okW s v k 16 = true ∧ okW x.1 x.2.1 x.2.2 16 = true ∧ fput s v k place x = some (s', v', k') ∧ okW s' v' k' 16 = true := by
  unfold putR at h
  split at h
  · rename_i hok
    split at h
    · rename_i s2 v2 k2 hf
      split at h
      · rename_i hsz
        simp only [Prod.mk.injEq] at h
        obtain ⟨rfl, rfl, rfl, _⟩ := h
        have h1 := (okW_iff _ _ _ _).1 hok.1
        have h2 := (okW_iff _ _ _ _).1 hok.2
        have h3 := fput_ok place s v k x h1.1 h1.2.1 h2.1 h2.2.1 hf
        exact ⟨hok.1, hok.2, hf, (okW_iff _ _ _ _).2 ⟨h3.1, h3.2, by omega⟩⟩
      · simp at h
    · simp at h
  · simp at h
theorem putR_some {s v : Int} {k : Fo} {place : List Int} {x : Int × Int × Fo} {s' v' : Int} {k' : Fo} (h1 : okW s v k 16 = true) (h2 : okW x.1 x.2.1 x.2.2 16 = true) (h3 : fput s v k place x = some (s', v', k')) (h4 : 1 + fsz k' ≤ 16) :
    putR s v k place x = (s', v', k', true) := by
  unfold putR
  rw [if_pos ⟨h1, h2⟩, h3]
  dsimp only
  rw [if_pos h4]
theorem putR_sz {s v : Int} {k : Fo} {place : List Int} {x : Int × Int × Fo} {s' v' : Int} {k' : Fo} {t : Bool} (h : putR s v k place x = (s', v', k', t)) : fsz k' ≤ 15 := by
  cases t with
  | true => have := (okW_iff _ _ _ _).1 (putR_true h).2.2.2; omega
  | false =>
    unfold putR at h
    split at h
    · split at h
      · split at h
        · simp at h
        · simp only [Prod.mk.injEq] at h; obtain ⟨_, _, rfl, _⟩ := h; simp [fsz]
      · simp only [Prod.mk.injEq] at h; obtain ⟨_, _, rfl, _⟩ := h; simp [fsz]
    · simp only [Prod.mk.injEq] at h; obtain ⟨_, _, rfl, _⟩ := h; simp [fsz]
end Go.Proofs.YtbnbogdglffkmaaGreatDoor
