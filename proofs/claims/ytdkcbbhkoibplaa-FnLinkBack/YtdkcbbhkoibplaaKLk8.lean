/- Several texts in one: A2, A3, S6. -/
import Derived.Test.YtdkcbbhkoibplaaKLk7
import Derived.Test.YtdkcbbhkoibplaaKLk4
import Derived.Deep.OwnRows

/-! A2: The term that a node stands for, made anew. -/
namespace Go.Proofs.Ytdkcbbhkoibplaa
open Go.RowKit Go.Deep
attribute [local go_sem ↓] Go.wp_at_zero Go.wp_at_succ

def TmPost (s v : Int) (k : Fo) (w : World) (e : Ending) (w' : World) : Prop :=
  ∃ a c, e = .returned (.agg #[.int .i64 s, .int .i64 v, .slice a (flen k) c]) ∧ Below w.heap.size w w' ∧ Sl w' w.heap.size w'.heap.size a k

set_option maxRecDepth 100000 in
set_option maxHeartbeats 1000000 in
theorem varTerm_any (v : Int) (w : World) : Calls Try.prog 142 #[.int .i64 v] w (TmPost 0 v .nil w) := by
  go_enter Try.func142, Try.ntmps142
  go_wp2_with fail
  refine bodyPost_ret (v := .agg #[.int .i64 0, .int .i64 v, .slice none 0 0]) ?_ rfl ⟨none, 0, rfl, (Below.refl _ _).alloc (Nat.le_refl _) _, .inl rfl⟩
  simp [results, Try.results142, go_sem]

theorem make_termsA (n : Nat) (hn : n ≤ 1048576) (w : World) :
    (Instr.makeSlice 33 (.int .i64 (n : Int)) (.int .i64 (n : Int))).run Try.prog w = .ok (.slice (some ⟨w.heap.size, 0, none⟩) n n) (w.alloc (.cells (madeCells #[.int .i64 0, .int .i64 0, .slice none 0 0] (n * 3)) 35)) := by
  obtain ⟨i, hi, hz, hs, hb⟩ := Try.infoTerm
  have := run_make (P := Try.prog) w 33 35 i _ Try.underlying33 hi hz .i64 .i64 (n : Int) (n : Int) (by omega) (by omega) (by rw [hb]; omega) (by omega)
  rw [hs] at this
  simpa [Value.cells] using this
theorem made_atA (n i : Nat) (z : Array Value) (h : i < n) : (madeCells z n)[i]? = some (z[i % z.size]!) := by simp [madeCells, h]

/-- What holds at the head of term's loop: the first j kids are made. -/
structure TmAt (w : World) (s : Int) (k : Fo) (j : Nat) (wr : World) : Prop where
  below : Below w.heap.size w wr
  size : w.heap.size + 4 ≤ wr.heap.size
  t0 : wr.cell? ⟨w.heap.size + 1 + 1, 0, none⟩ = some (.int .i64 s)
  t1 : wr.cell? ⟨w.heap.size + 1 + 1, 1, none⟩ = some (.int .i64 0)
  t2 : wr.cell? ⟨w.heap.size + 1 + 1, 2, none⟩ = some (.slice (some ⟨w.heap.size + 1 + 1 + 1, 0, none⟩) (flen k) (flen k))
  r0 : wr.cell? ⟨w.heap.size + 1, 0, none⟩ = some (.int .i64 0)
  r1 : wr.cell? ⟨w.heap.size + 1, 1, none⟩ = some (.int .i64 0)
  r2 : wr.cell? ⟨w.heap.size + 1, 2, none⟩ = some (.slice none 0 0)
  q0 : wr.frozen? ⟨w.heap.size + 1, 0, none⟩ = false
  q1 : wr.frozen? ⟨w.heap.size + 1, 1, none⟩ = false
  q2 : wr.frozen? ⟨w.heap.size + 1, 2, none⟩ = false
  row : ∃ f : Nat → Value, wr.rowIs (w.heap.size + 1 + 1 + 1) 35 (flen k * 3) f ∧ ∀ i, i < j → ∃ x y s v kk a c, fdrop i k = .node x y (s, v) kk (fdrop (i + 1) k) ∧
    f (i * 3) = .int .i64 s ∧ f (i * 3 + 1) = .int .i64 v ∧ f (i * 3 + 2) = .slice a (flen kk) c ∧ Sl wr (w.heap.size + 4) wr.heap.size a kk

theorem TmAt.start (w : World) (s : Int) (k : Fo) (x : Value) (y : Value) : TmAt w s k 0 ((((w.alloc (.cells #[x, y] 165)).alloc (.cells #[.int .i64 0, .int .i64 0, .slice none 0 0] 35)).alloc (.cells #[.int .i64 s, .int .i64 0, .slice (some ⟨w.heap.size + 1 + 1 + 1, 0, none⟩) (flen k) (flen k)] 35)).alloc (.cells (madeCells #[.int .i64 0, .int .i64 0, .slice none 0 0] (flen k * 3)) 35)) := by
  refine ⟨((((Below.refl _ _).alloc (Nat.le_refl _) _).alloc (by simp) _).alloc (by simp; omega) _).alloc (by simp; omega) _, by simp, ?_, ?_, ?_, ?_, ?_, ?_, ?_, ?_, ?_, ?_⟩
  · rw [World.cell?_alloc_lt _ _ _ (by simp), World.cell?_alloc_at _ _ _ _ (by simp)]; rfl
  · rw [World.cell?_alloc_lt _ _ _ (by simp), World.cell?_alloc_at _ _ _ _ (by simp)]; rfl
  · rw [World.cell?_alloc_lt _ _ _ (by simp), World.cell?_alloc_at _ _ _ _ (by simp)]; rfl
  · rw [World.cell?_alloc_lt _ _ _ (by simp), World.cell?_alloc_lt _ _ _ (by simp), World.cell?_alloc_at _ _ _ _ (by simp)]; rfl
  · rw [World.cell?_alloc_lt _ _ _ (by simp), World.cell?_alloc_lt _ _ _ (by simp), World.cell?_alloc_at _ _ _ _ (by simp)]; rfl
  · rw [World.cell?_alloc_lt _ _ _ (by simp), World.cell?_alloc_lt _ _ _ (by simp), World.cell?_alloc_at _ _ _ _ (by simp)]; rfl
  · rw [World.frozen?_alloc_past _ _ _ (by simp), World.frozen?_alloc_past _ _ _ (by simp), World.frozen?_alloc_at _ _ _ _ (by simp)]
  · rw [World.frozen?_alloc_past _ _ _ (by simp), World.frozen?_alloc_past _ _ _ (by simp), World.frozen?_alloc_at _ _ _ _ (by simp)]
  · rw [World.frozen?_alloc_past _ _ _ (by simp), World.frozen?_alloc_past _ _ _ (by simp), World.frozen?_alloc_at _ _ _ _ (by simp)]
  · refine ⟨fun i => #[Value.int .i64 0, .int .i64 0, .slice none 0 0][i % 3]!, ?_, fun i hi => by omega⟩
    have := World.rowIs_alloc (((w.alloc (.cells #[x, y] 165)).alloc (.cells #[.int .i64 0, .int .i64 0, .slice none 0 0] 35)).alloc (.cells #[.int .i64 s, .int .i64 0, .slice (some ⟨w.heap.size + 1 + 1 + 1, 0, none⟩) (flen k) (flen k)] 35)) (madeCells #[.int .i64 0, .int .i64 0, .slice none 0 0] (flen k * 3)) 35 (fun i => #[Value.int .i64 0, .int .i64 0, .slice none 0 0][i % 3]!) (fun i hi => by
      rw [size_madeCells] at hi
      exact made_atA _ _ _ hi)
    rw [size_madeCells] at this
    simp only [World.size_alloc] at this
    exact this
theorem TmAt.step {w wr w2 : World} {s0 : Int} {k : Fo} {j x y : Nat} {s v : Int} {kk : Fo} {a : Option Addr} {c : Nat} (h : TmAt w s0 k j wr) (hd : fdrop j k = .node x y (s, v) kk (fdrop (j + 1) k)) (hb : Below wr.heap.size wr w2) (hl : Sl w2 wr.heap.size w2.heap.size a kk) :
    TmAt w s0 k (j + 1) (((w2.setCell ⟨w.heap.size + 1 + 1 + 1, j * 3, none⟩ (.int .i64 s)).setCell ⟨w.heap.size + 1 + 1 + 1, j * 3 + 1, none⟩ (.int .i64 v)).setCell ⟨w.heap.size + 1 + 1 + 1, j * 3 + 2, none⟩ (.slice a (flen kk) c)) := by
  have hs := h.size
  have hs2 := hb.size
  obtain ⟨f, hf, hall⟩ := h.row
  have hf2 := hf.of_block (hb.block _ (by omega))
  have hsame : ∀ {L H : Nat}, w.heap.size + 3 < L → Same L H w2 (((w2.setCell ⟨w.heap.size + 1 + 1 + 1, j * 3, none⟩ (.int .i64 s)).setCell ⟨w.heap.size + 1 + 1 + 1, j * 3 + 1, none⟩ (.int .i64 v)).setCell ⟨w.heap.size + 1 + 1 + 1, j * 3 + 2, none⟩ (.slice a (flen kk) c)) := fun hL =>
    ((Same.setCell (fun _ _ _ => rfl) (.inl (by simp; omega)) _).setCell (.inl (by simp; omega)) _).setCell (.inl (by simp; omega)) _
  have hcell : ∀ {q : Addr} {u : Value}, wr.cell? q = some u → q.block < w.heap.size + 3 → (((w2.setCell ⟨w.heap.size + 1 + 1 + 1, j * 3, none⟩ (.int .i64 s)).setCell ⟨w.heap.size + 1 + 1 + 1, j * 3 + 1, none⟩ (.int .i64 v)).setCell ⟨w.heap.size + 1 + 1 + 1, j * 3 + 2, none⟩ (.slice a (flen kk) c)).cell? q = some u := fun {q u} hq hlt => by
    rw [World.cell?_setCell_other _ _ _ _ (by intro h'; have := congrArg Addr.block h'; simp at this; omega), World.cell?_setCell_other _ _ _ _ (by intro h'; have := congrArg Addr.block h'; simp at this; omega), World.cell?_setCell_other _ _ _ _ (by intro h'; have := congrArg Addr.block h'; simp at this; omega), hb.cell (World.block_lt_of_cell? _ _ hq)]
    exact hq
  have hfro : ∀ {q : Addr}, wr.frozen? q = false → q.block < w.heap.size + 3 → (((w2.setCell ⟨w.heap.size + 1 + 1 + 1, j * 3, none⟩ (.int .i64 s)).setCell ⟨w.heap.size + 1 + 1 + 1, j * 3 + 1, none⟩ (.int .i64 v)).setCell ⟨w.heap.size + 1 + 1 + 1, j * 3 + 2, none⟩ (.slice a (flen kk) c)).frozen? q = false := fun {q} hq hlt => by
    rw [World.frozen?_setCell, World.frozen?_setCell, World.frozen?_setCell, hb.frozen (by omega)]
    exact hq
  refine ⟨(((h.below.trans (hb.mono (by omega))).setCell (by simp; omega) _).setCell (by simp; omega) _).setCell (by simp; omega) _, by simp; omega, hcell h.t0 (by simp), hcell h.t1 (by simp), hcell h.t2 (by simp), hcell h.r0 (by simp), hcell h.r1 (by simp), hcell h.r2 (by simp), hfro h.q0 (by simp), hfro h.q1 (by simp), hfro h.q2 (by simp), ⟨_, ((hf2.set _ _).set _ _).set _ _, fun i hi => ?_⟩⟩
  by_cases hij : i = j
  · subst hij
    exact ⟨x, y, s, v, kk, a, c, hd, by simp, by simp, by simp, (hl.same (hsame (by omega))).mono (by omega) (by simp)⟩
  · obtain ⟨x', y', s', v', k', a', c', e, h0, h1, h2, hsl⟩ := hall i (by omega)
    refine ⟨x', y', s', v', k', a', c', e, ?_, ?_, ?_, ((hsl.same (fun b h1 h2 => hb.block b h2)).same (hsame (by omega))).mono (Nat.le_refl _) (by simp; omega)⟩
    · rw [if_neg (by omega), if_neg (by omega), if_neg (by omega)]; exact h0
    · rw [if_neg (by omega), if_neg (by omega), if_neg (by omega)]; exact h1
    · rw [if_neg (by omega), if_neg (by omega), if_neg (by omega)]; exact h2
theorem TmAt.sl {w wr : World} {s : Int} {k : Fo} {j : Nat} (h : TmAt w s k j wr) (hj : flen k ≤ j) : Sl wr (w.heap.size + 3) wr.heap.size (some ⟨w.heap.size + 1 + 1 + 1, 0, none⟩) k := by
  have hs := h.size
  obtain ⟨f, hf, hall⟩ := h.row
  refine .inr ⟨_, 0, rfl, row_of_all k _ 0 (by omega) (by omega) fun i hi => ?_⟩
  obtain ⟨x, y, s, v, kk, a, c, e, h0, h1, h2, hs⟩ := hall i (by omega)
  refine ⟨x, y, s, v, kk, a, c, e, ?_, ?_, ?_, hs.mono (by omega) (Nat.le_refl _)⟩
  · rw [Nat.zero_add, ← h0]; exact hf.cell (by omega)
  · rw [Nat.zero_add, ← h1]; exact hf.cell (by omega)
  · rw [Nat.zero_add, ← h2]; exact hf.cell (by omega)
theorem tm_end {w w1 : World} {s v : Int} {k : Fo} {a : Option Addr} {c : Nat} (hb : Below w.heap.size w w1) (hl : Sl w1 (w.heap.size + 3) w1.heap.size a k) (x y z : Value) :
    TmPost s v k w (.returned (.agg #[.int .i64 s, .int .i64 v, .slice a (flen k) c])) (((w1.setCell ⟨w.heap.size + 1, 0, none⟩ x).setCell ⟨w.heap.size + 1, 1, none⟩ y).setCell ⟨w.heap.size + 1, 2, none⟩ z) := by
  refine ⟨a, c, rfl, ((hb.setCell (by simp) _).setCell (by simp) _).setCell (by simp) _, ?_⟩
  have hs : Same (w.heap.size + 3) w1.heap.size w1 (((w1.setCell ⟨w.heap.size + 1, 0, none⟩ x).setCell ⟨w.heap.size + 1, 1, none⟩ y).setCell ⟨w.heap.size + 1, 2, none⟩ z) :=
    (((Same.setCell (fun _ _ _ => rfl) (.inl (by simp)) _).setCell (.inl (by simp)) _).setCell (.inl (by simp)) _)
  exact (hl.same hs).mono (by omega) (by simp)

set_option maxRecDepth 100000 in
set_option maxHeartbeats 1000000 in
theorem symTerm_any (N : Nat) : ∀ (s : Int) (a : Option Addr) (c : Nat) (k : Fo) (w : World), NSl w 0 w.heap.size a k → fok k = true → fsz k ≤ N → N ≤ 1000000 →
    Calls Try.prog 159 #[.agg #[.int .i64 s, .slice a (flen k) c]] w (TmPost s 0 k w) := by
  induction N using Nat.strongRecOn with
  | _ N ih =>
    intro s a c k w hl hok hN hN2
    have hfl := flen_le_sz k
    have IH := Lib.hid ih
    have HOK := Lib.hid hok
    clear ih hok
    by_cases h0 : flen k = 0
    · have hk : k = .nil := by
        cases k with
        | nil => rfl
        | node _ _ _ _ _ => simp [flen] at h0
      subst hk
      clear hl h0
      simp only [flen]
      go_enter Try.func159, Try.ntmps159
      go_wp2_with fail
      go_loopw [21] (fun i wr => i = .int .i64 0 ∧ wr = (((w.alloc (.cells #[.int .i64 s, .slice a 0 c] 165)).alloc (.cells #[.int .i64 0, .int .i64 0, .slice none 0 0] 35)).alloc (.cells #[.int .i64 s, .int .i64 0, .slice none 0 0] 35))) (fun _ _ => 0)
      case atStart => exact ⟨rfl, rfl⟩
      case round =>
        obtain ⟨rfl, rfl⟩ := hrel
        go_wp2_with fail
        refine bodyPost_ret (v := .agg #[.int .i64 s, .int .i64 0, .slice none 0 0]) ?_ rfl ⟨none, 0, rfl, (((Below.refl _ _).alloc (Nat.le_refl _) _).alloc (by simp) _).alloc (by simp; omega) _, .inl rfl⟩
        simp [results, Try.results159, go_sem]
    · have hmk := make_termsA (flen k) (by omega)
      have HST := Lib.hid (TmAt.start w s k (.int .i64 s) (.slice a (flen k) c))
      have hpos : 0 < flen k := by omega
      go_enter Try.func159, Try.ntmps159
      go_wp2_with fail
      clear hmk
      go_loopw [21] (fun i wr => ∃ j : Nat, j ≤ flen k ∧ i = .int .i64 j ∧ TmAt w s k j wr) (fun i _ => flen k - (intOf i).toNat)
      case atStart => exact ⟨0, by omega, rfl, HST.out⟩
      case round =>
        clear HST
        obtain ⟨j, hj, rfl, hat⟩ := hrel
        have hsr := hat.size
        by_cases hlt : j < flen k
        · rcases hl with rfl | ⟨b, o, rfl, hrow⟩
          · simp [flen] at hlt
          obtain ⟨s', v', kk, val, ⟨x, y, hd⟩, _, hbB, hk0, hn⟩ := nrow_at (hrow.below hat.below) hlt
          have hkN := fsz_kid hd
          have hkok := fok_kid HOK.out hd
          have ht2 := hat.t2
          have hu0 : ∀ u : After wr.heap.size wr, u.world.cell? ⟨w.heap.size + 1 + 1, 2, none⟩ = some (.slice (some ⟨w.heap.size + 1 + 1 + 1, 0, none⟩) (flen k) (flen k)) := fun u => u.cell (by simp; omega) ht2
          have g1 : (0 : Int) ≤ (j : Int) := by omega
          have g2 : (j : Int) < (flen k : Int) := by omega
          have HAT := Lib.hid hat
          have HD := Lib.hid hd
          clear hd hrow hat
          rcases hn with ⟨rfl, rfl, rfl⟩ | ⟨hs', a2, c2, rfl, hn2⟩
          · clear hkok
            go_wp2_with fail
            refine wp_region_mix (fun w' => ∃ u : After wr.heap.size wr, w' = u.world) [6] [(0, 0), (1, 0), (2, 0), (3, 0), (4, 1), (5, 1), (6, 2)] (by kernel_rfl) (by kernel_rfl) ⟨⟨_, (Below.refl _ _).drew⟩, rfl⟩ ?_
            iterate 4
              refine mix_see rfl (fun K hK => ?_)
              go_simp
              refine hK _ ?_
              clear hK K
            clear hu0
            refine mix_hold rfl (fun K hK => ?_)
            go_simp
            refine upon_method 142 (by kernel_rfl) (by kernel_rfl) ?_
            go_simp
            with_reducible refine (varTerm_any v' _).mono ?_
            rintro e w2 ⟨a2', c2', rfl, hb2', hl2⟩
            have hb2 : Below wr.heap.size wr w2 := bl_undrew hb2'
            obtain ⟨f, hf, _⟩ := HAT.out.row
            have hf2 := hf.of_block (hb2.block _ (by omega))
            have hg0 := hf2.cell (i := j * 3) (by omega)
            have hg1 := hf2.cell (i := j * 3 + 1) (by omega)
            have hg2 := hf2.cell (i := j * 3 + 2) (by omega)
            have hz0 := hf2.frozen (j * 3)
            have hz1 := hf2.frozen (j * 3 + 1)
            have hz2 := hf2.frozen (j * 3 + 2)
            have HSTEP := Lib.hid (HAT.out.step (c := c2') HD.out hb2 hl2)
            refine hK _ _ ⟨⟨_, hb2⟩, rfl⟩ ?_
            clear hK K hf hf2 hb2' hl2
            refine mix_hold rfl (fun K hK => ?_)
            go_simp
            refine hK _ _ ⟨⟨_, hb2⟩, rfl⟩ ?_
            clear hK K hb2
            refine mix_late rfl (fun K hK => ?_)
            go_simp
            refine hK _ _ ?_
            clear hK K
            refine mix_end ?_
            clear hg0 hg1 hg2 hz0 hz1 hz2 ht2 hk0
            go_wp2_with fail
            go_roundw
            case rel => exact ⟨j + 1, by omega, by go_num, HSTEP.out⟩
            case measure => simp [intOf]; omega
          · have hv0 : v' = 0 := ((okN_iff _ _ _).1 hkok.1).2.2 hs'
            subst hv0
            have HKK := Lib.hid hkok.2
            have HN2 := Lib.hid hn2
            clear hn2 hkok
            go_wp2_with fail
            refine wp_region_mix (fun w' => ∃ u : After wr.heap.size wr, w' = u.world) [6] [(0, 0), (1, 0), (2, 0), (3, 0), (4, 1), (5, 1), (6, 2)] (by kernel_rfl) (by kernel_rfl) ⟨⟨_, (Below.refl _ _).drew⟩, rfl⟩ ?_
            iterate 4
              refine mix_see rfl (fun K hK => ?_)
              go_simp
              refine hK _ ?_
              clear hK K
            clear hu0
            refine mix_hold rfl (fun K hK => ?_)
            go_simp
            refine upon_method 159 (by kernel_rfl) (by kernel_rfl) ?_
            go_simp
            with_reducible refine (IH.out (fsz kk) (by omega) s' a2 c2 kk _ ?_ HKK.out (Nat.le_refl _) (by omega)).mono ?_
            · exact (HN2.out.below (Below.refl _ _).drew).mono (Nat.le_refl _) (by simp; omega)
            rintro e w2 ⟨a2', c2', rfl, hb2', hl2⟩
            have hb2 : Below wr.heap.size wr w2 := bl_undrew hb2'
            obtain ⟨f, hf, _⟩ := HAT.out.row
            have hf2 := hf.of_block (hb2.block _ (by omega))
            have hg0 := hf2.cell (i := j * 3) (by omega)
            have hg1 := hf2.cell (i := j * 3 + 1) (by omega)
            have hg2 := hf2.cell (i := j * 3 + 2) (by omega)
            have hz0 := hf2.frozen (j * 3)
            have hz1 := hf2.frozen (j * 3 + 1)
            have hz2 := hf2.frozen (j * 3 + 2)
            have HSTEP := Lib.hid (HAT.out.step (c := c2') HD.out hb2 hl2)
            refine hK _ _ ⟨⟨_, hb2⟩, rfl⟩ ?_
            clear hK K hf hf2 hb2' hl2
            refine mix_hold rfl (fun K hK => ?_)
            go_simp
            refine hK _ _ ⟨⟨_, hb2⟩, rfl⟩ ?_
            clear hK K hb2
            refine mix_late rfl (fun K hK => ?_)
            go_simp
            refine hK _ _ ?_
            clear hK K
            refine mix_end ?_
            clear hg0 hg1 hg2 hz0 hz1 hz2 ht2 hk0
            go_wp2_with fail
            go_roundw
            case rel => exact ⟨j + 1, by omega, by go_num, HSTEP.out⟩
            case measure => simp [intOf]; omega
        · have hjk : j = flen k := by omega
          subst hjk
          have HDN := Lib.hid (fun x y z => tm_end (s := s) (v := 0) (c := flen k) hat.below (hat.sl (Nat.le_refl _)) x y z)
          have ht0 := hat.t0
          have ht1 := hat.t1
          have ht2 := hat.t2
          have hr0 := hat.r0
          have hr1 := hat.r1
          have hr2 := hat.r2
          have hq0 := hat.q0
          have hq1 := hat.q1
          have hq2 := hat.q2
          clear hat
          go_wp2_with fail
          refine bodyPost_ret (v := .agg #[.int .i64 s, .int .i64 0, .slice (some ⟨w.heap.size + 1 + 1 + 1, 0, none⟩) (flen k) (flen k)]) ?_ rfl (HDN.out _ _ _)
          simp [results, Try.results159, go_sem, hr0, hr1, hr2]
end Go.Proofs.Ytdkcbbhkoibplaa

/-! A3: impl.TermAt: what stands at a place of a term, made anew. -/
namespace Go.Proofs.Ytdkcbbhkoibplaa
open Go.RowKit Go.Deep

/-- TermAt's answer. -/
def atR (s v : Int) (k : Fo) (place : List Int) : Int × Int × Fo × Bool :=
  if okW s v k 16 = true then (match fat s v k place with
    | some (s', v', k') => (s', v', k', true)
    | none => (0, 0, .nil, false)) else (0, 0, .nil, false)

def AtPost (s v : Int) (k : Fo) (place : List Int) (w : World) (e : Ending) (w' : World) : Prop :=
  ∃ a c s' v' k' t, atR s v k place = (s', v', k', t) ∧ e = .returned (.tuple #[.agg #[.int .i64 s', .int .i64 v', .slice a (flen k') c], .bool t]) ∧ Below w.heap.size w w' ∧ Sl w' w.heap.size w'.heap.size a k'

theorem fat_ok : ∀ (place : List Int) (s v : Int) (k : Fo) {s' v' : Int} {k' : Fo}, okN s v (flen k) = true → fok k = true → fat s v k place = some (s', v', k') → okN s' v' (flen k') = true ∧ fok k' = true ∧ fsz k' ≤ fsz k
  | [], s, v, k, s', v', k', h1, h2, h => by
    simp only [fat, Option.some.injEq, Prod.mk.injEq] at h
    obtain ⟨rfl, rfl, rfl⟩ := h
    exact ⟨h1, h2, Nat.le_refl _⟩
  | i :: ps, s, v, k, s', v', k', h1, h2, h => by
    simp only [fat] at h
    split at h
    · split at h
      · rename_i x y s2 v2 kk r hd
        have hk := fok_kid h2 hd
        have hs := fsz_kid hd
        have := fat_ok ps s2 v2 kk hk.1 hk.2 h
        exact ⟨this.1, this.2.1, by omega⟩
      · cases h
    · cases h

theorem at_end {w w1 : World} {s v s' v' : Int} {k k' : Fo} {t : Bool} {place : List Int} {a : Option Addr} {c : Nat} (hr : atR s v k place = (s', v', k', t)) (hb : Below w.heap.size w w1) (hl : Sl w1 (w.heap.size + 2) w1.heap.size a k') (x y z : Value) :
    AtPost s v k place w (.returned (.tuple #[.agg #[.int .i64 s', .int .i64 v', .slice a (flen k') c], .bool t])) (((w1.setCell ⟨w.heap.size + 1, 0, none⟩ x).setCell ⟨w.heap.size + 1, 1, none⟩ y).setCell ⟨w.heap.size + 1, 2, none⟩ z) := by
  refine ⟨a, c, s', v', k', t, hr, rfl, ((hb.setCell (by simp) _).setCell (by simp) _).setCell (by simp) _, ?_⟩
  have hs : Same (w.heap.size + 2) w1.heap.size w1 (((w1.setCell ⟨w.heap.size + 1, 0, none⟩ x).setCell ⟨w.heap.size + 1, 1, none⟩ y).setCell ⟨w.heap.size + 1, 2, none⟩ z) :=
    (((Same.setCell (fun _ _ _ => rfl) (.inl (by simp)) _).setCell (.inl (by simp)) _).setCell (.inl (by simp)) _)
  exact (hl.same hs).mono (by omega) (by simp)

/-- The cells that hold TermAt's answer. -/
theorem at_cells {w w1 : World} {o : Obj} (hb : Below (w.heap.size + 2) ((w.alloc o).alloc (.cells #[.int .i64 0, .int .i64 0, .slice none 0 0] 35)) w1) :
    w1.cell? ⟨w.heap.size + 1, 0, none⟩ = some (.int .i64 0) ∧ w1.cell? ⟨w.heap.size + 1, 1, none⟩ = some (.int .i64 0) ∧ w1.cell? ⟨w.heap.size + 1, 2, none⟩ = some (.slice none 0 0) ∧
      w1.frozen? ⟨w.heap.size + 1, 0, none⟩ = false ∧ w1.frozen? ⟨w.heap.size + 1, 1, none⟩ = false ∧ w1.frozen? ⟨w.heap.size + 1, 2, none⟩ = false := by
  refine ⟨?_, ?_, ?_, ?_, ?_, ?_⟩
  · rw [hb.cell (by simp), World.cell?_alloc_at _ _ _ _ (by simp)]; rfl
  · rw [hb.cell (by simp), World.cell?_alloc_at _ _ _ _ (by simp)]; rfl
  · rw [hb.cell (by simp), World.cell?_alloc_at _ _ _ _ (by simp)]; rfl
  · rw [hb.frozen (by simp), World.frozen?_alloc_at _ _ _ _ (by simp)]
  · rw [hb.frozen (by simp), World.frozen?_alloc_at _ _ _ _ (by simp)]
  · rw [hb.frozen (by simp), World.frozen?_alloc_at _ _ _ _ (by simp)]

set_option maxRecDepth 100000 in
set_option maxHeartbeats 1000000 in
theorem iTermAt_any (s v : Int) (a : Option Addr) (c : Nat) (k : Fo) (pA : Option Addr) (pC : Nat) (place : List Int) (w : World) (hl : Sl w 0 w.heap.size a k) (hp : ISl w 0 w.heap.size pA place) (hpl : place.length ≤ 1048576) :
    Calls Try.prog 33 #[.agg #[.int .i64 s, .int .i64 v, .slice a (flen k) c], .slice pA place.length pC] w (AtPost s v k place w) := by
  have HL := Lib.hid hl
  have HP := Lib.hid hp
  clear hl hp
  have hb0 : Below w.heap.size w ((w.alloc (.cells #[.int .i64 s, .int .i64 v, .slice a (flen k) c] 35)).alloc (.cells #[.int .i64 0, .int .i64 0, .slice none 0 0] 35)) := ((Below.refl _ _).alloc (Nat.le_refl _) _).alloc (by simp) _
  have HB0 := Lib.hid hb0
  clear hb0
  cases hok : okW s v k 16 with
  | false =>
    have HR : Hid (atR s v k place = (0, 0, .nil, false)) := by unfold Hid atR; rw [hok]; rfl
    have HOK := Lib.hid hok
    clear hok
    go_enter Try.func33, Try.ntmps33
    go_wp2_with fail
    with_reducible refine (nodeOf_any s v a c k 16 _ ?_ (by omega) (by omega)).mono ?_
    · exact (HL.out.below HB0.out).mono (Nat.le_refl _) HB0.out.size
    rintro e w2 ⟨nv, he, hb, hyes⟩
    rw [HOK.out] at he
    subst he
    clear hyes
    have hb' := hb.mono (show w.heap.size + 2 ≤ _ by simp)
    obtain ⟨hr0, hr1, hr2, hq0, hq1, hq2⟩ := at_cells hb'
    have HB := Lib.hid (HB0.out.trans (hb.mono HB0.out.size))
    clear hb hb'
    go_wp2_with fail
    refine bodyPost_ret (v := .tuple #[.agg #[.int .i64 0, .int .i64 0, .slice none 0 0], .bool false]) ?_ rfl (at_end (k' := .nil) HR.out HB.out (.inl rfl) _ _ _)
    simp [results, Try.results33, go_sem, hr0, hr1, hr2]
  | true =>
    have HOK := Lib.hid hok
    have hsz := ((okW_iff _ _ _ _).1 hok).2.2
    clear hok
    go_enter Try.func33, Try.ntmps33
    go_wp2_with fail
    with_reducible refine (nodeOf_any s v a c k 16 _ ?_ (by omega) (by omega)).mono ?_
    · exact (HL.out.below HB0.out).mono (Nat.le_refl _) HB0.out.size
    rintro e w2 ⟨nv, he, hb, hyes⟩
    rw [HOK.out] at he
    subst he
    have HN := Lib.hid ((hyes HOK.out).mono (lo' := 0) (Nat.zero_le _) (Nat.le_refl _))
    have hs2 := hb.size
    simp at hs2
    have HB2' := Lib.hid (hb.mono (show w.heap.size + 2 ≤ _ by simp))
    have HB2 := Lib.hid (HB0.out.trans (hb.mono HB0.out.size))
    clear hyes hb
    obtain ⟨ty, vv, rfl⟩ : ∃ ty vv, nv = .iface ty vv := by
      rcases HN.out with ⟨_, _, rfl⟩ | ⟨_, _, _, rfl, _⟩
      · exact ⟨_, _, rfl⟩
      · exact ⟨_, _, rfl⟩
    go_wp2_with fail
    with_reducible refine (nodeAt_any s v k _ pA pC place _ HN.out ?_ hpl).mono ?_
    · exact (HP.out.below HB2.out).mono (Nat.le_refl _) HB2.out.size
    rintro e w3 ⟨hb3, hcase⟩
    have hs3 := hb3.size
    have HB3' := Lib.hid (HB2'.out.trans (hb3.mono (by omega)))
    have HB3 := Lib.hid (HB2.out.trans (hb3.mono (by omega)))
    rcases hcase with ⟨s', v', k', nv', hf, rfl, hn'⟩ | ⟨hf, rfl⟩
    · have HR : Hid (atR s v k place = (s', v', k', true)) := by unfold Hid atR; rw [HOK.out, hf]; rfl
      have hfo := fat_ok place s v k ((okW_iff _ _ _ _).1 HOK.out).1 ((okW_iff _ _ _ _).1 HOK.out).2.1 hf
      have HN' := Lib.hid (hn'.below hb3)
      clear hn' hb3 hf
      rcases HN'.out with ⟨rfl, rfl, rfl⟩ | ⟨hs', a2, c2, rfl, hn2⟩
      · clear HN' hfo
        go_wp2_with fail
        refine upon_method 142 (by kernel_rfl) (by kernel_rfl) ?_
        go_simp
        with_reducible refine (varTerm_any v' _).mono ?_
        rintro e w4 ⟨a4, c4, rfl, hb4, hl4⟩
        have hs4 := hb4.size
        obtain ⟨hr0, hr1, hr2, hq0, hq1, hq2⟩ := at_cells (HB3'.out.trans (hb4.mono (by omega)))
        have HB4 := Lib.hid (HB3.out.trans (hb4.mono (by omega)))
        have HL4 := Lib.hid (hl4.mono (lo' := w.heap.size + 2) (by omega) (Nat.le_refl _))
        clear hb4 hl4
        go_wp2_with fail
        refine bodyPost_ret (v := .tuple #[.agg #[.int .i64 0, .int .i64 v', .slice a4 (flen .nil) c4], .bool true]) ?_ rfl (at_end HR.out HB4.out HL4.out _ _ _)
        simp [results, Try.results33, go_sem, hr0, hr1, hr2]
      · have hv0 : v' = 0 := ((okN_iff _ _ _).1 hfo.1).2.2 hs'
        subst hv0
        have hk' := hfo.2.2
        have HKK := Lib.hid hfo.2.1
        have HN2 := Lib.hid hn2
        clear HN' hn2 hfo
        go_wp2_with fail
        refine upon_method 159 (by kernel_rfl) (by kernel_rfl) ?_
        go_simp
        with_reducible refine (symTerm_any (fsz k') s' a2 c2 k' _ ?_ HKK.out (Nat.le_refl _) (by omega)).mono ?_
        · exact HN2.out.mono (Nat.le_refl _) hs3
        rintro e w4 ⟨a4, c4, rfl, hb4, hl4⟩
        have hs4 := hb4.size
        obtain ⟨hr0, hr1, hr2, hq0, hq1, hq2⟩ := at_cells (HB3'.out.trans (hb4.mono (by omega)))
        have HB4 := Lib.hid (HB3.out.trans (hb4.mono (by omega)))
        have HL4 := Lib.hid (hl4.mono (lo' := w.heap.size + 2) (by omega) (Nat.le_refl _))
        clear hb4 hl4
        go_wp2_with fail
        refine bodyPost_ret (v := .tuple #[.agg #[.int .i64 s', .int .i64 0, .slice a4 (flen k') c4], .bool true]) ?_ rfl (at_end HR.out HB4.out HL4.out _ _ _)
        simp [results, Try.results33, go_sem, hr0, hr1, hr2]
    · have HR : Hid (atR s v k place = (0, 0, .nil, false)) := by unfold Hid atR; rw [HOK.out, hf]; rfl
      obtain ⟨hr0, hr1, hr2, hq0, hq1, hq2⟩ := at_cells HB3'.out
      clear hb3 hf
      go_wp2_with fail
      refine bodyPost_ret (v := .tuple #[.agg #[.int .i64 0, .int .i64 0, .slice none 0 0], .bool false]) ?_ rfl (at_end (k' := .nil) HR.out HB3.out (.inl rfl) _ _ _)
      simp [results, Try.results33, go_sem, hr0, hr1, hr2]
end Go.Proofs.Ytdkcbbhkoibplaa

/-! S6: impl.SubstDo. -/
namespace Go.Proofs.Ytdkcbbhkoibplaa
open Go.RowKit Go.Deep Go.Maps

theorem fsub_sz {σ : Int → Option (Int × Int × Fo)} (h : ∀ x t, σ x = some t → fsz t.2.2 ≤ 15) : ∀ k : Fo, fsz (fsub σ k) ≤ 16 * fsz k
  | .nil => by simp [fsub, fsz]
  | .node _ _ p k r => by
    have h1 := fsub_sz h k
    have h2 := fsub_sz h r
    simp only [fsub]
    split
    · split
      · rename_i t ht
        have := h _ _ ht
        simp only [fsz]; omega
      · simp only [fsz]; omega
    · simp only [fsz]; omega
theorem fsub_ok {σ : Int → Option (Int × Int × Fo)} (h : ∀ x t, σ x = some t → okN t.1 t.2.1 (flen t.2.2) = true ∧ fok t.2.2 = true) : ∀ k : Fo, fok k = true → fok (fsub σ k) = true
  | .nil, _ => rfl
  | .node _ _ p k r, hk => by
    simp only [fok, Bool.and_eq_true] at hk
    have h1 := fsub_ok h k hk.1.2
    have h2 := fsub_ok h r hk.2
    simp only [fsub]
    split
    · split
      · rename_i t ht
        have := h _ _ ht
        simp only [fok, Bool.and_eq_true]
        exact ⟨⟨this.1, this.2⟩, h2⟩
      · simp only [fok, Bool.and_eq_true]
        exact ⟨⟨hk.1.1, hk.1.2⟩, h2⟩
    · simp only [fok, Bool.and_eq_true, fsub_len]
      exact ⟨⟨hk.1.1, h1⟩, h2⟩
theorem sv_ok {room : Int} : ∀ (bs : List Bd) (last : Int), sokFrom room last bs = true → ∀ x t, sv bs x = some t → okW t.1 t.2.1 t.2.2 room = true
  | [], _, _, _, _, h => by simp [sv] at h
  | y :: r, last, hs, x, t, h => by
    simp only [sokFrom, Bool.and_eq_true] at hs
    simp only [sv] at h
    split at h
    · obtain rfl := Option.some.inj h; exact hs.1
    · exact sv_ok r y.1 hs.2.2.2 x t h
/-- The answer of SubstDo. -/
def sdR (bs : List Bd) (s v : Int) (k : Fo) : Int × Int × Fo × Bool :=
  if sok 16 bs = true ∧ okW s v k 16 = true ∧ 1 + fsz (tsub (sv bs) s v k).2.2 ≤ 16 then ((tsub (sv bs) s v k).1, (tsub (sv bs) s v k).2.1, (tsub (sv bs) s v k).2.2, true) else (0, 0, .nil, false)
theorem tsub_ok {bs : List Bd} {s v : Int} {k : Fo} (hs : sok 16 bs = true) (ho : okW s v k 16 = true) : okN (tsub (sv bs) s v k).1 (tsub (sv bs) s v k).2.1 (flen (tsub (sv bs) s v k).2.2) = true ∧ fok (tsub (sv bs) s v k).2.2 = true ∧ fsz (tsub (sv bs) s v k).2.2 ≤ 1000 := by
  obtain ⟨o1, o2, o3⟩ := (okW_iff _ _ _ _).1 ho
  have hsv := sv_ok bs (-1) hs
  have h1 : ∀ x t, sv bs x = some t → okN t.1 t.2.1 (flen t.2.2) = true ∧ fok t.2.2 = true := fun x t ht => by have := (okW_iff _ _ _ _).1 (hsv x t ht); exact ⟨this.1, this.2.1⟩
  have h2 : ∀ x t, sv bs x = some t → fsz t.2.2 ≤ 15 := fun x t ht => by have := (okW_iff _ _ _ _).1 (hsv x t ht); omega
  unfold tsub
  by_cases e : s = 0
  · rw [if_pos e]
    cases ht : sv bs v with
    | none => exact ⟨o1, o2, by simp only [Option.getD]; omega⟩
    | some t => simp only [Option.getD]; exact ⟨(h1 v t ht).1, (h1 v t ht).2, by have := h2 v t ht; omega⟩
  · rw [if_neg e]
    refine ⟨by dsimp only; rw [fsub_len]; exact o1, fsub_ok h1 k o2, ?_⟩
    have := fsub_sz h2 k
    dsimp only; omega

def SdPost (bs : List Bd) (s v : Int) (k : Fo) (w : World) (e : Ending) (w' : World) : Prop :=
  ∃ a c s' v' k' t, sdR bs s v k = (s', v', k', t) ∧ e = .returned (.tuple #[.agg #[.int .i64 s', .int .i64 v', .slice a (flen k') c], .bool t]) ∧ Below w.heap.size w w' ∧ Sl w' w.heap.size w'.heap.size a k'
theorem tb_cellsS {w w' : World} {x y z x' y' z' : Value} {T T' : TypeId} (h : Below (w.heap.size + 2) ((w.alloc (.cells #[x, y, z] T)).alloc (.cells #[x', y', z'] T')) w') :
    w'.cell? ⟨w.heap.size, 0, none⟩ = some x ∧ w'.cell? ⟨w.heap.size, 1, none⟩ = some y ∧ w'.cell? ⟨w.heap.size, 2, none⟩ = some z ∧
      w'.cell? ⟨w.heap.size + 1, 0, none⟩ = some x' ∧ w'.cell? ⟨w.heap.size + 1, 1, none⟩ = some y' ∧ w'.cell? ⟨w.heap.size + 1, 2, none⟩ = some z' := by
  refine ⟨?_, ?_, ?_, ?_, ?_, ?_⟩
  · rw [h.cell (by simp), World.cell?_alloc_lt _ _ _ (by simp), World.cell?_alloc_at _ _ _ _ (by simp)]; rfl
  · rw [h.cell (by simp), World.cell?_alloc_lt _ _ _ (by simp), World.cell?_alloc_at _ _ _ _ (by simp)]; rfl
  · rw [h.cell (by simp), World.cell?_alloc_lt _ _ _ (by simp), World.cell?_alloc_at _ _ _ _ (by simp)]; rfl
  · rw [h.cell (by simp), World.cell?_alloc_at _ _ _ _ (by simp)]; rfl
  · rw [h.cell (by simp), World.cell?_alloc_at _ _ _ _ (by simp)]; rfl
  · rw [h.cell (by simp), World.cell?_alloc_at _ _ _ _ (by simp)]; rfl
theorem tb_freeS {w w' : World} {o o' : Obj} (h : Below (w.heap.size + 2) ((w.alloc o).alloc o') w') (j : Nat) {c c' : Array Value} {T T' : TypeId} (ho : o = .cells c T) (ho' : o' = .cells c' T') :
    w'.frozen? ⟨w.heap.size, j, none⟩ = false ∧ w'.frozen? ⟨w.heap.size + 1, j, none⟩ = false := by
  subst ho
  subst ho'
  constructor
  · rw [h.frozen (by simp), World.frozen?_alloc_past _ _ _ (by simp), World.frozen?_alloc_at _ _ _ _ (by simp)]
  · rw [h.frozen (by simp), World.frozen?_alloc_at _ _ _ _ (by simp)]


theorem sd_end {w w1 : World} {bs : List Bd} {s v s' v' : Int} {k k' : Fo} {t : Bool} {a : Option Addr} {c : Nat} {o o' : Obj} (hr : sdR bs s v k = (s', v', k', t)) (hb : Below (w.heap.size + 2) ((w.alloc o).alloc o') w1) (hl : Sl w1 (w.heap.size + 2) w1.heap.size a k') (x y z : Value) :
    SdPost bs s v k w (.returned (.tuple #[.agg #[.int .i64 s', .int .i64 v', .slice a (flen k') c], .bool t])) (((w1.setCell ⟨w.heap.size + 1, 0, none⟩ x).setCell ⟨w.heap.size + 1, 1, none⟩ y).setCell ⟨w.heap.size + 1, 2, none⟩ z) := by
  have h0 : Same (w.heap.size + 2) w1.heap.size w1 w1 := fun _ _ _ => rfl
  have hb' : Below w.heap.size w w1 := (((Below.refl _ _).alloc (Nat.le_refl _) o).alloc (by simp) o').trans (hb.mono (by omega))
  exact ⟨a, c, s', v', k', t, hr, rfl, ((hb'.setCell (by simp) _).setCell (by simp) _).setCell (by simp) _, (hl.same (((h0.setCell (.inl (by simp)) _).setCell (.inl (by simp)) _).setCell (.inl (by simp)) _)).mono (by omega) (by simp)⟩

set_option maxRecDepth 100000 in
set_option maxHeartbeats 2000000 in
theorem iSubstDo_any (bs : List Bd) (A : Option Addr) (C : Nat) (s v : Int) (a : Option Addr) (c : Nat) (k : Fo) (w : World) (hb : BSl w 0 w.heap.size A bs) (hbl : bs.length ≤ 9223372036854775807) (hl : Sl w 0 w.heap.size a k) :
    Calls Try.prog 35 #[.slice A bs.length C, .agg #[.int .i64 s, .int .i64 v, .slice a (flen k) c]] w (SdPost bs s v k w) := by
  have hb0 : Below w.heap.size w ((w.alloc (.cells #[.int .i64 s, .int .i64 v, .slice a (flen k) c] 35)).alloc (.cells #[.int .i64 0, .int .i64 0, .slice none 0 0] 35)) := ((Below.refl _ _).alloc (Nat.le_refl _) _).alloc (by simp) _
  have HBS := Lib.hid ((hb.below hb0).mono (Nat.le_refl _) hb0.size)
  have HL0 := Lib.hid ((hl.below hb0).mono (Nat.le_refl _) hb0.size)
  have HB0 : Hid (Below (w.heap.size + 2) ((w.alloc (.cells #[.int .i64 s, .int .i64 v, .slice a (flen k) c] 35)).alloc (.cells #[.int .i64 0, .int .i64 0, .slice none 0 0] 35)) ((w.alloc (.cells #[.int .i64 s, .int .i64 v, .slice a (flen k) c] 35)).alloc (.cells #[.int .i64 0, .int .i64 0, .slice none 0 0] 35))) := Below.refl _ _
  have hsz : w.heap.size + 2 ≤ ((w.alloc (.cells #[.int .i64 s, .int .i64 v, .slice a (flen k) c] 35)).alloc (.cells #[.int .i64 0, .int .i64 0, .slice none 0 0] 35)).heap.size := by simp
  clear hb0 hb hl
  go_enter Try.func35, Try.ntmps35
  go_wp2_with fail
  with_reducible refine (substOf_any bs A C 16 _ HBS.out hbl (by omega) (by omega)).mono ?_
  rintro e w1 ⟨hb1, hcase⟩
  have hs1 := hb1.size
  have hb1' := HB0.out.trans (hb1.mono hsz)
  obtain ⟨hc0, hc1, hc2, _, _, _⟩ := tb_cellsS hb1'
  have HB1 := Lib.hid hb1'
  have HL1 := Lib.hid ((HL0.out.below hb1).mono (Nat.le_refl _) hs1)
  clear hb1 hb1'
  rcases hcase with ⟨hsok, b, rfl, hbb, hmap⟩ | ⟨hsok, rfl⟩
  · have HM1 := Lib.hid hmap
    have HSOK := Lib.hid hsok
    clear hmap hsok
    go_wp2_with fail
    with_reducible refine (nodeOf_any s v a c k 16 _ HL1.out (by omega) (by omega)).mono ?_
    rintro e w2 ⟨nv, rfl, hb2, hyes⟩
    have hs2 := hb2.size
    have hb2' := HB1.out.trans (hb2.mono (by omega))
    have HB2 := Lib.hid hb2'
    have HM2 := Lib.hid (HM1.out.below hb2)
    have HY := Lib.hid hyes
    clear hb2 hyes hc0 hc1 hc2
    cases hok : okW s v k 16 with
    | false =>
      have HR : Hid (sdR bs s v k = (0, 0, .nil, false)) := by unfold Hid sdR; rw [if_neg (by rw [hok]; simp)]
      clear hok
      have HBE := Lib.hid hb2'
      obtain ⟨hr0, hr1, hr2, hr3, hr4, hr5⟩ := tb_cellsS hb2'
      obtain ⟨hf0, hf3⟩ := tb_freeS hb2' 0 rfl rfl
      obtain ⟨hf1, hf4⟩ := tb_freeS hb2' 1 rfl rfl
      obtain ⟨hf2, hf5⟩ := tb_freeS hb2' 2 rfl rfl
      clear hb2'
      go_wp2_with fail
      refine bodyPost_ret (v := .tuple #[.agg #[.int .i64 0, .int .i64 0, .slice none 0 0], .bool false]) ?_ rfl (sd_end (k' := .nil) HR.out HBE.out (.inl rfl) _ _ _)
      simp [results, Try.results35, go_sem, hr3, hr4, hr5]
    | true =>
      obtain ⟨t1, t2, t3⟩ := tsub_ok HSOK.out hok
      have HT1 := Lib.hid t1
      have HT2 := Lib.hid t2
      have HN2 : Hid (NodeIs w2 0 w2.heap.size nv s v k) := (HY.out hok).mono (Nat.zero_le _) (Nat.le_refl _)
      have HOK := Lib.hid hok
      obtain ⟨o1, o2, o3⟩ := (okW_iff _ _ _ _).1 hok
      have HO1 := Lib.hid o1
      have HO2 := Lib.hid o2
      have o4 : fsz k ≤ 1000 := by omega
      clear hok hb2' t1 t2 o1 o2 HY
      go_wp2_with fail
      with_reducible refine (apply_any bs b s v k nv _ HN2.out HM2.out HO1.out HO2.out o4).mono ?_
      have HRD : Hid (∀ s' v' k', tsub (sv bs) s v k = (s', v', k') → (1 + fsz k' ≤ 16 → sdR bs s v k = (s', v', k', true)) ∧ (¬ 1 + fsz k' ≤ 16 → sdR bs s v k = (0, 0, .nil, false))) := fun s' v' k' h => by
        unfold sdR
        rw [h]
        exact ⟨fun h1 => by rw [if_pos ⟨HSOK.out, HOK.out, h1⟩], fun h1 => by rw [if_neg fun h2 => h1 h2.2.2]⟩
      generalize htt : tsub (sv bs) s v k = tt at *
      obtain ⟨s', v', k'⟩ := tt
      dsimp only at HT1 HT2 t3
      have HR0 := Lib.hid (HRD.out s' v' k' rfl)
      clear htt HRD
      rintro e w4 ⟨nv', rfl, hb4, hn'⟩
      have hs4 := hb4.size
      have hb4' := HB2.out.trans (hb4.mono (by omega))
      dsimp only at hn'
      have HB4 := Lib.hid hb4'
      clear hb4 hb4'
      by_cases hbig : 1 + fsz k' ≤ 16
      · have e1 : decide ((16 : Int) < 1 + (fsz k' : Int)) = false := decide_eq_false (by omega)
        have HR := Lib.hid (HR0.out.1 hbig)
        rcases hn' with ⟨rfl, rfl, rfl⟩ | ⟨hs', a5, c5, rfl, hn2⟩
        · clear e1
          go_wp2_with fail
          refine upon_method 141 (by kernel_rfl) (by kernel_rfl) ?_
          go_simp
          with_reducible refine (varSize_any v' _).mono ?_
          rintro e w5 ⟨rfl, rfl⟩
          go_wp2_with fail
          refine upon_method 142 (by kernel_rfl) (by kernel_rfl) ?_
          go_simp
          with_reducible refine (varTerm_any v' _).mono ?_
          rintro e w6 ⟨a6, c6, rfl, hb6, hl6⟩
          have hs6 := hb6.size
          have hb6' := HB4.out.trans (hb6.mono (by omega))
          have HBE := Lib.hid hb6'
          obtain ⟨hr0, hr1, hr2, hr3, hr4, hr5⟩ := tb_cellsS hb6'
          obtain ⟨hf0, hf3⟩ := tb_freeS hb6' 0 rfl rfl
          obtain ⟨hf1, hf4⟩ := tb_freeS hb6' 1 rfl rfl
          obtain ⟨hf2, hf5⟩ := tb_freeS hb6' 2 rfl rfl
          have HL6 := Lib.hid (hl6.mono (lo' := w.heap.size + 2) (by omega) (Nat.le_refl _))
          clear hb6 hl6 hb6'
          go_wp2_with fail
          refine bodyPost_ret (v := .tuple #[.agg #[.int .i64 0, .int .i64 v', .slice a6 (flen .nil) c6], .bool true]) ?_ rfl (sd_end HR.out HBE.out HL6.out _ _ _)
          simp [results, Try.results35, go_sem, hr3, hr4, hr5]
        · have hv0 : v' = 0 := ((okN_iff _ _ _).1 HT1.out).2.2 hs'
          subst hv0
          have HNS := Lib.hid hn2
          clear hn2
          go_wp2_with fail
          refine upon_method 158 (by kernel_rfl) (by kernel_rfl) ?_
          go_simp
          with_reducible refine (symSize_any (fsz k') s' a5 c5 k' _ HNS.out (Nat.le_refl _) (by omega)).mono ?_
          rintro e w5 ⟨rfl, hb5⟩
          have hs5 := hb5.size
          have HNS5 := Lib.hid ((HNS.out.below hb5).mono (lo' := 0) (Nat.le_refl _) hs5)
          have HB5 := Lib.hid (HB4.out.trans (hb5.mono (by omega)))
          clear hb5
          go_wp2_with fail
          refine upon_method 159 (by kernel_rfl) (by kernel_rfl) ?_
          go_simp
          with_reducible refine (symTerm_any (fsz k') s' a5 c5 k' _ HNS5.out HT2.out (Nat.le_refl _) (by omega)).mono ?_
          rintro e w6 ⟨a6, c6, rfl, hb6, hl6⟩
          have hs6 := hb6.size
          have hb6' := HB5.out.trans (hb6.mono (by omega))
          have HBE := Lib.hid hb6'
          obtain ⟨hr0, hr1, hr2, hr3, hr4, hr5⟩ := tb_cellsS hb6'
          obtain ⟨hf0, hf3⟩ := tb_freeS hb6' 0 rfl rfl
          obtain ⟨hf1, hf4⟩ := tb_freeS hb6' 1 rfl rfl
          obtain ⟨hf2, hf5⟩ := tb_freeS hb6' 2 rfl rfl
          have HL6 := Lib.hid (hl6.mono (lo' := w.heap.size + 2) (by omega) (Nat.le_refl _))
          clear hb6 hl6 hb6'
          go_wp2_with fail
          refine bodyPost_ret (v := .tuple #[.agg #[.int .i64 s', .int .i64 0, .slice a6 (flen k') c6], .bool true]) ?_ rfl (sd_end HR.out HBE.out HL6.out _ _ _)
          simp [results, Try.results35, go_sem, hr3, hr4, hr5]
      · have e1 : decide ((16 : Int) < 1 + (fsz k' : Int)) = true := decide_eq_true (by omega)
        have HR := Lib.hid (HR0.out.2 hbig)
        rcases hn' with ⟨rfl, rfl, rfl⟩ | ⟨hs', a5, c5, rfl, hn2⟩
        · simp [fsz] at hbig
        · have HNS := Lib.hid hn2
          clear hn2
          go_wp2_with fail
          refine upon_method 158 (by kernel_rfl) (by kernel_rfl) ?_
          go_simp
          with_reducible refine (symSize_any (fsz k') s' a5 c5 k' _ HNS.out (Nat.le_refl _) (by omega)).mono ?_
          rintro e w5 ⟨rfl, hb5⟩
          have hs5 := hb5.size
          have hb5' := HB4.out.trans (hb5.mono (by omega))
          have HBE := Lib.hid hb5'
          obtain ⟨hr0, hr1, hr2, hr3, hr4, hr5⟩ := tb_cellsS hb5'
          obtain ⟨hf0, hf3⟩ := tb_freeS hb5' 0 rfl rfl
          obtain ⟨hf1, hf4⟩ := tb_freeS hb5' 1 rfl rfl
          obtain ⟨hf2, hf5⟩ := tb_freeS hb5' 2 rfl rfl
          clear hb5 hb5'
          go_wp2_with fail
          refine bodyPost_ret (v := .tuple #[.agg #[.int .i64 0, .int .i64 0, .slice none 0 0], .bool false]) ?_ rfl (sd_end (k' := .nil) HR.out HBE.out (.inl rfl) _ _ _)
          simp [results, Try.results35, go_sem, hr3, hr4, hr5]
  · have HR : Hid (sdR bs s v k = (0, 0, .nil, false)) := by unfold Hid sdR; rw [if_neg (by rw [hsok]; simp)]
    clear hsok
    go_wp2_with fail
    with_reducible refine (nodeOf_any s v a c k 16 _ HL1.out (by omega) (by omega)).mono ?_
    rintro e w2 ⟨nv, rfl, hb2, _⟩
    have hs2 := hb2.size
    have hb2' := HB1.out.trans (hb2.mono (by omega))
    have HBE := Lib.hid hb2'
    obtain ⟨hr0, hr1, hr2, hr3, hr4, hr5⟩ := tb_cellsS hb2'
    obtain ⟨hf0, hf3⟩ := tb_freeS hb2' 0 rfl rfl
    obtain ⟨hf1, hf4⟩ := tb_freeS hb2' 1 rfl rfl
    obtain ⟨hf2, hf5⟩ := tb_freeS hb2' 2 rfl rfl
    clear hb2 hb2' hc0 hc1 hc2
    generalize okW s v k 16 = okk
    cases okk with
    | false =>
      go_wp2_with fail
      refine bodyPost_ret (v := .tuple #[.agg #[.int .i64 0, .int .i64 0, .slice none 0 0], .bool false]) ?_ rfl (sd_end (k' := .nil) HR.out HBE.out (.inl rfl) _ _ _)
      simp [results, Try.results35, go_sem, hr3, hr4, hr5]
    | true =>
      go_wp2_with fail
      refine bodyPost_ret (v := .tuple #[.agg #[.int .i64 0, .int .i64 0, .slice none 0 0], .bool false]) ?_ rfl (sd_end (k' := .nil) HR.out HBE.out (.inl rfl) _ _ _)
      simp [results, Try.results35, go_sem, hr3, hr4, hr5]
end Go.Proofs.Ytdkcbbhkoibplaa
