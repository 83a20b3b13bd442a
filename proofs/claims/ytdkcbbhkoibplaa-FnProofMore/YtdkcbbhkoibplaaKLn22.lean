/- Several texts in one: A2o, FW. -/
import Derived.Test.YtdkcbbhkoibplaaKLn6
import Derived.Test.YtdkcbbhkoibplaaKLn21
import Derived.Test.YtdkcbbhkoibplaaKLn20
import Derived.Test.YtdkcbbhkoibplaaKLn12
import Derived.Test.YtdkcbbhkoibplaaKLn13
import Derived.RangeFuncOwn

/-! A2o: The term that a node stands for, made anew, is a tree of one's own. -/
namespace Go.Proofs.Ytdkcbbhkoibplaa
open Go.RowKit Go.Deep
attribute [local go_sem ↓] Go.wp_at_zero Go.wp_at_succ

/-- The terms k lie there as a tree of one's own. -/
def TXo (w : World) (lo B : Nat) (a : Option Addr) (k : Fo) : Prop := Sl w lo B a k ∧ TroS w lo B a k
theorem TXo.same {w w' : World} {lo B : Nat} {a : Option Addr} {k : Fo} (hb : Same lo B w w') (h : TXo w lo B a k) : TXo w' lo B a k := ⟨h.1.same hb, h.2.same hb⟩
theorem TXo.mono {w : World} {lo lo' B B' : Nat} {a : Option Addr} {k : Fo} (hlo : lo' ≤ lo) (hB : B ≤ B') (h : TXo w lo B a k) : TXo w lo' B' a k := ⟨h.1.mono hlo hB, h.2.mono hlo hB⟩

def TmPostO (s v : Int) (k : Fo) (w : World) (e : Ending) (w' : World) : Prop :=
  ∃ a c, e = .returned (.agg #[.int .i64 s, .int .i64 v, .slice a (flen k) c]) ∧ Below w.heap.size w w' ∧ TXo w' w.heap.size w'.heap.size a k

set_option maxRecDepth 100000 in
set_option maxHeartbeats 1000000 in
theorem varTermO_any (v : Int) (w : World) : Calls Try.prog 142 #[.int .i64 v] w (TmPostO 0 v .nil w) := by
  go_enter Try.func142, Try.ntmps142
  go_wp2_with fail
  refine bodyPost_ret (v := .agg #[.int .i64 0, .int .i64 v, .slice none 0 0]) ?_ rfl ⟨none, 0, rfl, (Below.refl _ _).alloc (Nat.le_refl _) _, ⟨.inl rfl, .inl rfl⟩⟩
  simp [results, Try.results142, go_sem]

/-- What holds at the head of term's loop: the first j kids are made. -/
structure TmAtO (w : World) (s : Int) (k : Fo) (j : Nat) (wr : World) : Prop where
  below : Below w.heap.size w wr
  size : w.heap.size + 4 ≤ wr.heap.size
  t0 : wr.cell? ⟨w.heap.size + 1 + 1, 0, none⟩ = some (.int .i64 s)
  t1 : wr.cell? ⟨w.heap.size + 1 + 1, 1, none⟩ = some (.int .i64 0)
  t2 : wr.cell? ⟨w.heap.size + 1 + 1, 2, none⟩ = some (.slice (some ⟨w.heap.size + 1 + 1 + 1, 0, none⟩) (flen k) (flen k))
  r0 : wr.cell? ⟨w.heap.size + 1, 0, none⟩ = some (.int .i64 0)
  r1 : wr.cell? ⟨w.heap.size + 1, 1, none⟩ = some (.int .i64 0)
  r2 : wr.cell? ⟨w.heap.size + 1, 2, none⟩ = some (.slice none 0 0)
  q0 : wr.frozen? ⟨w.heap.size + 1, 0, none⟩ = false
  q1 : wr.frozen? ⟨w.heap.size + 1, 1, none⟩ = false
  q2 : wr.frozen? ⟨w.heap.size + 1, 2, none⟩ = false
  row : ∃ f : Nat → Value, wr.rowIs (w.heap.size + 1 + 1 + 1) 35 (flen k * 3) f ∧ ∃ Ls : Nat → Nat, Ls 0 = w.heap.size + 4 ∧ (∀ i, i < j → Ls i ≤ Ls (i + 1)) ∧ Ls j ≤ wr.heap.size ∧ ∀ i, i < j → ∃ x y s v kk a c, fdrop i k = .node x y (s, v) kk (fdrop (i + 1) k) ∧
    f (i * 3) = .int .i64 s ∧ f (i * 3 + 1) = .int .i64 v ∧ f (i * 3 + 2) = .slice a (flen kk) c ∧ TXo wr (Ls i) (Ls (i + 1)) a kk

theorem TmAtO.start (w : World) (s : Int) (k : Fo) (x : Value) (y : Value) : TmAtO w s k 0 ((((w.alloc (.cells #[x, y] 165)).alloc (.cells #[.int .i64 0, .int .i64 0, .slice none 0 0] 35)).alloc (.cells #[.int .i64 s, .int .i64 0, .slice (some ⟨w.heap.size + 1 + 1 + 1, 0, none⟩) (flen k) (flen k)] 35)).alloc (.cells (madeCells #[.int .i64 0, .int .i64 0, .slice none 0 0] (flen k * 3)) 35)) := by
  refine ⟨((((Below.refl _ _).alloc (Nat.le_refl _) _).alloc (by simp) _).alloc (by simp; omega) _).alloc (by simp; omega) _, by simp, ?_, ?_, ?_, ?_, ?_, ?_, ?_, ?_, ?_, ?_⟩
  · rw [World.cell?_alloc_lt _ _ _ (by simp), World.cell?_alloc_at _ _ _ _ (by simp)]; rfl
  · rw [World.cell?_alloc_lt _ _ _ (by simp), World.cell?_alloc_at _ _ _ _ (by simp)]; rfl
  · rw [World.cell?_alloc_lt _ _ _ (by simp), World.cell?_alloc_at _ _ _ _ (by simp)]; rfl
  · rw [World.cell?_alloc_lt _ _ _ (by simp), World.cell?_alloc_lt _ _ _ (by simp), World.cell?_alloc_at _ _ _ _ (by simp)]; rfl
  · rw [World.cell?_alloc_lt _ _ _ (by simp), World.cell?_alloc_lt _ _ _ (by simp), World.cell?_alloc_at _ _ _ _ (by simp)]; rfl
  · rw [World.cell?_alloc_lt _ _ _ (by simp), World.cell?_alloc_lt _ _ _ (by simp), World.cell?_alloc_at _ _ _ _ (by simp)]; rfl
  · rw [World.frozen?_alloc_past _ _ _ (by simp), World.frozen?_alloc_past _ _ _ (by simp), World.frozen?_alloc_at _ _ _ _ (by simp)]
  · rw [World.frozen?_alloc_past _ _ _ (by simp), World.frozen?_alloc_past _ _ _ (by simp), World.frozen?_alloc_at _ _ _ _ (by simp)]
  · rw [World.frozen?_alloc_past _ _ _ (by simp), World.frozen?_alloc_past _ _ _ (by simp), World.frozen?_alloc_at _ _ _ _ (by simp)]
  · refine ⟨fun i => #[Value.int .i64 0, .int .i64 0, .slice none 0 0][i % 3]!, ?_, fun _ => w.heap.size + 4, rfl, fun i hi => by omega, by simp, fun i hi => by omega⟩
    have := World.rowIs_alloc (((w.alloc (.cells #[x, y] 165)).alloc (.cells #[.int .i64 0, .int .i64 0, .slice none 0 0] 35)).alloc (.cells #[.int .i64 s, .int .i64 0, .slice (some ⟨w.heap.size + 1 + 1 + 1, 0, none⟩) (flen k) (flen k)] 35)) (madeCells #[.int .i64 0, .int .i64 0, .slice none 0 0] (flen k * 3)) 35 (fun i => #[Value.int .i64 0, .int .i64 0, .slice none 0 0][i % 3]!) (fun i hi => by
      rw [size_madeCells] at hi
      exact made_atA _ _ _ hi)
    rw [size_madeCells] at this
    simp only [World.size_alloc] at this
    exact this
theorem TmAtO.step {w wr w2 : World} {s0 : Int} {k : Fo} {j x y : Nat} {s v : Int} {kk : Fo} {a : Option Addr} {c : Nat} (h : TmAtO w s0 k j wr) (hd : fdrop j k = .node x y (s, v) kk (fdrop (j + 1) k)) (hb : Below wr.heap.size wr w2) (hl : TXo w2 wr.heap.size w2.heap.size a kk) :
    TmAtO w s0 k (j + 1) (((w2.setCell ⟨w.heap.size + 1 + 1 + 1, j * 3, none⟩ (.int .i64 s)).setCell ⟨w.heap.size + 1 + 1 + 1, j * 3 + 1, none⟩ (.int .i64 v)).setCell ⟨w.heap.size + 1 + 1 + 1, j * 3 + 2, none⟩ (.slice a (flen kk) c)) := by
  have hs := h.size
  have hs2 := hb.size
  obtain ⟨f, hf, Ls, hL0, hL1, hL2, hall⟩ := h.row
  have hf2 := hf.of_block (hb.block _ (by omega))
  have hsame : ∀ {L H : Nat}, w.heap.size + 3 < L → Same L H w2 (((w2.setCell ⟨w.heap.size + 1 + 1 + 1, j * 3, none⟩ (.int .i64 s)).setCell ⟨w.heap.size + 1 + 1 + 1, j * 3 + 1, none⟩ (.int .i64 v)).setCell ⟨w.heap.size + 1 + 1 + 1, j * 3 + 2, none⟩ (.slice a (flen kk) c)) := fun hL =>
    ((Same.setCell (fun _ _ _ => rfl) (.inl (by simp; omega)) _).setCell (.inl (by simp; omega)) _).setCell (.inl (by simp; omega)) _
  have hcell : ∀ {q : Addr} {u : Value}, wr.cell? q = some u → q.block < w.heap.size + 3 → (((w2.setCell ⟨w.heap.size + 1 + 1 + 1, j * 3, none⟩ (.int .i64 s)).setCell ⟨w.heap.size + 1 + 1 + 1, j * 3 + 1, none⟩ (.int .i64 v)).setCell ⟨w.heap.size + 1 + 1 + 1, j * 3 + 2, none⟩ (.slice a (flen kk) c)).cell? q = some u := fun {q u} hq hlt => by
    rw [World.cell?_setCell_other _ _ _ _ (by intro h'; have := congrArg Addr.block h'; simp at this; omega), World.cell?_setCell_other _ _ _ _ (by intro h'; have := congrArg Addr.block h'; simp at this; omega), World.cell?_setCell_other _ _ _ _ (by intro h'; have := congrArg Addr.block h'; simp at this; omega), hb.cell (World.block_lt_of_cell? _ _ hq)]
    exact hq
  have hfro : ∀ {q : Addr}, wr.frozen? q = false → q.block < w.heap.size + 3 → (((w2.setCell ⟨w.heap.size + 1 + 1 + 1, j * 3, none⟩ (.int .i64 s)).setCell ⟨w.heap.size + 1 + 1 + 1, j * 3 + 1, none⟩ (.int .i64 v)).setCell ⟨w.heap.size + 1 + 1 + 1, j * 3 + 2, none⟩ (.slice a (flen kk) c)).frozen? q = false := fun {q} hq hlt => by
    rw [World.frozen?_setCell, World.frozen?_setCell, World.frozen?_setCell, hb.frozen (by omega)]
    exact hq
  refine ⟨(((h.below.trans (hb.mono (by omega))).setCell (by simp; omega) _).setCell (by simp; omega) _).setCell (by simp; omega) _, by simp; omega, hcell h.t0 (by simp), hcell h.t1 (by simp), hcell h.t2 (by simp), hcell h.r0 (by simp), hcell h.r1 (by simp), hcell h.r2 (by simp), hfro h.q0 (by simp), hfro h.q1 (by simp), hfro h.q2 (by simp), ⟨_, ((hf2.set _ _).set _ _).set _ _, fun i => if i ≤ j then Ls i else w2.heap.size, by simp [hL0], fun i hi => ?_, by simp [show ¬(j + 1 ≤ j) from by omega], fun i hi => ?_⟩⟩
  · by_cases hij : i = j
    · subst hij
      dsimp only
      rw [if_pos (Nat.le_refl _), if_neg (by omega)]
      omega
    · dsimp only
      rw [if_pos (by omega), if_pos (by omega)]
      exact hL1 i (by omega)
  by_cases hij : i = j
  · subst hij
    refine ⟨x, y, s, v, kk, a, c, hd, by simp, by simp, by simp, ?_⟩
    simp only [Nat.le_refl, if_true, show ¬(i + 1 ≤ i) from by omega, if_false]
    have h0 : Ls 0 ≤ Ls i := by have := Ls_mono hL1 i 0 (by omega); rwa [Nat.zero_add] at this
    exact (hl.same (hsame (by omega))).mono (by omega) (Nat.le_refl _)
  · obtain ⟨x', y', s', v', k', a', c', e, h0, h1, h2, hsl⟩ := hall i (by omega)
    have q0 : Ls 0 ≤ Ls i := by have := Ls_mono hL1 i 0 (by omega); rwa [Nat.zero_add] at this
    have q1 : Ls (i + 1) ≤ Ls j := by have := Ls_mono hL1 (j - (i + 1)) (i + 1) (by omega); rwa [show i + 1 + (j - (i + 1)) = j from by omega] at this
    refine ⟨x', y', s', v', k', a', c', e, ?_, ?_, ?_, ?_⟩
    · rw [if_neg (by omega), if_neg (by omega), if_neg (by omega)]; exact h0
    · rw [if_neg (by omega), if_neg (by omega), if_neg (by omega)]; exact h1
    · rw [if_neg (by omega), if_neg (by omega), if_neg (by omega)]; exact h2
    · dsimp only
      rw [if_pos (show i ≤ j by omega), if_pos (show i + 1 ≤ j by omega)]
      exact (hsl.same (fun b h1 h2 => hb.block b (by omega))).same (hsame (by omega))
theorem TmAtO.sl {w wr : World} {s : Int} {k : Fo} {j : Nat} (h : TmAtO w s k j wr) (hj : flen k = j) : TXo wr (w.heap.size + 3) wr.heap.size (some ⟨w.heap.size + 1 + 1 + 1, 0, none⟩) k := by
  subst hj
  have hs := h.size
  obtain ⟨f, hf, Ls, hL0, hL1, hL2, hall⟩ := h.row
  have key : ∀ i, i < flen k → ∃ x y s v kk a c, fdrop i k = .node x y (s, v) kk (fdrop (i + 1) k) ∧ wr.cell? ⟨w.heap.size + 1 + 1 + 1, 0 + i * 3, none⟩ = some (.int .i64 s) ∧ wr.cell? ⟨w.heap.size + 1 + 1 + 1, 0 + i * 3 + 1, none⟩ = some (.int .i64 v) ∧
      wr.cell? ⟨w.heap.size + 1 + 1 + 1, 0 + i * 3 + 2, none⟩ = some (.slice a (flen kk) c) ∧ TXo wr (Ls i) (Ls (i + 1)) a kk := fun i hi => by
    obtain ⟨x, y, s, v, kk, a, c, e, h0, h1, h2, hs⟩ := hall i hi
    refine ⟨x, y, s, v, kk, a, c, e, ?_, ?_, ?_, hs⟩
    · rw [Nat.zero_add, ← h0]; exact hf.cell (by omega)
    · rw [Nat.zero_add, ← h1]; exact hf.cell (by omega)
    · rw [Nat.zero_add, ← h2]; exact hf.cell (by omega)
  refine ⟨.inr ⟨_, 0, rfl, row_of_all k _ 0 (by omega) (by omega) fun i hi => ?_⟩, .inr ⟨_, rfl, by omega, by omega, ?_⟩⟩
  · obtain ⟨x, y, s, v, kk, a, c, e, h0, h1, h2, hs⟩ := key i hi
    have q0 : Ls 0 ≤ Ls i := by have := Ls_mono hL1 i 0 (by omega); rwa [Nat.zero_add] at this
    have q1 : Ls (i + 1) ≤ Ls (flen k) := by have := Ls_mono hL1 (flen k - (i + 1)) (i + 1) (by omega); rwa [show i + 1 + (flen k - (i + 1)) = flen k from by omega] at this
    exact ⟨x, y, s, v, kk, a, c, e, h0, h1, h2, hs.1.mono (by omega) (by omega)⟩
  · have := tro_of_all (w := wr) k (w.heap.size + 1 + 1 + 1) 0 wr.heap.size Ls hL1 hL2 (by omega) fun i hi => by
      obtain ⟨x, y, s, v, kk, a, c, e, h0, h1, h2, hs⟩ := key i hi
      exact ⟨x, y, s, v, kk, a, c, e, ⟨_, h0⟩, ⟨_, h1⟩, hf.frozen _, ⟨hf.frozen _, hf.frozen _⟩, h2, hs.2⟩
    rw [hL0] at this
    exact this
theorem tm_endO {w w1 : World} {s v : Int} {k : Fo} {a : Option Addr} {c : Nat} (hb : Below w.heap.size w w1) (hl : TXo w1 (w.heap.size + 3) w1.heap.size a k) (x y z : Value) :
    TmPostO s v k w (.returned (.agg #[.int .i64 s, .int .i64 v, .slice a (flen k) c])) (((w1.setCell ⟨w.heap.size + 1, 0, none⟩ x).setCell ⟨w.heap.size + 1, 1, none⟩ y).setCell ⟨w.heap.size + 1, 2, none⟩ z) := by
  refine ⟨a, c, rfl, ((hb.setCell (by simp) _).setCell (by simp) _).setCell (by simp) _, ?_⟩
  have hs : Same (w.heap.size + 3) w1.heap.size w1 (((w1.setCell ⟨w.heap.size + 1, 0, none⟩ x).setCell ⟨w.heap.size + 1, 1, none⟩ y).setCell ⟨w.heap.size + 1, 2, none⟩ z) :=
    (((Same.setCell (fun _ _ _ => rfl) (.inl (by simp)) _).setCell (.inl (by simp)) _).setCell (.inl (by simp)) _)
  exact (hl.same hs).mono (by omega) (by simp)

set_option maxRecDepth 100000 in
set_option maxHeartbeats 1000000 in
theorem symTermO_any (N : Nat) : ∀ (s : Int) (a : Option Addr) (c : Nat) (k : Fo) (w : World), NSl w 0 w.heap.size a k → fok k = true → fsz k ≤ N → N ≤ 1000000 →
    Calls Try.prog 159 #[.agg #[.int .i64 s, .slice a (flen k) c]] w (TmPostO s 0 k w) := by
  induction N using Nat.strongRecOn with
  | _ N ih =>
    intro s a c k w hl hok hN hN2
    have hfl := flen_le_sz k
    have IH := Lib.hid ih
    have HOK := Lib.hid hok
    clear ih hok
    by_cases h0 : flen k = 0
    · have hk : k = .nil := by
        cases k with
        | nil => rfl
        | node _ _ _ _ _ => simp [flen] at h0
      subst hk
      clear hl h0
      simp only [flen]
      go_enter Try.func159, Try.ntmps159
      go_wp2_with fail
      go_loopw [21] (fun i wr => i = .int .i64 0 ∧ wr = (((w.alloc (.cells #[.int .i64 s, .slice a 0 c] 165)).alloc (.cells #[.int .i64 0, .int .i64 0, .slice none 0 0] 35)).alloc (.cells #[.int .i64 s, .int .i64 0, .slice none 0 0] 35))) (fun _ _ => 0)
      case atStart => exact ⟨rfl, rfl⟩
      case round =>
        obtain ⟨rfl, rfl⟩ := hrel
        go_wp2_with fail
        refine bodyPost_ret (v := .agg #[.int .i64 s, .int .i64 0, .slice none 0 0]) ?_ rfl ⟨none, 0, rfl, (((Below.refl _ _).alloc (Nat.le_refl _) _).alloc (by simp) _).alloc (by simp; omega) _, ⟨.inl rfl, .inl rfl⟩⟩
        simp [results, Try.results159, go_sem]
    · have hmk := make_termsA (flen k) (by omega)
      have HST := Lib.hid (TmAtO.start w s k (.int .i64 s) (.slice a (flen k) c))
      have hpos : 0 < flen k := by omega
      go_enter Try.func159, Try.ntmps159
      go_wp2_with fail
      clear hmk
      go_loopw [21] (fun i wr => ∃ j : Nat, j ≤ flen k ∧ i = .int .i64 j ∧ TmAtO w s k j wr) (fun i _ => flen k - (intOf i).toNat)
      case atStart => exact ⟨0, by omega, rfl, HST.out⟩
      case round =>
        clear HST
        obtain ⟨j, hj, rfl, hat⟩ := hrel
        have hsr := hat.size
        by_cases hlt : j < flen k
        · rcases hl with rfl | ⟨b, o, rfl, hrow⟩
          · simp [flen] at hlt
          obtain ⟨s', v', kk, val, ⟨x, y, hd⟩, _, hbB, hk0, hn⟩ := nrow_at (hrow.below hat.below) hlt
          have hkN := fsz_kid hd
          have hkok := fok_kid HOK.out hd
          have ht2 := hat.t2
          have hu0 : ∀ u : After wr.heap.size wr, u.world.cell? ⟨w.heap.size + 1 + 1, 2, none⟩ = some (.slice (some ⟨w.heap.size + 1 + 1 + 1, 0, none⟩) (flen k) (flen k)) := fun u => u.cell (by simp; omega) ht2
          have g1 : (0 : Int) ≤ (j : Int) := by omega
          have g2 : (j : Int) < (flen k : Int) := by omega
          have HAT := Lib.hid hat
          have HD := Lib.hid hd
          clear hd hrow hat
          rcases hn with ⟨rfl, rfl, rfl⟩ | ⟨hs', a2, c2, rfl, hn2⟩
          · clear hkok
            go_wp2_with fail
            refine wp_region_mix (fun w' => ∃ u : After wr.heap.size wr, w' = u.world) [6] [(0, 0), (1, 0), (2, 0), (3, 0), (4, 1), (5, 1), (6, 2)] (by kernel_rfl) (by kernel_rfl) ⟨⟨_, (Below.refl _ _).drew⟩, rfl⟩ ?_
            iterate 4
              refine mix_see rfl (fun K hK => ?_)
              go_simp
              refine hK _ ?_
              clear hK K
            clear hu0
            refine mix_hold rfl (fun K hK => ?_)
            go_simp
            refine upon_method 142 (by kernel_rfl) (by kernel_rfl) ?_
            go_simp
            with_reducible refine (varTermO_any v' _).mono ?_
            rintro e w2 ⟨a2', c2', rfl, hb2', hl2⟩
            have hb2 : Below wr.heap.size wr w2 := bl_undrew hb2'
            obtain ⟨f, hf, _⟩ := HAT.out.row
            have hf2 := hf.of_block (hb2.block _ (by omega))
            have hg0 := hf2.cell (i := j * 3) (by omega)
            have hg1 := hf2.cell (i := j * 3 + 1) (by omega)
            have hg2 := hf2.cell (i := j * 3 + 2) (by omega)
            have hz0 := hf2.frozen (j * 3)
            have hz1 := hf2.frozen (j * 3 + 1)
            have hz2 := hf2.frozen (j * 3 + 2)
            have HSTEP := Lib.hid (HAT.out.step (c := c2') HD.out hb2 hl2)
            refine hK _ _ ⟨⟨_, hb2⟩, rfl⟩ ?_
            clear hK K hf hf2 hb2' hl2
            refine mix_hold rfl (fun K hK => ?_)
            go_simp
            refine hK _ _ ⟨⟨_, hb2⟩, rfl⟩ ?_
            clear hK K hb2
            refine mix_late rfl (fun K hK => ?_)
            go_simp
            refine hK _ _ ?_
            clear hK K
            refine mix_end ?_
            clear hg0 hg1 hg2 hz0 hz1 hz2 ht2 hk0
            go_wp2_with fail
            go_roundw
            case rel => exact ⟨j + 1, by omega, by go_num, HSTEP.out⟩
            case measure => simp [intOf]; omega
          · have hv0 : v' = 0 := ((okN_iff _ _ _).1 hkok.1).2.2 hs'
            subst hv0
            have HKK := Lib.hid hkok.2
            have HN2 := Lib.hid hn2
            clear hn2 hkok
            go_wp2_with fail
            refine wp_region_mix (fun w' => ∃ u : After wr.heap.size wr, w' = u.world) [6] [(0, 0), (1, 0), (2, 0), (3, 0), (4, 1), (5, 1), (6, 2)] (by kernel_rfl) (by kernel_rfl) ⟨⟨_, (Below.refl _ _).drew⟩, rfl⟩ ?_
            iterate 4
              refine mix_see rfl (fun K hK => ?_)
              go_simp
              refine hK _ ?_
              clear hK K
            clear hu0
            refine mix_hold rfl (fun K hK => ?_)
            go_simp
            refine upon_method 159 (by kernel_rfl) (by kernel_rfl) ?_
            go_simp
            with_reducible refine (IH.out (fsz kk) (by omega) s' a2 c2 kk _ ?_ HKK.out (Nat.le_refl _) (by omega)).mono ?_
            · exact (HN2.out.below (Below.refl _ _).drew).mono (Nat.le_refl _) (by simp; omega)
            rintro e w2 ⟨a2', c2', rfl, hb2', hl2⟩
            have hb2 : Below wr.heap.size wr w2 := bl_undrew hb2'
            obtain ⟨f, hf, _⟩ := HAT.out.row
            have hf2 := hf.of_block (hb2.block _ (by omega))
            have hg0 := hf2.cell (i := j * 3) (by omega)
            have hg1 := hf2.cell (i := j * 3 + 1) (by omega)
            have hg2 := hf2.cell (i := j * 3 + 2) (by omega)
            have hz0 := hf2.frozen (j * 3)
            have hz1 := hf2.frozen (j * 3 + 1)
            have hz2 := hf2.frozen (j * 3 + 2)
            have HSTEP := Lib.hid (HAT.out.step (c := c2') HD.out hb2 hl2)
            refine hK _ _ ⟨⟨_, hb2⟩, rfl⟩ ?_
            clear hK K hf hf2 hb2' hl2
            refine mix_hold rfl (fun K hK => ?_)
            go_simp
            refine hK _ _ ⟨⟨_, hb2⟩, rfl⟩ ?_
            clear hK K hb2
            refine mix_late rfl (fun K hK => ?_)
            go_simp
            refine hK _ _ ?_
            clear hK K
            refine mix_end ?_
            clear hg0 hg1 hg2 hz0 hz1 hz2 ht2 hk0
            go_wp2_with fail
            go_roundw
            case rel => exact ⟨j + 1, by omega, by go_num, HSTEP.out⟩
            case measure => simp [intOf]; omega
        · have hjk : j = flen k := by omega
          subst hjk
          have HDN := Lib.hid (fun x y z => tm_endO (s := s) (v := 0) (c := flen k) hat.below (hat.sl rfl) x y z)
          have ht0 := hat.t0
          have ht1 := hat.t1
          have ht2 := hat.t2
          have hr0 := hat.r0
          have hr1 := hat.r1
          have hr2 := hat.r2
          have hq0 := hat.q0
          have hq1 := hat.q1
          have hq2 := hat.q2
          clear hat
          go_wp2_with fail
          refine bodyPost_ret (v := .agg #[.int .i64 s, .int .i64 0, .slice (some ⟨w.heap.size + 1 + 1 + 1, 0, none⟩) (flen k) (flen k)]) ?_ rfl (HDN.out _ _ _)
          simp [results, Try.results159, go_sem, hr0, hr1, hr2]
end Go.Proofs.Ytdkcbbhkoibplaa

/-! FW: follow: a link done within a term in memory of its own. -/
namespace Go.Proofs.Ytdkcbbhkoibplaa
open Go.RowKit Go.Deep Go.Maps

theorem KeepsOthers.of_low {w w' : World} (h : Below w.heap.size w w') : KeepsOthers w w' := ⟨h.size, fun k _ hk _ => (h.block k (Array.getElem?_eq_some_iff.1 hk).1).trans hk⟩
/-- One node alone, in a box of its own. -/
abbrev one3 (s v : Int) (k : Fo) : Fo := .node 0 0 (s, v) k .nil
/-- What follow leaves: r is what comes of it. -/
def FwPost (r : Option Tm3) (wD : World) (e : Nat) (P0 : Nat → Prop) (w : World) (en : Ending) (w' : World) : Prop :=
  ∃ t, en = .returned (.bool t) ∧ Below wD.heap.size wD w' ∧ KeepsOthers w w' ∧ (∀ b, b < w.heap.size → b ≠ e → ¬ P0 b → w'.heap[b]? = w.heap[b]?) ∧ (t = false → r = none) ∧
    (t = true → ∃ s v k P, r = some (s, v, k) ∧ OwR w' (one3 s v k) e 0 P ∧ ¬ P e ∧ (∀ x, P x → P0 x ∨ (w.heap.size ≤ x ∧ x < w'.heap.size)) ∧ e < w'.heap.size)
theorem OwR.low {w w' : World} {k : Fo} {b o : Nat} {P : Nat → Prop} (h : OwR w k b o P) (hP : ∀ x, P x → x < w.heap.size) (hb : b < w.heap.size) (hl : Below w.heap.size w w') : OwR w' k b o P :=
  h.keep fun q hq => by
    have hlt : q.block < w.heap.size := by
      rcases hq with hq | ⟨hq, _⟩
      · exact hP _ hq
      · omega
    exact ⟨hl.cell hlt, hl.frozen hlt⟩
theorem OwR.sl_kids {w : World} {x y : Nat} {s v : Int} {k r : Fo} {b o : Nat} {P : Nat → Prop} (h : OwR w (.node x y (s, v) k r) b o P) (hP : ∀ x, P x → x < w.heap.size) : ∃ a c, w.cell? ⟨b, o, none⟩ = some (.int .i64 s) ∧ w.cell? ⟨b, o + 1, none⟩ = some (.int .i64 v) ∧ w.cell? ⟨b, o + 2, none⟩ = some (.slice a (flen k) c) ∧ Sl w 0 w.heap.size a k ∧ w.frozen? ⟨b, o, none⟩ = false ∧ w.frozen? ⟨b, o + 1, none⟩ = false ∧ w.frozen? ⟨b, o + 2, none⟩ = false := by
  obtain ⟨⟨c0, c1⟩, ⟨f0, f1, f2⟩, a, c, P1, P2, g1, _, _, c2, hk, _⟩ := h
  refine ⟨a, c, c0, c1, c2, ?_, f0, f1, f2⟩
  rcases hk with hk | ⟨b', P3, e, h1, _, h3, h4⟩
  · exact .inl hk
  · exact .inr ⟨b', 0, e, h4.row (fun x hx => ⟨Nat.zero_le _, hP x (g1 x (h3 x hx))⟩) (Nat.zero_le _) (hP _ (g1 _ h1))⟩
/-- What the cells of the part at the way's end hold, wherever memory is added. -/
def PartIs (w : World) (b o : Nat) (s v : Int) (k : Fo) : Prop := ∃ a c, w.cell? ⟨b, o, none⟩ = some (.int .i64 s) ∧ w.cell? ⟨b, o + 1, none⟩ = some (.int .i64 v) ∧ w.cell? ⟨b, o + 2, none⟩ = some (.slice a (flen k) c) ∧ Sl w 0 w.heap.size a k ∧ w.frozen? ⟨b, o, none⟩ = false ∧ w.frozen? ⟨b, o + 1, none⟩ = false ∧ w.frozen? ⟨b, o + 2, none⟩ = false
theorem PartIs.low {w w' : World} {b o : Nat} {s v : Int} {k : Fo} (h : PartIs w b o s v k) (hl : Below w.heap.size w w') : PartIs w' b o s v k := by
  obtain ⟨a, c, c0, c1, c2, hs, f0, f1, f2⟩ := h
  have hlt : b < w.heap.size := World.block_lt_of_cell? _ _ c0
  exact ⟨a, c, cell_low hl c0, cell_low hl c1, cell_low hl c2, Sl.next hs hl, (hl.frozen hlt).trans f0, (hl.frozen hlt).trans f1, (hl.frozen hlt).trans f2⟩
theorem way_low {w w' : World} (hl : Below w.heap.size w w') : ∀ {ps : List Int} {b o b' o' : Nat}, Way w ps b o b' o' → Way w' ps b o b' o'
  | [], _, _, _, _, h => h
  | _ :: _, _, _, _, _, ⟨b1, n, c, h1, h2, h3⟩ => ⟨b1, n, c, cell_low hl h1, h2, way_low hl h3⟩

set_option maxRecDepth 100000 in
set_option maxHeartbeats 8000000 in
theorem follow_any (es : List Eqd) (A : Option Addr) (C : Nat) (wD w : World) (s v : Int) (k : Fo) (e : Nat) (P : Nat → Prop) (eq : Int) (back : Bool) (pA : Option Addr) (pC : Nat) (place : List Int) (B : Option Addr) (D : Nat) (bs : List Bd)
    (hq : QSl wD A es) (hB : Below wD.heap.size wD w) (hok : okEs es = true) (hek : okT3 64 (s, v, k) = true) (ho : OwR w (one3 s v k) e 0 P) (hPe : ¬ P e) (he1 : wD.heap.size ≤ e) (he2 : e < w.heap.size) (hP : ∀ x, P x → wD.heap.size ≤ x ∧ x < w.heap.size)
    (hp : ISl wD 0 wD.heap.size pA place) (hpl : place.length ≤ 1048576) (hb : BSl wD 0 wD.heap.size B bs) (hbl : bs.length ≤ 1000000) :
    Calls Try.prog 78 #[.slice A es.length C, .pointer (some ⟨e, 0, none⟩), .agg #[.int .i64 eq, .bool back, .slice pA place.length pC, .slice B bs.length D]] w (FwPost (lk1 es (s, v, k) (eq, back, place, bs)) wD e P w) := by
  have hbx : Below w.heap.size w (w.alloc (.cells #[.int .i64 eq, .bool back, .slice pA place.length pC, .slice B bs.length D] 43)) := box_low _ _
  have HBX := Lib.hid hbx
  have HBW := Lib.hid hB
  have HQ := Lib.hid (hq.next hB)
  have HPP := Lib.hid (ISl.next hp hB)
  have HBS := Lib.hid (BSl.next (BSl.next hb hB) hbx)
  have HO := Lib.hid ho
  have HPB := Lib.hid hP
  have HPE := Lib.hid hPe
  have HOK := Lib.hid hok
  have HEK := Lib.hid hek
  have hel := ((okEs_iff es).1 hok).1
  have hwD := hB.size
  have HFIN : Hid (∀ w', Below w.heap.size w w' → lk1 es (s, v, k) (eq, back, place, bs) = none → FwPost (lk1 es (s, v, k) (eq, back, place, bs)) wD e P w (.returned (.bool false)) w') := fun w' h1 h2 =>
    ⟨false, rfl, HBW.out.trans (h1.mono hwD), KeepsOthers.of_low h1, fun b hb _ _ => h1.block b hb, fun _ => h2, fun h => by cases h⟩
  have cx : ∀ i, (w.alloc (.cells #[.int .i64 eq, .bool back, .slice pA place.length pC, .slice B bs.length D] 43)).cell? ⟨w.heap.size, i, none⟩ = #[Value.int .i64 eq, .bool back, .slice pA place.length pC, .slice B bs.length D][i]? := fun i => by rw [World.cell?_alloc_at _ _ _ _ (by simp)]
  have HX0 : Hid ((w.alloc (.cells #[.int .i64 eq, .bool back, .slice pA place.length pC, .slice B bs.length D] 43)).cell? ⟨w.heap.size, 0, none⟩ = some (.int .i64 eq)) := cx 0
  have HX1 : Hid ((w.alloc (.cells #[.int .i64 eq, .bool back, .slice pA place.length pC, .slice B bs.length D] 43)).cell? ⟨w.heap.size, 1, none⟩ = some (.bool back)) := cx 1
  have HX2 : Hid ((w.alloc (.cells #[.int .i64 eq, .bool back, .slice pA place.length pC, .slice B bs.length D] 43)).cell? ⟨w.heap.size, 2, none⟩ = some (.slice pA place.length pC)) := cx 2
  clear hbx hq hB hp hb ho hP hPe hok hek cx
  go_enter Try.func78, Try.ntmps78
  go_wp2_with fail
  with_reducible refine (substOf_any bs B D 64 _ HBS.out (by omega) (by omega) (by omega)).mono ?_
  rintro en w1 ⟨hb1, hcase⟩
  have HB1 := Lib.hid (HBX.out.trans (hb1.mono HBX.out.size))
  have HL0 := Lib.hid (cell_low hb1 HX0.out)
  have HL1 := Lib.hid (cell_low hb1 HX1.out)
  have HL2 := Lib.hid (cell_low hb1 HX2.out)
  have hs1 := HB1.out.size
  clear hb1 HX0 HX1 HX2 HBS HBX
  rcases hcase with ⟨hso, mb, rfl, hmb, hmap⟩ | ⟨hso, rfl⟩
  rotate_left
  · have HF := Lib.hid (HFIN.out w1 HB1.out (lk1_sok hso))
    clear hso
    go_wp2_with fail
    go_ret
    exact HF.out
  have HSO := Lib.hid hso
  have HM := Lib.hid hmap
  clear hso hmap
  have l0 := HL0.out
  by_cases hin : 0 ≤ eq ∧ eq < (es.length : Int)
  rotate_left
  · have HF := Lib.hid (HFIN.out w1 HB1.out (lk1_in hin))
    by_cases hn : eq < 0
    · have d1 : decide (eq < 0) = true := by simpa using hn
      go_wp2_with fail
      go_ret
      exact HF.out
    · have d1 : decide (eq < 0) = false := by simpa using hn
      have d2 : decide (eq ≥ (es.length : Int)) = true := by simp; omega
      go_wp2_with fail
      go_ret
      exact HF.out
  obtain ⟨i, rfl⟩ : ∃ i : Nat, eq = i := ⟨eq.toNat, by omega⟩
  have d1 : decide ((i : Int) < 0) = false := by simp
  have d2 : decide ((i : Int) ≥ (es.length : Int)) = false := by simp; omega
  have l2 := HL2.out
  have HO1 := Lib.hid (HO.out.low (fun x hx => (HPB.out x hx).2) he2 HB1.out)
  have HP1 := Lib.hid (HPP.out.next HB1.out)
  go_wp2_with fail
  with_reducible refine (partOf_any s v k 0 0 .nil e 0 P pA pC place w1 HO1.out HP1.out hpl).mono ?_
  rintro en w2 ⟨rfl, hcase⟩
  rcases hcase with ⟨hfat, rfl⟩ | ⟨b', o', s', v', k', x', y', r', P', hfat, rfl, hway, hpart, hsub⟩
  · obtain ⟨x, hx⟩ : ∃ x, es[i]? = some x := ⟨es[i], List.getElem?_eq_getElem (by omega)⟩
    have HF := Lib.hid (HFIN.out w2 HB1.out (by rw [lk1_at hx HSO.out]; exact lkAt_none hfat))
    clear hx hfat l0 l2 d1 d2
    go_wp2_with fail
    go_ret
    exact HF.out
  obtain ⟨⟨⟨es1, ev1, ek1⟩, es2, ev2, ek2⟩, hx⟩ : ∃ x, es[i]? = some x := ⟨es[i], List.getElem?_eq_getElem (by omega)⟩
  obtain ⟨qb, rfl, hqc⟩ : ∃ qb, A = some ⟨qb, 0, none⟩ ∧ ∀ (i : Nat) (x : Eqd), es[i]? = some x → ∃ n1 n2, w2.cell? ⟨qb, i * 2, none⟩ = some n1 ∧ w2.cell? ⟨qb, i * 2 + 1, none⟩ = some n2 ∧ NodeIs w2 0 w2.heap.size n1 x.1.1 x.1.2.1 x.1.2.2 ∧ NodeIs w2 0 w2.heap.size n2 x.2.1 x.2.2.1 x.2.2.2 := by
    rcases HQ.out.next HB1.out with h | ⟨b, h1, h2⟩
    · rw [h] at hx; simp at hx
    · exact ⟨b, h1, h2⟩
  obtain ⟨n1, n2, q1, q2, hn1, hn2⟩ := hqc i _ hx
  dsimp only at hn1 hn2
  obtain ⟨t1, u1, rfl⟩ : ∃ t u, n1 = .iface t u := by rcases hn1 with ⟨_, _, rfl⟩ | ⟨_, _, _, rfl, _⟩ <;> exact ⟨_, _, rfl⟩
  obtain ⟨t2, u2, rfl⟩ : ∃ t u, n2 = .iface t u := by rcases hn2 with ⟨_, _, rfl⟩ | ⟨_, _, _, rfl, _⟩ <;> exact ⟨_, _, rfl⟩
  obtain ⟨fs, fv, fk, tf, uf, gs, gv, gk, tg, ug, hsides, hsd, hfn, hgn⟩ : ∃ fs fv fk tf uf gs gv gk tg ug, sidesR ((es1, ev1, ek1), es2, ev2, ek2) back = ((fs, fv, fk), gs, gv, gk) ∧ (if back = true then (#[.iface t2 u2, .iface t1 u1] : Array Value) else #[.iface t1 u1, .iface t2 u2]) = #[.iface tf uf, .iface tg ug] ∧ NodeIs w2 0 w2.heap.size (.iface tf uf) fs fv fk ∧ NodeIs w2 0 w2.heap.size (.iface tg ug) gs gv gk := by
    cases back with
    | true => exact ⟨es2, ev2, ek2, t2, u2, es1, ev1, ek1, t1, u1, rfl, rfl, hn2, hn1⟩
    | false => exact ⟨es1, ev1, ek1, t1, u1, es2, ev2, ek2, t2, u2, rfl, rfl, hn1, hn2⟩
  have hso2 := sides_ok HOK.out hx back
  rw [hsides] at hso2
  have HSO2 := Lib.hid hso2
  have HLK : Hid (lk1 es (s, v, k) ((i : Int), back, place, bs) = lkAt (s, v, k) place (put3 (sv bs) (fs, fv, fk)) (put3 (sv bs) (gs, gv, gk))) := by rw [Hid, lk1_at hx HSO.out, hsides]
  have HSD := Lib.hid hsd
  have HFN := Lib.hid hfn
  have HGN := Lib.hid hgn
  have HFAT := Lib.hid hfat
  have HWAY := Lib.hid hway
  have hek := (okW_iff _ _ _ _).1 HEK.out
  dsimp only at hek
  have hfo := fat_ok place s v k hek.1 hek.2.1 hfat
  have hokp : okW s' v' k' 64 = true := (okW_iff _ _ _ _).2 ⟨hfo.1, hfo.2.1, by have := hfo.2.2; have := hek.2.2; omega⟩
  have HOKP := Lib.hid hokp
  have HOP : Hid (PartIs w2 b' o' s' v' k') := hpart.sl_kids (fun x hx => Nat.lt_of_lt_of_le (HPB.out x (hsub x hx)).2 hs1)
  have l1 := HL1.out
  have g1 : (0 : Int) ≤ (i : Int) := by omega
  have g2 : (i : Int) < (es.length : Int) := by omega
  have hu0 : ∀ u : After w2.heap.size w2, u.world.cell? ⟨w.heap.size, 0, none⟩ = some (.int .i64 (i : Int)) := fun u => cell_low u.below l0
  have hu1 : ∀ u : After w2.heap.size w2, u.world.cell? ⟨w.heap.size, 1, none⟩ = some (.bool back) := fun u => cell_low u.below l1
  have hu2 : ∀ u : After w2.heap.size w2, u.world.cell? ⟨qb, i * 2, none⟩ = some (.iface t1 u1) := fun u => cell_low u.below q1
  have hu3 : ∀ u : After w2.heap.size w2, u.world.cell? ⟨qb, i * 2 + 1, none⟩ = some (.iface t2 u2) := fun u => cell_low u.below q2
  clear l0 l1 l2 q1 q2 hn1 hn2 hqc hsd hfn hgn hsides hso2 hfat hway hx hek hfo hokp hpart hsub d1 d2 HL0 HL1 HL2
  go_wp2_with fail
  refine wp_region_mix (fun w' => ∃ u : After w2.heap.size w2, w' = u.world) [] [(0, 0), (1, 0), (2, 0), (3, 0), (4, 0), (5, 0), (6, 0), (7, 1), (8, 0), (9, 0), (10, 0), (11, 0), (12, 0)] (by kernel_rfl) (by kernel_rfl) ⟨⟨_, (Below.refl _ _).drew⟩, rfl⟩ ?_
  have HBD : Hid (Below w2.heap.size w2 w2.drew) := (Below.refl _ _).drew
  generalize w2.drew = wd at *
  iterate 7
    refine mix_see rfl (fun K hK => ?_)
    go_simp
    refine hK _ ?_
    clear hK K
  clear hu0 hu1 hu2 hu3
  refine mix_hold rfl (fun K hK => ?_)
  go_simp
  with_reducible refine (sides_any t1 t2 u1 u2 back _).mono ?_
  rintro en wp ⟨he, hbp⟩
  rw [HSD.out] at he
  subst he
  have hbd2 := HBD.out.trans (hbp.mono HBD.out.size)
  refine hK _ _ ⟨⟨_, hbd2⟩, rfl⟩ ?_
  clear hK K hbp HBD
  iterate 5
    refine mix_see rfl (fun K hK => ?_)
    go_simp
    refine hK _ ?_
    clear hK K
  refine mix_end ?_
  have HB3 := Lib.hid (HB1.out.trans (hbd2.mono hs1))
  have hsp := hbd2.size
  have HB23 := Lib.hid hbd2
  have HPART3 := Lib.hid (HOP.out.low hbd2)
  have HM3 := Lib.hid (HM.out.below hbd2)
  have HFN3 := Lib.hid ((HFN.out.below hbd2).mono (Nat.le_refl _) hsp)
  have HGN3 := Lib.hid ((HGN.out.below hbd2).mono (Nat.le_refl _) hsp)
  clear hbd2 HM HFN HGN HOP
  obtain ⟨pa, pc, p0, p1, p2, hpsl, _, _, _⟩ := HPART3.out
  have HPS := Lib.hid hpsl
  clear hpsl
  go_wp2_with fail
  with_reducible refine (nodeOf_any s' v' pa pc k' 64 _ HPS.out (by omega) (by omega)).mono ?_
  rintro en w4 ⟨nv4, he, hb4, hyes⟩
  rw [HOKP.out] at he
  subst he
  have HN4 := Lib.hid ((hyes HOKP.out).mono (lo' := 0) (Nat.zero_le _) (Nat.le_refl _))
  have HB4 := Lib.hid (HB3.out.trans (hb4.mono HB3.out.size))
  have HB24 := Lib.hid (HB23.out.trans (hb4.mono hsp))
  have HM4 := Lib.hid (HM3.out.below hb4)
  have HFN4 := Lib.hid ((HFN3.out.below hb4).mono (Nat.le_refl _) hb4.size)
  have HGN4 := Lib.hid ((HGN3.out.below hb4).mono (Nat.le_refl _) hb4.size)
  have HPART4 := Lib.hid (HPART3.out.low hb4)
  obtain ⟨t4, u4, rfl⟩ : ∃ t u, nv4 = .iface t u := by rcases HN4.out with ⟨_, _, rfl⟩ | ⟨_, _, _, rfl, _⟩ <;> exact ⟨_, _, rfl⟩
  clear hb4 hyes p0 p1 p2 HB3 HM3 HFN3 HGN3 HPART3 HPS
  obtain ⟨hfk1, hfk2, hfk3⟩ := (okW_iff _ _ _ _).1 HSO2.out.1
  obtain ⟨hgk1, hgk2, hgk3⟩ := (okW_iff _ _ _ _).1 HSO2.out.2
  dsimp only at hfk1 hfk2 hfk3 hgk1 hgk2 hgk3
  go_wp2_with fail
  with_reducible refine (apply_any bs mb fs fv fk (.iface tf uf) _ HFN4.out HM4.out hfk1 hfk2 (by omega)).mono ?_
  rintro en w5 ⟨nv5, rfl, hb5, hn5⟩
  have HN5 : Hid (Nj w5 nv5 (tsub (sv bs) fs fv fk).1 (tsub (sv bs) fs fv fk).2.1 (tsub (sv bs) fs fv fk).2.2) := by
    have h1 := put3_ok HSO.out (t := (fs, fv, fk)) hfk1 hfk2
    exact ⟨hn5, h1.1, h1.2, put3_small HSO.out HSO2.out.1⟩
  have HN4j : Hid (Nj w5 (.iface t4 u4) s' v' k') := by
    obtain ⟨h1, h2, h3⟩ := (okW_iff _ _ _ _).1 HOKP.out
    exact ⟨(HN4.out.below hb5).mono (Nat.le_refl _) hb5.size, h1, h2, by omega⟩
  have HB5 := Lib.hid (HB4.out.trans (hb5.mono HB4.out.size))
  have HB25 := Lib.hid (HB24.out.trans (hb5.mono HB24.out.size))
  have HM5 := Lib.hid (HM4.out.below hb5)
  have HGN5 := Lib.hid ((HGN4.out.below hb5).mono (Nat.le_refl _) hb5.size)
  have HPART5 := Lib.hid (HPART4.out.low hb5)
  obtain ⟨t5, u5, rfl⟩ : ∃ t u, nv5 = .iface t u := by rcases hn5 with ⟨_, _, rfl⟩ | ⟨_, _, _, rfl, _⟩ <;> exact ⟨_, _, rfl⟩
  clear hb5 hn5 HB4 HM4 HFN4 HGN4 HPART4 HN4
  go_wp2_with fail
  with_reducible refine (sameNodeI_any HN4j.out HN5.out).mono ?_
  rintro en w6 ⟨rfl, hb6⟩
  have HB6 := Lib.hid (HB5.out.trans (hb6.mono HB5.out.size))
  have HB26 := Lib.hid (HB25.out.trans (hb6.mono HB25.out.size))
  have HM6 := Lib.hid (HM5.out.below hb6)
  have HGN6 := Lib.hid ((HGN5.out.below hb6).mono (Nat.le_refl _) hb6.size)
  have HPART6 := Lib.hid (HPART5.out.low hb6)
  clear hb6 HB5 HM5 HGN5 HPART5 HN4j HN5
  obtain ⟨te, hte⟩ : ∃ te, te = teq s' v' k' (tsub (sv bs) fs fv fk).1 (tsub (sv bs) fs fv fk).2.1 (tsub (sv bs) fs fv fk).2.2 := ⟨_, rfl⟩
  rw [← hte]
  have HTE := Lib.hid hte
  clear hte
  cases te with
  | false =>
    have HF := Lib.hid (HFIN.out w6 HB6.out (by rw [HLK.out]; exact lkAt_other HFAT.out HTE.out.symm))
    go_wp2_with fail
    go_ret
    exact HF.out
  | true =>
    go_wp2_with fail
    with_reducible refine (apply_any bs mb gs gv gk (.iface tg ug) _ HGN6.out HM6.out hgk1 hgk2 (by omega)).mono ?_
    rintro en w7 ⟨nv7, rfl, hb7, hn7⟩
    have HG3 := put3_ok HSO.out (t := (gs, gv, gk)) hgk1 hgk2
    have hgsz := put3_small HSO.out HSO2.out.2
    unfold put3 at HG3 hgsz
    dsimp only at HG3 hgsz
    obtain ⟨⟨os, ov, ok⟩, hout⟩ : ∃ o, fput s v k place (put3 (sv bs) (gs, gv, gk)) = some o := by
      have := fput_there place s v k (put3 (sv bs) (gs, gv, gk))
      rw [HFAT.out] at this
      exact Option.isSome_iff_exists.1 this
    have HOUT : Hid (lk1 es (s, v, k) ((i : Int), back, place, bs) = if okT3 64 (os, ov, ok) = true then some (os, ov, ok) else none) := by rw [Hid, HLK.out]; exact lkAt_out HFAT.out HTE.out.symm hout
    unfold put3 at hout
    dsimp only at hout
    obtain ⟨zs, zv, zk, hz⟩ : ∃ zs zv zk, tsub (sv bs) gs gv gk = (zs, zv, zk) := ⟨_, _, _, rfl⟩
    rw [hz] at hout hn7 HG3 hgsz
    dsimp only at hn7 HG3 hgsz
    have HFP := Lib.hid hout
    have HN7 := Lib.hid hn7
    have HB7 := Lib.hid (HB6.out.trans (hb7.mono HB6.out.size))
    have HB27 := Lib.hid (HB26.out.trans (hb7.mono HB26.out.size))
    have HPART7 := Lib.hid (HPART6.out.low hb7)
    have hs7 := HB7.out.size
    clear hout hn7 hb7 hz HB6 HM6 HGN6 HPART6
    have HEND : Hid (∀ (a7 : Option Addr) (c7 : Nat) (w8 : World), Below w7.heap.size w7 w8 → TXo w8 w7.heap.size w8.heap.size a7 zk → OwR (st3 w8 b' o' zs zv a7 (flen zk) c7) (one3 os ov ok) e 0 (fun x => P x ∨ (w7.heap.size ≤ x ∧ x < w8.heap.size)) ∧ Below wD.heap.size wD (st3 w8 b' o' zs zv a7 (flen zk) c7) ∧ KeepsOthers w (st3 w8 b' o' zs zv a7 (flen zk) c7) ∧ ∀ b, b < w.heap.size → b ≠ e → ¬ P b → (st3 w8 b' o' zs zv a7 (flen zk) c7).heap[b]? = w.heap[b]?) := by
      intro a7 c7 w8 hb8 htx
      have hB8 := HB7.out.trans (hb8.mono hs7)
      have ho8 := HO.out.low (fun x hx => (HPB.out x hx).2) he2 hB8
      have hq8 : OwS w8 a7 zk fun x => w7.heap.size ≤ x ∧ x < w8.heap.size := ow_of_trs htx.2 htx.1
      have hbw : Below w2.heap.size w2 w8 := HB27.out.trans (hb8.mono HB27.out.size)
      have hw8 := way_low hbw HWAY.out
      obtain ⟨hpos, hput⟩ := OwR.put (c2 := c7) hq8 place (one3 s v k) e 0 P 0 0 0 s v k .nil (os, ov, ok) ho8 HPE.out (fun hx => by omega) (fun x hx hx2 => by have := (HPB.out x hx).2; omega) rfl (by simpa using hw8) HFP.out
      have hge : wD.heap.size ≤ b' := by
        rcases hpos with h | ⟨h, _⟩
        · exact (HPB.out _ h).1
        · omega
      refine ⟨hput, ?_, ?_, fun b hb hbe hbP => ?_⟩
      · unfold st3
        exact (((HBW.out.trans (hB8.mono hwD)).setCell hge _).setCell hge _).setCell hge _
      · unfold st3
        exact (((KeepsOthers.of_low hB8).trans (KeepsOthers.setCell _ _ _)).trans (KeepsOthers.setCell _ _ _)).trans (KeepsOthers.setCell _ _ _)
      · have hbb : b ≠ b' := fun h => by
          subst h
          rcases hpos with h | ⟨h, _⟩
          · exact hbP h
          · exact hbe h
        unfold st3
        rw [Below.heap_setCell _ _ _ _ hbb, Below.heap_setCell _ _ _ _ hbb, Below.heap_setCell _ _ _ _ hbb]
        exact hB8.block b hb
    rcases HN7.out with ⟨rfl, rfl, rfl⟩ | ⟨hzs, za, zc, rfl, hzn⟩
    · clear HN7
      go_wp2_with fail
      refine upon_method 142 (by kernel_rfl) (by kernel_rfl) ?_
      go_simp
      with_reducible refine (varTermO_any zv _).mono ?_
      rintro en w8 ⟨a7, c7, rfl, hb8, htx⟩
      obtain ⟨_, _, c0, c1, c2, _, f0, f1, f2⟩ := HPART7.out.low hb8
      obtain ⟨hown, hlowD, hko, hfar⟩ := HEND.out a7 c7 w8 hb8 htx
      have hsz8 := hb8.size
      unfold st3 at hown hlowD hko hfar
      obtain ⟨W9, hW9⟩ : ∃ W9, W9 = (((w8.setCell ⟨b', o', none⟩ (.int .i64 0)).setCell ⟨b', o' + 1, none⟩ (.int .i64 zv)).setCell ⟨b', o' + 2, none⟩ (.slice a7 (flen .nil) c7)) := ⟨_, rfl⟩
      rw [← hW9] at hown hlowD hko hfar
      have hszW : W9.heap.size = w8.heap.size := by rw [hW9]; simp
      have HQB : Hid (∀ x, (P x ∨ (w7.heap.size ≤ x ∧ x < w8.heap.size)) → wD.heap.size ≤ x ∧ x < W9.heap.size) := fun x hx => by
        rcases hx with hx | hx
        · have := HPB.out x hx; omega
        · omega
      have HQE : Hid (¬ (P e ∨ (w7.heap.size ≤ e ∧ e < w8.heap.size))) := fun hx => by
        rcases hx with hx | hx
        · exact HPE.out hx
        · omega
      obtain ⟨ra, rc, r0, r1, r2, rsl, _, _, _⟩ := hown.sl_kids (fun x hx => (HQB.out x hx).2)
      have HOWN := Lib.hid hown
      have HLD := Lib.hid hlowD
      have HKO := Lib.hid hko
      have HFAR := Lib.hid hfar
      have HRSL := Lib.hid rsl
      have heW : e < W9.heap.size := by omega
      rw [hW9] at r0 r1 r2
      simp only [Nat.zero_add] at r1 r2
      clear hown hlowD hko hfar rsl hb8 htx HEND
      go_wp2_with fail
      rw [← hW9]
      clear r0 r1 r2 c0 c1 c2 f0 f1 f2
      with_reducible refine (nodeOf_any os ov ra rc ok 64 _ HRSL.out (by omega) (by omega)).mono ?_
      rintro en w10 ⟨nv10, rfl, hb10, _⟩
      have HFF : Hid (FwPost (lk1 es (s, v, k) ((i : Int), back, place, bs)) wD e P w (.returned (.bool (okW os ov ok 64))) w10) := by
        refine ⟨_, rfl, HLD.out.trans (hb10.mono (HLD.out.size)), HKO.out.trans (KeepsOthers.of_low hb10), fun b hb hbe hbP => (hb10.block b (by omega)).trans (HFAR.out b hb hbe hbP), fun h => ?_, fun h => ⟨os, ov, ok, _, ?_, HOWN.out.low (fun x hx => (HQB.out x hx).2) heW hb10, HQE.out, fun x hx => hx.elim .inl (fun h => .inr ⟨by omega, Nat.lt_of_lt_of_le (HQB.out x (.inr h)).2 hb10.size⟩), Nat.lt_of_lt_of_le heW hb10.size⟩⟩
        · rw [HOUT.out, if_neg (by simp [okT3, h])]
        · rw [HOUT.out, if_pos (by simp [okT3, h])]
      clear hb10
      go_wp2_with fail
      go_ret
      exact HFF.out
    · have hzv : zv = 0 := ((okN_iff _ _ _).1 HG3.1).2.2 hzs
      subst hzv
      have HZN := Lib.hid hzn
      clear HN7 hzn
      go_wp2_with fail
      refine upon_method 159 (by kernel_rfl) (by kernel_rfl) ?_
      go_simp
      with_reducible refine (symTermO_any (fsz zk) zs za zc zk _ HZN.out HG3.2 (Nat.le_refl _) (by omega)).mono ?_
      rintro en w8 ⟨a7, c7, rfl, hb8, htx⟩
      obtain ⟨_, _, c0, c1, c2, _, f0, f1, f2⟩ := HPART7.out.low hb8
      obtain ⟨hown, hlowD, hko, hfar⟩ := HEND.out a7 c7 w8 hb8 htx
      have hsz8 := hb8.size
      unfold st3 at hown hlowD hko hfar
      obtain ⟨W9, hW9⟩ : ∃ W9, W9 = (((w8.setCell ⟨b', o', none⟩ (.int .i64 zs)).setCell ⟨b', o' + 1, none⟩ (.int .i64 0)).setCell ⟨b', o' + 2, none⟩ (.slice a7 (flen zk) c7)) := ⟨_, rfl⟩
      rw [← hW9] at hown hlowD hko hfar
      have hszW : W9.heap.size = w8.heap.size := by rw [hW9]; simp
      have HQB : Hid (∀ x, (P x ∨ (w7.heap.size ≤ x ∧ x < w8.heap.size)) → wD.heap.size ≤ x ∧ x < W9.heap.size) := fun x hx => by
        rcases hx with hx | hx
        · have := HPB.out x hx; omega
        · omega
      have HQE : Hid (¬ (P e ∨ (w7.heap.size ≤ e ∧ e < w8.heap.size))) := fun hx => by
        rcases hx with hx | hx
        · exact HPE.out hx
        · omega
      obtain ⟨ra, rc, r0, r1, r2, rsl, _, _, _⟩ := hown.sl_kids (fun x hx => (HQB.out x hx).2)
      have HOWN := Lib.hid hown
      have HLD := Lib.hid hlowD
      have HKO := Lib.hid hko
      have HFAR := Lib.hid hfar
      have HRSL := Lib.hid rsl
      have heW : e < W9.heap.size := by omega
      rw [hW9] at r0 r1 r2
      simp only [Nat.zero_add] at r1 r2
      clear hown hlowD hko hfar rsl hb8 htx HEND
      go_wp2_with fail
      rw [← hW9]
      clear r0 r1 r2 c0 c1 c2 f0 f1 f2
      with_reducible refine (nodeOf_any os ov ra rc ok 64 _ HRSL.out (by omega) (by omega)).mono ?_
      rintro en w10 ⟨nv10, rfl, hb10, _⟩
      have HFF : Hid (FwPost (lk1 es (s, v, k) ((i : Int), back, place, bs)) wD e P w (.returned (.bool (okW os ov ok 64))) w10) := by
        refine ⟨_, rfl, HLD.out.trans (hb10.mono (HLD.out.size)), HKO.out.trans (KeepsOthers.of_low hb10), fun b hb hbe hbP => (hb10.block b (by omega)).trans (HFAR.out b hb hbe hbP), fun h => ?_, fun h => ⟨os, ov, ok, _, ?_, HOWN.out.low (fun x hx => (HQB.out x hx).2) heW hb10, HQE.out, fun x hx => hx.elim .inl (fun h => .inr ⟨by omega, Nat.lt_of_lt_of_le (HQB.out x (.inr h)).2 hb10.size⟩), Nat.lt_of_lt_of_le heW hb10.size⟩⟩
        · rw [HOUT.out, if_neg (by simp [okT3, h])]
        · rw [HOUT.out, if_pos (by simp [okT3, h])]
      clear hb10
      go_wp2_with fail
      go_ret
      exact HFF.out
end Go.Proofs.Ytdkcbbhkoibplaa
