/- Several texts in one: XA, XB, XBt. -/
import Derived.Test.YtdkcbbhkoibplaaKLk30
import Derived.Test.YtdkcbbhkoibplaaKLk1
import Derived.WalkKit
import Derived.WalkSpells
import Derived.WalkLawsBesides
import Derived.Lib.Hide
import Derived.Deep.OwnRows

/-! XA: szTerm, szTermS: how many terms there are below a term, as long as there are not too many. -/
namespace Go.Proofs.Ytdkcbbhkoibplaa
open Go.RowKit Go.Deep

def szR (k : Fo) (left : Int) : Int := if (fsz k : Int) ≤ left then left - fsz k else -1
/-- .. with the terms r still to be looked below. -/
def szG (r : Fo) (l : Int) : Int := if (fsz r : Int) - flen r ≤ l then l - ((fsz r : Int) - flen r) else -1

theorem flen_le {k : Fo} : flen k ≤ fsz k := by
  induction k with
  | nil => exact Nat.le_refl _
  | node _ _ _ k r _ ih => simp only [flen, fsz]; omega
theorem szR_start (k : Fo) (left : Int) : szR k left = szG k (left - flen k) := by
  have := flen_le (k := k)
  unfold szR szG
  split <;> split <;> omega
theorem szR_over {k : Fo} {left : Int} (h : left < flen k) : szR k left = -1 := by
  have := flen_le (k := k)
  unfold szR
  rw [if_neg (by omega)]
theorem szG_node (x y : Nat) (p : Int × Int) (kk r : Fo) : (fsz (.node x y p kk r) : Int) - flen (.node x y p kk r) = fsz kk + ((fsz r : Int) - flen r) := by
  have e1 : fsz (.node x y p kk r) = fsz kk + fsz r + 1 := rfl
  have e2 : flen (.node x y p kk r) = flen r + 1 := rfl
  rw [e1, e2]
  omega
theorem szG_step {x y : Nat} {p : Int × Int} {kk r : Fo} {l : Int} (_h : (fsz kk : Int) ≤ l) : szG (.node x y p kk r) l = szG r (l - fsz kk) := by
  unfold szG
  rw [szG_node]
  split <;> split <;> omega
theorem szG_over {x y : Nat} {p : Int × Int} {kk r : Fo} {l : Int} (h : l < (fsz kk : Int)) : szG (.node x y p kk r) l = -1 := by
  have := flen_le (k := r)
  unfold szG
  rw [szG_node, if_neg (by omega)]
theorem szG_nil {l : Int} (h : 0 ≤ l) : szG .nil l = l := by
  unfold szG
  simp [fsz, flen, h]
theorem fsz_drop' : ∀ (i : Nat) (k : Fo), fsz (fdrop i k) ≤ fsz k
  | 0, _ => Nat.le_refl _
  | _ + 1, .nil => Nat.le_refl _
  | n + 1, .node _ _ _ _ r => by have := fsz_drop' n r; simp only [fdrop, fsz]; omega
theorem fsz_kid' {i : Nat} {k : Fo} {x y : Nat} {p : Int × Int} {kk r : Fo} (h : fdrop i k = .node x y p kk r) : fsz kk < fsz k := by
  have := fsz_drop' i k
  rw [h] at this
  simp only [fsz] at this
  omega
theorem sub_neg {left : Int} {n : Nat} (h0 : 0 ≤ left) (h1 : left ≤ 1048576) (h2 : 1048576 < n) (h3 : n ≤ maxLen) : decide (wrap64 (left - (n : Int)) < 0) = true := by
  unfold maxLen at h3
  have : wrap64 (left - (n : Int)) = left - n := by
    unfold wrap64
    omega
  rw [this]
  exact decide_eq_true (by omega)

theorem box_lowX {w w' : World} {o : Obj} (h : Below (w.heap.size + 1) (w.alloc o) w') : Below w.heap.size w w' :=
  ((Below.refl _ _).alloc (Nat.le_refl _) o).trans (h.mono (Nat.le_succ _))

/-- szTerm out of szTermS. -/
theorem szTerm_of (s v : Int) (a : Option Addr) (n c : Nat) (left z : Int) (w : World) (hz : z = -1 ∨ 0 ≤ z)
    (hS : ∀ w1, Below w.heap.size w w1 → Calls Try.prog 43 #[.slice a n c, .int .i64 left] w1 fun e w' => e = .returned (.int .i64 z) ∧ Below w1.heap.size w1 w') :
    Calls Try.prog 14 #[.agg #[.int .i64 s, .int .i64 v, .slice a n c], .int .i64 left] w fun e w' => e = .returned (.int .i64 z) ∧ Below w.heap.size w w' := by
  have HS := Lib.hid hS
  clear hS
  rcases hz with rfl | hz
  all_goals
    go_enter Try.func14, Try.ntmps14
    go_wp2_with fail
    with_reducible refine (HS.out _ ((Below.refl _ _).alloc (Nat.le_refl _) _)).mono ?_
    rintro e w1 ⟨rfl, hb⟩
    have HB := Lib.hid (((Below.refl w.heap.size w).alloc (Nat.le_refl _) _).trans (hb.mono (by simp)))
    clear hb
    go_wp2_with fail
    go_ret
    exact ⟨rfl, HB.out⟩
theorem szR_case (k : Fo) (left : Int) : szR k left = -1 ∨ 0 ≤ szR k left := by unfold szR; split <;> omega

set_option maxRecDepth 100000 in
set_option maxHeartbeats 1000000 in
theorem szTermS_any (N : Nat) : ∀ (a : Option Addr) (c : Nat) (k : Fo) (left : Int) (w : World), Sl w 0 w.heap.size a k → fcap k → flen k ≤ maxLen → fsz k ≤ N → 0 ≤ left → left ≤ 1048576 →
    Calls Try.prog 43 #[.slice a (flen k) c, .int .i64 left] w fun e w' => e = .returned (.int .i64 (szR k left)) ∧ Below w.heap.size w w' := by
  induction N using Nat.strongRecOn with
  | _ N ih =>
    intro a c k left w hl hfc hml hN h0 h1
    have IH := Lib.hid ih
    clear ih
    by_cases hbig : 1048576 < flen k
    · have hneg := sub_neg h0 h1 hbig hml
      have HE : Hid (szR k left = -1) := szR_over (by omega)
      clear hml
      go_enter Try.func43, Try.ntmps43
      go_wp2_with fail
      go_ret
      exact ⟨by rw [HE.out]; rfl, Below.refl _ _⟩
    clear hml
    by_cases hov : left < flen k
    · have HE : Hid (szR k left = -1) := szR_over hov
      go_enter Try.func43, Try.ntmps43
      go_wp2_with fail
      go_ret
      exact ⟨by rw [HE.out]; rfl, Below.refl _ _⟩
    have HST := Lib.hid (szR_start k left)
    have HFC := Lib.hid hfc
    clear hfc
    go_enter Try.func43, Try.ntmps43
    go_wp2_with fail
    go_loopw [1, 5] (fun t i wr => ∃ (j : Nat) (l : Int), j ≤ flen k ∧ i = .int .i64 j ∧ t = .int .i64 l ∧ 0 ≤ l ∧ l ≤ 1048576 ∧ Hid (szR k left = szG (fdrop j k) l) ∧ Below w.heap.size w wr) (fun _ i _ => flen k - (intOf i).toNat)
    case atStart => exact ⟨0, left - flen k, by omega, rfl, rfl, by omega, by omega, HST, Below.refl _ _⟩
    case round =>
      clear HST
      obtain ⟨j, l, hj, rfl, rfl, hl0, hl1, hsz, hbl⟩ := hrel
      by_cases hlt : j < flen k
      · rcases hl with rfl | ⟨b, o, rfl, hrow⟩
        · simp [flen] at hlt
        obtain ⟨s', v', kk, a', c', ⟨x, y, hd⟩, _, hbB, hk0, hk1, hk2, hsl⟩ := row_at (hrow.below hbl) hlt
        have hkN := fsz_kid' hd
        have hkc := fcap_drop j k HFC.out
        rw [hd] at hkc
        have HSZ : Hid (szR k left = szG (.node x y (s', v') kk (fdrop (j + 1) k)) l) := by rw [← hd]; exact hsz
        have HS := Lib.hid hsl
        have HKC : Hid (flen kk ≤ maxLen ∧ fcap kk) := ⟨hkc.1, hkc.2.1⟩
        have HBL := Lib.hid hbl
        have hbs := hbl.size
        clear hd hsl hrow hbl hsz hkc
        go_wp2_with fail
        with_reducible refine (szTerm_of s' v' a' (flen kk) c' l (szR kk l) _ (szR_case _ _) ?_).mono ?_
        · intro w1 hb1
          refine IH.out (fsz kk) (by omega) a' c' kk l w1 ?_ HKC.out.2 HKC.out.1 (Nat.le_refl _) hl0 hl1
          exact (HS.out.below (hb1.mono hbs)).mono (Nat.le_refl _) (Nat.le_trans hbs hb1.size)
        rintro e w2 ⟨rfl, hb2⟩
        have HB2 := Lib.hid (HBL.out.trans (hb2.mono hbs))
        clear hb2
        by_cases hok : (fsz kk : Int) ≤ l
        · have he : szR kk l = l - fsz kk := by unfold szR; rw [if_pos hok]
          rw [he]
          clear he
          have HSZ2 : Hid (szR k left = szG (fdrop (j + 1) k) (l - fsz kk)) := by rw [Hid, HSZ.out]; exact szG_step hok
          go_wp2_with fail
          go_roundw
          case rel => exact ⟨j + 1, _, by omega, by go_num, rfl, by omega, by omega, HSZ2, HB2.out⟩
          case measure => simp [intOf]; omega
        · have he : szR kk l = -1 := by unfold szR; rw [if_neg hok]
          rw [he]
          clear he
          have HSZ2 : Hid (szR k left = -1) := by rw [Hid, HSZ.out]; exact szG_over (by omega)
          go_wp2_with fail
          go_ret
          exact ⟨by rw [HSZ2.out]; rfl, HB2.out⟩
      · have HE : Hid (szR k left = l) := by
          rw [Hid, hsz.out, fdrop_all (by omega)]
          exact szG_nil hl0
        clear hsz
        go_wp2_with fail
        go_ret
        exact ⟨by rw [HE.out]; rfl, hbl⟩
end Go.Proofs.Ytdkcbbhkoibplaa

/-! XB: toTerm, toTermS: a term copied into the program's own type. -/
namespace Go.Proofs.Ytdkcbbhkoibplaa
open Go.RowKit Go.Deep

def ToPost (s v : Int) (k : Fo) (w : World) (e : Ending) (w' : World) : Prop :=
  ∃ a c, e = .returned (.agg #[.int .i64 s, .int .i64 v, .slice a (flen k) c]) ∧ Below w.heap.size w w' ∧ Sl w' w.heap.size w'.heap.size a k
def TosPost (k : Fo) (w : World) (e : Ending) (w' : World) : Prop :=
  ∃ a c, e = .returned (.slice a (flen k) c) ∧ Below w.heap.size w w' ∧ Sl w' w.heap.size w'.heap.size a k

theorem to_end {w w1 : World} {s v : Int} {k : Fo} {a : Option Addr} {c : Nat} {n : Nat} (hn : n = w.heap.size) (hb : Below n w w1) (hl : Sl w1 (n + 3) w1.heap.size a k) (u x y z : Value) :
    ToPost s v k w (.returned (.agg #[.int .i64 s, .int .i64 v, .slice a (flen k) c])) ((((w1.setCell ⟨n + 1 + 1, 2, none⟩ u).setCell ⟨n + 1, 0, none⟩ x).setCell ⟨n + 1, 1, none⟩ y).setCell ⟨n + 1, 2, none⟩ z) := by
  subst hn
  refine ⟨a, c, rfl, (((hb.setCell (by simp; omega) _).setCell (by simp) _).setCell (by simp) _).setCell (by simp) _, ?_⟩
  have hs : Same (w.heap.size + 3) w1.heap.size w1 ((((w1.setCell ⟨w.heap.size + 1 + 1, 2, none⟩ u).setCell ⟨w.heap.size + 1, 0, none⟩ x).setCell ⟨w.heap.size + 1, 1, none⟩ y).setCell ⟨w.heap.size + 1, 2, none⟩ z) :=
    ((((Same.setCell (fun _ _ _ => rfl) (.inl (by simp)) _).setCell (.inl (by simp)) _).setCell (.inl (by simp)) _).setCell (.inl (by simp)) _)
  exact (hl.same hs).mono (by omega) (by simp)

set_option maxRecDepth 100000 in
set_option maxHeartbeats 1000000 in
/-- toTerm out of toTermS. -/
theorem toTerm_of (s v : Int) (a : Option Addr) (c : Nat) (k : Fo) (w : World)
    (hS : ∀ w1, Below w.heap.size w w1 → Calls Try.prog 55 #[.slice a (flen k) c] w1 (TosPost k w1)) :
    Calls Try.prog 18 #[.agg #[.int .i64 s, .int .i64 v, .slice a (flen k) c]] w (ToPost s v k w) := by
  have HS := Lib.hid hS
  clear hS
  go_enter Try.func18, Try.ntmps18
  go_wp2_with fail
  with_reducible refine (HS.out _ ?_).mono ?_
  · exact ((((Below.refl _ _).alloc (Nat.le_refl _) _).alloc (by simp) _).alloc (by simp; omega) _)
  rintro e w1 ⟨a1, c1, rfl, hb, hl⟩
  have hs1 := hb.size
  simp at hs1
  have hlow : ∀ {q : Addr} {u : Value}, (((w.alloc (.cells #[.int .i64 s, .int .i64 v, .slice a (flen k) c] 25)).alloc (.cells #[.int .i64 0, .int .i64 0, .slice none 0 0] 35)).alloc (.cells #[.int .i64 s, .int .i64 v, .slice none 0 0] 35)).cell? q = some u → w1.cell? q = some u := fun h => by
    rw [hb.cell (World.block_lt_of_cell? _ _ h)]; exact h
  have hc0 := hlow (q := ⟨w.heap.size + 1 + 1, 0, none⟩) (u := .int .i64 s) (by rw [World.cell?_alloc_at _ _ _ _ (by simp)]; rfl)
  have hc1 := hlow (q := ⟨w.heap.size + 1 + 1, 1, none⟩) (u := .int .i64 v) (by rw [World.cell?_alloc_at _ _ _ _ (by simp)]; rfl)
  have hc2 := hlow (q := ⟨w.heap.size + 1 + 1, 2, none⟩) (u := .slice none 0 0) (by rw [World.cell?_alloc_at _ _ _ _ (by simp)]; rfl)
  have hr0 := hlow (q := ⟨w.heap.size + 1, 0, none⟩) (u := .int .i64 0) (by rw [World.cell?_alloc_lt _ _ _ (by simp), World.cell?_alloc_at _ _ _ _ (by simp)]; rfl)
  have hr1 := hlow (q := ⟨w.heap.size + 1, 1, none⟩) (u := .int .i64 0) (by rw [World.cell?_alloc_lt _ _ _ (by simp), World.cell?_alloc_at _ _ _ _ (by simp)]; rfl)
  have hr2 := hlow (q := ⟨w.heap.size + 1, 2, none⟩) (u := .slice none 0 0) (by rw [World.cell?_alloc_lt _ _ _ (by simp), World.cell?_alloc_at _ _ _ _ (by simp)]; rfl)
  have hf2 : w1.frozen? ⟨w.heap.size + 1 + 1, 2, none⟩ = false := by rw [hb.frozen (by simp), World.frozen?_alloc_at _ _ _ _ (by simp)]
  have hg0 : w1.frozen? ⟨w.heap.size + 1, 0, none⟩ = false := by rw [hb.frozen (by simp), World.frozen?_alloc_past _ _ _ (by simp), World.frozen?_alloc_at _ _ _ _ (by simp)]
  have hg1 : w1.frozen? ⟨w.heap.size + 1, 1, none⟩ = false := by rw [hb.frozen (by simp), World.frozen?_alloc_past _ _ _ (by simp), World.frozen?_alloc_at _ _ _ _ (by simp)]
  have hg2 : w1.frozen? ⟨w.heap.size + 1, 2, none⟩ = false := by rw [hb.frozen (by simp), World.frozen?_alloc_past _ _ _ (by simp), World.frozen?_alloc_at _ _ _ _ (by simp)]
  have HB : Hid (Below w.heap.size w w1) := ((((Below.refl w.heap.size w).alloc (Nat.le_refl _) _).alloc (by simp) _).alloc (by simp; omega) _).trans (hb.mono (by simp; omega))
  have HL : Hid (Sl w1 (w.heap.size + 3) w1.heap.size a1 k) := hl.mono (by simp) (Nat.le_refl _)
  clear hb hl hlow
  go_wp2_with fail
  refine bodyPost_ret (v := .agg #[.int .i64 s, .int .i64 v, .slice a1 (flen k) c1]) ?_ rfl (to_end rfl HB.out HL.out _ _ _ _)
  simp [results, Try.results18, go_sem, hr0, hr1, hr2]

theorem Try.infoTermX : ∃ i, Try.prog.info? 35 = some i ∧ i.zero = some (.agg #[.int .i64 0, .int .i64 0, .slice none 0 0]) ∧ i.size = 3 ∧ i.bytes = 40 := by
  have h : (Try.prog.info? 35).map (fun i => (i.zero, i.size, i.bytes)) = some (some (.agg #[.int .i64 0, .int .i64 0, .slice none 0 0]), 3, 40) := by kernel_rfl
  obtain ⟨i, hi, hz⟩ := Option.map_eq_some_iff.1 h
  simp only [Prod.mk.injEq] at hz
  exact ⟨i, hi, hz.1, hz.2.1, hz.2.2⟩
theorem make_terms (n : Nat) (hn : n ≤ 1048576) (w : World) :
    (Instr.makeSlice 33 (.int .i64 (n : Int)) (.int .i64 (n : Int))).run Try.prog w = .ok (.slice (some ⟨w.heap.size, 0, none⟩) n n) (w.alloc (.cells (madeCells #[.int .i64 0, .int .i64 0, .slice none 0 0] (n * 3)) 35)) := by
  obtain ⟨i, hi, hz, hs, hb⟩ := Try.infoTermX
  have := run_make (P := Try.prog) w 33 35 i _ Try.underlying33 hi hz .i64 .i64 (n : Int) (n : Int) (by omega) (by omega) (by rw [hb]; omega) (by omega)
  rw [hs] at this
  simpa [Value.cells] using this
theorem made_at (n i : Nat) (z : Array Value) (h : i < n) : (madeCells z n)[i]? = some (z[i % z.size]!) := by simp [madeCells, h]

/-- What holds at the head of toTermS's loop. -/
structure ToAt (w : World) (k : Fo) (j : Nat) (wr : World) : Prop where
  below : Below w.heap.size w wr
  size : w.heap.size < wr.heap.size
  row : ∃ f : Nat → Value, wr.rowIs w.heap.size 35 (flen k * 3) f ∧ ∀ i, i < j → ∃ x y s v kk a c, fdrop i k = .node x y (s, v) kk (fdrop (i + 1) k) ∧
    f (i * 3) = .int .i64 s ∧ f (i * 3 + 1) = .int .i64 v ∧ f (i * 3 + 2) = .slice a (flen kk) c ∧ Sl wr (w.heap.size + 1) wr.heap.size a kk

theorem ToAt.start (w : World) (k : Fo) : ToAt w k 0 (w.alloc (.cells (madeCells #[.int .i64 0, .int .i64 0, .slice none 0 0] (flen k * 3)) 35)) := by
  refine ⟨(Below.refl _ _).alloc (Nat.le_refl _) _, by simp, ⟨fun i => #[Value.int .i64 0, .int .i64 0, .slice none 0 0][i % 3]!, ?_, fun i hi => by omega⟩⟩
  have := World.rowIs_alloc w (madeCells #[.int .i64 0, .int .i64 0, .slice none 0 0] (flen k * 3)) 35 (fun i => #[Value.int .i64 0, .int .i64 0, .slice none 0 0][i % 3]!) (fun i hi => by
    rw [size_madeCells] at hi
    exact made_at _ _ _ hi)
  rw [size_madeCells] at this
  exact this
theorem ToAt.step {w wr w2 : World} {k : Fo} {j x y : Nat} {s v : Int} {kk : Fo} {a : Option Addr} {c : Nat} (h : ToAt w k j wr) (hd : fdrop j k = .node x y (s, v) kk (fdrop (j + 1) k)) (hb : Below wr.heap.size wr w2) (hl : Sl w2 wr.heap.size w2.heap.size a kk) :
    ToAt w k (j + 1) (((w2.setCell ⟨w.heap.size, j * 3, none⟩ (.int .i64 s)).setCell ⟨w.heap.size, j * 3 + 1, none⟩ (.int .i64 v)).setCell ⟨w.heap.size, j * 3 + 2, none⟩ (.slice a (flen kk) c)) := by
  have hs := h.size
  have hs2 := hb.size
  obtain ⟨f, hf, hall⟩ := h.row
  have hf2 := hf.of_block (hb.block _ hs)
  have hsame : ∀ {L H : Nat}, w.heap.size < L → Same L H w2 (((w2.setCell ⟨w.heap.size, j * 3, none⟩ (.int .i64 s)).setCell ⟨w.heap.size, j * 3 + 1, none⟩ (.int .i64 v)).setCell ⟨w.heap.size, j * 3 + 2, none⟩ (.slice a (flen kk) c)) := fun hL =>
    ((Same.setCell (fun _ _ _ => rfl) (.inl hL) _).setCell (.inl hL) _).setCell (.inl hL) _
  refine ⟨(((h.below.trans (hb.mono (by omega))).setCell (by simp) _).setCell (by simp) _).setCell (by simp) _, by simp; omega, ⟨_, ((hf2.set _ _).set _ _).set _ _, fun i hi => ?_⟩⟩
  by_cases hij : i = j
  · subst hij
    exact ⟨x, y, s, v, kk, a, c, hd, by simp, by simp, by simp, (hl.same (hsame (by omega))).mono (by omega) (by simp)⟩
  · obtain ⟨x', y', s', v', k', a', c', e, h0, h1, h2, hsl⟩ := hall i (by omega)
    refine ⟨x', y', s', v', k', a', c', e, ?_, ?_, ?_, ((hsl.same (fun b h1 h2 => hb.block b h2)).same (hsame (by omega))).mono (Nat.le_refl _) (by simp; omega)⟩
    · rw [if_neg (by omega), if_neg (by omega), if_neg (by omega)]; exact h0
    · rw [if_neg (by omega), if_neg (by omega), if_neg (by omega)]; exact h1
    · rw [if_neg (by omega), if_neg (by omega), if_neg (by omega)]; exact h2
theorem ToAt.sl {w wr : World} {k : Fo} {j : Nat} (h : ToAt w k j wr) (hj : flen k ≤ j) : Sl wr w.heap.size wr.heap.size (some ⟨w.heap.size, 0, none⟩) k := by
  obtain ⟨f, hf, hall⟩ := h.row
  have hrow : ∀ (k' : Fo) (o : Nat), (∀ i, i < flen k' → ∃ x y s v kk a c, fdrop i k' = .node x y (s, v) kk (fdrop (i + 1) k') ∧ wr.cell? ⟨w.heap.size, o + i * 3, none⟩ = some (.int .i64 s) ∧ wr.cell? ⟨w.heap.size, o + i * 3 + 1, none⟩ = some (.int .i64 v) ∧
      wr.cell? ⟨w.heap.size, o + i * 3 + 2, none⟩ = some (.slice a (flen kk) c) ∧ Sl wr w.heap.size wr.heap.size a kk) → Row wr w.heap.size wr.heap.size k' w.heap.size o := by
    intro k'
    induction k' with
    | nil => intro o _; trivial
    | node x y p kk r _ ih =>
      intro o h'
      obtain ⟨x', y', s, v, kk', a, c, e, c0, c1, c2, hs⟩ := h' 0 (by simp [flen])
      simp only [fdrop, BT.node.injEq] at e
      obtain ⟨_, _, rfl, rfl, _⟩ := e
      refine ⟨Nat.le_refl _, h.size, by simpa using c0, by simpa using c1, ⟨a, c, by simpa using c2, hs⟩, ih (o + 3) fun i hi => ?_⟩
      obtain ⟨x', y', s, v, kk', a, c, e, c0, c1, c2, hs⟩ := h' (i + 1) (by simp [flen]; omega)
      have e3 : o + 3 + i * 3 = o + (i + 1) * 3 := by omega
      exact ⟨x', y', s, v, kk', a, c, e, by rw [e3]; exact c0, by rw [e3]; exact c1, by rw [e3]; exact c2, hs⟩
  refine .inr ⟨_, 0, rfl, hrow k 0 fun i hi => ?_⟩
  obtain ⟨x, y, s, v, kk, a, c, e, h0, h1, h2, hs⟩ := hall i (by omega)
  refine ⟨x, y, s, v, kk, a, c, e, ?_, ?_, ?_, hs.mono (by omega) (Nat.le_refl _)⟩
  · rw [Nat.zero_add, ← h0]; exact hf.cell (by omega)
  · rw [Nat.zero_add, ← h1]; exact hf.cell (by omega)
  · rw [Nat.zero_add, ← h2]; exact hf.cell (by omega)

set_option maxRecDepth 100000 in
set_option maxHeartbeats 1000000 in
theorem toTermS_any (N : Nat) : ∀ (a : Option Addr) (c : Nat) (k : Fo) (w : World), Sl w 0 w.heap.size a k → fsz k ≤ N → N ≤ 1048576 →
    Calls Try.prog 55 #[.slice a (flen k) c] w (TosPost k w) := by
  induction N using Nat.strongRecOn with
  | _ N ih =>
    intro a c k w hl hN hN2
    have hfl := flen_le (k := k)
    have IH := Lib.hid ih
    clear ih
    have hmk := make_terms (flen k) (by omega)
    have HST := Lib.hid (ToAt.start w k)
    go_enter Try.func55, Try.ntmps55
    go_wp2_with fail
    clear hmk
    go_loopw [4] (fun i wr => ∃ j : Nat, j ≤ flen k ∧ i = .int .i64 j ∧ ToAt w k j wr) (fun i _ => flen k - (intOf i).toNat)
    case atStart => exact ⟨0, by omega, rfl, HST.out⟩
    case round =>
      clear HST
      obtain ⟨j, hj, rfl, hat⟩ := hrel
      have hsr := hat.size
      by_cases hlt : j < flen k
      · rcases hl with rfl | ⟨b, o, rfl, hrow⟩
        · simp [flen] at hlt
        obtain ⟨s', v', kk, a', c', ⟨x, y, hd⟩, _, hbB, hk0, hk1, hk2, hsl⟩ := row_at (hrow.below hat.below) hlt
        have hkN := fsz_kid' hd
        have HD := Lib.hid hd
        have HS := Lib.hid hsl
        have HAT := Lib.hid hat
        clear hd hsl hrow hat
        go_wp2_with fail
        with_reducible refine (toTerm_of s' v' a' c' kk _ ?_).mono ?_
        · intro w1 hb1
          refine IH.out (fsz kk) (by omega) a' c' kk w1 ?_ (Nat.le_refl _) (by omega)
          exact (HS.out.below (hb1.mono (by omega))).mono (Nat.le_refl _) (by have := hb1.size; omega)
        rintro e w2 ⟨a2, c2, rfl, hb2, hl2⟩
        obtain ⟨f, hf, _⟩ := HAT.out.row
        have hf2 := hf.of_block (hb2.block _ hsr)
        have hg0 := hf2.cell (i := j * 3) (by omega)
        have hg1 := hf2.cell (i := j * 3 + 1) (by omega)
        have hg2 := hf2.cell (i := j * 3 + 2) (by omega)
        have hz0 := hf2.frozen (j * 3)
        have hz1 := hf2.frozen (j * 3 + 1)
        have hz2 := hf2.frozen (j * 3 + 2)
        have HSTEP := Lib.hid (HAT.out.step (c := c2) HD.out hb2 hl2)
        clear hf hf2 hb2 hl2 hk0 hk1 hk2
        go_wp2_with fail
        go_roundw
        case rel => exact ⟨j + 1, by omega, by go_num, HSTEP.out⟩
        case measure => simp [intOf]; omega
      · have HE : Hid (TosPost k w (.returned (.slice (some ⟨w.heap.size, 0, none⟩) (flen k) (flen k))) wr) := ⟨_, _, rfl, hat.below, hat.sl (by omega)⟩
        clear hat
        go_wp2_with fail
        go_ret
        exact HE.out
end Go.Proofs.Ytdkcbbhkoibplaa

/-! XBt: toTerm, toTermS once more: the copy is a tree whose rows lie each at the head of a block of its own, not frozen; and what stays of it if its numbers are written over. -/
namespace Go.Proofs.Ytdkcbbhkoibplaa
open Go.RowKit Go.Deep

theorem row_of_allX {w : World} {lo B : Nat} : ∀ (k : Fo) (b o : Nat), lo ≤ b → b < B →
    (∀ i, i < flen k → ∃ x y s v kk a c, fdrop i k = .node x y (s, v) kk (fdrop (i + 1) k) ∧ w.cell? ⟨b, o + i * 3, none⟩ = some (.int .i64 s) ∧ w.cell? ⟨b, o + i * 3 + 1, none⟩ = some (.int .i64 v) ∧
      w.cell? ⟨b, o + i * 3 + 2, none⟩ = some (.slice a (flen kk) c) ∧ Sl w lo B a kk) → Row w lo B k b o
  | .nil, _, _, _, _, _ => trivial
  | .node x y p kk r, b, o, h1, h2, h => by
    obtain ⟨x', y', s, v, kk', a, c, e, c0, c1, c2, hs⟩ := h 0 (by simp [flen])
    simp only [fdrop, BT.node.injEq] at e
    obtain ⟨_, _, rfl, rfl, _⟩ := e
    refine ⟨h1, h2, by simpa using c0, by simpa using c1, ⟨a, c, by simpa using c2, hs⟩, row_of_allX r b (o + 3) h1 h2 fun i hi => ?_⟩
    obtain ⟨x', y', s, v, kk', a, c, e, c0, c1, c2, hs⟩ := h (i + 1) (by simp [flen]; omega)
    have e3 : o + 3 + i * 3 = o + (i + 1) * 3 := by omega
    exact ⟨x', y', s, v, kk', a, c, e, by rw [e3]; exact c0, by rw [e3]; exact c1, by rw [e3]; exact c2, hs⟩

/-- The shape of terms: each row in block b from offset o on, its numbers whatever they are, not frozen; the rows below it each at the head of a block. -/
def Sh (w : World) (lo B : Nat) : Fo → Nat → Nat → Prop
  | .nil, _, _ => True
  | .node _ _ _ k r, b, o => lo ≤ b ∧ b < B ∧ (∃ x, w.cell? ⟨b, o, none⟩ = some (.int .i64 x)) ∧ (∃ x, w.cell? ⟨b, o + 1, none⟩ = some (.int .i64 x)) ∧ w.frozen? ⟨b, o, none⟩ = false ∧ w.frozen? ⟨b, o + 1, none⟩ = false ∧
      (∃ a c, w.cell? ⟨b, o + 2, none⟩ = some (.slice a (flen k) c) ∧ (k = .nil ∨ ∃ b', a = some ⟨b', 0, none⟩ ∧ Sh w lo B k b' 0)) ∧ Sh w lo B r b (o + 3)
/-- What a mark leaves: in the blocks from lo on below B numbers may be others. -/
structure Marked (lo B : Nat) (w w' : World) : Prop where
  below : Below lo w w'
  far : ∀ b, B ≤ b → b < w.heap.size → w'.heap[b]? = w.heap[b]?
  kids : ∀ b o, lo ≤ b → b < B → o % 3 = 2 → w'.cell? ⟨b, o, none⟩ = w.cell? ⟨b, o, none⟩
  ints : ∀ b o x, lo ≤ b → b < B → o % 3 ≠ 2 → w.cell? ⟨b, o, none⟩ = some (.int .i64 x) → ∃ y, w'.cell? ⟨b, o, none⟩ = some (.int .i64 y)
  free : ∀ b o, lo ≤ b → b < B → w.frozen? ⟨b, o, none⟩ = false → w'.frozen? ⟨b, o, none⟩ = false
theorem Marked.refl (lo B : Nat) (w : World) : Marked lo B w w := ⟨Below.refl _ _, fun _ _ _ => rfl, fun _ _ _ _ _ => rfl, fun _ _ x _ _ _ h => ⟨x, h⟩, fun _ _ _ _ h => h⟩
theorem Marked.trans {lo B : Nat} {w w' w2 : World} (h : Marked lo B w w') (h' : Marked lo B w' w2) : Marked lo B w w2 :=
  ⟨h.below.trans h'.below, fun b h1 h2 => (h'.far b h1 (Nat.lt_of_lt_of_le h2 h.below.size)).trans (h.far b h1 h2), fun b o h1 h2 h3 => (h'.kids b o h1 h2 h3).trans (h.kids b o h1 h2 h3),
    fun b o x h1 h2 h3 h4 => by obtain ⟨y, hy⟩ := h.ints b o x h1 h2 h3 h4; exact h'.ints b o y h1 h2 h3 hy, fun b o h1 h2 h3 => h'.free b o h1 h2 (h.free b o h1 h2 h3)⟩
theorem Marked.set {lo B : Nat} {w : World} {b o : Nat} {u : Value} (h1 : lo ≤ b) (h2 : b < B) (h3 : o % 3 ≠ 2) (hc : w.cell? ⟨b, o, none⟩ = some u) (x : Int) : Marked lo B w (w.setCell ⟨b, o, none⟩ (.int .i64 x)) := by
  refine ⟨(Below.refl _ _).setCell h1 _, fun b' h4 h5 => Below.heap_setCell _ _ _ _ (by simp; omega), fun b' o' h4 h5 h6 => ?_, fun b' o' x' h4 h5 h6 h7 => ?_, fun b' o' h4 h5 h6 => by rw [World.frozen?_setCell]; exact h6⟩
  · exact World.cell?_setCell_other _ _ _ _ (by intro e; have := congrArg Addr.off e; simp at this; omega)
  · by_cases e : (⟨b, o, none⟩ : Addr) = ⟨b', o', none⟩
    · rw [← e]
      exact ⟨x, World.cell?_setCell_same _ _ _ hc⟩
    · exact ⟨x', by rw [World.cell?_setCell_other _ _ _ _ e]; exact h7⟩
theorem Marked.more {lo B : Nat} {w w' w2 : World} (h : Marked lo B w w') (hb : Below w'.heap.size w' w2) (hB : B ≤ w.heap.size) (hlo : lo ≤ w.heap.size) : Marked lo B w w2 := by
  have hs := h.below.size
  refine ⟨h.below.trans (hb.mono (by omega)), fun b h1 h2 => (hb.block b (by omega)).trans (h.far b h1 h2), fun b o h1 h2 h3 => by rw [hb.cell (by simp; omega)]; exact h.kids b o h1 h2 h3,
    fun b o x h1 h2 h3 h4 => by obtain ⟨y, hy⟩ := h.ints b o x h1 h2 h3 h4; exact ⟨y, by rw [hb.cell (by simp; omega)]; exact hy⟩, fun b o h1 h2 h3 => by rw [hb.frozen (by simp; omega)]; exact h.free b o h1 h2 h3⟩
theorem Sh.marked {w w' : World} {lo B : Nat} (hm : Marked lo B w w') : ∀ (k : Fo) (b o : Nat), o % 3 = 0 → Sh w lo B k b o → Sh w' lo B k b o
  | .nil, _, _, _, _ => trivial
  | .node _ _ _ k r, b, o, ho, ⟨h1, h2, ⟨x, hx⟩, ⟨y, hy⟩, f0, f1, ⟨a, c, hc, hk⟩, hr⟩ => by
    refine ⟨h1, h2, hm.ints b o x h1 h2 (by omega) hx, hm.ints b (o + 1) y h1 h2 (by omega) hy, hm.free b o h1 h2 f0, hm.free b (o + 1) h1 h2 f1, ⟨a, c, by rw [hm.kids b (o + 2) h1 h2 (by omega)]; exact hc, ?_⟩, Sh.marked hm r b (o + 3) (by omega) hr⟩
    rcases hk with hk | ⟨b', e, hk⟩
    · exact .inl hk
    · exact .inr ⟨b', e, Sh.marked hm k b' 0 rfl hk⟩
theorem frozen_same {w w' : World} {b o : Nat} (h : w'.heap[b]? = w.heap[b]?) : w'.frozen? ⟨b, o, none⟩ = w.frozen? ⟨b, o, none⟩ := by simp only [World.frozen?, h]
theorem Sh.same {w w' : World} {lo B : Nat} (hb : Same lo B w w') : ∀ (k : Fo) (b o : Nat), Sh w lo B k b o → Sh w' lo B k b o
  | .nil, _, _, _ => trivial
  | .node _ _ _ k r, b, o, ⟨h1, h2, ⟨x, hx⟩, ⟨y, hy⟩, f0, f1, ⟨a, c, hc, hk⟩, hr⟩ => by
    refine ⟨h1, h2, ⟨x, by rw [hb.cell h1 h2]; exact hx⟩, ⟨y, by rw [hb.cell h1 h2]; exact hy⟩, by rw [frozen_same (hb b h1 h2)]; exact f0, by rw [frozen_same (hb b h1 h2)]; exact f1, ⟨a, c, by rw [hb.cell h1 h2]; exact hc, ?_⟩, Sh.same hb r b (o + 3) hr⟩
    rcases hk with hk | ⟨b', e, hk⟩
    · exact .inl hk
    · exact .inr ⟨b', e, Sh.same hb k b' 0 hk⟩
theorem Sh.mono {w : World} {lo lo' B B' : Nat} (hlo : lo' ≤ lo) (hB : B ≤ B') : ∀ (k : Fo) (b o : Nat), Sh w lo B k b o → Sh w lo' B' k b o
  | .nil, _, _, _ => trivial
  | .node _ _ _ k r, b, o, ⟨h1, h2, hx, hy, f0, f1, ⟨a, c, hc, hk⟩, hr⟩ => by
    refine ⟨by omega, by omega, hx, hy, f0, f1, ⟨a, c, hc, ?_⟩, Sh.mono hlo hB r b (o + 3) hr⟩
    rcases hk with hk | ⟨b', e, hk⟩
    · exact .inl hk
    · exact .inr ⟨b', e, Sh.mono hlo hB k b' 0 hk⟩
theorem Sh.drop {w : World} {lo B : Nat} : ∀ (i : Nat) (k : Fo) (b o : Nat), Sh w lo B k b o → Sh w lo B (fdrop i k) b (o + i * 3)
  | 0, _, _, _, h => by simpa [fdrop] using h
  | _ + 1, .nil, _, _, _ => trivial
  | n + 1, .node _ _ _ _ r, b, o, h => by
    have := Sh.drop n r b (o + 3) h.2.2.2.2.2.2.2
    rw [fdrop, show o + (n + 1) * 3 = o + 3 + n * 3 from by omega]
    exact this
def ShS (w : World) (lo B : Nat) (a : Option Addr) (k : Fo) : Prop := k = .nil ∨ ∃ b, a = some ⟨b, 0, none⟩ ∧ Sh w lo B k b 0
theorem sh_of_all {w : World} {lo B : Nat} : ∀ (k : Fo) (b o : Nat), lo ≤ b → b < B → (∀ j, w.frozen? ⟨b, j, none⟩ = false) →
    (∀ i, i < flen k → ∃ x y s v kk a c, fdrop i k = .node x y (s, v) kk (fdrop (i + 1) k) ∧ w.cell? ⟨b, o + i * 3, none⟩ = some (.int .i64 s) ∧ w.cell? ⟨b, o + i * 3 + 1, none⟩ = some (.int .i64 v) ∧
      w.cell? ⟨b, o + i * 3 + 2, none⟩ = some (.slice a (flen kk) c) ∧ ShS w lo B a kk) → Sh w lo B k b o
  | .nil, _, _, _, _, _, _ => trivial
  | .node x y p kk r, b, o, h1, h2, hf, h => by
    obtain ⟨x', y', s, v, kk', a, c, e, c0, c1, c2, hs⟩ := h 0 (by simp [flen])
    simp only [fdrop, BT.node.injEq] at e
    obtain ⟨_, _, rfl, rfl, _⟩ := e
    refine ⟨h1, h2, ⟨_, by simpa using c0⟩, ⟨_, by simpa using c1⟩, hf _, hf _, ⟨a, c, by simpa using c2, hs⟩, sh_of_all r b (o + 3) h1 h2 hf fun i hi => ?_⟩
    obtain ⟨x', y', s, v, kk', a, c, e, c0, c1, c2, hs⟩ := h (i + 1) (by simp [flen]; omega)
    have e3 : o + 3 + i * 3 = o + (i + 1) * 3 := by omega
    exact ⟨x', y', s, v, kk', a, c, e, by rw [e3]; exact c0, by rw [e3]; exact c1, by rw [e3]; exact c2, hs⟩
/-- The terms k lie there, each row at the head of a block of its own. -/
def SX (w : World) (lo B : Nat) (a : Option Addr) (k : Fo) : Prop := Sl w lo B a k ∧ ShS w lo B a k
theorem SX.same {w w' : World} {lo B : Nat} {a : Option Addr} {k : Fo} (hb : Same lo B w w') (h : SX w lo B a k) : SX w' lo B a k := by
  refine ⟨h.1.same hb, ?_⟩
  rcases h.2 with h | ⟨b, e, h⟩
  · exact .inl h
  · exact .inr ⟨b, e, h.same hb⟩
theorem SX.mono {w : World} {lo lo' B B' : Nat} {a : Option Addr} {k : Fo} (hlo : lo' ≤ lo) (hB : B ≤ B') (h : SX w lo B a k) : SX w lo' B' a k := by
  refine ⟨h.1.mono hlo hB, ?_⟩
  rcases h.2 with h | ⟨b, e, h⟩
  · exact .inl h
  · exact .inr ⟨b, e, h.mono hlo hB⟩

def ToPostT (s v : Int) (k : Fo) (w : World) (e : Ending) (w' : World) : Prop :=
  ∃ a c, e = .returned (.agg #[.int .i64 s, .int .i64 v, .slice a (flen k) c]) ∧ Below w.heap.size w w' ∧ SX w' w.heap.size w'.heap.size a k
def TosPostT (k : Fo) (w : World) (e : Ending) (w' : World) : Prop :=
  ∃ a c, e = .returned (.slice a (flen k) c) ∧ Below w.heap.size w w' ∧ SX w' w.heap.size w'.heap.size a k

theorem to_endT {w w1 : World} {s v : Int} {k : Fo} {a : Option Addr} {c : Nat} {n : Nat} (hn : n = w.heap.size) (hb : Below n w w1) (hl : SX w1 (n + 3) w1.heap.size a k) (u x y z : Value) :
    ToPostT s v k w (.returned (.agg #[.int .i64 s, .int .i64 v, .slice a (flen k) c])) ((((w1.setCell ⟨n + 1 + 1, 2, none⟩ u).setCell ⟨n + 1, 0, none⟩ x).setCell ⟨n + 1, 1, none⟩ y).setCell ⟨n + 1, 2, none⟩ z) := by
  subst hn
  refine ⟨a, c, rfl, (((hb.setCell (by simp; omega) _).setCell (by simp) _).setCell (by simp) _).setCell (by simp) _, ?_⟩
  have hs : Same (w.heap.size + 3) w1.heap.size w1 ((((w1.setCell ⟨w.heap.size + 1 + 1, 2, none⟩ u).setCell ⟨w.heap.size + 1, 0, none⟩ x).setCell ⟨w.heap.size + 1, 1, none⟩ y).setCell ⟨w.heap.size + 1, 2, none⟩ z) :=
    ((((Same.setCell (fun _ _ _ => rfl) (.inl (by simp)) _).setCell (.inl (by simp)) _).setCell (.inl (by simp)) _).setCell (.inl (by simp)) _)
  exact (hl.same hs).mono (by omega) (by simp)

set_option maxRecDepth 100000 in
set_option maxHeartbeats 1000000 in
/-- toTerm out of toTermS. -/
theorem toTerm_ofT (s v : Int) (a : Option Addr) (c : Nat) (k : Fo) (w : World)
    (hS : ∀ w1, Below w.heap.size w w1 → Calls Try.prog 55 #[.slice a (flen k) c] w1 (TosPostT k w1)) :
    Calls Try.prog 18 #[.agg #[.int .i64 s, .int .i64 v, .slice a (flen k) c]] w (ToPostT s v k w) := by
  have HS := Lib.hid hS
  clear hS
  go_enter Try.func18, Try.ntmps18
  go_wp2_with fail
  with_reducible refine (HS.out _ ?_).mono ?_
  · exact ((((Below.refl _ _).alloc (Nat.le_refl _) _).alloc (by simp) _).alloc (by simp; omega) _)
  rintro e w1 ⟨a1, c1, rfl, hb, hl⟩
  have hs1 := hb.size
  simp at hs1
  have hlow : ∀ {q : Addr} {u : Value}, (((w.alloc (.cells #[.int .i64 s, .int .i64 v, .slice a (flen k) c] 25)).alloc (.cells #[.int .i64 0, .int .i64 0, .slice none 0 0] 35)).alloc (.cells #[.int .i64 s, .int .i64 v, .slice none 0 0] 35)).cell? q = some u → w1.cell? q = some u := fun h => by
    rw [hb.cell (World.block_lt_of_cell? _ _ h)]; exact h
  have hc0 := hlow (q := ⟨w.heap.size + 1 + 1, 0, none⟩) (u := .int .i64 s) (by rw [World.cell?_alloc_at _ _ _ _ (by simp)]; rfl)
  have hc1 := hlow (q := ⟨w.heap.size + 1 + 1, 1, none⟩) (u := .int .i64 v) (by rw [World.cell?_alloc_at _ _ _ _ (by simp)]; rfl)
  have hc2 := hlow (q := ⟨w.heap.size + 1 + 1, 2, none⟩) (u := .slice none 0 0) (by rw [World.cell?_alloc_at _ _ _ _ (by simp)]; rfl)
  have hr0 := hlow (q := ⟨w.heap.size + 1, 0, none⟩) (u := .int .i64 0) (by rw [World.cell?_alloc_lt _ _ _ (by simp), World.cell?_alloc_at _ _ _ _ (by simp)]; rfl)
  have hr1 := hlow (q := ⟨w.heap.size + 1, 1, none⟩) (u := .int .i64 0) (by rw [World.cell?_alloc_lt _ _ _ (by simp), World.cell?_alloc_at _ _ _ _ (by simp)]; rfl)
  have hr2 := hlow (q := ⟨w.heap.size + 1, 2, none⟩) (u := .slice none 0 0) (by rw [World.cell?_alloc_lt _ _ _ (by simp), World.cell?_alloc_at _ _ _ _ (by simp)]; rfl)
  have hf2 : w1.frozen? ⟨w.heap.size + 1 + 1, 2, none⟩ = false := by rw [hb.frozen (by simp), World.frozen?_alloc_at _ _ _ _ (by simp)]
  have hg0 : w1.frozen? ⟨w.heap.size + 1, 0, none⟩ = false := by rw [hb.frozen (by simp), World.frozen?_alloc_past _ _ _ (by simp), World.frozen?_alloc_at _ _ _ _ (by simp)]
  have hg1 : w1.frozen? ⟨w.heap.size + 1, 1, none⟩ = false := by rw [hb.frozen (by simp), World.frozen?_alloc_past _ _ _ (by simp), World.frozen?_alloc_at _ _ _ _ (by simp)]
  have hg2 : w1.frozen? ⟨w.heap.size + 1, 2, none⟩ = false := by rw [hb.frozen (by simp), World.frozen?_alloc_past _ _ _ (by simp), World.frozen?_alloc_at _ _ _ _ (by simp)]
  have HB : Hid (Below w.heap.size w w1) := ((((Below.refl w.heap.size w).alloc (Nat.le_refl _) _).alloc (by simp) _).alloc (by simp; omega) _).trans (hb.mono (by simp; omega))
  have HL : Hid (SX w1 (w.heap.size + 3) w1.heap.size a1 k) := hl.mono (by simp) (Nat.le_refl _)
  clear hb hl hlow
  go_wp2_with fail
  refine bodyPost_ret (v := .agg #[.int .i64 s, .int .i64 v, .slice a1 (flen k) c1]) ?_ rfl (to_endT rfl HB.out HL.out _ _ _ _)
  simp [results, Try.results18, go_sem, hr0, hr1, hr2]

/-- What holds at the head of toTermS's loop. -/
structure ToAtT (w : World) (k : Fo) (j : Nat) (wr : World) : Prop where
  below : Below w.heap.size w wr
  size : w.heap.size < wr.heap.size
  row : ∃ f : Nat → Value, wr.rowIs w.heap.size 35 (flen k * 3) f ∧ ∀ i, i < j → ∃ x y s v kk a c, fdrop i k = .node x y (s, v) kk (fdrop (i + 1) k) ∧
    f (i * 3) = .int .i64 s ∧ f (i * 3 + 1) = .int .i64 v ∧ f (i * 3 + 2) = .slice a (flen kk) c ∧ SX wr (w.heap.size + 1) wr.heap.size a kk

theorem ToAtT.start (w : World) (k : Fo) : ToAtT w k 0 (w.alloc (.cells (madeCells #[.int .i64 0, .int .i64 0, .slice none 0 0] (flen k * 3)) 35)) := by
  refine ⟨(Below.refl _ _).alloc (Nat.le_refl _) _, by simp, ⟨fun i => #[Value.int .i64 0, .int .i64 0, .slice none 0 0][i % 3]!, ?_, fun i hi => by omega⟩⟩
  have := World.rowIs_alloc w (madeCells #[.int .i64 0, .int .i64 0, .slice none 0 0] (flen k * 3)) 35 (fun i => #[Value.int .i64 0, .int .i64 0, .slice none 0 0][i % 3]!) (fun i hi => by
    rw [size_madeCells] at hi
    exact made_at _ _ _ hi)
  rw [size_madeCells] at this
  exact this
theorem ToAtT.step {w wr w2 : World} {k : Fo} {j x y : Nat} {s v : Int} {kk : Fo} {a : Option Addr} {c : Nat} (h : ToAtT w k j wr) (hd : fdrop j k = .node x y (s, v) kk (fdrop (j + 1) k)) (hb : Below wr.heap.size wr w2) (hl : SX w2 wr.heap.size w2.heap.size a kk) :
    ToAtT w k (j + 1) (((w2.setCell ⟨w.heap.size, j * 3, none⟩ (.int .i64 s)).setCell ⟨w.heap.size, j * 3 + 1, none⟩ (.int .i64 v)).setCell ⟨w.heap.size, j * 3 + 2, none⟩ (.slice a (flen kk) c)) := by
  have hs := h.size
  have hs2 := hb.size
  obtain ⟨f, hf, hall⟩ := h.row
  have hf2 := hf.of_block (hb.block _ hs)
  have hsame : ∀ {L H : Nat}, w.heap.size < L → Same L H w2 (((w2.setCell ⟨w.heap.size, j * 3, none⟩ (.int .i64 s)).setCell ⟨w.heap.size, j * 3 + 1, none⟩ (.int .i64 v)).setCell ⟨w.heap.size, j * 3 + 2, none⟩ (.slice a (flen kk) c)) := fun hL =>
    ((Same.setCell (fun _ _ _ => rfl) (.inl hL) _).setCell (.inl hL) _).setCell (.inl hL) _
  refine ⟨(((h.below.trans (hb.mono (by omega))).setCell (by simp) _).setCell (by simp) _).setCell (by simp) _, by simp; omega, ⟨_, ((hf2.set _ _).set _ _).set _ _, fun i hi => ?_⟩⟩
  by_cases hij : i = j
  · subst hij
    exact ⟨x, y, s, v, kk, a, c, hd, by simp, by simp, by simp, (hl.same (hsame (by omega))).mono (by omega) (by simp)⟩
  · obtain ⟨x', y', s', v', k', a', c', e, h0, h1, h2, hsl⟩ := hall i (by omega)
    refine ⟨x', y', s', v', k', a', c', e, ?_, ?_, ?_, ((hsl.same (fun b h1 h2 => hb.block b h2)).same (hsame (by omega))).mono (Nat.le_refl _) (by simp; omega)⟩
    · rw [if_neg (by omega), if_neg (by omega), if_neg (by omega)]; exact h0
    · rw [if_neg (by omega), if_neg (by omega), if_neg (by omega)]; exact h1
    · rw [if_neg (by omega), if_neg (by omega), if_neg (by omega)]; exact h2
theorem ToAtT.sl {w wr : World} {k : Fo} {j : Nat} (h : ToAtT w k j wr) (hj : flen k ≤ j) : SX wr w.heap.size wr.heap.size (some ⟨w.heap.size, 0, none⟩) k := by
  obtain ⟨f, hf, hall⟩ := h.row
  have key : ∀ i, i < flen k → ∃ x y s v kk a c, fdrop i k = .node x y (s, v) kk (fdrop (i + 1) k) ∧ wr.cell? ⟨w.heap.size, 0 + i * 3, none⟩ = some (.int .i64 s) ∧ wr.cell? ⟨w.heap.size, 0 + i * 3 + 1, none⟩ = some (.int .i64 v) ∧
      wr.cell? ⟨w.heap.size, 0 + i * 3 + 2, none⟩ = some (.slice a (flen kk) c) ∧ SX wr w.heap.size wr.heap.size a kk := fun i hi => by
    obtain ⟨x, y, s, v, kk, a, c, e, h0, h1, h2, hs⟩ := hall i (by omega)
    refine ⟨x, y, s, v, kk, a, c, e, ?_, ?_, ?_, hs.mono (by omega) (Nat.le_refl _)⟩
    · rw [Nat.zero_add, ← h0]; exact hf.cell (by omega)
    · rw [Nat.zero_add, ← h1]; exact hf.cell (by omega)
    · rw [Nat.zero_add, ← h2]; exact hf.cell (by omega)
  refine ⟨.inr ⟨_, 0, rfl, row_of_allX k _ 0 (Nat.le_refl _) h.size fun i hi => ?_⟩, .inr ⟨_, rfl, sh_of_all k _ 0 (Nat.le_refl _) h.size (fun j => hf.frozen j) fun i hi => ?_⟩⟩
  · obtain ⟨x, y, s, v, kk, a, c, e, h0, h1, h2, hs⟩ := key i hi
    exact ⟨x, y, s, v, kk, a, c, e, h0, h1, h2, hs.1⟩
  · obtain ⟨x, y, s, v, kk, a, c, e, h0, h1, h2, hs⟩ := key i hi
    exact ⟨x, y, s, v, kk, a, c, e, h0, h1, h2, hs.2⟩

set_option maxRecDepth 100000 in
set_option maxHeartbeats 1000000 in
theorem toTermS_anyT (N : Nat) : ∀ (a : Option Addr) (c : Nat) (k : Fo) (w : World), Sl w 0 w.heap.size a k → fsz k ≤ N → N ≤ 1048576 →
    Calls Try.prog 55 #[.slice a (flen k) c] w (TosPostT k w) := by
  induction N using Nat.strongRecOn with
  | _ N ih =>
    intro a c k w hl hN hN2
    have hfl := flen_le (k := k)
    have IH := Lib.hid ih
    clear ih
    have hmk := make_terms (flen k) (by omega)
    have HST := Lib.hid (ToAtT.start w k)
    go_enter Try.func55, Try.ntmps55
    go_wp2_with fail
    clear hmk
    go_loopw [4] (fun i wr => ∃ j : Nat, j ≤ flen k ∧ i = .int .i64 j ∧ ToAtT w k j wr) (fun i _ => flen k - (intOf i).toNat)
    case atStart => exact ⟨0, by omega, rfl, HST.out⟩
    case round =>
      clear HST
      obtain ⟨j, hj, rfl, hat⟩ := hrel
      have hsr := hat.size
      by_cases hlt : j < flen k
      · rcases hl with rfl | ⟨b, o, rfl, hrow⟩
        · simp [flen] at hlt
        obtain ⟨s', v', kk, a', c', ⟨x, y, hd⟩, _, hbB, hk0, hk1, hk2, hsl⟩ := row_at (hrow.below hat.below) hlt
        have hkN := fsz_kid' hd
        have HD := Lib.hid hd
        have HS := Lib.hid hsl
        have HAT := Lib.hid hat
        clear hd hsl hrow hat
        go_wp2_with fail
        with_reducible refine (toTerm_ofT s' v' a' c' kk _ ?_).mono ?_
        · intro w1 hb1
          refine IH.out (fsz kk) (by omega) a' c' kk w1 ?_ (Nat.le_refl _) (by omega)
          exact (HS.out.below (hb1.mono (by omega))).mono (Nat.le_refl _) (by have := hb1.size; omega)
        rintro e w2 ⟨a2, c2, rfl, hb2, hl2⟩
        obtain ⟨f, hf, _⟩ := HAT.out.row
        have hf2 := hf.of_block (hb2.block _ hsr)
        have hg0 := hf2.cell (i := j * 3) (by omega)
        have hg1 := hf2.cell (i := j * 3 + 1) (by omega)
        have hg2 := hf2.cell (i := j * 3 + 2) (by omega)
        have hz0 := hf2.frozen (j * 3)
        have hz1 := hf2.frozen (j * 3 + 1)
        have hz2 := hf2.frozen (j * 3 + 2)
        have HSTEP := Lib.hid (HAT.out.step (c := c2) HD.out hb2 hl2)
        clear hf hf2 hb2 hl2 hk0 hk1 hk2
        go_wp2_with fail
        go_roundw
        case rel => exact ⟨j + 1, by omega, by go_num, HSTEP.out⟩
        case measure => simp [intOf]; omega
      · have HE : Hid (TosPostT k w (.returned (.slice (some ⟨w.heap.size, 0, none⟩) (flen k) (flen k))) wr) := ⟨_, _, rfl, hat.below, hat.sl (by omega)⟩
        clear hat
        go_wp2_with fail
        go_ret
        exact HE.out
end Go.Proofs.Ytdkcbbhkoibplaa
