/- Several texts in one: XC, XM, XMt, XHt, XO0, XRd. -/
import Derived.Test.YtbnbogdglffkmaaDoorKRd13
import Derived.BigQuiet
import Derived.Test.YtbnbogdglffkmaaDoorKRd14
import Derived.Test.YtbnbogdglffkmaaDoorKRd2
import Derived.Test.YtbnbogdglffkmaaDoorKRd3
import Derived.Test.YtbnbogdglffkmaaDoorKRd16

/-! XC: - eqTerm, eqTermS: two copies of one term are found the same. -/
namespace Go.Proofs.YtbnbogdglffkmaaDoor
open Go.RowKit Go.Deep

set_option maxRecDepth 100000 in
set_option maxHeartbeats 1000000 in
/-- eqTerm out of eqTermS. -/
theorem eqTerm_of (s v : Int) (a a' : Option Addr) (n c c' : Nat) (w : World)
    (hS : ∀ w1, Below w.heap.size w w1 → Calls Tryd.prog 33 #[.slice a n c, .slice a' n c'] w1 fun e w' => e = .returned (.bool true) ∧ Below w1.heap.size w1 w') :
    Calls Tryd.prog 15 #[.agg #[.int .i64 s, .int .i64 v, .slice a n c], .agg #[.int .i64 s, .int .i64 v, .slice a' n c']] w fun e w' => e = .returned (.bool true) ∧ Below w.heap.size w w' := by
  have HS := Lib.hid hS
  clear hS
  have e1 : (s != s) = false := by simp
  have e2 : (v != v) = false := by simp
  go_enter Tryd.func15, Tryd.ntmps15
  go_wp2_with fail
  with_reducible refine (HS.out _ ?_).mono ?_
  · exact (((Below.refl _ _).alloc (Nat.le_refl _) _).alloc (by simp) _)
  rintro e w1 ⟨rfl, hb⟩
  have HB : Hid (Below w.heap.size w w1) := (((Below.refl w.heap.size w).alloc (Nat.le_refl _) _).alloc (by simp) _).trans (hb.mono (by simp; omega))
  clear hb
  go_wp2_with fail
  go_ret
  exact ⟨rfl, HB.out⟩

set_option maxRecDepth 100000 in
set_option maxHeartbeats 1000000 in
theorem eqTermS_any (N : Nat) : ∀ (a a' : Option Addr) (c c' : Nat) (k : Fo) (w : World), Sl w 0 w.heap.size a k → Sl w 0 w.heap.size a' k → fsz k ≤ N → N ≤ 1048576 →
    Calls Tryd.prog 33 #[.slice a (flen k) c, .slice a' (flen k) c'] w fun e w' => e = .returned (.bool true) ∧ Below w.heap.size w w' := by
  induction N using Nat.strongRecOn with
  | _ N ih =>
    intro a a' c c' k w hl hl' hN hN2
    have hfl := flen_le (k := k)
    have IH := Lib.hid ih
    clear ih
    have e0 : ((flen k : Int) != (flen k : Int)) = false := by simp
    go_enter Tryd.func33, Tryd.ntmps33
    go_wp2_with fail
    go_loopw [5] (fun i wr => ∃ j : Nat, j ≤ flen k ∧ i = .int .i64 j ∧ Below w.heap.size w wr) (fun i _ => flen k - (intOf i).toNat)
    case atStart => exact ⟨0, by omega, rfl, Below.refl _ _⟩
    case round =>
      obtain ⟨j, hj, rfl, hbl⟩ := hrel
      have hbs := hbl.size
      by_cases hlt : j < flen k
      · rcases hl with rfl | ⟨b, o, rfl, hrow⟩
        · simp [flen] at hlt
        rcases hl' with rfl | ⟨b', o', rfl, hrow'⟩
        · simp [flen] at hlt
        obtain ⟨s1, v1, kk, a1, c1, ⟨x, y, hd⟩, _, hbB, hk0, hk1, hk2, hsl⟩ := row_at (hrow.below hbl) hlt
        obtain ⟨s2, v2, kk2, a2, c2, ⟨x2, y2, hd2⟩, _, hbB', hk3, hk4, hk5, hsl2⟩ := row_at (hrow'.below hbl) hlt
        have hdd := hd.symm.trans hd2
        simp only [BT.node.injEq, Prod.mk.injEq] at hdd
        obtain ⟨_, _, ⟨rfl, rfl⟩, rfl, _⟩ := hdd
        have hkN := fsz_kid' hd
        have HS := Lib.hid hsl
        have HS2 := Lib.hid hsl2
        have HBL := Lib.hid hbl
        clear hd hd2 hsl hsl2 hrow hrow' hbl
        have g1 : (0 : Int) ≤ (j : Int) := by omega
        have g2 : (j : Int) < (flen k : Int) := by omega
        have hu0 : ∀ u : After wr.heap.size wr, u.world.cell? ⟨b, o + j * 3, none⟩ = some (.int .i64 s1) := fun u => u.cell (by simp; omega) hk0
        have hu1 : ∀ u : After wr.heap.size wr, u.world.cell? ⟨b, o + j * 3 + 1, none⟩ = some (.int .i64 v1) := fun u => u.cell (by simp; omega) hk1
        have hu2 : ∀ u : After wr.heap.size wr, u.world.cell? ⟨b, o + j * 3 + 2, none⟩ = some (.slice a1 (flen kk) c1) := fun u => u.cell (by simp; omega) hk2
        have hu3 : ∀ u : After wr.heap.size wr, u.world.cell? ⟨b', o' + j * 3, none⟩ = some (.int .i64 s1) := fun u => u.cell (by simp; omega) hk3
        have hu4 : ∀ u : After wr.heap.size wr, u.world.cell? ⟨b', o' + j * 3 + 1, none⟩ = some (.int .i64 v1) := fun u => u.cell (by simp; omega) hk4
        have hu5 : ∀ u : After wr.heap.size wr, u.world.cell? ⟨b', o' + j * 3 + 2, none⟩ = some (.slice a2 (flen kk) c2) := fun u => u.cell (by simp; omega) hk5
        have HCALL : Hid (∀ u : After wr.heap.size wr, Calls Tryd.prog 15 #[.agg #[.int .i64 s1, .int .i64 v1, .slice a1 (flen kk) c1], .agg #[.int .i64 s1, .int .i64 v1, .slice a2 (flen kk) c2]] u.world fun e w' => e = .returned (.bool true) ∧ Below u.world.heap.size u.world w') := fun u => by
          refine eqTerm_of s1 v1 a1 a2 (flen kk) c1 c2 u.world fun w1 hb1 => ?_
          have hu := u.below
          have hus := hu.size
          have h1s := hb1.size
          refine IH.out (fsz kk) (by omega) a1 a2 c1 c2 kk w1 ?_ ?_ (Nat.le_refl _) (by omega)
          · exact ((HS.out.below (hu.mono (by omega))).below (hb1.mono (by omega))).mono (Nat.le_refl _) (by omega)
          · exact ((HS2.out.below (hu.mono (by omega))).below (hb1.mono (by omega))).mono (Nat.le_refl _) (by omega)
        go_wp2_with fail
        refine wp_region_after wr.heap.size (by kernel_rfl) (by kernel_rfl) ?_
        repeat (go_big_quiet_step ((go_at_call 15; exact Calls.after (After.below ‹_›).size (HCALL.out _))))
        refine wpQuiet_nil ?_
        rintro u ⟨⟨_, hu⟩, rfl⟩
        clear hu0 hu1 hu2 hu3 hu4 hu5 hk0 hk1 hk2 hk3 hk4 hk5
        have HB2 := Lib.hid (HBL.out.trans (hu.mono hbs))
        clear hu
        go_wp2_with fail
        go_roundw
        case rel => exact ⟨j + 1, by omega, by go_num, HB2.out⟩
        case measure => simp [intOf]; omega
      · go_wp2_with fail
        go_ret
        exact ⟨rfl, hbl⟩

theorem eqTerm_any {s v : Int} {a a' : Option Addr} {c c' : Nat} {k : Fo} {w : World} (hl : Sl w 0 w.heap.size a k) (hl' : Sl w 0 w.heap.size a' k) (hN : fsz k ≤ 1048576) :
    Calls Tryd.prog 15 #[.agg #[.int .i64 s, .int .i64 v, .slice a (flen k) c], .agg #[.int .i64 s, .int .i64 v, .slice a' (flen k) c']] w fun e w' => e = .returned (.bool true) ∧ Below w.heap.size w w' :=
  eqTerm_of s v a a' (flen k) c c' w fun _ hb => eqTermS_any (fsz k) a a' c c' k _ ((hl.below hb).mono (Nat.le_refl _) hb.size) ((hl'.below hb).mono (Nat.le_refl _) hb.size) (Nat.le_refl _) hN
end Go.Proofs.YtbnbogdglffkmaaDoor

/-! XM: markTermS, markTerm: numbers written over a tree of one's own. -/
namespace Go.Proofs.YtbnbogdglffkmaaDoor
open Go.RowKit Go.Deep

theorem ShS.marked {w w' : World} {lo B : Nat} {a : Option Addr} {k : Fo} (hm : Marked lo B w w') (h : ShS w lo B a k) : ShS w' lo B a k := by
  rcases h with h | ⟨b, e, h⟩
  · exact .inl h
  · exact .inr ⟨b, e, h.marked hm k b 0 rfl⟩

set_option maxRecDepth 100000 in
set_option maxHeartbeats 1000000 in
theorem markTermS_any (N : Nat) : ∀ (a : Option Addr) (c : Nat) (k : Fo) (lo B : Nat) (m : Int) (w : World), ShS w lo B a k → fsz k ≤ N → N ≤ 1048576 → 0 ≤ m → m + 2 * (fsz k : Int) ≤ 10000000 → lo ≤ w.heap.size → B ≤ w.heap.size →
    Calls Tryd.prog 34 #[.slice a (flen k) c, .int .i64 m] w fun e w' => e = .returned (.int .i64 (m + 2 * (fsz k : Int))) ∧ Marked lo B w w' := by
  induction N using Nat.strongRecOn with
  | _ N ih =>
    intro a c k lo B m w hl hN hN2 hm0 hm1 hlo hB
    have hfl := flen_le (k := k)
    have IH := Lib.hid ih
    have HL := Lib.hid hl
    clear ih hl
    go_enter Tryd.func34, Tryd.ntmps34
    go_wp2_with fail
    go_loopw [1, 5] (fun t i wr => ∃ (j : Nat) (l : Int), j ≤ flen k ∧ i = .int .i64 j ∧ t = .int .i64 l ∧ 0 ≤ l ∧ l + 2 * (fsz (fdrop j k) : Int) = m + 2 * (fsz k : Int) ∧ Marked lo B w wr) (fun _ i _ => flen k - (intOf i).toNat)
    case atStart => exact ⟨0, m, by omega, rfl, rfl, hm0, by simp [fdrop], Marked.refl _ _ _⟩
    case round =>
      obtain ⟨j, l, hj, rfl, rfl, hl0, hl1, hmk⟩ := hrel
      have hbs := hmk.below.size
      by_cases hlt : j < flen k
      · obtain ⟨x, y, s', v', kk, hd⟩ := fdrop_succ j k hlt
        have hsh : ∃ b, a = some ⟨b, 0, none⟩ ∧ Sh wr lo B (fdrop j k) b (0 + j * 3) := by
          rcases HL.out.marked hmk with h | ⟨b, e, h⟩
          · rw [h] at hlt; simp [flen] at hlt
          · exact ⟨b, e, h.drop j k b 0⟩
        obtain ⟨b, rfl, hsh⟩ := hsh
        rw [hd, Nat.zero_add] at hsh
        obtain ⟨h1, h2, ⟨x0, hx⟩, ⟨y0, hy⟩, f0, f1, ⟨a', c', hc, hk⟩, _⟩ := hsh
        have hkN := fsz_kid' hd
        rw [hd] at hl1
        simp only [fsz] at hl1
        have hm2 := Marked.set (lo := lo) (B := B) h1 h2 (by omega) hx l
        have hb1 : (wr.setCell ⟨b, j * 3, none⟩ (.int .i64 l)).cell? ⟨b, j * 3 + 1, none⟩ = some (.int .i64 y0) := by rw [World.cell?_setCell_other _ _ _ _ (by intro e; have := congrArg Addr.off e; simp at this)]; exact hy
        have hb2 : (wr.setCell ⟨b, j * 3, none⟩ (.int .i64 l)).frozen? ⟨b, j * 3 + 1, none⟩ = false := by rw [World.frozen?_setCell]; exact f1
        have hm3 := Marked.set (lo := lo) (B := B) h1 h2 (by omega) hb1 (l + 1)
        have hb3 : ((wr.setCell ⟨b, j * 3, none⟩ (.int .i64 l)).setCell ⟨b, j * 3 + 1, none⟩ (.int .i64 (l + 1))).cell? ⟨b, j * 3 + 2, none⟩ = some (.slice a' (flen kk) c') := by rw [World.cell?_setCell_other _ _ _ _ (by intro e; have := congrArg Addr.off e; simp at this), World.cell?_setCell_other _ _ _ _ (by intro e; have := congrArg Addr.off e; simp at this)]; exact hc
        have HM3 := Lib.hid (hmk.trans (hm2.trans hm3))
        have HS3 : Hid (ShS ((wr.setCell ⟨b, j * 3, none⟩ (.int .i64 l)).setCell ⟨b, j * 3 + 1, none⟩ (.int .i64 (l + 1))) lo B a' kk) := ShS.marked (hm2.trans hm3) hk
        have g1 : (0 : Int) ≤ (j : Int) := by omega
        have g2 : (j : Int) < (flen k : Int) := by omega
        clear hm2 hm3 hk hd hc hy hmk
        go_wp2_with fail
        with_reducible refine (IH.out (fsz kk) (by omega) a' c' kk lo B (l + 1 + 1) _ HS3.out (Nat.le_refl _) (by omega) (by omega) (by omega) (by simp; omega) (by simp; omega)).mono ?_
        rintro e w2 ⟨rfl, hmk2⟩
        have HM4 := Lib.hid (HM3.out.trans hmk2)
        clear hmk2 hx hb1 hb2 hb3 f0 f1
        go_wp2_with fail
        go_roundw
        case rel => exact ⟨j + 1, _, by omega, by go_num, rfl, by omega, by omega, HM4.out⟩
        case measure => simp [intOf]; omega
      · have HE : Hid (l = m + 2 * (fsz k : Int)) := by
          rw [fdrop_all (by omega)] at hl1
          simp [fsz] at hl1
          unfold Hid
          omega
        have HMK := Lib.hid hmk
        clear hmk
        go_wp2_with fail
        go_ret
        exact ⟨by rw [← HE.out]; rfl, HMK.out⟩

set_option maxRecDepth 100000 in
set_option maxHeartbeats 1000000 in
theorem markTerm_any (s v : Int) (a : Option Addr) (c : Nat) (k : Fo) (lo B : Nat) (m : Int) (w : World) (hl : ShS w lo B a k) (hN : fsz k ≤ 1048576) (hm0 : 0 ≤ m) (hm1 : m + 2 * (fsz k : Int) ≤ 10000000) (hlo : lo ≤ w.heap.size) (hB : B ≤ w.heap.size) :
    Calls Tryd.prog 16 #[.agg #[.int .i64 s, .int .i64 v, .slice a (flen k) c], .int .i64 m] w fun e w' => e = .returned (.int .i64 (m + 2 * (fsz k : Int))) ∧ Marked lo B w w' := by
  have HM0 : Hid (Marked lo B w (w.alloc (.cells #[.int .i64 s, .int .i64 v, .slice a (flen k) c] 25))) := (Marked.refl lo B w).more ((Below.refl _ _).alloc (Nat.le_refl _) _) hB hlo
  have HS : Hid (ShS (w.alloc (.cells #[.int .i64 s, .int .i64 v, .slice a (flen k) c] 25)) lo B a k) := hl.marked HM0.out
  clear hl
  go_enter Tryd.func16, Tryd.ntmps16
  go_wp2_with fail
  with_reducible refine (markTermS_any (fsz k) a c k lo B m _ HS.out (Nat.le_refl _) hN hm0 hm1 (by simp; omega) (by simp; omega)).mono ?_
  rintro e w2 ⟨rfl, hmk2⟩
  have HM2 := Lib.hid (HM0.out.trans hmk2)
  clear hmk2
  go_wp2_with fail
  go_ret
  exact ⟨rfl, HM2.out⟩
end Go.Proofs.YtbnbogdglffkmaaDoor

/-! XMt: markTermS and heldTermS on a tree of one's own: what is marked is held. -/
namespace Go.Proofs.YtbnbogdglffkmaaDoor
open Go.RowKit Go.Deep

/-- What holds at the head of markTermS's loop: the first j kids are marked, the others are as they were. -/
structure MkAt (w : World) (lo B b : Nat) (k : Fo) (Ls : Nat → Nat) (m : Int) (j : Nat) (wr : World) : Prop where
  marked : Marked lo B w wr
  done : ∀ i, i < j → HdAt wr (Ls i) (Ls (i + 1)) k b 0 m i
  todo : ∀ i, j ≤ i → i < flen k → TrAt wr k b 0 Ls i

theorem MkAt.step {w wr w2 : World} {lo B b : Nat} {k : Fo} {Ls : Nat → Nat} {m : Int} {j x y : Nat} {s v : Int} {kk : Fo} {a : Option Addr} {c : Nat} (h : MkAt w lo B b k Ls m j wr) (hj : j < flen k) (hLs : ∀ i, i < flen k → Ls i ≤ Ls (i + 1)) (hLB : Ls (flen k) ≤ B) (hB : B ≤ w.heap.size)
    (hlo : lo ≤ b) (hb : b < Ls 0) (hd : fdrop j k = .node x y (s, v) kk (fdrop (j + 1) k)) (hc2 : wr.cell? ⟨b, j * 3 + 2, none⟩ = some (.slice a (flen kk) c)) {u u' : Value} (hu : wr.cell? ⟨b, j * 3, none⟩ = some u) (hu' : wr.cell? ⟨b, j * 3 + 1, none⟩ = some u')
    (hmk : Marked (Ls j) (Ls (j + 1)) ((wr.setCell ⟨b, j * 3, none⟩ (.int .i64 (cnt k m j))).setCell ⟨b, j * 3 + 1, none⟩ (.int .i64 (cnt k m j + 1))) w2) (hhd : HdS w2 (Ls j) (Ls (j + 1)) a kk (cnt k m j + 2)) : MkAt w lo B b k Ls m (j + 1) w2 := by
  have hmono : ∀ i i', i ≤ i' → i' ≤ flen k → Ls i ≤ Ls i' := fun i i' h1 h2 => by
    have := Ls_mono hLs (i' - i) i (by omega)
    rwa [show i + (i' - i) = i' from by omega] at this
  have h0j := hmono 0 j (Nat.zero_le _) (by omega)
  have hjj := hLs j hj
  have hjn := hmono (j + 1) (flen k) (by omega) (Nat.le_refl _)
  have hwr : w.heap.size ≤ wr.heap.size := h.marked.below.size
  have hbB : b < B := by omega
  -- other blocks
  have hsame : ∀ q, q ≠ b → (q < Ls j ∨ Ls (j + 1) ≤ q) → q < wr.heap.size → w2.heap[q]? = wr.heap[q]? := fun q h1 h2 h3 => by
    have e : ((wr.setCell ⟨b, j * 3, none⟩ (.int .i64 (cnt k m j))).setCell ⟨b, j * 3 + 1, none⟩ (.int .i64 (cnt k m j + 1))).heap[q]? = wr.heap[q]? := by
      rw [Below.heap_setCell _ _ _ _ (fun e => h1 (by simpa using e)), Below.heap_setCell _ _ _ _ (fun e => h1 (by simpa using e))]
    rcases h2 with h2 | h2
    · rw [hmk.below.block q h2, e]
    · rw [hmk.far q h2 (by simpa using h3), e]
  -- the row's own cells
  have hcell : ∀ o, o ≠ j * 3 → o ≠ j * 3 + 1 → w2.cell? ⟨b, o, none⟩ = wr.cell? ⟨b, o, none⟩ := fun o h1 h2 => by
    rw [hmk.below.cell (by simp; omega), World.cell?_setCell_other _ _ _ _ (ne_offT (by omega)), World.cell?_setCell_other _ _ _ _ (ne_offT (by omega))]
  have hfro : ∀ o, w2.frozen? ⟨b, o, none⟩ = wr.frozen? ⟨b, o, none⟩ := fun o => by
    rw [hmk.below.frozen (by simp; omega), World.frozen?_setCell, World.frozen?_setCell]
  refine ⟨?_, fun i hi => ?_, fun i h1 h2 => ?_⟩
  · have m1 := Marked.set (lo := lo) (B := B) hlo hbB (by omega) hu (cnt k m j)
    have m2 := Marked.set (lo := lo) (B := B) (w := wr.setCell ⟨b, j * 3, none⟩ (.int .i64 (cnt k m j))) (o := j * 3 + 1) hlo hbB (by omega) (by rw [World.cell?_setCell_other _ _ _ _ (ne_offT (by omega))]; exact hu') (cnt k m j + 1)
    exact h.marked.trans (m1.trans (m2.trans (hmk.mono (by omega) (by omega) (by simp; omega))))
  · by_cases hij : i = j
    · subst hij
      refine ⟨x, y, s, v, kk, a, c, hd, ?_, ?_, ?_, hhd⟩
      · rw [Nat.zero_add, hmk.below.cell (by simp; omega), World.cell?_setCell_other _ _ _ _ (ne_offT (by omega))]
        exact World.cell?_setCell_same _ _ _ hu
      · rw [Nat.zero_add, hmk.below.cell (by simp; omega)]
        exact World.cell?_setCell_same _ _ _ (by rw [World.cell?_setCell_other _ _ _ _ (ne_offT (by omega))]; exact hu')
      · rw [Nat.zero_add, hcell _ (by omega) (by omega)]; exact hc2
    · obtain ⟨x', y', s', v', kk', a', c', e, d1, d2, d3, d4⟩ := h.done i (by omega)
      have g1 := hmono 0 i (Nat.zero_le _) (by omega)
      have g2 := hmono (i + 1) j (by omega) (by omega)
      refine ⟨x', y', s', v', kk', a', c', e, ?_, ?_, ?_, d4.same fun q q1 q2 => hsame q (by omega) (.inl (by omega)) (by omega)⟩
      · rw [Nat.zero_add] at d1 ⊢; rw [hcell _ (by omega) (by omega)]; exact d1
      · rw [Nat.zero_add] at d2 ⊢; rw [hcell _ (by omega) (by omega)]; exact d2
      · rw [Nat.zero_add] at d3 ⊢; rw [hcell _ (by omega) (by omega)]; exact d3
  · obtain ⟨x', y', s', v', kk', a', c', e, d1, d2, d3, d4, d5, d6⟩ := h.todo i (by omega) h2
    have g1 := hmono 0 i (Nat.zero_le _) (by omega)
    have g2 := hmono (j + 1) i (by omega) (by omega)
    have g3 := hmono (i + 1) (flen k) (by omega) (Nat.le_refl _)
    rw [Nat.zero_add] at d1 d2 d3 d4 d5
    refine ⟨x', y', s', v', kk', a', c', e, ?_, ?_, ?_, ?_, ?_, d6.same fun q q1 q2 => hsame q (by omega) (.inr (by omega)) (by omega)⟩
    · rw [Nat.zero_add, hcell _ (by omega) (by omega)]; exact d1
    · rw [Nat.zero_add, hcell _ (by omega) (by omega)]; exact d2
    · rw [Nat.zero_add, hfro]; exact d3
    · rw [Nat.zero_add, hfro]; exact d4
    · rw [Nat.zero_add, hcell _ (by omega) (by omega)]; exact d5

set_option maxRecDepth 100000 in
set_option maxHeartbeats 1000000 in
theorem markTree_any (N : Nat) : ∀ (a : Option Addr) (c : Nat) (k : Fo) (lo B : Nat) (m : Int) (w : World), TrS w lo B a k → fsz k ≤ N → N ≤ 1048576 → 0 ≤ m → m + 2 * (fsz k : Int) ≤ 10000000 → lo ≤ B → B ≤ w.heap.size →
    Calls Tryd.prog 34 #[.slice a (flen k) c, .int .i64 m] w fun e w' => e = .returned (.int .i64 (m + 2 * (fsz k : Int))) ∧ Marked lo B w w' ∧ HdS w' lo B a k m := by
  induction N using Nat.strongRecOn with
  | _ N ih =>
    intro a c k lo B m w hl hN hN2 hm0 hm1 hlo hB
    have hfl := flen_le (k := k)
    have IH := Lib.hid ih
    clear ih
    rcases hl with rfl | ⟨b, rfl, hb1, hb2, htr⟩
    · simp only [flen, fsz]
      go_enter Tryd.func34, Tryd.ntmps34
      go_wp2_with fail
      go_loopw [1, 5] (fun t i wr => i = .int .i64 0 ∧ t = .int .i64 m ∧ wr = w) (fun _ _ _ => 0)
      case atStart => exact ⟨rfl, rfl, rfl⟩
      case round =>
        obtain ⟨rfl, rfl, rfl⟩ := hrel
        go_wp2_with fail
        go_ret
        exact ⟨by simp, Marked.refl _ _ _, .inl rfl⟩
    · obtain ⟨Ls, hL0, hLs, hLB, _, hall⟩ := htr.at
      have HLS := Lib.hid hLs
      have HST : Hid (MkAt w lo B b k Ls m 0 w) := ⟨Marked.refl _ _ _, fun i hi => by omega, fun i _ hi => hall i hi⟩
      have hb0 : b < Ls 0 := by omega
      clear hLs hall htr
      go_enter Tryd.func34, Tryd.ntmps34
      go_wp2_with fail
      go_loopw [1, 5] (fun t i wr => ∃ j : Nat, j ≤ flen k ∧ i = .int .i64 j ∧ t = .int .i64 (cnt k m j) ∧ MkAt w lo B b k Ls m j wr) (fun _ i _ => flen k - (intOf i).toNat)
      case atStart => exact ⟨0, by omega, rfl, by simp [cnt, fdrop], HST.out⟩
      case round =>
        clear HST
        obtain ⟨j, hj, rfl, rfl, hat⟩ := hrel
        by_cases hlt : j < flen k
        · obtain ⟨x, y, s', v', kk, a', c', hd, ⟨z, hx⟩, ⟨z', hy⟩, f0, f1, hc, hk⟩ := hat.todo j (Nat.le_refl _) hlt
          rw [Nat.zero_add] at hx hy f0 f1 hc
          have hkN := fsz_kid' hd
          have hdr := fsz_drop' j k
          have hLj := HLS.out j hlt
          have h0j : Ls 0 ≤ Ls j := by have := Ls_mono HLS.out j 0 (by omega); rwa [Nat.zero_add] at this
          have hjn : Ls (j + 1) ≤ Ls (flen k) := by have := Ls_mono HLS.out (flen k - (j + 1)) (j + 1) (by omega); rwa [show j + 1 + (flen k - (j + 1)) = flen k from by omega] at this
          have hwr := hat.marked.below.size
          have hcn : cnt k m (j + 1) = cnt k m j + 2 + 2 * (fsz kk : Int) := by
            unfold cnt
            rw [hd]
            simp only [fsz]
            push_cast
            omega
          have hc0 : 0 ≤ cnt k m j := by unfold cnt; omega
          have hc1 : cnt k m j + 2 + 2 * (fsz kk : Int) ≤ 10000000 := by
            rw [← hcn]
            have := fsz_drop' (j + 1) k
            unfold cnt
            omega
          have HCN := Lib.hid hcn
          have HSTEP : Hid (∀ w2, Marked (Ls j) (Ls (j + 1)) ((wr.setCell ⟨b, j * 3, none⟩ (.int .i64 (cnt k m j))).setCell ⟨b, j * 3 + 1, none⟩ (.int .i64 (cnt k m j + 1))) w2 → HdS w2 (Ls j) (Ls (j + 1)) a' kk (cnt k m j + 2) → MkAt w lo B b k Ls m (j + 1) w2) := fun w2 h1 h2 => hat.step hlt HLS.out hLB hB hb1 hb0 hd hc hx hy h1 h2
          have HK2 : Hid (TrS ((wr.setCell ⟨b, j * 3, none⟩ (.int .i64 (cnt k m j))).setCell ⟨b, j * 3 + 1, none⟩ (.int .i64 (cnt k m j + 1))) (Ls j) (Ls (j + 1)) a' kk) :=
            hk.same ((Same.setCell (fun _ _ _ => rfl) (.inl (by simp; omega)) _).setCell (.inl (by simp; omega)) _)
          have hb1' : (wr.setCell ⟨b, j * 3, none⟩ (.int .i64 (cnt k m j))).cell? ⟨b, j * 3 + 1, none⟩ = some (.int .i64 z') := by rw [World.cell?_setCell_other _ _ _ _ (ne_offT (by omega))]; exact hy
          have hb2' : (wr.setCell ⟨b, j * 3, none⟩ (.int .i64 (cnt k m j))).frozen? ⟨b, j * 3 + 1, none⟩ = false := by rw [World.frozen?_setCell]; exact f1
          have hb3' : ((wr.setCell ⟨b, j * 3, none⟩ (.int .i64 (cnt k m j))).setCell ⟨b, j * 3 + 1, none⟩ (.int .i64 (cnt k m j + 1))).cell? ⟨b, j * 3 + 2, none⟩ = some (.slice a' (flen kk) c') := by rw [World.cell?_setCell_other _ _ _ _ (ne_offT (by omega)), World.cell?_setCell_other _ _ _ _ (ne_offT (by omega))]; exact hc
          have g1 : (0 : Int) ≤ (j : Int) := by omega
          have g2 : (j : Int) < (flen k : Int) := by omega
          have HX : Hid (∃ z, z = cnt k m j) := ⟨_, rfl⟩
          clear hd hk hat hcn hc hy
          generalize cnt k m j = l at *
          go_wp2_with fail
          with_reducible refine (IH.out (fsz kk) (by omega) a' c' kk (Ls j) (Ls (j + 1)) (l + 1 + 1) _ HK2.out (Nat.le_refl _) (by omega) (by omega) (by omega) hLj (by simp; omega)).mono ?_
          rintro e w2 ⟨rfl, hmk2, hhd2⟩
          have e2 : l + 1 + 1 = l + 2 := by omega
          rw [e2] at hhd2
          have HM4 := Lib.hid (HSTEP.out w2 hmk2 hhd2)
          clear hmk2 hhd2 hx hb1' hb2' hb3' f0 f1 HSTEP
          go_wp2_with fail
          go_roundw
          case rel => exact ⟨j + 1, by omega, by go_num, by rw [HCN.out], HM4.out⟩
          case measure => simp [intOf]; omega
        · have hje : j = flen k := by omega
          subst hje
          have HE : Hid (cnt k m (flen k) = m + 2 * (fsz k : Int)) := by
            unfold Hid cnt
            rw [fdrop_all (Nat.le_refl _)]
            simp [fsz]
          have HF : Hid (HdS wr lo B (some ⟨b, 0, none⟩) k m) := .inr ⟨b, rfl, hd_of_all k b 0 m hb1 hb2 fun i hi => by
            obtain ⟨x', y', s', v', kk', a', c', e, d1, d2, d3, d4⟩ := hat.done i hi
            have q1 : Ls 0 ≤ Ls i := by have := Ls_mono HLS.out i 0 (by omega); rwa [Nat.zero_add] at this
            have q2 : Ls (i + 1) ≤ Ls (flen k) := by have := Ls_mono HLS.out (flen k - (i + 1)) (i + 1) (by omega); rwa [show i + 1 + (flen k - (i + 1)) = flen k from by omega] at this
            exact ⟨x', y', s', v', kk', a', c', e, d1, d2, d3, d4.mono (by omega) (by omega)⟩⟩
          have HMK := Lib.hid hat.marked
          clear hat
          go_wp2_with fail
          go_ret
          exact ⟨by rw [← HE.out]; rfl, HMK.out, HF.out⟩
end Go.Proofs.YtbnbogdglffkmaaDoor

/-! XHt: heldTermS, heldTerm: a tree that counts up is held; markTerm on a tree. -/
namespace Go.Proofs.YtbnbogdglffkmaaDoor
open Go.RowKit Go.Deep

set_option maxRecDepth 100000 in
set_option maxHeartbeats 1000000 in
theorem heldTermS_any (N : Nat) : ∀ (a : Option Addr) (c : Nat) (k : Fo) (lo B : Nat) (m : Int) (w : World), HdS w lo B a k m → fsz k ≤ N → N ≤ 1048576 → 0 ≤ m → m + 2 * (fsz k : Int) ≤ 10000000 → B ≤ w.heap.size →
    Calls Tryd.prog 35 #[.slice a (flen k) c, .int .i64 m] w fun e w' => e = .returned (.int .i64 (m + 2 * (fsz k : Int))) ∧ Below w.heap.size w w' := by
  induction N using Nat.strongRecOn with
  | _ N ih =>
    intro a c k lo B m w hl hN hN2 hm0 hm1 hB
    have hfl := flen_le (k := k)
    have IH := Lib.hid ih
    have HL := Lib.hid hl
    clear ih hl
    go_enter Tryd.func35, Tryd.ntmps35
    go_wp2_with fail
    go_loopw [1, 5] (fun t i wr => ∃ j : Nat, j ≤ flen k ∧ i = .int .i64 j ∧ t = .int .i64 (cnt k m j) ∧ Below w.heap.size w wr) (fun _ i _ => flen k - (intOf i).toNat)
    case atStart => exact ⟨0, by omega, rfl, by simp [cnt, fdrop], Below.refl _ _⟩
    case round =>
      obtain ⟨j, hj, rfl, rfl, hbl⟩ := hrel
      have hbs := hbl.size
      by_cases hlt : j < flen k
      · have hb : ∃ b, a = some ⟨b, 0, none⟩ ∧ HdAt wr lo B k b 0 m j := by
          rcases HL.out.same (Same.of_below (hbl.mono hB)) with h | ⟨b, e, h⟩
          · rw [h] at hlt; simp [flen] at hlt
          · exact ⟨b, e, h.at j hlt⟩
        obtain ⟨b, rfl, x, y, s', v', kk, a', c', hd, hx, hy, hc, hk⟩ := hb
        rw [Nat.zero_add] at hx hy hc
        have hkN := fsz_kid' hd
        have hdr := fsz_drop' j k
        have hcn : cnt k m (j + 1) = cnt k m j + 2 + 2 * (fsz kk : Int) := by
          unfold cnt
          rw [hd]
          simp only [fsz]
          push_cast
          omega
        have hc0 : 0 ≤ cnt k m j := by unfold cnt; omega
        have hc1 : cnt k m j + 2 + 2 * (fsz kk : Int) ≤ 10000000 := by
          rw [← hcn]
          have := fsz_drop' (j + 1) k
          unfold cnt
          omega
        have HCN := Lib.hid hcn
        have HK := Lib.hid hk
        have HBL := Lib.hid hbl
        have g1 : (0 : Int) ≤ (j : Int) := by omega
        have g2 : (j : Int) < (flen k : Int) := by omega
        clear hd hk hcn hbl
        generalize cnt k m j = l at *
        have HK' : Hid (HdS wr lo B a' kk (l + 1 + 1)) := by rw [show l + 1 + 1 = l + 2 from by omega]; exact HK.out
        have x1 : (l != l) = false := by simp
        have x2 : ((l + 1) != (l + 1)) = false := by simp
        have x3 : decide (l + 1 + 1 + 2 * (fsz kk : Int) < 0) = false := decide_eq_false (by omega)
        go_wp2_with fail
        with_reducible refine (IH.out (fsz kk) (by omega) a' c' kk lo B (l + 1 + 1) _ HK'.out (Nat.le_refl _) (by omega) (by omega) (by omega) (by omega)).mono ?_
        rintro e w2 ⟨rfl, hb2⟩
        have HB2 := Lib.hid (HBL.out.trans (hb2.mono hbs))
        clear hb2 hx hy hc
        go_wp2_with fail
        go_roundw
        case rel => exact ⟨j + 1, by omega, by go_num, by rw [HCN.out, show l + 1 + 1 = l + 2 from by omega], HB2.out⟩
        case measure => simp [intOf]; omega
      · have hje : j = flen k := by omega
        subst hje
        have HE : Hid (cnt k m (flen k) = m + 2 * (fsz k : Int)) := by
          unfold Hid cnt
          rw [fdrop_all (Nat.le_refl _)]
          simp [fsz]
        go_wp2_with fail
        go_ret
        exact ⟨by rw [← HE.out]; rfl, hbl⟩

set_option maxRecDepth 100000 in
set_option maxHeartbeats 1000000 in
theorem heldTerm_any (s v : Int) (a : Option Addr) (c : Nat) (k : Fo) (lo B : Nat) (m : Int) (w : World) (hl : HdS w lo B a k m) (hN : fsz k ≤ 1048576) (hm0 : 0 ≤ m) (hm1 : m + 2 * (fsz k : Int) ≤ 10000000) (hB : B ≤ w.heap.size) :
    Calls Tryd.prog 17 #[.agg #[.int .i64 s, .int .i64 v, .slice a (flen k) c], .int .i64 m] w fun e w' => e = .returned (.int .i64 (m + 2 * (fsz k : Int))) ∧ Below w.heap.size w w' := by
  have HB0 : Hid (Below w.heap.size w (w.alloc (.cells #[.int .i64 s, .int .i64 v, .slice a (flen k) c] 25))) := (Below.refl _ _).alloc (Nat.le_refl _) _
  have HS : Hid (HdS (w.alloc (.cells #[.int .i64 s, .int .i64 v, .slice a (flen k) c] 25)) lo B a k m) := hl.same (Same.of_below (HB0.out.mono hB))
  have x3 : decide (m + 2 * (fsz k : Int) < 0) = false := decide_eq_false (by omega)
  clear hl
  go_enter Tryd.func17, Tryd.ntmps17
  go_wp2_with fail
  with_reducible refine (heldTermS_any (fsz k) a c k lo B m _ HS.out (Nat.le_refl _) hN hm0 hm1 (by simp; omega)).mono ?_
  rintro e w2 ⟨rfl, hb2⟩
  have HB2 := Lib.hid (HB0.out.trans (hb2.mono (by simp)))
  clear hb2
  go_wp2_with fail
  go_ret
  exact ⟨rfl, HB2.out⟩

set_option maxRecDepth 100000 in
set_option maxHeartbeats 1000000 in
theorem markTermT_any (s v : Int) (a : Option Addr) (c : Nat) (k : Fo) (lo B : Nat) (m : Int) (w : World) (hl : TrS w lo B a k) (hN : fsz k ≤ 1048576) (hm0 : 0 ≤ m) (hm1 : m + 2 * (fsz k : Int) ≤ 10000000) (hlo : lo ≤ B) (hB : B ≤ w.heap.size) :
    Calls Tryd.prog 16 #[.agg #[.int .i64 s, .int .i64 v, .slice a (flen k) c], .int .i64 m] w fun e w' => e = .returned (.int .i64 (m + 2 * (fsz k : Int))) ∧ Marked lo B w w' ∧ HdS w' lo B a k m := by
  have HM0 : Hid (Marked lo B w (w.alloc (.cells #[.int .i64 s, .int .i64 v, .slice a (flen k) c] 25))) := (Marked.refl lo B w).more ((Below.refl _ _).alloc (Nat.le_refl _) _) hB (by omega)
  have HS : Hid (TrS (w.alloc (.cells #[.int .i64 s, .int .i64 v, .slice a (flen k) c] 25)) lo B a k) := hl.same (Same.of_below ((Below.refl _ _).alloc (by omega) _))
  clear hl
  go_enter Tryd.func16, Tryd.ntmps16
  go_wp2_with fail
  with_reducible refine (markTree_any (fsz k) a c k lo B m _ HS.out (Nat.le_refl _) hN hm0 hm1 hlo (by simp; omega)).mono ?_
  rintro e w2 ⟨rfl, hmk2, hhd2⟩
  have HM2 := Lib.hid (HM0.out.trans hmk2)
  have HH2 := Lib.hid hhd2
  clear hmk2 hhd2
  go_wp2_with fail
  go_ret
  exact ⟨rfl, HM2.out, HH2.out⟩
end Go.Proofs.YtbnbogdglffkmaaDoor

/-! XO0: Small lemmas of the exact laws. -/
namespace Go.Proofs.YtbnbogdglffkmaaDoor
open Go.RowKit Go.Deep

theorem szR_fit {k : Fo} (h : 0 ≤ szR k 1048576) : fsz k ≤ 1048576 := by
  unfold szR at h
  split at h
  · omega
  · omega
theorem cell_lowX {W w2 : World} {q : Addr} {x : Value} (hb : Below W.heap.size W w2) (h : W.cell? q = some x) : w2.cell? q = some x := by
  rw [hb.cell (World.block_lt_of_cell? _ _ h)]; exact h
end Go.Proofs.YtbnbogdglffkmaaDoor

/-! XRd: For every text, laws.FnExactTermRead answers true and writes nothing that was there. -/
namespace Go.Proofs.YtbnbogdglffkmaaDoor
open Go.RowKit Go.Deep

theorem rdA_sz {l : List UInt8} {s v : Int} {k : Fo} {t : Bool} (h : rdA l = (s, v, k, t)) : fsz k ≤ 15 := by
  unfold rdA at h
  split at h
  · rename_i s2 v2 k2 hr
    simp only [Prod.mk.injEq] at h
    obtain ⟨_, _, rfl, _⟩ := h
    have := ((okW_iff _ _ _ _).1 (rdR_some hr).1).2.2
    omega
  · simp only [Prod.mk.injEq] at h
    obtain ⟨_, _, rfl, _⟩ := h
    simp [fsz]

set_option maxRecDepth 100000 in
set_option maxHeartbeats 2000000 in
theorem exactRead_walk (l : List UInt8) (w : World) (hm : l.length ≤ maxLen) (hE : ErrAt w w.heap.size) :
    Calls Tryd.prog 5 #[.string (str l)] w fun e w' => e = .returned (.bool true) ∧ Below w.heap.size w w' := by
  have hz := str_size l
  unfold maxLen at hm
  by_cases hbig : 1048576 < l.length
  · have e0 : decide ((1048576 : Int) < (l.length : Int)) = true := decide_eq_true (by omega)
    go_enter Tryd.func5, Tryd.ntmps5
    go_wp2_with fail
    go_ret
    exact ⟨rfl, Below.refl _ _⟩
  have e0 : decide ((1048576 : Int) < (l.length : Int)) = false := decide_eq_false (by omega)
  have HLEN : Hid (l.length ≤ 1048576) := Nat.le_of_not_lt hbig
  have HE := Lib.hid hE
  clear hm hE hbig
  go_enter Tryd.func5, Tryd.ntmps5
  go_wp2_with fail
  with_reducible refine (sTermRead_any l _ HLEN.out).mono ?_
  rintro e w2 ⟨a2, c2, s, v, k, t, hR, rfl, hb2, hl2⟩
  have HR := Lib.hid hR
  have hk' := rdA_sz hR
  have hs2 := hb2.size
  have hb2' := hb2.alloc hs2 (.cells #[.int .i64 s, .int .i64 v, .slice a2 (flen k) c2] 25)
  have HB2 := Lib.hid hb2'
  have HW2 : Hid (Below (w2.heap.size + 1) (w2.alloc (.cells #[.int .i64 s, .int .i64 v, .slice a2 (flen k) c2] 25)) (w2.alloc (.cells #[.int .i64 s, .int .i64 v, .slice a2 (flen k) c2] 25))) := Below.refl _ _
  have HLW : Hid (Sl (w2.alloc (.cells #[.int .i64 s, .int .i64 v, .slice a2 (flen k) c2] 25)) 0 w2.heap.size a2 k) := (hl2.below ((Below.refl _ _).alloc (Nat.le_refl _) _)).mono (Nat.zero_le _) (Nat.le_refl _)
  have hE2 : ErrAt (w2.alloc (.cells #[.int .i64 s, .int .i64 v, .slice a2 (flen k) c2] 25)) (w2.alloc (.cells #[.int .i64 s, .int .i64 v, .slice a2 (flen k) c2] 25)).heap.size := (HE.out.same (Same.of_below hb2')).mono (by simp; omega)
  have HE2 := Lib.hid hE2
  clear hb2 hb2' hl2 hR hE2
  go_wp2_with fail
  with_reducible refine (iTermReadT_any l _ HLEN.out HE2.out).mono ?_
  rintro e w7 ⟨a7, c7, s7, v7, k7, t7, hR7, rfl, hb7, hl7⟩
  rw [HR.out] at hR7
  simp only [Prod.mk.injEq] at hR7
  obtain ⟨rfl, rfl, rfl, rfl⟩ := hR7
  have hs7 := hb7.size
  simp at hs7
  have hb7' := hb7.alloc hb7.size (.cells #[.int .i64 s, .int .i64 v, .slice a7 (flen k) c7] 25)
  have HB7 := Lib.hid (HB2.out.trans (hb7'.mono (by simp; omega)))
  have HW7 := Lib.hid (HW2.out.trans (hb7'.mono (by simp)))
  have HG7 : Hid (Below (w7.heap.size + 1) (w7.alloc (.cells #[.int .i64 s, .int .i64 v, .slice a7 (flen k) c7] 25)) (w7.alloc (.cells #[.int .i64 s, .int .i64 v, .slice a7 (flen k) c7] 25))) := Below.refl _ _
  have HTG7 : Hid (TX (w7.alloc (.cells #[.int .i64 s, .int .i64 v, .slice a7 (flen k) c7] 25)) (w2.heap.size + 1) w7.heap.size a7 k) := (hl7.same (Same.of_below ((Below.refl _ _).alloc (Nat.le_refl _) _))).mono (by simp) (Nat.le_refl _)
  have HTG7s : Hid (Sl (w7.alloc (.cells #[.int .i64 s, .int .i64 v, .slice a7 (flen k) c7] 25)) 0 (w7.alloc (.cells #[.int .i64 s, .int .i64 v, .slice a7 (flen k) c7] 25)).heap.size a7 k) := HTG7.out.1.mono (Nat.zero_le _) (by simp)
  clear hb7 hb7' hl7
  obtain ⟨hw0, hw1, hw2⟩ := box_cells ⟨_, HW7.out⟩
  dsimp only at hw0 hw1 hw2
  obtain ⟨hz0, hz1, hz2⟩ := box_cells ⟨_, HG7.out⟩
  dsimp only at hz0 hz1 hz2
  have et : (t != t) = false := by simp
  go_wp2_with fail
  with_reducible refine (eqTerm_any (k := k) HTG7s.out ((HLW.out.below (HW7.out.mono (by omega))).mono (Nat.le_refl _) (by simp; omega)) (by omega)).mono ?_
  rintro e w15 ⟨rfl, hb15⟩
  have hs15 := hb15.size
  simp at hs15
  have HB15 := Lib.hid (HB7.out.trans (hb15.mono (by simp; omega)))
  have HW15 := Lib.hid (HW7.out.trans (hb15.mono (by simp; omega)))
  have HTG15 := Lib.hid (HTG7.out.same (Same.of_below (hb15.mono (by simp))))
  have HTG15s := Lib.hid HTG15.out.2
  have hy0 := cell_lowX hb15 hz0
  have hy1 := cell_lowX hb15 hz1
  have hy2 := cell_lowX hb15 hz2
  clear hb15 hz0 hz1 hz2 hw0 hw1 hw2
  go_wp2_with fail
  with_reducible refine (markTermT_any s v a7 c7 k (w2.heap.size + 1) w7.heap.size 1 _ HTG15s.out (by omega) (by omega) (by omega) (by omega) (by omega)).mono ?_
  rintro e w16 ⟨rfl, hmk, hhd⟩
  have hs16 := hmk.below.size
  have hfar : Same w7.heap.size w15.heap.size w15 w16 := fun b h1 h2 => hmk.far b h1 h2
  have HB16 := Lib.hid (HB15.out.trans (hmk.below.mono (by omega)))
  have HW16 := Lib.hid (HW15.out.trans (hmk.below.mono (by omega)))
  have HHD16 := Lib.hid hhd
  have hz0 : w16.cell? ⟨w7.heap.size, 0, none⟩ = some (.int .i64 s) := by rw [hfar.cell (by simp) (by simp; omega)]; exact hy0
  have hz1 : w16.cell? ⟨w7.heap.size, 1, none⟩ = some (.int .i64 v) := by rw [hfar.cell (by simp) (by simp; omega)]; exact hy1
  have hz2 : w16.cell? ⟨w7.heap.size, 2, none⟩ = some (.slice a7 (flen k) c7) := by rw [hfar.cell (by simp) (by simp; omega)]; exact hy2
  have e2 : decide (1 + 2 * (fsz k : Int) < 0) = false := decide_eq_false (by omega)
  have e3 : ((1 + 2 * (fsz k : Int)) != (1 + 2 * (fsz k : Int))) = false := by simp
  clear hmk hhd hfar hy0 hy1 hy2
  go_wp2_with fail
  with_reducible refine (heldTerm_any s v a7 c7 k (w2.heap.size + 1) w7.heap.size 1 _ HHD16.out (by omega) (by omega) (by omega) (by omega)).mono ?_
  rintro e w17 ⟨rfl, hb17⟩
  have hs17 := hb17.size
  have HB17 := Lib.hid (HB16.out.trans (hb17.mono (by omega)))
  have HW17 := Lib.hid (HW16.out.trans (hb17.mono (by omega)))
  have HHD17 := Lib.hid (HHD16.out.same (Same.of_below (hb17.mono (by omega))))
  have hy0 := cell_lowX hb17 hz0
  have hy1 := cell_lowX hb17 hz1
  have hy2 := cell_lowX hb17 hz2
  have HE17 : Hid (ErrAt w17 w17.heap.size) := (HE.out.same (Same.of_below HB17.out)).mono HB17.out.size
  clear hb17 hz0 hz1 hz2
  go_wp2_with fail
  with_reducible refine (iTermReadT_any l _ HLEN.out HE17.out).mono ?_
  rintro e w20 ⟨a20, c20, s20, v20, k20, t20, hR20, rfl, hb20, hl20⟩
  rw [HR.out] at hR20
  simp only [Prod.mk.injEq] at hR20
  obtain ⟨rfl, rfl, rfl, rfl⟩ := hR20
  have hs20 := hb20.size
  have hb21 : Below w17.heap.size w17 (w20.alloc (.cells #[.int .i64 s, .int .i64 v, .slice a20 (flen k) c20] 25)) := hb20.alloc (by omega) _
  have HB20 := Lib.hid (HB17.out.trans (hb21.mono (by omega)))
  have HW20 := Lib.hid (HW17.out.trans (hb21.mono (by omega)))
  have HHD20 := Lib.hid (HHD17.out.same (Same.of_below (hb21.mono (by omega))))
  have hz0 := cell_lowX hb21 hy0
  have hz1 := cell_lowX hb21 hy1
  have hz2 := cell_lowX hb21 hy2
  have HLH : Hid (Sl (w20.alloc (.cells #[.int .i64 s, .int .i64 v, .slice a20 (flen k) c20] 25)) 0 (w20.alloc (.cells #[.int .i64 s, .int .i64 v, .slice a20 (flen k) c20] 25)).heap.size a20 k) := (hl20.1.below ((Below.refl _ _).alloc (Nat.le_refl _) _)).mono (Nat.zero_le _) (by simp)
  clear hb20 hl20 hb21 hy0 hy1 hy2
  obtain ⟨hw0, hw1, hw2⟩ := box_cells ⟨_, HW20.out⟩
  dsimp only at hw0 hw1 hw2
  go_wp2_with fail
  with_reducible refine (eqTerm_any (k := k) HLH.out ((HLW.out.below (HW20.out.mono (by omega))).mono (Nat.le_refl _) (by simp; omega)) (by omega)).mono ?_
  rintro e w21 ⟨rfl, hb21⟩
  have hs21 := hb21.size
  simp at hs21
  have HB21 := Lib.hid (HB20.out.trans (hb21.mono (by simp; omega)))
  have HHD21 := Lib.hid (HHD20.out.same (Same.of_below (hb21.mono (by simp; omega))))
  have hy0 := cell_lowX hb21 hz0
  have hy1 := cell_lowX hb21 hz1
  have hy2 := cell_lowX hb21 hz2
  clear hb21 hz0 hz1 hz2 hw0 hw1 hw2
  go_wp2_with fail
  with_reducible refine (heldTerm_any s v a7 c7 k (w2.heap.size + 1) w7.heap.size 1 _ HHD21.out (by omega) (by omega) (by omega) (by omega)).mono ?_
  rintro e w22 ⟨rfl, hb22⟩
  have HB22 := Lib.hid (HB21.out.trans (hb22.mono (by omega)))
  clear hb22 hy0 hy1 hy2
  go_wp2_with fail
  go_ret
  exact ⟨rfl, HB22.out⟩
end Go.Proofs.YtbnbogdglffkmaaDoor
