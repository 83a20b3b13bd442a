/- eqTerm, eqTermS: two copies of one term are found the same. -/
import Derived.Test.YthbakmdcepoikaaXB
import Derived.BigQuiet
namespace Go.Proofs.Ythbakmdcepoikaa
open Go.RowKit Go.Deep

set_option maxRecDepth 100000 in
set_option maxHeartbeats 1000000 in
/-- eqTerm out of eqTermS. -/
theorem eqTerm_of (s v : Int) (a a' : Option Addr) (n c c' : Nat) (w : World)
    (hS : ∀ w1, Below w.heap.size w w1 → Calls Try.prog 25 #[.slice a n c, .slice a' n c'] w1 fun e w' => e = .returned (.bool true) ∧ Below w1.heap.size w1 w') :
    Calls Try.prog 12 #[.agg #[.int .i64 s, .int .i64 v, .slice a n c], .agg #[.int .i64 s, .int .i64 v, .slice a' n c']] w fun e w' => e = .returned (.bool true) ∧ Below w.heap.size w w' := by
  have HS := Lib.hid hS
  clear hS
  have e1 : (s != s) = false := by simp
  have e2 : (v != v) = false := by simp
  go_enter Try.func12, Try.ntmps12
  go_wp2_with fail
  with_reducible refine (HS.out _ ?_).mono ?_
  · exact (((Below.refl _ _).alloc (Nat.le_refl _) _).alloc (by simp) _)
  rintro e w1 ⟨rfl, hb⟩
  have HB : Hid (Below w.heap.size w w1) := (((Below.refl w.heap.size w).alloc (Nat.le_refl _) _).alloc (by simp) _).trans (hb.mono (by simp; omega))
  clear hb
  go_wp2_with fail
  go_ret
  exact ⟨rfl, HB.out⟩

set_option maxRecDepth 100000 in
set_option maxHeartbeats 1000000 in
theorem eqTermS_any (N : Nat) : ∀ (a a' : Option Addr) (c c' : Nat) (k : Fo) (w : World), Sl w 0 w.heap.size a k → Sl w 0 w.heap.size a' k → fsz k ≤ N → N ≤ 1048576 →
    Calls Try.prog 25 #[.slice a (flen k) c, .slice a' (flen k) c'] w fun e w' => e = .returned (.bool true) ∧ Below w.heap.size w w' := by
  induction N using Nat.strongRecOn with
  | _ N ih =>
    intro a a' c c' k w hl hl' hN hN2
    have hfl := flen_le (k := k)
    have IH := Lib.hid ih
    clear ih
    have e0 : ((flen k : Int) != (flen k : Int)) = false := by simp
    go_enter Try.func25, Try.ntmps25
    go_wp2_with fail
    go_loopw [5] (fun i wr => ∃ j : Nat, j ≤ flen k ∧ i = .int .i64 j ∧ Below w.heap.size w wr) (fun i _ => flen k - (intOf i).toNat)
    case atStart => exact ⟨0, by omega, rfl, Below.refl _ _⟩
    case round =>
      obtain ⟨j, hj, rfl, hbl⟩ := hrel
      have hbs := hbl.size
      by_cases hlt : j < flen k
      · rcases hl with rfl | ⟨b, o, rfl, hrow⟩
        · simp [flen] at hlt
        rcases hl' with rfl | ⟨b', o', rfl, hrow'⟩
        · simp [flen] at hlt
        obtain ⟨s1, v1, kk, a1, c1, ⟨x, y, hd⟩, _, hbB, hk0, hk1, hk2, hsl⟩ := row_at (hrow.below hbl) hlt
        obtain ⟨s2, v2, kk2, a2, c2, ⟨x2, y2, hd2⟩, _, hbB', hk3, hk4, hk5, hsl2⟩ := row_at (hrow'.below hbl) hlt
        have hdd := hd.symm.trans hd2
        simp only [BT.node.injEq, Prod.mk.injEq] at hdd
        obtain ⟨_, _, ⟨rfl, rfl⟩, rfl, _⟩ := hdd
        have hkN := fsz_kid' hd
        have HS := Lib.hid hsl
        have HS2 := Lib.hid hsl2
        have HBL := Lib.hid hbl
        clear hd hd2 hsl hsl2 hrow hrow' hbl
        have g1 : (0 : Int) ≤ (j : Int) := by omega
        have g2 : (j : Int) < (flen k : Int) := by omega
        have hu0 : ∀ u : After wr.heap.size wr, u.world.cell? ⟨b, o + j * 3, none⟩ = some (.int .i64 s1) := fun u => u.cell (by simp; omega) hk0
        have hu1 : ∀ u : After wr.heap.size wr, u.world.cell? ⟨b, o + j * 3 + 1, none⟩ = some (.int .i64 v1) := fun u => u.cell (by simp; omega) hk1
        have hu2 : ∀ u : After wr.heap.size wr, u.world.cell? ⟨b, o + j * 3 + 2, none⟩ = some (.slice a1 (flen kk) c1) := fun u => u.cell (by simp; omega) hk2
        have hu3 : ∀ u : After wr.heap.size wr, u.world.cell? ⟨b', o' + j * 3, none⟩ = some (.int .i64 s1) := fun u => u.cell (by simp; omega) hk3
        have hu4 : ∀ u : After wr.heap.size wr, u.world.cell? ⟨b', o' + j * 3 + 1, none⟩ = some (.int .i64 v1) := fun u => u.cell (by simp; omega) hk4
        have hu5 : ∀ u : After wr.heap.size wr, u.world.cell? ⟨b', o' + j * 3 + 2, none⟩ = some (.slice a2 (flen kk) c2) := fun u => u.cell (by simp; omega) hk5
        have HCALL : Hid (∀ u : After wr.heap.size wr, Calls Try.prog 12 #[.agg #[.int .i64 s1, .int .i64 v1, .slice a1 (flen kk) c1], .agg #[.int .i64 s1, .int .i64 v1, .slice a2 (flen kk) c2]] u.world fun e w' => e = .returned (.bool true) ∧ Below u.world.heap.size u.world w') := fun u => by
          refine eqTerm_of s1 v1 a1 a2 (flen kk) c1 c2 u.world fun w1 hb1 => ?_
          have hu := u.below
          have hus := hu.size
          have h1s := hb1.size
          refine IH.out (fsz kk) (by omega) a1 a2 c1 c2 kk w1 ?_ ?_ (Nat.le_refl _) (by omega)
          · exact ((HS.out.below (hu.mono (by omega))).below (hb1.mono (by omega))).mono (Nat.le_refl _) (by omega)
          · exact ((HS2.out.below (hu.mono (by omega))).below (hb1.mono (by omega))).mono (Nat.le_refl _) (by omega)
        go_wp2_with fail
        refine wp_region_after wr.heap.size (by kernel_rfl) (by kernel_rfl) ?_
        repeat (go_big_quiet_step ((go_at_call 12; exact Calls.after (After.below ‹_›).size (HCALL.out _))))
        refine wpQuiet_nil ?_
        rintro u ⟨⟨_, hu⟩, rfl⟩
        clear hu0 hu1 hu2 hu3 hu4 hu5 hk0 hk1 hk2 hk3 hk4 hk5
        have HB2 := Lib.hid (HBL.out.trans (hu.mono hbs))
        clear hu
        go_wp2_with fail
        go_roundw
        case rel => exact ⟨j + 1, by omega, by go_num, HB2.out⟩
        case measure => simp [intOf]; omega
      · go_wp2_with fail
        go_ret
        exact ⟨rfl, hbl⟩

theorem toTerm_any {s v : Int} {a : Option Addr} {c : Nat} {k : Fo} {w : World} (hl : Sl w 0 w.heap.size a k) (hN : fsz k ≤ 1048576) :
    Calls Try.prog 11 #[.agg #[.int .i64 s, .int .i64 v, .slice a (flen k) c]] w (ToPost s v k w) :=
  toTerm_of s v a c k w fun _ hb => toTermS_any (fsz k) a c k _ ((hl.below hb).mono (Nat.le_refl _) hb.size) (Nat.le_refl _) hN
theorem eqTerm_any {s v : Int} {a a' : Option Addr} {c c' : Nat} {k : Fo} {w : World} (hl : Sl w 0 w.heap.size a k) (hl' : Sl w 0 w.heap.size a' k) (hN : fsz k ≤ 1048576) :
    Calls Try.prog 12 #[.agg #[.int .i64 s, .int .i64 v, .slice a (flen k) c], .agg #[.int .i64 s, .int .i64 v, .slice a' (flen k) c']] w fun e w' => e = .returned (.bool true) ∧ Below w.heap.size w w' :=
  eqTerm_of s v a a' (flen k) c c' w fun _ hb => eqTermS_any (fsz k) a a' c c' k _ ((hl.below hb).mono (Nat.le_refl _) hb.size) ((hl'.below hb).mono (Nat.le_refl _) hb.size) (Nat.le_refl _) hN
theorem szTerm_any {s v : Int} {a : Option Addr} {c : Nat} {k : Fo} {left : Int} {w : World} (hl : Sl w 0 w.heap.size a k) (hc : fcap k) (hm : flen k ≤ maxLen) (h0 : 0 ≤ left) (h1 : left ≤ 1048576) :
    Calls Try.prog 10 #[.agg #[.int .i64 s, .int .i64 v, .slice a (flen k) c], .int .i64 left] w fun e w' => e = .returned (.int .i64 (szR k left)) ∧ Below w.heap.size w w' :=
  szTerm_of s v a (flen k) c left (szR k left) w (szR_case _ _) fun _ hb => szTermS_any (fsz k) a c k left _ ((hl.below hb).mono (Nat.le_refl _) hb.size) hc hm (Nat.le_refl _) h0 h1

end Go.Proofs.Ythbakmdcepoikaa
