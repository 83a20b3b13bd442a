/- Several texts in one: B3. -/
import Derived.Test.YtdkcbbhkoibplaaKLn3
import Derived.Test.YtdkcbbhkoibplaaKLn1

/-! B3: laTerm: what is the same comes out the same. -/
namespace Go.Proofs.Ytdkcbbhkoibplaa
open Go.RowKit Go.Deep

theorem two_boxes {w wr : World} {x y z x' y' z' : Value} (h : Below (w.heap.size + 2) ((w.alloc (.cells #[x, y, z] 35)).alloc (.cells #[x', y', z'] 35)) wr) :
    wr.cell? ⟨w.heap.size, 2, none⟩ = some z ∧ wr.cell? ⟨w.heap.size + 1, 2, none⟩ = some z' := by
  refine ⟨?_, ?_⟩
  · rw [h.cell (by simp), World.cell?_alloc_lt _ _ _ (by simp), World.cell?_alloc_at _ _ _ _ (by simp)]; rfl
  · rw [h.cell (by simp), World.cell?_alloc_at _ _ _ _ (by simp)]; rfl

set_option maxRecDepth 100000 in
set_option maxHeartbeats 1000000 in
theorem laTerm_same (N : Nat) : ∀ (s v : Int) (a a' : Option Addr) (c c' : Nat) (k : Fo) (w : World), Sl w 0 w.heap.size a k → Sl w 0 w.heap.size a' k → fsz k ≤ N → N ≤ 1000000 →
    Calls Try.prog 29 #[.agg #[.int .i64 s, .int .i64 v, .slice a (flen k) c], .agg #[.int .i64 s, .int .i64 v, .slice a' (flen k) c']] w fun e w' => e = .returned (.bool true) ∧ Below w.heap.size w w' := by
  induction N using Nat.strongRecOn with
  | _ N ih =>
    intro s v a a' c c' k w hl hl' hN hN2
    have hfl := flen_le_sz k
    have IH := Lib.hid ih
    clear ih
    have e0 : (s != s) = false := by simp
    have e1 : (v != v) = false := by simp
    have e2 : ((flen k : Int) != (flen k : Int)) = false := by simp
    have hb0 : Below w.heap.size w ((w.alloc (.cells #[.int .i64 s, .int .i64 v, .slice a (flen k) c] 35)).alloc (.cells #[.int .i64 s, .int .i64 v, .slice a' (flen k) c'] 35)) := ((Below.refl _ _).alloc (Nat.le_refl _) _).alloc (by simp) _
    have HB0 := Lib.hid hb0
    clear hb0
    go_enter Try.func29, Try.ntmps29
    go_wp2_with fail
    go_loopw [5] (fun i wr => ∃ j : Nat, j ≤ flen k ∧ i = .int .i64 j ∧ Below (w.heap.size + 2) ((w.alloc (.cells #[.int .i64 s, .int .i64 v, .slice a (flen k) c] 35)).alloc (.cells #[.int .i64 s, .int .i64 v, .slice a' (flen k) c'] 35)) wr) (fun i _ => flen k - (intOf i).toNat)
    case atStart => exact ⟨0, by omega, rfl, Below.refl _ _⟩
    case round =>
      obtain ⟨j, hj, rfl, hbl⟩ := hrel
      have hsr := hbl.size
      simp at hsr
      obtain ⟨hx2, hy2⟩ := two_boxes hbl
      have hbw := HB0.out.trans (hbl.mono (show w.heap.size ≤ w.heap.size + 2 by omega))
      by_cases hlt : j < flen k
      · rcases hl with rfl | ⟨b, o, rfl, hrow⟩
        · simp [flen] at hlt
        rcases hl' with rfl | ⟨b', o', rfl, hrow'⟩
        · simp [flen] at hlt
        obtain ⟨s1, v1, kk, a1, c1, ⟨x, y, hd⟩, _, hbB, hk0, hk1, hk2, hsl⟩ := row_at (hrow.below hbw) hlt
        obtain ⟨s2, v2, kk2, a2, c2, ⟨x2, y2, hd2⟩, _, hbB', hk3, hk4, hk5, hsl2⟩ := row_at (hrow'.below hbw) hlt
        have hdd := hd.symm.trans hd2
        simp only [BT.node.injEq, Prod.mk.injEq] at hdd
        obtain ⟨_, _, ⟨rfl, rfl⟩, rfl, _⟩ := hdd
        have hkN := fsz_kid hd
        have HS := Lib.hid hsl
        have HS2 := Lib.hid hsl2
        have HBL := Lib.hid hbl
        clear hd hd2 hsl hsl2 hrow hrow' hbl hbw
        have g1 : (0 : Int) ≤ (j : Int) := by omega
        have g2 : (j : Int) < (flen k : Int) := by omega
        have hu0 : ∀ u : After wr.heap.size wr, u.world.cell? ⟨b, o + j * 3, none⟩ = some (.int .i64 s1) := fun u => u.cell (by simp; omega) hk0
        have hu1 : ∀ u : After wr.heap.size wr, u.world.cell? ⟨b, o + j * 3 + 1, none⟩ = some (.int .i64 v1) := fun u => u.cell (by simp; omega) hk1
        have hu2 : ∀ u : After wr.heap.size wr, u.world.cell? ⟨b, o + j * 3 + 2, none⟩ = some (.slice a1 (flen kk) c1) := fun u => u.cell (by simp; omega) hk2
        have hu3 : ∀ u : After wr.heap.size wr, u.world.cell? ⟨b', o' + j * 3, none⟩ = some (.int .i64 s1) := fun u => u.cell (by simp; omega) hk3
        have hu4 : ∀ u : After wr.heap.size wr, u.world.cell? ⟨b', o' + j * 3 + 1, none⟩ = some (.int .i64 v1) := fun u => u.cell (by simp; omega) hk4
        have hu5 : ∀ u : After wr.heap.size wr, u.world.cell? ⟨b', o' + j * 3 + 2, none⟩ = some (.slice a2 (flen kk) c2) := fun u => u.cell (by simp; omega) hk5
        have hu6 : ∀ u : After wr.heap.size wr, u.world.cell? ⟨w.heap.size, 2, none⟩ = some (.slice (some ⟨b, o, none⟩) (flen k) c) := fun u => u.cell (by simp; omega) hx2
        have hu7 : ∀ u : After wr.heap.size wr, u.world.cell? ⟨w.heap.size + 1, 2, none⟩ = some (.slice (some ⟨b', o', none⟩) (flen k) c') := fun u => u.cell (by simp; omega) hy2
        have HCALL : Hid (∀ u : After wr.heap.size wr, Calls Try.prog 29 #[.agg #[.int .i64 s1, .int .i64 v1, .slice a1 (flen kk) c1], .agg #[.int .i64 s1, .int .i64 v1, .slice a2 (flen kk) c2]] u.world fun e w' => e = .returned (.bool true) ∧ Below u.world.heap.size u.world w') := fun u => by
          have hu := u.below
          have hus := hu.size
          refine IH.out (fsz kk) (by omega) s1 v1 a1 a2 c1 c2 kk u.world ?_ ?_ (Nat.le_refl _) (by omega)
          · exact (HS.out.below (hu.mono (by omega))).mono (Nat.le_refl _) (by omega)
          · exact (HS2.out.below (hu.mono (by omega))).mono (Nat.le_refl _) (by omega)
        go_wp2_with fail
        refine wp_region_after wr.heap.size (by kernel_rfl) (by kernel_rfl) ?_
        repeat (go_big_quiet_step ((go_at_call 29; exact Calls.after (After.below ‹_›).size (HCALL.out _))))
        refine wpQuiet_nil ?_
        rintro u ⟨⟨_, hu⟩, rfl⟩
        clear hu0 hu1 hu2 hu3 hu4 hu5 hu6 hu7 hk0 hk1 hk2 hk3 hk4 hk5 hx2 hy2
        have HB2 := Lib.hid (HBL.out.trans (hu.mono hsr))
        clear hu
        go_wp2_with fail
        go_roundw
        case rel => exact ⟨j + 1, by omega, by go_num, HB2.out⟩
        case measure => simp [intOf]; omega
      · have HBW := Lib.hid hbw
        clear hbw hbl
        go_wp2_with fail
        go_ret
        exact ⟨rfl, HBW.out⟩
end Go.Proofs.Ytdkcbbhkoibplaa
