/- Several texts in one: RD10. -/
import Derived.Test.YtbnbogdglffkmaaGreatDoorKEb13
import Derived.Test.YtbnbogdglffkmaaGreatDoorKEb10
import Derived.Test.YtbnbogdglffkmaaGreatDoorKEb5

/-! RD10: What the specification reads from a place on. -/
namespace Go.Proofs.YtbnbogdglffkmaaGreatDoor
open Go.RowKit Go.Deep
attribute [local go_sem ↓] Go.wp_at_zero Go.wp_at_succ


def HePost (l : List UInt8) (p most : Nat) (w : World) (e : Ending) (w' : World) : Prop :=
  ∃ a c s v k n' z, hearN most (l.drop p) = ((s, v, k), n') ∧ z = (p : Int) + (n' : Int) ∧ e = .returned (.tuple #[.agg #[.int .i64 s, .int .i64 v, .slice a (flen k) c], .int .i64 z]) ∧ Below w.heap.size w w' ∧ Sl w' w.heap.size w'.heap.size a k
theorem he_end {w w1 : World} {l : List UInt8} {p most n' : Nat} {s v z : Int} {k : Fo} {a : Option Addr} {c : Nat} (hr : hearN most (l.drop p) = ((s, v, k), n')) (hz : z = (p : Int) + (n' : Int)) (hb : Below w.heap.size w w1) (hl : Sl w1 (w.heap.size + 1) w1.heap.size a k) (x y u : Value) :
    HePost l p most w (.returned (.tuple #[.agg #[.int .i64 s, .int .i64 v, .slice a (flen k) c], .int .i64 z])) (((w1.setCell ⟨w.heap.size, 0, none⟩ x).setCell ⟨w.heap.size, 1, none⟩ y).setCell ⟨w.heap.size, 2, none⟩ u) := by
  refine ⟨a, c, s, v, k, n', z, hr, hz, rfl, ((hb.setCell (by simp) _).setCell (by simp) _).setCell (by simp) _, ?_⟩
  have hs : Same (w.heap.size + 1) w1.heap.size w1 (((w1.setCell ⟨w.heap.size, 0, none⟩ x).setCell ⟨w.heap.size, 1, none⟩ y).setCell ⟨w.heap.size, 2, none⟩ u) :=
    (((Same.setCell (fun _ _ _ => rfl) (.inl (by simp)) _).setCell (.inl (by simp)) _).setCell (.inl (by simp)) _)
  exact (hl.same hs).mono (by omega) (by simp)
theorem he_cells {w w1 : World} (hb : Below (w.heap.size + 1) (w.alloc (.cells #[.int .i64 0, .int .i64 0, .slice none 0 0] 25)) w1) :
    w1.cell? ⟨w.heap.size, 0, none⟩ = some (.int .i64 0) ∧ w1.cell? ⟨w.heap.size, 1, none⟩ = some (.int .i64 0) ∧ w1.cell? ⟨w.heap.size, 2, none⟩ = some (.slice none 0 0) ∧
      w1.frozen? ⟨w.heap.size, 0, none⟩ = false ∧ w1.frozen? ⟨w.heap.size, 1, none⟩ = false ∧ w1.frozen? ⟨w.heap.size, 2, none⟩ = false := by
  refine ⟨?_, ?_, ?_, ?_, ?_, ?_⟩
  · rw [hb.cell (by simp)]; simp
  · rw [hb.cell (by simp)]; simp
  · rw [hb.cell (by simp)]; simp
  · rw [hb.frozen (by simp)]; simp
  · rw [hb.frozen (by simp)]; simp
  · rw [hb.frozen (by simp)]; simp
theorem drop_at {l : List UInt8} {p : Nat} (h : p < l.length) : ∃ b r, l.drop p = b :: r ∧ l[p]? = some b ∧ l.drop (p + 1) = r := by
  refine ⟨l[p], l.drop (p + 1), List.drop_eq_getElem_cons h, List.getElem?_eq_getElem h, rfl⟩
theorem str_index {l : List UInt8} {p : Nat} {b : UInt8} (h : l[p]? = some b) (wx : World) : (Instr.index 9 (.string (str l)) (.int .i64 (p : Int))).run Tryz.prog wx = .ok (.int .u8 b.toNat) wx := by
  obtain ⟨hlt, hb⟩ := List.getElem?_eq_some_iff.1 h
  have hs := str_size l
  rw [run_index_string _ _ _ _ _ Tryz.underlying9, dif_pos ⟨by omega, by omega⟩]
  subst hb
  rfl
/-- The sign that is found so far. -/
def sgnK (b : UInt8) (k : Int) : Int := if sgnB b < k then sgnB b else -1
theorem sgnK_one (b : UInt8) : sgnK b 1 = -1 := by
  unfold sgnK
  rcases sgnB_range b with h | h | h | h | h <;> rw [h] <;> decide
theorem sgnK_all (b : UInt8) : sgnK b 5 = sgnB b := by
  unfold sgnK
  rcases sgnB_range b with h | h | h | h | h <;> rw [h] <;> decide
theorem sgnK_hit {b : UInt8} {k : Int} (_hk : 1 ≤ k) (h : sgnB b = k) : sgnK b (k + 1) = k := by
  unfold sgnK
  rw [h, if_pos (by omega)]
theorem sgnK_miss {b : UInt8} {k : Int} (_hk : 1 ≤ k) (h : sgnB b ≠ k) : sgnK b (k + 1) = sgnK b k := by
  unfold sgnK
  by_cases h2 : sgnB b < k
  · rw [if_pos h2, if_pos (by omega)]
  · rw [if_neg h2, if_neg (by omega)]
theorem sgnB_1 {b : UInt8} : sgnB b = 1 ↔ b = 97 := by
  constructor
  · intro h
    unfold sgnB at h
    split at h
    · assumption
    · split at h
      · cases h
      · split at h
        · cases h
        · split at h <;> cases h
  · rintro rfl; rfl
theorem sgnB_2 {b : UInt8} : sgnB b = 2 ↔ b = 98 := by
  constructor
  · intro h
    unfold sgnB at h
    split at h
    · cases h
    · split at h
      · assumption
      · split at h
        · cases h
        · split at h <;> cases h
  · rintro rfl; rfl
theorem sgnB_3 {b : UInt8} : sgnB b = 3 ↔ b = 103 := by
  constructor
  · intro h
    unfold sgnB at h
    split at h
    · cases h
    · split at h
      · cases h
      · split at h
        · assumption
        · split at h <;> cases h
  · rintro rfl; rfl
theorem sgnB_4 {b : UInt8} : sgnB b = 4 ↔ b = 102 := by
  constructor
  · intro h
    unfold sgnB at h
    split at h
    · cases h
    · split at h
      · cases h
      · split at h
        · cases h
        · split at h
          · assumption
          · cases h
  · rintro rfl; rfl

def HeSpec (most : Nat) : Prop := ∀ (l : List UInt8) (p : Nat) (w : World), l.length ≤ 1048576 → p + 4194304 * most ≤ 1000000000 →
  Calls Tryz.prog 35 #[.string (str l), .int .i64 (p : Int), .int .i64 (most : Int)] w (HePost l p most w)

set_option maxRecDepth 100000 in
set_option maxHeartbeats 2000000 in
theorem l1Hear_any : ∀ most : Nat, most ≤ 100 → HeSpec most := by
  intro most
  induction most with
  | zero =>
    intro _ l p w hl hp
    obtain ⟨h0, h1, h2, q0, q1, q2⟩ := he_cells (Below.refl _ (w.alloc (.cells #[.int .i64 0, .int .i64 0, .slice none 0 0] 25)))
    have hz := str_size l
    have hb0 : Below w.heap.size w (w.alloc (.cells #[.int .i64 0, .int .i64 0, .slice none 0 0] 25)) := (Below.refl _ _).alloc (Nat.le_refl _) _
    have HB0 := Lib.hid hb0
    clear hb0
    go_enter Tryz.func35, Tryz.ntmps35
    go_wp2_with fail
    all_goals
      refine bodyPost_ret (v := .tuple #[.agg #[.int .i64 (-1), .int .i64 0, .slice none 0 0], .int .i64 (p : Int)]) ?_ rfl ⟨none, 0, -1, 0, .nil, 0, (p : Int), rfl, by simp, rfl, (Below.refl _ _).alloc (Nat.le_refl _) _, .inl rfl⟩
      simp [results, Tryz.results35, go_sem]
  | succ most ih0 =>
    intro hmost l p w hl hp
    have ih := ih0 (by omega)
    clear ih0
    have IH := Lib.hid ih
    clear ih
    have hz := str_size l
    have hb0 : Below w.heap.size w (w.alloc (.cells #[.int .i64 0, .int .i64 0, .slice none 0 0] 25)) := (Below.refl _ _).alloc (Nat.le_refl _) _
    have HB0 := Lib.hid hb0
    clear hb0
    by_cases hpl : l.length ≤ p
    · have hN : hearN (most + 1) (l.drop p) = ((-1, 0, .nil), 0) := by rw [List.drop_eq_nil_of_le hpl]; exact hearN_nil _
      have HN := Lib.hid hN
      clear hN
      go_enter Tryz.func35, Tryz.ntmps35
      go_wp2_with fail
      all_goals
        refine bodyPost_ret (v := .tuple #[.agg #[.int .i64 (-1), .int .i64 0, .slice none 0 0], .int .i64 (p : Int)]) ?_ rfl ⟨none, 0, -1, 0, .nil, 0, (p : Int), HN.out, by simp, rfl, (Below.refl _ _).alloc (Nat.le_refl _) _, .inl rfl⟩
        simp [results, Tryz.results35, go_sem]
    obtain ⟨b, r, hdr, hat, hdr1⟩ := drop_at (l := l) (p := p) (by omega)
    have hidx := fun wx => str_index hat wx
    have HDR := Lib.hid hdr
    have HDR1 := Lib.hid hdr1
    have HAT := Lib.hid hat
    clear hdr hdr1 hat
    have HP := Lib.hid hp
    clear hp
    have e0 : decide (l.length ≤ p) = false := by simp; omega
    have HPL := Lib.hid hpl
    have HL := Lib.hid hl
    have HM := Lib.hid hmost
    obtain ⟨m, hm⟩ : ∃ m : Int, m = ((most + 1 : Nat) : Int) := ⟨_, rfl⟩
    have e1 : decide (m < 1) = false := by simp; omega
    have e2 : m - 1 = (most : Int) := by omega
    have E2 := Lib.hid e2
    rw [← hm]
    clear hm e2 hmost hl hpl
    go_enter Tryz.func35, Tryz.ntmps35
    go_wp2_with fail
    have hst : ∃ kk : Int, 1 ≤ kk ∧ kk ≤ 5 ∧ Value.int .i64 1 = .int .i64 kk ∧ Value.int .i64 (-1) = .int .i64 (sgnK b kk) ∧ Below (w.heap.size + 1) (w.alloc (.cells #[.int .i64 0, .int .i64 0, .slice none 0 0] 25)) (w.alloc (.cells #[.int .i64 0, .int .i64 0, .slice none 0 0] 25)) :=
      ⟨1, by omega, by omega, rfl, by rw [sgnK_one], Below.refl _ _⟩
    have HST := Lib.hid hst
    clear hst
    go_loopw [8, 9] (fun sg k wr => ∃ kk : Int, 1 ≤ kk ∧ kk ≤ 5 ∧ k = .int .i64 kk ∧ sg = .int .i64 (sgnK b kk) ∧ Below (w.heap.size + 1) (w.alloc (.cells #[.int .i64 0, .int .i64 0, .slice none 0 0] 25)) wr) (fun _ k _ => 5 - (intOf k).toNat)
    case atStart => exact HST.out
    case round =>
      clear HST
      obtain ⟨kk, hk1, hk5, rfl, rfl, hbw⟩ := hrel
      have hk : kk = 1 ∨ kk = 2 ∨ kk = 3 ∨ kk = 4 ∨ kk = 5 := by omega
      rcases hk with rfl | rfl | rfl | rfl | rfl
      · clear hk1 hk5
        have hbc : Below (w.heap.size + 1) (w.alloc (.cells #[.int .i64 0, .int .i64 0, .slice none 0 0] 25)) (wr.drew.alloc (.cells #[.int .u8 0, .int .u8 97, .int .u8 98, .int .u8 103, .int .u8 102] 5)) := hbw.drew.alloc (by have := hbw.size; simp at this ⊢; omega) _
        have HBC := Lib.hid hbc
        have hszw := hbw.size
        simp at hszw
        clear hbc hbw
        by_cases hc : b = 97
        · have hq : ((b.toNat : Int) == 97) = true := by rw [hc]; rfl
          have hg : sgnK b (1 + 1) = 1 := sgnK_hit (by omega) (sgnB_1.2 hc)
          have HG := Lib.hid hg
          clear hg hc
          go_wp2_with fail
          refine wp_region_mix (fun w' => ∃ u : After wr.heap.size wr, w' = u.world) [] [(0, 0), (1, 0), (2, 0), (4, 0), (3, 1), (5, 1), (6, 1), (7, 1)] (by kernel_rfl) (by kernel_rfl) ⟨⟨_, (Below.refl _ _).drew⟩, rfl⟩ ?_
          iterate 4
            refine mix_see rfl (fun K hK => ?_)
            go_simp
            refine hK _ ?_
            clear hK K
          refine mix_hold rfl (fun K hK => ?_)
          go_simp
          refine hK _ _ ⟨⟨_, (Below.refl _ _).drew.alloc (Nat.le_refl _) _⟩, rfl⟩ ?_
          clear hK K
          iterate 3
            refine mix_hold rfl (fun K hK => ?_)
            go_simp
            refine hK _ _ ⟨⟨_, (Below.refl _ _).drew.alloc (Nat.le_refl _) _⟩, rfl⟩ ?_
            clear hK K
          refine mix_end ?_
          go_wp2_with fail
          go_roundw
          case rel => exact ⟨1 + 1, by omega, by omega, by go_num, by rw [HG.out], HBC.out⟩
          case measure => simp [intOf]
        · have hq : ((b.toNat : Int) == 97) = false := by
            have : (b.toNat : Int) ≠ 97 := fun e => hc (UInt8.toNat_inj.1 (by simpa using (by omega : b.toNat = 97)))
            simpa using this
          have hg : sgnK b (1 + 1) = sgnK b 1 := sgnK_miss (by omega) (fun e => hc (sgnB_1.1 e))
          have HG := Lib.hid hg
          clear hg hc
          go_wp2_with fail
          refine wp_region_mix (fun w' => ∃ u : After wr.heap.size wr, w' = u.world) [] [(0, 0), (1, 0), (2, 0), (4, 0), (3, 1), (5, 1), (6, 1), (7, 1)] (by kernel_rfl) (by kernel_rfl) ⟨⟨_, (Below.refl _ _).drew⟩, rfl⟩ ?_
          iterate 4
            refine mix_see rfl (fun K hK => ?_)
            go_simp
            refine hK _ ?_
            clear hK K
          refine mix_hold rfl (fun K hK => ?_)
          go_simp
          refine hK _ _ ⟨⟨_, (Below.refl _ _).drew.alloc (Nat.le_refl _) _⟩, rfl⟩ ?_
          clear hK K
          iterate 3
            refine mix_hold rfl (fun K hK => ?_)
            go_simp
            refine hK _ _ ⟨⟨_, (Below.refl _ _).drew.alloc (Nat.le_refl _) _⟩, rfl⟩ ?_
            clear hK K
          refine mix_end ?_
          go_wp2_with fail
          go_roundw
          case rel => exact ⟨1 + 1, by omega, by omega, by go_num, by rw [HG.out], HBC.out⟩
          case measure => simp [intOf]
      · clear hk1 hk5
        have hbc : Below (w.heap.size + 1) (w.alloc (.cells #[.int .i64 0, .int .i64 0, .slice none 0 0] 25)) (wr.drew.alloc (.cells #[.int .u8 0, .int .u8 97, .int .u8 98, .int .u8 103, .int .u8 102] 5)) := hbw.drew.alloc (by have := hbw.size; simp at this ⊢; omega) _
        have HBC := Lib.hid hbc
        have hszw := hbw.size
        simp at hszw
        clear hbc hbw
        by_cases hc : b = 98
        · have hq : ((b.toNat : Int) == 98) = true := by rw [hc]; rfl
          have hg : sgnK b (2 + 1) = 2 := sgnK_hit (by omega) (sgnB_2.2 hc)
          have HG := Lib.hid hg
          clear hg hc
          go_wp2_with fail
          refine wp_region_mix (fun w' => ∃ u : After wr.heap.size wr, w' = u.world) [] [(0, 0), (1, 0), (2, 0), (4, 0), (3, 1), (5, 1), (6, 1), (7, 1)] (by kernel_rfl) (by kernel_rfl) ⟨⟨_, (Below.refl _ _).drew⟩, rfl⟩ ?_
          iterate 4
            refine mix_see rfl (fun K hK => ?_)
            go_simp
            refine hK _ ?_
            clear hK K
          refine mix_hold rfl (fun K hK => ?_)
          go_simp
          refine hK _ _ ⟨⟨_, (Below.refl _ _).drew.alloc (Nat.le_refl _) _⟩, rfl⟩ ?_
          clear hK K
          iterate 3
            refine mix_hold rfl (fun K hK => ?_)
            go_simp
            refine hK _ _ ⟨⟨_, (Below.refl _ _).drew.alloc (Nat.le_refl _) _⟩, rfl⟩ ?_
            clear hK K
          refine mix_end ?_
          go_wp2_with fail
          go_roundw
          case rel => exact ⟨2 + 1, by omega, by omega, by go_num, by rw [HG.out], HBC.out⟩
          case measure => simp [intOf]
        · have hq : ((b.toNat : Int) == 98) = false := by
            have : (b.toNat : Int) ≠ 98 := fun e => hc (UInt8.toNat_inj.1 (by simpa using (by omega : b.toNat = 98)))
            simpa using this
          have hg : sgnK b (2 + 1) = sgnK b 2 := sgnK_miss (by omega) (fun e => hc (sgnB_2.1 e))
          have HG := Lib.hid hg
          clear hg hc
          go_wp2_with fail
          refine wp_region_mix (fun w' => ∃ u : After wr.heap.size wr, w' = u.world) [] [(0, 0), (1, 0), (2, 0), (4, 0), (3, 1), (5, 1), (6, 1), (7, 1)] (by kernel_rfl) (by kernel_rfl) ⟨⟨_, (Below.refl _ _).drew⟩, rfl⟩ ?_
          iterate 4
            refine mix_see rfl (fun K hK => ?_)
            go_simp
            refine hK _ ?_
            clear hK K
          refine mix_hold rfl (fun K hK => ?_)
          go_simp
          refine hK _ _ ⟨⟨_, (Below.refl _ _).drew.alloc (Nat.le_refl _) _⟩, rfl⟩ ?_
          clear hK K
          iterate 3
            refine mix_hold rfl (fun K hK => ?_)
            go_simp
            refine hK _ _ ⟨⟨_, (Below.refl _ _).drew.alloc (Nat.le_refl _) _⟩, rfl⟩ ?_
            clear hK K
          refine mix_end ?_
          go_wp2_with fail
          go_roundw
          case rel => exact ⟨2 + 1, by omega, by omega, by go_num, by rw [HG.out], HBC.out⟩
          case measure => simp [intOf]
      · clear hk1 hk5
        have hbc : Below (w.heap.size + 1) (w.alloc (.cells #[.int .i64 0, .int .i64 0, .slice none 0 0] 25)) (wr.drew.alloc (.cells #[.int .u8 0, .int .u8 97, .int .u8 98, .int .u8 103, .int .u8 102] 5)) := hbw.drew.alloc (by have := hbw.size; simp at this ⊢; omega) _
        have HBC := Lib.hid hbc
        have hszw := hbw.size
        simp at hszw
        clear hbc hbw
        by_cases hc : b = 103
        · have hq : ((b.toNat : Int) == 103) = true := by rw [hc]; rfl
          have hg : sgnK b (3 + 1) = 3 := sgnK_hit (by omega) (sgnB_3.2 hc)
          have HG := Lib.hid hg
          clear hg hc
          go_wp2_with fail
          refine wp_region_mix (fun w' => ∃ u : After wr.heap.size wr, w' = u.world) [] [(0, 0), (1, 0), (2, 0), (4, 0), (3, 1), (5, 1), (6, 1), (7, 1)] (by kernel_rfl) (by kernel_rfl) ⟨⟨_, (Below.refl _ _).drew⟩, rfl⟩ ?_
          iterate 4
            refine mix_see rfl (fun K hK => ?_)
            go_simp
            refine hK _ ?_
            clear hK K
          refine mix_hold rfl (fun K hK => ?_)
          go_simp
          refine hK _ _ ⟨⟨_, (Below.refl _ _).drew.alloc (Nat.le_refl _) _⟩, rfl⟩ ?_
          clear hK K
          iterate 3
            refine mix_hold rfl (fun K hK => ?_)
            go_simp
            refine hK _ _ ⟨⟨_, (Below.refl _ _).drew.alloc (Nat.le_refl _) _⟩, rfl⟩ ?_
            clear hK K
          refine mix_end ?_
          go_wp2_with fail
          go_roundw
          case rel => exact ⟨3 + 1, by omega, by omega, by go_num, by rw [HG.out], HBC.out⟩
          case measure => simp [intOf]
        · have hq : ((b.toNat : Int) == 103) = false := by
            have : (b.toNat : Int) ≠ 103 := fun e => hc (UInt8.toNat_inj.1 (by simpa using (by omega : b.toNat = 103)))
            simpa using this
          have hg : sgnK b (3 + 1) = sgnK b 3 := sgnK_miss (by omega) (fun e => hc (sgnB_3.1 e))
          have HG := Lib.hid hg
          clear hg hc
          go_wp2_with fail
          refine wp_region_mix (fun w' => ∃ u : After wr.heap.size wr, w' = u.world) [] [(0, 0), (1, 0), (2, 0), (4, 0), (3, 1), (5, 1), (6, 1), (7, 1)] (by kernel_rfl) (by kernel_rfl) ⟨⟨_, (Below.refl _ _).drew⟩, rfl⟩ ?_
          iterate 4
            refine mix_see rfl (fun K hK => ?_)
            go_simp
            refine hK _ ?_
            clear hK K
          refine mix_hold rfl (fun K hK => ?_)
          go_simp
          refine hK _ _ ⟨⟨_, (Below.refl _ _).drew.alloc (Nat.le_refl _) _⟩, rfl⟩ ?_
          clear hK K
          iterate 3
            refine mix_hold rfl (fun K hK => ?_)
            go_simp
            refine hK _ _ ⟨⟨_, (Below.refl _ _).drew.alloc (Nat.le_refl _) _⟩, rfl⟩ ?_
            clear hK K
          refine mix_end ?_
          go_wp2_with fail
          go_roundw
          case rel => exact ⟨3 + 1, by omega, by omega, by go_num, by rw [HG.out], HBC.out⟩
          case measure => simp [intOf]
      · clear hk1 hk5
        have hbc : Below (w.heap.size + 1) (w.alloc (.cells #[.int .i64 0, .int .i64 0, .slice none 0 0] 25)) (wr.drew.alloc (.cells #[.int .u8 0, .int .u8 97, .int .u8 98, .int .u8 103, .int .u8 102] 5)) := hbw.drew.alloc (by have := hbw.size; simp at this ⊢; omega) _
        have HBC := Lib.hid hbc
        have hszw := hbw.size
        simp at hszw
        clear hbc hbw
        by_cases hc : b = 102
        · have hq : ((b.toNat : Int) == 102) = true := by rw [hc]; rfl
          have hg : sgnK b (4 + 1) = 4 := sgnK_hit (by omega) (sgnB_4.2 hc)
          have HG := Lib.hid hg
          clear hg hc
          go_wp2_with fail
          refine wp_region_mix (fun w' => ∃ u : After wr.heap.size wr, w' = u.world) [] [(0, 0), (1, 0), (2, 0), (4, 0), (3, 1), (5, 1), (6, 1), (7, 1)] (by kernel_rfl) (by kernel_rfl) ⟨⟨_, (Below.refl _ _).drew⟩, rfl⟩ ?_
          iterate 4
            refine mix_see rfl (fun K hK => ?_)
            go_simp
            refine hK _ ?_
            clear hK K
          refine mix_hold rfl (fun K hK => ?_)
          go_simp
          refine hK _ _ ⟨⟨_, (Below.refl _ _).drew.alloc (Nat.le_refl _) _⟩, rfl⟩ ?_
          clear hK K
          iterate 3
            refine mix_hold rfl (fun K hK => ?_)
            go_simp
            refine hK _ _ ⟨⟨_, (Below.refl _ _).drew.alloc (Nat.le_refl _) _⟩, rfl⟩ ?_
            clear hK K
          refine mix_end ?_
          go_wp2_with fail
          go_roundw
          case rel => exact ⟨4 + 1, by omega, by omega, by go_num, by rw [HG.out], HBC.out⟩
          case measure => simp [intOf]
        · have hq : ((b.toNat : Int) == 102) = false := by
            have : (b.toNat : Int) ≠ 102 := fun e => hc (UInt8.toNat_inj.1 (by simpa using (by omega : b.toNat = 102)))
            simpa using this
          have hg : sgnK b (4 + 1) = sgnK b 4 := sgnK_miss (by omega) (fun e => hc (sgnB_4.1 e))
          have HG := Lib.hid hg
          clear hg hc
          go_wp2_with fail
          refine wp_region_mix (fun w' => ∃ u : After wr.heap.size wr, w' = u.world) [] [(0, 0), (1, 0), (2, 0), (4, 0), (3, 1), (5, 1), (6, 1), (7, 1)] (by kernel_rfl) (by kernel_rfl) ⟨⟨_, (Below.refl _ _).drew⟩, rfl⟩ ?_
          iterate 4
            refine mix_see rfl (fun K hK => ?_)
            go_simp
            refine hK _ ?_
            clear hK K
          refine mix_hold rfl (fun K hK => ?_)
          go_simp
          refine hK _ _ ⟨⟨_, (Below.refl _ _).drew.alloc (Nat.le_refl _) _⟩, rfl⟩ ?_
          clear hK K
          iterate 3
            refine mix_hold rfl (fun K hK => ?_)
            go_simp
            refine hK _ _ ⟨⟨_, (Below.refl _ _).drew.alloc (Nat.le_refl _) _⟩, rfl⟩ ?_
            clear hK K
          refine mix_end ?_
          go_wp2_with fail
          go_roundw
          case rel => exact ⟨4 + 1, by omega, by omega, by go_num, by rw [HG.out], HBC.out⟩
          case measure => simp [intOf]
      · clear hk1 hk5
        obtain ⟨w1, rfl⟩ : ∃ z, z = wr := ⟨_, rfl⟩
        rw [sgnK_all]
        have hsz1 := hbw.size
        simp at hsz1
        obtain ⟨hr0, hr1, hr2, hq0, hq1, hq2⟩ := he_cells hbw
        have HBW := Lib.hid hbw
        have hpb : p ≤ 1000000000 := by have := HP.out; omega
        have HBB := Lib.hid (HB0.out.trans (hbw.mono (Nat.le_succ _)))
        clear hbw
        by_cases hx : b = 120
        · have hq : ((b.toNat : Int) == 120) = true := by rw [hx]; rfl
          have hN := HDR.out
          rw [hx] at hN
          have hN2 : hearN (most + 1) (l.drop p) = ((0, ((hearD 0 r).1 : Int), .nil), 1 + (hearD 0 r).2) := by rw [hN]; exact hearN_var r
          have HN := Lib.hid hN2
          clear hN hN2 hx
          go_wp2_with fail
          have hst : w1 = w1 ∧ ∃ q nn : Nat, Value.int .i64 ((p : Int) + 1) = .int .i64 (q : Int) ∧ Value.int .i64 0 = .int .i64 (nn : Int) ∧ p + 1 ≤ q ∧ q ≤ l.length ∧ nn < 1000 ∧ (hearD 0 r).1 = (hearD nn (l.drop q)).1 ∧ p + 1 + (hearD 0 r).2 = q + (hearD nn (l.drop q)).2 :=
            ⟨rfl, p + 1, 0, by simp, rfl, Nat.le_refl _, by have := HPL.out; omega, by omega, by rw [HDR1.out], by rw [HDR1.out]⟩
          have HST := Lib.hid hst
          clear hst
          go_loopw [1, 10] (fun a n wr => wr = w1 ∧ ∃ q nn : Nat, a = .int .i64 (q : Int) ∧ n = .int .i64 (nn : Int) ∧ p + 1 ≤ q ∧ q ≤ l.length ∧ nn < 1000 ∧ (hearD 0 r).1 = (hearD nn (l.drop q)).1 ∧ p + 1 + (hearD 0 r).2 = q + (hearD nn (l.drop q)).2) (fun a _ _ => l.length - (intOf a).toNat)
          case atStart => exact HST.out
          case round =>
            clear HST
            obtain ⟨rfl, q, nn, rfl, rfl, hqa, hqb, hnn, hv, he⟩ := hrel
            have hqc : q ≤ 1000000000 := by have := HL.out; omega
            by_cases h1 : q < l.length
            · obtain ⟨b2, r2, hdr2, hat2, hdr3⟩ := drop_at h1
              have hix2 := fun wx => str_index hat2 wx
              have t1 : decide (q < l.length) = true := decide_eq_true h1
              have hlt2 := b2.toNat_lt
              have HLT2 := Lib.hid hlt2
              have HDR2 := Lib.hid hdr2
              have HDR3 := Lib.hid hdr3
              have HV := Lib.hid hv
              have HE := Lib.hid he
              clear hlt2 hdr2 hdr3 hat2 hv he
              by_cases h2 : 48 ≤ b2.toNat
              · have t2 : decide (48 ≤ b2.toNat) = true := decide_eq_true h2
                have t2i : decide ((48 : Int) ≤ (b2.toNat : Int)) = true := decide_eq_true (by omega)
                by_cases h3 : b2.toNat ≤ 57
                · have t3 : decide (b2.toNat ≤ 57) = true := decide_eq_true h3
                  have t3i : decide ((b2.toNat : Int) ≤ 57) = true := decide_eq_true (by omega)
                  have hdig : isDig b2 = true := by unfold isDig; rw [t2, t3]; rfl
                  by_cases h4 : nn < 100
                  · have t4 : decide (nn < 100) = true := decide_eq_true h4
                    have t4i : decide ((nn : Int) < 100) = true := decide_eq_true (by omega)
                    have hD : hearD nn (l.drop q) = ((hearD (nn * 10 + (b2.toNat - 48)) (l.drop (q + 1))).1, (hearD (nn * 10 + (b2.toNat - 48)) (l.drop (q + 1))).2 + 1) := by
                      rw [HDR2.out, HDR3.out]
                      conv => lhs; unfold hearD
                      rw [if_pos ⟨hdig, h4⟩]
                    have HD := Lib.hid hD
                    have hrl : (hearD 0 r).1 = (hearD (nn * 10 + (b2.toNat - 48)) (l.drop (q + 1))).1 ∧ p + 1 + (hearD 0 r).2 = (q + 1) + (hearD (nn * 10 + (b2.toNat - 48)) (l.drop (q + 1))).2 := by
                      have e1 := HV.out
                      have e2 := HE.out
                      rw [hD] at e1 e2
                      exact ⟨e1, by omega⟩
                    have HRL := Lib.hid hrl
                    clear hD hrl hdig
                    go_wp2_with fail
                    go_roundw
                    case rel => exact ⟨trivial, q + 1, nn * 10 + (b2.toNat - 48), by go_num, by go_num, by omega, by omega, by omega, HRL.out.1, HRL.out.2⟩
                    case measure => simp [intOf]; omega
                  · have t4 : decide (nn < 100) = false := decide_eq_false h4
                    have t4i : decide ((nn : Int) < 100) = false := decide_eq_false (by omega)
                    have hD : hearD nn (l.drop q) = (nn, 0) := by
                      rw [HDR2.out]; unfold hearD; rw [if_neg fun h => h4 h.2]
                    have hfn : hearN (most + 1) (l.drop p) = ((0, (nn : Int), .nil), q - p) := by
                      have e1 := HV.out
                      have e2 := HE.out
                      rw [hD] at e1 e2
                      have e3 := HN.out
                      rw [e1] at e3
                      rw [e3]
                      simp only [Prod.mk.injEq, true_and] at e2 ⊢
                      omega
                    have hfin := fun x y u => he_end (z := (q : Int)) (k := .nil) (a := none) (c := 0) hfn (by omega) HBB.out (.inl rfl) x y u
                    have HFIN := Lib.hid hfin
                    clear hD hfn hfin
                    go_wp2_with fail
                    refine bodyPost_ret (v := .tuple #[.agg #[.int .i64 0, .int .i64 (nn : Int), .slice none 0 0], .int .i64 (q : Int)]) ?_ rfl (HFIN.out _ _ _)
                    simp [results, Tryz.results35, go_sem, hr0, hr1, hr2]
                · have t3 : decide (b2.toNat ≤ 57) = false := decide_eq_false h3
                  have t3i : decide ((b2.toNat : Int) ≤ 57) = false := decide_eq_false (by omega)
                  have hD : hearD nn (l.drop q) = (nn, 0) := by
                    rw [HDR2.out]; unfold hearD; rw [if_neg fun h => by have := h.1; unfold isDig at this; rw [t3] at this; simp at this]
                  have hfn : hearN (most + 1) (l.drop p) = ((0, (nn : Int), .nil), q - p) := by
                    have e1 := HV.out
                    have e2 := HE.out
                    rw [hD] at e1 e2
                    have e3 := HN.out
                    rw [e1] at e3
                    rw [e3]
                    simp only [Prod.mk.injEq, true_and] at e2 ⊢
                    omega
                  have hfin := fun x y u => he_end (z := (q : Int)) (k := .nil) (a := none) (c := 0) hfn (by omega) HBB.out (.inl rfl) x y u
                  have HFIN := Lib.hid hfin
                  clear hD hfn hfin
                  go_wp2_with fail
                  refine bodyPost_ret (v := .tuple #[.agg #[.int .i64 0, .int .i64 (nn : Int), .slice none 0 0], .int .i64 (q : Int)]) ?_ rfl (HFIN.out _ _ _)
                  simp [results, Tryz.results35, go_sem, hr0, hr1, hr2]
              · have t2 : decide (48 ≤ b2.toNat) = false := decide_eq_false h2
                have t2i : decide ((48 : Int) ≤ (b2.toNat : Int)) = false := decide_eq_false (by omega)
                have hD : hearD nn (l.drop q) = (nn, 0) := by
                  rw [HDR2.out]; unfold hearD; rw [if_neg fun h => by have := h.1; unfold isDig at this; rw [t2] at this; simp at this]
                have hfn : hearN (most + 1) (l.drop p) = ((0, (nn : Int), .nil), q - p) := by
                  have e1 := HV.out
                  have e2 := HE.out
                  rw [hD] at e1 e2
                  have e3 := HN.out
                  rw [e1] at e3
                  rw [e3]
                  simp only [Prod.mk.injEq, true_and] at e2 ⊢
                  omega
                have hfin := fun x y u => he_end (z := (q : Int)) (k := .nil) (a := none) (c := 0) hfn (by omega) HBB.out (.inl rfl) x y u
                have HFIN := Lib.hid hfin
                clear hD hfn hfin
                go_wp2_with fail
                refine bodyPost_ret (v := .tuple #[.agg #[.int .i64 0, .int .i64 (nn : Int), .slice none 0 0], .int .i64 (q : Int)]) ?_ rfl (HFIN.out _ _ _)
                simp [results, Tryz.results35, go_sem, hr0, hr1, hr2]
            · have t1 : decide (q < l.length) = false := decide_eq_false h1
              have HV := Lib.hid hv
              have HE := Lib.hid he
              clear hv he
              have hD : hearD nn (l.drop q) = (nn, 0) := by rw [List.drop_eq_nil_of_le (by omega)]; rfl
              have hfn : hearN (most + 1) (l.drop p) = ((0, (nn : Int), .nil), q - p) := by
                have e1 := HV.out
                have e2 := HE.out
                rw [hD] at e1 e2
                have e3 := HN.out
                rw [e1] at e3
                rw [e3]
                simp only [Prod.mk.injEq, true_and] at e2 ⊢
                omega
              have hfin := fun x y u => he_end (z := (q : Int)) (k := .nil) (a := none) (c := 0) hfn (by omega) HBB.out (.inl rfl) x y u
              have HFIN := Lib.hid hfin
              clear hD hfn hfin
              go_wp2_with fail
              refine bodyPost_ret (v := .tuple #[.agg #[.int .i64 0, .int .i64 (nn : Int), .slice none 0 0], .int .i64 (q : Int)]) ?_ rfl (HFIN.out _ _ _)
              simp [results, Tryz.results35, go_sem, hr0, hr1, hr2]
        · have hq : ((b.toNat : Int) == 120) = false := by
            have : (b.toNat : Int) ≠ 120 := fun e => hx (UInt8.toNat_inj.1 (by simpa using (by omega : b.toNat = 120)))
            simpa using this
          obtain ⟨n, hn⟩ : ∃ n, n = (ar (sgnB b)).toNat := ⟨_, rfl⟩
          have hn2 : n ≤ 2 := by rw [hn]; rcases sgnB_range b with h | h | h | h | h <;> rw [h] <;> decide
          have hN2 : hearN (most + 1) (l.drop p) = ((sgnB b, 0, (hearKs most n r).1), 1 + (hearKs most n r).2 + if 0 < n then 1 else 0) := by rw [HDR.out]; exact hearN_sym hx r hn
          have hnar : ∀ j : Nat, decide ((j : Int) < ar (sgnB b)) = decide (j < n) := fun j => by
            apply Bool.eq_iff_iff.2
            simp only [decide_eq_true_eq]
            omega
          have HN := Lib.hid hN2
          have HNAR := Lib.hid hnar
          obtain ⟨s, hs⟩ : ∃ s, s = sgnB b := ⟨_, rfl⟩
          rw [← hs] at HN HNAR ⊢
          have HNS := Lib.hid hn
          clear hN2 hx hn hnar hs hr0 hr1 hr2 hq0 hq1 hq2
          have hst : ∃ (ks : List (Int × Int × Fo)) (d q : Nat) (A : Option Addr) (C : Nat), ks.length ≤ n ∧ Value.int .i64 0 = .int .i64 (ks.length : Int) ∧ Value.int .i64 ((p : Int) + 1) = .int .i64 (q : Int) ∧ Hid (q = p + 1 + d ∧ d ≤ ks.length * 1100000) ∧ HrSt most n r ks d ∧ HeAt w1 s ks A C (w1.alloc (.cells #[.int .i64 s, .int .i64 0, .slice none 0 0] 25)) :=
            ⟨[], 0, p + 1, none, 0, Nat.zero_le _, rfl, by simp, ⟨rfl, Nat.zero_le _⟩, HrSt.start _ _ _, HeAt.start _ _⟩
          have HST := Lib.hid hst
          have hrl : r.length ≤ 1048576 := by
            have := congrArg List.length HDR.out
            simp only [List.length_drop, List.length_cons] at this
            have := HL.out
            omega
          have HRL := Lib.hid hrl
          have hfm : most ≤ 100 := by have := HM.out; omega
          have hm1 : m ≤ 101 := by have := E2.out; omega
          have hm2 : 1 ≤ m := by have := E2.out; omega
          clear hst hrl
          go_wp2_with fail
          go_loopw [1, 12] (fun a i wr => ∃ (ks : List (Int × Int × Fo)) (d q : Nat) (A : Option Addr) (C : Nat), ks.length ≤ n ∧ i = .int .i64 (ks.length : Int) ∧ a = .int .i64 (q : Int) ∧ Hid (q = p + 1 + d ∧ d ≤ ks.length * 1100000) ∧ HrSt most n r ks d ∧ HeAt w1 s ks A C wr) (fun _ i _ => n - (intOf i).toNat)
          case atStart => exact HST.out
          case round =>
            clear HST
            obtain ⟨ks, d, q, A, C, hkn, rfl, rfl, HQD, hsta, hat⟩ := hrel
            have HSTA := Lib.hid hsta
            have HAT := Lib.hid hat
            have hqb : q ≤ 1000000000 := by
              have h1 := HQD.out
              have h2 := HP.out
              have h3 : ks.length * 1100000 ≤ 2 * 1100000 := Nat.mul_le_mul_right _ (by omega)
              omega
            clear hsta hat
            by_cases hlt : ks.length < n
            · have ht : decide ((ks.length : Int) < ar s) = true := by rw [HNAR.out]; exact decide_eq_true hlt
              go_wp2_with (go_at_call 42; refine (l1Kids_any _ _).mono ?_; rintro e w2 ⟨rfl, hb2⟩)
              have HAT2 := Lib.hid (HAT.out.low hb2)
              have hih := IH.out l (q + 1) w2 HL.out (by
                have h1 := HQD.out
                have h2 := HP.out
                have h3 : ks.length * 1100000 ≤ 1 * 1100000 := Nat.mul_le_mul_right _ (by omega)
                omega)
              rw [show ((q + 1 : Nat) : Int) = (q : Int) + 1 from by omega, ← E2.out] at hih
              have HIH := Lib.hid hih
              clear hih hb2
              with_reducible refine HIH.out.mono ?_
              rintro e w3 ⟨a2, c2, sk, vk, kk, n', z, hr', hz', rfl, hb3, hl3⟩
              have hs2 := HAT2.out.size
              have hs3 := hb3.size
              have HAT3 := Lib.hid (HAT2.out.low hb3)
              have hb4 : Below w2.heap.size w2 (w3.alloc (.cells #[.int .i64 sk, .int .i64 vk, .slice a2 (flen kk) c2] 25)) := hb3.alloc (by omega) _
              have hl4 : Sl (w3.alloc (.cells #[.int .i64 sk, .int .i64 vk, .slice a2 (flen kk) c2] 25)) w2.heap.size (w3.alloc (.cells #[.int .i64 sk, .int .i64 vk, .slice a2 (flen kk) c2] 25)).heap.size a2 kk := (hl3.below ((Below.refl _ _).alloc (Nat.le_refl _) _)).mono (Nat.le_refl _) (by simp)
              obtain ⟨xs, hown, hall⟩ := own_more HAT2.out.own (.node 0 0 (sk, vk) kk .nil)
              obtain ⟨ti, hti, htz, hts, htb⟩ := Tryz.infoTerm
              have ho2 := HAT3.out.out2
              have hof := HAT3.out.free
              have HTI := Lib.hid hti
              have HTZ := Lib.hid htz
              have HTS := Lib.hid hts
              have HTB := Lib.hid htb
              have HB4 := Lib.hid hb4
              have HL4 := Lib.hid hl4
              have HOWN := Lib.hid hown
              have HALL := Lib.hid hall
              have HR := Lib.hid hr'
              have HZ := Lib.hid hz'
              have HLT : Hid (∀ g, (Value.slice A ks.length C).ownBlock = some g → w1.heap.size + 1 ≤ g) := fun g hg => (hown.lt g hg).1
              have hlt3 : w1.heap.size < w3.heap.size := by omega
              have ho4 : (w3.alloc (.cells #[.int .i64 sk, .int .i64 vk, .slice a2 (flen kk) c2] 25)).cell? ⟨w1.heap.size, 2, none⟩ = some (.slice A ks.length C) := by rw [World.cell?_alloc_lt _ _ _ (by simp; omega)]; exact ho2
              have hnews : ∀ (j : Nat) u, [Value.int .i64 sk, .int .i64 vk, .slice a2 (flen kk) c2][j]? = some u → ((w3.alloc (.cells #[.int .i64 sk, .int .i64 vk, .slice a2 (flen kk) c2] 25)).alloc (.cells #[.int .i64 sk, .int .i64 vk, .slice a2 (flen kk) c2] 25)).cell? ((⟨w3.heap.size + 1, 0, none⟩ : Addr).add j) = some u := by
                rw [← World.size_alloc w3 (.cells #[.int .i64 sk, .int .i64 vk, .slice a2 (flen kk) c2] 25)]
                exact World.news_of_block (heap_alloc_new _ _)
              have HNEWS := Lib.hid hnews
              have hzz2 : ∀ w5, Below (w1.heap.size + 1) w2 w5 → w5.cell? ⟨w1.heap.size, 2, none⟩ = some (.slice A ks.length C) := fun w5 h => by rw [h.cell (by simp)]; exact HAT2.out.out2
              have hzz3 : ∀ w5, Below (w1.heap.size + 1) w2 w5 → w5.frozen? ⟨w1.heap.size, 2, none⟩ = false := fun w5 h => by rw [h.frozen (by simp)]; exact HAT2.out.free
              have HZ2 := Lib.hid hzz2
              have HZ3 := Lib.hid hzz3
              clear hnews hzz2 hzz3
              clear hti htz hts htb hb4 hl4 hown hall hr' hz' hb3 hl3 HIH
              go_wp2_with (at_builtin; refine wpList_append_lies _ rfl _ _ 23 rfl (w1.heap.size + 1) 25 ti _ 3 40 Tryz.underlying23 HTI.out HTZ.out HTS.out HTB.out rfl (by omega) (.slice A ks.length C) ks.length xs rfl (own_low ((Below.refl _ _).alloc (Nat.le_refl _) _) (own_low HB4.out HOWN.out)) ⟨w3.heap.size + 1, 0, none⟩ 1 1 [.int .i64 sk, .int .i64 vk, .slice a2 (flen kk) c2] rfl rfl HNEWS.out (by simp [Value.oneCell']) (by omega) (by unfold maxLen; omega) (by omega) (by simp; omega) (w3.heap.size + 1 + 1) (by simp) ?_; intro g cap w5 hown5 hgrow hat5 hg5; have HST5 := Lib.hid (HAT2.out.step HB4.out HL4.out HOWN.out HALL.out hown5 hgrow (by simpa using hat5)); have hlow : Below (w1.heap.size + 1) w2 w5 := ((HB4.out.mono (by omega)).alloc (by simp; omega) _).grown hgrow (by simp; omega) HLT.out; have hz2 : w5.cell? ⟨w1.heap.size, 2, none⟩ = some (.slice A ks.length C) := HZ2.out w5 hlow; have hz3 : w5.frozen? ⟨w1.heap.size, 2, none⟩ = false := HZ3.out w5 hlow; clear hown5 hgrow hat5 hg5 hlow)
              go_roundw
              case rel =>
                have hla : (ks ++ [((sk, vk, kk) : Int × Int × Fo)]).length = ks.length + 1 := by simp
                have hqd := HQD.out
                have hdr : r.drop (d + 1) = l.drop (q + 1) := by
                  rw [← HDR1.out, List.drop_drop, show p + 1 + (d + 1) = q + 1 from by omega]
                have hstep := HSTA.out.step (t := (sk, vk, kk)) (m := n') hlt (by rw [hdr]; exact HR.out)
                have hn' := hearN_len most (l.drop (q + 1))
                rw [HR.out] at hn'
                have hn'' : n' ≤ l.length + 3 * most := by
                  simp only [List.length_drop] at hn'
                  omega
                have hll := HL.out
                refine ⟨ks ++ [(sk, vk, kk)], d + (1 + n'), q + 1 + n', some ⟨g, 0, none⟩, cap, by rw [hla]; omega, by rw [hla]; go_num, ?_, ⟨by omega, ?_⟩, hstep, HST5.out⟩
                · rw [HZ.out]; congr 1
                · rw [hla, Nat.succ_mul]; omega
              case measure => simp [intOf]; omega
            · have hkn2 : ks.length = n := by omega
              have hdone := HSTA.out.done hkn2
              have ht : decide ((ks.length : Int) < ar s) = false := by rw [HNAR.out]; exact decide_eq_false hlt
              have hfl : flen (kpre ks .nil) = ks.length := by rw [flen_kpre]; simp [flen]
              have HFL := Lib.hid hfl
              have HDN := Lib.hid hdone
              clear hdone hfl hkn2
              by_cases h0 : 0 < n
              · have ht0 : decide (0 < ar s) = true := by have := HNAR.out 0; rw [show ((0 : Nat) : Int) = 0 from rfl] at this; rw [this]; exact decide_eq_true h0
                have hN3 : hearN (most + 1) (l.drop p) = ((s, 0, kpre ks .nil), 1 + d + 1) := by rw [HN.out, HDN.out, if_pos h0]
                have HN3 := Lib.hid hN3
                clear hN3
                go_wp2_with fail
                with_reducible refine (l1Kids_any s _).mono ?_
                rintro e w2 ⟨rfl, hb2⟩
                have HAT2 := Lib.hid (HAT.out.low hb2)
                clear hb2 HAT
                go_wp2_with fail
                with_reducible refine (l1Kids_any s _).mono ?_
                rintro e w3 ⟨rfl, hb3⟩
                have HAT3 := Lib.hid (HAT2.out.low hb3)
                clear hb3 HAT2
                have ho0 := HAT3.out.out0
                have ho1 := HAT3.out.out1
                have ho2 := HAT3.out.out2
                obtain ⟨hr0, hr1, hr2, hq0, hq1, hq2⟩ := he_cells (HBW.out.trans (HAT3.out.below.mono hsz1))
                have hsl := own_sl' HAT3.out.own
                have hfin := fun x y u => he_end (c := C) (z := (q : Int) + 1) HN3.out (by have := HQD.out.1; omega) (HBB.out.trans (HAT3.out.below.mono (by omega))) (hsl.mono (by omega) (Nat.le_refl _)) x y u
                rw [HFL.out] at hfin
                have HFIN := Lib.hid hfin
                clear hsl hfin
                go_wp2_with fail
                refine bodyPost_ret (v := .tuple #[.agg #[.int .i64 s, .int .i64 0, .slice A ks.length C], .int .i64 ((q : Int) + 1)]) ?_ rfl (HFIN.out _ _ _)
                simp [results, Tryz.results35, go_sem, hr0, hr1, hr2]
              · have ht0 : decide (0 < ar s) = false := by have := HNAR.out 0; rw [show ((0 : Nat) : Int) = 0 from rfl] at this; rw [this]; exact decide_eq_false h0
                have hN3 : hearN (most + 1) (l.drop p) = ((s, 0, kpre ks .nil), 1 + d + 0) := by rw [HN.out, HDN.out, if_neg h0]
                have HN3 := Lib.hid hN3
                clear hN3
                go_wp2_with fail
                with_reducible refine (l1Kids_any s _).mono ?_
                rintro e w2 ⟨rfl, hb2⟩
                have HAT2 := Lib.hid (HAT.out.low hb2)
                clear hb2 HAT
                go_wp2_with fail
                with_reducible refine (l1Kids_any s _).mono ?_
                rintro e w3 ⟨rfl, hb3⟩
                have HAT3 := Lib.hid (HAT2.out.low hb3)
                clear hb3 HAT2
                have ho0 := HAT3.out.out0
                have ho1 := HAT3.out.out1
                have ho2 := HAT3.out.out2
                obtain ⟨hr0, hr1, hr2, hq0, hq1, hq2⟩ := he_cells (HBW.out.trans (HAT3.out.below.mono hsz1))
                have hsl := own_sl' HAT3.out.own
                have hfin := fun x y u => he_end (c := C) (z := (q : Int)) HN3.out (by have := HQD.out.1; omega) (HBB.out.trans (HAT3.out.below.mono (by omega))) (hsl.mono (by omega) (Nat.le_refl _)) x y u
                rw [HFL.out] at hfin
                have HFIN := Lib.hid hfin
                clear hsl hfin
                go_wp2_with fail
                refine bodyPost_ret (v := .tuple #[.agg #[.int .i64 s, .int .i64 0, .slice A ks.length C], .int .i64 ((q : Int))]) ?_ rfl (HFIN.out _ _ _)
                simp [results, Tryz.results35, go_sem, hr0, hr1, hr2]
end Go.Proofs.YtbnbogdglffkmaaGreatDoor
