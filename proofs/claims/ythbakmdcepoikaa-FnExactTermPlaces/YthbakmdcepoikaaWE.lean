/- The reader of a code: l6Open, pick. -/
import Derived.Test.YthbakmdcepoikaaWD
namespace Go.Proofs.Ythbakmdcepoikaa
open Go.RowKit Go.Deep

/-- A reader lies in block br; its place is p. -/
structure Rd (w : World) (br p : Nat) : Prop where
  lt : br < w.heap.size
  place : w.cell? ⟨br, 1, none⟩ = some (.int .i64 p)
  free : w.frozen? ⟨br, 1, none⟩ = false
  text : ∃ a len cap, w.cell? ⟨br, 0, none⟩ = some (.slice a len cap) ∧ len ≤ 2000 ∧
    (len = 0 ∨ ∃ b o, a = some ⟨b, o, none⟩ ∧ b < br ∧ ∀ i, i < len → ∃ x : Nat, x < 256 ∧ w.cell? ⟨b, o + i, none⟩ = some (.int .u8 x))

theorem Rd.next {w w' : World} {br p p' : Nat} (h : Rd w br p) (hb : Below w.heap.size (w.setCell ⟨br, 1, none⟩ (.int .i64 p')) w') : Rd w' br p' := by
  have hs := hb.size
  simp at hs
  have hlt := h.lt
  refine ⟨by omega, ?_, ?_, ?_⟩
  · rw [hb.cell (by simp; omega)]
    exact World.cell?_setCell_same _ _ _ h.place
  · rw [hb.frozen (by simp; omega), World.frozen?_setCell]
    exact h.free
  · obtain ⟨a, len, cap, h0, h1, h2⟩ := h.text
    refine ⟨a, len, cap, ?_, h1, ?_⟩
    · rw [hb.cell (by simp; omega), World.cell?_setCell_other _ _ _ _ (by intro h'; have := congrArg Addr.off h'; simp at this)]
      exact h0
    · rcases h2 with h2 | ⟨b, o, e, h3, h4⟩
      · exact .inl h2
      · refine .inr ⟨b, o, e, h3, fun i hi => ?_⟩
        obtain ⟨x, hx, hc⟩ := h4 i hi
        exact ⟨x, hx, by rw [hb.cell (by simp; omega), World.cell?_setCell_other _ _ _ _ (by intro h'; have := congrArg Addr.block h'; simp at this; omega)]; exact hc⟩

def PickPost (n : Int) (br p : Nat) (w : World) (e : Ending) (w' : World) : Prop :=
  ∃ x : Nat, e = .returned (.int .i64 x) ∧ ((x : Int) < n ∨ n < 1 ∨ x = 0) ∧ Below w.heap.size (w.setCell ⟨br, 1, none⟩ (.int .i64 ((p + 1 : Nat) : Int))) w'

theorem xor_i64 (X : Nat) (h : X < 1000000000000) : ∃ Y : Nat, bits .xor .i64 (X : Int) ((X : Int) / 64) = Y := by
  have e : (X : Int) / 64 = ((X / 64 : Nat) : Int) := by simp
  rw [e]
  have hx : X ^^^ (X / 64) < 2 ^ 60 := Nat.xor_lt_two_pow (by omega) (by omega)
  refine ⟨X ^^^ (X / 64), ?_⟩
  have h1 : (BitVec.ofInt 64 (X : Int)).toNat = X := by
    rw [BitVec.ofInt_natCast, BitVec.toNat_ofNat]; exact Nat.mod_eq_of_lt (by omega)
  have h2 : (BitVec.ofInt 64 ((X / 64 : Nat) : Int)).toNat = X / 64 := by
    rw [BitVec.ofInt_natCast, BitVec.toNat_ofNat]; exact Nat.mod_eq_of_lt (by omega)
  show IntKind.i64.wrap ((BitVec.ofInt 64 (X : Int) ^^^ BitVec.ofInt 64 ((X / 64 : Nat) : Int)).toNat : Int) = _
  rw [BitVec.toNat_xor, h1, h2, IntKind.wrap_i64]
  omega

set_option maxRecDepth 100000 in
set_option maxHeartbeats 1000000 in
theorem pick_any (n : Int) (br p : Nat) (w : World) (h : Rd w br p) (hp : p ≤ 1000000000) (hn0 : -1000 ≤ n) (hn : n ≤ 1000000) :
    Calls Try.prog 33 #[.pointer (some ⟨br, 0, none⟩), .int .i64 n] w (PickPost n br p w) := by
  obtain ⟨hlt, hpl, hfr, a, len, cap, htx, hle, hby⟩ := h
  have HBY := Lib.hid hby
  clear hby
  by_cases h1 : n < 1
  · have e1 : decide (n < 1) = true := by simp; omega
    go_enter Try.func33, Try.ntmps33
    go_wp2_with fail
    go_ret
    exact ⟨0, rfl, .inr (.inl h1), Below.refl _ _⟩
  have e1 : decide (n < 1) = false := by simp; omega
  by_cases h2 : len = 0
  · subst h2
    go_enter Try.func33, Try.ntmps33
    go_wp2_with fail
    go_ret
    exact ⟨0, rfl, .inr (.inr rfl), Below.refl _ _⟩
  have e2 : ((len : Int) == 0) = false := by simp; omega
  obtain ⟨b, o, rfl, hbr, hby⟩ := HBY.out.resolve_left h2
  by_cases h3 : p < len
  · obtain ⟨x, hx, hxc⟩ := hby p h3
    clear HBY hby
    go_enter Try.func33, Try.ntmps33
    go_wp2_with fail
    go_ret
    obtain ⟨z, hz⟩ := Int.eq_ofNat_of_zero_le (Int.emod_nonneg (x : Int) (show n ≠ 0 by omega))
    exact ⟨z, by rw [← hz]; rfl, .inl (by rw [← hz]; exact Int.emod_lt_of_pos _ (by omega)), Below.refl _ _⟩
  · have hlen : 0 < len := by omega
    obtain ⟨q1, hq1⟩ : ∃ q1 : Nat, (p : Int) % (len : Int) = q1 := ⟨p % len, by simp⟩
    obtain ⟨q2, hq2⟩ : ∃ q2 : Nat, ((p : Int) * 7 + 3) % (len : Int) = q2 := ⟨(p * 7 + 3) % len, by simp⟩
    obtain ⟨q3, hq3⟩ : ∃ q3 : Nat, (p : Int) / (len : Int) = q3 := ⟨p / len, by simp⟩
    have hl1 : q1 < len := by have := Int.emod_lt_of_pos (p : Int) (show (0 : Int) < len by omega); omega
    have hl2 : q2 < len := by have := Int.emod_lt_of_pos ((p : Int) * 7 + 3) (show (0 : Int) < len by omega); omega
    have hl3 : q3 ≤ 1000000000 := by have := Int.ediv_le_self (len : Int) (show (0 : Int) ≤ p by omega); omega
    obtain ⟨x1, hx1, hc1⟩ := hby q1 hl1
    obtain ⟨x2, hx2, hc2⟩ := hby q2 hl2
    clear HBY hby
    have hr0 : ∀ u : After w.heap.size (w.setCell ⟨br, 1, none⟩ (.int .i64 ((p : Int) + 1))), u.world.cell? ⟨br, 0, none⟩ = some (.slice (some ⟨b, o, none⟩) len cap) := fun u =>
      u.cell (by simp; omega) (by rw [World.cell?_setCell_other _ _ _ _ (by intro h'; have := congrArg Addr.off h'; simp at this)]; exact htx)
    have hr1 : ∀ u : After w.heap.size (w.setCell ⟨br, 1, none⟩ (.int .i64 ((p : Int) + 1))), u.world.cell? ⟨b, o + q1, none⟩ = some (.int .u8 x1) := fun u =>
      u.cell (by simp; omega) (by rw [World.cell?_setCell_other _ _ _ _ (by intro h'; have := congrArg Addr.block h'; simp at this; omega)]; exact hc1)
    have hr2 : ∀ u : After w.heap.size (w.setCell ⟨br, 1, none⟩ (.int .i64 ((p : Int) + 1))), u.world.cell? ⟨b, o + q2, none⟩ = some (.int .u8 x2) := fun u =>
      u.cell (by simp; omega) (by rw [World.cell?_setCell_other _ _ _ _ (by intro h'; have := congrArg Addr.block h'; simp at this; omega)]; exact hc2)
    go_enter Try.func33, Try.ntmps33
    go_wp2_with fail
    refine wp_region_after w.heap.size (by kernel_rfl) (by kernel_rfl) ?_
    repeat (go_big_quiet_step (fail))
    refine wpQuiet_nil ?_
    rintro u ⟨⟨_, hu⟩, rfl⟩
    clear hr0 hr1 hr2 hc1 hc2 hq1 hq2 hq3
    obtain ⟨X, hX⟩ : ∃ X : Nat, (x1 : Int) * 131 + x2 * 1117 + p * 29 + q3 * 53 = X := ⟨x1 * 131 + x2 * 1117 + p * 29 + q3 * 53, by omega⟩
    have hXb : X < 1000000000000 := by omega
    simp only [hX]
    clear hX
    have hxor := xor_i64 X (by omega)
    obtain ⟨Y, hY⟩ := hxor
    go_wp2_with fail
    go_ret
    obtain ⟨z, hz⟩ := Int.eq_ofNat_of_zero_le (Int.emod_nonneg (Y : Int) (show n ≠ 0 by omega))
    refine ⟨z, ?_, .inl (by rw [← hz]; exact Int.emod_lt_of_pos _ (by omega)), by simpa using hu⟩
    show Ending.returned (.int .i64 ((Y : Int) % n)) = _
    rw [hz]

/-- The bytes that a slice shows. -/
def Bytes (w : World) (a : Option Addr) (len : Nat) : Prop := len = 0 ∨ ∃ b o, a = some ⟨b, o, none⟩ ∧ b < w.heap.size ∧ ∀ i, i < len → ∃ x : Nat, x < 256 ∧ w.cell? ⟨b, o + i, none⟩ = some (.int .u8 x)

def OpenPost (w : World) (e : Ending) (w' : World) : Prop := e = .returned (.pointer (some ⟨w.heap.size, 0, none⟩)) ∧ Below w.heap.size w w' ∧ Rd w' w.heap.size 0

theorem open_rd {w : World} {a : Option Addr} {len m cap : Nat} (h : Bytes w a len) (hm : m ≤ len) (h2 : m ≤ 2000) : Rd (w.alloc (.cells #[.slice a m cap, .int .i64 0] 68)) w.heap.size 0 := by
  refine ⟨by simp, by simp, by simp, ⟨a, m, cap, by simp, h2, ?_⟩⟩
  rcases h with h | ⟨b, o, e, hb, h⟩
  · exact .inl (by omega)
  · refine .inr ⟨b, o, e, hb, fun i hi => ?_⟩
    obtain ⟨x, hx, hc⟩ := h i (by omega)
    exact ⟨x, hx, by rw [World.cell?_alloc_lt _ _ _ hb]; exact hc⟩

set_option maxHeartbeats 400000 in
theorem l6Open_any (a : Option Addr) (len cap : Nat) (w : World) (hby : Bytes w a len) (hlen : len ≤ cap) :
    Calls Try.prog 32 #[.slice a len cap] w (OpenPost w) := by
  by_cases h : 2000 < len
  · rcases hby with hby | ⟨b, o, rfl, hb, hby⟩
    · omega
    have hr := open_rd (m := 2000) (cap := cap) (.inr ⟨b, o, rfl, hb, hby⟩) (by omega) (by omega)
    have HR := Lib.hid hr
    clear hr hby
    go_enter Try.func32, Try.ntmps32
    go_wp2_with fail
    go_ret
    exact ⟨rfl, (Below.refl _ _).alloc (Nat.le_refl _) _, HR.out⟩
  · have hr := open_rd (m := len) (cap := cap) hby (by omega) (by omega)
    have HR := Lib.hid hr
    clear hr hby
    go_enter Try.func32, Try.ntmps32
    go_wp2_with fail
    go_ret
    exact ⟨rfl, (Below.refl _ _).alloc (Nat.le_refl _) _, HR.out⟩
end Go.Proofs.Ythbakmdcepoikaa
