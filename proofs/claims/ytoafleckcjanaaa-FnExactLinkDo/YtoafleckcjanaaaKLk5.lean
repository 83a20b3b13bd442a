/- Several texts in one: WE, WF, Mix. -/
import Derived.Test.YtoafleckcjanaaaKLk4
import Derived.OrdersHeld
import Derived.Tactics
import Derived.Tactics2

/-! WE: The reader of a code: l6Open, pick. -/
namespace Go.Proofs.Ytoafleckcjanaaa
open Go.RowKit Go.Deep

/-- A reader lies in block br; its place is p. -/
structure Rd (w : World) (br p : Nat) : Prop where
  lt : br < w.heap.size
  place : w.cell? ⟨br, 1, none⟩ = some (.int .i64 p)
  free : w.frozen? ⟨br, 1, none⟩ = false
  text : ∃ a len cap, w.cell? ⟨br, 0, none⟩ = some (.slice a len cap) ∧ len ≤ 2000 ∧
    (len = 0 ∨ ∃ b o, a = some ⟨b, o, none⟩ ∧ b < br ∧ ∀ i, i < len → ∃ x : Nat, x < 256 ∧ w.cell? ⟨b, o + i, none⟩ = some (.int .u8 x))

theorem Rd.next {w w' : World} {br p p' : Nat} (h : Rd w br p) (hb : Below w.heap.size (w.setCell ⟨br, 1, none⟩ (.int .i64 p')) w') : Rd w' br p' := by
  have hs := hb.size
  simp at hs
  have hlt := h.lt
  refine ⟨by omega, ?_, ?_, ?_⟩
  · rw [hb.cell (by simp; omega)]
    exact World.cell?_setCell_same _ _ _ h.place
  · rw [hb.frozen (by simp; omega), World.frozen?_setCell]
    exact h.free
  · obtain ⟨a, len, cap, h0, h1, h2⟩ := h.text
    refine ⟨a, len, cap, ?_, h1, ?_⟩
    · rw [hb.cell (by simp; omega), World.cell?_setCell_other _ _ _ _ (by intro h'; have := congrArg Addr.off h'; simp at this)]
      exact h0
    · rcases h2 with h2 | ⟨b, o, e, h3, h4⟩
      · exact .inl h2
      · refine .inr ⟨b, o, e, h3, fun i hi => ?_⟩
        obtain ⟨x, hx, hc⟩ := h4 i hi
        exact ⟨x, hx, by rw [hb.cell (by simp; omega), World.cell?_setCell_other _ _ _ _ (by intro h'; have := congrArg Addr.block h'; simp at this; omega)]; exact hc⟩

def PickPost (n : Int) (br p : Nat) (w : World) (e : Ending) (w' : World) : Prop :=
  ∃ x : Nat, e = .returned (.int .i64 x) ∧ ((x : Int) < n ∨ n < 1 ∨ x = 0) ∧ Below w.heap.size (w.setCell ⟨br, 1, none⟩ (.int .i64 ((p + 1 : Nat) : Int))) w'

theorem xor_i64 (X : Nat) (h : X < 1000000000000) : ∃ Y : Nat, bits .xor .i64 (X : Int) ((X : Int) / 64) = Y := by
  have e : (X : Int) / 64 = ((X / 64 : Nat) : Int) := by simp
  rw [e]
  have hx : X ^^^ (X / 64) < 2 ^ 60 := Nat.xor_lt_two_pow (by omega) (by omega)
  refine ⟨X ^^^ (X / 64), ?_⟩
  have h1 : (BitVec.ofInt 64 (X : Int)).toNat = X := by
    rw [BitVec.ofInt_natCast, BitVec.toNat_ofNat]; exact Nat.mod_eq_of_lt (by omega)
  have h2 : (BitVec.ofInt 64 ((X / 64 : Nat) : Int)).toNat = X / 64 := by
    rw [BitVec.ofInt_natCast, BitVec.toNat_ofNat]; exact Nat.mod_eq_of_lt (by omega)
  show IntKind.i64.wrap ((BitVec.ofInt 64 (X : Int) ^^^ BitVec.ofInt 64 ((X / 64 : Nat) : Int)).toNat : Int) = _
  rw [BitVec.toNat_xor, h1, h2, IntKind.wrap_i64]
  omega

set_option maxRecDepth 100000 in
set_option maxHeartbeats 1000000 in
theorem pick_any (n : Int) (br p : Nat) (w : World) (h : Rd w br p) (hp : p ≤ 1000000000) (hn0 : -1000 ≤ n) (hn : n ≤ 1000000) :
    Calls Try.prog 69 #[.pointer (some ⟨br, 0, none⟩), .int .i64 n] w (PickPost n br p w) := by
  obtain ⟨hlt, hpl, hfr, a, len, cap, htx, hle, hby⟩ := h
  have HBY := Lib.hid hby
  clear hby
  by_cases h1 : n < 1
  · have e1 : decide (n < 1) = true := by simp; omega
    go_enter Try.func69, Try.ntmps69
    go_wp2_with fail
    go_ret
    exact ⟨0, rfl, .inr (.inl h1), Below.refl _ _⟩
  have e1 : decide (n < 1) = false := by simp; omega
  by_cases h2 : len = 0
  · subst h2
    go_enter Try.func69, Try.ntmps69
    go_wp2_with fail
    go_ret
    exact ⟨0, rfl, .inr (.inr rfl), Below.refl _ _⟩
  have e2 : ((len : Int) == 0) = false := by simp; omega
  obtain ⟨b, o, rfl, hbr, hby⟩ := HBY.out.resolve_left h2
  by_cases h3 : p < len
  · obtain ⟨x, hx, hxc⟩ := hby p h3
    clear HBY hby
    go_enter Try.func69, Try.ntmps69
    go_wp2_with fail
    go_ret
    obtain ⟨z, hz⟩ := Int.eq_ofNat_of_zero_le (Int.emod_nonneg (x : Int) (show n ≠ 0 by omega))
    exact ⟨z, by rw [← hz]; rfl, .inl (by rw [← hz]; exact Int.emod_lt_of_pos _ (by omega)), Below.refl _ _⟩
  · have hlen : 0 < len := by omega
    obtain ⟨q1, hq1⟩ : ∃ q1 : Nat, (p : Int) % (len : Int) = q1 := ⟨p % len, by simp⟩
    obtain ⟨q2, hq2⟩ : ∃ q2 : Nat, ((p : Int) * 7 + 3) % (len : Int) = q2 := ⟨(p * 7 + 3) % len, by simp⟩
    obtain ⟨q3, hq3⟩ : ∃ q3 : Nat, (p : Int) / (len : Int) = q3 := ⟨p / len, by simp⟩
    have hl1 : q1 < len := by have := Int.emod_lt_of_pos (p : Int) (show (0 : Int) < len by omega); omega
    have hl2 : q2 < len := by have := Int.emod_lt_of_pos ((p : Int) * 7 + 3) (show (0 : Int) < len by omega); omega
    have hl3 : q3 ≤ 1000000000 := by have := Int.ediv_le_self (len : Int) (show (0 : Int) ≤ p by omega); omega
    obtain ⟨x1, hx1, hc1⟩ := hby q1 hl1
    obtain ⟨x2, hx2, hc2⟩ := hby q2 hl2
    clear HBY hby
    have hr0 : ∀ u : After w.heap.size (w.setCell ⟨br, 1, none⟩ (.int .i64 ((p : Int) + 1))), u.world.cell? ⟨br, 0, none⟩ = some (.slice (some ⟨b, o, none⟩) len cap) := fun u =>
      u.cell (by simp; omega) (by rw [World.cell?_setCell_other _ _ _ _ (by intro h'; have := congrArg Addr.off h'; simp at this)]; exact htx)
    have hr1 : ∀ u : After w.heap.size (w.setCell ⟨br, 1, none⟩ (.int .i64 ((p : Int) + 1))), u.world.cell? ⟨b, o + q1, none⟩ = some (.int .u8 x1) := fun u =>
      u.cell (by simp; omega) (by rw [World.cell?_setCell_other _ _ _ _ (by intro h'; have := congrArg Addr.block h'; simp at this; omega)]; exact hc1)
    have hr2 : ∀ u : After w.heap.size (w.setCell ⟨br, 1, none⟩ (.int .i64 ((p : Int) + 1))), u.world.cell? ⟨b, o + q2, none⟩ = some (.int .u8 x2) := fun u =>
      u.cell (by simp; omega) (by rw [World.cell?_setCell_other _ _ _ _ (by intro h'; have := congrArg Addr.block h'; simp at this; omega)]; exact hc2)
    go_enter Try.func69, Try.ntmps69
    go_wp2_with fail
    refine wp_region_after w.heap.size (by kernel_rfl) (by kernel_rfl) ?_
    repeat (go_big_quiet_step (fail))
    refine wpQuiet_nil ?_
    rintro u ⟨⟨_, hu⟩, rfl⟩
    clear hr0 hr1 hr2 hc1 hc2 hq1 hq2 hq3
    obtain ⟨X, hX⟩ : ∃ X : Nat, (x1 : Int) * 131 + x2 * 1117 + p * 29 + q3 * 53 = X := ⟨x1 * 131 + x2 * 1117 + p * 29 + q3 * 53, by omega⟩
    have hXb : X < 1000000000000 := by omega
    simp only [hX]
    clear hX
    have hxor := xor_i64 X (by omega)
    obtain ⟨Y, hY⟩ := hxor
    go_wp2_with fail
    go_ret
    obtain ⟨z, hz⟩ := Int.eq_ofNat_of_zero_le (Int.emod_nonneg (Y : Int) (show n ≠ 0 by omega))
    refine ⟨z, ?_, .inl (by rw [← hz]; exact Int.emod_lt_of_pos _ (by omega)), by simpa using hu⟩
    show Ending.returned (.int .i64 ((Y : Int) % n)) = _
    rw [hz]

/-- The bytes that a slice shows. -/
def Bytes (w : World) (a : Option Addr) (len : Nat) : Prop := len = 0 ∨ ∃ b o, a = some ⟨b, o, none⟩ ∧ b < w.heap.size ∧ ∀ i, i < len → ∃ x : Nat, x < 256 ∧ w.cell? ⟨b, o + i, none⟩ = some (.int .u8 x)

def OpenPost (w : World) (e : Ending) (w' : World) : Prop := e = .returned (.pointer (some ⟨w.heap.size, 0, none⟩)) ∧ Below w.heap.size w w' ∧ Rd w' w.heap.size 0

theorem open_rd {w : World} {a : Option Addr} {len m cap : Nat} (h : Bytes w a len) (hm : m ≤ len) (h2 : m ≤ 2000) : Rd (w.alloc (.cells #[.slice a m cap, .int .i64 0] 132)) w.heap.size 0 := by
  refine ⟨by simp, by simp, by simp, ⟨a, m, cap, by simp, h2, ?_⟩⟩
  rcases h with h | ⟨b, o, e, hb, h⟩
  · exact .inl (by omega)
  · refine .inr ⟨b, o, e, hb, fun i hi => ?_⟩
    obtain ⟨x, hx, hc⟩ := h i (by omega)
    exact ⟨x, hx, by rw [World.cell?_alloc_lt _ _ _ hb]; exact hc⟩

set_option maxHeartbeats 400000 in
theorem l6Open_any (a : Option Addr) (len cap : Nat) (w : World) (hby : Bytes w a len) (hlen : len ≤ cap) :
    Calls Try.prog 66 #[.slice a len cap] w (OpenPost w) := by
  by_cases h : 2000 < len
  · rcases hby with hby | ⟨b, o, rfl, hb, hby⟩
    · omega
    have hr := open_rd (m := 2000) (cap := cap) (.inr ⟨b, o, rfl, hb, hby⟩) (by omega) (by omega)
    have HR := Lib.hid hr
    clear hr hby
    go_enter Try.func66, Try.ntmps66
    go_wp2_with fail
    go_ret
    exact ⟨rfl, (Below.refl _ _).alloc (Nat.le_refl _) _, HR.out⟩
  · have hr := open_rd (m := len) (cap := cap) hby (by omega) (by omega)
    have HR := Lib.hid hr
    clear hr hby
    go_enter Try.func66, Try.ntmps66
    go_wp2_with fail
    go_ret
    exact ⟨rfl, (Below.refl _ _).alloc (Nat.le_refl _) _, HR.out⟩
end Go.Proofs.Ytoafleckcjanaaa

/-! WF: l71Var, l71Of, l71Term. -/
namespace Go.Proofs.Ytoafleckcjanaaa
open Go.RowKit Go.Deep

set_option maxHeartbeats 400000 in
theorem l71Var_any (v : Int) (w : World) :
    Calls Try.prog 106 #[.int .i64 v] w fun e w' => e = .returned (.agg #[.int .i64 0, .int .i64 v, .slice none 0 0]) ∧ Below w.heap.size w w' := by
  go_enter Try.func106, Try.ntmps106
  go_wp2_with fail
  exact bodyPost_ret (v := .agg #[.int .i64 0, .int .i64 v, .slice none 0 0]) (by simp [results, Try.results106, go_sem]) rfl ⟨rfl, (Below.refl _ _).alloc (Nat.le_refl _) _⟩

set_option maxHeartbeats 400000 in
theorem l71Of_any (s : Int) (a : Option Addr) (n c : Nat) (w : World) :
    Calls Try.prog 104 #[.int .i64 s, .slice a n c] w fun e w' => e = .returned (.agg #[.int .i64 s, .int .i64 0, .slice a n c]) ∧ Below w.heap.size w w' := by
  go_enter Try.func104, Try.ntmps104
  go_wp2_with fail
  exact bodyPost_ret (v := .agg #[.int .i64 s, .int .i64 0, .slice a n c]) (by simp [results, Try.results104, go_sem]) rfl ⟨rfl, (Below.refl _ _).alloc (Nat.le_refl _) _⟩

/-- The reader has gone on to p; all else that was there is as it was. -/
def Adv (w : World) (br p : Nat) (w' : World) : Prop := Below w.heap.size (w.setCell ⟨br, 1, none⟩ (.int .i64 p)) w'
theorem Adv.size {w w' : World} {br p : Nat} (h : Adv w br p w') : w.heap.size ≤ w'.heap.size := by have := Below.size h; simpa using this
theorem Adv.rd {w w' : World} {br p p' : Nat} (h : Adv w br p' w') (hr : Rd w br p) : Rd w' br p' := hr.next h
theorem Adv.start {w w' : World} {br p : Nat} (hr : Rd w br p) (h : Below w.heap.size w w') : Adv w br p w' := bl_self h hr.place
theorem Adv.more {w w1 w2 : World} {br p : Nat} (h : Adv w br p w1) (h' : Below w1.heap.size w1 w2) : Adv w br p w2 := Below.trans h (h'.mono h.size)
theorem Adv.trans {w w1 w2 : World} {br p p' : Nat} (h : Adv w br p w1) (h' : Adv w1 br p' w2) : Adv w br p' w2 := bl_room h h' h.size
theorem Adv.store {w w' : World} {br p : Nat} (h : Adv w br p w') {q : Addr} (hq : w.heap.size ≤ q.block) (u : Value) : Adv w br p (w'.setCell q u) := Below.setCell h hq u
theorem Adv.alloc {w w' : World} {br p : Nat} (h : Adv w br p w') (o : Obj) : Adv w br p (w'.alloc o) := Below.alloc h h.size o
theorem Adv.cell {w w' : World} {br p : Nat} (h : Adv w br p w') {q : Addr} {v : Value} (hc : w.cell? q = some v) (hq : q.block ≠ br) : w'.cell? q = some v := by
  rw [Below.cell h (World.block_lt_of_cell? _ _ hc), World.cell?_setCell_other _ _ _ _ (fun h' => hq (by rw [← h']))]
  exact hc
theorem Adv.frozen {w w' : World} {br p : Nat} (h : Adv w br p w') {q : Addr} (hq : q.block < w.heap.size) : w'.frozen? q = w.frozen? q := by
  rw [Below.frozen h hq, World.frozen?_setCell]
theorem Adv.same {w w' : World} {br p lo B : Nat} (h : Adv w br p w') (hB : B ≤ w.heap.size) (hlo : br < lo ∨ B ≤ br) : Same lo B w w' := fun b h1 h2 => by
  rw [Below.block h b (by omega), Below.heap_setCell _ _ _ _ (by simp; omega)]
/-- The call's own result cell, its block laid at the call's head, and what the reader has become. -/
theorem Adv.off {w w' : World} {br p : Nat} {o : Obj} (h : Adv (w.alloc o) br p w') (hbr : br < w.heap.size) : Adv w br p w' := by
  unfold Adv at h ⊢
  rw [World.setCell_alloc_past _ _ _ _ hbr] at h
  exact after_top2 (by simp) (by simpa using h)

def DrawnPost (br p K S : Nat) (w : World) (e : Ending) (w' : World) : Prop :=
  ∃ s v a c k p', e = .returned (.agg #[.int .i64 s, .int .i64 v, .slice a (flen k) c]) ∧ p ≤ p' ∧ p' ≤ p + K ∧ 1 + fsz k ≤ S ∧ Adv w br p' w' ∧ Sl w' w.heap.size w'.heap.size a k

theorem Rd.alloc {w : World} {br p : Nat} (h : Rd w br p) (o : Obj) : Rd (w.alloc o) br p := h.next (bl_self ((Below.refl _ _).alloc (Nat.le_refl _) o) h.place)

theorem res_cells {w w' : World} {br p : Nat} {x y z : Value} {T : TypeId} (h : Adv (w.alloc (.cells #[x, y, z] T)) br p w') (hbr : br < w.heap.size) :
    w'.cell? ⟨w.heap.size, 0, none⟩ = some x ∧ w'.cell? ⟨w.heap.size, 1, none⟩ = some y ∧ w'.cell? ⟨w.heap.size, 2, none⟩ = some z ∧
      w'.frozen? ⟨w.heap.size, 0, none⟩ = false ∧ w'.frozen? ⟨w.heap.size, 1, none⟩ = false ∧ w'.frozen? ⟨w.heap.size, 2, none⟩ = false := by
  refine ⟨h.cell (by simp) (by simp; omega), h.cell (by simp) (by simp; omega), h.cell (by simp) (by simp; omega), ?_, ?_, ?_⟩
  all_goals
    rw [h.frozen (by simp)]
    simp

theorem drawn_end {w w2 : World} {br p p' K S : Nat} {s v : Int} {a : Option Addr} {c : Nat} {k : Fo} {o : Obj} {x y z : Value} (ha : Adv (w.alloc o) br p' w2) (hbr : br < w.heap.size) (h1 : p ≤ p') (h2 : p' ≤ p + K) (h3 : 1 + fsz k ≤ S)
    (hl : Sl w2 (w.heap.size + 1) w2.heap.size a k) : DrawnPost br p K S w (.returned (.agg #[.int .i64 s, .int .i64 v, .slice a (flen k) c])) (((w2.setCell ⟨w.heap.size, 0, none⟩ x).setCell ⟨w.heap.size, 1, none⟩ y).setCell ⟨w.heap.size, 2, none⟩ z) := by
  refine ⟨s, v, a, c, k, p', rfl, h1, h2, h3, (((ha.off hbr).store (by simp) _).store (by simp) _).store (by simp) _, ?_⟩
  have hs : Same (w.heap.size + 1) w2.heap.size w2 (((w2.setCell ⟨w.heap.size, 0, none⟩ x).setCell ⟨w.heap.size, 1, none⟩ y).setCell ⟨w.heap.size, 2, none⟩ z) :=
    (((Same.setCell (fun _ _ _ => rfl) (.inl (by simp)) _).setCell (.inl (by simp)) _).setCell (.inl (by simp)) _)
  exact (hl.same hs).mono (by omega) (by simp)

/-- So many picks at most, so large at most, for a term so deep. -/
def pkN : Nat → Nat
  | 0 => 3
  | d + 1 => 2 * pkN d + 3
def szN : Nat → Nat
  | 0 => 1
  | d + 1 => 2 * szN d + 1
theorem szN_pos : ∀ d, 1 ≤ szN d
  | 0 => Nat.le_refl _
  | d + 1 => by simp only [szN]; omega

/-- One kid, laid into a block of its own. -/
theorem kid1 {w : World} {lo : Nat} {s v : Int} {a : Option Addr} {c : Nat} {k : Fo} {T : TypeId} (hl : Sl w lo w.heap.size a k) (hlo : lo ≤ w.heap.size) :
    Sl (w.alloc (.cells #[.int .i64 s, .int .i64 v, .slice a (flen k) c] T)) lo (w.alloc (.cells #[.int .i64 s, .int .i64 v, .slice a (flen k) c] T)).heap.size (some ⟨w.heap.size, 0, none⟩) (.node 0 0 (s, v) k .nil) := by
  refine .inr ⟨_, _, rfl, hlo, by simp, by simp, by simp, ⟨a, c, by simp, ?_⟩, trivial⟩
  exact (hl.below ((Below.refl _ _).alloc (Nat.le_refl _) _)).mono (Nat.le_refl _) (by simp)
/-- Two kids, laid into a block of their own. -/
theorem kid2 {w : World} {lo : Nat} {s v s' v' : Int} {a a' : Option Addr} {c c' : Nat} {k k' : Fo} {T : TypeId} (hl : Sl w lo w.heap.size a k) (hl' : Sl w lo w.heap.size a' k') (hlo : lo ≤ w.heap.size) :
    Sl (w.alloc (.cells #[.int .i64 s, .int .i64 v, .slice a (flen k) c, .int .i64 s', .int .i64 v', .slice a' (flen k') c'] T)) lo
      (w.alloc (.cells #[.int .i64 s, .int .i64 v, .slice a (flen k) c, .int .i64 s', .int .i64 v', .slice a' (flen k') c'] T)).heap.size (some ⟨w.heap.size, 0, none⟩) (.node 0 0 (s, v) k (.node 0 0 (s', v') k' .nil)) := by
  refine .inr ⟨_, _, rfl, hlo, by simp, by simp, by simp, ⟨a, c, by simp, ?_⟩, ⟨hlo, by simp, by simp, by simp, ⟨a', c', by simp, ?_⟩, trivial⟩⟩
  · exact (hl.below ((Below.refl _ _).alloc (Nat.le_refl _) _)).mono (Nat.le_refl _) (by simp)
  · exact (hl'.below ((Below.refl _ _).alloc (Nat.le_refl _) _)).mono (Nat.le_refl _) (by simp)

set_option maxRecDepth 100000 in
set_option maxHeartbeats 1000000 in
theorem l71Term_any (D : Nat) : ∀ (deep vars : Int) (br p : Nat) (w : World), deep ≤ D → -1000 ≤ deep → D ≤ 20 → 1 ≤ vars → vars ≤ 1000 → Rd w br p → p + pkN D ≤ 100000000 →
    Calls Try.prog 91 #[.pointer (some ⟨br, 0, none⟩), .int .i64 deep, .int .i64 vars] w (DrawnPost br p (pkN D) (szN D) w) := by
  induction D with
  | zero =>
    intro deep vars br p w h1 h2 h3 h4 h5 hr hp
    have hpk : pkN 0 = 3 := rfl
    have HPK := Lib.hid hpk
    have hk3 : 3 ≤ pkN 0 := by omega
    clear hpk
    have e1 : decide (deep < 2) = true := by simp; omega
    have HR0 := Lib.hid hr
    have hlt := hr.lt
    have hr' := hr.alloc (.cells #[.int .i64 0, .int .i64 0, .slice none 0 0] 35)
    have HA : Hid (Adv (w.alloc (.cells #[.int .i64 0, .int .i64 0, .slice none 0 0] 35)) br p (w.alloc (.cells #[.int .i64 0, .int .i64 0, .slice none 0 0] 35))) := Adv.start hr' (Below.refl _ _)
    have HR := Lib.hid hr'
    clear hr hr'
    go_enter Try.func91, Try.ntmps91
    go_wp2_with fail
    with_reducible refine (pick_any 5 br (p) _ HR.out (by omega) (by omega) (by omega)).mono ?_
    rintro e w1 ⟨x, rfl, hx, hb⟩
    have ha : Adv (w.alloc (.cells #[.int .i64 0, .int .i64 0, .slice none 0 0] 35)) br (p + 1) w1 := HA.out.trans hb
    have hr1 := ha.rd (HR0.out.alloc _)
    have HA1 := Lib.hid ha
    have HR1 := Lib.hid hr1
    clear ha hb hr1
    by_cases hx0 : x = 0
    · subst hx0
      go_wp2_with fail
      with_reducible refine (l71Of_any 1 none 0 0 _).mono ?_
      rintro e w2 ⟨rfl, hb2⟩
      have ha2 := HA1.out.more hb2
      obtain ⟨hc0, hc1, hc2, hf0, hf1, hf2⟩ := res_cells ha2 hlt
      clear hb2
      go_wp2_with fail
      refine bodyPost_ret (v := .agg #[.int .i64 1, .int .i64 0, .slice none 0 0]) ?_ rfl (drawn_end (k := .nil) ha2 hlt (by omega) (by omega) (by simp [fsz, szN]) (.inl rfl))
      simp [results, Try.results91, go_sem, hc0, hc1, hc2]
    by_cases hx1 : x = 1
    · subst hx1
      go_wp2_with fail
      with_reducible refine (l71Of_any 2 none 0 0 _).mono ?_
      rintro e w2 ⟨rfl, hb2⟩
      have ha2 := HA1.out.more hb2
      obtain ⟨hc0, hc1, hc2, hf0, hf1, hf2⟩ := res_cells ha2 hlt
      clear hb2
      go_wp2_with fail
      refine bodyPost_ret (v := .agg #[.int .i64 2, .int .i64 0, .slice none 0 0]) ?_ rfl (drawn_end (k := .nil) ha2 hlt (by omega) (by omega) (by simp [fsz, szN]) (.inl rfl))
      simp [results, Try.results91, go_sem, hc0, hc1, hc2]
    have x0 : ((x : Int) == 0) = false := by simpa using hx0
    have x1 : ((x : Int) == 1) = false := by simp; omega
    go_wp2_with fail
    with_reducible refine (pick_any vars br (p + 1) _ HR1.out (by omega) (by omega) (by omega)).mono ?_
    rintro e w2 ⟨y, rfl, hy, hb2⟩
    have ha2 := HA1.out.trans hb2
    have HA2 := Lib.hid ha2
    clear ha2 hb2
    go_wp2_with fail
    with_reducible refine (l71Var_any y _).mono ?_
    rintro e w3 ⟨rfl, hb3⟩
    have ha3 := HA2.out.more hb3
    obtain ⟨hc0, hc1, hc2, hf0, hf1, hf2⟩ := res_cells ha3 hlt
    clear hb3
    go_wp2_with fail
    refine bodyPost_ret (v := .agg #[.int .i64 0, .int .i64 y, .slice none 0 0]) ?_ rfl (drawn_end (k := .nil) ha3 hlt (by omega) (by omega) (by simp [fsz, szN]) (.inl rfl))
    simp [results, Try.results91, go_sem, hc0, hc1, hc2]
  | succ D ih =>
    intro deep vars br p w h1 h2 h3 h4 h5 hr hp
    have hk3 : 2 * pkN D + 3 ≤ pkN (D + 1) := Nat.le_refl _
    have hs1 : 2 * szN D + 1 ≤ szN (D + 1) := Nat.le_refl _
    have hs0 := szN_pos D
    have hdm : deep ≤ 1000 := by omega
    have IH := Lib.hid ih
    clear ih
    have HR0 := Lib.hid hr
    have hlt := hr.lt
    have hr' := hr.alloc (.cells #[.int .i64 0, .int .i64 0, .slice none 0 0] 35)
    have HA : Hid (Adv (w.alloc (.cells #[.int .i64 0, .int .i64 0, .slice none 0 0] 35)) br p (w.alloc (.cells #[.int .i64 0, .int .i64 0, .slice none 0 0] 35))) := Adv.start hr' (Below.refl _ _)
    have HR := Lib.hid hr'
    clear hr hr'
    by_cases hd : deep < 2
    · have e1 : decide (deep < 2) = true := by simp; omega
      go_enter Try.func91, Try.ntmps91
      go_wp2_with fail
      with_reducible refine (pick_any 5 br (p) _ HR.out (by omega) (by omega) (by omega)).mono ?_
      rintro e w1 ⟨x, rfl, hx, hb⟩
      have ha : Adv (w.alloc (.cells #[.int .i64 0, .int .i64 0, .slice none 0 0] 35)) br (p + 1) w1 := HA.out.trans hb
      have hr1 := ha.rd (HR0.out.alloc _)
      have HA1 := Lib.hid ha
      have HR1 := Lib.hid hr1
      clear ha hb hr1
      by_cases hx0 : x = 0
      · subst hx0
        go_wp2_with fail
        with_reducible refine (l71Of_any 1 none 0 0 _).mono ?_
        rintro e w2 ⟨rfl, hb2⟩
        have ha2 := HA1.out.more hb2
        obtain ⟨hc0, hc1, hc2, hf0, hf1, hf2⟩ := res_cells ha2 hlt
        clear hb2
        go_wp2_with fail
        refine bodyPost_ret (v := .agg #[.int .i64 1, .int .i64 0, .slice none 0 0]) ?_ rfl (drawn_end (k := .nil) ha2 hlt (by omega) (by omega) (by simp only [fsz]; omega) (.inl rfl))
        simp [results, Try.results91, go_sem, hc0, hc1, hc2]
      by_cases hx1 : x = 1
      · subst hx1
        go_wp2_with fail
        with_reducible refine (l71Of_any 2 none 0 0 _).mono ?_
        rintro e w2 ⟨rfl, hb2⟩
        have ha2 := HA1.out.more hb2
        obtain ⟨hc0, hc1, hc2, hf0, hf1, hf2⟩ := res_cells ha2 hlt
        clear hb2
        go_wp2_with fail
        refine bodyPost_ret (v := .agg #[.int .i64 2, .int .i64 0, .slice none 0 0]) ?_ rfl (drawn_end (k := .nil) ha2 hlt (by omega) (by omega) (by simp only [fsz]; omega) (.inl rfl))
        simp [results, Try.results91, go_sem, hc0, hc1, hc2]
      have x0 : ((x : Int) == 0) = false := by simpa using hx0
      have x1 : ((x : Int) == 1) = false := by simp; omega
      go_wp2_with fail
      with_reducible refine (pick_any vars br (p + 1) _ HR1.out (by omega) (by omega) (by omega)).mono ?_
      rintro e w2 ⟨y, rfl, hy, hb2⟩
      have ha2 := HA1.out.trans hb2
      have HA2 := Lib.hid ha2
      clear ha2 hb2
      go_wp2_with fail
      with_reducible refine (l71Var_any y _).mono ?_
      rintro e w3 ⟨rfl, hb3⟩
      have ha3 := HA2.out.more hb3
      obtain ⟨hc0, hc1, hc2, hf0, hf1, hf2⟩ := res_cells ha3 hlt
      clear hb3
      go_wp2_with fail
      refine bodyPost_ret (v := .agg #[.int .i64 0, .int .i64 y, .slice none 0 0]) ?_ rfl (drawn_end (k := .nil) ha3 hlt (by omega) (by omega) (by simp only [fsz]; omega) (.inl rfl))
      simp [results, Try.results91, go_sem, hc0, hc1, hc2]
    have e1 : decide (deep < 2) = false := by simp; omega
    go_enter Try.func91, Try.ntmps91
    go_wp2_with fail
    with_reducible refine (pick_any 4 br p _ HR.out (by omega) (by omega) (by omega)).mono ?_
    rintro e w0 ⟨x4, rfl, hx4, hb0⟩
    have ha0 : Adv (w.alloc (.cells #[.int .i64 0, .int .i64 0, .slice none 0 0] 35)) br (p + 1) w0 := HA.out.trans hb0
    have hr0 := ha0.rd (HR0.out.alloc _)
    clear HA HR
    have HA := Lib.hid ha0
    have HR := Lib.hid hr0
    clear ha0 hr0 hb0 hx4
    by_cases hx : x4 = 0
    · subst hx
      go_wp2_with fail
      with_reducible refine (pick_any 5 br (p + 1) _ HR.out (by omega) (by omega) (by omega)).mono ?_
      rintro e w1 ⟨x, rfl, hx, hb⟩
      have ha : Adv (w.alloc (.cells #[.int .i64 0, .int .i64 0, .slice none 0 0] 35)) br (p + 1 + 1) w1 := HA.out.trans hb
      have hr1 := ha.rd (HR0.out.alloc _)
      have HA1 := Lib.hid ha
      have HR1 := Lib.hid hr1
      clear ha hb hr1
      by_cases hx0 : x = 0
      · subst hx0
        go_wp2_with fail
        with_reducible refine (l71Of_any 1 none 0 0 _).mono ?_
        rintro e w2 ⟨rfl, hb2⟩
        have ha2 := HA1.out.more hb2
        obtain ⟨hc0, hc1, hc2, hf0, hf1, hf2⟩ := res_cells ha2 hlt
        clear hb2
        go_wp2_with fail
        refine bodyPost_ret (v := .agg #[.int .i64 1, .int .i64 0, .slice none 0 0]) ?_ rfl (drawn_end (k := .nil) ha2 hlt (by omega) (by omega) (by simp only [fsz]; omega) (.inl rfl))
        simp [results, Try.results91, go_sem, hc0, hc1, hc2]
      by_cases hx1 : x = 1
      · subst hx1
        go_wp2_with fail
        with_reducible refine (l71Of_any 2 none 0 0 _).mono ?_
        rintro e w2 ⟨rfl, hb2⟩
        have ha2 := HA1.out.more hb2
        obtain ⟨hc0, hc1, hc2, hf0, hf1, hf2⟩ := res_cells ha2 hlt
        clear hb2
        go_wp2_with fail
        refine bodyPost_ret (v := .agg #[.int .i64 2, .int .i64 0, .slice none 0 0]) ?_ rfl (drawn_end (k := .nil) ha2 hlt (by omega) (by omega) (by simp only [fsz]; omega) (.inl rfl))
        simp [results, Try.results91, go_sem, hc0, hc1, hc2]
      have x0 : ((x : Int) == 0) = false := by simpa using hx0
      have x1 : ((x : Int) == 1) = false := by simp; omega
      go_wp2_with fail
      with_reducible refine (pick_any vars br (p + 1 + 1) _ HR1.out (by omega) (by omega) (by omega)).mono ?_
      rintro e w2 ⟨y, rfl, hy, hb2⟩
      have ha2 := HA1.out.trans hb2
      have HA2 := Lib.hid ha2
      clear ha2 hb2
      go_wp2_with fail
      with_reducible refine (l71Var_any y _).mono ?_
      rintro e w3 ⟨rfl, hb3⟩
      have ha3 := HA2.out.more hb3
      obtain ⟨hc0, hc1, hc2, hf0, hf1, hf2⟩ := res_cells ha3 hlt
      clear hb3
      go_wp2_with fail
      refine bodyPost_ret (v := .agg #[.int .i64 0, .int .i64 y, .slice none 0 0]) ?_ rfl (drawn_end (k := .nil) ha3 hlt (by omega) (by omega) (by simp only [fsz]; omega) (.inl rfl))
      simp [results, Try.results91, go_sem, hc0, hc1, hc2]
    have x0 : ((x4 : Int) == 0) = false := by simpa using hx
    go_wp2_with fail
    with_reducible refine (pick_any 5 br (p + 1) _ HR.out (by omega) (by omega) (by omega)).mono ?_
    rintro e w1 ⟨x, rfl, hx5, hb⟩
    have ha : Adv (w.alloc (.cells #[.int .i64 0, .int .i64 0, .slice none 0 0] 35)) br (p + 1 + 1) w1 := HA.out.trans hb
    have hr1 := ha.rd (HR0.out.alloc _)
    have hsz1 := ha.size
    simp at hsz1
    have HA1 := Lib.hid ha
    have HR1 := Lib.hid hr1
    clear ha hb hr1 HA HR
    by_cases hx2 : x < 2
    · have g2 : decide ((x : Int) < 2) = true := by simp; omega
      go_wp2_with fail
      with_reducible refine (IH.out (deep - 1) vars br (p + 1 + 1) _ (by omega) (by omega) (by omega) h4 h5 HR1.out (by omega)).mono ?_
      rintro e w2 ⟨s', v', a', c', k', p', rfl, hp1, hp2, hsz, ha2, hl2⟩
      have ha3 := HA1.out.trans ha2
      have hsz2 := ha2.size
      have HA3 := Lib.hid ha3
      have HL := Lib.hid (kid1 (T := 35) (s := s') (v := v') (c := c') (hl2.mono (lo' := w.heap.size + 1) (by omega) (Nat.le_refl _)) (by omega))
      clear ha2 hl2 ha3
      go_wp2_with fail
      with_reducible refine (l71Of_any 3 _ 1 1 _).mono ?_
      rintro e w3 ⟨rfl, hb3⟩
      have ha4 := (HA3.out.alloc _).more hb3
      have HL3 := Lib.hid ((HL.out.below hb3).mono (Nat.le_refl _) hb3.size)
      obtain ⟨hc0, hc1, hc2, hf0, hf1, hf2⟩ := res_cells ha4 hlt
      clear hb3
      go_wp2_with fail
      refine bodyPost_ret (v := .agg #[.int .i64 3, .int .i64 0, .slice (some ⟨w2.heap.size, 0, none⟩) 1 1]) ?_ rfl (drawn_end (k := .node 0 0 (s', v') k' .nil) ha4 hlt (by omega) (by omega) (by simp only [fsz]; omega) HL3.out)
      simp [results, Try.results91, go_sem, hc0, hc1, hc2]
    · have g2 : decide ((x : Int) < 2) = false := by simp; omega
      go_wp2_with fail
      with_reducible refine (IH.out (deep - 1) vars br (p + 1 + 1) _ (by omega) (by omega) (by omega) h4 h5 HR1.out (by omega)).mono ?_
      rintro e w2 ⟨s', v', a', c', k', p', rfl, hp1, hp2, hsz, ha2, hl2⟩
      have ha3 := HA1.out.trans ha2
      have hsz2 := ha2.size
      have hr2 := ha2.rd HR1.out
      have HR2 := Lib.hid hr2
      have HA3 := Lib.hid ha3
      have HL := Lib.hid (hl2.mono (lo' := w.heap.size + 1) (by omega) (Nat.le_refl _))
      clear ha2 hl2 ha3 hr2
      go_wp2_with fail
      with_reducible refine (IH.out (deep - 1) vars br p' _ (by omega) (by omega) (by omega) h4 h5 HR2.out (by omega)).mono ?_
      rintro e w3 ⟨s2, v2, a2, c2, k2, p2, rfl, hp3, hp4, hszb, ha4, hl4⟩
      have ha5 := HA3.out.trans ha4
      have hsz3 := ha4.size
      have HA5 := Lib.hid ha5
      have HLK := Lib.hid (kid2 (T := 35) (s := s') (v := v') (c := c') (s' := s2) (v' := v2) (c' := c2) ((HL.out.same (ha4.same (Nat.le_refl _) (.inl (by omega)))).mono (Nat.le_refl _) hsz3) (hl4.mono (lo' := w.heap.size + 1) (by omega) (Nat.le_refl _)) (by omega))
      clear ha4 hl4 ha5
      go_wp2_with fail
      with_reducible refine (l71Of_any 4 _ 2 2 _).mono ?_
      rintro e w4 ⟨rfl, hb3⟩
      have ha6 := (HA5.out.alloc _).more hb3
      have HL3 := Lib.hid ((HLK.out.below hb3).mono (Nat.le_refl _) hb3.size)
      obtain ⟨hc0, hc1, hc2, hf0, hf1, hf2⟩ := res_cells ha6 hlt
      clear hb3
      go_wp2_with fail
      refine bodyPost_ret (v := .agg #[.int .i64 4, .int .i64 0, .slice (some ⟨w3.heap.size, 0, none⟩) 2 2]) ?_ rfl (drawn_end (k := .node 0 0 (s', v') k' (.node 0 0 (s2, v2) k2 .nil)) ha6 hlt (by omega) (by omega) (by simp only [fsz]; omega) HL3.out)
      simp [results, Try.results91, go_sem, hc0, hc1, hc2]
end Go.Proofs.Ytoafleckcjanaaa

/-! Mix: Regions that draw their order: operations that only look may be taken first as long as what they look at stands; the rest comes in one forced order. No condition. -/
namespace Go.Proofs.Ytoafleckcjanaaa

section
variable {P : Program} {ops : Array Oper} {Q : Exit → Act → World → Prop} {md : Region.Mode} {S : World → Prop} {late : List Nat}

/-- Whatever order is picked from here on; S holds behind every operation as long as none of the late ones has come up. -/
def wpAnyT (P : Program) (md : Region.Mode) (ops : Array Oper) (Q : Exit → Act → World → Prop) (S : World → Prop) (late : List Nat) : Nat → Array Bool → Act → World → Prop
  | 0, listed, a, w => Region.ready md ops listed = [] ∧ Q .normal a w
  | fuel + 1, listed, a, w =>
    (Region.ready md ops listed = [] → Q .normal a w) ∧
    ∀ i ∈ Region.ready md ops listed, wpOp P ops Q i (fun a' w' => ((∃ j ∈ late, (listed.setIfInBounds i true).getD j false = true) ∨ S w') ∧ wpAnyT P md ops Q S late fuel (listed.setIfInBounds i true) a' w') a w

theorem wpAny_of_T : ∀ (fuel : Nat) (listed : Array Bool) (a : Act) (w : World), wpAnyT P md ops Q S late fuel listed a w → wpAny P md ops Q fuel listed a w
  | 0, _, _, _, h => h
  | fuel + 1, _, _, _, h => ⟨h.1, fun i hi => wpOp_mono (fun a' w' h' => wpAny_of_T fuel _ a' w' h'.2) (h.2 i hi)⟩

theorem listed_no {listed : Array Bool} {i : Nat} (h0 : listed.getD i true = false) : listed.getD i false = false := by
  rcases Nat.lt_or_ge i listed.size with h' | h'
  · simp [h'] at h0 ⊢; exact h0
  · simp [Array.getElem?_eq_none h'] at h0

theorem wpAnyT_first {i : Nat} {oi : Oper} {v : Value} (hi : ops[i]? = some oi) (hsel : ∀ (j : Nat) (o : Oper) cs b, ops[j]? = some o → o.op ≠ .select cs b)
    (hQ : ∀ c a w, Q (.panic c) (a.put oi.dst v) w → Q (.panic c) a w) (hlate : ∀ j ∈ late, ∃ oj, ops[j]? = some oj ∧ ∃ e ∈ oj.after, Region.binds md e = true ∧ e.on = i) :
    ∀ (fuel : Nat) (listed : Array Bool) (a : Act) (w : World),
      (∀ j oj, ops[j]? = some oj → j ≠ i → listed.getD j true = false → (∀ e ∈ oj.after, Region.binds md e = true → e.on ≠ i) → oi.apart ops oj = true) →
      i ∈ Region.ready md ops listed → YieldsIf P ops S oi v a → S w → (∀ j ∈ late, listed.getD j false = false) →
      wpAnyT P md ops Q S late fuel (listed.setIfInBounds i true) (a.put oi.dst v) w → wpAnyT P md ops Q S late (fuel + 1) listed a w := by
  intro fuel
  induction fuel with
  | zero =>
    intro listed a w _ hr hy hS hnl H
    refine ⟨fun h => (by rw [h] at hr; cases hr), fun j hj => ?_⟩
    by_cases hji : j = i
    · subst hji; exact hy.wpOp hi hS ⟨.inr hS, H⟩
    · have := ready_mono hj hji
      rw [H.1] at this
      cases this
  | succ fuel ih =>
    intro listed a w hfree hr hy hS hnl H
    refine ⟨fun h => (by rw [h] at hr; cases hr), fun j hj => ?_⟩
    by_cases hji : j = i
    · subst hji; exact hy.wpOp hi hS ⟨.inr hS, H⟩
    · have h1 := H.2 j (ready_mono hj hji)
      obtain ⟨hjun, oj, hoj, hall⟩ := mem_ready.1 hj
      have hiun := listed_no (mem_ready.1 hr).1
      have hnot : ∀ e ∈ oj.after, Region.binds md e = true → e.on ≠ i := fun e he hb heq => by
        have h1 := hall e he hb
        rw [heq, hiun] at h1
        cases h1
      have hjl : j ∉ late := fun hm => by
        obtain ⟨oj', hoj', e, he, hb, hon⟩ := hlate j hm
        rw [hoj] at hoj'
        cases hoj'
        exact hnot e he hb hon
      have hil : i ∉ late := fun hm => by
        obtain ⟨oi', hoi', e, he, hb, hon⟩ := hlate i hm
        obtain ⟨_, o2, ho2, hall2⟩ := mem_ready.1 hr
        rw [hoi'] at ho2
        cases ho2
        have := hall2 e he hb
        rw [hon, hiun] at this
        cases this
      have hnl' : ∀ k ∈ late, (listed.setIfInBounds j true).getD k false = false := fun k hk => by
        have hne : j ≠ k := fun e => hjl (by rw [e]; exact hk)
        rw [getD_set_ne false hne]
        exact hnl k hk
      have h2 := wpOp_putIf hoj (hfree j oj hoj hji hjun hnot) (fun cs b => hsel i oi cs b hi) (fun cs b => hsel j oj cs b hoj) hQ hy h1
      have hfree' : ∀ k ok, ops[k]? = some ok → k ≠ i → (listed.setIfInBounds j true).getD k true = false →
          (∀ e ∈ ok.after, Region.binds md e = true → e.on ≠ i) → oi.apart ops ok = true := fun k ok hk hki hun hno => by
        refine hfree k ok hk hki ?_ hno
        by_cases hjk : j = k
        · subst hjk; exact hjun
        · rw [getD_set_ne true hjk] at hun; exact hun
      refine wpOp_mono (fun a' w' h3 => ?_) h2
      have hS' : S w' := by
        rcases h3.2.1 with ⟨k, hk, hl⟩ | h
        · have hne : j ≠ k := fun e => hjl (by rw [e]; exact hk)
          have hne2 : i ≠ k := fun e => hil (by rw [e]; exact hk)
          rw [getD_set_ne false hne, getD_set_ne false hne2, hnl k hk] at hl
          cases hl
        · exact h
      refine ⟨.inr hS', ih (listed.setIfInBounds j true) a' w' hfree' (ready_mono hr (Ne.symm hji)) h3.1 hS' hnl' ?_⟩
      rw [Array.setIfInBounds_comm _ _ hji]
      exact h3.2.2

/-- A step of the walk: an operation that only looks (0), one behind which S is shown anew (1), a late one (2). -/
def wpMix (P : Program) (ops : Array Oper) (Q : Exit → Act → World → Prop) (S : World → Prop) : List (Nat × Nat) → Act → World → Prop
  | [], a, w => Q .normal a w
  | (i, 0) :: rest, a, w => ∃ o v, ops[i]? = some o ∧ YieldsIf P ops S o v a ∧ wpMix P ops Q S rest (a.put o.dst v) w
  | (i, 1) :: rest, a, w => wpOp P ops Q i (fun a' w' => S w' ∧ wpMix P ops Q S rest a' w') a w
  | (i, _ + 2) :: rest, a, w => wpOp P ops Q i (wpMix P ops Q S rest) a w

/-- The order fits the region: what only looks may be taken first, the rest comes up alone; calm: none of the late ones has come up. -/
def mixB (md : Region.Mode) (ops : Array Oper) (late : List Nat) : List (Nat × Nat) → Bool → Array Bool → Bool
  | [], _, listed => (Region.ready md ops listed).isEmpty
  | (i, 0) :: rest, calm, listed => calm && (Region.ready md ops listed).contains i && Region.free md ops listed i &&
      late.all (fun j => match ops[j]? with | some oj => oj.after.any (fun e => Region.binds md e && e.on == i) | none => false) && late.all (fun j => !(listed.getD j false)) && mixB md ops late rest calm (listed.setIfInBounds i true)
  | (i, 1) :: rest, calm, listed => (Region.ready md ops listed == [i]) && mixB md ops late rest calm (listed.setIfInBounds i true)
  | (i, _ + 2) :: rest, _, listed => (Region.ready md ops listed == [i]) && late.contains i && decide (i < listed.size) && mixB md ops late rest false (listed.setIfInBounds i true)

theorem wpAnyT_mix (hs : Region.noSelect ops = true) (hQ : ∀ c a w, ¬ Q (.panic c) a w) : ∀ (l : List (Nat × Nat)) (calm : Bool) (listed : Array Bool) (a : Act) (w : World), mixB md ops late l calm listed = true → (calm = true → S w) →
    wpMix P ops Q S l a w → wpAnyT P md ops Q S late l.length listed a w
  | [], _, _, _, _, hB, _, h => ⟨by simpa [mixB] using hB, h⟩
  | (i, 0) :: rest, calm, listed, a, w, hB, hc, ⟨o, v, ho, hy, h⟩ => by
    simp only [mixB, Bool.and_eq_true] at hB
    obtain ⟨⟨⟨⟨⟨h1, h2⟩, h3⟩, h4⟩, h5⟩, h6⟩ := hB
    refine wpAnyT_first ho (Region.noSelect_spec hs) (fun c a w h => absurd h (hQ c _ w)) (fun j hj => ?_) rest.length listed a w (Region.free_spec ho h3) (by simpa using h2) hy (hc h1) (fun j hj => ?_) (wpAnyT_mix hs hQ rest calm _ _ w h6 hc h)
    · have := List.all_eq_true.1 h4 j hj
      split at this
      · rename_i oj hoj
        obtain ⟨e, he, hb⟩ := Array.any_eq_true'.1 this
        simp only [Bool.and_eq_true, beq_iff_eq] at hb
        exact ⟨oj, hoj, e, he, hb⟩
      · cases this
    · have := List.all_eq_true.1 h5 j hj
      simpa using this
  | (i, 1) :: rest, calm, listed, a, w, hB, hc, h => by
    simp only [mixB, Bool.and_eq_true, beq_iff_eq] at hB
    refine ⟨fun h0 => (by rw [hB.1] at h0; cases h0), fun j hj => ?_⟩
    rw [hB.1] at hj
    simp only [List.mem_singleton] at hj
    subst hj
    exact wpOp_mono (fun a' w' h' => ⟨.inr h'.1, wpAnyT_mix hs hQ rest calm _ a' w' hB.2 (fun _ => h'.1) h'.2⟩) h
  | (i, _ + 2) :: rest, calm, listed, a, w, hB, hc, h => by
    simp only [mixB, Bool.and_eq_true, beq_iff_eq, decide_eq_true_eq] at hB
    obtain ⟨⟨⟨h1, h2⟩, h3⟩, h4⟩ := hB
    refine ⟨fun h0 => (by rw [h1] at h0; cases h0), fun j hj => ?_⟩
    rw [h1] at hj
    simp only [List.mem_singleton] at hj
    subst hj
    exact wpOp_mono (fun a' w' h' => ⟨.inl ⟨j, by simpa using h2, by simp [h3]⟩, wpAnyT_mix hs hQ rest false _ a' w' h4 (fun h => by cases h) h'⟩) h

/-- Q, but not at a panic. -/
def QN (Q : Exit → Act → World → Prop) : Exit → Act → World → Prop
  | .panic _, _, _ => False
  | e, a, w => Q e a w

/-- The region, walked in one order. -/
theorem wp_region_mix {id : Nat} {a : Act} {w : World} (S : World → Prop) (late : List Nat) (l : List (Nat × Nat)) (hm : P.follows .mixedOrders = true) (hB : (Region.noSelect ops && (l.length == ops.size) && mixB .any ops late l true (Array.replicate ops.size false)) = true)
    (hS : S w.drew) (h : wpMix P ops (QN Q) S l a w.drew) : (Code.region id ops true).wp P Q a w := by
  simp only [Bool.and_eq_true, beq_iff_eq] at hB
  obtain ⟨⟨h1, h2⟩, h3⟩ := hB
  refine Code.wp_mono (Q := QN Q) (fun e a w h => by cases e <;> first | exact h | exact h.elim) ?_
  refine wp_region_any hm (wpAny_of_T (S := S) (late := late) _ _ _ _ ?_)
  rw [← h2]
  exact wpAnyT_mix h1 (fun c a w h => h) l true _ a _ (by rw [h2]; exact h3) (fun _ => hS) h

theorem mix_end {a : Act} {w : World} (h : Q .normal a w) : wpMix P ops (QN Q) S [] a w := h
theorem mix_look {i : Nat} {rest : List (Nat × Nat)} {a : Act} {w : World} {o : Oper} {v : Value} (ho : ops[i]? = some o) (hw : Region.wanted o (yielded ops a.tmps) = true) (hr : ∀ w, S w → (execOp a.eval o).run P w = .ok (.value v) w)
    (h : wpMix P ops Q S rest (a.put o.dst v) w) : wpMix P ops Q S ((i, 0) :: rest) a w := ⟨o, v, ho, .inl ⟨hw, hr⟩, h⟩
theorem mix_see {i : Nat} {rest : List (Nat × Nat)} {a : Act} {w : World} {o : Oper} (ho : ops[i]? = some o)
    (h : ∀ K : Act → Prop, (∀ a', wpMix P ops Q S rest a' w → K a') → if Region.wanted o (yielded ops a.tmps) = true then ∃ v, (∀ w, S w → (execOp a.eval o).run P w = .ok (.value v) w) ∧ K (a.put o.dst v) else K (a.put o.dst undef)) : wpMix P ops Q S ((i, 0) :: rest) a w := by
  have := h (fun a' => wpMix P ops Q S rest a' w) (fun _ h => h)
  split at this
  · rename_i hw
    obtain ⟨v, h1, h2⟩ := this
    exact ⟨o, v, ho, .inl ⟨hw, h1⟩, h2⟩
  · rename_i hw
    exact ⟨o, undef, ho, .inr ⟨by simpa using hw, rfl⟩, this⟩
theorem mix_hold {i : Nat} {rest : List (Nat × Nat)} {a : Act} {w : World} {o : Oper} (ho : ops[i]? = some o)
    (h : ∀ K : Act → World → Prop, (∀ a' w', S w' → wpMix P ops Q S rest a' w' → K a' w') → if Region.wanted o (yielded ops a.tmps) = true then o.wp P a w K Q else K (a.put o.dst undef) w) : wpMix P ops Q S ((i, 1) :: rest) a w := by
  have := h (fun a' w' => S w' ∧ wpMix P ops Q S rest a' w') (fun _ _ h1 h2 => ⟨h1, h2⟩)
  show wpOp P ops Q i _ a w
  unfold wpOp
  simp only [ho]
  split at this
  · rename_i hw; rw [if_pos hw]; exact .inl this
  · rename_i hw; rw [if_neg hw]; exact this
theorem mix_late {i : Nat} {rest : List (Nat × Nat)} {a : Act} {w : World} {o : Oper} (ho : ops[i]? = some o)
    (h : ∀ K : Act → World → Prop, (∀ a' w', wpMix P ops Q S rest a' w' → K a' w') → if Region.wanted o (yielded ops a.tmps) = true then o.wp P a w K Q else K (a.put o.dst undef) w) : wpMix P ops Q S ((i, 2) :: rest) a w := by
  have := h (wpMix P ops Q S rest) (fun _ _ h => h)
  show wpOp P ops Q i _ a w
  unfold wpOp
  simp only [ho]
  split at this
  · rename_i hw; rw [if_pos hw]; exact .inl this
  · rename_i hw; rw [if_neg hw]; exact this
end
end Go.Proofs.Ytoafleckcjanaaa
