/- Several texts in one: S8, SOk, SC. -/
import Derived.Test.YtdkcbbhkoibplaaKLk14
import Derived.Test.YtdkcbbhkoibplaaKLk15
import Derived.Test.YtdkcbbhkoibplaaKLk4
import Derived.Test.YtdkcbbhkoibplaaKLk22
import Derived.Test.YtdkcbbhkoibplaaKLk11

/-! S8: - l71Subst, DrawSubstDo. -/
namespace Go.Proofs.Ytdkcbbhkoibplaa
open Go.RowKit Go.Deep

def SbPost (br p : Nat) (w : World) (e : Ending) (w' : World) : Prop :=
  ∃ bs A C p', e = .returned (.slice A (List.length bs) C) ∧ bs.length ≤ 20 ∧ p ≤ p' ∧ p' ≤ p + 3000 ∧ Adv w br p' w' ∧ BOwn w' w.heap.size bs A C

end Go.Proofs.Ytdkcbbhkoibplaa

/-! SOk: - The program's SubstOk; DrawSubstOk; the first binds of a row. -/
namespace Go.Proofs.Ytdkcbbhkoibplaa
open Go.RowKit Go.Deep

set_option maxRecDepth 100000 in
theorem iSubstOk_any (bs : List Bd) (A : Option Addr) (C : Nat) (w : World) (hb : BSl w 0 w.heap.size A bs) (hl : bs.length ≤ 9223372036854775807) :
    Calls Try.prog 34 #[.slice A bs.length C] w fun e w' => e = .returned (.bool (sok 16 bs)) ∧ Below w.heap.size w w' := by
  have HB := Lib.hid hb
  clear hb
  go_enter Try.func34, Try.ntmps34
  go_wp2_with fail
  with_reducible refine (substOf_any bs A C 16 _ HB.out hl (by omega) (by omega)).mono ?_
  rintro e w1 ⟨hb1, hcase⟩
  have HB1 := Lib.hid hb1
  clear hb1
  rcases hcase with ⟨hs, b, rfl, _, _⟩ | ⟨hs, rfl⟩
  · have HS := Lib.hid hs
    clear hs
    go_wp2_with fail
    go_ret
    exact ⟨by rw [HS.out]; rfl, HB1.out⟩
  · have HS := Lib.hid hs
    clear hs
    go_wp2_with fail
    go_ret
    exact ⟨by rw [HS.out]; rfl, HB1.out⟩

theorem sokFrom_take {room : Int} : ∀ (bs : List Bd) (last : Int) (n : Nat), sokFrom room last bs = true → sokFrom room last (bs.take n) = true
  | [], _, _, _ => by simp [sokFrom]
  | _ :: _, _, 0, _ => by simp [sokFrom]
  | x :: r, last, n + 1, h => by
    simp only [sokFrom, Bool.and_eq_true, List.take_succ_cons] at h ⊢
    exact ⟨h.1, h.2.1, h.2.2.1, sokFrom_take r x.1 n h.2.2.2⟩
theorem BSl.take {w : World} {lo B : Nat} {A : Option Addr} {bs : List Bd} (h : BSl w lo B A bs) (n : Nat) : BSl w lo B A (bs.take n) := by
  rcases h with rfl | ⟨b, o, e, h1, h2, h3⟩
  · exact .inl (by simp)
  · refine .inr ⟨b, o, e, h1, h2, fun i x hx => h3 i x ?_⟩
    rw [List.getElem?_take] at hx
    split at hx
    · exact hx
    · cases hx
theorem cutB_to {A : Option Addr} {L C n : Nat} (hn : n ≤ L) (hc : L ≤ C) (w : World) : (Instr.slice 41 (.slice A L C) none (some (.int .i64 (n : Int))) none).run Try.prog w = .ok (.slice A n C) w := by
  obtain ⟨ti, hti, htz, hts, htb⟩ := Try.infoBind
  have hsz : ∀ w : World, (sizeOf (Try.prog.elem 41)).run Try.prog w = .ok 4 w := fun w => by
    have he : Try.prog.elem 41 = 131 := by kernel_rfl
    rw [he]
    simp [sizeOf, typeInfo, hti, hts]
  have hel : Try.prog.underlying 41 = some (.slice (Try.prog.elem 41)) := by kernel_rfl
  rw [run_slice_h (P := Try.prog) w 41 A L C hel .i64 (n : Int) (by omega) (by omega), hsz]
  cases A <;> simp [Result.andThen, sliced, Addr.add]
theorem BOwn.cap {w : World} {base : Nat} {bs : List Bd} {A : Option Addr} {C : Nat} (h : BOwn w base bs A C) : bs.length ≤ C := by
  obtain ⟨xs, hown, _⟩ := h
  rcases hown.2 with ⟨_, h2⟩ | ⟨g, cap, cur, h3, _, _, h6, _⟩
  · omega
  · simp only [Value.slice.injEq] at h3
    omega

def DsoPost (w : World) (e : Ending) (w' : World) : Prop :=
  ∃ bs A C, e = .returned (.slice A (List.length bs) C) ∧ bs.length ≤ 21 ∧ bs.length ≤ C ∧ Below w.heap.size w w' ∧ BSl w' w.heap.size w'.heap.size A bs

end Go.Proofs.Ytdkcbbhkoibplaa

/-! SC: Worlds in which some cells are known; plain lemmas. -/
namespace Go.Proofs.Ytdkcbbhkoibplaa
open Go.RowKit Go.Deep

/-- A world in which the cells of l hold what l says. -/
structure SeenD (l : List (Addr × Value)) where
  world : World
  at_ : ∀ p, p ∈ l → world.cell? p.1 = some p.2
def cl3 (p : Nat) (s v : Int) (y : Value) : List (Addr × Value) := [(⟨p, 0, none⟩, .int .i64 s), (⟨p, 1, none⟩, .int .i64 v), (⟨p, 2, none⟩, y)]
theorem cl3_at {w : World} {p : Nat} {s v : Int} {y : Value} (h0 : w.cell? ⟨p, 0, none⟩ = some (.int .i64 s)) (h1 : w.cell? ⟨p, 1, none⟩ = some (.int .i64 v)) (h2 : w.cell? ⟨p, 2, none⟩ = some y) : ∀ q, q ∈ cl3 p s v y → w.cell? q.1 = some q.2 := fun q hq => by
  simp only [cl3, List.mem_cons, List.not_mem_nil, or_false] at hq
  rcases hq with rfl | rfl | rfl
  · exact h0
  · exact h1
  · exact h2
theorem cl3_blk {p : Nat} {s v : Int} {y : Value} {n : Nat} (h : p ≠ n) : ∀ q, q ∈ cl3 p s v y → q.1.block ≠ n := fun q hq => by
  simp only [cl3, List.mem_cons, List.not_mem_nil, or_false] at hq
  rcases hq with rfl | rfl | rfl <;> assumption
def cl6 (b : Nat) (x y z : Value) (b' : Nat) (x' y' z' : Value) : List (Addr × Value) := [(⟨b, 0, none⟩, x), (⟨b, 1, none⟩, y), (⟨b, 2, none⟩, z), (⟨b', 0, none⟩, x'), (⟨b', 1, none⟩, y'), (⟨b', 2, none⟩, z')]
theorem cl6_at {w : World} {b : Nat} {x y z : Value} {b' : Nat} {x' y' z' : Value} (h0 : w.cell? ⟨b, 0, none⟩ = some x) (h1 : w.cell? ⟨b, 1, none⟩ = some y) (h2 : w.cell? ⟨b, 2, none⟩ = some z) (h3 : w.cell? ⟨b', 0, none⟩ = some x') (h4 : w.cell? ⟨b', 1, none⟩ = some y') (h5 : w.cell? ⟨b', 2, none⟩ = some z') :
    ∀ p, p ∈ cl6 b x y z b' x' y' z' → w.cell? p.1 = some p.2 := fun q hq => by
  simp only [cl6, List.mem_cons, List.not_mem_nil, or_false] at hq
  rcases hq with rfl | rfl | rfl | rfl | rfl | rfl
  · exact h0
  · exact h1
  · exact h2
  · exact h3
  · exact h4
  · exact h5
theorem cl6_blk {b : Nat} {x y z : Value} {b' : Nat} {x' y' z' : Value} {n : Nat} (h : b ≠ n) (h' : b' ≠ n) : ∀ p, p ∈ cl6 b x y z b' x' y' z' → p.1.block ≠ n := fun q hq => by
  simp only [cl6, List.mem_cons, List.not_mem_nil, or_false] at hq
  rcases hq with rfl | rfl | rfl | rfl | rfl | rfl <;> assumption
theorem seenD_of {l : List (Addr × Value)} {w : World} (h : ∀ p, p ∈ l → w.cell? p.1 = some p.2) : ∃ u : SeenD l, w = u.world := ⟨⟨w, h⟩, rfl⟩
theorem seenD_drew {l : List (Addr × Value)} {w : World} (h : ∀ p, p ∈ l → w.cell? p.1 = some p.2) : ∃ u : SeenD l, w.drew = u.world := ⟨⟨w.drew, h⟩, rfl⟩
theorem storeD {w : World} {l : List (Addr × Value)} (h : ∀ p, p ∈ l → w.cell? p.1 = some p.2) {n : Nat} (hn : ∀ p, p ∈ l → p.1.block ≠ n) (x y z : Value) : ∀ p, p ∈ l → (((w.setCell ⟨n, 0, none⟩ x).setCell ⟨n, 1, none⟩ y).setCell ⟨n, 2, none⟩ z).cell? p.1 = some p.2 :=
  seen_set (seen_set (seen_set h hn _ _) hn _ _) hn _ _
theorem Zb.adv {b br p : Nat} {wn wm : World} (h : Zb b wn) (ha : Adv wn br p wm) (hb : b ≠ br) : Zb b wm :=
  ⟨Nat.lt_of_lt_of_le h.lt ha.size, ha.cell h.z0 hb, ha.cell h.z1 hb, ha.cell h.z2 hb, fun o => (ha.frozen h.lt).trans (h.f o)⟩
end Go.Proofs.Ytdkcbbhkoibplaa
