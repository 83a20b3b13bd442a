/- Several texts in one: LI, LOw, QN, FW0, Read, XA, XB, XBt, XT. -/
import Derived.Test.YtdkcbbhkoibplaaKLn12
import Derived.Test.YtdkcbbhkoibplaaKLn7
import Derived.RangeFuncNested
import Derived.RangeFuncBound
import Derived.RangeFuncCalls
import Derived.RangeFuncLeaves
import Derived.Shelf.Abstract
import Derived.Shelf.RegionOpen
import Derived.WalkKit
import Derived.OwnWalkIn
import Derived.TacticsInMore
import Derived.LoopNIn
import Derived.LoopIn
import Derived.Test.YtdkcbbhkoibplaaKLn11
import Derived.Test.YtdkcbbhkoibplaaKLn5
import Derived.Test.YtdkcbbhkoibplaaKLn6
import Derived.Test.YtdkcbbhkoibplaaKLn3
import Derived.Test.YtdkcbbhkoibplaaKLn1
import Derived.Test.YtdkcbbhkoibplaaRows
import Derived.ProofKit
import Derived.Lib.SmallJoins
import Derived.WalkSpells
import Derived.WalkLawsBesides
import Derived.Lib.Hide
import Derived.Deep.OwnRows

/-! LI: Rows of links in memory; what goes through them, for a loop over a function. -/
namespace Go.Proofs.Ytdkcbbhkoibplaa
open Go.RowKit Go.Deep Go.Shelf

/-- A slice's address at which the links ls lie. -/
def LSl (w : World) (lo B : Nat) (a : Option Addr) (ls : List Lk) : Prop :=
  ls = [] ∨ ∃ b o, a = some ⟨b, o, none⟩ ∧ lo ≤ b ∧ b < B ∧ ∀ (i : Nat) (x : Lk), ls[i]? = some x → ∃ pA pC sA sC, w.cell? ⟨b, o + i * 4, none⟩ = some (.int .i64 x.1) ∧ w.cell? ⟨b, o + i * 4 + 1, none⟩ = some (.bool x.2.1) ∧ w.cell? ⟨b, o + i * 4 + 2, none⟩ = some (.slice pA x.2.2.1.length pC) ∧ w.cell? ⟨b, o + i * 4 + 3, none⟩ = some (.slice sA x.2.2.2.length sC) ∧ ISc w lo B pA pC x.2.2.1 ∧ BSl w lo B sA x.2.2.2
theorem LSl.same {w w' : World} {lo B : Nat} {a : Option Addr} {ls : List Lk} (hb : Same lo B w w') (h : LSl w lo B a ls) : LSl w' lo B a ls := by
  rcases h with h | ⟨b, o, e, h1, h2, h3⟩
  · exact .inl h
  · refine .inr ⟨b, o, e, h1, h2, fun i x hx => ?_⟩
    obtain ⟨pA, pC, sA, sC, c0, c1, c2, c3, hl, hl2⟩ := h3 i x hx
    exact ⟨pA, pC, sA, sC, by rw [hb.cell h1 h2]; exact c0, by rw [hb.cell h1 h2]; exact c1, by rw [hb.cell h1 h2]; exact c2, by rw [hb.cell h1 h2]; exact c3, hl.same hb, hl2.same hb⟩
theorem LSl.mono {w : World} {lo lo' B B' : Nat} {a : Option Addr} {ls : List Lk} (hlo : lo' ≤ lo) (hB : B ≤ B') (h : LSl w lo B a ls) : LSl w lo' B' a ls := by
  rcases h with h | ⟨b, o, e, h1, h2, h3⟩
  · exact .inl h
  · refine .inr ⟨b, o, e, by omega, by omega, fun i x hx => ?_⟩
    obtain ⟨pA, pC, sA, sC, c0, c1, c2, c3, hl, hl2⟩ := h3 i x hx
    exact ⟨pA, pC, sA, sC, c0, c1, c2, c3, hl.mono hlo hB, hl2.mono hlo hB⟩
theorem LSl.below {w w' : World} {lo B : Nat} {a : Option Addr} {ls : List Lk} (hb : Below B w w') (h : LSl w lo B a ls) : LSl w' lo B a ls := h.same (Same.of_below hb)
theorem LSl.next {w w' : World} {a : Option Addr} {ls : List Lk} (h : LSl w 0 w.heap.size a ls) (hb : Below w.heap.size w w') : LSl w' 0 w'.heap.size a ls := (h.below hb).mono (Nat.le_refl _) hb.size

/-- Where a link's place and binds lie. -/
abbrev Ld := Option Addr × Nat × Option Addr × Nat
def lval (x : Lk) (d : Ld) : Value := .agg #[.int .i64 x.1, .bool x.2.1, .slice d.1 x.2.2.1.length d.2.1, .slice d.2.2.1 x.2.2.2.length d.2.2.2]
/-- The cells of a row of links, the addresses given. -/
def LRow (w : World) (b o : Nat) (ls : List Lk) (f : Nat → Ld) : Prop :=
  ∀ (i : Nat) (x : Lk), ls[i]? = some x → w.cell? ⟨b, o + i * 4, none⟩ = some (.int .i64 x.1) ∧ w.cell? ⟨b, o + i * 4 + 1, none⟩ = some (.bool x.2.1) ∧ w.cell? ⟨b, o + i * 4 + 2, none⟩ = some (.slice (f i).1 x.2.2.1.length (f i).2.1) ∧ w.cell? ⟨b, o + i * 4 + 3, none⟩ = some (.slice (f i).2.2.1 x.2.2.2.length (f i).2.2.2)
theorem LSl.row {w : World} {lo B : Nat} {a : Option Addr} {ls : List Lk} (h : LSl w lo B a ls) (hne : 0 < ls.length) : ∃ b o f, a = some ⟨b, o, none⟩ ∧ b < B ∧ LRow w b o ls f ∧ ∀ (i : Nat) (x : Lk), ls[i]? = some x → ISc w lo B (f i).1 (f i).2.1 x.2.2.1 ∧ BSl w lo B (f i).2.2.1 x.2.2.2 := by
  rcases h with rfl | ⟨b, o, e, h1, h2, h3⟩
  · simp at hne
  · have h4 : ∀ i : Nat, ∃ d : Ld, ∀ x, ls[i]? = some x → (w.cell? ⟨b, o + i * 4, none⟩ = some (.int .i64 x.1) ∧ w.cell? ⟨b, o + i * 4 + 1, none⟩ = some (.bool x.2.1) ∧ w.cell? ⟨b, o + i * 4 + 2, none⟩ = some (.slice d.1 x.2.2.1.length d.2.1) ∧ w.cell? ⟨b, o + i * 4 + 3, none⟩ = some (.slice d.2.2.1 x.2.2.2.length d.2.2.2)) ∧ ISc w lo B d.1 d.2.1 x.2.2.1 ∧ BSl w lo B d.2.2.1 x.2.2.2 := fun i => by
      cases hx : ls[i]? with
      | none => exact ⟨(none, 0, none, 0), fun x h => by cases h⟩
      | some y =>
        obtain ⟨pA, pC, sA, sC, c0, c1, c2, c3, hl, hl2⟩ := h3 i y hx
        exact ⟨(pA, pC, sA, sC), fun x h => by cases h; exact ⟨⟨c0, c1, c2, c3⟩, hl, hl2⟩⟩
    obtain ⟨f, hf⟩ := Classical.axiomOfChoice h4
    exact ⟨b, o, f, e, h2, fun i x hx => (hf i x hx).1, fun i x hx => (hf i x hx).2⟩
/-- The i-th link's value. -/
def lenc (ls : List Lk) (f : Nat → Ld) (i : Fin ls.length) : Array Value := #[lval ls[i] (f i)]
/-- What a round keeps. -/
def LKp (n₀ B1 B2 : Nat) (W W' : World) : Prop := Below n₀ W W' ∧ W'.heap[B1]? = W.heap[B1]? ∧ W'.heap[B2]? = W.heap[B2]?
theorem LKp.trans {n₀ B1 B2 : Nat} {A B C : World} (h : LKp n₀ B1 B2 A B) (k : LKp n₀ B1 B2 B C) : LKp n₀ B1 B2 A C := ⟨h.1.trans k.1, k.2.1.trans h.2.1, k.2.2.trans h.2.2⟩
theorem LKp.book {n₀ B1 B2 : Nat} {w : World} (hn : n₀ ≤ w.heap.size) (h1 : B1 < w.heap.size) (h2 : B2 < w.heap.size) (W : World) (l : Nat) (o o' : Obj) (hl : w.heap.size ≤ l) (h : W.heap[l]? = some o) (hc : o.isCells = false) (hw : o.isWalk = false) : LKp n₀ B1 B2 W (W.putObj l o') :=
  ⟨belowK_b hn W l o o' hl h hc hw, World.putObj_heap_other (by omega), World.putObj_heap_other (by omega)⟩

attribute [local go_sem] Oper.semAt_some
/-- How many come first: those from the head, or those from the end. -/
def lsq (back : Bool) (ls : List Lk) : List Lk := if back = true then ls.reverse else ls
theorem lsq_false (ls : List Lk) : lsq false ls = ls := rfl
theorem lsq_true (ls : List Lk) : lsq true ls = ls.reverse := rfl

set_option maxRecDepth 100000 in
set_option maxHeartbeats 2000000 in
theorem links1_in (F : Fence) (n : Nat) (hf : F.fn 101) (hro : F.round = none) (hn : 1 ≤ n) (l B1 B2 n₀ b o C : Nat) (back : Bool) (ls : List Lk) (f : Nat → Ld) (hll : ls.length ≤ 1000000) (hb : b < n₀) (J Jx : List (Fin ls.length) → World → Prop)
    (hY : ∀ pre x W, J pre W → pre.length < ls.length → YieldAt F (n - 1) Try.prog l (lenc ls f x) W fun e W' =>
      (e = .returned (.bool true) ∧ J (pre ++ [x]) W' ∧ LKp n₀ B1 B2 W W') ∨ (e = .returned (.bool false) ∧ Jx (pre ++ [x]) W'))
    (W : World) (hB1 : W.cell? ⟨B1, 0, none⟩ = some (.slice (some ⟨b, o, none⟩) ls.length C)) (hB2 : W.cell? ⟨B2, 0, none⟩ = some (.bool back)) (hc : LRow W b o ls f) (h0 : J [] W) :
    CallsIn F n Try.prog 101 #[.func (.yield l) #[] #[], .pointer (some ⟨B1, 0, none⟩), .pointer (some ⟨B2, 0, none⟩)] W fun e W' => (∃ v, e = .returned v) ∧
      ((∃ ys : List (Fin ls.length), ys.map (fun i => ls[i]) = lsq back ls ∧ J ys W') ∨ (∃ pre : List (Fin ls.length), pre.map (fun i => ls[i]) <+: lsq back ls ∧ Jx pre W')) := by
  refine callsIn_of_wp Try.func101 rfl hf ?_ hro
  simp only [Try.ntmps101, List.size_toArray, List.length_cons, List.length_nil, Nat.reduceAdd, Nat.reduceSub, Array.replicate_succ, Array.replicate_zero, List.push_toArray, List.append_toArray, List.nil_append, List.cons_append]
  gi_wp2
  gi_loopw [7] (fun i wr => ∃ (k : Nat) (pre : List (Fin ls.length)), k ≤ ls.length ∧ i = .int .i64 k ∧ pre.length = k ∧ pre.map (fun i => ls[i]) = (lsq back ls).take k ∧ J pre wr ∧ LKp n₀ B1 B2 W wr) (fun i _ => ls.length - (intOf i).toNat)
  case atStart => exact ⟨0, [], Nat.zero_le _, rfl, rfl, by simp, h0, Below.refl _ _, rfl, rfl⟩
  case round =>
    obtain ⟨k, pre, hk, rfl, hpl, hpm, hJs, hnx⟩ := hrel
    have q1 : wr.cell? ⟨B1, 0, none⟩ = some (.slice (some ⟨b, o, none⟩) ls.length C) := (World.cell?_of_block (a := ⟨B1, 0, none⟩) hnx.2.1).trans hB1
    have q2 : wr.cell? ⟨B2, 0, none⟩ = some (.bool back) := (World.cell?_of_block (a := ⟨B2, 0, none⟩) hnx.2.2).trans hB2
    by_cases hlt : k < ls.length
    · have hrow : ∀ (i : Nat) (hi : i < ls.length), wr.cell? ⟨b, o + i * 4, none⟩ = some (.int .i64 ls[i].1) ∧ wr.cell? ⟨b, o + i * 4 + 1, none⟩ = some (.bool ls[i].2.1) ∧ wr.cell? ⟨b, o + i * 4 + 2, none⟩ = some (.slice (f i).1 ls[i].2.2.1.length (f i).2.1) ∧ wr.cell? ⟨b, o + i * 4 + 3, none⟩ = some (.slice (f i).2.2.1 ls[i].2.2.2.length (f i).2.2.2) := fun i hi => by
        obtain ⟨c0, c1, c2, c3⟩ := hc i ls[i] (List.getElem?_eq_getElem hi)
        exact ⟨(hnx.1.cell (p := ⟨b, _, none⟩) hb).trans c0, (hnx.1.cell (p := ⟨b, _, none⟩) hb).trans c1, (hnx.1.cell (p := ⟨b, _, none⟩) hb).trans c2, (hnx.1.cell (p := ⟨b, _, none⟩) hb).trans c3⟩
      cases back with
      | false =>
        obtain ⟨fn, tmps, assign, body, hy, hR⟩ := hY pre ⟨k, hlt⟩ wr hJs (by rw [hpl]; exact hlt)
        obtain ⟨c0, c1, c2, c3⟩ := hrow k hlt
        simp only [lenc, lval, Fin.getElem_fin] at hy
        gi_wp2
        refine hR.mono ?_
        rintro e W3 (⟨rfl, hJ3, hk3⟩ | ⟨rfl, hJx3⟩)
        · gi_wp2
          go_roundw
          case rel => exact ⟨k + 1, pre ++ [⟨k, hlt⟩], by omega, by simp, by simp [hpl], (by rw [List.map_append, hpm, lsq_false, List.take_succ_eq_append_getElem hlt]; rfl), hJ3, hnx.trans hk3⟩
          case measure => simp [intOf]; omega
        · gi_wp2
          refine bodyPost_ret (results_none rfl _ _ _) rfl ?_
          exact ⟨⟨_, rfl⟩, .inr ⟨_, (by rw [List.map_append, hpm, lsq_false]; exact (show _ = ls.take (k + 1) by rw [List.take_succ_eq_append_getElem hlt]) ▸ List.take_prefix _ _), hJx3⟩⟩
      | true =>
        have hlt2 : ls.length - 1 - k < ls.length := by omega
        obtain ⟨fn, tmps, assign, body, hy, hR⟩ := hY pre ⟨ls.length - 1 - k, hlt2⟩ wr hJs (by rw [hpl]; exact hlt)
        obtain ⟨c0, c1, c2, c3⟩ := hrow (ls.length - 1 - k) hlt2
        simp only [lenc, lval, Fin.getElem_fin] at hy
        have hi1 : ((ls.length : Int) - 1 - k) = ((ls.length - 1 - k : Nat) : Int) := by omega
        gi_wp2
        refine hR.mono ?_
        rintro e W3 (⟨rfl, hJ3, hk3⟩ | ⟨rfl, hJx3⟩)
        · gi_wp2
          go_roundw
          case rel => exact ⟨k + 1, pre ++ [⟨ls.length - 1 - k, hlt2⟩], by omega, by simp, by simp [hpl], (by rw [List.map_append, hpm, lsq_true, List.take_succ_eq_append_getElem (l := ls.reverse) (by simpa using hlt), List.getElem_reverse]; rfl), hJ3, hnx.trans hk3⟩
          case measure => simp [intOf]; omega
        · gi_wp2
          refine bodyPost_ret (results_none rfl _ _ _) rfl ?_
          exact ⟨⟨_, rfl⟩, .inr ⟨_, (by rw [List.map_append, hpm, lsq_true]; exact (show _ = ls.reverse.take (k + 1) by rw [List.take_succ_eq_append_getElem (l := ls.reverse) (by simpa using hlt), List.getElem_reverse]) ▸ List.take_prefix _ _), hJx3⟩⟩
    · obtain rfl : k = ls.length := by omega
      gi_wp2
      go_end0
      refine ⟨⟨_, rfl⟩, .inl ⟨pre, ?_, hJs⟩⟩
      rw [hpm, List.take_of_length_le (by simp [lsq]; split <;> simp)]

set_option maxRecDepth 100000 in
set_option maxHeartbeats 1000000 in
theorem links1_none (F : Fence) (n : Nat) (hf : F.fn 101) (hro : F.round = none) (l B1 B2 : Nat) (A : Option Addr) (C : Nat) (ls : List Lk) (J : List (Fin ls.length) → World → Prop) (hls : ls.length = 0)
    (W : World) (hB1 : W.cell? ⟨B1, 0, none⟩ = some (.slice A ls.length C)) (h0 : J [] W) :
    CallsIn F n Try.prog 101 #[.func (.yield l) #[] #[], .pointer (some ⟨B1, 0, none⟩), .pointer (some ⟨B2, 0, none⟩)] W fun e W' => (∃ v, e = .returned v) ∧ J [] W' := by
  rw [hls] at hB1
  refine callsIn_of_wp Try.func101 rfl hf ?_ hro
  simp only [Try.ntmps101, List.size_toArray, List.length_cons, List.length_nil, Nat.reduceAdd, Nat.reduceSub, Array.replicate_succ, Array.replicate_zero, List.push_toArray, List.append_toArray, List.nil_append, List.cons_append]
  gi_wp2
  gi_loopw [7] (fun i wr => i = .int .i64 0 ∧ J [] wr) (fun _ _ => 0)
  case atStart => exact ⟨rfl, h0⟩
  case round =>
    obtain ⟨rfl, hJs⟩ := hrel
    gi_wp2
    go_end0
    exact ⟨⟨_, rfl⟩, hJs⟩

set_option maxHeartbeats 1000000 in
/-- What linksOf hands back: both of its arguments in boxes. -/
theorem linksOf_in (F : Fence) (n : Nat) (h5 : F.fn 77) (hro : F.round = none) (A : Option Addr) (len C : Nat) (back : Bool) (w : World) :
    CallsIn F n Try.prog 77 #[.slice A len C, .bool back] w fun e w' => e = .returned (.func (.func 101) #[] #[.pointer (some ⟨w.heap.size, 0, none⟩), .pointer (some ⟨w.heap.size + 1, 0, none⟩)]) ∧ w' = (w.alloc (.cells #[.slice A len C] 66)).alloc (.cells #[.bool back] 4) := by
  refine callsIn_of_wp Try.func77 rfl h5 ?_ hro
  simp only [Try.ntmps77, List.size_toArray, List.length_cons, List.length_nil, Nat.reduceAdd, Nat.reduceSub, Array.replicate_succ, Array.replicate_zero, List.push_toArray, List.append_toArray, List.nil_append, List.cons_append]
  gi_wp2
  go_ret
  exact ⟨by simp, rfl⟩

/-- A row of links comes out whole, in order, or in part. -/
theorem links_stops (F : Fence) (n : Nat) (hf : F.fn 101) (hro : F.round = none) (hn : 1 ≤ n) (B1 B2 n₀ : Nat) (A : Option Addr) (C : Nat) (back : Bool) (ls : List Lk) (f : Nat → Ld) (hll : ls.length ≤ 1000000) (w : World)
    (hB1 : w.cell? ⟨B1, 0, none⟩ = some (.slice A ls.length C)) (hB2 : w.cell? ⟨B2, 0, none⟩ = some (.bool back)) (hn₀ : n₀ ≤ w.heap.size)
    (hc : ls = [] ∨ ∃ b o, A = some ⟨b, o, none⟩ ∧ b < n₀ ∧ LRow w b o ls f) :
    SeqStopsK F n Try.prog 101 #[.pointer (some ⟨B1, 0, none⟩), .pointer (some ⟨B2, 0, none⟩)] (lenc ls f) (LKp n₀ B1 B2) (fun ys => ys.map (fun i => ls[i]) = lsq back ls) (fun pre => pre.map (fun i => ls[i]) <+: lsq back ls) ls.length w := fun l J Jx W hW _ _ hY h0 => by
  have hb1 : B1 < w.heap.size := World.block_lt_of_cell? _ _ hB1
  have hb2 : B2 < w.heap.size := World.block_lt_of_cell? _ _ hB2
  have q1 := (hW.cell (p := ⟨B1, 0, none⟩) hb1).trans hB1
  have q2 := (hW.cell (p := ⟨B2, 0, none⟩) hb2).trans hB2
  rcases hc with rfl | ⟨b, o, rfl, hb, hc⟩
  · refine (links1_none F n hf hro l B1 B2 A C [] J rfl W q1 h0).mono ?_
    rintro e W' ⟨he, hj⟩
    exact ⟨he, .inl ⟨[], by simp [lsq], hj⟩⟩
  · refine links1_in F n hf hro hn l B1 B2 n₀ b o C back ls f hll hb J Jx hY W q1 q2 (fun i x hx => ?_) h0
    obtain ⟨c0, c1, c2, c3⟩ := hc i x hx
    have hbb : b < w.heap.size := by omega
    exact ⟨(hW.cell (p := ⟨b, _, none⟩) hbb).trans c0, (hW.cell (p := ⟨b, _, none⟩) hbb).trans c1, (hW.cell (p := ⟨b, _, none⟩) hbb).trans c2, (hW.cell (p := ⟨b, _, none⟩) hbb).trans c3⟩
end Go.Proofs.Ytdkcbbhkoibplaa

/-! LOw: A row of links of the call's own. Plain lemmas. -/
namespace Go.Proofs.Ytdkcbbhkoibplaa
open Go.RowKit Go.Deep

/-- One link of a row: its cells, and where its place and binds lie. -/
def LAt (w : World) (base : Nat) (g : Option Nat) (xs : List Value) (i : Nat) (x : Lk) : Prop :=
  ∃ pA pC sA sC L H, xs[i * 4]? = some (.int .i64 x.1) ∧ xs[i * 4 + 1]? = some (.bool x.2.1) ∧ xs[i * 4 + 2]? = some (.slice pA x.2.2.1.length pC) ∧ xs[i * 4 + 3]? = some (.slice sA x.2.2.2.length sC) ∧
    ISc w L H pA pC x.2.2.1 ∧ BSl w L H sA x.2.2.2 ∧ base ≤ L ∧ H ≤ w.heap.size ∧ ∀ b, g = some b → b < L ∨ H ≤ b
/-- The slice is a row of links of the call's own; what a link leads to lies not in the row's own block. -/
def LOwn (w : World) (base : Nat) (ls : List Lk) (A : Option Addr) (C : Nat) : Prop :=
  ∃ xs, w.ownsRow base 43 4 (.slice A ls.length C) ls.length xs ∧ ∀ (i : Nat) (x : Lk), ls[i]? = some x → LAt w base (Value.slice A ls.length C).ownBlock xs i x
theorem LOwn.same {w w2 : World} {base : Nat} {ls : List Lk} {A : Option Addr} {C : Nat} (h : LOwn w base ls A C) (hs : Same base w.heap.size w w2) (hle : w.heap.size ≤ w2.heap.size) : LOwn w2 base ls A C := by
  obtain ⟨xs, hown, hall⟩ := h
  refine ⟨xs, own_block hown fun g hg => ?_, fun i x hx => ?_⟩
  · have h1 := hown.lt g hg
    exact hs g h1.1 h1.2
  · obtain ⟨pA, pC, sA, sC, L, H, c0, c1, c2, c3, hp, hb, h1, h2, h3⟩ := hall i x hx
    have hs' : Same L H w w2 := fun b q1 q2 => hs b (by omega) (by omega)
    exact ⟨pA, pC, sA, sC, L, H, c0, c1, c2, c3, hp.same hs', hb.same hs', h1, by omega, h3⟩
theorem LOwn.adv {w w2 : World} {base br p : Nat} {ls : List Lk} {A : Option Addr} {C : Nat} (h : LOwn w base ls A C) (ha : Adv w br p w2) (hb : br < base) : LOwn w2 base ls A C := h.same (ha.same (Nat.le_refl _) (.inl hb)) ha.size
theorem LOwn.low {w w2 : World} {base : Nat} {ls : List Lk} {A : Option Addr} {C : Nat} (h : LOwn w base ls A C) (hb : Below w.heap.size w w2) : LOwn w2 base ls A C := h.same (Same.of_below hb) hb.size
theorem LOwn.lsl {w : World} {base : Nat} {ls : List Lk} {A : Option Addr} {C : Nat} (h : LOwn w base ls A C) : LSl w base w.heap.size A ls := by
  obtain ⟨xs, hown, hall⟩ := h
  rcases Nat.eq_zero_or_pos ls.length with h0 | h0
  · exact .inl (List.eq_nil_of_length_eq_zero h0)
  · obtain ⟨g, cap, hv, hb, hlt⟩ := hown.form h0
    have hA : A = some ⟨g, 0, none⟩ := by simp only [Value.slice.injEq] at hv; exact hv.1
    subst hA
    refine .inr ⟨g, 0, rfl, hb, hlt, fun i x hx => ?_⟩
    have hi := (List.getElem?_eq_some_iff.1 hx).1
    obtain ⟨pA, pC, sA, sC, L, H, c0, c1, c2, c3, hp, hbs, h1, h2, h3⟩ := hall i x hx
    refine ⟨pA, pC, sA, sC, ?_, ?_, ?_, ?_, hp.mono h1 h2, hbs.mono h1 h2⟩
    · rw [Nat.zero_add, hown.cellAt _ (by omega)]; exact c0
    · rw [Nat.zero_add, hown.cellAt _ (by omega)]; exact c1
    · rw [Nat.zero_add, hown.cellAt _ (by omega)]; exact c2
    · rw [Nat.zero_add, hown.cellAt _ (by omega)]; exact c3
theorem LOwn.cap {w : World} {base : Nat} {ls : List Lk} {A : Option Addr} {C : Nat} (h : LOwn w base ls A C) : ls.length ≤ C := by
  obtain ⟨xs, hown, _⟩ := h
  rcases hown.2 with ⟨_, h2⟩ | ⟨g, cap, cur, h3, _, _, h6, _⟩
  · omega
  · simp only [Value.slice.injEq] at h3
    omega
theorem LOwn.start {w : World} {base : Nat} (hb : base ≤ w.heap.size) : LOwn (w.alloc (.cells #[] 43)) base [] (some ⟨w.heap.size, 0, none⟩) 0 :=
  ⟨[], ⟨rfl, .inr ⟨w.heap.size, 0, #[], rfl, hb, heap_alloc_new _ _, Nat.le_refl _, by decide, rfl, rfl⟩⟩, fun i x hx => by simp at hx⟩
/-- One more link. w: the world ahead of the block that shows it to append. -/
theorem LOwn.append {w w3 : World} {base : Nat} {ls : List Lk} {A : Option Addr} {C g cap : Nat} {blk : Obj} {eq : Int} {back : Bool} {pA : Option Addr} {pC : Nat} {place : List Int} {B : Option Addr} {D : Nat} {bs : List Bd} {xs : List Value} {L H : Nat}
    (hown : w.ownsRow base 43 4 (.slice A ls.length C) ls.length xs) (hall : ∀ (i : Nat) (x : Lk), ls[i]? = some x → LAt w base (Value.slice A ls.length C).ownBlock xs i x)
    (hown3 : w3.ownsRow base 43 4 (.slice (some ⟨g, 0, none⟩) (ls.length + 1) cap) (ls.length + 1) (xs ++ [.int .i64 eq, .bool back, .slice pA place.length pC, .slice B bs.length D]))
    (hp : ISc w L H pA pC place) (hb : BSl w L H B bs) (hL : base ≤ L) (hH : H ≤ w.heap.size) (hg0 : ∀ b, (Value.slice A ls.length C).ownBlock = some b → b < L ∨ H ≤ b)
    (hgrow : (w.alloc blk).grownBy w3 (Value.slice A ls.length C).ownBlock) (hatg : (Value.slice A ls.length C).ownBlock = some g ∨ g = w.heap.size + 1) : LOwn w3 base (ls ++ [(eq, back, place, bs)]) (some ⟨g, 0, none⟩) cap := by
  have hs3 := hgrow.size
  simp at hs3
  have hxl : xs.length = ls.length * 4 := hown.1
  have hl : (ls ++ [((eq, back, place, bs) : Lk)]).length = ls.length + 1 := by simp
  have hkeep : ∀ {L H : Nat}, H ≤ w.heap.size → (∀ b, (Value.slice A ls.length C).ownBlock = some b → b < L ∨ H ≤ b) → Same L H w w3 := fun h2 h3 b hb1 hb2 => by
    rw [hgrow.block b (by simp; omega) (fun e => by have := h3 b e.symm; omega), Below.heap_alloc _ _ _ (by omega)]
  have hnew : ∀ {L H : Nat}, H ≤ w.heap.size → (∀ b, (Value.slice A ls.length C).ownBlock = some b → b < L ∨ H ≤ b) → ∀ b, (Value.slice (some (⟨g, 0, none⟩ : Addr)) (ls ++ [((eq, back, place, bs) : Lk)]).length cap).ownBlock = some b → b < L ∨ H ≤ b := fun h2 h3 g' hg' => by
    have : g' = g := by simpa [Value.ownBlock] using hg'.symm
    subst this
    rcases hatg with hg1 | hg1
    · exact h3 _ hg1
    · omega
  refine ⟨xs ++ [.int .i64 eq, .bool back, .slice pA place.length pC, .slice B bs.length D], by rw [hl]; exact hown3, fun i y hy => ?_⟩
  by_cases hi : i < ls.length
  · rw [List.getElem?_append_left hi] at hy
    obtain ⟨qA, qC, sA, sC, L', H', c0, c1, c2, c3, hp', hb', h1, h2, h3⟩ := hall i y hy
    exact ⟨qA, qC, sA, sC, L', H', by rw [List.getElem?_append_left (by omega)]; exact c0, by rw [List.getElem?_append_left (by omega)]; exact c1, by rw [List.getElem?_append_left (by omega)]; exact c2, by rw [List.getElem?_append_left (by omega)]; exact c3, hp'.same (hkeep h2 h3), hb'.same (hkeep h2 h3), h1, by omega, hnew h2 h3⟩
  · have hi' : i = ls.length := by have := (List.getElem?_eq_some_iff.1 hy).1; omega
    subst hi'
    simp at hy
    subst hy
    refine ⟨pA, pC, B, D, L, H, ?_, ?_, ?_, ?_, hp.same (hkeep hH hg0), hb.same (hkeep hH hg0), hL, by omega, hnew hH hg0⟩
    · rw [List.getElem?_append_right (by omega), hxl]; simp
    · rw [List.getElem?_append_right (by omega), hxl, show ls.length * 4 + 1 - ls.length * 4 = 1 from by omega]; rfl
    · rw [List.getElem?_append_right (by omega), hxl, show ls.length * 4 + 2 - ls.length * 4 = 2 from by omega]; rfl
    · rw [List.getElem?_append_right (by omega), hxl, show ls.length * 4 + 3 - ls.length * 4 = 3 from by omega]; rfl
theorem Try.infoLink : ∃ i, Try.prog.info? 43 = some i ∧ i.zero = some (.agg #[.int .i64 0, .bool false, .slice none 0 0, .slice none 0 0]) ∧ i.size = 4 ∧ i.bytes = 64 := by
  have h : (Try.prog.info? 43).map (fun i => (i.zero, i.size, i.bytes)) = some (some (.agg #[.int .i64 0, .bool false, .slice none 0 0, .slice none 0 0]), 4, 64) := by kernel_rfl
  obtain ⟨i, hi, hz⟩ := Option.map_eq_some_iff.1 h
  simp only [Prod.mk.injEq] at hz
  exact ⟨i, hi, hz.1, hz.2.1, hz.2.2⟩
/-- A row of links from its n-th on, and its first n. -/
theorem cutL_from {A : Option Addr} {C n : Nat} {ls : List Lk} (hn : n ≤ ls.length) (hc : ls.length ≤ C) : ∃ A', (∀ w : World, (Instr.slice 66 (.slice A ls.length C) (some (.int .i64 (n : Int))) none none).run Try.prog w = .ok (.slice A' (ls.length - n) (C - n)) w) ∧
    ∀ {w : World} {lo hi : Nat}, LSl w lo hi A ls → LSl w lo hi A' (ls.drop n) := by
  obtain ⟨ti, hti, htz, hts, htb⟩ := Try.infoLink
  have hsz : ∀ w : World, (sizeOf (Try.prog.elem 66)).run Try.prog w = .ok 4 w := fun w => by
    have he : Try.prog.elem 66 = 43 := by kernel_rfl
    rw [he]
    simp [sizeOf, typeInfo, hti, hts]
  have hel : Try.prog.underlying 66 = some (.slice (Try.prog.elem 66)) := by kernel_rfl
  have hrun : ∀ w : World, (Instr.slice 66 (.slice A ls.length C) (some (.int .i64 (n : Int))) none none).run Try.prog w = .ok (sliced A n ls.length C 4) w := fun w => by
    rw [run_slice_l (P := Try.prog) w 66 A ls.length C hel .i64 (n : Int) (by omega) (by omega), hsz]
    simp [Result.andThen]
  refine ⟨if C = n then A else A.map (·.add (n * 4)), fun w => by rw [hrun w]; rfl, fun {w lo hi} h => ?_⟩
  split
  · exact .inl (List.drop_eq_nil_of_le (by omega))
  · rcases h with rfl | ⟨b, o, rfl, h1, h2, h3⟩
    · exact .inl (by simp)
    · refine .inr ⟨b, o + n * 4, ?_, h1, h2, fun j x hx => ?_⟩
      · have ha : (⟨b, o, none⟩ : Addr).add (n * 4) = ⟨b, o + n * 4, none⟩ := by unfold Addr.add; split <;> simp_all
        simp only [Option.map_some, ha]
      · rw [List.getElem?_drop] at hx
        have h4 := h3 (n + j) x hx
        rw [show o + (n + j) * 4 = o + n * 4 + j * 4 from by omega] at h4
        exact h4
end Go.Proofs.Ytdkcbbhkoibplaa

/-! QN: equationsOf; the program's EqsOk. -/
namespace Go.Proofs.Ytdkcbbhkoibplaa
open Go.RowKit Go.Deep

/-- A slice's address at which the equations' nodes lie. -/
def QSl (w : World) (a : Option Addr) (es : List Eqd) : Prop :=
  es = [] ∨ ∃ b, a = some ⟨b, 0, none⟩ ∧ ∀ (i : Nat) (x : Eqd), es[i]? = some x → ∃ n1 n2, w.cell? ⟨b, i * 2, none⟩ = some n1 ∧ w.cell? ⟨b, i * 2 + 1, none⟩ = some n2 ∧ NodeIs w 0 w.heap.size n1 x.1.1 x.1.2.1 x.1.2.2 ∧ NodeIs w 0 w.heap.size n2 x.2.1 x.2.2.1 x.2.2.2
theorem QSl.next {w w' : World} {a : Option Addr} {es : List Eqd} (h : QSl w a es) (hb : Below w.heap.size w w') : QSl w' a es := by
  rcases h with h | ⟨b, e, h⟩
  · exact .inl h
  · refine .inr ⟨b, e, fun i x hx => ?_⟩
    obtain ⟨n1, n2, c1, c2, h1, h2⟩ := h i x hx
    exact ⟨n1, n2, cell_low hb c1, cell_low hb c2, (h1.below hb).mono (Nat.le_refl _) hb.size, (h2.below hb).mono (Nat.le_refl _) hb.size⟩
/-- The first j equations' nodes are laid. -/
structure QAt (w : World) (es : List Eqd) (g j : Nat) (wr : World) : Prop where
  below : Below w.heap.size w wr
  new : w.heap.size ≤ g
  lt : g < wr.heap.size
  row : ∃ f : Nat → Value, wr.rowIs g 154 (es.length * 2) f ∧ (∀ i, j * 2 ≤ i → i < es.length * 2 → f i = .nilIface) ∧ ∀ (i : Nat) (x : Eqd), i < j → es[i]? = some x → NodeIs wr 0 wr.heap.size (f (i * 2)) x.1.1 x.1.2.1 x.1.2.2 ∧ NodeIs wr 0 wr.heap.size (f (i * 2 + 1)) x.2.1 x.2.2.1 x.2.2.2
theorem QAt.start (w : World) (es : List Eqd) : QAt w es w.heap.size 0 (w.alloc (.cells (madeCells #[.nilIface, .nilIface] (es.length * 2)) 154)) := by
  refine ⟨(Below.refl _ _).alloc (Nat.le_refl _) _, Nat.le_refl _, by simp, fun _ => .nilIface, ?_, fun _ _ _ => rfl, fun i x hi => by omega⟩
  have := World.rowIs_alloc w (madeCells #[.nilIface, .nilIface] (es.length * 2)) 154 (fun _ => .nilIface) (fun i hi => by
    rw [size_madeCells] at hi
    rw [made_atA _ _ _ hi]
    have : i % (#[Value.nilIface, .nilIface] : Array Value).size = 0 ∨ i % (#[Value.nilIface, .nilIface] : Array Value).size = 1 := by simp; omega
    rcases this with h | h <;> rw [h] <;> rfl)
  rw [size_madeCells] at this
  exact this
theorem QAt.low {w wr w2 : World} {es : List Eqd} {g j : Nat} (h : QAt w es g j wr) (hb : Below wr.heap.size wr w2) : QAt w es g j w2 := by
  obtain ⟨f, hf, h1, h2⟩ := h.row
  exact ⟨h.below.trans (hb.mono h.below.size), h.new, Nat.lt_of_lt_of_le h.lt hb.size, f, hf.of_block (hb.block _ h.lt), h1, fun i x hi hx => ⟨((h2 i x hi hx).1.below hb).mono (Nat.le_refl _) hb.size, ((h2 i x hi hx).2.below hb).mono (Nat.le_refl _) hb.size⟩⟩
theorem QAt.step {w wr : World} {es : List Eqd} {g j : Nat} {x : Eqd} {n1 n2 : Value} (h : QAt w es g j wr) (hx : es[j]? = some x) (hn1 : NodeIs wr 0 wr.heap.size n1 x.1.1 x.1.2.1 x.1.2.2) (hn2 : NodeIs wr 0 wr.heap.size n2 x.2.1 x.2.2.1 x.2.2.2) :
    QAt w es g (j + 1) ((wr.setCell ⟨g, j * 2, none⟩ n1).setCell ⟨g, j * 2 + 1, none⟩ n2) := by
  obtain ⟨f, hf, hnil, hall⟩ := h.row
  have hj := (List.getElem?_eq_some_iff.1 hx).1
  have c1 : wr.cell? ⟨g, j * 2, none⟩ = some .nilIface := by rw [hf.cell (by omega), hnil _ (Nat.le_refl _) (by omega)]
  have c2 : wr.cell? ⟨g, j * 2 + 1, none⟩ = some .nilIface := by rw [hf.cell (by omega), hnil _ (by omega) (by omega)]
  have ne : (⟨g, j * 2, none⟩ : Addr) ≠ ⟨g, j * 2 + 1, none⟩ := by intro e; have := congrArg Addr.off e; simp at this
  have hkeep : ∀ q z, wr.cell? q = some z → z ≠ .nilIface → ((wr.setCell ⟨g, j * 2, none⟩ n1).setCell ⟨g, j * 2 + 1, none⟩ n2).cell? q = some z := fun q z hq hz => by
    by_cases e : q = ⟨g, j * 2, none⟩
    · subst e; rw [c1] at hq; exact absurd (Option.some.inj hq).symm hz
    · by_cases e2 : q = ⟨g, j * 2 + 1, none⟩
      · subst e2; rw [c2] at hq; exact absurd (Option.some.inj hq).symm hz
      · rw [World.cell?_setCell_other _ _ _ _ (fun h' => e2 h'.symm), World.cell?_setCell_other _ _ _ _ (fun h' => e h'.symm)]; exact hq
  refine ⟨(h.below.setCell h.new _).setCell h.new _, h.new, by simpa using h.lt, _, (hf.set _ _).set _ _, fun i h1 h2 => ?_, fun i y hi hy => ?_⟩
  · rw [if_neg (by omega), if_neg (by omega)]; exact hnil i (by omega) h2
  · by_cases e : i = j
    · subst e
      rw [hx] at hy
      obtain rfl := Option.some.inj hy
      rw [if_neg (by omega), if_pos rfl, if_pos rfl]
      exact ⟨(hn1.keepN hkeep).mono (Nat.le_refl _) (by simp), (hn2.keepN hkeep).mono (Nat.le_refl _) (by simp)⟩
    · rw [if_neg (by omega), if_neg (by omega), if_neg (by omega), if_neg (by omega)]
      obtain ⟨q1, q2⟩ := hall i y (by omega) hy
      exact ⟨(q1.keepN hkeep).mono (Nat.le_refl _) (by simp), (q2.keepN hkeep).mono (Nat.le_refl _) (by simp)⟩
theorem QAt.done {w wr : World} {es : List Eqd} {g : Nat} (h : QAt w es g es.length wr) : QSl wr (some ⟨g, 0, none⟩) es := by
  obtain ⟨f, hf, _, hall⟩ := h.row
  refine .inr ⟨g, rfl, fun i x hx => ?_⟩
  have hi := (List.getElem?_eq_some_iff.1 hx).1
  exact ⟨_, _, hf.cell (by omega), hf.cell (by omega), (hall i x hi hx).1, (hall i x hi hx).2⟩
theorem Try.infoEqn : ∃ i, Try.prog.info? 154 = some i ∧ i.zero = some (.agg #[.nilIface, .nilIface]) ∧ i.size = 2 ∧ i.bytes = 32 := by
  have h : (Try.prog.info? 154).map (fun i => (i.zero, i.size, i.bytes)) = some (some (.agg #[.nilIface, .nilIface]), 2, 32) := by kernel_rfl
  obtain ⟨i, hi, hz⟩ := Option.map_eq_some_iff.1 h
  simp only [Prod.mk.injEq] at hz
  exact ⟨i, hi, hz.1, hz.2.1, hz.2.2⟩
theorem make_eqns (n : Nat) (hn : n ≤ 1048576) (w : World) :
    (Instr.makeSlice 112 (.int .i64 (n : Int)) (.int .i64 (n : Int))).run Try.prog w = .ok (.slice (some ⟨w.heap.size, 0, none⟩) n n) (w.alloc (.cells (madeCells #[.nilIface, .nilIface] (n * 2)) 154)) := by
  obtain ⟨i, hi, hz, hs, hb⟩ := Try.infoEqn
  have := run_make (P := Try.prog) w 112 154 i _ Try.underlying112 hi hz .i64 .i64 (n : Int) (n : Int) (by omega) (by omega) (by rw [hb]; omega) (by omega)
  rw [hs] at this
  simpa [Value.cells] using this

def EqnPost (es : List Eqd) (w : World) (e : Ending) (w' : World) : Prop :=
  Below w.heap.size w w' ∧ ((okEs es = true ∧ ∃ A C, e = .returned (.tuple #[.slice A es.length C, .bool true]) ∧ QSl w' A es) ∨ (okEs es = false ∧ e = .returned (.tuple #[.slice none 0 0, .bool false])))

set_option maxRecDepth 100000 in
set_option maxHeartbeats 2000000 in
theorem equationsOf_any (es : List Eqd) (A : Option Addr) (C : Nat) (w : World) (hb : ESl w 0 w.heap.size A es) (hl : es.length ≤ 9223372036854775807) :
    Calls Try.prog 76 #[.slice A es.length C] w (EqnPost es w) := by
  have HB := Lib.hid hb
  clear hb
  by_cases hbig : 6 < es.length
  · have HF : Hid (okEs es = false) := by
      cases h : okEs es with
      | false => exact rfl
      | true => have := ((okEs_iff es).1 h).1; omega
    go_enter Try.func76, Try.ntmps76
    go_wp2_with fail
    refine bodyPost_ret (v := .tuple #[.slice none 0 0, .bool false]) ?_ rfl ⟨Below.refl _ _, .inr ⟨HF.out, rfl⟩⟩
    simp [results, Try.results76, go_sem]
  have hmk := make_eqns es.length (by omega)
  have HST := Lib.hid (QAt.start w es)
  go_enter Try.func76, Try.ntmps76
  go_wp2_with fail
  clear hmk
  go_loopw [19] (fun i wr => ∃ j : Nat, i = .int .i64 j ∧ j ≤ es.length ∧ Hid ((es.take j).all okE = true) ∧ Hid (QAt w es w.heap.size j wr)) (fun i _ => es.length - (intOf i).toNat)
  case atStart => exact ⟨0, rfl, Nat.zero_le _, rfl, HST⟩
  case round =>
    clear HST
    obtain ⟨j, rfl, hj, HS, HQ⟩ := hrel
    have hws := HQ.out.below.size
    by_cases hlt : j < es.length
    · obtain ⟨x, hx⟩ : ∃ x, es[j]? = some x := ⟨es[j], List.getElem?_eq_getElem hlt⟩
      obtain ⟨⟨s, v, k⟩, s', v', k'⟩ := x
      have hbr := HB.out.below HQ.out.below
      obtain ⟨b, o, rfl, _, hbB, a1, d1, a2, d2, c0, c1, c2, c3, c4, c5, hsl, hsl2⟩ := hbr.at hx
      dsimp only at c0 c1 c2 c3 c4 c5 hsl hsl2
      have g1 : (0 : Int) ≤ (j : Int) := by omega
      have g2 : (j : Int) < (es.length : Int) := by omega
      have HX := Lib.hid hx
      have hbx : Below wr.heap.size wr (wr.alloc (.cells #[.int .i64 s, .int .i64 v, .slice a1 (flen k) d1, .int .i64 s', .int .i64 v', .slice a2 (flen k') d2] 63)) := box_low _ _
      have HSL := Lib.hid (Sl.next (hsl.mono (Nat.le_refl _) hws) hbx)
      have HSL2 := Lib.hid (Sl.next (hsl2.mono (Nat.le_refl _) hws) hbx)
      have HQ1 := Lib.hid (HQ.out.low hbx)
      have cx : ∀ i, (wr.alloc (.cells #[.int .i64 s, .int .i64 v, .slice a1 (flen k) d1, .int .i64 s', .int .i64 v', .slice a2 (flen k') d2] 63)).cell? ⟨wr.heap.size, i, none⟩ = #[Value.int .i64 s, .int .i64 v, .slice a1 (flen k) d1, .int .i64 s', .int .i64 v', .slice a2 (flen k') d2][i]? := fun i => by rw [World.cell?_alloc_at _ _ _ _ (by simp)]
      have HX3 : Hid ((wr.alloc (.cells #[.int .i64 s, .int .i64 v, .slice a1 (flen k) d1, .int .i64 s', .int .i64 v', .slice a2 (flen k') d2] 63)).cell? ⟨wr.heap.size, 3, none⟩ = some (.int .i64 s')) := cx 3
      have HX4 : Hid ((wr.alloc (.cells #[.int .i64 s, .int .i64 v, .slice a1 (flen k) d1, .int .i64 s', .int .i64 v', .slice a2 (flen k') d2] 63)).cell? ⟨wr.heap.size, 4, none⟩ = some (.int .i64 v')) := cx 4
      have HX5 : Hid ((wr.alloc (.cells #[.int .i64 s, .int .i64 v, .slice a1 (flen k) d1, .int .i64 s', .int .i64 v', .slice a2 (flen k') d2] 63)).cell? ⟨wr.heap.size, 5, none⟩ = some (.slice a2 (flen k') d2)) := cx 5
      clear hx hsl hsl2 hbx cx
      go_wp2_with fail
      with_reducible refine (nodeOf_any s v a1 d1 k 16 _ HSL.out (by omega) (by omega)).mono ?_
      rintro e w2 ⟨n1, rfl, hb2, hyes⟩
      have e3 := cell_low hb2 HX3.out
      have e4 := cell_low hb2 HX4.out
      have e5 := cell_low hb2 HX5.out
      have HQ2 := Lib.hid (HQ1.out.low hb2)
      have HSL3 := Lib.hid (HSL2.out.next hb2)
      have HY := Lib.hid hyes
      clear hb2 hyes c0 c1 c2 c3 c4 c5 HSL HSL2 HX3 HX4 HX5 HQ1 HQ
      go_wp2_with fail
      with_reducible refine (nodeOf_any s' v' a2 d2 k' 16 _ HSL3.out (by omega) (by omega)).mono ?_
      rintro e w3 ⟨n2, rfl, hb3, hyes3⟩
      have HQ3 := Lib.hid (HQ2.out.low hb3)
      have HY2 := Lib.hid hyes3
      have HB3 := Lib.hid hb3
      clear hb3 hyes3 e3 e4 e5 HSL3 HQ2
      cases hok : okW s v k 16 with
      | false =>
        have HF : Hid (okEs es = false) := all_no HX.out (by simp only [okE, okT3, hok, Bool.false_and])
        clear hok
        go_wp2_with fail
        refine bodyPost_ret (v := .tuple #[.slice none 0 0, .bool false]) ?_ rfl ⟨HQ3.out.below, .inr ⟨HF.out, rfl⟩⟩
        simp [results, Try.results76, go_sem]
      | true =>
        have HOK := Lib.hid hok
        clear hok
        cases hok : okW s' v' k' 16 with
        | false =>
          have HF : Hid (okEs es = false) := all_no HX.out (by simp only [okE, okT3, hok, Bool.and_false])
          clear hok
          go_wp2_with fail
          refine bodyPost_ret (v := .tuple #[.slice none 0 0, .bool false]) ?_ rfl ⟨HQ3.out.below, .inr ⟨HF.out, rfl⟩⟩
          simp [results, Try.results76, go_sem]
        | true =>
          have HA : Hid ((es.take (j + 1)).all okE = true) := all_take HS.out HX.out (by simp only [okE, okT3, hok, HOK.out, Bool.and_self])
          have hn1 := ((HY.out HOK.out).mono (Nat.zero_le _) (Nat.le_refl _)).below HB3.out |>.mono (Nat.le_refl _) HB3.out.size
          have hn2 := (HY2.out hok).mono (Nat.zero_le _) (Nat.le_refl _)
          obtain ⟨f, hf, hnil, _⟩ := HQ3.out.row
          have z1 : w3.cell? ⟨w.heap.size, j * 2, none⟩ = some .nilIface := by rw [hf.cell (by omega), hnil _ (Nat.le_refl _) (by omega)]
          have z2 : w3.cell? ⟨w.heap.size, j * 2 + 1, none⟩ = some .nilIface := by rw [hf.cell (by omega), hnil _ (by omega) (by omega)]
          have f1 := hf.frozen (j * 2)
          have f2 := hf.frozen (j * 2 + 1)
          obtain ⟨t1, u1, rfl⟩ : ∃ t u, n1 = .iface t u := by rcases hn1 with ⟨_, _, rfl⟩ | ⟨_, _, _, rfl, _⟩ <;> exact ⟨_, _, rfl⟩
          obtain ⟨t2, u2, rfl⟩ : ∃ t u, n2 = .iface t u := by rcases hn2 with ⟨_, _, rfl⟩ | ⟨_, _, _, rfl, _⟩ <;> exact ⟨_, _, rfl⟩
          have HQ4 := Lib.hid (HQ3.out.step HX.out hn1 hn2)
          clear hok hn1 hn2 hf hnil HY HY2 HB3
          go_wp2_with fail
          go_roundw
          case rel => exact ⟨j + 1, by go_num, by omega, HA, HQ4⟩
          case measure => simp [intOf]; omega
    · obtain rfl : j = es.length := by omega
      have HE : Hid (okEs es = true) := by
        refine (okEs_iff es).2 ⟨by omega, fun x hx => ?_⟩
        have := HS.out
        rw [List.take_of_length_le (by omega)] at this
        exact List.all_eq_true.1 this x hx
      go_wp2_with fail
      refine bodyPost_ret (v := .tuple #[.slice (some ⟨w.heap.size, 0, none⟩) es.length es.length, .bool true]) ?_ rfl ⟨HQ.out.below, .inl ⟨HE.out, _, _, rfl, HQ.out.done⟩⟩
      simp [results, Try.results76, go_sem]

end Go.Proofs.Ytdkcbbhkoibplaa

/-! FW0: The program's sides of an equation. -/
namespace Go.Proofs.Ytdkcbbhkoibplaa
open Go.RowKit Go.Deep

set_option maxRecDepth 100000 in
set_option maxHeartbeats 1000000 in
theorem sides_any (t1 t2 : TypeId) (u1 u2 : Value) (back : Bool) (w : World) :
    Calls Try.prog 103 #[.agg #[.iface t1 u1, .iface t2 u2], .bool back] w fun e w' =>
      e = .returned (.tuple (if back = true then #[.iface t2 u2, .iface t1 u1] else #[.iface t1 u1, .iface t2 u2])) ∧ Below w.heap.size w w' := by
  have hb0 : Below w.heap.size w (w.alloc (.cells #[.iface t1 u1, .iface t2 u2] 154)) := box_low _ _
  have HB0 := Lib.hid hb0
  have hu0 : ∀ u : After (w.alloc (.cells #[.iface t1 u1, .iface t2 u2] 154)).heap.size (w.alloc (.cells #[.iface t1 u1, .iface t2 u2] 154)), u.world.cell? ⟨w.heap.size, 0, none⟩ = some (.iface t1 u1) := fun u => by
    rw [u.below.cell (by simp), World.cell?_alloc_at _ _ _ _ (by simp)]; rfl
  have hu1 : ∀ u : After (w.alloc (.cells #[.iface t1 u1, .iface t2 u2] 154)).heap.size (w.alloc (.cells #[.iface t1 u1, .iface t2 u2] 154)), u.world.cell? ⟨w.heap.size, 1, none⟩ = some (.iface t2 u2) := fun u => by
    rw [u.below.cell (by simp), World.cell?_alloc_at _ _ _ _ (by simp)]; rfl
  clear hb0
  go_enter Try.func103, Try.ntmps103
  cases back with
  | true =>
    go_wp2_with fail
    refine wp_region_mix (fun w' => ∃ u : After (w.alloc (.cells #[.iface t1 u1, .iface t2 u2] 154)).heap.size (w.alloc (.cells #[.iface t1 u1, .iface t2 u2] 154)), w' = u.world) [] [(0, 0), (1, 0), (2, 0), (3, 0), (4, 0), (5, 0)] (by kernel_rfl) (by kernel_rfl) ⟨⟨_, (Below.refl _ _).drew⟩, rfl⟩ ?_
    have HB1 := Lib.hid (HB0.out.trans ((Below.refl (w.alloc (.cells #[.iface t1 u1, .iface t2 u2] 154)).heap.size (w.alloc (.cells #[.iface t1 u1, .iface t2 u2] 154))).drew.mono (by simp)))
    iterate 6
      refine mix_see rfl (fun K hK => ?_)
      go_simp
      refine hK _ ?_
      clear hK K
    refine mix_end ?_
    clear hu0 hu1
    generalize (w.alloc (.cells #[.iface t1 u1, .iface t2 u2] 154)).drew = wd at *
    go_wp2_with fail
    refine bodyPost_ret (v := .tuple #[.iface t2 u2, .iface t1 u1]) ?_ rfl ⟨rfl, HB1.out⟩
    simp [results, Try.results103, go_sem]
  | false =>
    go_wp2_with fail
    refine wp_region_mix (fun w' => ∃ u : After (w.alloc (.cells #[.iface t1 u1, .iface t2 u2] 154)).heap.size (w.alloc (.cells #[.iface t1 u1, .iface t2 u2] 154)), w' = u.world) [] [(0, 0), (1, 0), (2, 0), (3, 0), (4, 0), (5, 0)] (by kernel_rfl) (by kernel_rfl) ⟨⟨_, (Below.refl _ _).drew⟩, rfl⟩ ?_
    have HB1 := Lib.hid (HB0.out.trans ((Below.refl (w.alloc (.cells #[.iface t1 u1, .iface t2 u2] 154)).heap.size (w.alloc (.cells #[.iface t1 u1, .iface t2 u2] 154))).drew.mono (by simp)))
    iterate 6
      refine mix_see rfl (fun K hK => ?_)
      go_simp
      refine hK _ ?_
      clear hK K
    refine mix_end ?_
    clear hu0 hu1
    generalize (w.alloc (.cells #[.iface t1 u1, .iface t2 u2] 154)).drew = wd at *
    go_wp2_with fail
    refine bodyPost_ret (v := .tuple #[.iface t1 u1, .iface t2 u2]) ?_ rfl ⟨rfl, HB1.out⟩
    simp [results, Try.results103, go_sem]
end Go.Proofs.Ytdkcbbhkoibplaa

/-! XBt: toTerm, toTermS once more: the copy is a tree whose rows lie each at the head of a block of its own, not frozen; and what stays of it if its numbers are written over. -/
namespace Go.Proofs.Ytdkcbbhkoibplaa
open Go.RowKit Go.Deep

theorem frozen_same {w w' : World} {b o : Nat} (h : w'.heap[b]? = w.heap[b]?) : w'.frozen? ⟨b, o, none⟩ = w.frozen? ⟨b, o, none⟩ := by simp only [World.frozen?, h]
end Go.Proofs.Ytdkcbbhkoibplaa

/-! XT: Trees of one's own: each row at the head of a block, the rows below it behind it, those of one kid ahead of those of the next. Plain lemmas. -/
namespace Go.Proofs.Ytdkcbbhkoibplaa
open Go.RowKit Go.Deep

theorem Ls_mono {Ls : Nat → Nat} {n : Nat} (h : ∀ i, i < n → Ls i ≤ Ls (i + 1)) : ∀ (d i : Nat), i + d ≤ n → Ls i ≤ Ls (i + d)
  | 0, _, _ => Nat.le_refl _
  | d + 1, i, hi => Nat.le_trans (Ls_mono h d i (by omega)) (by rw [show i + (d + 1) = i + d + 1 from by omega]; exact h (i + d) (by omega))

/-- The number from which the i-th kid counts. -/
def cnt (k : Fo) (m : Int) (i : Nat) : Int := m + 2 * ((fsz k : Int) - (fsz (fdrop i k) : Int))
end Go.Proofs.Ytdkcbbhkoibplaa
