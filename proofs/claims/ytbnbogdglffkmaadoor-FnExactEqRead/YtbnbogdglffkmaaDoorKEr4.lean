/- Several texts in one: XO0, ReadB, XS1, XS2, XE1, T1b, EQW. -/
import Derived.Test.YtbnbogdglffkmaaDoorKEr1
import Derived.Test.YtbnbogdglffkmaaDoorKRd2
import Derived.Test.YtbnbogdglffkmaaDoorKRd3
import Derived.Test.YtbnbogdglffkmaaDoorKRd13
import Derived.Test.YtbnbogdglffkmaaDoorKRd4
import Derived.Test.YtbnbogdglffkmaaDoorKRd16
import Derived.Test.YtbnbogdglffkmaaDoorKEr3
import Derived.Test.YtbnbogdglffkmaaDoorKEr2
import Derived.Test.YtbnbogdglffkmaaDoorKRd10

/-! XO0: Small lemmas of the exact laws. -/
namespace Go.Proofs.YtbnbogdglffkmaaDoor
open Go.RowKit Go.Deep

theorem szR_fit {k : Fo} (h : 0 ≤ szR k 1048576) : fsz k ≤ 1048576 := by
  unfold szR at h
  split at h
  · omega
  · omega
theorem cell_lowX {W w2 : World} {q : Addr} {x : Value} (hb : Below W.heap.size W w2) (h : W.cell? q = some x) : w2.cell? q = some x := by
  rw [hb.cell (World.block_lt_of_cell? _ _ h)]; exact h
end Go.Proofs.YtbnbogdglffkmaaDoor

/-! ReadB: - A slice of binds that came in as an argument, as the walks take it. -/
namespace Go.Proofs.YtbnbogdglffkmaaDoor
open Go.ChangeShapes Go.WideShapes Go.ChangeAt Go.RowKit Go.Deep Go.Joins

theorem list_of_all {α : Type} {P : Nat → α → Prop} (n : Nat) (h : ∀ i, i < n → ∃ x, P i x) : ∃ xs : List α, xs.length = n ∧ ∀ (i : Nat) x, xs[i]? = some x → P i x := by
  induction n with
  | zero => exact ⟨[], rfl, fun i x hx => by simp at hx⟩
  | succ n ih =>
    obtain ⟨xs, hl, hall⟩ := ih fun i hi => h i (by omega)
    obtain ⟨y, hy⟩ := h n (by omega)
    refine ⟨xs ++ [y], by simp [hl], fun i x hx => ?_⟩
    by_cases hi : i < xs.length
    · rw [List.getElem?_append_left hi] at hx; exact hall i x hx
    · have : i = xs.length := by have := (List.getElem?_eq_some_iff.1 hx).1; simp at this; omega
      subst this
      simp at hx
      rw [← hx, hl]; exact hy

end Go.Proofs.YtbnbogdglffkmaaDoor

/-! XS1: - Slices of binds in the exact laws: their size, copies of them, marks. -/
namespace Go.Proofs.YtbnbogdglffkmaaDoor
open Go.RowKit Go.Deep

/-- How many terms lie in a row of binds. -/
def szT : List Bd → Nat
  | [] => 0
  | x :: r => fsz x.2.2.2 + szT r
/-- What is left of a size behind a row of binds. -/
def szB (bs : List Bd) (l : Int) : Int := if (szT bs : Int) ≤ l then l - szT bs else -1
def szBR (bs : List Bd) (left : Int) : Int := if (bs.length : Int) + szT bs ≤ left then left - (bs.length + szT bs) else -1
theorem szBR_start (bs : List Bd) (left : Int) : szBR bs left = szB bs (left - bs.length) := by
  unfold szBR szB
  by_cases h : (bs.length : Int) + szT bs ≤ left
  · rw [if_pos h, if_pos (by omega)]; omega
  · rw [if_neg h, if_neg (by omega)]
theorem szBR_over {bs : List Bd} {left : Int} (h : left < bs.length) : szBR bs left = -1 := by unfold szBR; rw [if_neg (by omega)]
theorem szBR_case (bs : List Bd) (left : Int) : szBR bs left = -1 ∨ 0 ≤ szBR bs left := by unfold szBR; split <;> omega
theorem szBR_fit {bs : List Bd} {left : Int} (h : 0 ≤ szBR bs left) (hl : left ≤ 1048576) : bs.length + szT bs ≤ 1048576 ∧ szBR bs left ≤ 1048576 := by
  unfold szBR at *
  split at h
  · rename_i hc; rw [if_pos hc]; omega
  · omega
theorem szT_mem : ∀ {bs : List Bd} {x : Bd}, x ∈ bs → fsz x.2.2.2 ≤ szT bs
  | [], _, h => by cases h
  | y :: r, x, h => by
    simp only [szT]
    rcases List.mem_cons.1 h with rfl | h
    · omega
    · have := szT_mem h; omega
theorem mcn_szT : ∀ bs : List Bd, mcn bs = 3 * (bs.length : Int) + 2 * (szT bs : Int)
  | [] => by simp [mcn, szT]
  | x :: r => by simp only [mcn, szT, List.length_cons, mcn_szT r]; push_cast; omega
theorem szT_cons (x : Bd) (r : List Bd) : (szT (x :: r) : Int) = (fsz x.2.2.2 : Int) + (szT r : Int) := by simp [szT]
theorem szB_cons {x : Bd} {r : List Bd} {l : Int} (_h : (fsz x.2.2.2 : Int) ≤ l) : szB (x :: r) l = szB r (l - fsz x.2.2.2) := by
  have e := szT_cons x r
  unfold szB
  by_cases h2 : (szT (x :: r) : Int) ≤ l
  · rw [if_pos h2, if_pos (by omega)]; omega
  · rw [if_neg h2, if_neg (by omega)]
theorem szB_over {x : Bd} {r : List Bd} {l : Int} (h : ¬ (fsz x.2.2.2 : Int) ≤ l) : szB (x :: r) l = -1 := by
  have e := szT_cons x r
  unfold szB
  rw [if_neg (by omega)]
theorem drop_bdX {bs : List Bd} {j : Nat} {x : Bd} (h : bs[j]? = some x) : bs.drop j = x :: bs.drop (j + 1) := by
  obtain ⟨hj, rfl⟩ := List.getElem?_eq_some_iff.1 h
  exact List.drop_eq_getElem_cons hj

end Go.Proofs.YtbnbogdglffkmaaDoor

/-! XS2: - Copies of slices of binds in the exact laws. -/
namespace Go.Proofs.YtbnbogdglffkmaaDoor
open Go.RowKit Go.Deep

/-- A copy of a row of binds: the row in a block of its own, its terms in later blocks. -/
def BS (w : World) (base top : Nat) (bs : List Bd) (A : Option Addr) : Prop :=
  bs = [] ∨ ∃ g, A = some ⟨g, 0, none⟩ ∧ base ≤ g ∧ g < top ∧ (∀ o, w.frozen? ⟨g, o, none⟩ = false) ∧ ∀ i x, bs[i]? = some x → ∃ a c, w.cell? ⟨g, i * 4, none⟩ = some (.int .i64 x.1) ∧ w.cell? ⟨g, i * 4 + 1, none⟩ = some (.int .i64 x.2.1) ∧ w.cell? ⟨g, i * 4 + 2, none⟩ = some (.int .i64 x.2.2.1) ∧ w.cell? ⟨g, i * 4 + 3, none⟩ = some (.slice a (flen x.2.2.2) c) ∧ SX w (g + 1) top a x.2.2.2
theorem BS.same {w w' : World} {base top : Nat} {bs : List Bd} {A : Option Addr} (h : BS w base top bs A) (hs : Same base top w w') : BS w' base top bs A := by
  rcases h with h | ⟨g, e, h1, h2, hf, hc⟩
  · exact .inl h
  · refine .inr ⟨g, e, h1, h2, fun o => by rw [frozen_same (hs g h1 h2)]; exact hf o, fun i x hx => ?_⟩
    obtain ⟨a, c, c0, c1, c2, c3, ht⟩ := hc i x hx
    exact ⟨a, c, by rw [hs.cell h1 h2]; exact c0, by rw [hs.cell h1 h2]; exact c1, by rw [hs.cell h1 h2]; exact c2, by rw [hs.cell h1 h2]; exact c3, ht.same (hs.mono (by omega) (Nat.le_refl _))⟩
theorem BS.bsl {w : World} {base top : Nat} {bs : List Bd} {A : Option Addr} (h : BS w base top bs A) : BSl w base top A bs := by
  rcases h with h | ⟨g, e, h1, h2, hf, hc⟩
  · exact .inl h
  · refine .inr ⟨g, 0, e, h1, h2, fun i x hx => ?_⟩
    obtain ⟨a, c, c0, c1, c2, c3, ht⟩ := hc i x hx
    exact ⟨a, c, by rw [Nat.zero_add]; exact c0, by rw [Nat.zero_add]; exact c1, by rw [Nat.zero_add]; exact c2, by rw [Nat.zero_add]; exact c3, ht.1.mono (by omega) (Nat.le_refl _)⟩

def TobPost (x s v : Int) (k : Fo) (w : World) (e : Ending) (w' : World) : Prop :=
  ∃ a c, e = .returned (.agg #[.int .i64 x, .int .i64 s, .int .i64 v, .slice a (flen k) c]) ∧ Below w.heap.size w w' ∧ SX w' w.heap.size w'.heap.size a k
theorem tob_end {w w1 : World} {x s v : Int} {k : Fo} {a : Option Addr} {c : Nat} {n : Nat} (hn : n = w.heap.size) (hb : Below n w w1) (hl : SX w1 (n + 3) w1.heap.size a k) (u0 u1 u2 y0 y1 y2 y3 : Value) :
    TobPost x s v k w (.returned (.agg #[.int .i64 x, .int .i64 s, .int .i64 v, .slice a (flen k) c])) (((((((w1.setCell ⟨n + 1 + 1, 1, none⟩ u0).setCell ⟨n + 1 + 1, 2, none⟩ u1).setCell ⟨n + 1 + 1, 3, none⟩ u2).setCell ⟨n + 1, 0, none⟩ y0).setCell ⟨n + 1, 1, none⟩ y1).setCell ⟨n + 1, 2, none⟩ y2).setCell ⟨n + 1, 3, none⟩ y3) := by
  subst hn
  refine ⟨a, c, rfl, ((((((hb.setCell (by simp; omega) _).setCell (by simp; omega) _).setCell (by simp; omega) _).setCell (by simp) _).setCell (by simp) _).setCell (by simp) _).setCell (by simp) _, ?_⟩
  have hs : Same (w.heap.size + 3) w1.heap.size w1 (((((((w1.setCell ⟨w.heap.size + 1 + 1, 1, none⟩ u0).setCell ⟨w.heap.size + 1 + 1, 2, none⟩ u1).setCell ⟨w.heap.size + 1 + 1, 3, none⟩ u2).setCell ⟨w.heap.size + 1, 0, none⟩ y0).setCell ⟨w.heap.size + 1, 1, none⟩ y1).setCell ⟨w.heap.size + 1, 2, none⟩ y2).setCell ⟨w.heap.size + 1, 3, none⟩ y3) :=
    (((((((Same.setCell (fun _ _ _ => rfl) (.inl (by simp)) _).setCell (.inl (by simp)) _).setCell (.inl (by simp)) _).setCell (.inl (by simp)) _).setCell (.inl (by simp)) _).setCell (.inl (by simp)) _).setCell (.inl (by simp)) _)
  exact (hl.same hs).mono (by omega) (by simp)

theorem make_binds (n : Nat) (hn : n ≤ 1048576) (w : World) :
    (Instr.makeSlice 177 (.int .i64 (n : Int)) (.int .i64 (n : Int))).run Tryd.prog w = .ok (.slice (some ⟨w.heap.size, 0, none⟩) n n) (w.alloc (.cells (madeCells #[.int .i64 0, .int .i64 0, .int .i64 0, .slice none 0 0] (n * 4)) 179)) := by
  obtain ⟨i, hi, hz, hs, hb⟩ := Tryd.infoBind
  have := run_make (P := Tryd.prog) w 177 179 i _ Tryd.underlying177 hi hz .i64 .i64 (n : Int) (n : Int) (by omega) (by omega) (by rw [hb]; omega) (by omega)
  rw [hs] at this
  simpa [Value.cells] using this
/-- What holds at the head of toBindS's loop. -/
structure TobAt (w : World) (bs : List Bd) (j : Nat) (wr : World) : Prop where
  below : Below w.heap.size w wr
  size : w.heap.size < wr.heap.size
  row : ∃ f : Nat → Value, wr.rowIs w.heap.size 179 (bs.length * 4) f ∧ ∀ i x, i < j → bs[i]? = some x → ∃ a c, f (i * 4) = .int .i64 x.1 ∧ f (i * 4 + 1) = .int .i64 x.2.1 ∧ f (i * 4 + 2) = .int .i64 x.2.2.1 ∧ f (i * 4 + 3) = .slice a (flen x.2.2.2) c ∧ SX wr (w.heap.size + 1) wr.heap.size a x.2.2.2
theorem TobAt.start (w : World) (bs : List Bd) : TobAt w bs 0 (w.alloc (.cells (madeCells #[.int .i64 0, .int .i64 0, .int .i64 0, .slice none 0 0] (bs.length * 4)) 179)) := by
  refine ⟨(Below.refl _ _).alloc (Nat.le_refl _) _, by simp, ⟨fun i => #[Value.int .i64 0, .int .i64 0, .int .i64 0, .slice none 0 0][i % 4]!, ?_, fun i x hi => by omega⟩⟩
  have := World.rowIs_alloc w (madeCells #[.int .i64 0, .int .i64 0, .int .i64 0, .slice none 0 0] (bs.length * 4)) 179 (fun i => #[Value.int .i64 0, .int .i64 0, .int .i64 0, .slice none 0 0][i % 4]!) (fun i hi => by
    rw [size_madeCells] at hi
    exact made_at _ _ _ hi)
  rw [size_madeCells] at this
  exact this
theorem TobAt.step {w wr w2 : World} {bs : List Bd} {j : Nat} {x s v : Int} {k : Fo} {a : Option Addr} {c : Nat} (h : TobAt w bs j wr) (hx : bs[j]? = some (x, s, v, k)) (hb : Below wr.heap.size wr w2) (hl : SX w2 wr.heap.size w2.heap.size a k) :
    TobAt w bs (j + 1) ((((w2.setCell ⟨w.heap.size, j * 4, none⟩ (.int .i64 x)).setCell ⟨w.heap.size, j * 4 + 1, none⟩ (.int .i64 s)).setCell ⟨w.heap.size, j * 4 + 2, none⟩ (.int .i64 v)).setCell ⟨w.heap.size, j * 4 + 3, none⟩ (.slice a (flen k) c)) := by
  have hs := h.size
  have hs2 := hb.size
  obtain ⟨f, hf, hall⟩ := h.row
  have hf2 := hf.of_block (hb.block _ hs)
  have hsame : ∀ {L H : Nat}, w.heap.size < L → Same L H w2 ((((w2.setCell ⟨w.heap.size, j * 4, none⟩ (.int .i64 x)).setCell ⟨w.heap.size, j * 4 + 1, none⟩ (.int .i64 s)).setCell ⟨w.heap.size, j * 4 + 2, none⟩ (.int .i64 v)).setCell ⟨w.heap.size, j * 4 + 3, none⟩ (.slice a (flen k) c)) := fun hL =>
    (((Same.setCell (fun _ _ _ => rfl) (.inl hL) _).setCell (.inl hL) _).setCell (.inl hL) _).setCell (.inl hL) _
  refine ⟨((((h.below.trans (hb.mono (by omega))).setCell (by simp) _).setCell (by simp) _).setCell (by simp) _).setCell (by simp) _, by simp; omega, ⟨_, (((hf2.set _ _).set _ _).set _ _).set _ _, fun i y hi hy => ?_⟩⟩
  by_cases hij : i = j
  · subst hij
    rw [hx] at hy
    obtain rfl := Option.some.inj hy
    exact ⟨a, c, by simp, by simp, by simp, by simp, (hl.same (hsame (by omega))).mono (by omega) (by simp)⟩
  · obtain ⟨a', c', h0, h1, h2, h3, hsl⟩ := hall i y (by omega) hy
    refine ⟨a', c', ?_, ?_, ?_, ?_, ((hsl.same (fun b h1 h2 => hb.block b h2)).same (hsame (by omega))).mono (Nat.le_refl _) (by simp; omega)⟩
    · rw [if_neg (by omega), if_neg (by omega), if_neg (by omega), if_neg (by omega)]; exact h0
    · rw [if_neg (by omega), if_neg (by omega), if_neg (by omega), if_neg (by omega)]; exact h1
    · rw [if_neg (by omega), if_neg (by omega), if_neg (by omega), if_neg (by omega)]; exact h2
    · rw [if_neg (by omega), if_neg (by omega), if_neg (by omega), if_neg (by omega)]; exact h3
theorem TobAt.bs {w wr : World} {bs : List Bd} {j : Nat} (h : TobAt w bs j wr) (hj : bs.length ≤ j) : BS wr w.heap.size wr.heap.size bs (some ⟨w.heap.size, 0, none⟩) := by
  obtain ⟨f, hf, hall⟩ := h.row
  refine .inr ⟨w.heap.size, rfl, Nat.le_refl _, h.size, fun o => hf.frozen o, fun i x hx => ?_⟩
  have hi := (List.getElem?_eq_some_iff.1 hx).1
  obtain ⟨a, c, h0, h1, h2, h3, hs⟩ := hall i x (by omega) hx
  refine ⟨a, c, ?_, ?_, ?_, ?_, hs⟩
  · rw [← h0]; exact hf.cell (by omega)
  · rw [← h1]; exact hf.cell (by omega)
  · rw [← h2]; exact hf.cell (by omega)
  · rw [← h3]; exact hf.cell (by omega)
def TobsPost (bs : List Bd) (w : World) (e : Ending) (w' : World) : Prop :=
  ∃ A C, e = .returned (.slice A (List.length bs) C) ∧ Below w.heap.size w w' ∧ BS w' w.heap.size w'.heap.size bs A

end Go.Proofs.YtbnbogdglffkmaaDoor

/-! XE1: - Slices of equations in the exact laws: their size, copies of them, whether they are the same. -/
namespace Go.Proofs.YtbnbogdglffkmaaDoor
open Go.RowKit Go.Deep

def fszE (x : Eqd) : Nat := fsz x.1.2.2 + fsz x.2.2.2
def szER (x : Eqd) (left : Int) : Int := if (fszE x : Int) ≤ left then left - fszE x else -1
/-- How many terms lie in a row of equations. -/
def szQ : List Eqd → Nat
  | [] => 0
  | x :: r => fszE x + szQ r
def szE (es : List Eqd) (l : Int) : Int := if (szQ es : Int) ≤ l then l - szQ es else -1
def szQR (es : List Eqd) (left : Int) : Int := if (es.length : Int) + szQ es ≤ left then left - (es.length + szQ es) else -1
theorem szQR_start (es : List Eqd) (left : Int) : szQR es left = szE es (left - es.length) := by
  unfold szQR szE
  by_cases h : (es.length : Int) + szQ es ≤ left
  · rw [if_pos h, if_pos (by omega)]; omega
  · rw [if_neg h, if_neg (by omega)]
theorem szQR_over {es : List Eqd} {left : Int} (h : left < es.length) : szQR es left = -1 := by unfold szQR; rw [if_neg (by omega)]
theorem szQR_case (es : List Eqd) (left : Int) : szQR es left = -1 ∨ 0 ≤ szQR es left := by unfold szQR; split <;> omega
theorem szQR_fit {es : List Eqd} {left : Int} (h : 0 ≤ szQR es left) (hl : left ≤ 1048576) : es.length + szQ es ≤ 1048576 ∧ szQR es left ≤ 1048576 := by
  unfold szQR at *
  split at h
  · rename_i hc; rw [if_pos hc]; omega
  · omega
theorem szQ_mem : ∀ {es : List Eqd} {x : Eqd}, x ∈ es → fszE x ≤ szQ es
  | [], _, h => by cases h
  | y :: r, x, h => by
    simp only [szQ]
    rcases List.mem_cons.1 h with rfl | h
    · omega
    · have := szQ_mem h; omega
theorem szQ_cons (x : Eqd) (r : List Eqd) : (szQ (x :: r) : Int) = (fszE x : Int) + (szQ r : Int) := by simp [szQ]
theorem szE_cons {x : Eqd} {r : List Eqd} {l : Int} (_h : (fszE x : Int) ≤ l) : szE (x :: r) l = szE r (l - fszE x) := by
  have e := szQ_cons x r
  unfold szE
  by_cases h2 : (szQ (x :: r) : Int) ≤ l
  · rw [if_pos h2, if_pos (by omega)]; omega
  · rw [if_neg h2, if_neg (by omega)]
theorem szE_over {x : Eqd} {r : List Eqd} {l : Int} (h : ¬ (fszE x : Int) ≤ l) : szE (x :: r) l = -1 := by
  have e := szQ_cons x r
  unfold szE
  rw [if_neg (by omega)]
theorem drop_eqX {es : List Eqd} {j : Nat} {x : Eqd} (h : es[j]? = some x) : es.drop j = x :: es.drop (j + 1) := by
  obtain ⟨hj, rfl⟩ := List.getElem?_eq_some_iff.1 h
  exact List.drop_eq_getElem_cons hj
/-- The six cells of an equation's box. -/
theorem box6 {w : World} {c0 c1 c2 c3 c4 c5 : Value} {T : TypeId} (i : Nat) : (w.alloc (.cells #[c0, c1, c2, c3, c4, c5] T)).cell? ⟨w.heap.size, i, none⟩ = #[c0, c1, c2, c3, c4, c5][i]? := by rw [World.cell?_alloc_at _ _ _ _ (by simp)]

set_option maxRecDepth 100000 in
set_option maxHeartbeats 1000000 in
theorem eqEq_same (s v : Int) (a : Option Addr) (c : Nat) (k : Fo) (s' v' : Int) (a' : Option Addr) (c' : Nat) (k' : Fo) (b : Option Addr) (d : Nat) (b' : Option Addr) (d' : Nat) (w : World) (hl : Sl w 0 w.heap.size a k) (hl' : Sl w 0 w.heap.size a' k') (hm : Sl w 0 w.heap.size b k) (hm' : Sl w 0 w.heap.size b' k') (hN : fsz k ≤ 1048576) (hN' : fsz k' ≤ 1048576) :
    Calls Tryd.prog 20 #[.agg #[.int .i64 s, .int .i64 v, .slice a (flen k) c, .int .i64 s', .int .i64 v', .slice a' (flen k') c'], .agg #[.int .i64 s, .int .i64 v, .slice b (flen k) d, .int .i64 s', .int .i64 v', .slice b' (flen k') d']] w fun e w' => e = .returned (.bool true) ∧ Below w.heap.size w w' := by
  have hbA := box_low w (.cells #[.int .i64 s, .int .i64 v, .slice a (flen k) c, .int .i64 s', .int .i64 v', .slice a' (flen k') c'] 37)
  have hbB := box_low (w.alloc (.cells #[.int .i64 s, .int .i64 v, .slice a (flen k) c, .int .i64 s', .int .i64 v', .slice a' (flen k') c'] 37)) (.cells #[.int .i64 s, .int .i64 v, .slice b (flen k) d, .int .i64 s', .int .i64 v', .slice b' (flen k') d'] 37)
  have hb0 := hbA.trans (hbB.mono hbA.size)
  have HB0 := Lib.hid hb0
  have HL := Lib.hid (Sl.next hl hb0)
  have HL2 := Lib.hid (Sl.next hl' hb0)
  have HM := Lib.hid (Sl.next hm hb0)
  have HM2 := Lib.hid (Sl.next hm' hb0)
  obtain ⟨W, hW⟩ : ∃ W, (w.alloc (.cells #[.int .i64 s, .int .i64 v, .slice a (flen k) c, .int .i64 s', .int .i64 v', .slice a' (flen k') c'] 37)).alloc (.cells #[.int .i64 s, .int .i64 v, .slice b (flen k) d, .int .i64 s', .int .i64 v', .slice b' (flen k') d'] 37) = W := ⟨_, rfl⟩
  have cA : ∀ i, W.cell? ⟨w.heap.size, i, none⟩ = #[Value.int .i64 s, .int .i64 v, .slice a (flen k) c, .int .i64 s', .int .i64 v', .slice a' (flen k') c'][i]? := fun i => by
    rw [← hW, World.cell?_alloc_lt _ _ _ (by simp), World.cell?_alloc_at _ _ _ _ (by simp)]
  have cB : ∀ i, W.cell? ⟨w.heap.size + 1, i, none⟩ = #[Value.int .i64 s, .int .i64 v, .slice b (flen k) d, .int .i64 s', .int .i64 v', .slice b' (flen k') d'][i]? := fun i => by
    rw [← hW, World.cell?_alloc_at _ _ _ _ (by simp)]
  have c0 : W.cell? ⟨w.heap.size, 0, none⟩ = some (.int .i64 s) := cA 0
  have c1 : W.cell? ⟨w.heap.size, 1, none⟩ = some (.int .i64 v) := cA 1
  have c2 : W.cell? ⟨w.heap.size, 2, none⟩ = some (.slice a (flen k) c) := cA 2
  have c3 : W.cell? ⟨w.heap.size, 3, none⟩ = some (.int .i64 s') := cA 3
  have c4 : W.cell? ⟨w.heap.size, 4, none⟩ = some (.int .i64 v') := cA 4
  have c5 : W.cell? ⟨w.heap.size, 5, none⟩ = some (.slice a' (flen k') c') := cA 5
  have e0 : W.cell? ⟨w.heap.size + 1, 0, none⟩ = some (.int .i64 s) := cB 0
  have e1 : W.cell? ⟨w.heap.size + 1, 1, none⟩ = some (.int .i64 v) := cB 1
  have e2 : W.cell? ⟨w.heap.size + 1, 2, none⟩ = some (.slice b (flen k) d) := cB 2
  have e3 : W.cell? ⟨w.heap.size + 1, 3, none⟩ = some (.int .i64 s') := cB 3
  have e4 : W.cell? ⟨w.heap.size + 1, 4, none⟩ = some (.int .i64 v') := cB 4
  have e5 : W.cell? ⟨w.heap.size + 1, 5, none⟩ = some (.slice b' (flen k') d') := cB 5
  rw [hW] at HB0 HL HL2 HM HM2
  have C3 := Lib.hid c3
  have C4 := Lib.hid c4
  have C5 := Lib.hid c5
  have E3 := Lib.hid e3
  have E4 := Lib.hid e4
  have E5 := Lib.hid e5
  clear hb0 hl hl' hm hm' hbA hbB c3 c4 c5 e3 e4 e5 cA cB
  go_enter Tryd.func20, Tryd.ntmps20
  go_wp2_with fail
  clear c0 c1 c2 e0 e1 e2
  with_reducible refine (eqTerm_any (k := k) HL.out HM.out hN).mono ?_
  rintro e w2 ⟨rfl, hb2⟩
  have HB2 := Lib.hid (HB0.out.trans (hb2.mono HB0.out.size))
  have HL3 := Lib.hid (HL2.out.next hb2)
  have HM3 := Lib.hid (HM2.out.next hb2)
  have c3 := cell_low hb2 C3.out
  have c4 := cell_low hb2 C4.out
  have c5 := cell_low hb2 C5.out
  have e3 := cell_low hb2 E3.out
  have e4 := cell_low hb2 E4.out
  have e5 := cell_low hb2 E5.out
  clear hb2 C3 C4 C5 E3 E4 E5 HL HM HL2 HM2
  go_wp2_with fail
  with_reducible refine (eqTerm_any (k := k') HL3.out HM3.out hN').mono ?_
  rintro e w3 ⟨rfl, hb3⟩
  have HB3 := Lib.hid (HB2.out.trans (hb3.mono HB2.out.size))
  clear hb3 c3 c4 c5 e3 e4 e5
  go_wp2_with fail
  go_ret
  exact ⟨rfl, HB3.out⟩
end Go.Proofs.YtbnbogdglffkmaaDoor

/-! T1b: TermText of the program. -/
namespace Go.Proofs.YtbnbogdglffkmaaDoor
open Go.RowKit Go.Deep

set_option maxRecDepth 100000 in
set_option maxHeartbeats 1000000 in
theorem iTermText_any (s v : Int) (a : Option Addr) (c : Nat) (k : Fo) (w : World) (hl : Sl w 0 w.heap.size a k) :
    Calls Tryd.prog 8 #[.agg #[.int .i64 s, .int .i64 v, .slice a (flen k) c]] w fun e w' => e = .returned (.string (str (if okW s v k 16 = true then tx s v k else []))) ∧ Below w.heap.size w w' := by
  cases hok : okW s v k 16 with
  | false =>
    have HOK := Lib.hid hok
    clear hok
    go_enter Tryd.func8, Tryd.ntmps8
    go_wp2_with fail
    with_reducible refine (nodeOf_any s v a c k 16 _ ?_ (by omega) (by omega)).mono ?_
    · exact (hl.below ((Below.refl _ _).alloc (Nat.le_refl _) _)).mono (Nat.le_refl _) (by simp)
    rintro e w2 ⟨nv, he, hb, hyes⟩
    rw [HOK.out] at he
    subst he
    clear hyes
    go_wp2_with fail
    go_ret
    exact ⟨rfl, ((Below.refl _ _).alloc (Nat.le_refl _) _).trans (hb.mono (by simp))⟩
  | true =>
    have HOK := Lib.hid hok
    obtain ⟨hoN, hof, hsz⟩ := (okW_iff _ _ _ _).1 hok
    clear hok
    go_enter Tryd.func8, Tryd.ntmps8
    go_wp2_with fail
    with_reducible refine (nodeOf_any s v a c k 16 _ ?_ (by omega) (by omega)).mono ?_
    · exact (hl.below ((Below.refl _ _).alloc (Nat.le_refl _) _)).mono (Nat.le_refl _) (by simp)
    rintro e w2 ⟨nv, he, hb, hyes⟩
    rw [HOK.out] at he
    subst he
    have hn := hyes HOK.out
    have HB := Lib.hid (((Below.refl _ _).alloc (Nat.le_refl _) _).trans (hb.mono (by simp)))
    clear hyes hb
    rcases hn with ⟨rfl, rfl, rfl⟩ | ⟨hs', a2, c2, rfl, hn2⟩
    · have hv := ((okN_iff _ _ _).1 hoN).2.1 rfl
      go_wp2_with fail
      refine upon_method 126 (by kernel_rfl) (by kernel_rfl) ?_
      go_simp
      with_reducible refine (varText_any v hv.1 (by omega) _).mono ?_
      rintro e w3 ⟨rfl, rfl⟩
      go_wp2_with fail
      go_ret
      exact ⟨by simp [tx_var], HB.out⟩
    · have HN2 := Lib.hid hn2
      have hv0 : v = 0 := ((okN_iff _ _ _).1 hoN).2.2 hs'
      subst hv0
      have HHO := Lib.hid hoN
      have HHF := Lib.hid hof
      have HS := Lib.hid hs'
      clear hn2 hoN hof hs'
      go_wp2_with fail
      refine upon_method 129 (by kernel_rfl) (by kernel_rfl) ?_
      go_simp
      with_reducible refine (symText_any (fsz k) s a2 c2 k _ ?_ HS.out HHO.out HHF.out (Nat.le_refl _) (by omega)).mono ?_
      · exact HN2.out.mono (Nat.zero_le _) (Nat.le_refl _)
      rintro e w3 ⟨rfl, hb3⟩
      go_wp2_with fail
      go_ret
      exact ⟨by simp, HB.out.trans (hb3.mono HB.out.size)⟩
end Go.Proofs.YtbnbogdglffkmaaDoor

/-! EQW: - EqWrite of the specification and of the program. -/
namespace Go.Proofs.YtbnbogdglffkmaaDoor
open Go.RowKit Go.Deep

/-- The text of an equation. -/
def etx (s v : Int) (k : Fo) (s' v' : Int) (k' : Fo) : List UInt8 := if okW s v k 16 = true ∧ okW s' v' k' 16 = true then tx s v k ++ ([32, 61, 32] ++ tx s' v' k') else []
theorem etx_ok {s v : Int} {k : Fo} {s' v' : Int} {k' : Fo} (h : okW s v k 16 = true) (h' : okW s' v' k' 16 = true) : etx s v k s' v' k' = tx s v k ++ ([32, 61, 32] ++ tx s' v' k') := by unfold etx; rw [if_pos ⟨h, h'⟩]
theorem etx_no {s v : Int} {k : Fo} {s' v' : Int} {k' : Fo} (h : okW s v k 16 = false ∨ okW s' v' k' 16 = false) : etx s v k s' v' k' = [] := by
  unfold etx
  rw [if_neg]
  rintro ⟨h1, h2⟩
  rcases h with h | h
  · rw [h1] at h; cases h
  · rw [h2] at h; cases h
theorem esl_one {w : World} {s v : Int} {a : Option Addr} {c : Nat} {k : Fo} {s' v' : Int} {a' : Option Addr} {c' : Nat} {k' : Fo} (hl : Sl w 0 w.heap.size a k) (hl' : Sl w 0 w.heap.size a' k') (T : TypeId) :
    ESl (w.alloc (.cells #[.int .i64 s, .int .i64 v, .slice a (flen k) c, .int .i64 s', .int .i64 v', .slice a' (flen k') c'] T)) 0 (w.alloc (.cells #[.int .i64 s, .int .i64 v, .slice a (flen k) c, .int .i64 s', .int .i64 v', .slice a' (flen k') c'] T)).heap.size (some ⟨w.heap.size, 0, none⟩) [((s, v, k), s', v', k')] := by
  have hb : Below w.heap.size w (w.alloc (.cells #[.int .i64 s, .int .i64 v, .slice a (flen k) c, .int .i64 s', .int .i64 v', .slice a' (flen k') c'] T)) := (Below.refl _ _).alloc (Nat.le_refl _) _
  refine .inr ⟨w.heap.size, 0, rfl, Nat.zero_le _, by simp, fun i x hx => ?_⟩
  cases i with
  | zero =>
    simp only [List.getElem?_cons_zero, Option.some.injEq] at hx
    subst hx
    refine ⟨a, c, a', c', ?_, ?_, ?_, ?_, ?_, ?_, (hl.below hb).mono (Nat.le_refl _) hb.size, (hl'.below hb).mono (Nat.le_refl _) hb.size⟩
    all_goals simp
  | succ i => simp at hx

set_option maxRecDepth 100000 in
set_option maxHeartbeats 2000000 in
theorem sEqWrite_any (s v : Int) (a : Option Addr) (c : Nat) (k : Fo) (s' v' : Int) (a' : Option Addr) (c' : Nat) (k' : Fo) (w : World) (hl : Sl w 0 w.heap.size a k) (hl' : Sl w 0 w.heap.size a' k') :
    Calls Tryd.prog 37 #[.agg #[.int .i64 s, .int .i64 v, .slice a (flen k) c, .int .i64 s', .int .i64 v', .slice a' (flen k') c']] w fun e w' => e = .returned (.string (str (etx s v k s' v' k'))) ∧ Below w.heap.size w w' := by
  have hb0 : Below w.heap.size w (w.alloc (.cells #[.int .i64 s, .int .i64 v, .slice a (flen k) c, .int .i64 s', .int .i64 v', .slice a' (flen k') c'] 37)) := (Below.refl _ _).alloc (Nat.le_refl _) _
  have hl0 := (hl.below hb0).mono (Nat.le_refl _) hb0.size
  have hl0' := (hl'.below hb0).mono (Nat.le_refl _) hb0.size
  have hes := esl_one (s := s) (v := v) (c := c) (s' := s') (v' := v') (c' := c') hl0 hl0' 37
  have hb1 := hb0.alloc hb0.size (.cells #[.int .i64 s, .int .i64 v, .slice a (flen k) c, .int .i64 s', .int .i64 v', .slice a' (flen k') c'] 37)
  have hcells : ∀ u : World, Below (w.heap.size + 1) (w.alloc (.cells #[.int .i64 s, .int .i64 v, .slice a (flen k) c, .int .i64 s', .int .i64 v', .slice a' (flen k') c'] 37)) u → ∀ i, i < 6 → u.cell? ⟨w.heap.size, i, none⟩ = #[Value.int .i64 s, .int .i64 v, .slice a (flen k) c, .int .i64 s', .int .i64 v', .slice a' (flen k') c'][i]? := fun u hu i _ => by rw [hu.cell (by simp), box6]
  have hok := sEqsOk_any [((s, v, k), s', v', k')] _ 1 _ hes (by simp)
  simp only [World.size_alloc, List.length_singleton] at hok
  have HOK := Lib.hid hok
  have HB1 := Lib.hid hb1
  have HC := Lib.hid hcells
  have HL := Lib.hid hl0
  have HL' := Lib.hid hl0'
  clear hl hl' hl0 hl0' hes hb0 hb1 hok hcells
  go_enter Tryd.func37, Tryd.ntmps37
  go_wp2_with fail
  with_reducible refine HOK.out.mono ?_
  rintro e w2 ⟨rfl, hb2⟩
  have hw2 : Below (w.heap.size + 1) (w.alloc (.cells #[.int .i64 s, .int .i64 v, .slice a (flen k) c, .int .i64 s', .int .i64 v', .slice a' (flen k') c'] 37)) w2 := ((Below.refl _ _).alloc (by simp) _).trans (hb2.mono (by simp))
  have hs2 := hb2.size
  simp at hs2
  have HW2 := Lib.hid hw2
  have HB2 : Hid (Below w.heap.size w w2) := ((Below.refl _ _).alloc (Nat.le_refl _) _).trans (hw2.mono (Nat.le_succ _))
  have HL2 : Hid (Sl w2 0 (w.heap.size + 1) a k) := (HL.out.below (hw2.mono (by simp))).mono (Nat.le_refl _) (by simp)
  have HL2' : Hid (Sl w2 0 (w.heap.size + 1) a' k') := (HL'.out.below (hw2.mono (by simp))).mono (Nat.le_refl _) (by simp)
  clear hw2 hb2 HOK HB1 HL HL'
  have hE : okEs [((s, v, k), s', v', k')] = (okW s v k 16 && okW s' v' k' 16) := by simp [okEs, okE, okT3]
  rw [hE]
  cases h1 : okW s v k 16 with
  | false =>
    have HF := Lib.hid (etx_no (s' := s') (v' := v') (k' := k') (.inl h1))
    clear hE h1
    go_wp2_with fail
    go_ret
    exact ⟨by rw [HF.out]; rfl, HB2.out⟩
  | true =>
    cases h2 : okW s' v' k' 16 with
    | false =>
      have HF := Lib.hid (etx_no (s := s) (v := v) (k := k) (.inr h2))
      clear hE h1 h2
      go_wp2_with fail
      go_ret
      exact ⟨by rw [HF.out]; rfl, HB2.out⟩
    | true =>
      have HX := Lib.hid (etx_ok h1 h2)
      have ho1 := (okW_iff _ _ _ _).1 h1
      have ho2 := (okW_iff _ _ _ _).1 h2
      have HO1 := Lib.hid ho1
      have HO2 := Lib.hid ho2
      have hz1 : fsz k ≤ 15 := by have := ho1.2.2; omega
      have hz2 : fsz k' ≤ 15 := by have := ho2.2.2; omega
      obtain ⟨X, hX⟩ : ∃ X, X = str (tx s v k) := ⟨_, rfl⟩
      obtain ⟨Y, hY⟩ : ∃ Y, Y = str (tx s' v' k') := ⟨_, rfl⟩
      have hXz : X.size ≤ 200 := by rw [hX, str_size]; exact tx_len h1
      have hYz : Y.size ≤ 200 := by rw [hY, str_size]; exact tx_len h2
      have hall : ∀ u : After (w.heap.size + 1) w2, ∀ i, i < 6 → u.world.cell? ⟨w.heap.size, i, none⟩ = #[Value.int .i64 s, .int .i64 v, .slice a (flen k) c, .int .i64 s', .int .i64 v', .slice a' (flen k') c'][i]? := fun u i hi => HC.out _ (HW2.out.trans u.below) i hi
      have hu0 : ∀ u : After (w.heap.size + 1) w2, u.world.cell? ⟨w.heap.size, 0, none⟩ = some (.int .i64 s) := fun u => hall u 0 (by omega)
      have hu1 : ∀ u : After (w.heap.size + 1) w2, u.world.cell? ⟨w.heap.size, 1, none⟩ = some (.int .i64 v) := fun u => hall u 1 (by omega)
      have hu2 : ∀ u : After (w.heap.size + 1) w2, u.world.cell? ⟨w.heap.size, 2, none⟩ = some (.slice a (flen k) c) := fun u => hall u 2 (by omega)
      have hu3 : ∀ u : After (w.heap.size + 1) w2, u.world.cell? ⟨w.heap.size, 3, none⟩ = some (.int .i64 s') := fun u => hall u 3 (by omega)
      have hu4 : ∀ u : After (w.heap.size + 1) w2, u.world.cell? ⟨w.heap.size, 4, none⟩ = some (.int .i64 v') := fun u => hall u 4 (by omega)
      have hu5 : ∀ u : After (w.heap.size + 1) w2, u.world.cell? ⟨w.heap.size, 5, none⟩ = some (.slice a' (flen k') c') := fun u => hall u 5 (by omega)
      have hf : (str (tx s v k) ++ ⟨#[32, 61, 32]⟩) ++ str (tx s' v' k') = str (etx s v k s' v' k') := by
        rw [HX.out, show (⟨#[32, 61, 32]⟩ : ByteArray) = str [32, 61, 32] from rfl, str_add, str_add, List.append_assoc]
      rw [← hX, ← hY] at hf
      have HFF := Lib.hid hf
      have hd1 : ¬ 9223372036854775807 < X.size + 3 := by omega
      have hd2 : ¬ 9223372036854775807 < X.size + 3 + Y.size := by omega
      have HXX := Lib.hid hX
      have HYY := Lib.hid hY
      clear hE hX hY hf hall ho1 ho2 h1 h2
      go_wp2_with fail
      refine wp_region_mix (fun w' => ∃ u : After (w.heap.size + 1) w2, w' = u.world) [] [(0, 0), (1, 0), (4, 0), (5, 0), (2, 1), (3, 0), (6, 1), (7, 0), (8, 0)] (by kernel_rfl) (by kernel_rfl) ⟨⟨_, (Below.refl _ _).drew⟩, rfl⟩ ?_
      iterate 4
        refine mix_see rfl (fun K hK => ?_)
        go_simp
        refine hK _ ?_
        clear hK K
      clear hu0 hu1 hu2 hu3 hu4 hu5
      refine mix_hold rfl (fun K hK => ?_)
      go_simp
      with_reducible refine (l1Say_any 15 s v a c k _ ?_ HO1.out.1 HO1.out.2.1 hz1 (by omega)).mono ?_
      · exact (HL2.out.below (Below.refl _ _).drew).mono (Nat.le_refl _) (show w.heap.size + 1 ≤ w2.heap.size by omega)
      rintro e w3 ⟨rfl, hb3⟩
      rw [← HXX.out]
      have hb3' : Below w2.heap.size w2 w3 := bl_undrew hb3
      have hs3 := hb3'.size
      have HL3' : Hid (Sl w3 0 w3.heap.size a' k') := (HL2'.out.below (hb3'.mono (by omega))).mono (Nat.le_refl _) (by omega)
      have HB3 := Lib.hid (HB2.out.trans (hb3'.mono (by omega)))
      have HS3 : Hid (∃ u : After (w.heap.size + 1) w2, w3 = u.world) := ⟨⟨_, hb3'.mono (by omega)⟩, rfl⟩
      refine hK _ _ HS3.out ?_
      clear hK K hb3 hb3'
      refine mix_see rfl (fun K hK => ?_)
      go_simp
      refine hK _ ?_
      clear hK K
      refine mix_hold rfl (fun K hK => ?_)
      go_simp
      with_reducible refine (l1Say_any 15 s' v' a' c' k' _ HL3'.out HO2.out.1 HO2.out.2.1 hz2 (by omega)).mono ?_
      rintro e w4 ⟨rfl, hb4⟩
      rw [← HYY.out]
      have HB4 := Lib.hid (HB3.out.trans (hb4.mono (by omega)))
      have HS4 : Hid (∃ u : After (w.heap.size + 1) w2, w4 = u.world) := by
        obtain ⟨u, hu⟩ := HS3.out
        exact ⟨⟨w4, (hu ▸ u.below : Below (w.heap.size + 1) w2 w3).trans (hb4.mono (by omega))⟩, rfl⟩
      refine hK _ _ HS4.out ?_
      clear hK K hb4
      iterate 2
        refine mix_see rfl (fun K hK => ?_)
        go_simp
        refine hK _ ?_
        clear hK K
      refine mix_end ?_
      go_wp2_with fail
      go_ret
      exact ⟨by rw [← HFF.out]; rfl, HB4.out⟩

theorem text_empty {s v : Int} {k : Fo} {b : Bool} (h : okW s v k 16 = b) : (str (if okW s v k 16 = true then tx s v k else [])).toList.isEmpty = !b := by
  rw [Lib.toList_data, str_toList']
  cases b with
  | false => rw [h]; rfl
  | true =>
    rw [if_pos h]
    cases ht : tx s v k with
    | nil => exact absurd ht tx_ne
    | cons => rfl
end Go.Proofs.YtbnbogdglffkmaaDoor
