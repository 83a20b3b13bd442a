/- Several texts in one: XS2, XS3, XJ, XIe, XI, LB. -/
import Derived.Test.YtoafleckcjanaaaKLk14
import Derived.Test.YtoafleckcjanaaaKLk10
import Derived.Deep.OwnRows
import Derived.Test.YtoafleckcjanaaaKLk1
import Derived.Laws.OwnMore
import Derived.Test.YtoafleckcjanaaaKLk8

/-! XS2: Copies of slices of binds in the exact laws. -/
namespace Go.Proofs.Ytoafleckcjanaaa
open Go.RowKit Go.Deep

/-- A copy of a row of binds: the row in a block of its own, its terms in later blocks. -/
def BS (w : World) (base top : Nat) (bs : List Bd) (A : Option Addr) : Prop :=
  bs = [] ∨ ∃ g, A = some ⟨g, 0, none⟩ ∧ base ≤ g ∧ g < top ∧ (∀ o, w.frozen? ⟨g, o, none⟩ = false) ∧ ∀ i x, bs[i]? = some x → ∃ a c, w.cell? ⟨g, i * 4, none⟩ = some (.int .i64 x.1) ∧ w.cell? ⟨g, i * 4 + 1, none⟩ = some (.int .i64 x.2.1) ∧ w.cell? ⟨g, i * 4 + 2, none⟩ = some (.int .i64 x.2.2.1) ∧ w.cell? ⟨g, i * 4 + 3, none⟩ = some (.slice a (flen x.2.2.2) c) ∧ SX w (g + 1) top a x.2.2.2
theorem BS.same {w w' : World} {base top : Nat} {bs : List Bd} {A : Option Addr} (h : BS w base top bs A) (hs : Same base top w w') : BS w' base top bs A := by
  rcases h with h | ⟨g, e, h1, h2, hf, hc⟩
  · exact .inl h
  · refine .inr ⟨g, e, h1, h2, fun o => by rw [frozen_same (hs g h1 h2)]; exact hf o, fun i x hx => ?_⟩
    obtain ⟨a, c, c0, c1, c2, c3, ht⟩ := hc i x hx
    exact ⟨a, c, by rw [hs.cell h1 h2]; exact c0, by rw [hs.cell h1 h2]; exact c1, by rw [hs.cell h1 h2]; exact c2, by rw [hs.cell h1 h2]; exact c3, ht.same (hs.mono (by omega) (Nat.le_refl _))⟩
theorem BS.bsl {w : World} {base top : Nat} {bs : List Bd} {A : Option Addr} (h : BS w base top bs A) : BSl w base top A bs := by
  rcases h with h | ⟨g, e, h1, h2, hf, hc⟩
  · exact .inl h
  · refine .inr ⟨g, 0, e, h1, h2, fun i x hx => ?_⟩
    obtain ⟨a, c, c0, c1, c2, c3, ht⟩ := hc i x hx
    exact ⟨a, c, by rw [Nat.zero_add]; exact c0, by rw [Nat.zero_add]; exact c1, by rw [Nat.zero_add]; exact c2, by rw [Nat.zero_add]; exact c3, ht.1.mono (by omega) (Nat.le_refl _)⟩

def TobPost (x s v : Int) (k : Fo) (w : World) (e : Ending) (w' : World) : Prop :=
  ∃ a c, e = .returned (.agg #[.int .i64 x, .int .i64 s, .int .i64 v, .slice a (flen k) c]) ∧ Below w.heap.size w w' ∧ SX w' w.heap.size w'.heap.size a k
theorem tob_end {w w1 : World} {x s v : Int} {k : Fo} {a : Option Addr} {c : Nat} {n : Nat} (hn : n = w.heap.size) (hb : Below n w w1) (hl : SX w1 (n + 3) w1.heap.size a k) (u0 u1 u2 y0 y1 y2 y3 : Value) :
    TobPost x s v k w (.returned (.agg #[.int .i64 x, .int .i64 s, .int .i64 v, .slice a (flen k) c])) (((((((w1.setCell ⟨n + 1 + 1, 1, none⟩ u0).setCell ⟨n + 1 + 1, 2, none⟩ u1).setCell ⟨n + 1 + 1, 3, none⟩ u2).setCell ⟨n + 1, 0, none⟩ y0).setCell ⟨n + 1, 1, none⟩ y1).setCell ⟨n + 1, 2, none⟩ y2).setCell ⟨n + 1, 3, none⟩ y3) := by
  subst hn
  refine ⟨a, c, rfl, ((((((hb.setCell (by simp; omega) _).setCell (by simp; omega) _).setCell (by simp; omega) _).setCell (by simp) _).setCell (by simp) _).setCell (by simp) _).setCell (by simp) _, ?_⟩
  have hs : Same (w.heap.size + 3) w1.heap.size w1 (((((((w1.setCell ⟨w.heap.size + 1 + 1, 1, none⟩ u0).setCell ⟨w.heap.size + 1 + 1, 2, none⟩ u1).setCell ⟨w.heap.size + 1 + 1, 3, none⟩ u2).setCell ⟨w.heap.size + 1, 0, none⟩ y0).setCell ⟨w.heap.size + 1, 1, none⟩ y1).setCell ⟨w.heap.size + 1, 2, none⟩ y2).setCell ⟨w.heap.size + 1, 3, none⟩ y3) :=
    (((((((Same.setCell (fun _ _ _ => rfl) (.inl (by simp)) _).setCell (.inl (by simp)) _).setCell (.inl (by simp)) _).setCell (.inl (by simp)) _).setCell (.inl (by simp)) _).setCell (.inl (by simp)) _).setCell (.inl (by simp)) _)
  exact (hl.same hs).mono (by omega) (by simp)

set_option maxRecDepth 100000 in
set_option maxHeartbeats 1000000 in
theorem toBind_any (x s v : Int) (a : Option Addr) (c : Nat) (k : Fo) (w : World) (hl : Sl w 0 w.heap.size a k) (hN : fsz k ≤ 1048576) :
    Calls Try.prog 88 #[.agg #[.int .i64 x, .int .i64 s, .int .i64 v, .slice a (flen k) c]] w (TobPost x s v k w) := by
  have hb0 : Below w.heap.size w (((w.alloc (.cells #[.int .i64 x, .int .i64 s, .int .i64 v, .slice a (flen k) c] 127)).alloc (.cells #[.int .i64 0, .int .i64 0, .int .i64 0, .slice none 0 0] 124)).alloc (.cells #[.int .i64 x, .int .i64 0, .int .i64 0, .slice none 0 0] 124)) := ((((Below.refl _ _).alloc (Nat.le_refl _) _).alloc (by simp) _).alloc (by simp; omega) _)
  have HL := Lib.hid ((hl.below hb0).mono (Nat.le_refl _) hb0.size)
  have HB0 := Lib.hid hb0
  clear hb0 hl
  go_enter Try.func88, Try.ntmps88
  go_wp2_with fail
  with_reducible refine (toTerm_ofT s v a c k _ (fun w1 hb1 => toTermS_anyT (fsz k) a c k w1 ((HL.out.below hb1).mono (Nat.le_refl _) hb1.size) (Nat.le_refl _) hN)).mono ?_
  rintro e w1 ⟨a1, c1, rfl, hb, hl⟩
  have hs1 := hb.size
  simp at hs1
  have hlow : ∀ {q : Addr} {u : Value}, (((w.alloc (.cells #[.int .i64 x, .int .i64 s, .int .i64 v, .slice a (flen k) c] 127)).alloc (.cells #[.int .i64 0, .int .i64 0, .int .i64 0, .slice none 0 0] 124)).alloc (.cells #[.int .i64 x, .int .i64 0, .int .i64 0, .slice none 0 0] 124)).cell? q = some u → w1.cell? q = some u := fun h => by
    rw [hb.cell (World.block_lt_of_cell? _ _ h)]; exact h
  have hc0 := hlow (q := ⟨w.heap.size + 1 + 1, 0, none⟩) (u := .int .i64 x) (by rw [World.cell?_alloc_at _ _ _ _ (by simp)]; rfl)
  have hc1 := hlow (q := ⟨w.heap.size + 1 + 1, 1, none⟩) (u := .int .i64 0) (by rw [World.cell?_alloc_at _ _ _ _ (by simp)]; rfl)
  have hc2 := hlow (q := ⟨w.heap.size + 1 + 1, 2, none⟩) (u := .int .i64 0) (by rw [World.cell?_alloc_at _ _ _ _ (by simp)]; rfl)
  have hc3 := hlow (q := ⟨w.heap.size + 1 + 1, 3, none⟩) (u := .slice none 0 0) (by rw [World.cell?_alloc_at _ _ _ _ (by simp)]; rfl)
  have hr0 := hlow (q := ⟨w.heap.size + 1, 0, none⟩) (u := .int .i64 0) (by rw [World.cell?_alloc_lt _ _ _ (by simp), World.cell?_alloc_at _ _ _ _ (by simp)]; rfl)
  have hr1 := hlow (q := ⟨w.heap.size + 1, 1, none⟩) (u := .int .i64 0) (by rw [World.cell?_alloc_lt _ _ _ (by simp), World.cell?_alloc_at _ _ _ _ (by simp)]; rfl)
  have hr2 := hlow (q := ⟨w.heap.size + 1, 2, none⟩) (u := .int .i64 0) (by rw [World.cell?_alloc_lt _ _ _ (by simp), World.cell?_alloc_at _ _ _ _ (by simp)]; rfl)
  have hr3 := hlow (q := ⟨w.heap.size + 1, 3, none⟩) (u := .slice none 0 0) (by rw [World.cell?_alloc_lt _ _ _ (by simp), World.cell?_alloc_at _ _ _ _ (by simp)]; rfl)
  have hfz : ∀ o, w1.frozen? ⟨w.heap.size + 1 + 1, o, none⟩ = false := fun o => by rw [hb.frozen (by simp), World.frozen?_alloc_at _ _ _ _ (by simp)]
  have hgz : ∀ o, w1.frozen? ⟨w.heap.size + 1, o, none⟩ = false := fun o => by rw [hb.frozen (by simp), World.frozen?_alloc_past _ _ _ (by simp), World.frozen?_alloc_at _ _ _ _ (by simp)]
  have f1 := hfz 1
  have f2 := hfz 2
  have f3 := hfz 3
  have e0 := hgz 0
  have e1 := hgz 1
  have e2 := hgz 2
  have e3 := hgz 3
  have HB : Hid (Below w.heap.size w w1) := HB0.out.trans (hb.mono (by simp; omega))
  have HX : Hid (SX w1 (w.heap.size + 3) w1.heap.size a1 k) := hl.mono (by simp) (Nat.le_refl _)
  clear hb hl hlow hfz hgz
  go_wp2_with fail
  refine bodyPost_ret (v := .agg #[.int .i64 x, .int .i64 s, .int .i64 v, .slice a1 (flen k) c1]) ?_ rfl (tob_end rfl HB.out HX.out _ _ _ _ _ _ _)
  simp [results, Try.results88, go_sem, hr0, hr1, hr2, hr3]

theorem make_binds (n : Nat) (hn : n ≤ 1048576) (w : World) :
    (Instr.makeSlice 41 (.int .i64 (n : Int)) (.int .i64 (n : Int))).run Try.prog w = .ok (.slice (some ⟨w.heap.size, 0, none⟩) n n) (w.alloc (.cells (madeCells #[.int .i64 0, .int .i64 0, .int .i64 0, .slice none 0 0] (n * 4)) 124)) := by
  obtain ⟨i, hi, hz, hs, hb⟩ := Try.infoBind
  have := run_make (P := Try.prog) w 41 124 i _ Try.underlying41 hi hz .i64 .i64 (n : Int) (n : Int) (by omega) (by omega) (by rw [hb]; omega) (by omega)
  rw [hs] at this
  simpa [Value.cells] using this
/-- What holds at the head of toBindS's loop. -/
structure TobAt (w : World) (bs : List Bd) (j : Nat) (wr : World) : Prop where
  below : Below w.heap.size w wr
  size : w.heap.size < wr.heap.size
  row : ∃ f : Nat → Value, wr.rowIs w.heap.size 124 (bs.length * 4) f ∧ ∀ i x, i < j → bs[i]? = some x → ∃ a c, f (i * 4) = .int .i64 x.1 ∧ f (i * 4 + 1) = .int .i64 x.2.1 ∧ f (i * 4 + 2) = .int .i64 x.2.2.1 ∧ f (i * 4 + 3) = .slice a (flen x.2.2.2) c ∧ SX wr (w.heap.size + 1) wr.heap.size a x.2.2.2
theorem TobAt.start (w : World) (bs : List Bd) : TobAt w bs 0 (w.alloc (.cells (madeCells #[.int .i64 0, .int .i64 0, .int .i64 0, .slice none 0 0] (bs.length * 4)) 124)) := by
  refine ⟨(Below.refl _ _).alloc (Nat.le_refl _) _, by simp, ⟨fun i => #[Value.int .i64 0, .int .i64 0, .int .i64 0, .slice none 0 0][i % 4]!, ?_, fun i x hi => by omega⟩⟩
  have := World.rowIs_alloc w (madeCells #[.int .i64 0, .int .i64 0, .int .i64 0, .slice none 0 0] (bs.length * 4)) 124 (fun i => #[Value.int .i64 0, .int .i64 0, .int .i64 0, .slice none 0 0][i % 4]!) (fun i hi => by
    rw [size_madeCells] at hi
    exact made_at _ _ _ hi)
  rw [size_madeCells] at this
  exact this
theorem TobAt.step {w wr w2 : World} {bs : List Bd} {j : Nat} {x s v : Int} {k : Fo} {a : Option Addr} {c : Nat} (h : TobAt w bs j wr) (hx : bs[j]? = some (x, s, v, k)) (hb : Below wr.heap.size wr w2) (hl : SX w2 wr.heap.size w2.heap.size a k) :
    TobAt w bs (j + 1) ((((w2.setCell ⟨w.heap.size, j * 4, none⟩ (.int .i64 x)).setCell ⟨w.heap.size, j * 4 + 1, none⟩ (.int .i64 s)).setCell ⟨w.heap.size, j * 4 + 2, none⟩ (.int .i64 v)).setCell ⟨w.heap.size, j * 4 + 3, none⟩ (.slice a (flen k) c)) := by
  have hs := h.size
  have hs2 := hb.size
  obtain ⟨f, hf, hall⟩ := h.row
  have hf2 := hf.of_block (hb.block _ hs)
  have hsame : ∀ {L H : Nat}, w.heap.size < L → Same L H w2 ((((w2.setCell ⟨w.heap.size, j * 4, none⟩ (.int .i64 x)).setCell ⟨w.heap.size, j * 4 + 1, none⟩ (.int .i64 s)).setCell ⟨w.heap.size, j * 4 + 2, none⟩ (.int .i64 v)).setCell ⟨w.heap.size, j * 4 + 3, none⟩ (.slice a (flen k) c)) := fun hL =>
    (((Same.setCell (fun _ _ _ => rfl) (.inl hL) _).setCell (.inl hL) _).setCell (.inl hL) _).setCell (.inl hL) _
  refine ⟨((((h.below.trans (hb.mono (by omega))).setCell (by simp) _).setCell (by simp) _).setCell (by simp) _).setCell (by simp) _, by simp; omega, ⟨_, (((hf2.set _ _).set _ _).set _ _).set _ _, fun i y hi hy => ?_⟩⟩
  by_cases hij : i = j
  · subst hij
    rw [hx] at hy
    obtain rfl := Option.some.inj hy
    exact ⟨a, c, by simp, by simp, by simp, by simp, (hl.same (hsame (by omega))).mono (by omega) (by simp)⟩
  · obtain ⟨a', c', h0, h1, h2, h3, hsl⟩ := hall i y (by omega) hy
    refine ⟨a', c', ?_, ?_, ?_, ?_, ((hsl.same (fun b h1 h2 => hb.block b h2)).same (hsame (by omega))).mono (Nat.le_refl _) (by simp; omega)⟩
    · rw [if_neg (by omega), if_neg (by omega), if_neg (by omega), if_neg (by omega)]; exact h0
    · rw [if_neg (by omega), if_neg (by omega), if_neg (by omega), if_neg (by omega)]; exact h1
    · rw [if_neg (by omega), if_neg (by omega), if_neg (by omega), if_neg (by omega)]; exact h2
    · rw [if_neg (by omega), if_neg (by omega), if_neg (by omega), if_neg (by omega)]; exact h3
theorem TobAt.bs {w wr : World} {bs : List Bd} {j : Nat} (h : TobAt w bs j wr) (hj : bs.length ≤ j) : BS wr w.heap.size wr.heap.size bs (some ⟨w.heap.size, 0, none⟩) := by
  obtain ⟨f, hf, hall⟩ := h.row
  refine .inr ⟨w.heap.size, rfl, Nat.le_refl _, h.size, fun o => hf.frozen o, fun i x hx => ?_⟩
  have hi := (List.getElem?_eq_some_iff.1 hx).1
  obtain ⟨a, c, h0, h1, h2, h3, hs⟩ := hall i x (by omega) hx
  refine ⟨a, c, ?_, ?_, ?_, ?_, hs⟩
  · rw [← h0]; exact hf.cell (by omega)
  · rw [← h1]; exact hf.cell (by omega)
  · rw [← h2]; exact hf.cell (by omega)
  · rw [← h3]; exact hf.cell (by omega)
def TobsPost (bs : List Bd) (w : World) (e : Ending) (w' : World) : Prop :=
  ∃ A C, e = .returned (.slice A (List.length bs) C) ∧ Below w.heap.size w w' ∧ BS w' w.heap.size w'.heap.size bs A

set_option maxRecDepth 100000 in
set_option maxHeartbeats 1000000 in
theorem toBindS_any (bs : List Bd) (A : Option Addr) (C : Nat) (w : World) (h : BSl w 0 w.heap.size A bs) (hl : bs.length ≤ 1048576) (hz : ∀ x ∈ bs, fsz x.2.2.2 ≤ 1048576) :
    Calls Try.prog 57 #[.slice A bs.length C] w (TobsPost bs w) := by
  have hmk := make_binds bs.length hl
  have HST := Lib.hid (TobAt.start w bs)
  have HB := Lib.hid h
  have HZ := Lib.hid hz
  clear h hz
  go_enter Try.func57, Try.ntmps57
  go_wp2_with fail
  clear hmk
  go_loopw [4] (fun i wr => ∃ j : Nat, j ≤ bs.length ∧ i = .int .i64 j ∧ Hid (TobAt w bs j wr)) (fun i _ => bs.length - (intOf i).toNat)
  case atStart => exact ⟨0, by omega, rfl, HST⟩
  case round =>
    clear HST
    obtain ⟨j, hj, rfl, HAT⟩ := hrel
    have hsr := HAT.out.size
    by_cases hlt : j < bs.length
    · obtain ⟨y, hy⟩ : ∃ y, bs[j]? = some y := ⟨bs[j], List.getElem?_eq_getElem hlt⟩
      obtain ⟨x, s, v, k⟩ := y
      have hbr := (HB.out.below HAT.out.below).mono (Nat.le_refl _) HAT.out.below.size
      rcases hbr with hbr | ⟨rb, ro, rfl, _, hbB, hcells⟩
      · subst hbr; simp at hy
      obtain ⟨a, c, d0, d1, d2, d3, hsl⟩ := hcells j _ hy
      dsimp only at d0 d1 d2 d3 hsl
      have d2' : wr.cell? ⟨rb, ro + j * 4 + 2, none⟩ = some (.int .i64 v) := d2
      have d3' : wr.cell? ⟨rb, ro + j * 4 + 3, none⟩ = some (.slice a (flen k) c) := d3
      have hkz := HZ.out _ (List.mem_of_getElem? hy)
      dsimp only at hkz
      have HX := Lib.hid hy
      have HS := Lib.hid hsl
      have g1 : (0 : Int) ≤ (j : Int) := by omega
      have g2 : (j : Int) < (bs.length : Int) := by omega
      clear hcells hy hsl d2 d3
      go_wp2_with fail
      with_reducible refine (toBind_any x s v a c k _ HS.out hkz).mono ?_
      rintro e w2 ⟨a2, c2, rfl, hb2, hl2⟩
      obtain ⟨f, hf, _⟩ := HAT.out.row
      have hf2 := hf.of_block (hb2.block _ hsr)
      have hg0 := hf2.cell (i := j * 4) (by omega)
      have hg1 := hf2.cell (i := j * 4 + 1) (by omega)
      have hg2 := hf2.cell (i := j * 4 + 2) (by omega)
      have hg3 := hf2.cell (i := j * 4 + 3) (by omega)
      have hz0 := hf2.frozen (j * 4)
      have hz1 := hf2.frozen (j * 4 + 1)
      have hz2 := hf2.frozen (j * 4 + 2)
      have hz3 := hf2.frozen (j * 4 + 3)
      have HSTEP := Lib.hid (HAT.out.step (c := c2) HX.out hb2 hl2)
      clear hf hf2 hb2 hl2 d0 d1 d2' d3'
      go_wp2_with fail
      go_roundw
      case rel => exact ⟨j + 1, by omega, by go_num, HSTEP⟩
      case measure => simp [intOf]; omega
    · have HE : Hid (TobsPost bs w (.returned (.slice (some ⟨w.heap.size, 0, none⟩) bs.length bs.length)) wr) := ⟨_, _, rfl, HAT.out.below, HAT.out.bs (by omega)⟩
      clear HAT
      go_wp2_with fail
      go_ret
      exact HE.out
end Go.Proofs.Ytoafleckcjanaaa

/-! XS3: Marks in a copy of a row of binds. -/
namespace Go.Proofs.Ytoafleckcjanaaa
open Go.RowKit Go.Deep

/-- In the midst of the marking. -/
structure MsAt (w : World) (base top g : Nat) (bs : List Bd) (wr : World) : Prop where
  low : Below base w wr
  far : ∀ b, top ≤ b → b < w.heap.size → wr.heap[b]? = w.heap[b]?
  fr : ∀ o, wr.frozen? ⟨g, o, none⟩ = false
  cells : ∀ i x, bs[i]? = some x → ∃ y0 y1 y2 a c, wr.cell? ⟨g, i * 4, none⟩ = some (.int .i64 y0) ∧ wr.cell? ⟨g, i * 4 + 1, none⟩ = some (.int .i64 y1) ∧ wr.cell? ⟨g, i * 4 + 2, none⟩ = some (.int .i64 y2) ∧ wr.cell? ⟨g, i * 4 + 3, none⟩ = some (.slice a (flen x.2.2.2) c) ∧ ShS wr (g + 1) top a x.2.2.2
theorem MsAt.step {w wr w2 : World} {base top g : Nat} {bs : List Bd} {j : Nat} {m0 m1 m2 : Int} (h : MsAt w base top g bs wr) (hgb : base ≤ g) (hgt : g < top) (_htop : top ≤ w.heap.size) {z0 z1 z2 : Int} (c0 : wr.cell? ⟨g, j * 4, none⟩ = some (.int .i64 z0)) (c1 : wr.cell? ⟨g, j * 4 + 1, none⟩ = some (.int .i64 z1)) (c2 : wr.cell? ⟨g, j * 4 + 2, none⟩ = some (.int .i64 z2))
    (hm : Marked (g + 1) top (((wr.setCell ⟨g, j * 4, none⟩ (.int .i64 m0)).setCell ⟨g, j * 4 + 1, none⟩ (.int .i64 m1)).setCell ⟨g, j * 4 + 2, none⟩ (.int .i64 m2)) w2) : MsAt w base top g bs w2 := by
  have hsz := h.low.size
  have hg2 : ∀ o, w2.cell? ⟨g, o, none⟩ = (((wr.setCell ⟨g, j * 4, none⟩ (.int .i64 m0)).setCell ⟨g, j * 4 + 1, none⟩ (.int .i64 m1)).setCell ⟨g, j * 4 + 2, none⟩ (.int .i64 m2)).cell? ⟨g, o, none⟩ := fun o => World.cell?_of_block (a := ⟨g, o, none⟩) (hm.below.block g (by omega))
  have hgo : ∀ o, o ≠ j * 4 → o ≠ j * 4 + 1 → o ≠ j * 4 + 2 → w2.cell? ⟨g, o, none⟩ = wr.cell? ⟨g, o, none⟩ := fun o h0 h1 h2 => by
    rw [hg2 o, World.cell?_setCell_other _ _ _ _ (ne_offB (Ne.symm h2)), World.cell?_setCell_other _ _ _ _ (ne_offB (Ne.symm h1)), World.cell?_setCell_other _ _ _ _ (ne_offB (Ne.symm h0))]
  have hs0 : w2.cell? ⟨g, j * 4, none⟩ = some (.int .i64 m0) := by
    rw [hg2, World.cell?_setCell_other _ _ _ _ (ne_offB (by omega)), World.cell?_setCell_other _ _ _ _ (ne_offB (by omega))]; exact World.cell?_setCell_same _ _ _ c0
  have hs1 : w2.cell? ⟨g, j * 4 + 1, none⟩ = some (.int .i64 m1) := by
    rw [hg2, World.cell?_setCell_other _ _ _ _ (ne_offB (by omega))]
    refine World.cell?_setCell_same _ _ _ (?_ : _ = some (.int .i64 z1))
    rw [World.cell?_setCell_other _ _ _ _ (ne_offB (by omega))]; exact c1
  have hs2 : w2.cell? ⟨g, j * 4 + 2, none⟩ = some (.int .i64 m2) := by
    rw [hg2]
    refine World.cell?_setCell_same _ _ _ (?_ : _ = some (.int .i64 z2))
    rw [World.cell?_setCell_other _ _ _ _ (ne_offB (by omega)), World.cell?_setCell_other _ _ _ _ (ne_offB (by omega))]; exact c2
  have hint : ∀ o y, wr.cell? ⟨g, o, none⟩ = some (.int .i64 y) → ∃ y', w2.cell? ⟨g, o, none⟩ = some (.int .i64 y') := fun o y hy => by
    by_cases e0 : o = j * 4
    · exact ⟨m0, by rw [e0]; exact hs0⟩
    by_cases e1 : o = j * 4 + 1
    · exact ⟨m1, by rw [e1]; exact hs1⟩
    by_cases e2 : o = j * 4 + 2
    · exact ⟨m2, by rw [e2]; exact hs2⟩
    exact ⟨y, by rw [hgo o e0 e1 e2]; exact hy⟩
  have hS : Same (g + 1) top wr (((wr.setCell ⟨g, j * 4, none⟩ (.int .i64 m0)).setCell ⟨g, j * 4 + 1, none⟩ (.int .i64 m1)).setCell ⟨g, j * 4 + 2, none⟩ (.int .i64 m2)) := ((Same.setCell (fun _ _ _ => rfl) (.inl (by simp)) _).setCell (.inl (by simp)) _).setCell (.inl (by simp)) _
  refine ⟨(((h.low.setCell hgb _).setCell hgb _).setCell hgb _).trans (hm.below.mono (by omega)), fun b h1 h2 => ?_, fun o => ?_, fun i x hx => ?_⟩
  · rw [hm.far b h1 (by simp; omega), Below.heap_setCell _ _ _ _ (by simp; omega), Below.heap_setCell _ _ _ _ (by simp; omega), Below.heap_setCell _ _ _ _ (by simp; omega)]; exact h.far b h1 h2
  · rw [frozen_same (hm.below.block g (by omega)), World.frozen?_setCell, World.frozen?_setCell, World.frozen?_setCell]; exact h.fr o
  · obtain ⟨y0, y1, y2, a, c, d0, d1, d2, d3, hsh⟩ := h.cells i x hx
    obtain ⟨y0', e0⟩ := hint _ _ d0
    obtain ⟨y1', e1⟩ := hint _ _ d1
    obtain ⟨y2', e2⟩ := hint _ _ d2
    refine ⟨y0', y1', y2', a, c, e0, e1, e2, by rw [hgo _ (by omega) (by omega) (by omega)]; exact d3, ShS.marked hm (?_)⟩
    rcases hsh with hsh | ⟨b, e, hsh⟩
    · exact .inl hsh
    · exact .inr ⟨b, e, hsh.same hS⟩
def MsPost (base top : Nat) (bs : List Bd) (m : Int) (w : World) (e : Ending) (w' : World) : Prop :=
  e = .returned (.int .i64 (m + mcn bs)) ∧ Below base w w' ∧ ∀ b, top ≤ b → b < w.heap.size → w'.heap[b]? = w.heap[b]?

set_option maxRecDepth 100000 in
set_option maxHeartbeats 2000000 in
theorem markBindSs_any (bs : List Bd) (A : Option Addr) (C base top : Nat) (m : Int) (w : World) (h : BS w base top bs A) (htop : top ≤ w.heap.size) (hl : bs.length ≤ 1048576) (hz : ∀ x ∈ bs, fsz x.2.2.2 ≤ 1048576) (hm0 : 0 ≤ m) (hm1 : m ≤ 5000000) (hmm : mcn bs ≤ 4000000) :
    Calls Try.prog 64 #[.slice A bs.length C, .int .i64 m] w (MsPost base top bs m w) := by
  have HZ := Lib.hid hz
  rcases h with rfl | ⟨g, rfl, hgb, hgt, hf, hc⟩
  · go_enter Try.func64, Try.ntmps64
    go_wp2_with fail
    go_loopw [1, 5] (fun t i wr => t = .int .i64 m ∧ i = .int .i64 0 ∧ wr = w) (fun _ _ _ => 0)
    case atStart => exact ⟨rfl, rfl, rfl⟩
    case round =>
      obtain ⟨rfl, rfl, rfl⟩ := hrel
      go_wp2_with fail
      go_ret
      exact ⟨by simp [mcn], Below.refl _ _, fun _ _ _ => rfl⟩
  have HST : Hid (MsAt w base top g bs w) := ⟨Below.refl _ _, fun _ _ _ => rfl, hf, fun i x hx => by
    obtain ⟨a, c, c0, c1, c2, c3, ht⟩ := hc i x hx
    exact ⟨_, _, _, a, c, c0, c1, c2, c3, ht.2⟩⟩
  clear hf hc hz
  go_enter Try.func64, Try.ntmps64
  go_wp2_with fail
  go_loopw [1, 5] (fun t i wr => ∃ j : Nat, t = .int .i64 (m + mcn (bs.take j)) ∧ i = .int .i64 j ∧ j ≤ bs.length ∧ Hid (MsAt w base top g bs wr)) (fun _ i _ => bs.length - (intOf i).toNat)
  case atStart => exact ⟨0, by simp [mcn], rfl, Nat.zero_le _, HST⟩
  case round =>
    clear HST
    obtain ⟨j, rfl, rfl, hj, HAT⟩ := hrel
    have hsz := HAT.out.low.size
    by_cases hlt : j < bs.length
    · obtain ⟨x, hx⟩ : ∃ x, bs[j]? = some x := ⟨bs[j], List.getElem?_eq_getElem hlt⟩
      obtain ⟨x1, x2, x3, xk⟩ := x
      obtain ⟨y0, y1, y2, a, c, c0, c1, c2, c3, ht⟩ := HAT.out.cells j _ hx
      dsimp only at c3 ht
      have hxz := HZ.out _ (List.mem_of_getElem? hx)
      dsimp only at hxz
      have hp := mcn_pos (bs.take j)
      have hq := mcn_le (bs := bs) (j + 1)
      rw [mcn_take hx] at hq
      dsimp only at hq
      have HNX : Hid (mcn (bs.take (j + 1)) = mcn (bs.take j) + (3 + 2 * (fsz xk : Int))) := mcn_take hx
      have f0 := HAT.out.fr (j * 4)
      have f1 := HAT.out.fr (j * 4 + 1)
      have f2 := HAT.out.fr (j * 4 + 1 + 1)
      have g1 : (0 : Int) ≤ (j : Int) := by omega
      have g2 : (j : Int) < (bs.length : Int) := by omega
      have hS0 : Same (g + 1) top wr (((wr.setCell ⟨g, j * 4, none⟩ (.int .i64 (m + mcn (bs.take j)))).setCell ⟨g, j * 4 + 1, none⟩ (.int .i64 (m + mcn (bs.take j) + 1))).setCell ⟨g, j * 4 + 1 + 1, none⟩ (.int .i64 (m + mcn (bs.take j) + 1 + 1))) := ((Same.setCell (fun _ _ _ => rfl) (.inl (by simp)) _).setCell (.inl (by simp)) _).setCell (.inl (by simp)) _
      have HSH : Hid (ShS (((wr.setCell ⟨g, j * 4, none⟩ (.int .i64 (m + mcn (bs.take j)))).setCell ⟨g, j * 4 + 1, none⟩ (.int .i64 (m + mcn (bs.take j) + 1))).setCell ⟨g, j * 4 + 1 + 1, none⟩ (.int .i64 (m + mcn (bs.take j) + 1 + 1))) (g + 1) top a xk) := by
        rcases ht with ht | ⟨b, e, ht⟩
        · exact .inl ht
        · exact .inr ⟨b, e, ht.same hS0⟩
      have HC := Lib.hid (And.intro c0 (And.intro c1 c2))
      have d1 : (wr.setCell ⟨g, j * 4, none⟩ (.int .i64 (m + mcn (bs.take j)))).cell? ⟨g, j * 4 + 1, none⟩ = some (.int .i64 y1) := by rw [World.cell?_setCell_other _ _ _ _ (ne_offB (by omega))]; exact c1
      have d2 : ((wr.setCell ⟨g, j * 4, none⟩ (.int .i64 (m + mcn (bs.take j)))).setCell ⟨g, j * 4 + 1, none⟩ (.int .i64 (m + mcn (bs.take j) + 1))).cell? ⟨g, j * 4 + 1 + 1, none⟩ = some (.int .i64 y2) := by rw [World.cell?_setCell_other _ _ _ _ (ne_offB (by omega)), World.cell?_setCell_other _ _ _ _ (ne_offB (by omega))]; exact c2
      have d3 : (((wr.setCell ⟨g, j * 4, none⟩ (.int .i64 (m + mcn (bs.take j)))).setCell ⟨g, j * 4 + 1, none⟩ (.int .i64 (m + mcn (bs.take j) + 1))).setCell ⟨g, j * 4 + 1 + 1, none⟩ (.int .i64 (m + mcn (bs.take j) + 1 + 1))).cell? ⟨g, j * 4 + 1 + 2, none⟩ = some (.slice a (flen xk) c) := by
        rw [World.cell?_setCell_other _ _ _ _ (ne_offB (by omega)), World.cell?_setCell_other _ _ _ _ (ne_offB (by omega)), World.cell?_setCell_other _ _ _ _ (ne_offB (by omega))]; exact c3
      clear hx ht hS0 c1 c2 c3
      have HCALL := Lib.hid (markTermS_any (fsz xk) a c xk (g + 1) top (m + mcn (bs.take j) + 1 + 1 + 1) (((wr.setCell ⟨g, j * 4, none⟩ (.int .i64 (m + mcn (bs.take j)))).setCell ⟨g, j * 4 + 1, none⟩ (.int .i64 (m + mcn (bs.take j) + 1))).setCell ⟨g, j * 4 + 1 + 1, none⟩ (.int .i64 (m + mcn (bs.take j) + 1 + 1))) HSH.out (Nat.le_refl _) hxz (by omega) (by omega) (by simp; omega) (by simp; omega))
      go_wp2_with fail
      with_reducible refine HCALL.out.mono ?_
      rintro e w2 ⟨rfl, hmk⟩
      have HAT2 := Lib.hid (HAT.out.step hgb hgt htop HC.out.1 HC.out.2.1 HC.out.2.2 hmk)
      clear hmk HCALL HSH d1 d2 d3 c0 f0 f1 f2
      go_wp2_with fail
      go_roundw
      case rel => exact ⟨j + 1, by rw [HNX.out]; congr 1; omega, by go_num, by omega, HAT2⟩
      case measure => simp [intOf]; omega
    · have hje : j = bs.length := by omega
      subst hje
      have HE : Hid (bs.take bs.length = bs) := List.take_length
      have HP : Hid (MsPost base top bs m w (.returned (.int .i64 (m + mcn (bs.take bs.length)))) wr) := ⟨by rw [HE.out], HAT.out.low, HAT.out.far⟩
      go_wp2_with fail
      go_ret
      exact HP.out
end Go.Proofs.Ytoafleckcjanaaa

/-! XJ: toIntS: numbers copied. -/
namespace Go.Proofs.Ytoafleckcjanaaa
open Go.RowKit Go.Deep

theorem make_ints (n : Nat) (hn : n ≤ 1048576) (w : World) :
    (Instr.makeSlice 26 (.int .i64 (n : Int)) (.int .i64 (n : Int))).run Try.prog w = .ok (.slice (some ⟨w.heap.size, 0, none⟩) n n) (w.alloc (.cells (madeCells #[.int .i64 0] n) 3)) := by
  obtain ⟨i, hi, hz, hs, hb⟩ := Try.infoI
  have := run_make (P := Try.prog) w 26 3 i _ Try.underlying26 hi hz .i64 .i64 (n : Int) (n : Int) (by omega) (by omega) (by rw [hb]; omega) (by omega)
  rw [hs] at this
  simpa [Value.cells] using this
theorem ints_made (w : World) (n : Nat) (hn : n ≤ 1048576) : (w.alloc (.cells (madeCells #[.int .i64 0] n) 3)).ownsRow w.heap.size 3 1 (.slice (some ⟨w.heap.size, 0, none⟩) n n) n ((List.replicate n 0).map (Value.int .i64)) := by
  refine ⟨by simp, .inr ⟨w.heap.size, n, madeCells #[.int .i64 0] n, rfl, Nat.le_refl _, heap_alloc_new _ _, Nat.le_refl _, by unfold maxLen; omega, by simp [size_madeCells], ?_⟩⟩
  rw [toList_madeCells_one, List.map_replicate, List.take_of_length_le (by simp)]

set_option maxRecDepth 100000 in
set_option maxHeartbeats 1000000 in
theorem toIntS_any (xs : List Int) (A : Option Addr) (C : Nat) (w : World) (h : ISl w 0 w.heap.size A xs) (hl : xs.length ≤ 1048576) :
    Calls Try.prog 56 #[.slice A xs.length C] w fun e w' => ∃ A' C', e = .returned (.slice A' xs.length C') ∧ IOwn w' w.heap.size xs A' C' ∧ Below w.heap.size w w' := by
  have H := Lib.hid h
  have hmk := make_ints xs.length hl
  have HST := Lib.hid (ints_made w xs.length hl)
  clear h
  go_enter Try.func56, Try.ntmps56
  go_wp2_with fail
  clear hmk
  go_loopw [4] (fun i wr => ∃ (j : Nat) (ys : List Int), j ≤ xs.length ∧ i = .int .i64 j ∧ Hid (ys.length = xs.length ∧ ∀ q, q < j → ys[q]? = xs[q]?) ∧ Hid (wr.ownsRow w.heap.size 3 1 (.slice (some ⟨w.heap.size, 0, none⟩) xs.length xs.length) xs.length (ys.map (Value.int .i64))) ∧ Below w.heap.size w wr) (fun i _ => xs.length - (intOf i).toNat)
  case atStart => exact ⟨0, List.replicate xs.length 0, by omega, rfl, ⟨by simp, fun q hq => by omega⟩, HST, (Below.refl _ _).alloc (Nat.le_refl _) _⟩
  case round =>
    clear HST
    obtain ⟨j, ys, hj, rfl, hys, hown, hbl⟩ := hrel
    by_cases hlt : j < xs.length
    · obtain ⟨b, o, rfl, _, hb1, hcx⟩ := isl_at (H.out.below hbl) hlt
      have HXJ : Hid (xs[j]? = some xs[j]) := List.getElem?_eq_getElem hlt
      generalize xs[j] = x at hcx HXJ
      have hc : ∃ u, wr.cell? ⟨w.heap.size, j, none⟩ = some u := by
        rw [hown.out.cellAt j (by omega)]
        exact ⟨_, List.getElem?_eq_getElem (by simp [hys.out.1, hlt])⟩
      obtain ⟨u, hc⟩ := hc
      have hf := hown.out.frozenAt j
      obtain ⟨hst, _⟩ := hown.out.stored j (.int .i64 x)
      have HST : Hid ((wr.setCell ⟨w.heap.size, j, none⟩ (.int .i64 x)).ownsRow w.heap.size 3 1 (.slice (some ⟨w.heap.size, 0, none⟩) xs.length xs.length) xs.length ((ys.set j x).map (Value.int .i64))) := by
        rw [List.map_set]; exact hst
      have HYS : Hid ((ys.set j x).length = xs.length ∧ ∀ q, q < j + 1 → (ys.set j x)[q]? = xs[q]?) := by
        refine ⟨by rw [List.length_set]; exact hys.out.1, fun q hq => ?_⟩
        by_cases e : q = j
        · subst e
          rw [List.getElem?_set_self (by rw [hys.out.1]; exact hlt), HXJ.out]
        · rw [List.getElem?_set_ne (fun h => e h.symm)]
          exact hys.out.2 q (by omega)
      have HBL : Hid (Below w.heap.size w (wr.setCell ⟨w.heap.size, j, none⟩ (.int .i64 x))) := hbl.setCell (by simp) _
      have g1 : (0 : Int) ≤ (j : Int) := by omega
      have g2 : (j : Int) < (xs.length : Int) := by omega
      clear hst hys hown hbl
      go_wp2_with fail
      go_roundw
      case rel => exact ⟨j + 1, _, by omega, by go_num, HYS, HST, HBL.out⟩
      case measure => simp [intOf]; omega
    · have hje : j = xs.length := by omega
      subst hje
      have HE : Hid (ys = xs) := by
        refine List.ext_getElem? fun q => ?_
        by_cases hq : q < xs.length
        · exact hys.out.2 q hq
        · rw [List.getElem?_eq_none (by rw [hys.out.1]; omega), List.getElem?_eq_none (by omega)]
      clear hys
      go_wp2_with fail
      go_ret
      exact ⟨_, _, rfl, by have h := hown.out; rw [HE.out] at h; exact h, hbl⟩
end Go.Proofs.Ytoafleckcjanaaa

/-! XIe: eqIntS on equal rows. -/
namespace Go.Proofs.Ytoafleckcjanaaa
open Go.RowKit Go.Deep

set_option maxRecDepth 100000 in
set_option maxHeartbeats 1000000 in
theorem eqIntS_same (xs : List Int) (A B : Option Addr) (ca cb m n : Nat) (w : World) (hA : ISl w 0 w.heap.size A xs) (hB : ISl w 0 w.heap.size B xs) (hm : m = xs.length) (hn : n = xs.length) (hx : xs.length ≤ 1048576) :
    Calls Try.prog 60 #[.slice A m ca, .slice B n cb] w fun e w' => e = .returned (.bool true) ∧ Below w.heap.size w w' := by
  subst hm
  subst hn
  have HA := Lib.hid hA
  have HB := Lib.hid hB
  clear hA hB
  go_enter Try.func60, Try.ntmps60
  go_wp2_with fail
  go_loopw [5] (fun i wr => ∃ j : Nat, j ≤ xs.length ∧ i = .int .i64 j ∧ Below w.heap.size w wr) (fun i _ => xs.length - (intOf i).toNat)
  case atStart => exact ⟨0, by omega, rfl, Below.refl _ _⟩
  case round =>
    obtain ⟨j, hj, rfl, hbl⟩ := hrel
    have hbs := hbl.size
    by_cases hlt : j < xs.length
    · obtain ⟨b, o, rfl, _, hb1, hc⟩ := isl_at (HA.out.below hbl) hlt
      obtain ⟨b', o', rfl, _, hb2, hc'⟩ := isl_at (HB.out.below hbl) hlt
      generalize xs[j] = x at hc hc'
      have hu0 : ∀ u : After wr.heap.size wr, u.world.cell? ⟨b, o + j, none⟩ = some (.int .i64 x) := fun u => u.cell (by simp; omega) hc
      have hu1 : ∀ u : After wr.heap.size wr, u.world.cell? ⟨b', o' + j, none⟩ = some (.int .i64 x) := fun u => u.cell (by simp; omega) hc'
      have g1 : (0 : Int) ≤ (j : Int) := by omega
      have g2 : (j : Int) < (xs.length : Int) := by omega
      have HBL := Lib.hid hbl
      clear hbl
      go_wp2_with fail
      refine wp_region_after wr.heap.size (by kernel_rfl) (by kernel_rfl) ?_
      repeat (go_big_quiet_step (fail))
      refine wpQuiet_nil ?_
      rintro u ⟨⟨_, hu⟩, rfl⟩
      clear hu0 hu1 hc hc'
      have HB2 := Lib.hid (HBL.out.trans (hu.mono hbs))
      clear hu
      have ex : (x != x) = false := by simp
      go_wp2_with fail
      go_roundw
      case rel => exact ⟨j + 1, by omega, by go_num, HB2.out⟩
      case measure => simp [intOf]; omega
    · go_wp2_with fail
      go_ret
      exact ⟨rfl, hbl⟩
end Go.Proofs.Ytoafleckcjanaaa

/-! XI: markIntS, heldIntS. -/
namespace Go.Proofs.Ytoafleckcjanaaa
open Go.RowKit Go.Deep

/-- n numbers from m on. -/
def ups (m : Int) (n : Nat) : List Int := (List.range n).map (fun (i : Nat) => m + i)
theorem ups_len (m : Int) (n : Nat) : (ups m n).length = n := by simp [ups]
theorem ups_at {m : Int} {n i : Nat} (h : i < n) : (ups m n)[i]? = some (m + i) := by simp [ups, h]

def MiPost (base : Nat) (xs : List Int) (A : Option Addr) (C : Nat) (m : Int) (w : World) (e : Ending) (w' : World) : Prop :=
  e = .returned (.int .i64 (m + xs.length)) ∧ w'.ownsRow base 3 1 (.slice A xs.length C) xs.length ((ups m xs.length).map (Value.int .i64)) ∧ w.grownBy w' (Value.slice A xs.length C).ownBlock

theorem grown_refl (w : World) (row : Option Nat) : w.grownBy w row := ⟨rfl, rfl, rfl, Nat.le_refl _, fun _ _ _ => rfl⟩
theorem grown_trans {w w' w2 : World} {row : Option Nat} (h : w.grownBy w' row) (h' : w'.grownBy w2 row) : w.grownBy w2 row :=
  ⟨h'.os.trans h.os, h'.tape.trans h.tape, h'.output.trans h.output, Nat.le_trans h.size h'.size, fun k hk hne => (h'.block k (Nat.lt_of_lt_of_le hk h.size) hne).trans (h.block k hk hne)⟩

set_option maxRecDepth 100000 in
set_option maxHeartbeats 1000000 in
theorem markIntS_any (base : Nat) (xs : List Int) (A : Option Addr) (C : Nat) (m : Int) (w : World) (h : IOwn w base xs A C) (hl : xs.length ≤ 1048576) (hm0 : 0 ≤ m) (hm1 : m ≤ 10000000) :
    Calls Try.prog 63 #[.slice A xs.length C, .int .i64 m] w (MiPost base xs A C m w) := by
  have H := Lib.hid h
  clear h
  go_enter Try.func63, Try.ntmps63
  go_wp2_with fail
  go_loopw [1, 5] (fun t i wr => ∃ (j : Nat) (ys : List Int), j ≤ xs.length ∧ i = .int .i64 j ∧ t = .int .i64 (m + j) ∧ Hid (ys.length = xs.length ∧ ∀ q, q < j → ys[q]? = some (m + q)) ∧ Hid (wr.ownsRow base 3 1 (.slice A xs.length C) xs.length (ys.map (Value.int .i64))) ∧ Hid (w.grownBy wr (Value.slice A xs.length C).ownBlock)) (fun _ i _ => xs.length - (intOf i).toNat)
  case atStart => exact ⟨0, xs, by omega, rfl, by simp, ⟨rfl, fun q hq => by omega⟩, H.out, grown_refl _ _⟩
  case round =>
    obtain ⟨j, ys, hj, rfl, rfl, hys, hown, hgr⟩ := hrel
    by_cases hlt : j < xs.length
    · obtain ⟨g, cap, hv, hbg, hgl⟩ := hown.out.form (by omega)
      simp only [Value.slice.injEq] at hv
      obtain ⟨rfl, _, rfl⟩ := hv
      have hc : ∃ u, wr.cell? ⟨g, j, none⟩ = some u := by
        rw [hown.out.cellAt j (by omega)]
        exact ⟨_, List.getElem?_eq_getElem (by simp [hys.out.1, hlt])⟩
      obtain ⟨u, hc⟩ := hc
      have hf := hown.out.frozenAt j
      obtain ⟨hst, hgr2⟩ := hown.out.stored j (.int .i64 (m + j))
      have HST : Hid ((wr.setCell ⟨g, j, none⟩ (.int .i64 (m + j))).ownsRow base 3 1 (.slice (some ⟨g, 0, none⟩) xs.length C) xs.length ((ys.set j (m + j)).map (Value.int .i64))) := by
        rw [List.map_set]; exact hst
      have HGR : Hid (w.grownBy (wr.setCell ⟨g, j, none⟩ (.int .i64 (m + j))) (Value.slice (some ⟨g, 0, none⟩) xs.length C).ownBlock) := grown_trans hgr.out hgr2
      have HYS : Hid ((ys.set j (m + j)).length = xs.length ∧ ∀ q, q < j + 1 → (ys.set j (m + j))[q]? = some (m + q)) := by
        refine ⟨by rw [List.length_set]; exact hys.out.1, fun q hq => ?_⟩
        by_cases e : q = j
        · subst e
          rw [List.getElem?_set_self (by rw [hys.out.1]; exact hlt)]
        · rw [List.getElem?_set_ne (fun h => e h.symm)]
          exact hys.out.2 q (by omega)
      have g1 : (0 : Int) ≤ (j : Int) := by omega
      have g2 : (j : Int) < (xs.length : Int) := by omega
      clear hst hgr2 hys hown hgr
      go_wp2_with fail
      go_roundw
      case rel => exact ⟨j + 1, _, by omega, by go_num, by simp only [Value.int.injEq, true_and]; push_cast; omega, HYS, HST, HGR⟩
      case measure => simp [intOf]; omega
    · have hje : j = xs.length := by omega
      subst hje
      have HE : Hid (ys = ups m xs.length) := by
        refine List.ext_getElem? fun q => ?_
        by_cases hq : q < xs.length
        · rw [hys.out.2 q hq, ups_at hq]
        · rw [List.getElem?_eq_none (by rw [hys.out.1]; omega), List.getElem?_eq_none (by rw [ups_len]; omega)]
      clear hys
      go_wp2_with fail
      go_ret
      exact ⟨rfl, by rw [← HE.out]; exact hown.out, hgr.out⟩

set_option maxRecDepth 100000 in
set_option maxHeartbeats 1000000 in
theorem heldIntS_any (n : Nat) (A : Option Addr) (C : Nat) (m : Int) (w : World) (h : ISl w 0 w.heap.size A (ups m n)) (hl : n ≤ 1048576) (hm0 : 0 ≤ m) (hm1 : m ≤ 10000000) :
    Calls Try.prog 82 #[.slice A n C, .int .i64 m] w fun e w' => e = .returned (.int .i64 (m + n)) ∧ Below w.heap.size w w' := by
  have H := Lib.hid h
  clear h
  go_enter Try.func82, Try.ntmps82
  go_wp2_with fail
  go_loopw [1, 5] (fun t i wr => ∃ j : Nat, j ≤ n ∧ i = .int .i64 j ∧ t = .int .i64 (m + j) ∧ Below w.heap.size w wr) (fun _ i _ => n - (intOf i).toNat)
  case atStart => exact ⟨0, by omega, rfl, by simp, Below.refl _ _⟩
  case round =>
    obtain ⟨j, hj, rfl, rfl, hbl⟩ := hrel
    by_cases hlt : j < n
    · obtain ⟨b, o, rfl, _, hb1, hc⟩ := isl_at (H.out.below hbl) (show j < (ups m n).length by rw [ups_len]; exact hlt)
      have he : (ups m n)[j]'(by rw [ups_len]; exact hlt) = m + j := by
        have := ups_at (m := m) hlt
        rw [List.getElem?_eq_getElem (by rw [ups_len]; exact hlt)] at this
        exact Option.some.inj this
      rw [he] at hc
      have ex : ((m + (j : Int)) != (m + (j : Int))) = false := by simp
      have g1 : (0 : Int) ≤ (j : Int) := by omega
      have g2 : (j : Int) < (n : Int) := by omega
      clear he
      go_wp2_with fail
      go_roundw
      case rel => exact ⟨j + 1, by omega, by go_num, by simp only [Value.int.injEq, true_and]; push_cast; omega, hbl⟩
      case measure => simp [intOf]; omega
    · have hje : j = n := by omega
      subst hje
      go_wp2_with fail
      go_ret
      exact ⟨rfl, hbl⟩
end Go.Proofs.Ytoafleckcjanaaa

/-! LB: What the walks of laws hold on to: boxes of terms, and what stays when memory is added. Plain lemmas. -/
namespace Go.Proofs.Ytoafleckcjanaaa
open Go.RowKit Go.Deep

/-- Block b is a box that holds the term s v k; what it leads to lies in memory. -/
structure Tb (b : Nat) (s v : Int) (a : Option Addr) (c : Nat) (k : Fo) (w : World) : Prop where
  c0 : w.cell? ⟨b, 0, none⟩ = some (.int .i64 s)
  c1 : w.cell? ⟨b, 1, none⟩ = some (.int .i64 v)
  c2 : w.cell? ⟨b, 2, none⟩ = some (.slice a (flen k) c)
  sl : Sl w 0 w.heap.size a k
theorem Tb.next {b : Nat} {s v : Int} {a : Option Addr} {c : Nat} {k : Fo} {w w2 : World} (h : Tb b s v a c k w) (hb : Below w.heap.size w w2) : Tb b s v a c k w2 :=
  ⟨cell_low hb h.c0, cell_low hb h.c1, cell_low hb h.c2, (h.sl.below hb).mono (Nat.le_refl _) hb.size⟩
theorem Tb.new {s v : Int} {a : Option Addr} {c : Nat} {k : Fo} {w : World} {lo : Nat} (h : Sl w lo w.heap.size a k) : Tb w.heap.size s v a c k (w.alloc (.cells #[.int .i64 s, .int .i64 v, .slice a (flen k) c] 35)) := by
  have hb : Below w.heap.size w (w.alloc (.cells #[.int .i64 s, .int .i64 v, .slice a (flen k) c] 35)) := (Below.refl _ _).alloc (Nat.le_refl _) _
  refine ⟨?_, ?_, ?_, ((h.mono (Nat.zero_le _) (Nat.le_refl _)).below hb).mono (Nat.le_refl _) hb.size⟩
  · rw [World.cell?_alloc_at _ _ _ _ (by simp)]; rfl
  · rw [World.cell?_alloc_at _ _ _ _ (by simp)]; rfl
  · rw [World.cell?_alloc_at _ _ _ _ (by simp)]; rfl
theorem box_low (w : World) (o : Obj) : Below w.heap.size w (w.alloc o) := (Below.refl _ _).alloc (Nat.le_refl _) o
theorem Sl.next {w w2 : World} {lo : Nat} {a : Option Addr} {k : Fo} (h : Sl w lo w.heap.size a k) (hb : Below w.heap.size w w2) : Sl w2 0 w2.heap.size a k := ((h.mono (Nat.zero_le _) (Nat.le_refl _)).below hb).mono (Nat.le_refl _) hb.size
theorem BSl.next {w w2 : World} {lo : Nat} {a : Option Addr} {bs : List Bd} (h : BSl w lo w.heap.size a bs) (hb : Below w.heap.size w w2) : BSl w2 0 w2.heap.size a bs := ((h.mono (Nat.zero_le _) (Nat.le_refl _)).below hb).mono (Nat.le_refl _) hb.size
theorem ISl.next {w w2 : World} {lo : Nat} {a : Option Addr} {xs : List Int} (h : ISl w lo w.heap.size a xs) (hb : Below w.heap.size w w2) : ISl w2 0 w2.heap.size a xs := ((h.mono (Nat.zero_le _) (Nat.le_refl _)).below hb).mono (Nat.le_refl _) hb.size
theorem ISc.next {w w2 : World} {lo : Nat} {a : Option Addr} {c : Nat} {xs : List Int} (h : ISc w lo w.heap.size a c xs) (hb : Below w.heap.size w w2) : ISc w2 0 w2.heap.size a c xs := ⟨h.1.next hb, h.2⟩
theorem RSl.next {w w2 : World} {lo : Nat} {a : Option Addr} {rows : List (List Int)} (h : RSl w lo w.heap.size a rows) (hb : Below w.heap.size w w2) : RSl w2 0 w2.heap.size a rows := ((h.mono (Nat.zero_le _) (Nat.le_refl _)).below hb).mono (Nat.le_refl _) hb.size
theorem below_next {w0 w w2 : World} (h : Below w0.heap.size w0 w) (hb : Below w.heap.size w w2) : Below w0.heap.size w0 w2 := h.trans (hb.mono h.size)
theorem Bytes.next {w wn : World} {a : Option Addr} {len : Nat} (h : Bytes w a len) (hb : Below w.heap.size w wn) : Bytes wn a len := by
  rcases h with h | ⟨b, o, e, h1, h2⟩
  · exact .inl h
  · refine .inr ⟨b, o, e, Nat.lt_of_lt_of_le h1 hb.size, fun i hi => ?_⟩
    obtain ⟨x, hx, hc⟩ := h2 i hi
    exact ⟨x, hx, cell_low hb hc⟩
end Go.Proofs.Ytoafleckcjanaaa
