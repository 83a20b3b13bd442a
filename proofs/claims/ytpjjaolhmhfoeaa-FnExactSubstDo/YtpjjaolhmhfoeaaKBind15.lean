/- Several texts in one: XS2, XW, XW2, SP2. -/
import Derived.Test.YtpjjaolhmhfoeaaKBind14
import Derived.Test.YtpjjaolhmhfoeaaKBind8
import Derived.Test.YtpjjaolhmhfoeaaKBind1

/-! XS2: Copies of slices of binds in the exact laws. -/
namespace Go.Proofs.Ytpjjaolhmhfoeaa
open Go.RowKit Go.Deep

/-- A copy of a row of binds: the row in a block of its own, its terms in later blocks. -/
def BS (w : World) (base top : Nat) (bs : List Bd) (A : Option Addr) : Prop :=
  bs = [] ∨ ∃ g, A = some ⟨g, 0, none⟩ ∧ base ≤ g ∧ g < top ∧ (∀ o, w.frozen? ⟨g, o, none⟩ = false) ∧ ∀ i x, bs[i]? = some x → ∃ a c, w.cell? ⟨g, i * 4, none⟩ = some (.int .i64 x.1) ∧ w.cell? ⟨g, i * 4 + 1, none⟩ = some (.int .i64 x.2.1) ∧ w.cell? ⟨g, i * 4 + 2, none⟩ = some (.int .i64 x.2.2.1) ∧ w.cell? ⟨g, i * 4 + 3, none⟩ = some (.slice a (flen x.2.2.2) c) ∧ SX w (g + 1) top a x.2.2.2
theorem BS.same {w w' : World} {base top : Nat} {bs : List Bd} {A : Option Addr} (h : BS w base top bs A) (hs : Same base top w w') : BS w' base top bs A := by
  rcases h with h | ⟨g, e, h1, h2, hf, hc⟩
  · exact .inl h
  · refine .inr ⟨g, e, h1, h2, fun o => by rw [frozen_same (hs g h1 h2)]; exact hf o, fun i x hx => ?_⟩
    obtain ⟨a, c, c0, c1, c2, c3, ht⟩ := hc i x hx
    exact ⟨a, c, by rw [hs.cell h1 h2]; exact c0, by rw [hs.cell h1 h2]; exact c1, by rw [hs.cell h1 h2]; exact c2, by rw [hs.cell h1 h2]; exact c3, ht.same (hs.mono (by omega) (Nat.le_refl _))⟩
theorem BS.bsl {w : World} {base top : Nat} {bs : List Bd} {A : Option Addr} (h : BS w base top bs A) : BSl w base top A bs := by
  rcases h with h | ⟨g, e, h1, h2, hf, hc⟩
  · exact .inl h
  · refine .inr ⟨g, 0, e, h1, h2, fun i x hx => ?_⟩
    obtain ⟨a, c, c0, c1, c2, c3, ht⟩ := hc i x hx
    exact ⟨a, c, by rw [Nat.zero_add]; exact c0, by rw [Nat.zero_add]; exact c1, by rw [Nat.zero_add]; exact c2, by rw [Nat.zero_add]; exact c3, ht.1.mono (by omega) (Nat.le_refl _)⟩

def TobPost (x s v : Int) (k : Fo) (w : World) (e : Ending) (w' : World) : Prop :=
  ∃ a c, e = .returned (.agg #[.int .i64 x, .int .i64 s, .int .i64 v, .slice a (flen k) c]) ∧ Below w.heap.size w w' ∧ SX w' w.heap.size w'.heap.size a k
theorem tob_end {w w1 : World} {x s v : Int} {k : Fo} {a : Option Addr} {c : Nat} {n : Nat} (hn : n = w.heap.size) (hb : Below n w w1) (hl : SX w1 (n + 3) w1.heap.size a k) (u0 u1 u2 y0 y1 y2 y3 : Value) :
    TobPost x s v k w (.returned (.agg #[.int .i64 x, .int .i64 s, .int .i64 v, .slice a (flen k) c])) (((((((w1.setCell ⟨n + 1 + 1, 1, none⟩ u0).setCell ⟨n + 1 + 1, 2, none⟩ u1).setCell ⟨n + 1 + 1, 3, none⟩ u2).setCell ⟨n + 1, 0, none⟩ y0).setCell ⟨n + 1, 1, none⟩ y1).setCell ⟨n + 1, 2, none⟩ y2).setCell ⟨n + 1, 3, none⟩ y3) := by
  subst hn
  refine ⟨a, c, rfl, ((((((hb.setCell (by simp; omega) _).setCell (by simp; omega) _).setCell (by simp; omega) _).setCell (by simp) _).setCell (by simp) _).setCell (by simp) _).setCell (by simp) _, ?_⟩
  have hs : Same (w.heap.size + 3) w1.heap.size w1 (((((((w1.setCell ⟨w.heap.size + 1 + 1, 1, none⟩ u0).setCell ⟨w.heap.size + 1 + 1, 2, none⟩ u1).setCell ⟨w.heap.size + 1 + 1, 3, none⟩ u2).setCell ⟨w.heap.size + 1, 0, none⟩ y0).setCell ⟨w.heap.size + 1, 1, none⟩ y1).setCell ⟨w.heap.size + 1, 2, none⟩ y2).setCell ⟨w.heap.size + 1, 3, none⟩ y3) :=
    (((((((Same.setCell (fun _ _ _ => rfl) (.inl (by simp)) _).setCell (.inl (by simp)) _).setCell (.inl (by simp)) _).setCell (.inl (by simp)) _).setCell (.inl (by simp)) _).setCell (.inl (by simp)) _).setCell (.inl (by simp)) _)
  exact (hl.same hs).mono (by omega) (by simp)

set_option maxRecDepth 100000 in
set_option maxHeartbeats 1000000 in
theorem toBind_any (x s v : Int) (a : Option Addr) (c : Nat) (k : Fo) (w : World) (hl : Sl w 0 w.heap.size a k) (hN : fsz k ≤ 1048576) :
    Calls Try.prog 40 #[.agg #[.int .i64 x, .int .i64 s, .int .i64 v, .slice a (flen k) c]] w (TobPost x s v k w) := by
  have hb0 : Below w.heap.size w (((w.alloc (.cells #[.int .i64 x, .int .i64 s, .int .i64 v, .slice a (flen k) c] 74)).alloc (.cells #[.int .i64 0, .int .i64 0, .int .i64 0, .slice none 0 0] 64)).alloc (.cells #[.int .i64 x, .int .i64 0, .int .i64 0, .slice none 0 0] 64)) := ((((Below.refl _ _).alloc (Nat.le_refl _) _).alloc (by simp) _).alloc (by simp; omega) _)
  have HL := Lib.hid ((hl.below hb0).mono (Nat.le_refl _) hb0.size)
  have HB0 := Lib.hid hb0
  clear hb0 hl
  go_enter Try.func40, Try.ntmps40
  go_wp2_with fail
  with_reducible refine (toTerm_ofT s v a c k _ (fun w1 hb1 => toTermS_anyT (fsz k) a c k w1 ((HL.out.below hb1).mono (Nat.le_refl _) hb1.size) (Nat.le_refl _) hN)).mono ?_
  rintro e w1 ⟨a1, c1, rfl, hb, hl⟩
  have hs1 := hb.size
  simp at hs1
  have hlow : ∀ {q : Addr} {u : Value}, (((w.alloc (.cells #[.int .i64 x, .int .i64 s, .int .i64 v, .slice a (flen k) c] 74)).alloc (.cells #[.int .i64 0, .int .i64 0, .int .i64 0, .slice none 0 0] 64)).alloc (.cells #[.int .i64 x, .int .i64 0, .int .i64 0, .slice none 0 0] 64)).cell? q = some u → w1.cell? q = some u := fun h => by
    rw [hb.cell (World.block_lt_of_cell? _ _ h)]; exact h
  have hc0 := hlow (q := ⟨w.heap.size + 1 + 1, 0, none⟩) (u := .int .i64 x) (by rw [World.cell?_alloc_at _ _ _ _ (by simp)]; rfl)
  have hc1 := hlow (q := ⟨w.heap.size + 1 + 1, 1, none⟩) (u := .int .i64 0) (by rw [World.cell?_alloc_at _ _ _ _ (by simp)]; rfl)
  have hc2 := hlow (q := ⟨w.heap.size + 1 + 1, 2, none⟩) (u := .int .i64 0) (by rw [World.cell?_alloc_at _ _ _ _ (by simp)]; rfl)
  have hc3 := hlow (q := ⟨w.heap.size + 1 + 1, 3, none⟩) (u := .slice none 0 0) (by rw [World.cell?_alloc_at _ _ _ _ (by simp)]; rfl)
  have hr0 := hlow (q := ⟨w.heap.size + 1, 0, none⟩) (u := .int .i64 0) (by rw [World.cell?_alloc_lt _ _ _ (by simp), World.cell?_alloc_at _ _ _ _ (by simp)]; rfl)
  have hr1 := hlow (q := ⟨w.heap.size + 1, 1, none⟩) (u := .int .i64 0) (by rw [World.cell?_alloc_lt _ _ _ (by simp), World.cell?_alloc_at _ _ _ _ (by simp)]; rfl)
  have hr2 := hlow (q := ⟨w.heap.size + 1, 2, none⟩) (u := .int .i64 0) (by rw [World.cell?_alloc_lt _ _ _ (by simp), World.cell?_alloc_at _ _ _ _ (by simp)]; rfl)
  have hr3 := hlow (q := ⟨w.heap.size + 1, 3, none⟩) (u := .slice none 0 0) (by rw [World.cell?_alloc_lt _ _ _ (by simp), World.cell?_alloc_at _ _ _ _ (by simp)]; rfl)
  have hfz : ∀ o, w1.frozen? ⟨w.heap.size + 1 + 1, o, none⟩ = false := fun o => by rw [hb.frozen (by simp), World.frozen?_alloc_at _ _ _ _ (by simp)]
  have hgz : ∀ o, w1.frozen? ⟨w.heap.size + 1, o, none⟩ = false := fun o => by rw [hb.frozen (by simp), World.frozen?_alloc_past _ _ _ (by simp), World.frozen?_alloc_at _ _ _ _ (by simp)]
  have f1 := hfz 1
  have f2 := hfz 2
  have f3 := hfz 3
  have e0 := hgz 0
  have e1 := hgz 1
  have e2 := hgz 2
  have e3 := hgz 3
  have HB : Hid (Below w.heap.size w w1) := HB0.out.trans (hb.mono (by simp; omega))
  have HX : Hid (SX w1 (w.heap.size + 3) w1.heap.size a1 k) := hl.mono (by simp) (Nat.le_refl _)
  clear hb hl hlow hfz hgz
  go_wp2_with fail
  refine bodyPost_ret (v := .agg #[.int .i64 x, .int .i64 s, .int .i64 v, .slice a1 (flen k) c1]) ?_ rfl (tob_end rfl HB.out HX.out _ _ _ _ _ _ _)
  simp [results, Try.results40, go_sem, hr0, hr1, hr2, hr3]

theorem make_binds (n : Nat) (hn : n ≤ 1048576) (w : World) :
    (Instr.makeSlice 23 (.int .i64 (n : Int)) (.int .i64 (n : Int))).run Try.prog w = .ok (.slice (some ⟨w.heap.size, 0, none⟩) n n) (w.alloc (.cells (madeCells #[.int .i64 0, .int .i64 0, .int .i64 0, .slice none 0 0] (n * 4)) 64)) := by
  obtain ⟨i, hi, hz, hs, hb⟩ := Try.infoBind
  have := run_make (P := Try.prog) w 23 64 i _ Try.underlying23 hi hz .i64 .i64 (n : Int) (n : Int) (by omega) (by omega) (by rw [hb]; omega) (by omega)
  rw [hs] at this
  simpa [Value.cells] using this
/-- What holds at the head of toBindS's loop. -/
structure TobAt (w : World) (bs : List Bd) (j : Nat) (wr : World) : Prop where
  below : Below w.heap.size w wr
  size : w.heap.size < wr.heap.size
  row : ∃ f : Nat → Value, wr.rowIs w.heap.size 64 (bs.length * 4) f ∧ ∀ i x, i < j → bs[i]? = some x → ∃ a c, f (i * 4) = .int .i64 x.1 ∧ f (i * 4 + 1) = .int .i64 x.2.1 ∧ f (i * 4 + 2) = .int .i64 x.2.2.1 ∧ f (i * 4 + 3) = .slice a (flen x.2.2.2) c ∧ SX wr (w.heap.size + 1) wr.heap.size a x.2.2.2
theorem TobAt.start (w : World) (bs : List Bd) : TobAt w bs 0 (w.alloc (.cells (madeCells #[.int .i64 0, .int .i64 0, .int .i64 0, .slice none 0 0] (bs.length * 4)) 64)) := by
  refine ⟨(Below.refl _ _).alloc (Nat.le_refl _) _, by simp, ⟨fun i => #[Value.int .i64 0, .int .i64 0, .int .i64 0, .slice none 0 0][i % 4]!, ?_, fun i x hi => by omega⟩⟩
  have := World.rowIs_alloc w (madeCells #[.int .i64 0, .int .i64 0, .int .i64 0, .slice none 0 0] (bs.length * 4)) 64 (fun i => #[Value.int .i64 0, .int .i64 0, .int .i64 0, .slice none 0 0][i % 4]!) (fun i hi => by
    rw [size_madeCells] at hi
    exact made_at _ _ _ hi)
  rw [size_madeCells] at this
  exact this
theorem TobAt.step {w wr w2 : World} {bs : List Bd} {j : Nat} {x s v : Int} {k : Fo} {a : Option Addr} {c : Nat} (h : TobAt w bs j wr) (hx : bs[j]? = some (x, s, v, k)) (hb : Below wr.heap.size wr w2) (hl : SX w2 wr.heap.size w2.heap.size a k) :
    TobAt w bs (j + 1) ((((w2.setCell ⟨w.heap.size, j * 4, none⟩ (.int .i64 x)).setCell ⟨w.heap.size, j * 4 + 1, none⟩ (.int .i64 s)).setCell ⟨w.heap.size, j * 4 + 2, none⟩ (.int .i64 v)).setCell ⟨w.heap.size, j * 4 + 3, none⟩ (.slice a (flen k) c)) := by
  have hs := h.size
  have hs2 := hb.size
  obtain ⟨f, hf, hall⟩ := h.row
  have hf2 := hf.of_block (hb.block _ hs)
  have hsame : ∀ {L H : Nat}, w.heap.size < L → Same L H w2 ((((w2.setCell ⟨w.heap.size, j * 4, none⟩ (.int .i64 x)).setCell ⟨w.heap.size, j * 4 + 1, none⟩ (.int .i64 s)).setCell ⟨w.heap.size, j * 4 + 2, none⟩ (.int .i64 v)).setCell ⟨w.heap.size, j * 4 + 3, none⟩ (.slice a (flen k) c)) := fun hL =>
    (((Same.setCell (fun _ _ _ => rfl) (.inl hL) _).setCell (.inl hL) _).setCell (.inl hL) _).setCell (.inl hL) _
  refine ⟨((((h.below.trans (hb.mono (by omega))).setCell (by simp) _).setCell (by simp) _).setCell (by simp) _).setCell (by simp) _, by simp; omega, ⟨_, (((hf2.set _ _).set _ _).set _ _).set _ _, fun i y hi hy => ?_⟩⟩
  by_cases hij : i = j
  · subst hij
    rw [hx] at hy
    obtain rfl := Option.some.inj hy
    exact ⟨a, c, by simp, by simp, by simp, by simp, (hl.same (hsame (by omega))).mono (by omega) (by simp)⟩
  · obtain ⟨a', c', h0, h1, h2, h3, hsl⟩ := hall i y (by omega) hy
    refine ⟨a', c', ?_, ?_, ?_, ?_, ((hsl.same (fun b h1 h2 => hb.block b h2)).same (hsame (by omega))).mono (Nat.le_refl _) (by simp; omega)⟩
    · rw [if_neg (by omega), if_neg (by omega), if_neg (by omega), if_neg (by omega)]; exact h0
    · rw [if_neg (by omega), if_neg (by omega), if_neg (by omega), if_neg (by omega)]; exact h1
    · rw [if_neg (by omega), if_neg (by omega), if_neg (by omega), if_neg (by omega)]; exact h2
    · rw [if_neg (by omega), if_neg (by omega), if_neg (by omega), if_neg (by omega)]; exact h3
theorem TobAt.bs {w wr : World} {bs : List Bd} {j : Nat} (h : TobAt w bs j wr) (hj : bs.length ≤ j) : BS wr w.heap.size wr.heap.size bs (some ⟨w.heap.size, 0, none⟩) := by
  obtain ⟨f, hf, hall⟩ := h.row
  refine .inr ⟨w.heap.size, rfl, Nat.le_refl _, h.size, fun o => hf.frozen o, fun i x hx => ?_⟩
  have hi := (List.getElem?_eq_some_iff.1 hx).1
  obtain ⟨a, c, h0, h1, h2, h3, hs⟩ := hall i x (by omega) hx
  refine ⟨a, c, ?_, ?_, ?_, ?_, hs⟩
  · rw [← h0]; exact hf.cell (by omega)
  · rw [← h1]; exact hf.cell (by omega)
  · rw [← h2]; exact hf.cell (by omega)
  · rw [← h3]; exact hf.cell (by omega)
def TobsPost (bs : List Bd) (w : World) (e : Ending) (w' : World) : Prop :=
  ∃ A C, e = .returned (.slice A (List.length bs) C) ∧ Below w.heap.size w w' ∧ BS w' w.heap.size w'.heap.size bs A

set_option maxRecDepth 100000 in
set_option maxHeartbeats 1000000 in
theorem toBindS_any (bs : List Bd) (A : Option Addr) (C : Nat) (w : World) (h : BSl w 0 w.heap.size A bs) (hl : bs.length ≤ 1048576) (hz : ∀ x ∈ bs, fsz x.2.2.2 ≤ 1048576) :
    Calls Try.prog 18 #[.slice A bs.length C] w (TobsPost bs w) := by
  have hmk := make_binds bs.length hl
  have HST := Lib.hid (TobAt.start w bs)
  have HB := Lib.hid h
  have HZ := Lib.hid hz
  clear h hz
  go_enter Try.func18, Try.ntmps18
  go_wp2_with fail
  clear hmk
  go_loopw [4] (fun i wr => ∃ j : Nat, j ≤ bs.length ∧ i = .int .i64 j ∧ Hid (TobAt w bs j wr)) (fun i _ => bs.length - (intOf i).toNat)
  case atStart => exact ⟨0, by omega, rfl, HST⟩
  case round =>
    clear HST
    obtain ⟨j, hj, rfl, HAT⟩ := hrel
    have hsr := HAT.out.size
    by_cases hlt : j < bs.length
    · obtain ⟨y, hy⟩ : ∃ y, bs[j]? = some y := ⟨bs[j], List.getElem?_eq_getElem hlt⟩
      obtain ⟨x, s, v, k⟩ := y
      have hbr := (HB.out.below HAT.out.below).mono (Nat.le_refl _) HAT.out.below.size
      rcases hbr with hbr | ⟨rb, ro, rfl, _, hbB, hcells⟩
      · subst hbr; simp at hy
      obtain ⟨a, c, d0, d1, d2, d3, hsl⟩ := hcells j _ hy
      dsimp only at d0 d1 d2 d3 hsl
      have d2' : wr.cell? ⟨rb, ro + j * 4 + 2, none⟩ = some (.int .i64 v) := d2
      have d3' : wr.cell? ⟨rb, ro + j * 4 + 3, none⟩ = some (.slice a (flen k) c) := d3
      have hkz := HZ.out _ (List.mem_of_getElem? hy)
      dsimp only at hkz
      have HX := Lib.hid hy
      have HS := Lib.hid hsl
      have g1 : (0 : Int) ≤ (j : Int) := by omega
      have g2 : (j : Int) < (bs.length : Int) := by omega
      clear hcells hy hsl d2 d3
      go_wp2_with fail
      with_reducible refine (toBind_any x s v a c k _ HS.out hkz).mono ?_
      rintro e w2 ⟨a2, c2, rfl, hb2, hl2⟩
      obtain ⟨f, hf, _⟩ := HAT.out.row
      have hf2 := hf.of_block (hb2.block _ hsr)
      have hg0 := hf2.cell (i := j * 4) (by omega)
      have hg1 := hf2.cell (i := j * 4 + 1) (by omega)
      have hg2 := hf2.cell (i := j * 4 + 2) (by omega)
      have hg3 := hf2.cell (i := j * 4 + 3) (by omega)
      have hz0 := hf2.frozen (j * 4)
      have hz1 := hf2.frozen (j * 4 + 1)
      have hz2 := hf2.frozen (j * 4 + 2)
      have hz3 := hf2.frozen (j * 4 + 3)
      have HSTEP := Lib.hid (HAT.out.step (c := c2) HX.out hb2 hl2)
      clear hf hf2 hb2 hl2 d0 d1 d2' d3'
      go_wp2_with fail
      go_roundw
      case rel => exact ⟨j + 1, by omega, by go_num, HSTEP⟩
      case measure => simp [intOf]; omega
    · have HE : Hid (TobsPost bs w (.returned (.slice (some ⟨w.heap.size, 0, none⟩) bs.length bs.length)) wr) := ⟨_, _, rfl, HAT.out.below, HAT.out.bs (by omega)⟩
      clear HAT
      go_wp2_with fail
      go_ret
      exact HE.out
end Go.Proofs.Ytpjjaolhmhfoeaa

/-! XW: What the walks of exact laws hold on to: parameters, answers of the specification, copies that are marked, answers of the program. Plain lemmas. -/
namespace Go.Proofs.Ytpjjaolhmhfoeaa
open Go.RowKit Go.Deep

/-- A box of a term; all in blocks below n. -/
structure Tq (n b : Nat) (s v : Int) (a : Option Addr) (c : Nat) (k : Fo) (w : World) : Prop where
  c0 : w.cell? ⟨b, 0, none⟩ = some (.int .i64 s)
  c1 : w.cell? ⟨b, 1, none⟩ = some (.int .i64 v)
  c2 : w.cell? ⟨b, 2, none⟩ = some (.slice a (flen k) c)
  lt : b < n
  sl : Sl w 0 n a k
  le : n ≤ w.heap.size
theorem Tq.go {n b : Nat} {s v : Int} {a : Option Addr} {c : Nat} {k : Fo} {w w2 : World} {B : Nat} (h : Tq n b s v a c k w) (hb : Below B w w2) (hB : n ≤ B) : Tq n b s v a c k w2 := by
  have hlt := h.lt
  exact ⟨by rw [hb.cell (show b < B by omega)]; exact h.c0, by rw [hb.cell (show b < B by omega)]; exact h.c1, by rw [hb.cell (show b < B by omega)]; exact h.c2, h.lt, h.sl.below (hb.mono hB), Nat.le_trans h.le hb.size⟩
theorem Tq.next {n b : Nat} {s v : Int} {a : Option Addr} {c : Nat} {k : Fo} {w w2 : World} (h : Tq n b s v a c k w) (hb : Below w.heap.size w w2) : Tq n b s v a c k w2 := h.go hb h.le
theorem Tq.top {n b : Nat} {s v : Int} {a : Option Addr} {c : Nat} {k : Fo} {w : World} (h : Tq n b s v a c k w) : Sl w 0 w.heap.size a k := h.sl.mono (Nat.le_refl _) h.le
/-- A row of binds; all in blocks below n. -/
structure Rw (n : Nat) (bs : List Bd) (A : Option Addr) (w : World) : Prop where
  sl : BSl w 0 n A bs
  le : n ≤ w.heap.size
theorem Rw.go {n : Nat} {bs : List Bd} {A : Option Addr} {w w2 : World} {B : Nat} (h : Rw n bs A w) (hb : Below B w w2) (hB : n ≤ B) : Rw n bs A w2 := ⟨h.sl.below (hb.mono hB), Nat.le_trans h.le hb.size⟩
theorem Rw.next {n : Nat} {bs : List Bd} {A : Option Addr} {w w2 : World} (h : Rw n bs A w) (hb : Below w.heap.size w w2) : Rw n bs A w2 := h.go hb h.le
theorem Rw.top {n : Nat} {bs : List Bd} {A : Option Addr} {w : World} (h : Rw n bs A w) : BSl w 0 w.heap.size A bs := h.sl.mono (Nat.le_refl _) h.le
/-- A box of a term that lies in blocks of its own. -/
structure Xb (lo hi b : Nat) (s v : Int) (a : Option Addr) (c : Nat) (k : Fo) (w : World) : Prop where
  c0 : w.cell? ⟨b, 0, none⟩ = some (.int .i64 s)
  c1 : w.cell? ⟨b, 1, none⟩ = some (.int .i64 v)
  c2 : w.cell? ⟨b, 2, none⟩ = some (.slice a (flen k) c)
  sx : SX w lo hi a k
  lh : lo ≤ hi
  hb : hi ≤ b
  lt : b < w.heap.size
theorem Xb.next {lo hi b : Nat} {s v : Int} {a : Option Addr} {c : Nat} {k : Fo} {w w2 : World} (h : Xb lo hi b s v a c k w) (hb : Below w.heap.size w w2) : Xb lo hi b s v a c k w2 := by
  have h1 := h.hb
  have h2 := h.lt
  exact ⟨cell_low hb h.c0, cell_low hb h.c1, cell_low hb h.c2, h.sx.same (Same.of_below (hb.mono (by omega))), h.lh, h.hb, Nat.lt_of_lt_of_le h.lt hb.size⟩
theorem Xb.far {lo hi b : Nat} {s v : Int} {a : Option Addr} {c : Nat} {k : Fo} {w w2 : World} {lo' hi' : Nat} (h : Xb lo hi b s v a c k w) (hm : Marked lo' hi' w w2) (hd : hi' ≤ lo) : Xb lo hi b s v a c k w2 := by
  have h0 := h.lh
  have h1 := h.hb
  have h2 := h.lt
  have e := hm.far b (by omega) h2
  exact ⟨by rw [World.cell?_of_block (a := ⟨b, 0, none⟩) e]; exact h.c0, by rw [World.cell?_of_block (a := ⟨b, 1, none⟩) e]; exact h.c1, by rw [World.cell?_of_block (a := ⟨b, 2, none⟩) e]; exact h.c2, h.sx.same (fun q q1 q2 => hm.far q (by omega) (by omega)), h.lh, h.hb, Nat.lt_of_lt_of_le h.lt hm.below.size⟩
theorem Xb.top {lo hi b : Nat} {s v : Int} {a : Option Addr} {c : Nat} {k : Fo} {w : World} (h : Xb lo hi b s v a c k w) : Sl w 0 w.heap.size a k := h.sx.1.mono (Nat.zero_le _) (by have := h.hb; have := h.lt; omega)
/-- A box of a copy, made behind it. -/
theorem Xb.new {s v : Int} {a : Option Addr} {c : Nat} {k : Fo} {w : World} {lo : Nat} (h : SX w lo w.heap.size a k) (hl : lo ≤ w.heap.size) (T : TypeId) : Xb lo w.heap.size w.heap.size s v a c k (w.alloc (.cells #[.int .i64 s, .int .i64 v, .slice a (flen k) c] T)) := by
  have hb : Below w.heap.size w (w.alloc (.cells #[.int .i64 s, .int .i64 v, .slice a (flen k) c] T)) := (Below.refl _ _).alloc (Nat.le_refl _) _
  refine ⟨?_, ?_, ?_, h.same (Same.of_below hb), hl, Nat.le_refl _, by simp⟩
  · rw [World.cell?_alloc_at _ _ _ _ (by simp)]; rfl
  · rw [World.cell?_alloc_at _ _ _ _ (by simp)]; rfl
  · rw [World.cell?_alloc_at _ _ _ _ (by simp)]; rfl
/-- A row of binds of the answer's own. -/
structure Gx (lo hi : Nat) (bs : List Bd) (A : Option Addr) (w : World) : Prop where
  bx : BX w lo hi bs A
  le : hi ≤ w.heap.size
theorem Gx.next {lo hi : Nat} {bs : List Bd} {A : Option Addr} {w w2 : World} (h : Gx lo hi bs A w) (hb : Below w.heap.size w w2) : Gx lo hi bs A w2 := ⟨h.bx.same (Same.of_below (hb.mono h.le)), Nat.le_trans h.le hb.size⟩
theorem Gx.far {lo hi : Nat} {bs : List Bd} {A : Option Addr} {w w2 : World} {lo' hi' : Nat} (h : Gx lo hi bs A w) (hm : Marked lo' hi' w w2) (hd : hi' ≤ lo) : Gx lo hi bs A w2 :=
  ⟨h.bx.same (fun q q1 q2 => hm.far q (by omega) (by have := h.le; omega)), Nat.le_trans h.le hm.below.size⟩
theorem Gx.top {lo hi : Nat} {bs : List Bd} {A : Option Addr} {w : World} (h : Gx lo hi bs A w) : BSl w 0 w.heap.size A bs := h.bx.bsl.mono (Nat.zero_le _) h.le
/-- A row of the answer's own that holds numbers from m on. -/
structure Gh (lo hi : Nat) (bs : List Bd) (A : Option Addr) (m : Int) (w : World) : Prop where
  bh : BH w lo hi bs A m
  le : hi ≤ w.heap.size
theorem Gh.next {lo hi : Nat} {bs : List Bd} {A : Option Addr} {m : Int} {w w2 : World} (h : Gh lo hi bs A m w) (hb : Below w.heap.size w w2) : Gh lo hi bs A m w2 := ⟨h.bh.same (Same.of_below (hb.mono h.le)), Nat.le_trans h.le hb.size⟩
theorem low_next {w0 w w2 : World} (h : Below w0.heap.size w0 w) (hb : Below w.heap.size w w2) : Below w0.heap.size w0 w2 := h.trans (hb.mono h.size)
theorem mcn_small : ∀ {bs : List Bd}, bs.length ≤ 100 → (∀ x ∈ bs, fsz x.2.2.2 ≤ 15) → mcn bs ≤ 33 * (bs.length : Int)
  | [], _, _ => by simp [mcn]
  | x :: r, hl, hz => by
    have h1 := mcn_small (bs := r) (by simp at hl; omega) fun y hy => hz y (List.mem_cons_of_mem _ hy)
    have h2 := hz x List.mem_cons_self
    simp only [mcn, List.length_cons]
    omega
end Go.Proofs.Ytpjjaolhmhfoeaa

/-! XW2: What the walks of exact laws hold on to: boxes of answers. Plain lemmas. -/
namespace Go.Proofs.Ytpjjaolhmhfoeaa
open Go.RowKit Go.Deep

/-- A box of a term of the answer's own. -/
structure Yb (lo hi b : Nat) (s v : Int) (a : Option Addr) (c : Nat) (k : Fo) (w : World) : Prop where
  c0 : w.cell? ⟨b, 0, none⟩ = some (.int .i64 s)
  c1 : w.cell? ⟨b, 1, none⟩ = some (.int .i64 v)
  c2 : w.cell? ⟨b, 2, none⟩ = some (.slice a (flen k) c)
  tx : TX w lo hi a k
  lh : lo ≤ hi
  hb : hi ≤ b
  lt : b < w.heap.size
theorem Yb.next {lo hi b : Nat} {s v : Int} {a : Option Addr} {c : Nat} {k : Fo} {w w2 : World} (h : Yb lo hi b s v a c k w) (hb : Below w.heap.size w w2) : Yb lo hi b s v a c k w2 := by
  have h1 := h.hb
  have h2 := h.lt
  exact ⟨cell_low hb h.c0, cell_low hb h.c1, cell_low hb h.c2, h.tx.same (Same.of_below (hb.mono (by omega))), h.lh, h.hb, Nat.lt_of_lt_of_le h.lt hb.size⟩
theorem Yb.far {lo hi b : Nat} {s v : Int} {a : Option Addr} {c : Nat} {k : Fo} {w w2 : World} {lo' hi' : Nat} (h : Yb lo hi b s v a c k w) (hm : Marked lo' hi' w w2) (hd : hi' ≤ lo) : Yb lo hi b s v a c k w2 := by
  have h0 := h.lh
  have h1 := h.hb
  have h2 := h.lt
  have e := hm.far b (by omega) h2
  exact ⟨by rw [World.cell?_of_block (a := ⟨b, 0, none⟩) e]; exact h.c0, by rw [World.cell?_of_block (a := ⟨b, 1, none⟩) e]; exact h.c1, by rw [World.cell?_of_block (a := ⟨b, 2, none⟩) e]; exact h.c2, h.tx.same (fun q q1 q2 => hm.far q (by omega) (by omega)), h.lh, h.hb, Nat.lt_of_lt_of_le h.lt hm.below.size⟩
theorem Yb.top {lo hi b : Nat} {s v : Int} {a : Option Addr} {c : Nat} {k : Fo} {w : World} (h : Yb lo hi b s v a c k w) : Sl w 0 w.heap.size a k := h.tx.1.mono (Nat.zero_le _) (by have := h.hb; have := h.lt; omega)
theorem Yb.new {s v : Int} {a : Option Addr} {c : Nat} {k : Fo} {w : World} {lo : Nat} (h : TX w lo w.heap.size a k) (hl : lo ≤ w.heap.size) (T : TypeId) : Yb lo w.heap.size w.heap.size s v a c k (w.alloc (.cells #[.int .i64 s, .int .i64 v, .slice a (flen k) c] T)) := by
  have hb : Below w.heap.size w (w.alloc (.cells #[.int .i64 s, .int .i64 v, .slice a (flen k) c] T)) := (Below.refl _ _).alloc (Nat.le_refl _) _
  refine ⟨?_, ?_, ?_, h.same (Same.of_below hb), hl, Nat.le_refl _, by simp⟩
  · rw [World.cell?_alloc_at _ _ _ _ (by simp)]; rfl
  · rw [World.cell?_alloc_at _ _ _ _ (by simp)]; rfl
  · rw [World.cell?_alloc_at _ _ _ _ (by simp)]; rfl
/-- The same, its tree holding numbers from m on. -/
structure Yh (lo hi b : Nat) (s v : Int) (a : Option Addr) (c : Nat) (k : Fo) (m : Int) (w : World) : Prop where
  c0 : w.cell? ⟨b, 0, none⟩ = some (.int .i64 s)
  c1 : w.cell? ⟨b, 1, none⟩ = some (.int .i64 v)
  c2 : w.cell? ⟨b, 2, none⟩ = some (.slice a (flen k) c)
  hd : HdS w lo hi a k m
  lh : lo ≤ hi
  hb : hi ≤ b
  lt : b < w.heap.size
theorem Yh.next {lo hi b : Nat} {s v : Int} {a : Option Addr} {c : Nat} {k : Fo} {m : Int} {w w2 : World} (h : Yh lo hi b s v a c k m w) (hb : Below w.heap.size w w2) : Yh lo hi b s v a c k m w2 := by
  have h1 := h.hb
  have h2 := h.lt
  exact ⟨cell_low hb h.c0, cell_low hb h.c1, cell_low hb h.c2, h.hd.same (Same.of_below (hb.mono (by omega))), h.lh, h.hb, Nat.lt_of_lt_of_le h.lt hb.size⟩
theorem Yh.far {lo hi b : Nat} {s v : Int} {a : Option Addr} {c : Nat} {k : Fo} {m : Int} {w w2 : World} {top : Nat} (h : Yh lo hi b s v a c k m w) (hs : w.heap.size ≤ w2.heap.size) (hm : ∀ q, top ≤ q → q < w.heap.size → w2.heap[q]? = w.heap[q]?) (hd : top ≤ lo) : Yh lo hi b s v a c k m w2 := by
  have h0 := h.lh
  have h1 := h.hb
  have h2 := h.lt
  have e := hm b (by omega) h2
  exact ⟨by rw [World.cell?_of_block (a := ⟨b, 0, none⟩) e]; exact h.c0, by rw [World.cell?_of_block (a := ⟨b, 1, none⟩) e]; exact h.c1, by rw [World.cell?_of_block (a := ⟨b, 2, none⟩) e]; exact h.c2, h.hd.same (fun q q1 q2 => hm q (by omega) (by omega)), h.lh, h.hb, Nat.lt_of_lt_of_le h.lt hs⟩
theorem Yb.held {lo hi b : Nat} {s v : Int} {a : Option Addr} {c : Nat} {k : Fo} {m : Int} {w w2 : World} (h : Yb lo hi b s v a c k w) (hm : Marked lo hi w w2) (hd : HdS w2 lo hi a k m) : Yh lo hi b s v a c k m w2 := by
  have h1 := h.hb
  have h2 := h.lt
  have e := hm.far b h1 h2
  exact ⟨by rw [World.cell?_of_block (a := ⟨b, 0, none⟩) e]; exact h.c0, by rw [World.cell?_of_block (a := ⟨b, 1, none⟩) e]; exact h.c1, by rw [World.cell?_of_block (a := ⟨b, 2, none⟩) e]; exact h.c2, hd, h.lh, h.hb, Nat.lt_of_lt_of_le h.lt hm.below.size⟩
theorem Gx.low {lo hi : Nat} {bs : List Bd} {A : Option Addr} {w w2 : World} {B : Nat} (h : Gx lo hi bs A w) (hb : Below B w w2) (hB : hi ≤ B) : Gx lo hi bs A w2 := ⟨h.bx.same (Same.of_below (hb.mono hB)), Nat.le_trans h.le hb.size⟩
end Go.Proofs.Ytpjjaolhmhfoeaa

/-! SP2: The specification's SubstOk. -/
namespace Go.Proofs.Ytpjjaolhmhfoeaa
open Go.RowKit Go.Deep

theorem sok_len {room : Int} : ∀ (bs : List Bd) (last : Int), last < 12 → sokFrom room last bs = true → last + bs.length < 12
  | [], _, h, _ => by simpa using h
  | x :: r, last, _, hs => by
    simp only [sokFrom, Bool.and_eq_true, decide_eq_true_eq] at hs
    have := sok_len r x.1 hs.2.2.1 hs.2.2.2
    simp only [List.length_cons]
    omega
theorem drop_bd2 {bs : List Bd} {j : Nat} {x : Bd} (h : bs[j]? = some x) : bs.drop j = x :: bs.drop (j + 1) := by
  obtain ⟨hj, rfl⟩ := List.getElem?_eq_some_iff.1 h
  exact List.drop_eq_getElem_cons hj

set_option maxRecDepth 100000 in
set_option maxHeartbeats 2000000 in
theorem sSubstOk_any (bs : List Bd) (A : Option Addr) (C : Nat) (w : World) (hb : BSl w 0 w.heap.size A bs) (hl : bs.length ≤ 9223372036854775807) :
    Calls Try.prog 17 #[.slice A bs.length C] w fun e w' => e = .returned (.bool (sok 16 bs)) ∧ Below w.heap.size w w' := by
  have HB := Lib.hid hb
  clear hb
  by_cases hbig : 12 < bs.length
  · have HF : Hid (sok 16 bs = false) := by
      cases h : sok 16 bs with
      | false => exact rfl
      | true => have := sok_len bs (-1) (by omega) h; omega
    go_enter Try.func17, Try.ntmps17
    go_wp2_with fail
    go_ret
    exact ⟨by rw [HF.out]; rfl, Below.refl _ _⟩
  go_enter Try.func17, Try.ntmps17
  go_wp2_with fail
  go_loopw [3] (fun i wr => ∃ (j : Nat) (last : Int), i = .int .i64 j ∧ j ≤ bs.length ∧ Hid (j = 0 → last = -1) ∧ Hid (∀ n, j = n + 1 → ∃ y, bs[n]? = some y ∧ y.1 = last ∧ 0 ≤ last) ∧ Hid (sok 16 bs = sokFrom 16 last (bs.drop j)) ∧ Hid (Below w.heap.size w wr)) (fun i _ => bs.length - (intOf i).toNat)
  case atStart => exact ⟨0, -1, rfl, Nat.zero_le _, fun _ => rfl, fun n hn => by omega, rfl, Below.refl _ _⟩
  case round =>
    obtain ⟨j, last, rfl, hj, HJ0, HJ1, HS, HLW⟩ := hrel
    have hws := HLW.out.size
    by_cases hlt : j < bs.length
    · obtain ⟨x, hx⟩ : ∃ x, bs[j]? = some x := ⟨bs[j], List.getElem?_eq_getElem hlt⟩
      obtain ⟨xv, s, v, k⟩ := x
      have hbr := HB.out.below HLW.out
      rcases hbr with hbr | ⟨b, o, rfl, _, hbB, hcells⟩
      · subst hbr; simp at hx
      obtain ⟨a', c', c0, c1, c2, c3, hsl⟩ := hcells j _ hx
      dsimp only at c0 c1 c2 c3 hsl
      have HD := Lib.hid (drop_bd2 hx)
      have HX := Lib.hid hx
      have g1 : (0 : Int) ≤ (j : Int) := by omega
      have g2 : (j : Int) < (bs.length : Int) := by omega
      have hu0 : ∀ u : After wr.heap.size wr, u.world.cell? ⟨b, o + j * 4, none⟩ = some (.int .i64 xv) := fun u => u.cell (by simp; omega) c0
      have hu1 : ∀ u : After wr.heap.size wr, u.world.cell? ⟨b, o + j * 4 + 1, none⟩ = some (.int .i64 s) := fun u => u.cell (by simp; omega) c1
      have hu2 : ∀ u : After wr.heap.size wr, u.world.cell? ⟨b, o + j * 4 + 1 + 1, none⟩ = some (.int .i64 v) := fun u => u.cell (by simp; omega) c2
      have hu3 : ∀ u : After wr.heap.size wr, u.world.cell? ⟨b, o + j * 4 + 1 + 2, none⟩ = some (.slice a' (flen k) c') := fun u => u.cell (by simp; omega) c3
      have HCALL : Hid (∀ u : After wr.heap.size wr, Calls Try.prog 39 #[.agg #[.int .i64 s, .int .i64 v, .slice a' (flen k) c']] u.world fun e w' => e = .returned (.bool (okW s v k 16)) ∧ Below u.world.heap.size u.world w') := fun u => by
        have hu := u.below
        exact sTermOk_any s v a' c' k u.world ((hsl.below (hu.mono hws)).mono (Nat.le_refl _) (Nat.le_trans hws hu.size))
      by_cases hin : 0 ≤ xv ∧ xv ≤ 11
      · have hid : decide (0 ≤ xv ∧ xv ≤ (11 : Int)) = true := by simpa using hin
        cases hok : okW s v k 16 with
        | false =>
          rw [hok] at HCALL
          have HF : Hid (sok 16 bs = false) := by rw [Hid, HS.out, HD.out]; simp only [sokFrom, hok, Bool.false_and]
          clear hok hcells hx c0 c1 c2 c3 hsl HJ0 HJ1 HD HX hin
          go_wp2_with fail
          refine wp_region_after wr.heap.size (by kernel_rfl) (by kernel_rfl) ?_
          repeat (go_big_quiet_step ((first | (go_at_call 38; exact Calls.after_same (l6In_is hid)) | (go_at_call 39; exact Calls.after (After.below ‹_›).size (HCALL.out _)))))
          refine wpQuiet_nil ?_
          rintro w3 ⟨⟨_, hu⟩, rfl⟩
          have HL3 := Lib.hid (HLW.out.trans (hu.mono hws))
          clear hu0 hu1 hu2 hu3 hu
          go_wp2_with fail
          go_ret
          exact ⟨by rw [HF.out]; rfl, HL3.out⟩
        | true =>
          rw [hok] at HCALL
          by_cases hj0 : j = 0
          · subst hj0
            obtain rfl := HJ0.out rfl
            have k0 : ∀ u : After wr.heap.size wr, u.world.cell? ⟨b, o, none⟩ = some (.int .i64 xv) := fun u => hu0 u
            have k1 : ∀ u : After wr.heap.size wr, u.world.cell? ⟨b, o + 1, none⟩ = some (.int .i64 s) := fun u => hu1 u
            have k2 : ∀ u : After wr.heap.size wr, u.world.cell? ⟨b, o + 2, none⟩ = some (.int .i64 v) := fun u => hu2 u
            have k3 : ∀ u : After wr.heap.size wr, u.world.cell? ⟨b, o + 3, none⟩ = some (.slice a' (flen k) c') := fun u => hu3 u
            have k4 : ∀ u : After wr.heap.size wr, u.world.cell? ⟨b, o + 1 + 1, none⟩ = some (.int .i64 v) := fun u => hu2 u
            have k5 : ∀ u : After wr.heap.size wr, u.world.cell? ⟨b, o + 1 + 2, none⟩ = some (.slice a' (flen k) c') := fun u => hu3 u
            have hl0 : 0 < bs.length := hlt
            have HT : Hid (sok 16 bs = sokFrom 16 xv (bs.drop (0 + 1))) := by
              rw [Hid, HS.out, HD.out]
              simp only [sokFrom, hok]
              rw [decide_eq_true (show (-1 : Int) < xv by omega), decide_eq_true (show xv < 12 by omega)]; simp
            clear hok hcells hx c0 c1 c2 c3 hsl HJ0 HJ1 HD hu0 hu1 hu2 hu3
            go_wp2_with fail
            refine wp_region_after wr.heap.size (by kernel_rfl) (by kernel_rfl) ?_
            repeat (go_big_quiet_step ((first | (go_at_call 38; exact Calls.after_same (l6In_is hid)) | (go_at_call 39; exact Calls.after (After.below ‹_›).size (HCALL.out _)))))
            refine wpQuiet_nil ?_
            rintro w3 ⟨⟨_, hu⟩, rfl⟩
            have HL3 := Lib.hid (HLW.out.trans (hu.mono hws))
            clear k0 k1 k2 k3 k4 k5 hu
            go_wp2_with fail
            go_roundw
            case rel => exact ⟨0 + 1, xv, by go_num, by omega, fun h => by omega, fun n hn => ⟨(xv, s, v, k), (by rw [show n = 0 from by omega]; exact HX.out), rfl, hin.1⟩, HT, HL3⟩
            case measure => simp [intOf]; omega
          · obtain ⟨n, rfl⟩ : ∃ n, j = n + 1 := ⟨j - 1, by omega⟩
            obtain ⟨⟨yv, ys, yt, yk⟩, hy, rfl, hl0⟩ := HJ1.out n rfl
            obtain ⟨_, _, p0, _, _, _, _⟩ := hcells n _ hy
            dsimp only at p0 hl0
            have hu4 : ∀ u : After wr.heap.size wr, u.world.cell? ⟨b, o + n * 4, none⟩ = some (.int .i64 yv) := fun u => u.cell (by simp; omega) p0
            have g3 : (0 : Int) ≤ (n : Int) := by omega
            have g4 : (n : Int) < (bs.length : Int) := by omega
            have gi : ((n + 1 : Nat) : Int) - 1 = (n : Int) := by omega
            by_cases hge : xv ≤ yv
            · have HF : Hid (sok 16 bs = false) := by
                rw [Hid, HS.out, HD.out]; simp only [sokFrom]; rw [decide_eq_false (show ¬ yv < xv by omega)]; simp
              clear hok hcells hx c0 c1 c2 c3 hsl HJ0 HJ1 HD p0 hy
              go_wp2_with fail
              refine wp_region_after wr.heap.size (by kernel_rfl) (by kernel_rfl) ?_
              repeat (go_big_quiet_step ((first | (go_at_call 38; exact Calls.after_same (l6In_is hid)) | (go_at_call 39; exact Calls.after (After.below ‹_›).size (HCALL.out _)))))
              refine wpQuiet_nil ?_
              rintro w3 ⟨⟨_, hu⟩, rfl⟩
              have HL3 := Lib.hid (HLW.out.trans (hu.mono hws))
              clear hu0 hu1 hu2 hu3 hu4 hu
              go_wp2_with fail
              go_ret
              exact ⟨by rw [HF.out]; rfl, HL3.out⟩
            · have HT : Hid (sok 16 bs = sokFrom 16 xv (bs.drop (n + 1 + 1))) := by
                rw [Hid, HS.out, HD.out]
                simp only [sokFrom, hok]
                rw [decide_eq_true (show yv < xv by omega), decide_eq_true (show xv < 12 by omega)]; simp
              clear hok hcells hx c0 c1 c2 c3 hsl HJ0 HJ1 HD p0 hy
              go_wp2_with fail
              refine wp_region_after wr.heap.size (by kernel_rfl) (by kernel_rfl) ?_
              repeat (go_big_quiet_step ((first | (go_at_call 38; exact Calls.after_same (l6In_is hid)) | (go_at_call 39; exact Calls.after (After.below ‹_›).size (HCALL.out _)))))
              refine wpQuiet_nil ?_
              rintro w3 ⟨⟨_, hu⟩, rfl⟩
              have HL3 := Lib.hid (HLW.out.trans (hu.mono hws))
              clear hu0 hu1 hu2 hu3 hu4 hu
              go_wp2_with fail
              go_roundw
              case rel => exact ⟨n + 1 + 1, xv, by go_num, by omega, fun h => by omega, fun m hm => ⟨(xv, s, v, k), (by rw [show m = n + 1 from by omega]; exact HX.out), rfl, hin.1⟩, HT, HL3⟩
              case measure => simp [intOf]; omega
      · have hid : decide (0 ≤ xv ∧ xv ≤ (11 : Int)) = false := by simpa using hin
        have HF : Hid (sok 16 bs = false) := by
          rw [Hid, HS.out, HD.out]
          simp only [sokFrom]
          by_cases hx0 : 0 ≤ xv
          · rw [decide_eq_false (show ¬ xv < 12 by omega)]; simp
          · have : ¬ last < xv := by
              rcases j with _ | n
              · have := HJ0.out rfl; omega
              · obtain ⟨_, _, _, h0⟩ := HJ1.out n rfl; omega
            rw [decide_eq_false this]; simp
        clear hcells hx c0 c1 c2 c3 hsl HJ0 HJ1 HD HX hin
        go_wp2_with fail
        refine wp_region_after wr.heap.size (by kernel_rfl) (by kernel_rfl) ?_
        repeat (go_big_quiet_step ((first | (go_at_call 38; exact Calls.after_same (l6In_is hid)) | (go_at_call 39; exact Calls.after (After.below ‹_›).size (HCALL.out _)))))
        refine wpQuiet_nil ?_
        rintro w3 ⟨⟨_, hu⟩, rfl⟩
        have HL3 := Lib.hid (HLW.out.trans (hu.mono hws))
        clear hu0 hu1 hu2 hu3 hu
        go_wp2_with fail
        go_ret
        exact ⟨by rw [HF.out]; rfl, HL3.out⟩
    · have HE : Hid (sok 16 bs = true) := by rw [Hid, HS.out, List.drop_eq_nil_of_le (by omega)]; rfl
      go_wp2_with fail
      go_ret
      exact ⟨by rw [HE.out]; rfl, HLW.out⟩
end Go.Proofs.Ytpjjaolhmhfoeaa
