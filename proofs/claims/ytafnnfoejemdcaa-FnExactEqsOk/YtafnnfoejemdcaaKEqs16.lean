/- Several texts in one: XS2, LB, EQ, XE1. -/
import Derived.Test.YtafnnfoejemdcaaKEqs15
import Derived.Test.YtafnnfoejemdcaaKEqs9
import Derived.Test.YtafnnfoejemdcaaKEqs10
import Derived.Test.YtafnnfoejemdcaaKEqs4

/-! XS2: Copies of slices of binds in the exact laws. -/
namespace Go.Proofs.Ytafnnfoejemdcaa
open Go.RowKit Go.Deep

/-- A copy of a row of binds: the row in a block of its own, its terms in later blocks. -/
def BS (w : World) (base top : Nat) (bs : List Bd) (A : Option Addr) : Prop :=
  bs = [] ∨ ∃ g, A = some ⟨g, 0, none⟩ ∧ base ≤ g ∧ g < top ∧ (∀ o, w.frozen? ⟨g, o, none⟩ = false) ∧ ∀ i x, bs[i]? = some x → ∃ a c, w.cell? ⟨g, i * 4, none⟩ = some (.int .i64 x.1) ∧ w.cell? ⟨g, i * 4 + 1, none⟩ = some (.int .i64 x.2.1) ∧ w.cell? ⟨g, i * 4 + 2, none⟩ = some (.int .i64 x.2.2.1) ∧ w.cell? ⟨g, i * 4 + 3, none⟩ = some (.slice a (flen x.2.2.2) c) ∧ SX w (g + 1) top a x.2.2.2
theorem BS.same {w w' : World} {base top : Nat} {bs : List Bd} {A : Option Addr} (h : BS w base top bs A) (hs : Same base top w w') : BS w' base top bs A := by
  rcases h with h | ⟨g, e, h1, h2, hf, hc⟩
  · exact .inl h
  · refine .inr ⟨g, e, h1, h2, fun o => by rw [frozen_same (hs g h1 h2)]; exact hf o, fun i x hx => ?_⟩
    obtain ⟨a, c, c0, c1, c2, c3, ht⟩ := hc i x hx
    exact ⟨a, c, by rw [hs.cell h1 h2]; exact c0, by rw [hs.cell h1 h2]; exact c1, by rw [hs.cell h1 h2]; exact c2, by rw [hs.cell h1 h2]; exact c3, ht.same (hs.mono (by omega) (Nat.le_refl _))⟩
theorem BS.bsl {w : World} {base top : Nat} {bs : List Bd} {A : Option Addr} (h : BS w base top bs A) : BSl w base top A bs := by
  rcases h with h | ⟨g, e, h1, h2, hf, hc⟩
  · exact .inl h
  · refine .inr ⟨g, 0, e, h1, h2, fun i x hx => ?_⟩
    obtain ⟨a, c, c0, c1, c2, c3, ht⟩ := hc i x hx
    exact ⟨a, c, by rw [Nat.zero_add]; exact c0, by rw [Nat.zero_add]; exact c1, by rw [Nat.zero_add]; exact c2, by rw [Nat.zero_add]; exact c3, ht.1.mono (by omega) (Nat.le_refl _)⟩

def TobPost (x s v : Int) (k : Fo) (w : World) (e : Ending) (w' : World) : Prop :=
  ∃ a c, e = .returned (.agg #[.int .i64 x, .int .i64 s, .int .i64 v, .slice a (flen k) c]) ∧ Below w.heap.size w w' ∧ SX w' w.heap.size w'.heap.size a k
theorem tob_end {w w1 : World} {x s v : Int} {k : Fo} {a : Option Addr} {c : Nat} {n : Nat} (hn : n = w.heap.size) (hb : Below n w w1) (hl : SX w1 (n + 3) w1.heap.size a k) (u0 u1 u2 y0 y1 y2 y3 : Value) :
    TobPost x s v k w (.returned (.agg #[.int .i64 x, .int .i64 s, .int .i64 v, .slice a (flen k) c])) (((((((w1.setCell ⟨n + 1 + 1, 1, none⟩ u0).setCell ⟨n + 1 + 1, 2, none⟩ u1).setCell ⟨n + 1 + 1, 3, none⟩ u2).setCell ⟨n + 1, 0, none⟩ y0).setCell ⟨n + 1, 1, none⟩ y1).setCell ⟨n + 1, 2, none⟩ y2).setCell ⟨n + 1, 3, none⟩ y3) := by
  subst hn
  refine ⟨a, c, rfl, ((((((hb.setCell (by simp; omega) _).setCell (by simp; omega) _).setCell (by simp; omega) _).setCell (by simp) _).setCell (by simp) _).setCell (by simp) _).setCell (by simp) _, ?_⟩
  have hs : Same (w.heap.size + 3) w1.heap.size w1 (((((((w1.setCell ⟨w.heap.size + 1 + 1, 1, none⟩ u0).setCell ⟨w.heap.size + 1 + 1, 2, none⟩ u1).setCell ⟨w.heap.size + 1 + 1, 3, none⟩ u2).setCell ⟨w.heap.size + 1, 0, none⟩ y0).setCell ⟨w.heap.size + 1, 1, none⟩ y1).setCell ⟨w.heap.size + 1, 2, none⟩ y2).setCell ⟨w.heap.size + 1, 3, none⟩ y3) :=
    (((((((Same.setCell (fun _ _ _ => rfl) (.inl (by simp)) _).setCell (.inl (by simp)) _).setCell (.inl (by simp)) _).setCell (.inl (by simp)) _).setCell (.inl (by simp)) _).setCell (.inl (by simp)) _).setCell (.inl (by simp)) _)
  exact (hl.same hs).mono (by omega) (by simp)

set_option maxRecDepth 100000 in
set_option maxHeartbeats 1000000 in
theorem toBind_any (x s v : Int) (a : Option Addr) (c : Nat) (k : Fo) (w : World) (hl : Sl w 0 w.heap.size a k) (hN : fsz k ≤ 1048576) :
    Calls Try.prog 87 #[.agg #[.int .i64 x, .int .i64 s, .int .i64 v, .slice a (flen k) c]] w (TobPost x s v k w) := by
  have hb0 : Below w.heap.size w (((w.alloc (.cells #[.int .i64 x, .int .i64 s, .int .i64 v, .slice a (flen k) c] 132)).alloc (.cells #[.int .i64 0, .int .i64 0, .int .i64 0, .slice none 0 0] 134)).alloc (.cells #[.int .i64 x, .int .i64 0, .int .i64 0, .slice none 0 0] 134)) := ((((Below.refl _ _).alloc (Nat.le_refl _) _).alloc (by simp) _).alloc (by simp; omega) _)
  have HL := Lib.hid ((hl.below hb0).mono (Nat.le_refl _) hb0.size)
  have HB0 := Lib.hid hb0
  clear hb0 hl
  go_enter Try.func87, Try.ntmps87
  go_wp2_with fail
  with_reducible refine (toTerm_ofT s v a c k _ (fun w1 hb1 => toTermS_anyT (fsz k) a c k w1 ((HL.out.below hb1).mono (Nat.le_refl _) hb1.size) (Nat.le_refl _) hN)).mono ?_
  rintro e w1 ⟨a1, c1, rfl, hb, hl⟩
  have hs1 := hb.size
  simp at hs1
  have hlow : ∀ {q : Addr} {u : Value}, (((w.alloc (.cells #[.int .i64 x, .int .i64 s, .int .i64 v, .slice a (flen k) c] 132)).alloc (.cells #[.int .i64 0, .int .i64 0, .int .i64 0, .slice none 0 0] 134)).alloc (.cells #[.int .i64 x, .int .i64 0, .int .i64 0, .slice none 0 0] 134)).cell? q = some u → w1.cell? q = some u := fun h => by
    rw [hb.cell (World.block_lt_of_cell? _ _ h)]; exact h
  have hc0 := hlow (q := ⟨w.heap.size + 1 + 1, 0, none⟩) (u := .int .i64 x) (by rw [World.cell?_alloc_at _ _ _ _ (by simp)]; rfl)
  have hc1 := hlow (q := ⟨w.heap.size + 1 + 1, 1, none⟩) (u := .int .i64 0) (by rw [World.cell?_alloc_at _ _ _ _ (by simp)]; rfl)
  have hc2 := hlow (q := ⟨w.heap.size + 1 + 1, 2, none⟩) (u := .int .i64 0) (by rw [World.cell?_alloc_at _ _ _ _ (by simp)]; rfl)
  have hc3 := hlow (q := ⟨w.heap.size + 1 + 1, 3, none⟩) (u := .slice none 0 0) (by rw [World.cell?_alloc_at _ _ _ _ (by simp)]; rfl)
  have hr0 := hlow (q := ⟨w.heap.size + 1, 0, none⟩) (u := .int .i64 0) (by rw [World.cell?_alloc_lt _ _ _ (by simp), World.cell?_alloc_at _ _ _ _ (by simp)]; rfl)
  have hr1 := hlow (q := ⟨w.heap.size + 1, 1, none⟩) (u := .int .i64 0) (by rw [World.cell?_alloc_lt _ _ _ (by simp), World.cell?_alloc_at _ _ _ _ (by simp)]; rfl)
  have hr2 := hlow (q := ⟨w.heap.size + 1, 2, none⟩) (u := .int .i64 0) (by rw [World.cell?_alloc_lt _ _ _ (by simp), World.cell?_alloc_at _ _ _ _ (by simp)]; rfl)
  have hr3 := hlow (q := ⟨w.heap.size + 1, 3, none⟩) (u := .slice none 0 0) (by rw [World.cell?_alloc_lt _ _ _ (by simp), World.cell?_alloc_at _ _ _ _ (by simp)]; rfl)
  have hfz : ∀ o, w1.frozen? ⟨w.heap.size + 1 + 1, o, none⟩ = false := fun o => by rw [hb.frozen (by simp), World.frozen?_alloc_at _ _ _ _ (by simp)]
  have hgz : ∀ o, w1.frozen? ⟨w.heap.size + 1, o, none⟩ = false := fun o => by rw [hb.frozen (by simp), World.frozen?_alloc_past _ _ _ (by simp), World.frozen?_alloc_at _ _ _ _ (by simp)]
  have f1 := hfz 1
  have f2 := hfz 2
  have f3 := hfz 3
  have e0 := hgz 0
  have e1 := hgz 1
  have e2 := hgz 2
  have e3 := hgz 3
  have HB : Hid (Below w.heap.size w w1) := HB0.out.trans (hb.mono (by simp; omega))
  have HX : Hid (SX w1 (w.heap.size + 3) w1.heap.size a1 k) := hl.mono (by simp) (Nat.le_refl _)
  clear hb hl hlow hfz hgz
  go_wp2_with fail
  refine bodyPost_ret (v := .agg #[.int .i64 x, .int .i64 s, .int .i64 v, .slice a1 (flen k) c1]) ?_ rfl (tob_end rfl HB.out HX.out _ _ _ _ _ _ _)
  simp [results, Try.results87, go_sem, hr0, hr1, hr2, hr3]

theorem make_binds (n : Nat) (hn : n ≤ 1048576) (w : World) :
    (Instr.makeSlice 44 (.int .i64 (n : Int)) (.int .i64 (n : Int))).run Try.prog w = .ok (.slice (some ⟨w.heap.size, 0, none⟩) n n) (w.alloc (.cells (madeCells #[.int .i64 0, .int .i64 0, .int .i64 0, .slice none 0 0] (n * 4)) 134)) := by
  obtain ⟨i, hi, hz, hs, hb⟩ := Try.infoBind
  have := run_make (P := Try.prog) w 44 134 i _ Try.underlying44 hi hz .i64 .i64 (n : Int) (n : Int) (by omega) (by omega) (by rw [hb]; omega) (by omega)
  rw [hs] at this
  simpa [Value.cells] using this
/-- What holds at the head of toBindS's loop. -/
structure TobAt (w : World) (bs : List Bd) (j : Nat) (wr : World) : Prop where
  below : Below w.heap.size w wr
  size : w.heap.size < wr.heap.size
  row : ∃ f : Nat → Value, wr.rowIs w.heap.size 134 (bs.length * 4) f ∧ ∀ i x, i < j → bs[i]? = some x → ∃ a c, f (i * 4) = .int .i64 x.1 ∧ f (i * 4 + 1) = .int .i64 x.2.1 ∧ f (i * 4 + 2) = .int .i64 x.2.2.1 ∧ f (i * 4 + 3) = .slice a (flen x.2.2.2) c ∧ SX wr (w.heap.size + 1) wr.heap.size a x.2.2.2
theorem TobAt.start (w : World) (bs : List Bd) : TobAt w bs 0 (w.alloc (.cells (madeCells #[.int .i64 0, .int .i64 0, .int .i64 0, .slice none 0 0] (bs.length * 4)) 134)) := by
  refine ⟨(Below.refl _ _).alloc (Nat.le_refl _) _, by simp, ⟨fun i => #[Value.int .i64 0, .int .i64 0, .int .i64 0, .slice none 0 0][i % 4]!, ?_, fun i x hi => by omega⟩⟩
  have := World.rowIs_alloc w (madeCells #[.int .i64 0, .int .i64 0, .int .i64 0, .slice none 0 0] (bs.length * 4)) 134 (fun i => #[Value.int .i64 0, .int .i64 0, .int .i64 0, .slice none 0 0][i % 4]!) (fun i hi => by
    rw [size_madeCells] at hi
    exact made_at _ _ _ hi)
  rw [size_madeCells] at this
  exact this
theorem TobAt.step {w wr w2 : World} {bs : List Bd} {j : Nat} {x s v : Int} {k : Fo} {a : Option Addr} {c : Nat} (h : TobAt w bs j wr) (hx : bs[j]? = some (x, s, v, k)) (hb : Below wr.heap.size wr w2) (hl : SX w2 wr.heap.size w2.heap.size a k) :
    TobAt w bs (j + 1) ((((w2.setCell ⟨w.heap.size, j * 4, none⟩ (.int .i64 x)).setCell ⟨w.heap.size, j * 4 + 1, none⟩ (.int .i64 s)).setCell ⟨w.heap.size, j * 4 + 2, none⟩ (.int .i64 v)).setCell ⟨w.heap.size, j * 4 + 3, none⟩ (.slice a (flen k) c)) := by
  have hs := h.size
  have hs2 := hb.size
  obtain ⟨f, hf, hall⟩ := h.row
  have hf2 := hf.of_block (hb.block _ hs)
  have hsame : ∀ {L H : Nat}, w.heap.size < L → Same L H w2 ((((w2.setCell ⟨w.heap.size, j * 4, none⟩ (.int .i64 x)).setCell ⟨w.heap.size, j * 4 + 1, none⟩ (.int .i64 s)).setCell ⟨w.heap.size, j * 4 + 2, none⟩ (.int .i64 v)).setCell ⟨w.heap.size, j * 4 + 3, none⟩ (.slice a (flen k) c)) := fun hL =>
    (((Same.setCell (fun _ _ _ => rfl) (.inl hL) _).setCell (.inl hL) _).setCell (.inl hL) _).setCell (.inl hL) _
  refine ⟨((((h.below.trans (hb.mono (by omega))).setCell (by simp) _).setCell (by simp) _).setCell (by simp) _).setCell (by simp) _, by simp; omega, ⟨_, (((hf2.set _ _).set _ _).set _ _).set _ _, fun i y hi hy => ?_⟩⟩
  by_cases hij : i = j
  · subst hij
    rw [hx] at hy
    obtain rfl := Option.some.inj hy
    exact ⟨a, c, by simp, by simp, by simp, by simp, (hl.same (hsame (by omega))).mono (by omega) (by simp)⟩
  · obtain ⟨a', c', h0, h1, h2, h3, hsl⟩ := hall i y (by omega) hy
    refine ⟨a', c', ?_, ?_, ?_, ?_, ((hsl.same (fun b h1 h2 => hb.block b h2)).same (hsame (by omega))).mono (Nat.le_refl _) (by simp; omega)⟩
    · rw [if_neg (by omega), if_neg (by omega), if_neg (by omega), if_neg (by omega)]; exact h0
    · rw [if_neg (by omega), if_neg (by omega), if_neg (by omega), if_neg (by omega)]; exact h1
    · rw [if_neg (by omega), if_neg (by omega), if_neg (by omega), if_neg (by omega)]; exact h2
    · rw [if_neg (by omega), if_neg (by omega), if_neg (by omega), if_neg (by omega)]; exact h3
theorem TobAt.bs {w wr : World} {bs : List Bd} {j : Nat} (h : TobAt w bs j wr) (hj : bs.length ≤ j) : BS wr w.heap.size wr.heap.size bs (some ⟨w.heap.size, 0, none⟩) := by
  obtain ⟨f, hf, hall⟩ := h.row
  refine .inr ⟨w.heap.size, rfl, Nat.le_refl _, h.size, fun o => hf.frozen o, fun i x hx => ?_⟩
  have hi := (List.getElem?_eq_some_iff.1 hx).1
  obtain ⟨a, c, h0, h1, h2, h3, hs⟩ := hall i x (by omega) hx
  refine ⟨a, c, ?_, ?_, ?_, ?_, hs⟩
  · rw [← h0]; exact hf.cell (by omega)
  · rw [← h1]; exact hf.cell (by omega)
  · rw [← h2]; exact hf.cell (by omega)
  · rw [← h3]; exact hf.cell (by omega)
def TobsPost (bs : List Bd) (w : World) (e : Ending) (w' : World) : Prop :=
  ∃ A C, e = .returned (.slice A (List.length bs) C) ∧ Below w.heap.size w w' ∧ BS w' w.heap.size w'.heap.size bs A

set_option maxRecDepth 100000 in
set_option maxHeartbeats 1000000 in
theorem toBindS_any (bs : List Bd) (A : Option Addr) (C : Nat) (w : World) (h : BSl w 0 w.heap.size A bs) (hl : bs.length ≤ 1048576) (hz : ∀ x ∈ bs, fsz x.2.2.2 ≤ 1048576) :
    Calls Try.prog 61 #[.slice A bs.length C] w (TobsPost bs w) := by
  have hmk := make_binds bs.length hl
  have HST := Lib.hid (TobAt.start w bs)
  have HB := Lib.hid h
  have HZ := Lib.hid hz
  clear h hz
  go_enter Try.func61, Try.ntmps61
  go_wp2_with fail
  clear hmk
  go_loopw [4] (fun i wr => ∃ j : Nat, j ≤ bs.length ∧ i = .int .i64 j ∧ Hid (TobAt w bs j wr)) (fun i _ => bs.length - (intOf i).toNat)
  case atStart => exact ⟨0, by omega, rfl, HST⟩
  case round =>
    clear HST
    obtain ⟨j, hj, rfl, HAT⟩ := hrel
    have hsr := HAT.out.size
    by_cases hlt : j < bs.length
    · obtain ⟨y, hy⟩ : ∃ y, bs[j]? = some y := ⟨bs[j], List.getElem?_eq_getElem hlt⟩
      obtain ⟨x, s, v, k⟩ := y
      have hbr := (HB.out.below HAT.out.below).mono (Nat.le_refl _) HAT.out.below.size
      rcases hbr with hbr | ⟨rb, ro, rfl, _, hbB, hcells⟩
      · subst hbr; simp at hy
      obtain ⟨a, c, d0, d1, d2, d3, hsl⟩ := hcells j _ hy
      dsimp only at d0 d1 d2 d3 hsl
      have d2' : wr.cell? ⟨rb, ro + j * 4 + 2, none⟩ = some (.int .i64 v) := d2
      have d3' : wr.cell? ⟨rb, ro + j * 4 + 3, none⟩ = some (.slice a (flen k) c) := d3
      have hkz := HZ.out _ (List.mem_of_getElem? hy)
      dsimp only at hkz
      have HX := Lib.hid hy
      have HS := Lib.hid hsl
      have g1 : (0 : Int) ≤ (j : Int) := by omega
      have g2 : (j : Int) < (bs.length : Int) := by omega
      clear hcells hy hsl d2 d3
      go_wp2_with fail
      with_reducible refine (toBind_any x s v a c k _ HS.out hkz).mono ?_
      rintro e w2 ⟨a2, c2, rfl, hb2, hl2⟩
      obtain ⟨f, hf, _⟩ := HAT.out.row
      have hf2 := hf.of_block (hb2.block _ hsr)
      have hg0 := hf2.cell (i := j * 4) (by omega)
      have hg1 := hf2.cell (i := j * 4 + 1) (by omega)
      have hg2 := hf2.cell (i := j * 4 + 2) (by omega)
      have hg3 := hf2.cell (i := j * 4 + 3) (by omega)
      have hz0 := hf2.frozen (j * 4)
      have hz1 := hf2.frozen (j * 4 + 1)
      have hz2 := hf2.frozen (j * 4 + 2)
      have hz3 := hf2.frozen (j * 4 + 3)
      have HSTEP := Lib.hid (HAT.out.step (c := c2) HX.out hb2 hl2)
      clear hf hf2 hb2 hl2 d0 d1 d2' d3'
      go_wp2_with fail
      go_roundw
      case rel => exact ⟨j + 1, by omega, by go_num, HSTEP⟩
      case measure => simp [intOf]; omega
    · have HE : Hid (TobsPost bs w (.returned (.slice (some ⟨w.heap.size, 0, none⟩) bs.length bs.length)) wr) := ⟨_, _, rfl, HAT.out.below, HAT.out.bs (by omega)⟩
      clear HAT
      go_wp2_with fail
      go_ret
      exact HE.out
end Go.Proofs.Ytafnnfoejemdcaa

/-! LB: What the walks of laws hold on to: boxes of terms, and what stays when memory is added. Plain lemmas. -/
namespace Go.Proofs.Ytafnnfoejemdcaa
open Go.RowKit Go.Deep

/-- Block b is a box that holds the term s v k; what it leads to lies in memory. -/
structure Tb (b : Nat) (s v : Int) (a : Option Addr) (c : Nat) (k : Fo) (w : World) : Prop where
  c0 : w.cell? ⟨b, 0, none⟩ = some (.int .i64 s)
  c1 : w.cell? ⟨b, 1, none⟩ = some (.int .i64 v)
  c2 : w.cell? ⟨b, 2, none⟩ = some (.slice a (flen k) c)
  sl : Sl w 0 w.heap.size a k
theorem Tb.next {b : Nat} {s v : Int} {a : Option Addr} {c : Nat} {k : Fo} {w w2 : World} (h : Tb b s v a c k w) (hb : Below w.heap.size w w2) : Tb b s v a c k w2 :=
  ⟨cell_low hb h.c0, cell_low hb h.c1, cell_low hb h.c2, (h.sl.below hb).mono (Nat.le_refl _) hb.size⟩
theorem Tb.new {s v : Int} {a : Option Addr} {c : Nat} {k : Fo} {w : World} {lo : Nat} (h : Sl w lo w.heap.size a k) : Tb w.heap.size s v a c k (w.alloc (.cells #[.int .i64 s, .int .i64 v, .slice a (flen k) c] 40)) := by
  have hb : Below w.heap.size w (w.alloc (.cells #[.int .i64 s, .int .i64 v, .slice a (flen k) c] 40)) := (Below.refl _ _).alloc (Nat.le_refl _) _
  refine ⟨?_, ?_, ?_, ((h.mono (Nat.zero_le _) (Nat.le_refl _)).below hb).mono (Nat.le_refl _) hb.size⟩
  · rw [World.cell?_alloc_at _ _ _ _ (by simp)]; rfl
  · rw [World.cell?_alloc_at _ _ _ _ (by simp)]; rfl
  · rw [World.cell?_alloc_at _ _ _ _ (by simp)]; rfl
theorem box_low (w : World) (o : Obj) : Below w.heap.size w (w.alloc o) := (Below.refl _ _).alloc (Nat.le_refl _) o
theorem Sl.next {w w2 : World} {lo : Nat} {a : Option Addr} {k : Fo} (h : Sl w lo w.heap.size a k) (hb : Below w.heap.size w w2) : Sl w2 0 w2.heap.size a k := ((h.mono (Nat.zero_le _) (Nat.le_refl _)).below hb).mono (Nat.le_refl _) hb.size
theorem BSl.next {w w2 : World} {lo : Nat} {a : Option Addr} {bs : List Bd} (h : BSl w lo w.heap.size a bs) (hb : Below w.heap.size w w2) : BSl w2 0 w2.heap.size a bs := ((h.mono (Nat.zero_le _) (Nat.le_refl _)).below hb).mono (Nat.le_refl _) hb.size
theorem ISl.next {w w2 : World} {lo : Nat} {a : Option Addr} {xs : List Int} (h : ISl w lo w.heap.size a xs) (hb : Below w.heap.size w w2) : ISl w2 0 w2.heap.size a xs := ((h.mono (Nat.zero_le _) (Nat.le_refl _)).below hb).mono (Nat.le_refl _) hb.size
theorem ISc.next {w w2 : World} {lo : Nat} {a : Option Addr} {c : Nat} {xs : List Int} (h : ISc w lo w.heap.size a c xs) (hb : Below w.heap.size w w2) : ISc w2 0 w2.heap.size a c xs := ⟨h.1.next hb, h.2⟩
theorem RSl.next {w w2 : World} {lo : Nat} {a : Option Addr} {rows : List (List Int)} (h : RSl w lo w.heap.size a rows) (hb : Below w.heap.size w w2) : RSl w2 0 w2.heap.size a rows := ((h.mono (Nat.zero_le _) (Nat.le_refl _)).below hb).mono (Nat.le_refl _) hb.size
theorem below_next {w0 w w2 : World} (h : Below w0.heap.size w0 w) (hb : Below w.heap.size w w2) : Below w0.heap.size w0 w2 := h.trans (hb.mono h.size)
theorem Bytes.next {w wn : World} {a : Option Addr} {len : Nat} (h : Bytes w a len) (hb : Below w.heap.size w wn) : Bytes wn a len := by
  rcases h with h | ⟨b, o, e, h1, h2⟩
  · exact .inl h
  · refine .inr ⟨b, o, e, Nat.lt_of_lt_of_le h1 hb.size, fun i hi => ?_⟩
    obtain ⟨x, hx, hc⟩ := h2 i hi
    exact ⟨x, hx, cell_low hb hc⟩
end Go.Proofs.Ytafnnfoejemdcaa

/-! EQ: Lists of equations as plain data, and in memory as rows of six cells. Definitions and plain lemmas. -/
namespace Go.Proofs.Ytafnnfoejemdcaa
open Go.RowKit Go.Deep

/-- A sign, a variable, the kids. -/
abbrev Tm3 := Int × Int × Fo
/-- Both sides of an equation. -/
abbrev Eqd := Tm3 × Tm3
def okT3 (room : Int) (t : Tm3) : Bool := okW t.1 t.2.1 t.2.2 room
/-- A slice's address at which the equations es lie. -/
def ESl (w : World) (lo B : Nat) (a : Option Addr) (es : List Eqd) : Prop :=
  es = [] ∨ ∃ b o, a = some ⟨b, o, none⟩ ∧ lo ≤ b ∧ b < B ∧ ∀ (i : Nat) (x : Eqd), es[i]? = some x → ∃ a1 c1 a2 c2, w.cell? ⟨b, o + i * 6, none⟩ = some (.int .i64 x.1.1) ∧ w.cell? ⟨b, o + i * 6 + 1, none⟩ = some (.int .i64 x.1.2.1) ∧ w.cell? ⟨b, o + i * 6 + 2, none⟩ = some (.slice a1 (flen x.1.2.2) c1) ∧
    w.cell? ⟨b, o + i * 6 + 3, none⟩ = some (.int .i64 x.2.1) ∧ w.cell? ⟨b, o + i * 6 + 3 + 1, none⟩ = some (.int .i64 x.2.2.1) ∧ w.cell? ⟨b, o + i * 6 + 3 + 2, none⟩ = some (.slice a2 (flen x.2.2.2) c2) ∧ Sl w lo B a1 x.1.2.2 ∧ Sl w lo B a2 x.2.2.2
theorem ESl.same {w w' : World} {lo B : Nat} {a : Option Addr} {es : List Eqd} (hb : Same lo B w w') (h : ESl w lo B a es) : ESl w' lo B a es := by
  rcases h with h | ⟨b, o, e, h1, h2, h3⟩
  · exact .inl h
  · refine .inr ⟨b, o, e, h1, h2, fun i x hx => ?_⟩
    obtain ⟨a1, k1, a2, k2, c0, c1, c2, c3, c4, c5, hl, hl2⟩ := h3 i x hx
    exact ⟨a1, k1, a2, k2, by rw [hb.cell h1 h2]; exact c0, by rw [hb.cell h1 h2]; exact c1, by rw [hb.cell h1 h2]; exact c2, by rw [hb.cell h1 h2]; exact c3, by rw [hb.cell h1 h2]; exact c4, by rw [hb.cell h1 h2]; exact c5, hl.same hb, hl2.same hb⟩
theorem ESl.mono {w : World} {lo lo' B B' : Nat} {a : Option Addr} {es : List Eqd} (hlo : lo' ≤ lo) (hB : B ≤ B') (h : ESl w lo B a es) : ESl w lo' B' a es := by
  rcases h with h | ⟨b, o, e, h1, h2, h3⟩
  · exact .inl h
  · refine .inr ⟨b, o, e, by omega, by omega, fun i x hx => ?_⟩
    obtain ⟨a1, k1, a2, k2, c0, c1, c2, c3, c4, c5, hl, hl2⟩ := h3 i x hx
    exact ⟨a1, k1, a2, k2, c0, c1, c2, c3, c4, c5, hl.mono hlo hB, hl2.mono hlo hB⟩
theorem ESl.below {w w' : World} {lo B : Nat} {a : Option Addr} {es : List Eqd} (hb : Below B w w') (h : ESl w lo B a es) : ESl w' lo B a es := h.same (Same.of_below hb)
theorem ESl.next {w w' : World} {a : Option Addr} {es : List Eqd} (h : ESl w 0 w.heap.size a es) (hb : Below w.heap.size w w') : ESl w' 0 w'.heap.size a es := (h.below hb).mono (Nat.le_refl _) hb.size
/-- What the cells of an equation hold. -/
theorem ESl.at {w : World} {lo B : Nat} {a : Option Addr} {es : List Eqd} (h : ESl w lo B a es) {i : Nat} {x : Eqd} (hx : es[i]? = some x) :
    ∃ b o, a = some ⟨b, o, none⟩ ∧ lo ≤ b ∧ b < B ∧ ∃ a1 c1 a2 c2, w.cell? ⟨b, o + i * 6, none⟩ = some (.int .i64 x.1.1) ∧ w.cell? ⟨b, o + i * 6 + 1, none⟩ = some (.int .i64 x.1.2.1) ∧ w.cell? ⟨b, o + i * 6 + 2, none⟩ = some (.slice a1 (flen x.1.2.2) c1) ∧
    w.cell? ⟨b, o + i * 6 + 3, none⟩ = some (.int .i64 x.2.1) ∧ w.cell? ⟨b, o + i * 6 + 3 + 1, none⟩ = some (.int .i64 x.2.2.1) ∧ w.cell? ⟨b, o + i * 6 + 3 + 2, none⟩ = some (.slice a2 (flen x.2.2.2) c2) ∧ Sl w lo B a1 x.1.2.2 ∧ Sl w lo B a2 x.2.2.2 := by
  rcases h with rfl | ⟨b, o, e, h1, h2, h3⟩
  · simp at hx
  · exact ⟨b, o, e, h1, h2, h3 i x hx⟩

/-- An equation of valid terms. -/
def okE (x : Eqd) : Bool := okT3 16 x.1 && okT3 16 x.2
/-- A valid equation list. -/
def okEs (es : List Eqd) : Bool := decide (es.length ≤ 6) && es.all okE
theorem okEs_iff (es : List Eqd) : okEs es = true ↔ es.length ≤ 6 ∧ ∀ x ∈ es, okE x = true := by simp [okEs]
theorem all_take {es : List Eqd} {j : Nat} {x : Eqd} (h : (es.take j).all okE = true) (hx : es[j]? = some x) (h1 : okE x = true) : (es.take (j + 1)).all okE = true := by
  rw [List.take_add_one, hx]
  simp only [Option.toList_some, List.all_append, h, List.all_cons, h1, List.all_nil, Bool.and_true]
theorem all_no {es : List Eqd} {j : Nat} {x : Eqd} (hx : es[j]? = some x) (h1 : okE x = false) : okEs es = false := by
  cases h : okEs es with
  | false => rfl
  | true => rw [((okEs_iff es).1 h).2 x (List.mem_of_getElem? hx)] at h1; cases h1
end Go.Proofs.Ytafnnfoejemdcaa

/-! XE1: Slices of equations in the exact laws: their size, copies of them, whether they are the same. -/
namespace Go.Proofs.Ytafnnfoejemdcaa
open Go.RowKit Go.Deep

def fszE (x : Eqd) : Nat := fsz x.1.2.2 + fsz x.2.2.2
def szER (x : Eqd) (left : Int) : Int := if (fszE x : Int) ≤ left then left - fszE x else -1
/-- How many terms lie in a row of equations. -/
def szQ : List Eqd → Nat
  | [] => 0
  | x :: r => fszE x + szQ r
def szE (es : List Eqd) (l : Int) : Int := if (szQ es : Int) ≤ l then l - szQ es else -1
def szQR (es : List Eqd) (left : Int) : Int := if (es.length : Int) + szQ es ≤ left then left - (es.length + szQ es) else -1
theorem szQR_start (es : List Eqd) (left : Int) : szQR es left = szE es (left - es.length) := by
  unfold szQR szE
  by_cases h : (es.length : Int) + szQ es ≤ left
  · rw [if_pos h, if_pos (by omega)]; omega
  · rw [if_neg h, if_neg (by omega)]
theorem szQR_over {es : List Eqd} {left : Int} (h : left < es.length) : szQR es left = -1 := by unfold szQR; rw [if_neg (by omega)]
theorem szQR_case (es : List Eqd) (left : Int) : szQR es left = -1 ∨ 0 ≤ szQR es left := by unfold szQR; split <;> omega
theorem szQR_fit {es : List Eqd} {left : Int} (h : 0 ≤ szQR es left) (hl : left ≤ 1048576) : es.length + szQ es ≤ 1048576 ∧ szQR es left ≤ 1048576 := by
  unfold szQR at *
  split at h
  · rename_i hc; rw [if_pos hc]; omega
  · omega
theorem szQ_mem : ∀ {es : List Eqd} {x : Eqd}, x ∈ es → fszE x ≤ szQ es
  | [], _, h => by cases h
  | y :: r, x, h => by
    simp only [szQ]
    rcases List.mem_cons.1 h with rfl | h
    · omega
    · have := szQ_mem h; omega
theorem szQ_cons (x : Eqd) (r : List Eqd) : (szQ (x :: r) : Int) = (fszE x : Int) + (szQ r : Int) := by simp [szQ]
theorem szE_cons {x : Eqd} {r : List Eqd} {l : Int} (_h : (fszE x : Int) ≤ l) : szE (x :: r) l = szE r (l - fszE x) := by
  have e := szQ_cons x r
  unfold szE
  by_cases h2 : (szQ (x :: r) : Int) ≤ l
  · rw [if_pos h2, if_pos (by omega)]; omega
  · rw [if_neg h2, if_neg (by omega)]
theorem szE_over {x : Eqd} {r : List Eqd} {l : Int} (h : ¬ (fszE x : Int) ≤ l) : szE (x :: r) l = -1 := by
  have e := szQ_cons x r
  unfold szE
  rw [if_neg (by omega)]
theorem drop_eqX {es : List Eqd} {j : Nat} {x : Eqd} (h : es[j]? = some x) : es.drop j = x :: es.drop (j + 1) := by
  obtain ⟨hj, rfl⟩ := List.getElem?_eq_some_iff.1 h
  exact List.drop_eq_getElem_cons hj
/-- The six cells of an equation's box. -/
theorem box6 {w : World} {c0 c1 c2 c3 c4 c5 : Value} {T : TypeId} (i : Nat) : (w.alloc (.cells #[c0, c1, c2, c3, c4, c5] T)).cell? ⟨w.heap.size, i, none⟩ = #[c0, c1, c2, c3, c4, c5][i]? := by rw [World.cell?_alloc_at _ _ _ _ (by simp)]

set_option maxRecDepth 100000 in
theorem szEq_any (s v : Int) (a : Option Addr) (c : Nat) (k : Fo) (s' v' : Int) (a' : Option Addr) (c' : Nat) (k' : Fo) (left : Int) (w : World) (hl : Sl w 0 w.heap.size a k) (hc : fcap k) (hm : flen k ≤ maxLen) (hl' : Sl w 0 w.heap.size a' k') (hc' : fcap k') (hm' : flen k' ≤ maxLen) (h0 : 0 ≤ left) (h1 : left ≤ 1048576) :
    Calls Try.prog 43 #[.agg #[.int .i64 s, .int .i64 v, .slice a (flen k) c, .int .i64 s', .int .i64 v', .slice a' (flen k') c'], .int .i64 left] w fun e w' => e = .returned (.int .i64 (szER ((s, v, k), s', v', k') left)) ∧ Below w.heap.size w w' := by
  have hb0 : Below w.heap.size w (w.alloc (.cells #[.int .i64 s, .int .i64 v, .slice a (flen k) c, .int .i64 s', .int .i64 v', .slice a' (flen k') c'] 75)) := box_low _ _
  have HB0 := Lib.hid hb0
  have HL := Lib.hid (Sl.next hl hb0)
  have HL2 := Lib.hid (Sl.next hl' hb0)
  have HC := Lib.hid hc
  have HM := Lib.hid hm
  have HC2 := Lib.hid hc'
  have HM2 := Lib.hid hm'
  have H3 : Hid ((w.alloc (.cells #[.int .i64 s, .int .i64 v, .slice a (flen k) c, .int .i64 s', .int .i64 v', .slice a' (flen k') c'] 75)).cell? ⟨w.heap.size, 3, none⟩ = some (.int .i64 s')) := box6 3
  have H4 : Hid ((w.alloc (.cells #[.int .i64 s, .int .i64 v, .slice a (flen k) c, .int .i64 s', .int .i64 v', .slice a' (flen k') c'] 75)).cell? ⟨w.heap.size, 4, none⟩ = some (.int .i64 v')) := box6 4
  have H5 : Hid ((w.alloc (.cells #[.int .i64 s, .int .i64 v, .slice a (flen k) c, .int .i64 s', .int .i64 v', .slice a' (flen k') c'] 75)).cell? ⟨w.heap.size, 5, none⟩ = some (.slice a' (flen k') c')) := box6 5
  clear hb0 hl hc hm hl' hc' hm'
  go_enter Try.func43, Try.ntmps43
  go_wp2_with fail
  with_reducible refine (szTerm_any HL.out HC.out HM.out h0 h1).mono ?_
  rintro e w1 ⟨rfl, hb⟩
  have HB1 := Lib.hid (HB0.out.trans (hb.mono HB0.out.size))
  have HL3 := Lib.hid (HL2.out.next hb)
  have d3 := cell_low hb H3.out
  have d4 := cell_low hb H4.out
  have d5 := cell_low hb H5.out
  clear hb H3 H4 H5 HL HL2
  by_cases hz : (fsz k : Int) ≤ left
  rotate_left
  · have he : szR k left = -1 := by unfold szR; rw [if_neg hz]
    have HE : Hid (szER ((s, v, k), s', v', k') left = -1) := by
      show szER _ _ = _
      unfold szER fszE; rw [if_neg (by dsimp only; omega)]
    rw [he]
    clear he
    go_wp2_with fail
    go_ret
    exact ⟨by rw [HE.out]; rfl, HB1.out⟩
  have he : szR k left = left - fsz k := by unfold szR; rw [if_pos hz]
  rw [he]
  clear he
  have g1 : (0 : Int) ≤ left - fsz k := by omega
  have g2 : left - fsz k ≤ 1048576 := by omega
  generalize hle : left - (fsz k : Int) = l2 at *
  go_wp2_with fail
  with_reducible refine (szTerm_any HL3.out HC2.out HM2.out g1 g2).mono ?_
  rintro e w2 ⟨rfl, hb2⟩
  have HB2 := Lib.hid (HB1.out.trans (hb2.mono HB1.out.size))
  clear hb2 d3 d4 d5
  by_cases hz2 : (fsz k' : Int) ≤ l2
  · have he : szR k' l2 = l2 - fsz k' := by unfold szR; rw [if_pos hz2]
    have HE : Hid (szER ((s, v, k), s', v', k') left = l2 - fsz k') := by
      show szER _ _ = _
      unfold szER fszE; rw [if_pos (by dsimp only; omega)]; dsimp only; omega
    rw [he]
    clear he
    generalize hl3 : l2 - (fsz k' : Int) = l3 at *
    have g3 : 0 ≤ l3 := by omega
    clear hl3 hle
    go_wp2_with fail
    go_ret
    exact ⟨by rw [HE.out]; rfl, HB2.out⟩
  · have he : szR k' l2 = -1 := by unfold szR; rw [if_neg hz2]
    have HE : Hid (szER ((s, v, k), s', v', k') left = -1) := by
      show szER _ _ = _
      unfold szER fszE; rw [if_neg (by dsimp only; omega)]
    rw [he]
    clear he
    go_wp2_with fail
    go_ret
    exact ⟨by rw [HE.out]; rfl, HB2.out⟩

set_option maxRecDepth 100000 in
set_option maxHeartbeats 1000000 in
theorem szEqS_any (es : List Eqd) (A : Option Addr) (C : Nat) (left : Int) (w : World) (h : ESl w 0 w.heap.size A es) (hml : es.length ≤ maxLen) (hall : ∀ x ∈ es, (flen x.1.2.2 ≤ maxLen ∧ fcap x.1.2.2) ∧ flen x.2.2.2 ≤ maxLen ∧ fcap x.2.2.2) (h0 : 0 ≤ left) (h1 : left ≤ 1048576) :
    Calls Try.prog 14 #[.slice A es.length C, .int .i64 left] w fun e w' => e = .returned (.int .i64 (szQR es left)) ∧ Below w.heap.size w w' := by
  by_cases hbig : 1048576 < es.length
  · have hneg := sub_neg h0 h1 hbig hml
    have HE : Hid (szQR es left = -1) := szQR_over (by omega)
    clear hml
    go_enter Try.func14, Try.ntmps14
    go_wp2_with fail
    go_ret
    exact ⟨by rw [HE.out]; rfl, Below.refl _ _⟩
  clear hml
  by_cases hov : left < es.length
  · have HE : Hid (szQR es left = -1) := szQR_over hov
    go_enter Try.func14, Try.ntmps14
    go_wp2_with fail
    go_ret
    exact ⟨by rw [HE.out]; rfl, Below.refl _ _⟩
  have HST : Hid (szQR es left = szE (es.drop 0) (left - es.length)) := by rw [Hid, List.drop_zero]; exact szQR_start es left
  have HA := Lib.hid hall
  have HB := Lib.hid h
  clear hall h
  go_enter Try.func14, Try.ntmps14
  go_wp2_with fail
  go_loopw [1, 5] (fun t i wr => ∃ (j : Nat) (l : Int), j ≤ es.length ∧ i = .int .i64 j ∧ t = .int .i64 l ∧ 0 ≤ l ∧ l ≤ 1048576 ∧ Hid (szQR es left = szE (es.drop j) l) ∧ Hid (Below w.heap.size w wr)) (fun _ i _ => es.length - (intOf i).toNat)
  case atStart => exact ⟨0, left - es.length, by omega, rfl, rfl, by omega, by omega, HST, Below.refl _ _⟩
  case round =>
    clear HST
    obtain ⟨j, l, hj, rfl, rfl, hl0, hl1, HSZ, HBL⟩ := hrel
    have hbs := HBL.out.size
    by_cases hlt : j < es.length
    · obtain ⟨y, hy⟩ : ∃ y, es[j]? = some y := ⟨es[j], List.getElem?_eq_getElem hlt⟩
      obtain ⟨⟨s, v, k⟩, s', v', k'⟩ := y
      obtain ⟨rb, ro, rfl, _, hbB, a, c, a', c', d0, d1, d2, d3, d4, d5, hsl, hsl'⟩ := (HB.out.next HBL.out).at hy
      dsimp only at d0 d1 d2 d3 d4 d5 hsl hsl'
      have d4' : wr.cell? ⟨rb, ro + j * 6 + 4, none⟩ = some (.int .i64 v') := d4
      have d5' : wr.cell? ⟨rb, ro + j * 6 + 5, none⟩ = some (.slice a' (flen k') c') := d5
      have HX := Lib.hid (HA.out _ (List.mem_of_getElem? hy))
      have HD := Lib.hid (drop_eqX hy)
      have HS := Lib.hid hsl
      have HS' := Lib.hid hsl'
      have g1 : (0 : Int) ≤ (j : Int) := by omega
      have g2 : (j : Int) < (es.length : Int) := by omega
      clear hy hsl hsl' d4 d5
      go_wp2_with fail
      with_reducible refine (szEq_any s v a c k s' v' a' c' k' l _ HS.out HX.out.1.2 HX.out.1.1 HS'.out HX.out.2.2 HX.out.2.1 hl0 hl1).mono ?_
      rintro e w2 ⟨rfl, hb2⟩
      have HB2 := Lib.hid (HBL.out.trans (hb2.mono hbs))
      clear hb2 d0 d1 d2 d3 d4' d5'
      generalize ((s, v, k), s', v', k') = y at *
      by_cases hok : (fszE y : Int) ≤ l
      · have he : szER y l = l - fszE y := by unfold szER; rw [if_pos hok]
        rw [he]
        clear he
        have HSZ2 : Hid (szQR es left = szE (es.drop (j + 1)) (l - fszE y)) := by rw [Hid, HSZ.out, HD.out]; exact szE_cons hok
        generalize fszE y = fy at *
        go_wp2_with fail
        go_roundw
        case rel => exact ⟨j + 1, _, by omega, by go_num, rfl, by omega, by omega, HSZ2, HB2⟩
        case measure => simp [intOf]; omega
      · have he : szER y l = -1 := by unfold szER; rw [if_neg hok]
        rw [he]
        clear he
        have HSZ2 : Hid (szQR es left = -1) := by rw [Hid, HSZ.out, HD.out]; exact szE_over hok
        go_wp2_with fail
        go_ret
        exact ⟨by rw [HSZ2.out]; rfl, HB2.out⟩
    · have HE : Hid (szQR es left = l) := by
        rw [Hid, HSZ.out, List.drop_eq_nil_of_le (by omega)]
        unfold szE szQ; rw [if_pos (by simpa using hl0)]; simp
      clear HSZ
      go_wp2_with fail
      go_ret
      exact ⟨by rw [HE.out]; rfl, HBL.out⟩

set_option maxRecDepth 100000 in
set_option maxHeartbeats 1000000 in
theorem eqEq_same (s v : Int) (a : Option Addr) (c : Nat) (k : Fo) (s' v' : Int) (a' : Option Addr) (c' : Nat) (k' : Fo) (b : Option Addr) (d : Nat) (b' : Option Addr) (d' : Nat) (w : World) (hl : Sl w 0 w.heap.size a k) (hl' : Sl w 0 w.heap.size a' k') (hm : Sl w 0 w.heap.size b k) (hm' : Sl w 0 w.heap.size b' k') (hN : fsz k ≤ 1048576) (hN' : fsz k' ≤ 1048576) :
    Calls Try.prog 47 #[.agg #[.int .i64 s, .int .i64 v, .slice a (flen k) c, .int .i64 s', .int .i64 v', .slice a' (flen k') c'], .agg #[.int .i64 s, .int .i64 v, .slice b (flen k) d, .int .i64 s', .int .i64 v', .slice b' (flen k') d']] w fun e w' => e = .returned (.bool true) ∧ Below w.heap.size w w' := by
  have hbA := box_low w (.cells #[.int .i64 s, .int .i64 v, .slice a (flen k) c, .int .i64 s', .int .i64 v', .slice a' (flen k') c'] 65)
  have hbB := box_low (w.alloc (.cells #[.int .i64 s, .int .i64 v, .slice a (flen k) c, .int .i64 s', .int .i64 v', .slice a' (flen k') c'] 65)) (.cells #[.int .i64 s, .int .i64 v, .slice b (flen k) d, .int .i64 s', .int .i64 v', .slice b' (flen k') d'] 65)
  have hb0 := hbA.trans (hbB.mono hbA.size)
  have HB0 := Lib.hid hb0
  have HL := Lib.hid (Sl.next hl hb0)
  have HL2 := Lib.hid (Sl.next hl' hb0)
  have HM := Lib.hid (Sl.next hm hb0)
  have HM2 := Lib.hid (Sl.next hm' hb0)
  obtain ⟨W, hW⟩ : ∃ W, (w.alloc (.cells #[.int .i64 s, .int .i64 v, .slice a (flen k) c, .int .i64 s', .int .i64 v', .slice a' (flen k') c'] 65)).alloc (.cells #[.int .i64 s, .int .i64 v, .slice b (flen k) d, .int .i64 s', .int .i64 v', .slice b' (flen k') d'] 65) = W := ⟨_, rfl⟩
  have cA : ∀ i, W.cell? ⟨w.heap.size, i, none⟩ = #[Value.int .i64 s, .int .i64 v, .slice a (flen k) c, .int .i64 s', .int .i64 v', .slice a' (flen k') c'][i]? := fun i => by
    rw [← hW, World.cell?_alloc_lt _ _ _ (by simp), World.cell?_alloc_at _ _ _ _ (by simp)]
  have cB : ∀ i, W.cell? ⟨w.heap.size + 1, i, none⟩ = #[Value.int .i64 s, .int .i64 v, .slice b (flen k) d, .int .i64 s', .int .i64 v', .slice b' (flen k') d'][i]? := fun i => by
    rw [← hW, World.cell?_alloc_at _ _ _ _ (by simp)]
  have c0 : W.cell? ⟨w.heap.size, 0, none⟩ = some (.int .i64 s) := cA 0
  have c1 : W.cell? ⟨w.heap.size, 1, none⟩ = some (.int .i64 v) := cA 1
  have c2 : W.cell? ⟨w.heap.size, 2, none⟩ = some (.slice a (flen k) c) := cA 2
  have c3 : W.cell? ⟨w.heap.size, 3, none⟩ = some (.int .i64 s') := cA 3
  have c4 : W.cell? ⟨w.heap.size, 4, none⟩ = some (.int .i64 v') := cA 4
  have c5 : W.cell? ⟨w.heap.size, 5, none⟩ = some (.slice a' (flen k') c') := cA 5
  have e0 : W.cell? ⟨w.heap.size + 1, 0, none⟩ = some (.int .i64 s) := cB 0
  have e1 : W.cell? ⟨w.heap.size + 1, 1, none⟩ = some (.int .i64 v) := cB 1
  have e2 : W.cell? ⟨w.heap.size + 1, 2, none⟩ = some (.slice b (flen k) d) := cB 2
  have e3 : W.cell? ⟨w.heap.size + 1, 3, none⟩ = some (.int .i64 s') := cB 3
  have e4 : W.cell? ⟨w.heap.size + 1, 4, none⟩ = some (.int .i64 v') := cB 4
  have e5 : W.cell? ⟨w.heap.size + 1, 5, none⟩ = some (.slice b' (flen k') d') := cB 5
  rw [hW] at HB0 HL HL2 HM HM2
  have C3 := Lib.hid c3
  have C4 := Lib.hid c4
  have C5 := Lib.hid c5
  have E3 := Lib.hid e3
  have E4 := Lib.hid e4
  have E5 := Lib.hid e5
  clear hb0 hl hl' hm hm' hbA hbB c3 c4 c5 e3 e4 e5 cA cB
  go_enter Try.func47, Try.ntmps47
  go_wp2_with fail
  clear c0 c1 c2 e0 e1 e2
  with_reducible refine (eqTerm_any (k := k) HL.out HM.out hN).mono ?_
  rintro e w2 ⟨rfl, hb2⟩
  have HB2 := Lib.hid (HB0.out.trans (hb2.mono HB0.out.size))
  have HL3 := Lib.hid (HL2.out.next hb2)
  have HM3 := Lib.hid (HM2.out.next hb2)
  have c3 := cell_low hb2 C3.out
  have c4 := cell_low hb2 C4.out
  have c5 := cell_low hb2 C5.out
  have e3 := cell_low hb2 E3.out
  have e4 := cell_low hb2 E4.out
  have e5 := cell_low hb2 E5.out
  clear hb2 C3 C4 C5 E3 E4 E5 HL HM HL2 HM2
  go_wp2_with fail
  with_reducible refine (eqTerm_any (k := k') HL3.out HM3.out hN').mono ?_
  rintro e w3 ⟨rfl, hb3⟩
  have HB3 := Lib.hid (HB2.out.trans (hb3.mono HB2.out.size))
  clear hb3 c3 c4 c5 e3 e4 e5
  go_wp2_with fail
  go_ret
  exact ⟨rfl, HB3.out⟩
end Go.Proofs.Ytafnnfoejemdcaa
