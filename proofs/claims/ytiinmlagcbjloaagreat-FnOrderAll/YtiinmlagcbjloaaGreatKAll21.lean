/- Several texts in one: J2. -/
import Derived.Test.YtiinmlagcbjloaaGreatKAll15
import Derived.Test.YtiinmlagcbjloaaGreatKAll12
import Derived.Test.YtiinmlagcbjloaaGreatKAll18
import Derived.Test.YtiinmlagcbjloaaGreatKAll20

/-! J2: DrawOrderMore. -/
namespace Go.Proofs.YtiinmlagcbjloaaGreat
open Go.RowKit Go.Deep
attribute [local go_sem ↓] Go.wp_at_zero Go.wp_at_succ

def DomPost (w : World) (e : Ending) (w' : World) : Prop :=
  ∃ xs A C s v a c k s' v' a' c' k', e = .returned (.tuple #[.slice A (List.length xs) C, .agg #[.int .i64 s, .int .i64 v, .slice a (flen k) c], .agg #[.int .i64 s', .int .i64 v', .slice a' (flen k') c']]) ∧ xs.length = 4 ∧ 1 + fsz k ≤ 31000 ∧ 1 + fsz k' ≤ 31000 ∧ Below w.heap.size w w' ∧ ISc w' w.heap.size w'.heap.size A C xs ∧ Sl w' w.heap.size w'.heap.size a k ∧ Sl w' w.heap.size w'.heap.size a' k'

/-- In the midst of the draw. -/
structure DM (w : World) (br b7 : Nat) (xs : List Int) (A : Option Addr) (C : Nat) (s v : Int) (a : Option Addr) (c : Nat) (k : Fo) (p : Nat) (wn : World) : Prop where
  brE : br = w.heap.size + 2
  rd : Rd wn br p
  low : Below (w.heap.size + 2) ((w.alloc (.cells #[.int .i64 0, .int .i64 0, .slice none 0 0] 26)).alloc (.cells #[.int .i64 0, .int .i64 0, .slice none 0 0] 26)) wn
  rank : ISc wn (br + 1) wn.heap.size A C xs
  one : Sl wn (br + 1) wn.heap.size a k
  lt7 : br < b7
  s7 : b7 < wn.heap.size
  c0 : wn.cell? ⟨b7, 0, none⟩ = some (.int .i64 s)
  c1 : wn.cell? ⟨b7, 1, none⟩ = some (.int .i64 v)
  c2 : wn.cell? ⟨b7, 2, none⟩ = some (.slice a (flen k) c)
section
variable {w : World} {br b7 : Nat} {xs : List Int} {A : Option Addr} {C : Nat} {s v : Int} {a : Option Addr} {c : Nat} {k : Fo} {p : Nat} {wn wm : World}
theorem DM.adv (h : DM w br b7 xs A C s v a c k p wn) {p' : Nat} (ha : Adv wn br p' wm) : DM w br b7 xs A C s v a c k p' wm := by
  have hb := h.lt7
  have hs := ha.size
  have hl := h.s7
  have hlow := h.low.size
  simp at hlow
  exact ⟨h.brE, ha.rd h.rd, adv_low h.low (by have := h.brE; omega) (by omega) ha, (h.rank.same (ha.same (Nat.le_refl _) (.inl (by omega)))).mono (Nat.le_refl _) hs, h.one.adv ha (by omega), hb, by omega, ha.cell h.c0 (by simp only; omega), ha.cell h.c1 (by simp only; omega), ha.cell h.c2 (by simp only; omega)⟩
theorem DM.below (h : DM w br b7 xs A C s v a c k p wn) (hb : Below wn.heap.size wn wm) : DM w br b7 xs A C s v a c k p wm := h.adv (Adv.start h.rd hb)
theorem DM.seen (h : DM w br b7 xs A C s v a c k p wn) : ∃ u : SeenC (cells3 b7 s v (.slice a (flen k) c)), wn = u.world := seen3 h.c0 h.c1 h.c2
/-- The end: both boxes of the results are written. -/
theorem dom_end (h : DM w br b7 xs A C s v a c k p wn) (hx : xs.length = 4) (hS : 1 + fsz k ≤ 31000) {s' v' : Int} {a' : Option Addr} {c' : Nat} {k' : Fo} (hS' : 1 + fsz k' ≤ 31000) (hl' : Sl wn (br + 1) wn.heap.size a' k') (p q r p' q' r' : Value) :
    DomPost w (.returned (.tuple #[.slice A xs.length C, .agg #[.int .i64 s, .int .i64 v, .slice a (flen k) c], .agg #[.int .i64 s', .int .i64 v', .slice a' (flen k') c']])) ((((((wn.setCell ⟨w.heap.size, 0, none⟩ p).setCell ⟨w.heap.size, 1, none⟩ q).setCell ⟨w.heap.size, 2, none⟩ r).setCell ⟨w.heap.size + 1, 0, none⟩ p').setCell ⟨w.heap.size + 1, 1, none⟩ q').setCell ⟨w.heap.size + 1, 2, none⟩ r') := by
  have hs : Same (w.heap.size + 2) wn.heap.size wn ((((((wn.setCell ⟨w.heap.size, 0, none⟩ p).setCell ⟨w.heap.size, 1, none⟩ q).setCell ⟨w.heap.size, 2, none⟩ r).setCell ⟨w.heap.size + 1, 0, none⟩ p').setCell ⟨w.heap.size + 1, 1, none⟩ q').setCell ⟨w.heap.size + 1, 2, none⟩ r') :=
    ((((((Same.setCell (fun _ _ _ => rfl) (.inl (by simp)) _).setCell (.inl (by simp)) _).setCell (.inl (by simp)) _).setCell (.inl (by simp)) _).setCell (.inl (by simp)) _).setCell (.inl (by simp)) _)
  have hb' : Below w.heap.size w wn := (((Below.refl _ _).alloc (Nat.le_refl _) (.cells #[.int .i64 0, .int .i64 0, .slice none 0 0] 26)).alloc (by simp) (.cells #[.int .i64 0, .int .i64 0, .slice none 0 0] 26)).trans (h.low.mono (by omega))
  have e := h.brE
  exact ⟨xs, A, C, s, v, a, c, k, s', v', a', c', k', rfl, hx, hS, hS', (((((hb'.setCell (Nat.le_refl _) _).setCell (Nat.le_refl _) _).setCell (Nat.le_refl _) _).setCell (by simp) _).setCell (by simp) _).setCell (by simp) _, ((h.rank.mono (lo' := w.heap.size + 2) (by omega) (Nat.le_refl _)).same hs).mono (by omega) (by simp), ((h.one.mono (lo' := w.heap.size + 2) (by omega) (Nat.le_refl _)).same hs).mono (by omega) (by simp), ((hl'.mono (lo' := w.heap.size + 2) (by omega) (Nat.le_refl _)).same hs).mono (by omega) (by simp)⟩
end

theorem tb_cellsJ {w w' : World} {x y z x' y' z' : Value} {T T' : TypeId} (h : Below (w.heap.size + 2) ((w.alloc (.cells #[x, y, z] T)).alloc (.cells #[x', y', z'] T')) w') :
    w'.cell? ⟨w.heap.size, 0, none⟩ = some x ∧ w'.cell? ⟨w.heap.size, 1, none⟩ = some y ∧ w'.cell? ⟨w.heap.size, 2, none⟩ = some z ∧
      w'.cell? ⟨w.heap.size + 1, 0, none⟩ = some x' ∧ w'.cell? ⟨w.heap.size + 1, 1, none⟩ = some y' ∧ w'.cell? ⟨w.heap.size + 1, 2, none⟩ = some z' := by
  refine ⟨?_, ?_, ?_, ?_, ?_, ?_⟩
  · rw [h.cell (by simp), World.cell?_alloc_lt _ _ _ (by simp), World.cell?_alloc_at _ _ _ _ (by simp)]; rfl
  · rw [h.cell (by simp), World.cell?_alloc_lt _ _ _ (by simp), World.cell?_alloc_at _ _ _ _ (by simp)]; rfl
  · rw [h.cell (by simp), World.cell?_alloc_lt _ _ _ (by simp), World.cell?_alloc_at _ _ _ _ (by simp)]; rfl
  · rw [h.cell (by simp), World.cell?_alloc_at _ _ _ _ (by simp)]; rfl
  · rw [h.cell (by simp), World.cell?_alloc_at _ _ _ _ (by simp)]; rfl
  · rw [h.cell (by simp), World.cell?_alloc_at _ _ _ _ (by simp)]; rfl
theorem tb_freeJ {w w' : World} {o o' : Obj} (h : Below (w.heap.size + 2) ((w.alloc o).alloc o') w') (j : Nat) {c c' : Array Value} {T T' : TypeId} (ho : o = .cells c T) (ho' : o' = .cells c' T') :
    w'.frozen? ⟨w.heap.size, j, none⟩ = false ∧ w'.frozen? ⟨w.heap.size + 1, j, none⟩ = false := by
  subst ho
  subst ho'
  constructor
  · rw [h.frozen (by simp), World.frozen?_alloc_past _ _ _ (by simp), World.frozen?_alloc_at _ _ _ _ (by simp)]
  · rw [h.frozen (by simp), World.frozen?_alloc_at _ _ _ _ (by simp)]

theorem seen_drew {l : List (Addr × Value)} {w : World} (h : ∀ p, p ∈ l → w.cell? p.1 = some p.2) : ∃ u : SeenC l, w.drew = u.world := ⟨⟨w.drew, h⟩, rfl⟩
theorem dom_drew {w X : World} {e : Ending} (h : DomPost w e X) : DomPost w e X.drew := by
  obtain ⟨xs, A, C, s, v, a, c, k, s', v', a', c', k', h1, h2, h3, h4, h5, h6, h7, h8⟩ := h
  have hd : Below X.heap.size X X.drew := (Below.refl _ _).drew
  exact ⟨xs, A, C, s, v, a, c, k, s', v', a', c', k', h1, h2, h3, h4, h5.drew, ⟨h6.1.below hd, h6.2⟩, h7.below hd, h8.below hd⟩
def cells6 (b : Nat) (x y z : Value) (b' : Nat) (x' y' z' : Value) : List (Addr × Value) := [(⟨b, 0, none⟩, x), (⟨b, 1, none⟩, y), (⟨b, 2, none⟩, z), (⟨b', 0, none⟩, x'), (⟨b', 1, none⟩, y'), (⟨b', 2, none⟩, z')]
theorem at6 {w : World} {b : Nat} {x y z : Value} {b' : Nat} {x' y' z' : Value} (h0 : w.cell? ⟨b, 0, none⟩ = some x) (h1 : w.cell? ⟨b, 1, none⟩ = some y) (h2 : w.cell? ⟨b, 2, none⟩ = some z) (h3 : w.cell? ⟨b', 0, none⟩ = some x') (h4 : w.cell? ⟨b', 1, none⟩ = some y') (h5 : w.cell? ⟨b', 2, none⟩ = some z') :
    ∀ p, p ∈ cells6 b x y z b' x' y' z' → w.cell? p.1 = some p.2 := fun q hq => by
  simp only [cells6, List.mem_cons, List.not_mem_nil, or_false] at hq
  rcases hq with rfl | rfl | rfl | rfl | rfl | rfl
  · exact h0
  · exact h1
  · exact h2
  · exact h3
  · exact h4
  · exact h5
theorem blk6 {b : Nat} {x y z : Value} {b' : Nat} {x' y' z' : Value} {n : Nat} (h : b ≠ n) (h' : b' ≠ n) : ∀ p, p ∈ cells6 b x y z b' x' y' z' → p.1.block ≠ n := fun q hq => by
  simp only [cells6, List.mem_cons, List.not_mem_nil, or_false] at hq
  rcases hq with rfl | rfl | rfl | rfl | rfl | rfl <;> assumption
theorem at3 {w : World} {p : Nat} {s v : Int} {y : Value} (h0 : w.cell? ⟨p, 0, none⟩ = some (.int .i64 s)) (h1 : w.cell? ⟨p, 1, none⟩ = some (.int .i64 v)) (h2 : w.cell? ⟨p, 2, none⟩ = some y) : ∀ q, q ∈ cells3 p s v y → w.cell? q.1 = some q.2 := fun q hq => by
  simp only [cells3, List.mem_cons, List.not_mem_nil, or_false] at hq
  rcases hq with rfl | rfl | rfl
  · exact h0
  · exact h1
  · exact h2
theorem blk3 {p : Nat} {s v : Int} {y : Value} {n : Nat} (h : p ≠ n) : ∀ q, q ∈ cells3 p s v y → q.1.block ≠ n := fun q hq => by
  simp only [cells3, List.mem_cons, List.not_mem_nil, or_false] at hq
  rcases hq with rfl | rfl | rfl <;> assumption
theorem seen_of {l : List (Addr × Value)} {w : World} (h : ∀ p, p ∈ l → w.cell? p.1 = some p.2) : ∃ u : SeenC l, w = u.world := ⟨⟨w, h⟩, rfl⟩
theorem Zb.adv {b br p : Nat} {wn wm : World} (h : Zb b wn) (ha : Adv wn br p wm) (hb : b ≠ br) : Zb b wm :=
  ⟨Nat.lt_of_lt_of_le h.lt ha.size, ha.cell h.z0 hb, ha.cell h.z1 hb, ha.cell h.z2 hb, fun o => (ha.frozen h.lt).trans (h.f o)⟩
theorem store6 {w : World} {l : List (Addr × Value)} (h : ∀ p, p ∈ l → w.cell? p.1 = some p.2) {n : Nat} (hn : ∀ p, p ∈ l → p.1.block ≠ n) (x y z : Value) : ∀ p, p ∈ l → (((w.setCell ⟨n, 0, none⟩ x).setCell ⟨n, 1, none⟩ y).setCell ⟨n, 2, none⟩ z).cell? p.1 = some p.2 :=
  seen_set (seen_set (seen_set h hn _ _) hn _ _) hn _ _

set_option maxRecDepth 100000 in
set_option maxHeartbeats 1600000 in
theorem DrawOrderMore_any (a0 : Option Addr) (len cap : Nat) (w : World) (hby : Bytes w a0 len) (hlen : len ≤ cap) :
    Calls Tryz.prog 4 #[.slice a0 len cap] w (DomPost w) := by
  have HBY := Lib.hid hby
  clear hby
  go_enter Tryz.func4, Tryz.ntmps4
  go_wp2_with fail
  with_reducible refine (l6Open_any a0 len cap _ ((HBY.out.alloc _).alloc _) hlen).mono ?_
  rintro e w1 ⟨rfl, hb1, hrd⟩
  have hs1 := hb1.size
  simp at hs1
  simp only [World.size_alloc] at hrd
  have HRD := Lib.hid hrd
  have HB1 : Hid (Below (w.heap.size + 2) ((w.alloc (.cells #[.int .i64 0, .int .i64 0, .slice none 0 0] 26)).alloc (.cells #[.int .i64 0, .int .i64 0, .slice none 0 0] 26)) w1) := hb1.mono (by simp)
  clear hb1 hrd
  simp only [World.size_alloc]
  obtain ⟨br, hbrE⟩ : ∃ br, w.heap.size + 1 + 1 = br := ⟨_, rfl⟩
  rw [hbrE]
  rw [hbrE] at HRD
  have HBR : Hid (br = w.heap.size + 2) := hbrE.symm
  clear hbrE
  go_wp2_with fail
  with_reducible refine (l71Rank_any br 0 _ HRD.out (by omega)).mono ?_
  rintro e w2 ⟨xs, A, C, p1, rfl, hx4, _, hp1, ha1, hio⟩
  have HX4 := Lib.hid hx4
  have HR1 := Lib.hid (ha1.rd HRD.out)
  have hlt1 := HRD.out.lt
  have hbrE := HBR.out
  have hs12 := ha1.size
  have HB2 := Lib.hid (adv_low HB1.out (by omega) (by omega) ha1)
  have HI2 : Hid (ISc w2 (br + 1) w2.heap.size A C xs) := (isc_of_own hio).mono (by omega) (Nat.le_refl _)
  clear ha1 hio hx4 hbrE
  go_wp2_with fail
  with_reducible refine (l71Some_any br p1 _ HR1.out (by omega)).mono ?_
  rintro e w3 ⟨s, v, a, c, k, p2, rfl, _, hp2, hS, ha2, hl2⟩
  have HD : Hid (DM w br w3.heap.size xs A C s v a c k p2 (w3.alloc (.cells #[.int .i64 s, .int .i64 v, .slice a (flen k) c] 26))) := by
    have hlt2 := HR1.out.lt
    have hbrE := HBR.out
    have hs23 := ha2.size
    have hba : Below w3.heap.size w3 (w3.alloc (.cells #[.int .i64 s, .int .i64 v, .slice a (flen k) c] 26)) := (Below.refl _ _).alloc (Nat.le_refl _) _
    refine ⟨hbrE, (ha2.rd HR1.out).alloc _, (adv_low HB2.out (by omega) (by omega) ha2).alloc (by omega) _, ?_, ?_, by omega, by simp, ?_, ?_, ?_⟩
    · have h1 := (HI2.out.same (ha2.same (Nat.le_refl _) (.inl (by omega)))).mono (Nat.le_refl _) hs23
      exact ⟨(h1.1.below hba).mono (Nat.le_refl _) hba.size, h1.2⟩
    · exact (hl2.mono (lo' := br + 1) (by omega) (Nat.le_refl _)).low hba
    iterate 3
      rw [World.cell?_alloc_at _ _ _ _ rfl]; rfl
  have hp3 : p2 ≤ 300 := by omega
  clear ha2 hl2 HB1 HB2 HI2 HR1
  go_wp2_with fail
  generalize (w3.alloc (.cells #[.int .i64 s, .int .i64 v, .slice a (flen k) c] 26)) = w3b at *
  with_reducible refine (pick_any 2 br p2 _ HD.out.rd (by omega) (by omega) (by omega)).mono ?_
  rintro e w4 ⟨y, rfl, hy, hb4⟩
  have HD4 : Hid (DM w br w3.heap.size xs A C s v a c k (p2 + 1) w4) := HD.out.adv hb4
  clear hb4 hy HD
  by_cases hy0 : y = 0
  · subst hy0
    have hc0 := HD4.out.c0
    have hc1 := HD4.out.c1
    have hc2 := HD4.out.c2
    go_wp2_with fail
    with_reducible refine (l71Place_any br (p2 + 1) s v a c k _ HD4.out.rd (by omega) HD4.out.one).mono ?_
    rintro e w5 ⟨A5, C5, place, p5, rfl, _, hp5, hpl, ha5, hi5⟩
    have HD5 := Lib.hid (HD4.out.adv ha5)
    have HI5 : Hid (ISl w5 0 w5.heap.size A5 place) := hi5.1.mono (Nat.zero_le _) (Nat.le_refl _)
    clear ha5 hi5 hc0 hc1 hc2
    have hc0 := HD5.out.c0
    have hc1 := HD5.out.c1
    have hc2 := HD5.out.c2
    go_wp2_with fail
    with_reducible refine (sTermAt_any s v a c k A5 C5 place _ (HD5.out.one.mono (Nat.zero_le _) (Nat.le_refl _)) HI5.out (by omega)).mono ?_
    rintro e w6 ⟨a6, c6, s6, v6, k6, t, hR, rfl, hb6, hl6⟩
    have hba : Below w6.heap.size w6 (w6.alloc (.cells #[.int .i64 s6, .int .i64 v6, .slice a6 (flen k6) c6] 26)) := (Below.refl _ _).alloc (Nat.le_refl _) _
    have HD6 := Lib.hid ((HD5.out.below hb6).below hba)
    have hS6 : 1 + fsz k6 ≤ 31000 := by have := atR_sz hR; omega
    have hsz6 := hb6.size
    have HL6 : Hid (Sl (w6.alloc (.cells #[.int .i64 s6, .int .i64 v6, .slice a6 (flen k6) c6] 26)) (br + 1) (w6.alloc (.cells #[.int .i64 s6, .int .i64 v6, .slice a6 (flen k6) c6] 26)).heap.size a6 k6) := (hl6.mono (lo' := br + 1) (by have := HD5.out.rd.lt; omega) (Nat.le_refl _)).low hba
    have hbig6 : br < w6.heap.size := Nat.lt_of_lt_of_le HD5.out.rd.lt hsz6
    have hq0 : (w6.alloc (.cells #[.int .i64 s6, .int .i64 v6, .slice a6 (flen k6) c6] 26)).cell? ⟨w6.heap.size, 0, none⟩ = some (.int .i64 s6) := by rw [World.cell?_alloc_at _ _ _ _ rfl]; rfl
    have hq1 : (w6.alloc (.cells #[.int .i64 s6, .int .i64 v6, .slice a6 (flen k6) c6] 26)).cell? ⟨w6.heap.size, 1, none⟩ = some (.int .i64 v6) := by rw [World.cell?_alloc_at _ _ _ _ rfl]; rfl
    have hq2 : (w6.alloc (.cells #[.int .i64 s6, .int .i64 v6, .slice a6 (flen k6) c6] 26)).cell? ⟨w6.heap.size, 2, none⟩ = some (.slice a6 (flen k6) c6) := by rw [World.cell?_alloc_at _ _ _ _ rfl]; rfl
    clear hb6 hl6 hc0 hc1 hc2 hba HD5 HD4 hR
    cases ht : t with
    | true =>
      subst ht
      by_cases hpos : 0 < place.length
      · have g0 : (0 : Int) < (place.length : Int) := by omega
        go_wp2_with fail
        generalize (w6.alloc (.cells #[.int .i64 s6, .int .i64 v6, .slice a6 (flen k6) c6] 26)) = w7 at *
        have hbb := HD6.out.brE
        have hb7 := HD6.out.lt7
        have HAT := Lib.hid (at6 HD6.out.c0 HD6.out.c1 HD6.out.c2 hq0 hq1 hq2)
        have HN0 : Hid (∀ p, p ∈ (cells6 w3.heap.size (.int .i64 s) (.int .i64 v) (.slice a (flen k) c) w6.heap.size (.int .i64 s6) (.int .i64 v6) (.slice a6 (flen k6) c6)) → p.1.block ≠ w.heap.size) := blk6 (by omega) (by omega)
        have HN1 : Hid (∀ p, p ∈ (cells6 w3.heap.size (.int .i64 s) (.int .i64 v) (.slice a (flen k) c) w6.heap.size (.int .i64 s6) (.int .i64 v6) (.slice a6 (flen k6) c6)) → p.1.block ≠ w.heap.size + 1) := blk6 (by omega) (by omega)
        obtain ⟨hr0, hr1, hr2, hr3, hr4, hr5⟩ := tb_cellsJ HD6.out.low
        obtain ⟨hf0, hf3⟩ := tb_freeJ HD6.out.low 0 rfl rfl
        obtain ⟨hf1, hf4⟩ := tb_freeJ HD6.out.low 1 rfl rfl
        obtain ⟨hf2, hf5⟩ := tb_freeJ HD6.out.low 2 rfl rfl
        have hu0 : ∀ u : SeenC (cells6 w3.heap.size (.int .i64 s) (.int .i64 v) (.slice a (flen k) c) w6.heap.size (.int .i64 s6) (.int .i64 v6) (.slice a6 (flen k6) c6)), u.world.cell? ⟨w3.heap.size, 0, none⟩ = some (.int .i64 s) := fun u => u.at_ (_, _) (by simp [cells6])
        have hu1 : ∀ u : SeenC (cells6 w3.heap.size (.int .i64 s) (.int .i64 v) (.slice a (flen k) c) w6.heap.size (.int .i64 s6) (.int .i64 v6) (.slice a6 (flen k6) c6)), u.world.cell? ⟨w3.heap.size, 1, none⟩ = some (.int .i64 v) := fun u => u.at_ (_, _) (by simp [cells6])
        have hu2 : ∀ u : SeenC (cells6 w3.heap.size (.int .i64 s) (.int .i64 v) (.slice a (flen k) c) w6.heap.size (.int .i64 s6) (.int .i64 v6) (.slice a6 (flen k6) c6)), u.world.cell? ⟨w3.heap.size, 2, none⟩ = some (.slice a (flen k) c) := fun u => u.at_ (_, _) (by simp [cells6])
        have hu3 : ∀ u : SeenC (cells6 w3.heap.size (.int .i64 s) (.int .i64 v) (.slice a (flen k) c) w6.heap.size (.int .i64 s6) (.int .i64 v6) (.slice a6 (flen k6) c6)), u.world.cell? ⟨w6.heap.size, 0, none⟩ = some (.int .i64 s6) := fun u => u.at_ (_, _) (by simp [cells6])
        have hu4 : ∀ u : SeenC (cells6 w3.heap.size (.int .i64 s) (.int .i64 v) (.slice a (flen k) c) w6.heap.size (.int .i64 s6) (.int .i64 v6) (.slice a6 (flen k6) c6)), u.world.cell? ⟨w6.heap.size, 1, none⟩ = some (.int .i64 v6) := fun u => u.at_ (_, _) (by simp [cells6])
        have hu5 : ∀ u : SeenC (cells6 w3.heap.size (.int .i64 s) (.int .i64 v) (.slice a (flen k) c) w6.heap.size (.int .i64 s6) (.int .i64 v6) (.slice a6 (flen k6) c6)), u.world.cell? ⟨w6.heap.size, 2, none⟩ = some (.slice a6 (flen k6) c6) := fun u => u.at_ (_, _) (by simp [cells6])
        haveI : Nonempty (SeenC (cells6 w3.heap.size (.int .i64 s) (.int .i64 v) (.slice a (flen k) c) w6.heap.size (.int .i64 s6) (.int .i64 v6) (.slice a6 (flen k6) c6))) := ⟨⟨_, HAT.out⟩⟩
        clear hq0 hq1 hq2 hbb hb7
        refine wp_region_mix (fun w' => ∃ u : SeenC (cells6 w3.heap.size (.int .i64 s) (.int .i64 v) (.slice a (flen k) c) w6.heap.size (.int .i64 s6) (.int .i64 v6) (.slice a6 (flen k6) c6)), w' = u.world) [] [(0, 0), (1, 0), (2, 0), (3, 1), (4, 1), (5, 1)] (by kernel_rfl) (by kernel_rfl) (seen_drew HAT.out) ?_
        iterate 3
          refine mix_see rfl (fun K hK => ?_)
          go_simp
          refine hK _ ?_
          clear hK K
        clear hu0 hu1 hu2 hu3 hu4 hu5
        refine mix_hold rfl (fun K hK => ?_)
        go_simp
        refine hK _ _ (seen_drew HAT.out) ?_
        clear hK K
        refine mix_hold rfl (fun K hK => ?_)
        go_simp
        refine hK _ _ (seen_drew (store6 HAT.out HN0.out _ _ _)) ?_
        clear hK K
        refine mix_hold rfl (fun K hK => ?_)
        go_simp
        refine hK _ _ (seen_drew (store6 (store6 HAT.out HN0.out _ _ _) HN1.out _ _ _)) ?_
        clear hK K
        refine mix_end ?_
        go_wp2_with fail
        refine bodyPost_ret (v := .tuple #[.slice A xs.length C, .agg #[.int .i64 s, .int .i64 v, .slice a (flen k) c], .agg #[.int .i64 s6, .int .i64 v6, .slice a6 (flen k6) c6]]) ?_ rfl (dom_drew (dom_end HD6.out HX4.out hS hS6 HL6.out _ _ _ _ _ _))
        simp [results, Tryz.results4, go_sem, hr0, hr1, hr2, hr3, hr4, hr5]
      · have g0 : (place.length : Int) ≤ 0 := by omega
        go_wp2_with fail
        generalize (w6.alloc (.cells #[.int .i64 s6, .int .i64 v6, .slice a6 (flen k6) c6] 26)) = w7 at *
        have HD7 := Lib.hid (HD6.out.below (Below.refl _ _).drew)
        have hu0 : ∀ u : SeenC (cells3 w3.heap.size s v (.slice a (flen k) c)), u.world.cell? ⟨w3.heap.size, 0, none⟩ = some (.int .i64 s) := fun u => u.at_ (_, _) (by simp [cells3])
        have hu1 : ∀ u : SeenC (cells3 w3.heap.size s v (.slice a (flen k) c)), u.world.cell? ⟨w3.heap.size, 1, none⟩ = some (.int .i64 v) := fun u => u.at_ (_, _) (by simp [cells3])
        have hu2 : ∀ u : SeenC (cells3 w3.heap.size s v (.slice a (flen k) c)), u.world.cell? ⟨w3.heap.size, 2, none⟩ = some (.slice a (flen k) c) := fun u => u.at_ (_, _) (by simp [cells3])
        haveI : Nonempty (SeenC (cells3 w3.heap.size s v (.slice a (flen k) c))) := ⟨HD7.out.seen.choose⟩
        clear hq0 hq1 hq2
        refine wp_region_mix (fun w' => ∃ u : SeenC (cells3 w3.heap.size s v (.slice a (flen k) c)), w' = u.world) [] [(0, 0), (1, 0), (2, 0), (3, 1), (4, 1), (5, 1), (6, 1)] (by kernel_rfl) (by kernel_rfl) HD7.out.seen ?_
        iterate 3
          refine mix_see rfl (fun K hK => ?_)
          go_simp
          refine hK _ ?_
          clear hK K
        clear hu0 hu1 hu2
        refine mix_hold rfl (fun K hK => ?_)
        go_simp
        with_reducible refine (l71Some_any br p5 _ HD7.out.rd (by omega)).mono ?_
        rintro e w8 ⟨s8, v8, a8, c8, k8, p8, rfl, _, hp8, hS8, ha8, hl8⟩
        have HD8 := Lib.hid (HD7.out.adv ha8)
        have HL8 : Hid (Sl w8 (br + 1) w8.heap.size a8 k8) := hl8.mono (by have := HD7.out.rd.lt; omega) (Nat.le_refl _)
        have hbb := HD8.out.brE
        have hb7 := HD8.out.lt7
        have HAT := Lib.hid (at3 HD8.out.c0 HD8.out.c1 HD8.out.c2)
        have HN0 : Hid (∀ p, p ∈ (cells3 w3.heap.size s v (.slice a (flen k) c)) → p.1.block ≠ w.heap.size) := blk3 (by omega)
        have HN1 : Hid (∀ p, p ∈ (cells3 w3.heap.size s v (.slice a (flen k) c)) → p.1.block ≠ w.heap.size + 1) := blk3 (by omega)
        obtain ⟨hr0, hr1, hr2, hr3, hr4, hr5⟩ := tb_cellsJ HD8.out.low
        obtain ⟨hf0, hf3⟩ := tb_freeJ HD8.out.low 0 rfl rfl
        obtain ⟨hf1, hf4⟩ := tb_freeJ HD8.out.low 1 rfl rfl
        obtain ⟨hf2, hf5⟩ := tb_freeJ HD8.out.low 2 rfl rfl
        refine hK _ _ (seen_of HAT.out) ?_
        clear hK K ha8 hl8 hbb hb7
        refine mix_hold rfl (fun K hK => ?_)
        go_simp
        refine hK _ _ (seen_of HAT.out) ?_
        clear hK K
        refine mix_hold rfl (fun K hK => ?_)
        go_simp
        refine hK _ _ (seen_of (store6 HAT.out HN0.out _ _ _)) ?_
        clear hK K
        refine mix_hold rfl (fun K hK => ?_)
        go_simp
        refine hK _ _ (seen_of (store6 (store6 HAT.out HN0.out _ _ _) HN1.out _ _ _)) ?_
        clear hK K
        refine mix_end ?_
        go_wp2_with fail
        refine bodyPost_ret (v := .tuple #[.slice A xs.length C, .agg #[.int .i64 s, .int .i64 v, .slice a (flen k) c], .agg #[.int .i64 s8, .int .i64 v8, .slice a8 (flen k8) c8]]) ?_ rfl (dom_end HD8.out HX4.out hS hS8 HL8.out _ _ _ _ _ _)
        simp [results, Tryz.results4, go_sem, hr0, hr1, hr2, hr3, hr4, hr5]
    | false =>
      subst ht
      go_wp2_with fail
      generalize (w6.alloc (.cells #[.int .i64 s6, .int .i64 v6, .slice a6 (flen k6) c6] 26)) = w7 at *
      have HD7 := Lib.hid (HD6.out.below (Below.refl _ _).drew)
      have hu0 : ∀ u : SeenC (cells3 w3.heap.size s v (.slice a (flen k) c)), u.world.cell? ⟨w3.heap.size, 0, none⟩ = some (.int .i64 s) := fun u => u.at_ (_, _) (by simp [cells3])
      have hu1 : ∀ u : SeenC (cells3 w3.heap.size s v (.slice a (flen k) c)), u.world.cell? ⟨w3.heap.size, 1, none⟩ = some (.int .i64 v) := fun u => u.at_ (_, _) (by simp [cells3])
      have hu2 : ∀ u : SeenC (cells3 w3.heap.size s v (.slice a (flen k) c)), u.world.cell? ⟨w3.heap.size, 2, none⟩ = some (.slice a (flen k) c) := fun u => u.at_ (_, _) (by simp [cells3])
      haveI : Nonempty (SeenC (cells3 w3.heap.size s v (.slice a (flen k) c))) := ⟨HD7.out.seen.choose⟩
      clear hq0 hq1 hq2
      refine wp_region_mix (fun w' => ∃ u : SeenC (cells3 w3.heap.size s v (.slice a (flen k) c)), w' = u.world) [] [(0, 0), (1, 0), (2, 0), (3, 1), (4, 1), (5, 1), (6, 1)] (by kernel_rfl) (by kernel_rfl) HD7.out.seen ?_
      iterate 3
        refine mix_see rfl (fun K hK => ?_)
        go_simp
        refine hK _ ?_
        clear hK K
      clear hu0 hu1 hu2
      refine mix_hold rfl (fun K hK => ?_)
      go_simp
      with_reducible refine (l71Some_any br p5 _ HD7.out.rd (by omega)).mono ?_
      rintro e w8 ⟨s8, v8, a8, c8, k8, p8, rfl, _, hp8, hS8, ha8, hl8⟩
      have HD8 := Lib.hid (HD7.out.adv ha8)
      have HL8 : Hid (Sl w8 (br + 1) w8.heap.size a8 k8) := hl8.mono (by have := HD7.out.rd.lt; omega) (Nat.le_refl _)
      have hbb := HD8.out.brE
      have hb7 := HD8.out.lt7
      have HAT := Lib.hid (at3 HD8.out.c0 HD8.out.c1 HD8.out.c2)
      have HN0 : Hid (∀ p, p ∈ (cells3 w3.heap.size s v (.slice a (flen k) c)) → p.1.block ≠ w.heap.size) := blk3 (by omega)
      have HN1 : Hid (∀ p, p ∈ (cells3 w3.heap.size s v (.slice a (flen k) c)) → p.1.block ≠ w.heap.size + 1) := blk3 (by omega)
      obtain ⟨hr0, hr1, hr2, hr3, hr4, hr5⟩ := tb_cellsJ HD8.out.low
      obtain ⟨hf0, hf3⟩ := tb_freeJ HD8.out.low 0 rfl rfl
      obtain ⟨hf1, hf4⟩ := tb_freeJ HD8.out.low 1 rfl rfl
      obtain ⟨hf2, hf5⟩ := tb_freeJ HD8.out.low 2 rfl rfl
      refine hK _ _ (seen_of HAT.out) ?_
      clear hK K ha8 hl8 hbb hb7
      refine mix_hold rfl (fun K hK => ?_)
      go_simp
      refine hK _ _ (seen_of HAT.out) ?_
      clear hK K
      refine mix_hold rfl (fun K hK => ?_)
      go_simp
      refine hK _ _ (seen_of (store6 HAT.out HN0.out _ _ _)) ?_
      clear hK K
      refine mix_hold rfl (fun K hK => ?_)
      go_simp
      refine hK _ _ (seen_of (store6 (store6 HAT.out HN0.out _ _ _) HN1.out _ _ _)) ?_
      clear hK K
      refine mix_end ?_
      go_wp2_with fail
      refine bodyPost_ret (v := .tuple #[.slice A xs.length C, .agg #[.int .i64 s, .int .i64 v, .slice a (flen k) c], .agg #[.int .i64 s8, .int .i64 v8, .slice a8 (flen k8) c8]]) ?_ rfl (dom_end HD8.out HX4.out hS hS8 HL8.out _ _ _ _ _ _)
      simp [results, Tryz.results4, go_sem, hr0, hr1, hr2, hr3, hr4, hr5]
  · have hpk : pkN 2 ≤ 1000 := by decide
    have y0 : ((y : Int) == 0) = false := by simpa using hy0
    have hu0 : ∀ u : SeenC (cells3 w3.heap.size s v (.slice a (flen k) c)), u.world.cell? ⟨w3.heap.size, 0, none⟩ = some (.int .i64 s) := fun u => u.at_ (_, _) (by simp [cells3])
    have hu1 : ∀ u : SeenC (cells3 w3.heap.size s v (.slice a (flen k) c)), u.world.cell? ⟨w3.heap.size, 1, none⟩ = some (.int .i64 v) := fun u => u.at_ (_, _) (by simp [cells3])
    have hu2 : ∀ u : SeenC (cells3 w3.heap.size s v (.slice a (flen k) c)), u.world.cell? ⟨w3.heap.size, 2, none⟩ = some (.slice a (flen k) c) := fun u => u.at_ (_, _) (by simp [cells3])
    haveI : Nonempty (SeenC (cells3 w3.heap.size s v (.slice a (flen k) c))) := ⟨HD4.out.seen.choose⟩
    go_wp2_with fail
    refine wp_region_anyT (fun w' => ∃ u : SeenC (cells3 w3.heap.size s v (.slice a (flen k) c)), w' = u.world) (by kernel_rfl) ?_
    have HDd := Lib.hid (HD4.out.below (Below.refl _ _).drew)
    clear HD4
    generalize w4.drew = wd at *
    have HA : Hid (Adv wd br (p2 + 1) wd) := Adv.start HDd.out.rd (Below.refl _ _)
    have hwd := HDd.out.rd.lt
    refine anyT_look (i := 0) rfl (by kernel_rfl) (HDd.out.adv HA.out).seen (fun K hK => ?_)
    go_simp
    refine hK _ ?_
    clear hK K
    refine anyT_look (i := 1) rfl (by kernel_rfl) (HDd.out.adv HA.out).seen (fun K hK => ?_)
    go_simp
    refine hK _ ?_
    clear hK K
    refine anyT_look (i := 2) rfl (by kernel_rfl) (HDd.out.adv HA.out).seen (fun K hK => ?_)
    go_simp
    refine hK _ ?_
    clear hK K
    refine anyT_look (i := 4) rfl (by kernel_rfl) (HDd.out.adv HA.out).seen (fun K hK => ?_)
    go_simp
    refine hK _ ?_
    clear hK K
    clear hu0 hu1 hu2
    refine anyT_two (i := 3) (j := 10) (by kernel_rfl) rfl rfl (fun K hK => ?_) (fun K hK => ?_)
    · go_simp
      with_reducible refine (l71Place_any br (p2 + 1) s v a c k _ (HDd.out.adv HA.out).rd (by omega) (HDd.out.adv HA.out).one).mono ?_
      rintro e wa ⟨A5, C5, place, p5, rfl, _, hp5, hpl, hax, hi5⟩
      have hcs : br < wd.heap.size := Nat.lt_of_lt_of_le hwd HA.out.size
      have HI : Hid (ISc wa (br + 1) wa.heap.size A5 C5 place) := hi5.mono (by omega) (Nat.le_refl _)
      replace HA := Lib.hid (HA.out.trans hax)
      clear hax
      refine hK _ _ (HDd.out.adv HA.out).seen ?_
      clear hK K hi5 hcs
      refine anyT_two (i := 5) (j := 10) (by kernel_rfl) rfl rfl (fun K hK => ?_) (fun K hK => ?_)
      · go_simp
        with_reducible refine (l71Term_any 2 2 3 br p5 _ (by omega) (by omega) (by omega) (by omega) (by omega) (HDd.out.adv HA.out).rd (by omega)).mono ?_
        rintro e wb ⟨s9, v9, a9, c9, k9, p9, rfl, _, hp9, hS9, hax, hl9⟩
        have hcs : br < wa.heap.size := Nat.lt_of_lt_of_le hwd HA.out.size
        have HL9 : Hid (Sl wb (br + 1) wb.heap.size a9 k9) := hl9.mono (by omega) (Nat.le_refl _)
        replace HA := Lib.hid (HA.out.trans hax)
        replace HI := Lib.hid (show ISc _ (br + 1) _ A5 C5 place from ⟨(HI.out.1.same (hax.same (Nat.le_refl _) (.inl (Nat.lt_succ_self _)))).mono (Nat.le_refl _) hax.size, HI.out.2⟩)
        clear hax
        refine hK _ _ (HDd.out.adv HA.out).seen ?_
        clear hK K hl9 hcs
        refine anyT_two (i := 6) (j := 10) (by kernel_rfl) rfl rfl (fun K hK => ?_) (fun K hK => ?_)
        · go_simp
          with_reducible refine (sTermPut_any s v a c k A5 C5 place s9 v9 a9 c9 k9 _ ((HDd.out.adv HA.out).one.mono (Nat.zero_le _) (Nat.le_refl _)) (HI.out.mono (Nat.zero_le _) (Nat.le_refl _)) (by omega) (HL9.out.mono (Nat.zero_le _) (Nat.le_refl _))).mono ?_
          rintro e wc ⟨aT, cT, sT, vT, kT, t, hR, rfl, hbT, hlT⟩
          have hST : 1 + fsz kT ≤ 31000 := by have := putR_sz hR; omega
          have hlo : br < wb.heap.size := Nat.lt_of_lt_of_le hwd HA.out.size
          have hhi : wb.heap.size ≤ wc.heap.size := hbT.size
          have HLT := Lib.hid hlT
          have hax : Adv wb br p9 wc := Adv.start (HDd.out.adv HA.out).rd hbT
          replace HA := Lib.hid (HA.out.trans hax)
          replace HI := Lib.hid (show ISc _ (br + 1) _ A5 C5 place from ⟨(HI.out.1.same (hax.same (Nat.le_refl _) (.inl (Nat.lt_succ_self _)))).mono (Nat.le_refl _) hax.size, HI.out.2⟩)
          replace HL9 := Lib.hid (HL9.out.adv hax (Nat.lt_succ_self _))
          clear hax
          refine hK _ _ (HDd.out.adv HA.out).seen ?_
          clear hK K hbT hlT hR
          refine anyT_look (i := 7) rfl (by kernel_rfl) (HDd.out.adv HA.out).seen (fun K hK => ?_)
          go_simp
          refine hK _ ?_
          clear hK K
          refine anyT_look (i := 8) rfl (by kernel_rfl) (HDd.out.adv HA.out).seen (fun K hK => ?_)
          go_simp
          refine hK _ ?_
          clear hK K
          refine anyT_look (i := 9) rfl (by kernel_rfl) (HDd.out.adv HA.out).seen (fun K hK => ?_)
          go_simp
          refine hK _ ?_
          clear hK K
          refine anyT_one (i := 10) (by kernel_rfl) rfl (fun K hK => ?_)
          go_simp
          have HZ := Lib.hid (zb_new wc)
          have hbz1 : wd.heap.size ≤ wc.heap.size := HA.out.size
          have hbe : Below wc.heap.size wc (wc.alloc (.cells #[.int .i64 0, .int .i64 0, .slice none 0 0] 26)) := (Below.refl _ _).alloc (Nat.le_refl _) _
          have hax : Adv wc br p9 (wc.alloc (.cells #[.int .i64 0, .int .i64 0, .slice none 0 0] 26)) := Adv.start (HDd.out.adv HA.out).rd hbe
          replace HLT := Lib.hid (HLT.out.below hbe)
          replace HA := Lib.hid (HA.out.trans hax)
          replace HI := Lib.hid (show ISc _ (br + 1) _ A5 C5 place from ⟨(HI.out.1.same (hax.same (Nat.le_refl _) (.inl (Nat.lt_succ_self _)))).mono (Nat.le_refl _) hax.size, HI.out.2⟩)
          replace HL9 := Lib.hid (HL9.out.adv hax (Nat.lt_succ_self _))
          clear hax
          refine hK _ _ (HDd.out.adv HA.out).seen ?_
          clear hK K hbe
          generalize hwz : wc.alloc (.cells #[.int .i64 0, .int .i64 0, .slice none 0 0] 26) = wz at *
          clear hwz
          have hzz0 := HZ.out.z0
          have hzz1 := HZ.out.z1
          have hzz2 := HZ.out.z2
          have hzf0 := HZ.out.f 0
          have hzf1 := HZ.out.f 1
          have hzf2 := HZ.out.f 2
          have HAE : Hid (Adv wd br p9 (((wz.setCell ⟨wc.heap.size, 0, none⟩ (.int .i64 sT)).setCell ⟨wc.heap.size, 1, none⟩ (.int .i64 vT)).setCell ⟨wc.heap.size, 2, none⟩ (.slice aT (flen kT) cT))) := ((HA.out.store hbz1 _).store hbz1 _).store hbz1 _
          have HBX := Lib.hid (box_set HZ.out (.int .i64 sT) (.int .i64 vT) (.slice aT (flen kT) cT))
          have hbz2 : br < wc.heap.size := by omega
          have HLF : Hid (Sl (((wz.setCell ⟨wc.heap.size, 0, none⟩ (.int .i64 sT)).setCell ⟨wc.heap.size, 1, none⟩ (.int .i64 vT)).setCell ⟨wc.heap.size, 2, none⟩ (.slice aT (flen kT) cT)) (br + 1) (((wz.setCell ⟨wc.heap.size, 0, none⟩ (.int .i64 sT)).setCell ⟨wc.heap.size, 1, none⟩ (.int .i64 vT)).setCell ⟨wc.heap.size, 2, none⟩ (.slice aT (flen kT) cT)).heap.size aT kT) := (HLT.out.set3 (.inr (Nat.le_refl _)) _ _ _).mono (by omega) (by have := HZ.out.lt; simp <;> omega)
          refine anyT_one (i := 11) (by kernel_rfl) rfl (fun K hK => ?_)
          go_simp
          refine hK _ _ (HDd.out.adv HAE.out).seen ?_
          clear hK K hzz0 hzz1 hzz2 hzf0 hzf1 hzf2
          refine anyT_one (i := 12) (by kernel_rfl) rfl (fun K hK => ?_)
          go_simp
          refine hK _ _ (HDd.out.adv HAE.out).seen ?_
          clear hK K
          refine anyT_done (by kernel_rfl) ?_
          have HDE := Lib.hid (HDd.out.adv HAE.out)
          clear HA HZ HLT HI HL9 HDd HAE
          generalize (((wz.setCell ⟨wc.heap.size, 0, none⟩ (.int .i64 sT)).setCell ⟨wc.heap.size, 1, none⟩ (.int .i64 vT)).setCell ⟨wc.heap.size, 2, none⟩ (.slice aT (flen kT) cT)) = we at *
          cases ht : t with
          | false =>
            subst ht
            have hq0 := HDE.out.c0
            have hq1 := HDE.out.c1
            have hq2 := HDE.out.c2
            have HLE := Lib.hid HDE.out.one
            have hb7e := HDE.out.lt7
            go_wp2_with fail
            have hbb := HDE.out.brE
            have hb7 := HDE.out.lt7
            have HAT := Lib.hid (at6 HDE.out.c0 HDE.out.c1 HDE.out.c2 hq0 hq1 hq2)
            have HN0 : Hid (∀ p, p ∈ (cells6 w3.heap.size (.int .i64 s) (.int .i64 v) (.slice a (flen k) c) w3.heap.size (.int .i64 s) (.int .i64 v) (.slice a (flen k) c)) → p.1.block ≠ w.heap.size) := blk6 (by omega) (by omega)
            have HN1 : Hid (∀ p, p ∈ (cells6 w3.heap.size (.int .i64 s) (.int .i64 v) (.slice a (flen k) c) w3.heap.size (.int .i64 s) (.int .i64 v) (.slice a (flen k) c)) → p.1.block ≠ w.heap.size + 1) := blk6 (by omega) (by omega)
            obtain ⟨hr0, hr1, hr2, hr3, hr4, hr5⟩ := tb_cellsJ HDE.out.low
            obtain ⟨hf0, hf3⟩ := tb_freeJ HDE.out.low 0 rfl rfl
            obtain ⟨hf1, hf4⟩ := tb_freeJ HDE.out.low 1 rfl rfl
            obtain ⟨hf2, hf5⟩ := tb_freeJ HDE.out.low 2 rfl rfl
            have hu0 : ∀ u : SeenC (cells6 w3.heap.size (.int .i64 s) (.int .i64 v) (.slice a (flen k) c) w3.heap.size (.int .i64 s) (.int .i64 v) (.slice a (flen k) c)), u.world.cell? ⟨w3.heap.size, 0, none⟩ = some (.int .i64 s) := fun u => u.at_ (_, _) (by simp [cells6])
            have hu1 : ∀ u : SeenC (cells6 w3.heap.size (.int .i64 s) (.int .i64 v) (.slice a (flen k) c) w3.heap.size (.int .i64 s) (.int .i64 v) (.slice a (flen k) c)), u.world.cell? ⟨w3.heap.size, 1, none⟩ = some (.int .i64 v) := fun u => u.at_ (_, _) (by simp [cells6])
            have hu2 : ∀ u : SeenC (cells6 w3.heap.size (.int .i64 s) (.int .i64 v) (.slice a (flen k) c) w3.heap.size (.int .i64 s) (.int .i64 v) (.slice a (flen k) c)), u.world.cell? ⟨w3.heap.size, 2, none⟩ = some (.slice a (flen k) c) := fun u => u.at_ (_, _) (by simp [cells6])
            have hu3 : ∀ u : SeenC (cells6 w3.heap.size (.int .i64 s) (.int .i64 v) (.slice a (flen k) c) w3.heap.size (.int .i64 s) (.int .i64 v) (.slice a (flen k) c)), u.world.cell? ⟨w3.heap.size, 0, none⟩ = some (.int .i64 s) := fun u => u.at_ (_, _) (by simp [cells6])
            have hu4 : ∀ u : SeenC (cells6 w3.heap.size (.int .i64 s) (.int .i64 v) (.slice a (flen k) c) w3.heap.size (.int .i64 s) (.int .i64 v) (.slice a (flen k) c)), u.world.cell? ⟨w3.heap.size, 1, none⟩ = some (.int .i64 v) := fun u => u.at_ (_, _) (by simp [cells6])
            have hu5 : ∀ u : SeenC (cells6 w3.heap.size (.int .i64 s) (.int .i64 v) (.slice a (flen k) c) w3.heap.size (.int .i64 s) (.int .i64 v) (.slice a (flen k) c)), u.world.cell? ⟨w3.heap.size, 2, none⟩ = some (.slice a (flen k) c) := fun u => u.at_ (_, _) (by simp [cells6])
            haveI : Nonempty (SeenC (cells6 w3.heap.size (.int .i64 s) (.int .i64 v) (.slice a (flen k) c) w3.heap.size (.int .i64 s) (.int .i64 v) (.slice a (flen k) c))) := ⟨⟨_, HAT.out⟩⟩
            clear hq0 hq1 hq2 hbb hb7
            refine wp_region_mix (fun w' => ∃ u : SeenC (cells6 w3.heap.size (.int .i64 s) (.int .i64 v) (.slice a (flen k) c) w3.heap.size (.int .i64 s) (.int .i64 v) (.slice a (flen k) c)), w' = u.world) [] [(0, 0), (1, 0), (2, 0), (3, 1), (4, 1), (5, 1)] (by kernel_rfl) (by kernel_rfl) (seen_drew HAT.out) ?_
            iterate 3
              refine mix_see rfl (fun K hK => ?_)
              go_simp
              refine hK _ ?_
              clear hK K
            clear hu0 hu1 hu2 hu3 hu4 hu5
            refine mix_hold rfl (fun K hK => ?_)
            go_simp
            refine hK _ _ (seen_drew HAT.out) ?_
            clear hK K
            refine mix_hold rfl (fun K hK => ?_)
            go_simp
            refine hK _ _ (seen_drew (store6 HAT.out HN0.out _ _ _)) ?_
            clear hK K
            refine mix_hold rfl (fun K hK => ?_)
            go_simp
            refine hK _ _ (seen_drew (store6 (store6 HAT.out HN0.out _ _ _) HN1.out _ _ _)) ?_
            clear hK K
            refine mix_end ?_
            go_wp2_with fail
            refine bodyPost_ret (v := .tuple #[.slice A xs.length C, .agg #[.int .i64 s, .int .i64 v, .slice a (flen k) c], .agg #[.int .i64 s, .int .i64 v, .slice a (flen k) c]]) ?_ rfl (dom_drew (dom_end HDE.out HX4.out hS hS HLE.out _ _ _ _ _ _))
            simp [results, Tryz.results4, go_sem, hr0, hr1, hr2, hr3, hr4, hr5]
          | true =>
            subst ht
            obtain ⟨hq0, hq1, hq2⟩ := HBX.out
            go_wp2_with fail
            have hbb := HDE.out.brE
            have hb7 := HDE.out.lt7
            have HAT := Lib.hid (at6 HDE.out.c0 HDE.out.c1 HDE.out.c2 hq0 hq1 hq2)
            have HN0 : Hid (∀ p, p ∈ (cells6 w3.heap.size (.int .i64 s) (.int .i64 v) (.slice a (flen k) c) wc.heap.size (.int .i64 sT) (.int .i64 vT) (.slice aT (flen kT) cT)) → p.1.block ≠ w.heap.size) := blk6 (by omega) (by omega)
            have HN1 : Hid (∀ p, p ∈ (cells6 w3.heap.size (.int .i64 s) (.int .i64 v) (.slice a (flen k) c) wc.heap.size (.int .i64 sT) (.int .i64 vT) (.slice aT (flen kT) cT)) → p.1.block ≠ w.heap.size + 1) := blk6 (by omega) (by omega)
            obtain ⟨hr0, hr1, hr2, hr3, hr4, hr5⟩ := tb_cellsJ HDE.out.low
            obtain ⟨hf0, hf3⟩ := tb_freeJ HDE.out.low 0 rfl rfl
            obtain ⟨hf1, hf4⟩ := tb_freeJ HDE.out.low 1 rfl rfl
            obtain ⟨hf2, hf5⟩ := tb_freeJ HDE.out.low 2 rfl rfl
            have hu0 : ∀ u : SeenC (cells6 w3.heap.size (.int .i64 s) (.int .i64 v) (.slice a (flen k) c) wc.heap.size (.int .i64 sT) (.int .i64 vT) (.slice aT (flen kT) cT)), u.world.cell? ⟨w3.heap.size, 0, none⟩ = some (.int .i64 s) := fun u => u.at_ (_, _) (by simp [cells6])
            have hu1 : ∀ u : SeenC (cells6 w3.heap.size (.int .i64 s) (.int .i64 v) (.slice a (flen k) c) wc.heap.size (.int .i64 sT) (.int .i64 vT) (.slice aT (flen kT) cT)), u.world.cell? ⟨w3.heap.size, 1, none⟩ = some (.int .i64 v) := fun u => u.at_ (_, _) (by simp [cells6])
            have hu2 : ∀ u : SeenC (cells6 w3.heap.size (.int .i64 s) (.int .i64 v) (.slice a (flen k) c) wc.heap.size (.int .i64 sT) (.int .i64 vT) (.slice aT (flen kT) cT)), u.world.cell? ⟨w3.heap.size, 2, none⟩ = some (.slice a (flen k) c) := fun u => u.at_ (_, _) (by simp [cells6])
            have hu3 : ∀ u : SeenC (cells6 w3.heap.size (.int .i64 s) (.int .i64 v) (.slice a (flen k) c) wc.heap.size (.int .i64 sT) (.int .i64 vT) (.slice aT (flen kT) cT)), u.world.cell? ⟨wc.heap.size, 0, none⟩ = some (.int .i64 sT) := fun u => u.at_ (_, _) (by simp [cells6])
            have hu4 : ∀ u : SeenC (cells6 w3.heap.size (.int .i64 s) (.int .i64 v) (.slice a (flen k) c) wc.heap.size (.int .i64 sT) (.int .i64 vT) (.slice aT (flen kT) cT)), u.world.cell? ⟨wc.heap.size, 1, none⟩ = some (.int .i64 vT) := fun u => u.at_ (_, _) (by simp [cells6])
            have hu5 : ∀ u : SeenC (cells6 w3.heap.size (.int .i64 s) (.int .i64 v) (.slice a (flen k) c) wc.heap.size (.int .i64 sT) (.int .i64 vT) (.slice aT (flen kT) cT)), u.world.cell? ⟨wc.heap.size, 2, none⟩ = some (.slice aT (flen kT) cT) := fun u => u.at_ (_, _) (by simp [cells6])
            haveI : Nonempty (SeenC (cells6 w3.heap.size (.int .i64 s) (.int .i64 v) (.slice a (flen k) c) wc.heap.size (.int .i64 sT) (.int .i64 vT) (.slice aT (flen kT) cT))) := ⟨⟨_, HAT.out⟩⟩
            clear hq0 hq1 hq2 hbb hb7
            refine wp_region_mix (fun w' => ∃ u : SeenC (cells6 w3.heap.size (.int .i64 s) (.int .i64 v) (.slice a (flen k) c) wc.heap.size (.int .i64 sT) (.int .i64 vT) (.slice aT (flen kT) cT)), w' = u.world) [] [(0, 0), (1, 0), (2, 0), (3, 1), (4, 1), (5, 1)] (by kernel_rfl) (by kernel_rfl) (seen_drew HAT.out) ?_
            iterate 3
              refine mix_see rfl (fun K hK => ?_)
              go_simp
              refine hK _ ?_
              clear hK K
            clear hu0 hu1 hu2 hu3 hu4 hu5
            refine mix_hold rfl (fun K hK => ?_)
            go_simp
            refine hK _ _ (seen_drew HAT.out) ?_
            clear hK K
            refine mix_hold rfl (fun K hK => ?_)
            go_simp
            refine hK _ _ (seen_drew (store6 HAT.out HN0.out _ _ _)) ?_
            clear hK K
            refine mix_hold rfl (fun K hK => ?_)
            go_simp
            refine hK _ _ (seen_drew (store6 (store6 HAT.out HN0.out _ _ _) HN1.out _ _ _)) ?_
            clear hK K
            refine mix_end ?_
            go_wp2_with fail
            refine bodyPost_ret (v := .tuple #[.slice A xs.length C, .agg #[.int .i64 s, .int .i64 v, .slice a (flen k) c], .agg #[.int .i64 sT, .int .i64 vT, .slice aT (flen kT) cT]]) ?_ rfl (dom_drew (dom_end HDE.out HX4.out hS hST HLF.out _ _ _ _ _ _))
            simp [results, Tryz.results4, go_sem, hr0, hr1, hr2, hr3, hr4, hr5]
        · go_simp
          have HZ := Lib.hid (zb_new wb)
          have hbz1 : wd.heap.size ≤ wb.heap.size := HA.out.size
          have hbe : Below wb.heap.size wb (wb.alloc (.cells #[.int .i64 0, .int .i64 0, .slice none 0 0] 26)) := (Below.refl _ _).alloc (Nat.le_refl _) _
          have hax : Adv wb br p9 (wb.alloc (.cells #[.int .i64 0, .int .i64 0, .slice none 0 0] 26)) := Adv.start (HDd.out.adv HA.out).rd hbe
          replace HA := Lib.hid (HA.out.trans hax)
          replace HI := Lib.hid (show ISc _ (br + 1) _ A5 C5 place from ⟨(HI.out.1.same (hax.same (Nat.le_refl _) (.inl (Nat.lt_succ_self _)))).mono (Nat.le_refl _) hax.size, HI.out.2⟩)
          replace HL9 := Lib.hid (HL9.out.adv hax (Nat.lt_succ_self _))
          clear hax
          refine hK _ _ (HDd.out.adv HA.out).seen ?_
          clear hK K hbe
          generalize hwz : wb.alloc (.cells #[.int .i64 0, .int .i64 0, .slice none 0 0] 26) = wz at *
          clear hwz
          refine anyT_one (i := 6) (by kernel_rfl) rfl (fun K hK => ?_)
          go_simp
          with_reducible refine (sTermPut_any s v a c k A5 C5 place s9 v9 a9 c9 k9 _ ((HDd.out.adv HA.out).one.mono (Nat.zero_le _) (Nat.le_refl _)) (HI.out.mono (Nat.zero_le _) (Nat.le_refl _)) (by omega) (HL9.out.mono (Nat.zero_le _) (Nat.le_refl _))).mono ?_
          rintro e wc ⟨aT, cT, sT, vT, kT, t, hR, rfl, hbT, hlT⟩
          have hST : 1 + fsz kT ≤ 31000 := by have := putR_sz hR; omega
          have hlo : br < wz.heap.size := Nat.lt_of_lt_of_le hwd HA.out.size
          have hhi : wz.heap.size ≤ wc.heap.size := hbT.size
          have hzl : wb.heap.size < wz.heap.size := HZ.out.lt
          have HLT := Lib.hid hlT
          have hax : Adv wz br p9 wc := Adv.start (HDd.out.adv HA.out).rd hbT
          replace HA := Lib.hid (HA.out.trans hax)
          replace HZ := Lib.hid (HZ.out.adv hax (by omega))
          replace HI := Lib.hid (show ISc _ (br + 1) _ A5 C5 place from ⟨(HI.out.1.same (hax.same (Nat.le_refl _) (.inl (Nat.lt_succ_self _)))).mono (Nat.le_refl _) hax.size, HI.out.2⟩)
          replace HL9 := Lib.hid (HL9.out.adv hax (Nat.lt_succ_self _))
          clear hax
          refine hK _ _ (HDd.out.adv HA.out).seen ?_
          clear hK K hbT hlT hR
          refine anyT_look (i := 7) rfl (by kernel_rfl) (HDd.out.adv HA.out).seen (fun K hK => ?_)
          go_simp
          refine hK _ ?_
          clear hK K
          refine anyT_look (i := 8) rfl (by kernel_rfl) (HDd.out.adv HA.out).seen (fun K hK => ?_)
          go_simp
          refine hK _ ?_
          clear hK K
          refine anyT_look (i := 9) rfl (by kernel_rfl) (HDd.out.adv HA.out).seen (fun K hK => ?_)
          go_simp
          refine hK _ ?_
          clear hK K
          have hzz0 := HZ.out.z0
          have hzz1 := HZ.out.z1
          have hzz2 := HZ.out.z2
          have hzf0 := HZ.out.f 0
          have hzf1 := HZ.out.f 1
          have hzf2 := HZ.out.f 2
          have HAE : Hid (Adv wd br p9 (((wc.setCell ⟨wb.heap.size, 0, none⟩ (.int .i64 sT)).setCell ⟨wb.heap.size, 1, none⟩ (.int .i64 vT)).setCell ⟨wb.heap.size, 2, none⟩ (.slice aT (flen kT) cT))) := ((HA.out.store hbz1 _).store hbz1 _).store hbz1 _
          have HBX := Lib.hid (box_set HZ.out (.int .i64 sT) (.int .i64 vT) (.slice aT (flen kT) cT))
          have hbz2 : br < wb.heap.size := by omega
          have HLF : Hid (Sl (((wc.setCell ⟨wb.heap.size, 0, none⟩ (.int .i64 sT)).setCell ⟨wb.heap.size, 1, none⟩ (.int .i64 vT)).setCell ⟨wb.heap.size, 2, none⟩ (.slice aT (flen kT) cT)) (br + 1) (((wc.setCell ⟨wb.heap.size, 0, none⟩ (.int .i64 sT)).setCell ⟨wb.heap.size, 1, none⟩ (.int .i64 vT)).setCell ⟨wb.heap.size, 2, none⟩ (.slice aT (flen kT) cT)).heap.size aT kT) := (HLT.out.set3 (.inl hzl) _ _ _).mono (by omega) (by have := HZ.out.lt; simp <;> omega)
          refine anyT_one (i := 11) (by kernel_rfl) rfl (fun K hK => ?_)
          go_simp
          refine hK _ _ (HDd.out.adv HAE.out).seen ?_
          clear hK K hzz0 hzz1 hzz2 hzf0 hzf1 hzf2
          refine anyT_one (i := 12) (by kernel_rfl) rfl (fun K hK => ?_)
          go_simp
          refine hK _ _ (HDd.out.adv HAE.out).seen ?_
          clear hK K
          refine anyT_done (by kernel_rfl) ?_
          have HDE := Lib.hid (HDd.out.adv HAE.out)
          clear HA HZ HLT HI HL9 HDd HAE
          generalize (((wc.setCell ⟨wb.heap.size, 0, none⟩ (.int .i64 sT)).setCell ⟨wb.heap.size, 1, none⟩ (.int .i64 vT)).setCell ⟨wb.heap.size, 2, none⟩ (.slice aT (flen kT) cT)) = we at *
          cases ht : t with
          | false =>
            subst ht
            have hq0 := HDE.out.c0
            have hq1 := HDE.out.c1
            have hq2 := HDE.out.c2
            have HLE := Lib.hid HDE.out.one
            have hb7e := HDE.out.lt7
            go_wp2_with fail
            have hbb := HDE.out.brE
            have hb7 := HDE.out.lt7
            have HAT := Lib.hid (at6 HDE.out.c0 HDE.out.c1 HDE.out.c2 hq0 hq1 hq2)
            have HN0 : Hid (∀ p, p ∈ (cells6 w3.heap.size (.int .i64 s) (.int .i64 v) (.slice a (flen k) c) w3.heap.size (.int .i64 s) (.int .i64 v) (.slice a (flen k) c)) → p.1.block ≠ w.heap.size) := blk6 (by omega) (by omega)
            have HN1 : Hid (∀ p, p ∈ (cells6 w3.heap.size (.int .i64 s) (.int .i64 v) (.slice a (flen k) c) w3.heap.size (.int .i64 s) (.int .i64 v) (.slice a (flen k) c)) → p.1.block ≠ w.heap.size + 1) := blk6 (by omega) (by omega)
            obtain ⟨hr0, hr1, hr2, hr3, hr4, hr5⟩ := tb_cellsJ HDE.out.low
            obtain ⟨hf0, hf3⟩ := tb_freeJ HDE.out.low 0 rfl rfl
            obtain ⟨hf1, hf4⟩ := tb_freeJ HDE.out.low 1 rfl rfl
            obtain ⟨hf2, hf5⟩ := tb_freeJ HDE.out.low 2 rfl rfl
            have hu0 : ∀ u : SeenC (cells6 w3.heap.size (.int .i64 s) (.int .i64 v) (.slice a (flen k) c) w3.heap.size (.int .i64 s) (.int .i64 v) (.slice a (flen k) c)), u.world.cell? ⟨w3.heap.size, 0, none⟩ = some (.int .i64 s) := fun u => u.at_ (_, _) (by simp [cells6])
            have hu1 : ∀ u : SeenC (cells6 w3.heap.size (.int .i64 s) (.int .i64 v) (.slice a (flen k) c) w3.heap.size (.int .i64 s) (.int .i64 v) (.slice a (flen k) c)), u.world.cell? ⟨w3.heap.size, 1, none⟩ = some (.int .i64 v) := fun u => u.at_ (_, _) (by simp [cells6])
            have hu2 : ∀ u : SeenC (cells6 w3.heap.size (.int .i64 s) (.int .i64 v) (.slice a (flen k) c) w3.heap.size (.int .i64 s) (.int .i64 v) (.slice a (flen k) c)), u.world.cell? ⟨w3.heap.size, 2, none⟩ = some (.slice a (flen k) c) := fun u => u.at_ (_, _) (by simp [cells6])
            have hu3 : ∀ u : SeenC (cells6 w3.heap.size (.int .i64 s) (.int .i64 v) (.slice a (flen k) c) w3.heap.size (.int .i64 s) (.int .i64 v) (.slice a (flen k) c)), u.world.cell? ⟨w3.heap.size, 0, none⟩ = some (.int .i64 s) := fun u => u.at_ (_, _) (by simp [cells6])
            have hu4 : ∀ u : SeenC (cells6 w3.heap.size (.int .i64 s) (.int .i64 v) (.slice a (flen k) c) w3.heap.size (.int .i64 s) (.int .i64 v) (.slice a (flen k) c)), u.world.cell? ⟨w3.heap.size, 1, none⟩ = some (.int .i64 v) := fun u => u.at_ (_, _) (by simp [cells6])
            have hu5 : ∀ u : SeenC (cells6 w3.heap.size (.int .i64 s) (.int .i64 v) (.slice a (flen k) c) w3.heap.size (.int .i64 s) (.int .i64 v) (.slice a (flen k) c)), u.world.cell? ⟨w3.heap.size, 2, none⟩ = some (.slice a (flen k) c) := fun u => u.at_ (_, _) (by simp [cells6])
            haveI : Nonempty (SeenC (cells6 w3.heap.size (.int .i64 s) (.int .i64 v) (.slice a (flen k) c) w3.heap.size (.int .i64 s) (.int .i64 v) (.slice a (flen k) c))) := ⟨⟨_, HAT.out⟩⟩
            clear hq0 hq1 hq2 hbb hb7
            refine wp_region_mix (fun w' => ∃ u : SeenC (cells6 w3.heap.size (.int .i64 s) (.int .i64 v) (.slice a (flen k) c) w3.heap.size (.int .i64 s) (.int .i64 v) (.slice a (flen k) c)), w' = u.world) [] [(0, 0), (1, 0), (2, 0), (3, 1), (4, 1), (5, 1)] (by kernel_rfl) (by kernel_rfl) (seen_drew HAT.out) ?_
            iterate 3
              refine mix_see rfl (fun K hK => ?_)
              go_simp
              refine hK _ ?_
              clear hK K
            clear hu0 hu1 hu2 hu3 hu4 hu5
            refine mix_hold rfl (fun K hK => ?_)
            go_simp
            refine hK _ _ (seen_drew HAT.out) ?_
            clear hK K
            refine mix_hold rfl (fun K hK => ?_)
            go_simp
            refine hK _ _ (seen_drew (store6 HAT.out HN0.out _ _ _)) ?_
            clear hK K
            refine mix_hold rfl (fun K hK => ?_)
            go_simp
            refine hK _ _ (seen_drew (store6 (store6 HAT.out HN0.out _ _ _) HN1.out _ _ _)) ?_
            clear hK K
            refine mix_end ?_
            go_wp2_with fail
            refine bodyPost_ret (v := .tuple #[.slice A xs.length C, .agg #[.int .i64 s, .int .i64 v, .slice a (flen k) c], .agg #[.int .i64 s, .int .i64 v, .slice a (flen k) c]]) ?_ rfl (dom_drew (dom_end HDE.out HX4.out hS hS HLE.out _ _ _ _ _ _))
            simp [results, Tryz.results4, go_sem, hr0, hr1, hr2, hr3, hr4, hr5]
          | true =>
            subst ht
            obtain ⟨hq0, hq1, hq2⟩ := HBX.out
            go_wp2_with fail
            have hbb := HDE.out.brE
            have hb7 := HDE.out.lt7
            have HAT := Lib.hid (at6 HDE.out.c0 HDE.out.c1 HDE.out.c2 hq0 hq1 hq2)
            have HN0 : Hid (∀ p, p ∈ (cells6 w3.heap.size (.int .i64 s) (.int .i64 v) (.slice a (flen k) c) wb.heap.size (.int .i64 sT) (.int .i64 vT) (.slice aT (flen kT) cT)) → p.1.block ≠ w.heap.size) := blk6 (by omega) (by omega)
            have HN1 : Hid (∀ p, p ∈ (cells6 w3.heap.size (.int .i64 s) (.int .i64 v) (.slice a (flen k) c) wb.heap.size (.int .i64 sT) (.int .i64 vT) (.slice aT (flen kT) cT)) → p.1.block ≠ w.heap.size + 1) := blk6 (by omega) (by omega)
            obtain ⟨hr0, hr1, hr2, hr3, hr4, hr5⟩ := tb_cellsJ HDE.out.low
            obtain ⟨hf0, hf3⟩ := tb_freeJ HDE.out.low 0 rfl rfl
            obtain ⟨hf1, hf4⟩ := tb_freeJ HDE.out.low 1 rfl rfl
            obtain ⟨hf2, hf5⟩ := tb_freeJ HDE.out.low 2 rfl rfl
            have hu0 : ∀ u : SeenC (cells6 w3.heap.size (.int .i64 s) (.int .i64 v) (.slice a (flen k) c) wb.heap.size (.int .i64 sT) (.int .i64 vT) (.slice aT (flen kT) cT)), u.world.cell? ⟨w3.heap.size, 0, none⟩ = some (.int .i64 s) := fun u => u.at_ (_, _) (by simp [cells6])
            have hu1 : ∀ u : SeenC (cells6 w3.heap.size (.int .i64 s) (.int .i64 v) (.slice a (flen k) c) wb.heap.size (.int .i64 sT) (.int .i64 vT) (.slice aT (flen kT) cT)), u.world.cell? ⟨w3.heap.size, 1, none⟩ = some (.int .i64 v) := fun u => u.at_ (_, _) (by simp [cells6])
            have hu2 : ∀ u : SeenC (cells6 w3.heap.size (.int .i64 s) (.int .i64 v) (.slice a (flen k) c) wb.heap.size (.int .i64 sT) (.int .i64 vT) (.slice aT (flen kT) cT)), u.world.cell? ⟨w3.heap.size, 2, none⟩ = some (.slice a (flen k) c) := fun u => u.at_ (_, _) (by simp [cells6])
            have hu3 : ∀ u : SeenC (cells6 w3.heap.size (.int .i64 s) (.int .i64 v) (.slice a (flen k) c) wb.heap.size (.int .i64 sT) (.int .i64 vT) (.slice aT (flen kT) cT)), u.world.cell? ⟨wb.heap.size, 0, none⟩ = some (.int .i64 sT) := fun u => u.at_ (_, _) (by simp [cells6])
            have hu4 : ∀ u : SeenC (cells6 w3.heap.size (.int .i64 s) (.int .i64 v) (.slice a (flen k) c) wb.heap.size (.int .i64 sT) (.int .i64 vT) (.slice aT (flen kT) cT)), u.world.cell? ⟨wb.heap.size, 1, none⟩ = some (.int .i64 vT) := fun u => u.at_ (_, _) (by simp [cells6])
            have hu5 : ∀ u : SeenC (cells6 w3.heap.size (.int .i64 s) (.int .i64 v) (.slice a (flen k) c) wb.heap.size (.int .i64 sT) (.int .i64 vT) (.slice aT (flen kT) cT)), u.world.cell? ⟨wb.heap.size, 2, none⟩ = some (.slice aT (flen kT) cT) := fun u => u.at_ (_, _) (by simp [cells6])
            haveI : Nonempty (SeenC (cells6 w3.heap.size (.int .i64 s) (.int .i64 v) (.slice a (flen k) c) wb.heap.size (.int .i64 sT) (.int .i64 vT) (.slice aT (flen kT) cT))) := ⟨⟨_, HAT.out⟩⟩
            clear hq0 hq1 hq2 hbb hb7
            refine wp_region_mix (fun w' => ∃ u : SeenC (cells6 w3.heap.size (.int .i64 s) (.int .i64 v) (.slice a (flen k) c) wb.heap.size (.int .i64 sT) (.int .i64 vT) (.slice aT (flen kT) cT)), w' = u.world) [] [(0, 0), (1, 0), (2, 0), (3, 1), (4, 1), (5, 1)] (by kernel_rfl) (by kernel_rfl) (seen_drew HAT.out) ?_
            iterate 3
              refine mix_see rfl (fun K hK => ?_)
              go_simp
              refine hK _ ?_
              clear hK K
            clear hu0 hu1 hu2 hu3 hu4 hu5
            refine mix_hold rfl (fun K hK => ?_)
            go_simp
            refine hK _ _ (seen_drew HAT.out) ?_
            clear hK K
            refine mix_hold rfl (fun K hK => ?_)
            go_simp
            refine hK _ _ (seen_drew (store6 HAT.out HN0.out _ _ _)) ?_
            clear hK K
            refine mix_hold rfl (fun K hK => ?_)
            go_simp
            refine hK _ _ (seen_drew (store6 (store6 HAT.out HN0.out _ _ _) HN1.out _ _ _)) ?_
            clear hK K
            refine mix_end ?_
            go_wp2_with fail
            refine bodyPost_ret (v := .tuple #[.slice A xs.length C, .agg #[.int .i64 s, .int .i64 v, .slice a (flen k) c], .agg #[.int .i64 sT, .int .i64 vT, .slice aT (flen kT) cT]]) ?_ rfl (dom_drew (dom_end HDE.out HX4.out hS hST HLF.out _ _ _ _ _ _))
            simp [results, Tryz.results4, go_sem, hr0, hr1, hr2, hr3, hr4, hr5]
      · go_simp
        have HZ := Lib.hid (zb_new wa)
        have hbz1 : wd.heap.size ≤ wa.heap.size := HA.out.size
        have hbe : Below wa.heap.size wa (wa.alloc (.cells #[.int .i64 0, .int .i64 0, .slice none 0 0] 26)) := (Below.refl _ _).alloc (Nat.le_refl _) _
        have hax : Adv wa br p5 (wa.alloc (.cells #[.int .i64 0, .int .i64 0, .slice none 0 0] 26)) := Adv.start (HDd.out.adv HA.out).rd hbe
        replace HA := Lib.hid (HA.out.trans hax)
        replace HI := Lib.hid (show ISc _ (br + 1) _ A5 C5 place from ⟨(HI.out.1.same (hax.same (Nat.le_refl _) (.inl (Nat.lt_succ_self _)))).mono (Nat.le_refl _) hax.size, HI.out.2⟩)
        clear hax
        refine hK _ _ (HDd.out.adv HA.out).seen ?_
        clear hK K hbe
        generalize hwz : wa.alloc (.cells #[.int .i64 0, .int .i64 0, .slice none 0 0] 26) = wz at *
        clear hwz
        refine anyT_one (i := 5) (by kernel_rfl) rfl (fun K hK => ?_)
        go_simp
        with_reducible refine (l71Term_any 2 2 3 br p5 _ (by omega) (by omega) (by omega) (by omega) (by omega) (HDd.out.adv HA.out).rd (by omega)).mono ?_
        rintro e wb ⟨s9, v9, a9, c9, k9, p9, rfl, _, hp9, hS9, hax, hl9⟩
        have hcs : br < wz.heap.size := Nat.lt_of_lt_of_le hwd HA.out.size
        have HL9 : Hid (Sl wb (br + 1) wb.heap.size a9 k9) := hl9.mono (by omega) (Nat.le_refl _)
        replace HA := Lib.hid (HA.out.trans hax)
        replace HZ := Lib.hid (HZ.out.adv hax (by omega))
        replace HI := Lib.hid (show ISc _ (br + 1) _ A5 C5 place from ⟨(HI.out.1.same (hax.same (Nat.le_refl _) (.inl (Nat.lt_succ_self _)))).mono (Nat.le_refl _) hax.size, HI.out.2⟩)
        clear hax
        refine hK _ _ (HDd.out.adv HA.out).seen ?_
        clear hK K hl9 hcs
        refine anyT_one (i := 6) (by kernel_rfl) rfl (fun K hK => ?_)
        go_simp
        with_reducible refine (sTermPut_any s v a c k A5 C5 place s9 v9 a9 c9 k9 _ ((HDd.out.adv HA.out).one.mono (Nat.zero_le _) (Nat.le_refl _)) (HI.out.mono (Nat.zero_le _) (Nat.le_refl _)) (by omega) (HL9.out.mono (Nat.zero_le _) (Nat.le_refl _))).mono ?_
        rintro e wc ⟨aT, cT, sT, vT, kT, t, hR, rfl, hbT, hlT⟩
        have hST : 1 + fsz kT ≤ 31000 := by have := putR_sz hR; omega
        have hlo : br < wb.heap.size := Nat.lt_of_lt_of_le hwd HA.out.size
        have hhi : wb.heap.size ≤ wc.heap.size := hbT.size
        have hzl : wa.heap.size < wb.heap.size := HZ.out.lt
        have HLT := Lib.hid hlT
        have hax : Adv wb br p9 wc := Adv.start (HDd.out.adv HA.out).rd hbT
        replace HA := Lib.hid (HA.out.trans hax)
        replace HZ := Lib.hid (HZ.out.adv hax (by omega))
        replace HI := Lib.hid (show ISc _ (br + 1) _ A5 C5 place from ⟨(HI.out.1.same (hax.same (Nat.le_refl _) (.inl (Nat.lt_succ_self _)))).mono (Nat.le_refl _) hax.size, HI.out.2⟩)
        replace HL9 := Lib.hid (HL9.out.adv hax (Nat.lt_succ_self _))
        clear hax
        refine hK _ _ (HDd.out.adv HA.out).seen ?_
        clear hK K hbT hlT hR
        refine anyT_look (i := 7) rfl (by kernel_rfl) (HDd.out.adv HA.out).seen (fun K hK => ?_)
        go_simp
        refine hK _ ?_
        clear hK K
        refine anyT_look (i := 8) rfl (by kernel_rfl) (HDd.out.adv HA.out).seen (fun K hK => ?_)
        go_simp
        refine hK _ ?_
        clear hK K
        refine anyT_look (i := 9) rfl (by kernel_rfl) (HDd.out.adv HA.out).seen (fun K hK => ?_)
        go_simp
        refine hK _ ?_
        clear hK K
        have hzz0 := HZ.out.z0
        have hzz1 := HZ.out.z1
        have hzz2 := HZ.out.z2
        have hzf0 := HZ.out.f 0
        have hzf1 := HZ.out.f 1
        have hzf2 := HZ.out.f 2
        have HAE : Hid (Adv wd br p9 (((wc.setCell ⟨wa.heap.size, 0, none⟩ (.int .i64 sT)).setCell ⟨wa.heap.size, 1, none⟩ (.int .i64 vT)).setCell ⟨wa.heap.size, 2, none⟩ (.slice aT (flen kT) cT))) := ((HA.out.store hbz1 _).store hbz1 _).store hbz1 _
        have HBX := Lib.hid (box_set HZ.out (.int .i64 sT) (.int .i64 vT) (.slice aT (flen kT) cT))
        have hbz2 : br < wa.heap.size := by omega
        have HLF : Hid (Sl (((wc.setCell ⟨wa.heap.size, 0, none⟩ (.int .i64 sT)).setCell ⟨wa.heap.size, 1, none⟩ (.int .i64 vT)).setCell ⟨wa.heap.size, 2, none⟩ (.slice aT (flen kT) cT)) (br + 1) (((wc.setCell ⟨wa.heap.size, 0, none⟩ (.int .i64 sT)).setCell ⟨wa.heap.size, 1, none⟩ (.int .i64 vT)).setCell ⟨wa.heap.size, 2, none⟩ (.slice aT (flen kT) cT)).heap.size aT kT) := (HLT.out.set3 (.inl hzl) _ _ _).mono (by omega) (by have := HZ.out.lt; simp <;> omega)
        refine anyT_one (i := 11) (by kernel_rfl) rfl (fun K hK => ?_)
        go_simp
        refine hK _ _ (HDd.out.adv HAE.out).seen ?_
        clear hK K hzz0 hzz1 hzz2 hzf0 hzf1 hzf2
        refine anyT_one (i := 12) (by kernel_rfl) rfl (fun K hK => ?_)
        go_simp
        refine hK _ _ (HDd.out.adv HAE.out).seen ?_
        clear hK K
        refine anyT_done (by kernel_rfl) ?_
        have HDE := Lib.hid (HDd.out.adv HAE.out)
        clear HA HZ HLT HI HL9 HDd HAE
        generalize (((wc.setCell ⟨wa.heap.size, 0, none⟩ (.int .i64 sT)).setCell ⟨wa.heap.size, 1, none⟩ (.int .i64 vT)).setCell ⟨wa.heap.size, 2, none⟩ (.slice aT (flen kT) cT)) = we at *
        cases ht : t with
        | false =>
          subst ht
          have hq0 := HDE.out.c0
          have hq1 := HDE.out.c1
          have hq2 := HDE.out.c2
          have HLE := Lib.hid HDE.out.one
          have hb7e := HDE.out.lt7
          go_wp2_with fail
          have hbb := HDE.out.brE
          have hb7 := HDE.out.lt7
          have HAT := Lib.hid (at6 HDE.out.c0 HDE.out.c1 HDE.out.c2 hq0 hq1 hq2)
          have HN0 : Hid (∀ p, p ∈ (cells6 w3.heap.size (.int .i64 s) (.int .i64 v) (.slice a (flen k) c) w3.heap.size (.int .i64 s) (.int .i64 v) (.slice a (flen k) c)) → p.1.block ≠ w.heap.size) := blk6 (by omega) (by omega)
          have HN1 : Hid (∀ p, p ∈ (cells6 w3.heap.size (.int .i64 s) (.int .i64 v) (.slice a (flen k) c) w3.heap.size (.int .i64 s) (.int .i64 v) (.slice a (flen k) c)) → p.1.block ≠ w.heap.size + 1) := blk6 (by omega) (by omega)
          obtain ⟨hr0, hr1, hr2, hr3, hr4, hr5⟩ := tb_cellsJ HDE.out.low
          obtain ⟨hf0, hf3⟩ := tb_freeJ HDE.out.low 0 rfl rfl
          obtain ⟨hf1, hf4⟩ := tb_freeJ HDE.out.low 1 rfl rfl
          obtain ⟨hf2, hf5⟩ := tb_freeJ HDE.out.low 2 rfl rfl
          have hu0 : ∀ u : SeenC (cells6 w3.heap.size (.int .i64 s) (.int .i64 v) (.slice a (flen k) c) w3.heap.size (.int .i64 s) (.int .i64 v) (.slice a (flen k) c)), u.world.cell? ⟨w3.heap.size, 0, none⟩ = some (.int .i64 s) := fun u => u.at_ (_, _) (by simp [cells6])
          have hu1 : ∀ u : SeenC (cells6 w3.heap.size (.int .i64 s) (.int .i64 v) (.slice a (flen k) c) w3.heap.size (.int .i64 s) (.int .i64 v) (.slice a (flen k) c)), u.world.cell? ⟨w3.heap.size, 1, none⟩ = some (.int .i64 v) := fun u => u.at_ (_, _) (by simp [cells6])
          have hu2 : ∀ u : SeenC (cells6 w3.heap.size (.int .i64 s) (.int .i64 v) (.slice a (flen k) c) w3.heap.size (.int .i64 s) (.int .i64 v) (.slice a (flen k) c)), u.world.cell? ⟨w3.heap.size, 2, none⟩ = some (.slice a (flen k) c) := fun u => u.at_ (_, _) (by simp [cells6])
          have hu3 : ∀ u : SeenC (cells6 w3.heap.size (.int .i64 s) (.int .i64 v) (.slice a (flen k) c) w3.heap.size (.int .i64 s) (.int .i64 v) (.slice a (flen k) c)), u.world.cell? ⟨w3.heap.size, 0, none⟩ = some (.int .i64 s) := fun u => u.at_ (_, _) (by simp [cells6])
          have hu4 : ∀ u : SeenC (cells6 w3.heap.size (.int .i64 s) (.int .i64 v) (.slice a (flen k) c) w3.heap.size (.int .i64 s) (.int .i64 v) (.slice a (flen k) c)), u.world.cell? ⟨w3.heap.size, 1, none⟩ = some (.int .i64 v) := fun u => u.at_ (_, _) (by simp [cells6])
          have hu5 : ∀ u : SeenC (cells6 w3.heap.size (.int .i64 s) (.int .i64 v) (.slice a (flen k) c) w3.heap.size (.int .i64 s) (.int .i64 v) (.slice a (flen k) c)), u.world.cell? ⟨w3.heap.size, 2, none⟩ = some (.slice a (flen k) c) := fun u => u.at_ (_, _) (by simp [cells6])
          haveI : Nonempty (SeenC (cells6 w3.heap.size (.int .i64 s) (.int .i64 v) (.slice a (flen k) c) w3.heap.size (.int .i64 s) (.int .i64 v) (.slice a (flen k) c))) := ⟨⟨_, HAT.out⟩⟩
          clear hq0 hq1 hq2 hbb hb7
          refine wp_region_mix (fun w' => ∃ u : SeenC (cells6 w3.heap.size (.int .i64 s) (.int .i64 v) (.slice a (flen k) c) w3.heap.size (.int .i64 s) (.int .i64 v) (.slice a (flen k) c)), w' = u.world) [] [(0, 0), (1, 0), (2, 0), (3, 1), (4, 1), (5, 1)] (by kernel_rfl) (by kernel_rfl) (seen_drew HAT.out) ?_
          iterate 3
            refine mix_see rfl (fun K hK => ?_)
            go_simp
            refine hK _ ?_
            clear hK K
          clear hu0 hu1 hu2 hu3 hu4 hu5
          refine mix_hold rfl (fun K hK => ?_)
          go_simp
          refine hK _ _ (seen_drew HAT.out) ?_
          clear hK K
          refine mix_hold rfl (fun K hK => ?_)
          go_simp
          refine hK _ _ (seen_drew (store6 HAT.out HN0.out _ _ _)) ?_
          clear hK K
          refine mix_hold rfl (fun K hK => ?_)
          go_simp
          refine hK _ _ (seen_drew (store6 (store6 HAT.out HN0.out _ _ _) HN1.out _ _ _)) ?_
          clear hK K
          refine mix_end ?_
          go_wp2_with fail
          refine bodyPost_ret (v := .tuple #[.slice A xs.length C, .agg #[.int .i64 s, .int .i64 v, .slice a (flen k) c], .agg #[.int .i64 s, .int .i64 v, .slice a (flen k) c]]) ?_ rfl (dom_drew (dom_end HDE.out HX4.out hS hS HLE.out _ _ _ _ _ _))
          simp [results, Tryz.results4, go_sem, hr0, hr1, hr2, hr3, hr4, hr5]
        | true =>
          subst ht
          obtain ⟨hq0, hq1, hq2⟩ := HBX.out
          go_wp2_with fail
          have hbb := HDE.out.brE
          have hb7 := HDE.out.lt7
          have HAT := Lib.hid (at6 HDE.out.c0 HDE.out.c1 HDE.out.c2 hq0 hq1 hq2)
          have HN0 : Hid (∀ p, p ∈ (cells6 w3.heap.size (.int .i64 s) (.int .i64 v) (.slice a (flen k) c) wa.heap.size (.int .i64 sT) (.int .i64 vT) (.slice aT (flen kT) cT)) → p.1.block ≠ w.heap.size) := blk6 (by omega) (by omega)
          have HN1 : Hid (∀ p, p ∈ (cells6 w3.heap.size (.int .i64 s) (.int .i64 v) (.slice a (flen k) c) wa.heap.size (.int .i64 sT) (.int .i64 vT) (.slice aT (flen kT) cT)) → p.1.block ≠ w.heap.size + 1) := blk6 (by omega) (by omega)
          obtain ⟨hr0, hr1, hr2, hr3, hr4, hr5⟩ := tb_cellsJ HDE.out.low
          obtain ⟨hf0, hf3⟩ := tb_freeJ HDE.out.low 0 rfl rfl
          obtain ⟨hf1, hf4⟩ := tb_freeJ HDE.out.low 1 rfl rfl
          obtain ⟨hf2, hf5⟩ := tb_freeJ HDE.out.low 2 rfl rfl
          have hu0 : ∀ u : SeenC (cells6 w3.heap.size (.int .i64 s) (.int .i64 v) (.slice a (flen k) c) wa.heap.size (.int .i64 sT) (.int .i64 vT) (.slice aT (flen kT) cT)), u.world.cell? ⟨w3.heap.size, 0, none⟩ = some (.int .i64 s) := fun u => u.at_ (_, _) (by simp [cells6])
          have hu1 : ∀ u : SeenC (cells6 w3.heap.size (.int .i64 s) (.int .i64 v) (.slice a (flen k) c) wa.heap.size (.int .i64 sT) (.int .i64 vT) (.slice aT (flen kT) cT)), u.world.cell? ⟨w3.heap.size, 1, none⟩ = some (.int .i64 v) := fun u => u.at_ (_, _) (by simp [cells6])
          have hu2 : ∀ u : SeenC (cells6 w3.heap.size (.int .i64 s) (.int .i64 v) (.slice a (flen k) c) wa.heap.size (.int .i64 sT) (.int .i64 vT) (.slice aT (flen kT) cT)), u.world.cell? ⟨w3.heap.size, 2, none⟩ = some (.slice a (flen k) c) := fun u => u.at_ (_, _) (by simp [cells6])
          have hu3 : ∀ u : SeenC (cells6 w3.heap.size (.int .i64 s) (.int .i64 v) (.slice a (flen k) c) wa.heap.size (.int .i64 sT) (.int .i64 vT) (.slice aT (flen kT) cT)), u.world.cell? ⟨wa.heap.size, 0, none⟩ = some (.int .i64 sT) := fun u => u.at_ (_, _) (by simp [cells6])
          have hu4 : ∀ u : SeenC (cells6 w3.heap.size (.int .i64 s) (.int .i64 v) (.slice a (flen k) c) wa.heap.size (.int .i64 sT) (.int .i64 vT) (.slice aT (flen kT) cT)), u.world.cell? ⟨wa.heap.size, 1, none⟩ = some (.int .i64 vT) := fun u => u.at_ (_, _) (by simp [cells6])
          have hu5 : ∀ u : SeenC (cells6 w3.heap.size (.int .i64 s) (.int .i64 v) (.slice a (flen k) c) wa.heap.size (.int .i64 sT) (.int .i64 vT) (.slice aT (flen kT) cT)), u.world.cell? ⟨wa.heap.size, 2, none⟩ = some (.slice aT (flen kT) cT) := fun u => u.at_ (_, _) (by simp [cells6])
          haveI : Nonempty (SeenC (cells6 w3.heap.size (.int .i64 s) (.int .i64 v) (.slice a (flen k) c) wa.heap.size (.int .i64 sT) (.int .i64 vT) (.slice aT (flen kT) cT))) := ⟨⟨_, HAT.out⟩⟩
          clear hq0 hq1 hq2 hbb hb7
          refine wp_region_mix (fun w' => ∃ u : SeenC (cells6 w3.heap.size (.int .i64 s) (.int .i64 v) (.slice a (flen k) c) wa.heap.size (.int .i64 sT) (.int .i64 vT) (.slice aT (flen kT) cT)), w' = u.world) [] [(0, 0), (1, 0), (2, 0), (3, 1), (4, 1), (5, 1)] (by kernel_rfl) (by kernel_rfl) (seen_drew HAT.out) ?_
          iterate 3
            refine mix_see rfl (fun K hK => ?_)
            go_simp
            refine hK _ ?_
            clear hK K
          clear hu0 hu1 hu2 hu3 hu4 hu5
          refine mix_hold rfl (fun K hK => ?_)
          go_simp
          refine hK _ _ (seen_drew HAT.out) ?_
          clear hK K
          refine mix_hold rfl (fun K hK => ?_)
          go_simp
          refine hK _ _ (seen_drew (store6 HAT.out HN0.out _ _ _)) ?_
          clear hK K
          refine mix_hold rfl (fun K hK => ?_)
          go_simp
          refine hK _ _ (seen_drew (store6 (store6 HAT.out HN0.out _ _ _) HN1.out _ _ _)) ?_
          clear hK K
          refine mix_end ?_
          go_wp2_with fail
          refine bodyPost_ret (v := .tuple #[.slice A xs.length C, .agg #[.int .i64 s, .int .i64 v, .slice a (flen k) c], .agg #[.int .i64 sT, .int .i64 vT, .slice aT (flen kT) cT]]) ?_ rfl (dom_drew (dom_end HDE.out HX4.out hS hST HLF.out _ _ _ _ _ _))
          simp [results, Tryz.results4, go_sem, hr0, hr1, hr2, hr3, hr4, hr5]
    · go_simp
      have HZ := Lib.hid (zb_new wd)
      have hbz1 : wd.heap.size ≤ wd.heap.size := HA.out.size
      have hbe : Below wd.heap.size wd (wd.alloc (.cells #[.int .i64 0, .int .i64 0, .slice none 0 0] 26)) := (Below.refl _ _).alloc (Nat.le_refl _) _
      have hax : Adv wd br (p2 + 1) (wd.alloc (.cells #[.int .i64 0, .int .i64 0, .slice none 0 0] 26)) := Adv.start (HDd.out.adv HA.out).rd hbe
      replace HA := Lib.hid (HA.out.trans hax)
      clear hax
      refine hK _ _ (HDd.out.adv HA.out).seen ?_
      clear hK K hbe
      generalize hwz : wd.alloc (.cells #[.int .i64 0, .int .i64 0, .slice none 0 0] 26) = wz at *
      clear hwz
      refine anyT_one (i := 3) (by kernel_rfl) rfl (fun K hK => ?_)
      go_simp
      with_reducible refine (l71Place_any br (p2 + 1) s v a c k _ (HDd.out.adv HA.out).rd (by omega) (HDd.out.adv HA.out).one).mono ?_
      rintro e wa ⟨A5, C5, place, p5, rfl, _, hp5, hpl, hax, hi5⟩
      have hcs : br < wz.heap.size := Nat.lt_of_lt_of_le hwd HA.out.size
      have HI : Hid (ISc wa (br + 1) wa.heap.size A5 C5 place) := hi5.mono (by omega) (Nat.le_refl _)
      replace HA := Lib.hid (HA.out.trans hax)
      replace HZ := Lib.hid (HZ.out.adv hax (by omega))
      clear hax
      refine hK _ _ (HDd.out.adv HA.out).seen ?_
      clear hK K hi5 hcs
      refine anyT_one (i := 5) (by kernel_rfl) rfl (fun K hK => ?_)
      go_simp
      with_reducible refine (l71Term_any 2 2 3 br p5 _ (by omega) (by omega) (by omega) (by omega) (by omega) (HDd.out.adv HA.out).rd (by omega)).mono ?_
      rintro e wb ⟨s9, v9, a9, c9, k9, p9, rfl, _, hp9, hS9, hax, hl9⟩
      have hcs : br < wa.heap.size := Nat.lt_of_lt_of_le hwd HA.out.size
      have HL9 : Hid (Sl wb (br + 1) wb.heap.size a9 k9) := hl9.mono (by omega) (Nat.le_refl _)
      replace HA := Lib.hid (HA.out.trans hax)
      replace HZ := Lib.hid (HZ.out.adv hax (by omega))
      replace HI := Lib.hid (show ISc _ (br + 1) _ A5 C5 place from ⟨(HI.out.1.same (hax.same (Nat.le_refl _) (.inl (Nat.lt_succ_self _)))).mono (Nat.le_refl _) hax.size, HI.out.2⟩)
      clear hax
      refine hK _ _ (HDd.out.adv HA.out).seen ?_
      clear hK K hl9 hcs
      refine anyT_one (i := 6) (by kernel_rfl) rfl (fun K hK => ?_)
      go_simp
      with_reducible refine (sTermPut_any s v a c k A5 C5 place s9 v9 a9 c9 k9 _ ((HDd.out.adv HA.out).one.mono (Nat.zero_le _) (Nat.le_refl _)) (HI.out.mono (Nat.zero_le _) (Nat.le_refl _)) (by omega) (HL9.out.mono (Nat.zero_le _) (Nat.le_refl _))).mono ?_
      rintro e wc ⟨aT, cT, sT, vT, kT, t, hR, rfl, hbT, hlT⟩
      have hST : 1 + fsz kT ≤ 31000 := by have := putR_sz hR; omega
      have hlo : br < wb.heap.size := Nat.lt_of_lt_of_le hwd HA.out.size
      have hhi : wb.heap.size ≤ wc.heap.size := hbT.size
      have hzl : wd.heap.size < wb.heap.size := HZ.out.lt
      have HLT := Lib.hid hlT
      have hax : Adv wb br p9 wc := Adv.start (HDd.out.adv HA.out).rd hbT
      replace HA := Lib.hid (HA.out.trans hax)
      replace HZ := Lib.hid (HZ.out.adv hax (by omega))
      replace HI := Lib.hid (show ISc _ (br + 1) _ A5 C5 place from ⟨(HI.out.1.same (hax.same (Nat.le_refl _) (.inl (Nat.lt_succ_self _)))).mono (Nat.le_refl _) hax.size, HI.out.2⟩)
      replace HL9 := Lib.hid (HL9.out.adv hax (Nat.lt_succ_self _))
      clear hax
      refine hK _ _ (HDd.out.adv HA.out).seen ?_
      clear hK K hbT hlT hR
      refine anyT_look (i := 7) rfl (by kernel_rfl) (HDd.out.adv HA.out).seen (fun K hK => ?_)
      go_simp
      refine hK _ ?_
      clear hK K
      refine anyT_look (i := 8) rfl (by kernel_rfl) (HDd.out.adv HA.out).seen (fun K hK => ?_)
      go_simp
      refine hK _ ?_
      clear hK K
      refine anyT_look (i := 9) rfl (by kernel_rfl) (HDd.out.adv HA.out).seen (fun K hK => ?_)
      go_simp
      refine hK _ ?_
      clear hK K
      have hzz0 := HZ.out.z0
      have hzz1 := HZ.out.z1
      have hzz2 := HZ.out.z2
      have hzf0 := HZ.out.f 0
      have hzf1 := HZ.out.f 1
      have hzf2 := HZ.out.f 2
      have HAE : Hid (Adv wd br p9 (((wc.setCell ⟨wd.heap.size, 0, none⟩ (.int .i64 sT)).setCell ⟨wd.heap.size, 1, none⟩ (.int .i64 vT)).setCell ⟨wd.heap.size, 2, none⟩ (.slice aT (flen kT) cT))) := ((HA.out.store hbz1 _).store hbz1 _).store hbz1 _
      have HBX := Lib.hid (box_set HZ.out (.int .i64 sT) (.int .i64 vT) (.slice aT (flen kT) cT))
      have hbz2 : br < wd.heap.size := by omega
      have HLF : Hid (Sl (((wc.setCell ⟨wd.heap.size, 0, none⟩ (.int .i64 sT)).setCell ⟨wd.heap.size, 1, none⟩ (.int .i64 vT)).setCell ⟨wd.heap.size, 2, none⟩ (.slice aT (flen kT) cT)) (br + 1) (((wc.setCell ⟨wd.heap.size, 0, none⟩ (.int .i64 sT)).setCell ⟨wd.heap.size, 1, none⟩ (.int .i64 vT)).setCell ⟨wd.heap.size, 2, none⟩ (.slice aT (flen kT) cT)).heap.size aT kT) := (HLT.out.set3 (.inl hzl) _ _ _).mono (by omega) (by have := HZ.out.lt; simp <;> omega)
      refine anyT_one (i := 11) (by kernel_rfl) rfl (fun K hK => ?_)
      go_simp
      refine hK _ _ (HDd.out.adv HAE.out).seen ?_
      clear hK K hzz0 hzz1 hzz2 hzf0 hzf1 hzf2
      refine anyT_one (i := 12) (by kernel_rfl) rfl (fun K hK => ?_)
      go_simp
      refine hK _ _ (HDd.out.adv HAE.out).seen ?_
      clear hK K
      refine anyT_done (by kernel_rfl) ?_
      have HDE := Lib.hid (HDd.out.adv HAE.out)
      clear HA HZ HLT HI HL9 HDd HAE
      generalize (((wc.setCell ⟨wd.heap.size, 0, none⟩ (.int .i64 sT)).setCell ⟨wd.heap.size, 1, none⟩ (.int .i64 vT)).setCell ⟨wd.heap.size, 2, none⟩ (.slice aT (flen kT) cT)) = we at *
      cases ht : t with
      | false =>
        subst ht
        have hq0 := HDE.out.c0
        have hq1 := HDE.out.c1
        have hq2 := HDE.out.c2
        have HLE := Lib.hid HDE.out.one
        have hb7e := HDE.out.lt7
        go_wp2_with fail
        have hbb := HDE.out.brE
        have hb7 := HDE.out.lt7
        have HAT := Lib.hid (at6 HDE.out.c0 HDE.out.c1 HDE.out.c2 hq0 hq1 hq2)
        have HN0 : Hid (∀ p, p ∈ (cells6 w3.heap.size (.int .i64 s) (.int .i64 v) (.slice a (flen k) c) w3.heap.size (.int .i64 s) (.int .i64 v) (.slice a (flen k) c)) → p.1.block ≠ w.heap.size) := blk6 (by omega) (by omega)
        have HN1 : Hid (∀ p, p ∈ (cells6 w3.heap.size (.int .i64 s) (.int .i64 v) (.slice a (flen k) c) w3.heap.size (.int .i64 s) (.int .i64 v) (.slice a (flen k) c)) → p.1.block ≠ w.heap.size + 1) := blk6 (by omega) (by omega)
        obtain ⟨hr0, hr1, hr2, hr3, hr4, hr5⟩ := tb_cellsJ HDE.out.low
        obtain ⟨hf0, hf3⟩ := tb_freeJ HDE.out.low 0 rfl rfl
        obtain ⟨hf1, hf4⟩ := tb_freeJ HDE.out.low 1 rfl rfl
        obtain ⟨hf2, hf5⟩ := tb_freeJ HDE.out.low 2 rfl rfl
        have hu0 : ∀ u : SeenC (cells6 w3.heap.size (.int .i64 s) (.int .i64 v) (.slice a (flen k) c) w3.heap.size (.int .i64 s) (.int .i64 v) (.slice a (flen k) c)), u.world.cell? ⟨w3.heap.size, 0, none⟩ = some (.int .i64 s) := fun u => u.at_ (_, _) (by simp [cells6])
        have hu1 : ∀ u : SeenC (cells6 w3.heap.size (.int .i64 s) (.int .i64 v) (.slice a (flen k) c) w3.heap.size (.int .i64 s) (.int .i64 v) (.slice a (flen k) c)), u.world.cell? ⟨w3.heap.size, 1, none⟩ = some (.int .i64 v) := fun u => u.at_ (_, _) (by simp [cells6])
        have hu2 : ∀ u : SeenC (cells6 w3.heap.size (.int .i64 s) (.int .i64 v) (.slice a (flen k) c) w3.heap.size (.int .i64 s) (.int .i64 v) (.slice a (flen k) c)), u.world.cell? ⟨w3.heap.size, 2, none⟩ = some (.slice a (flen k) c) := fun u => u.at_ (_, _) (by simp [cells6])
        have hu3 : ∀ u : SeenC (cells6 w3.heap.size (.int .i64 s) (.int .i64 v) (.slice a (flen k) c) w3.heap.size (.int .i64 s) (.int .i64 v) (.slice a (flen k) c)), u.world.cell? ⟨w3.heap.size, 0, none⟩ = some (.int .i64 s) := fun u => u.at_ (_, _) (by simp [cells6])
        have hu4 : ∀ u : SeenC (cells6 w3.heap.size (.int .i64 s) (.int .i64 v) (.slice a (flen k) c) w3.heap.size (.int .i64 s) (.int .i64 v) (.slice a (flen k) c)), u.world.cell? ⟨w3.heap.size, 1, none⟩ = some (.int .i64 v) := fun u => u.at_ (_, _) (by simp [cells6])
        have hu5 : ∀ u : SeenC (cells6 w3.heap.size (.int .i64 s) (.int .i64 v) (.slice a (flen k) c) w3.heap.size (.int .i64 s) (.int .i64 v) (.slice a (flen k) c)), u.world.cell? ⟨w3.heap.size, 2, none⟩ = some (.slice a (flen k) c) := fun u => u.at_ (_, _) (by simp [cells6])
        haveI : Nonempty (SeenC (cells6 w3.heap.size (.int .i64 s) (.int .i64 v) (.slice a (flen k) c) w3.heap.size (.int .i64 s) (.int .i64 v) (.slice a (flen k) c))) := ⟨⟨_, HAT.out⟩⟩
        clear hq0 hq1 hq2 hbb hb7
        refine wp_region_mix (fun w' => ∃ u : SeenC (cells6 w3.heap.size (.int .i64 s) (.int .i64 v) (.slice a (flen k) c) w3.heap.size (.int .i64 s) (.int .i64 v) (.slice a (flen k) c)), w' = u.world) [] [(0, 0), (1, 0), (2, 0), (3, 1), (4, 1), (5, 1)] (by kernel_rfl) (by kernel_rfl) (seen_drew HAT.out) ?_
        iterate 3
          refine mix_see rfl (fun K hK => ?_)
          go_simp
          refine hK _ ?_
          clear hK K
        clear hu0 hu1 hu2 hu3 hu4 hu5
        refine mix_hold rfl (fun K hK => ?_)
        go_simp
        refine hK _ _ (seen_drew HAT.out) ?_
        clear hK K
        refine mix_hold rfl (fun K hK => ?_)
        go_simp
        refine hK _ _ (seen_drew (store6 HAT.out HN0.out _ _ _)) ?_
        clear hK K
        refine mix_hold rfl (fun K hK => ?_)
        go_simp
        refine hK _ _ (seen_drew (store6 (store6 HAT.out HN0.out _ _ _) HN1.out _ _ _)) ?_
        clear hK K
        refine mix_end ?_
        go_wp2_with fail
        refine bodyPost_ret (v := .tuple #[.slice A xs.length C, .agg #[.int .i64 s, .int .i64 v, .slice a (flen k) c], .agg #[.int .i64 s, .int .i64 v, .slice a (flen k) c]]) ?_ rfl (dom_drew (dom_end HDE.out HX4.out hS hS HLE.out _ _ _ _ _ _))
        simp [results, Tryz.results4, go_sem, hr0, hr1, hr2, hr3, hr4, hr5]
      | true =>
        subst ht
        obtain ⟨hq0, hq1, hq2⟩ := HBX.out
        go_wp2_with fail
        have hbb := HDE.out.brE
        have hb7 := HDE.out.lt7
        have HAT := Lib.hid (at6 HDE.out.c0 HDE.out.c1 HDE.out.c2 hq0 hq1 hq2)
        have HN0 : Hid (∀ p, p ∈ (cells6 w3.heap.size (.int .i64 s) (.int .i64 v) (.slice a (flen k) c) wd.heap.size (.int .i64 sT) (.int .i64 vT) (.slice aT (flen kT) cT)) → p.1.block ≠ w.heap.size) := blk6 (by omega) (by omega)
        have HN1 : Hid (∀ p, p ∈ (cells6 w3.heap.size (.int .i64 s) (.int .i64 v) (.slice a (flen k) c) wd.heap.size (.int .i64 sT) (.int .i64 vT) (.slice aT (flen kT) cT)) → p.1.block ≠ w.heap.size + 1) := blk6 (by omega) (by omega)
        obtain ⟨hr0, hr1, hr2, hr3, hr4, hr5⟩ := tb_cellsJ HDE.out.low
        obtain ⟨hf0, hf3⟩ := tb_freeJ HDE.out.low 0 rfl rfl
        obtain ⟨hf1, hf4⟩ := tb_freeJ HDE.out.low 1 rfl rfl
        obtain ⟨hf2, hf5⟩ := tb_freeJ HDE.out.low 2 rfl rfl
        have hu0 : ∀ u : SeenC (cells6 w3.heap.size (.int .i64 s) (.int .i64 v) (.slice a (flen k) c) wd.heap.size (.int .i64 sT) (.int .i64 vT) (.slice aT (flen kT) cT)), u.world.cell? ⟨w3.heap.size, 0, none⟩ = some (.int .i64 s) := fun u => u.at_ (_, _) (by simp [cells6])
        have hu1 : ∀ u : SeenC (cells6 w3.heap.size (.int .i64 s) (.int .i64 v) (.slice a (flen k) c) wd.heap.size (.int .i64 sT) (.int .i64 vT) (.slice aT (flen kT) cT)), u.world.cell? ⟨w3.heap.size, 1, none⟩ = some (.int .i64 v) := fun u => u.at_ (_, _) (by simp [cells6])
        have hu2 : ∀ u : SeenC (cells6 w3.heap.size (.int .i64 s) (.int .i64 v) (.slice a (flen k) c) wd.heap.size (.int .i64 sT) (.int .i64 vT) (.slice aT (flen kT) cT)), u.world.cell? ⟨w3.heap.size, 2, none⟩ = some (.slice a (flen k) c) := fun u => u.at_ (_, _) (by simp [cells6])
        have hu3 : ∀ u : SeenC (cells6 w3.heap.size (.int .i64 s) (.int .i64 v) (.slice a (flen k) c) wd.heap.size (.int .i64 sT) (.int .i64 vT) (.slice aT (flen kT) cT)), u.world.cell? ⟨wd.heap.size, 0, none⟩ = some (.int .i64 sT) := fun u => u.at_ (_, _) (by simp [cells6])
        have hu4 : ∀ u : SeenC (cells6 w3.heap.size (.int .i64 s) (.int .i64 v) (.slice a (flen k) c) wd.heap.size (.int .i64 sT) (.int .i64 vT) (.slice aT (flen kT) cT)), u.world.cell? ⟨wd.heap.size, 1, none⟩ = some (.int .i64 vT) := fun u => u.at_ (_, _) (by simp [cells6])
        have hu5 : ∀ u : SeenC (cells6 w3.heap.size (.int .i64 s) (.int .i64 v) (.slice a (flen k) c) wd.heap.size (.int .i64 sT) (.int .i64 vT) (.slice aT (flen kT) cT)), u.world.cell? ⟨wd.heap.size, 2, none⟩ = some (.slice aT (flen kT) cT) := fun u => u.at_ (_, _) (by simp [cells6])
        haveI : Nonempty (SeenC (cells6 w3.heap.size (.int .i64 s) (.int .i64 v) (.slice a (flen k) c) wd.heap.size (.int .i64 sT) (.int .i64 vT) (.slice aT (flen kT) cT))) := ⟨⟨_, HAT.out⟩⟩
        clear hq0 hq1 hq2 hbb hb7
        refine wp_region_mix (fun w' => ∃ u : SeenC (cells6 w3.heap.size (.int .i64 s) (.int .i64 v) (.slice a (flen k) c) wd.heap.size (.int .i64 sT) (.int .i64 vT) (.slice aT (flen kT) cT)), w' = u.world) [] [(0, 0), (1, 0), (2, 0), (3, 1), (4, 1), (5, 1)] (by kernel_rfl) (by kernel_rfl) (seen_drew HAT.out) ?_
        iterate 3
          refine mix_see rfl (fun K hK => ?_)
          go_simp
          refine hK _ ?_
          clear hK K
        clear hu0 hu1 hu2 hu3 hu4 hu5
        refine mix_hold rfl (fun K hK => ?_)
        go_simp
        refine hK _ _ (seen_drew HAT.out) ?_
        clear hK K
        refine mix_hold rfl (fun K hK => ?_)
        go_simp
        refine hK _ _ (seen_drew (store6 HAT.out HN0.out _ _ _)) ?_
        clear hK K
        refine mix_hold rfl (fun K hK => ?_)
        go_simp
        refine hK _ _ (seen_drew (store6 (store6 HAT.out HN0.out _ _ _) HN1.out _ _ _)) ?_
        clear hK K
        refine mix_end ?_
        go_wp2_with fail
        refine bodyPost_ret (v := .tuple #[.slice A xs.length C, .agg #[.int .i64 s, .int .i64 v, .slice a (flen k) c], .agg #[.int .i64 sT, .int .i64 vT, .slice aT (flen kT) cT]]) ?_ rfl (dom_drew (dom_end HDE.out HX4.out hS hST HLF.out _ _ _ _ _ _))
        simp [results, Tryz.results4, go_sem, hr0, hr1, hr2, hr3, hr4, hr5]
end Go.Proofs.YtiinmlagcbjloaaGreat
