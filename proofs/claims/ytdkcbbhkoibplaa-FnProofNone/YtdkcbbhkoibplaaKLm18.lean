/- Several texts in one: PF2, RFp, S7, EO, LE2, LA2, ES1, SP1, AD. -/
import Derived.Test.YtdkcbbhkoibplaaKLm5
import Derived.Test.YtdkcbbhkoibplaaKLm4
import Derived.Test.YtdkcbbhkoibplaaKLm3
import Derived.Test.YtdkcbbhkoibplaaKLm15
import Derived.Deep.AppendLies
import Derived.Test.YtdkcbbhkoibplaaKLm17
import Derived.Test.YtdkcbbhkoibplaaKLm9

/-! RFp: Rows of rows: one row written over. -/
namespace Go.Proofs.Ytdkcbbhkoibplaa
open Go.RowKit Go.Deep

theorem own_block {W w2 : World} {base : Nat} {e : TypeId} {size : Nat} {v : Value} {n : Nat} {xs : List Value} (h : W.ownsRow base e size v n xs) (hs : ∀ g, v.ownBlock = some g → w2.heap[g]? = W.heap[g]?) : w2.ownsRow base e size v n xs := by
  refine ⟨h.1, ?_⟩
  rcases h.2 with h2 | ⟨g, cap, cur, h3, h4, h5, h6⟩
  · exact .inl h2
  · exact .inr ⟨g, cap, cur, h3, h4, by rw [hs g (by rw [h3]; rfl)]; exact h5, h6⟩

end Go.Proofs.Ytdkcbbhkoibplaa

/-! S7: l71Subst. -/
namespace Go.Proofs.Ytdkcbbhkoibplaa
open Go.RowKit Go.Deep

theorem Try.infoBind : ∃ i, Try.prog.info? 131 = some i ∧ i.zero = some (.agg #[.int .i64 0, .int .i64 0, .int .i64 0, .slice none 0 0]) ∧ i.size = 4 ∧ i.bytes = 48 := by
  have h : (Try.prog.info? 131).map (fun i => (i.zero, i.size, i.bytes)) = some (some (.agg #[.int .i64 0, .int .i64 0, .int .i64 0, .slice none 0 0]), 4, 48) := by kernel_rfl
  obtain ⟨i, hi, hz⟩ := Option.map_eq_some_iff.1 h
  simp only [Prod.mk.injEq] at hz
  exact ⟨i, hi, hz.1, hz.2.1, hz.2.2⟩
end Go.Proofs.Ytdkcbbhkoibplaa

/-! EO: A row of equations of one's own: what is appended, what is written. Plain lemmas. -/
namespace Go.Proofs.Ytdkcbbhkoibplaa
open Go.RowKit Go.Deep

/-- What the six cells of an equation hold. -/
def ECells (xs : List Value) (i : Nat) (x : Eqd) (a1 : Option Addr) (c1 : Nat) (a2 : Option Addr) (c2 : Nat) : Prop :=
  xs[i * 6]? = some (.int .i64 x.1.1) ∧ xs[i * 6 + 1]? = some (.int .i64 x.1.2.1) ∧ xs[i * 6 + 2]? = some (.slice a1 (flen x.1.2.2) c1) ∧ xs[i * 6 + 3]? = some (.int .i64 x.2.1) ∧ xs[i * 6 + 4]? = some (.int .i64 x.2.2.1) ∧ xs[i * 6 + 5]? = some (.slice a2 (flen x.2.2.2) c2)
/-- The slice is a row of equations of the call's own. -/
def EOwn (w : World) (base : Nat) (es : List Eqd) (A : Option Addr) (C : Nat) : Prop :=
  ∃ xs, w.ownsRow base 63 6 (.slice A es.length C) es.length xs ∧ ∀ (i : Nat) (x : Eqd), es[i]? = some x → ∃ a1 c1 a2 c2, ECells xs i x a1 c1 a2 c2 ∧ (∃ L H, Sl w L H a1 x.1.2.2 ∧ base ≤ L ∧ H ≤ w.heap.size ∧ ∀ g, (Value.slice A es.length C).ownBlock = some g → g < L ∨ H ≤ g) ∧ ∃ L H, Sl w L H a2 x.2.2.2 ∧ base ≤ L ∧ H ≤ w.heap.size ∧ ∀ g, (Value.slice A es.length C).ownBlock = some g → g < L ∨ H ≤ g
theorem EOwn.adv {w w2 : World} {base br p : Nat} {es : List Eqd} {A : Option Addr} {C : Nat} (h : EOwn w base es A C) (ha : Adv w br p w2) (hb : br < base) : EOwn w2 base es A C := by
  obtain ⟨xs, hown, hall⟩ := h
  have hs := ha.size
  refine ⟨xs, own_block hown fun g hg => ?_, fun i x hx => ?_⟩
  · have h1 := hown.lt g hg
    exact ha.same (lo := g) (B := g + 1) (by omega) (by omega) g (Nat.le_refl _) (by omega)
  · obtain ⟨a1, c1, a2, c2, hc, ⟨L, H, hl, h1, h2, h3⟩, L', H', hl', h1', h2', h3'⟩ := hall i x hx
    exact ⟨a1, c1, a2, c2, hc, ⟨L, H, hl.same (ha.same h2 (.inl (by omega))), h1, by omega, h3⟩, L', H', hl'.same (ha.same h2' (.inl (by omega))), h1', by omega, h3'⟩
theorem EOwn.esl {w : World} {base : Nat} {es : List Eqd} {A : Option Addr} {C : Nat} (h : EOwn w base es A C) : ESl w base w.heap.size A es := by
  obtain ⟨xs, hown, hall⟩ := h
  rcases Nat.eq_zero_or_pos es.length with h0 | h0
  · exact .inl (List.eq_nil_of_length_eq_zero h0)
  · obtain ⟨g, cap, hv, hb, hlt⟩ := hown.form h0
    have hA : A = some ⟨g, 0, none⟩ := by simp only [Value.slice.injEq] at hv; exact hv.1
    subst hA
    refine .inr ⟨g, 0, rfl, hb, hlt, fun i x hx => ?_⟩
    have hi := (List.getElem?_eq_some_iff.1 hx).1
    obtain ⟨a1, c1, a2, c2, ⟨c0, d1, d2, d3, d4, d5⟩, ⟨L, H, hl, h1, h2, h3⟩, L', H', hl', h1', h2', h3'⟩ := hall i x hx
    refine ⟨a1, c1, a2, c2, ?_, ?_, ?_, ?_, ?_, ?_, hl.mono h1 h2, hl'.mono h1' h2'⟩
    · rw [Nat.zero_add, hown.cellAt _ (by omega)]; exact c0
    · rw [Nat.zero_add, hown.cellAt _ (by omega)]; exact d1
    · rw [Nat.zero_add, hown.cellAt _ (by omega)]; exact d2
    · rw [Nat.zero_add, hown.cellAt _ (by omega)]; exact d3
    · rw [Nat.zero_add, show i * 6 + 3 + 1 = i * 6 + 4 from rfl, hown.cellAt _ (by omega)]; exact d4
    · rw [Nat.zero_add, show i * 6 + 3 + 2 = i * 6 + 5 from rfl, hown.cellAt _ (by omega)]; exact d5
/-- One more equation. w: where the row stood; w2: where the new terms lie too; blk: the block that shows it to append. -/
theorem EOwn.append {w0 w w2 w3 : World} {base br p : Nat} {es : List Eqd} {A : Option Addr} {C g cap : Nat} {blk : Obj} {s v s' v' : Int} {k k' : Fo} {a2 a2' : Option Addr} {c2 c2' : Nat} {xs : List Value} (hown : w.ownsRow base 63 6 (.slice A es.length C) es.length xs)
    (hall : ∀ (i : Nat) (x : Eqd), es[i]? = some x → ∃ a1 c1 a2 c2, ECells xs i x a1 c1 a2 c2 ∧ (∃ L H, Sl w L H a1 x.1.2.2 ∧ base ≤ L ∧ H ≤ w.heap.size ∧ ∀ g, (Value.slice A es.length C).ownBlock = some g → g < L ∨ H ≤ g) ∧ ∃ L H, Sl w L H a2 x.2.2.2 ∧ base ≤ L ∧ H ≤ w.heap.size ∧ ∀ g, (Value.slice A es.length C).ownBlock = some g → g < L ∨ H ≤ g)
    (hown3 : w3.ownsRow base 63 6 (.slice (some ⟨g, 0, none⟩) (es.length + 1) cap) (es.length + 1) (xs ++ [.int .i64 s, .int .i64 v, .slice a2 (flen k) c2, .int .i64 s', .int .i64 v', .slice a2' (flen k') c2'])) (ha : Adv w br p w2) (hbr : br < base) (hl2 : Sl w2 w.heap.size w2.heap.size a2 k) (hl2' : Sl w2 w.heap.size w2.heap.size a2' k') (hbase : base ≤ w.heap.size)
    (hgrow : (w2.alloc blk).grownBy w3 (Value.slice A es.length C).ownBlock) (hatg : (Value.slice A es.length C).ownBlock = some g ∨ g = w2.heap.size + 1) (ha0 : Adv w0 br p w2) (hw0 : w0.heap.size ≤ base) : EOwn w3 base (es ++ [((s, v, k), s', v', k')]) (some ⟨g, 0, none⟩) cap ∧ Adv w0 br p w3 := by
  have hs2 := ha.size
  have hs3 := hgrow.size
  simp at hs3
  have hxl : xs.length = es.length * 6 := hown.1
  have hl : (es ++ [(((s, v, k) : Tm3), s', v', k')]).length = es.length + 1 := by simp
  have hold : ∀ {L H : Nat} {a : Option Addr} {kk : Fo}, Sl w L H a kk → base ≤ L → H ≤ w.heap.size → (∀ g, (Value.slice A es.length C).ownBlock = some g → g < L ∨ H ≤ g) → ∃ L H, Sl w3 L H a kk ∧ base ≤ L ∧ H ≤ w3.heap.size ∧ ∀ g', (Value.slice (some ⟨g, 0, none⟩) (es.length + 1) cap).ownBlock = some g' → g' < L ∨ H ≤ g' := fun {L H a kk} hsl h1 h2 h3 => by
    refine ⟨L, H, hsl.same (fun b hb1 hb2 => ?_), h1, by omega, fun g' hg' => ?_⟩
    · rw [hgrow.block b (by simp; omega) (fun e => by have := h3 b e.symm; omega), Below.heap_alloc _ _ _ (by omega)]
      exact ha.same h2 (.inl (by omega)) b hb1 hb2
    · have : g' = g := by simpa [Value.ownBlock] using hg'.symm
      subst this
      rcases hatg with hg1 | hg1
      · exact h3 _ hg1
      · omega
  have hnew : ∀ {a : Option Addr} {kk : Fo}, Sl w2 w.heap.size w2.heap.size a kk → ∃ L H, Sl w3 L H a kk ∧ base ≤ L ∧ H ≤ w3.heap.size ∧ ∀ g', (Value.slice (some ⟨g, 0, none⟩) (es.length + 1) cap).ownBlock = some g' → g' < L ∨ H ≤ g' := fun {a kk} hsl => by
    refine ⟨w.heap.size, w2.heap.size, hsl.same (fun b hb1 hb2 => ?_), hbase, by omega, fun g' hg' => ?_⟩
    · rw [hgrow.block b (by simp; omega) (fun e => by have := (hown.lt b e.symm).2; omega), Below.heap_alloc _ _ _ (by omega)]
    · have : g' = g := by simpa [Value.ownBlock] using hg'.symm
      subst this
      rcases hatg with hg1 | hg1
      · exact .inl (hown.lt _ hg1).2
      · exact .inr (by omega)
  refine ⟨⟨xs ++ [.int .i64 s, .int .i64 v, .slice a2 (flen k) c2, .int .i64 s', .int .i64 v', .slice a2' (flen k') c2'], by rw [hl]; exact hown3, fun i y hy => ?_⟩, Below.grown (ha0.alloc blk) hgrow (by have := ha0.size; simp; omega) (fun q hq => by have := (hown.lt q hq).1; omega)⟩
  rw [hl]
  by_cases hi : i < es.length
  · rw [List.getElem?_append_left hi] at hy
    obtain ⟨a1, c1, b1, d1, ⟨e0, e1, e2, e3, e4, e5⟩, ⟨L, H, hsl, h1, h2, h3⟩, L', H', hsl', h1', h2', h3'⟩ := hall i y hy
    exact ⟨a1, c1, b1, d1, ⟨by rw [List.getElem?_append_left (by omega)]; exact e0, by rw [List.getElem?_append_left (by omega)]; exact e1, by rw [List.getElem?_append_left (by omega)]; exact e2, by rw [List.getElem?_append_left (by omega)]; exact e3, by rw [List.getElem?_append_left (by omega)]; exact e4, by rw [List.getElem?_append_left (by omega)]; exact e5⟩, hold hsl h1 h2 h3, hold hsl' h1' h2' h3'⟩
  · have hi' : i = es.length := by have := (List.getElem?_eq_some_iff.1 hy).1; omega
    subst hi'
    simp at hy
    subst hy
    refine ⟨a2, c2, a2', c2', ⟨?_, ?_, ?_, ?_, ?_, ?_⟩, hnew hl2, hnew hl2'⟩
    · rw [List.getElem?_append_right (by omega), hxl]; simp
    · rw [List.getElem?_append_right (by omega), hxl, show es.length * 6 + 1 - es.length * 6 = 1 from by omega]; rfl
    · rw [List.getElem?_append_right (by omega), hxl, show es.length * 6 + 2 - es.length * 6 = 2 from by omega]; rfl
    · rw [List.getElem?_append_right (by omega), hxl, show es.length * 6 + 3 - es.length * 6 = 3 from by omega]; rfl
    · rw [List.getElem?_append_right (by omega), hxl, show es.length * 6 + 4 - es.length * 6 = 4 from by omega]; rfl
    · rw [List.getElem?_append_right (by omega), hxl, show es.length * 6 + 5 - es.length * 6 = 5 from by omega]; rfl
theorem Try.infoEq : ∃ i, Try.prog.info? 63 = some i ∧ i.zero = some (.agg #[.int .i64 0, .int .i64 0, .slice none 0 0, .int .i64 0, .int .i64 0, .slice none 0 0]) ∧ i.size = 6 ∧ i.bytes = 80 := by
  have h : (Try.prog.info? 63).map (fun i => (i.zero, i.size, i.bytes)) = some (some (.agg #[.int .i64 0, .int .i64 0, .slice none 0 0, .int .i64 0, .int .i64 0, .slice none 0 0]), 6, 80) := by kernel_rfl
  obtain ⟨i, hi, hz⟩ := Option.map_eq_some_iff.1 h
  simp only [Prod.mk.injEq] at hz
  exact ⟨i, hi, hz.1, hz.2.1, hz.2.2⟩
end Go.Proofs.Ytdkcbbhkoibplaa

/-! LE2: l71Eqs, l71Any: drawn lists of equations. -/
namespace Go.Proofs.Ytdkcbbhkoibplaa
open Go.RowKit Go.Deep

/-- Valid, without marks. -/
def EqZ (x : Eqd) : Prop := okE x = true ∧ Zf x.1.2.2 ∧ Zf x.2.2.2
theorem eqz_of {s v s' v' : Int} {k k' : Fo} (h : OkZ s v k) (hz : fsz k < 16) (h' : OkZ s' v' k') (hz' : fsz k' < 16) : EqZ ((s, v, k), s', v', k') := by
  refine ⟨?_, h.2.2, h'.2.2⟩
  simp only [okE, okT3, Bool.and_eq_true]
  exact ⟨(okW_iff _ _ _ _).2 ⟨h.1, h.2.1, by omega⟩, (okW_iff _ _ _ _).2 ⟨h'.1, h'.2.1, by omega⟩⟩
def EqsPost (most br p : Nat) (w : World) (e : Ending) (w' : World) : Prop :=
  ∃ es A C p', e = .returned (.slice A (List.length es) C) ∧ 1 ≤ es.length ∧ es.length ≤ most ∧ (∀ x ∈ es, EqZ x) ∧ p ≤ p' ∧ p' ≤ p + (most + 1) * 101 ∧ Adv w br p' w' ∧ EOwn w' w.heap.size es A C

set_option maxRecDepth 100000 in
set_option maxHeartbeats 2000000 in
theorem l71Eqs_any (most br p : Nat) (w : World) (hr : Rd w br p) (hp : p ≤ 1000000) (hm1 : 1 ≤ most) (hm2 : most ≤ 10) :
    Calls Try.prog 88 #[.pointer (some ⟨br, 0, none⟩), .int .i64 (most : Int)] w (EqsPost most br p w) := by
  have hlt := hr.lt
  obtain ⟨ti, hti, htz, hts, htb⟩ := Try.infoEq
  have HTI : Hid (Try.prog.info? 63 = some ti ∧ ti.zero = some (.agg #[.int .i64 0, .int .i64 0, .slice none 0 0, .int .i64 0, .int .i64 0, .slice none 0 0]) ∧ ti.size = 6 ∧ ti.bytes = 80) := ⟨hti, htz, hts, htb⟩
  have HA0 : Hid (Adv w br p (w.alloc (.cells #[] 63))) := Adv.start hr ((Below.refl _ _).alloc (Nat.le_refl _) _)
  have HO0 : Hid (EOwn (w.alloc (.cells #[] 63)) w.heap.size [] (some ⟨w.heap.size, 0, none⟩) 0) := ⟨[], ⟨rfl, .inr ⟨w.heap.size, 0, #[], rfl, Nat.le_refl _, heap_alloc_new _ _, Nat.le_refl _, by decide, rfl, rfl⟩⟩, fun i x hx => by simp at hx⟩
  have HR := Lib.hid hr
  clear hr hti htz hts htb
  go_enter Try.func88, Try.ntmps88
  go_wp2_with fail
  with_reducible refine (pick_any (most : Int) br p _ (HA0.out.rd HR.out) (by omega) (by omega) (by omega)).mono ?_
  rintro e w1 ⟨y, rfl, hy, hb⟩
  have ha1 : Adv (w.alloc (.cells #[] 63)) br (p + 1) w1 := hb
  have hy1 : y < most := by omega
  have HA1 := Lib.hid (HA0.out.trans ha1)
  have HO1 := Lib.hid (HO0.out.adv ha1 hlt)
  clear hb ha1 hy HO0 HA0
  go_wp2_with fail
  go_loopw [5, 6] (fun t i wr => ∃ (n : Nat) (es : List Eqd) (A : Option Addr) (C p' : Nat), t = .slice A es.length C ∧ i = .int .i64 n ∧ n + es.length = y + 1 ∧ Hid (EOwn wr w.heap.size es A C) ∧ Hid (Adv w br p' wr) ∧ p + 1 ≤ p' ∧ p' ≤ p + 1 + es.length * 100 ∧ Hid (∀ x ∈ es, EqZ x)) (fun _ i _ => (intOf i).toNat)
  case atStart => exact ⟨y + 1, [], _, _, p + 1, rfl, by go_num, by simp, HO1, HA1, Nat.le_refl _, by simp, fun x hx => by simp at hx⟩
  case round =>
    clear HO1 HA1
    obtain ⟨n, es, A, C, p', rfl, rfl, hn, HO, HA, hp1, hp2, HZ⟩ := hrel
    by_cases hnv : 0 < n
    · have g1 : (0 : Int) < (n : Int) := by omega
      have HR1 := Lib.hid (HA.out.rd HR.out)
      go_wp2_with fail
      with_reducible refine (l71Eq_any br p' _ HR1.out (by omega)).mono ?_
      rintro e w2 ⟨s, v, a2, c2, k, s', v', a2', c2', k', p2, rfl, ok1, z1, ok2, z2, hpp1, hpp2, ha2, hl2, hl2'⟩
      obtain ⟨xs, hown, hall⟩ := HO.out
      have hs1 := HA.out.size
      have hs2 := ha2.size
      have HOWN2 : Hid (w2.ownsRow w.heap.size 63 6 (.slice A es.length C) es.length xs) := own_block hown fun g hg => by
        have h1 := hown.lt g hg
        exact ha2.same (lo := g) (B := g + 1) (by omega) (by omega) g (Nat.le_refl _) (by omega)
      have HAP := Lib.hid (fun g cap w3 => EOwn.append (w0 := w) (w2 := w2) (br := br) (p := p2) (k := k) (a2 := a2) (k' := k') (a2' := a2') (g := g) (cap := cap) (w3 := w3) (blk := .cells #[.int .i64 s, .int .i64 v, .slice a2 (flen k) c2, .int .i64 s', .int .i64 v', .slice a2' (flen k') c2'] 63) (s := s) (v := v) (c2 := c2) (s' := s') (v' := v') (c2' := c2') hown hall)
      have HA2 := Lib.hid ha2
      have HL2 := Lib.hid hl2
      have HL2' := Lib.hid hl2'
      have HA02 := Lib.hid (HA.out.trans ha2)
      have HZ2 : Hid (EqZ ((s, v, k), s', v', k')) := eqz_of ok1 z1 ok2 z2
      clear hown hall ha2 hl2 hl2' HO ok1 z1 ok2 z2
      go_wp2_with (at_builtin; refine wpList_append_lies _ rfl _ _ 38 rfl w.heap.size 63 ti _ 6 80 Try.underlying38 HTI.out.1 HTI.out.2.1 HTI.out.2.2.1 HTI.out.2.2.2 rfl (by omega) (.slice A es.length C) es.length xs rfl (HOWN2.out.alloc _) ⟨w2.heap.size, 0, none⟩ 1 1 [.int .i64 s, .int .i64 v, .slice a2 (flen k) c2, .int .i64 s', .int .i64 v', .slice a2' (flen k') c2'] rfl rfl (World.news_of_block (heap_alloc_new _ _)) (by simp [Value.oneCell']) (by omega) (by unfold maxLen; omega) (by omega) (by simp; omega) (w2.heap.size + 1) (by simp) ?_; intro g cap w3 hown3 hgrow3 hat3 hg3; have HX3 := Lib.hid (HAP.out g cap w3 hown3 HA2.out hlt HL2.out HL2'.out hs1 hgrow3 hat3 HA02.out (Nat.le_refl _)); clear hown3 hgrow3 hat3 hg3)
      go_roundw
      case rel =>
        have hl2' : (es ++ [(((s, v, k) : Tm3), s', v', k')]).length = es.length + 1 := by simp
        refine ⟨n - 1, es ++ [((s, v, k), s', v', k')], some ⟨g, 0, none⟩, cap, p2, by rw [hl2'], by go_num, by omega, HX3.out.1, HX3.out.2, by omega, by omega, ?_⟩
        intro x hx
        rcases List.mem_append.1 hx with hx | hx
        · exact HZ.out x hx
        · simp only [List.mem_singleton] at hx
          subst hx
          exact HZ2.out
      case measure => simp [intOf]; omega
    · obtain rfl : n = 0 := by omega
      go_wp2_with fail
      go_ret
      exact ⟨es, A, C, p', rfl, by omega, by omega, HZ.out, by omega, by omega, HA.out, HO.out⟩

def AnyPost (most br p : Nat) (w : World) (e : Ending) (w' : World) : Prop :=
  ∃ es A C p', e = .returned (.slice A (List.length es) C) ∧ 1 ≤ es.length ∧ es.length ≤ most ∧ (∀ x ∈ es, fsz x.1.2.2 ≤ 31000 ∧ fsz x.2.2.2 ≤ 31000) ∧ p ≤ p' ∧ p' ≤ p + 3000 ∧ Adv w br p' w' ∧ ESl w' w.heap.size w'.heap.size A es

theorem eqz_sz {x : Eqd} (h : EqZ x) : fsz x.1.2.2 ≤ 15 ∧ fsz x.2.2.2 ≤ 15 := by
  obtain ⟨h, _, _⟩ := h
  simp only [okE, okT3, Bool.and_eq_true, okW_iff] at h
  obtain ⟨⟨_, _, h1⟩, _, _, h2⟩ := h
  omega
/-- The first equation's second side is another one. -/
theorem EOwn.set0 {w w2 : World} {base br p : Nat} {x1 : Tm3} {s v s' v' : Int} {k k' : Fo} {r : List Eqd} {g C : Nat} {a2 : Option Addr} {c2 : Nat} (h : EOwn w base ((x1, s, v, k) :: r) (some ⟨g, 0, none⟩) C) (ha : Adv w br p w2) (hbr : br < base) (hl : Sl w2 w.heap.size w2.heap.size a2 k') (hbase : base ≤ w.heap.size) :
    ESl (((w2.setCell ⟨g, 3, none⟩ (.int .i64 s')).setCell ⟨g, 4, none⟩ (.int .i64 v')).setCell ⟨g, 5, none⟩ (.slice a2 (flen k') c2)) base w2.heap.size (some ⟨g, 0, none⟩) ((x1, s', v', k') :: r) := by
  obtain ⟨xs, hown, hall⟩ := h.adv ha hbr
  obtain ⟨xs0, hown0, _⟩ := h
  have hs := ha.size
  have hgl := hown0.lt g rfl
  have h1 := (hown.stored 3 (.int .i64 s')).1
  have h2 := (h1.stored 4 (.int .i64 v')).1
  have h3 := (h2.stored 5 (.slice a2 (flen k') c2)).1
  have hxl : xs.length = (r.length + 1) * 6 := by have := hown.1; simpa using this
  have hS : ∀ {L H : Nat} {a : Option Addr} {kk : Fo}, Sl w2 L H a kk → (g < L ∨ H ≤ g) → Sl (((w2.setCell ⟨g, 3, none⟩ (.int .i64 s')).setCell ⟨g, 4, none⟩ (.int .i64 v')).setCell ⟨g, 5, none⟩ (.slice a2 (flen k') c2)) L H a kk := fun {L H a kk} hsl hg => by
    have h0 : Same L H w2 w2 := fun _ _ _ => rfl
    exact hsl.same (((h0.setCell hg _).setCell hg _).setCell hg _)
  refine .inr ⟨g, 0, rfl, hgl.1, by omega, fun i y hy => ?_⟩
  have hi := (List.getElem?_eq_some_iff.1 hy).1
  simp only [List.length_cons] at hi
  have hc : ∀ m, m < (r.length + 1) * 6 → (((w2.setCell ⟨g, 3, none⟩ (.int .i64 s')).setCell ⟨g, 4, none⟩ (.int .i64 v')).setCell ⟨g, 5, none⟩ (.slice a2 (flen k') c2)).cell? ⟨g, m, none⟩ = (((xs.set 3 (.int .i64 s')).set 4 (.int .i64 v')).set 5 (.slice a2 (flen k') c2))[m]? := fun m hm => h3.cellAt m (by simp; omega)
  cases i with
  | zero =>
    simp at hy
    subst hy
    obtain ⟨a1, c1, b1, d1, ⟨e0, e1, e2, e3, e4, e5⟩, ⟨L, H, hsl, f1, f2, f3⟩, _⟩ := hall 0 _ rfl
    refine ⟨a1, c1, a2, c2, ?_, ?_, ?_, ?_, ?_, ?_, (hS hsl (f3 g rfl)).mono f1 f2, (hS hl (.inl hgl.2)).mono (by omega) (Nat.le_refl _)⟩
    · rw [hc _ (by omega), List.getElem?_set_ne (by omega), List.getElem?_set_ne (by omega), List.getElem?_set_ne (by omega)]; exact e0
    · rw [hc _ (by omega), List.getElem?_set_ne (by omega), List.getElem?_set_ne (by omega), List.getElem?_set_ne (by omega)]; exact e1
    · rw [hc _ (by omega), List.getElem?_set_ne (by omega), List.getElem?_set_ne (by omega), List.getElem?_set_ne (by omega)]; exact e2
    · rw [hc _ (by omega), List.getElem?_set_ne (by omega), List.getElem?_set_ne (by omega)]; exact List.getElem?_set_self (by omega)
    · rw [hc _ (by omega), List.getElem?_set_ne (by omega)]; exact List.getElem?_set_self (by simp; omega)
    · rw [hc _ (by omega)]; exact List.getElem?_set_self (by simp; omega)
  | succ n =>
    obtain ⟨a1, c1, b1, d1, ⟨e0, e1, e2, e3, e4, e5⟩, ⟨L, H, hsl, f1, f2, f3⟩, L', H', hsl', f1', f2', f3'⟩ := hall (n + 1) y (by simpa using hy)
    refine ⟨a1, c1, b1, d1, ?_, ?_, ?_, ?_, ?_, ?_, (hS hsl (f3 g rfl)).mono f1 f2, (hS hsl' (f3' g rfl)).mono f1' f2'⟩
    · rw [hc _ (by omega), List.getElem?_set_ne (by omega), List.getElem?_set_ne (by omega), List.getElem?_set_ne (by omega), Nat.zero_add]; exact e0
    · rw [hc _ (by omega), List.getElem?_set_ne (by omega), List.getElem?_set_ne (by omega), List.getElem?_set_ne (by omega), Nat.zero_add]; exact e1
    · rw [hc _ (by omega), List.getElem?_set_ne (by omega), List.getElem?_set_ne (by omega), List.getElem?_set_ne (by omega), Nat.zero_add]; exact e2
    · rw [hc _ (by omega), List.getElem?_set_ne (by omega), List.getElem?_set_ne (by omega), List.getElem?_set_ne (by omega), Nat.zero_add]; exact e3
    · rw [hc _ (by omega), List.getElem?_set_ne (by omega), List.getElem?_set_ne (by omega), List.getElem?_set_ne (by omega), Nat.zero_add]; exact e4
    · rw [hc _ (by omega), List.getElem?_set_ne (by omega), List.getElem?_set_ne (by omega), List.getElem?_set_ne (by omega), Nat.zero_add]; exact e5
end Go.Proofs.Ytdkcbbhkoibplaa

/-! LA2: l71Any: equations, some spoilt. -/
namespace Go.Proofs.Ytdkcbbhkoibplaa
open Go.RowKit Go.Deep

set_option maxRecDepth 100000 in
set_option maxHeartbeats 2000000 in
theorem l71Any_any (most br p : Nat) (w : World) (hr : Rd w br p) (hp : p ≤ 1000000) (hm1 : 1 ≤ most) (hm2 : most ≤ 10) :
    Calls Try.prog 67 #[.pointer (some ⟨br, 0, none⟩), .int .i64 (most : Int)] w (AnyPost most br p w) := by
  have hlt := hr.lt
  have HR := Lib.hid hr
  clear hr
  go_enter Try.func67, Try.ntmps67
  go_wp2_with fail
  with_reducible refine (l71Eqs_any most br p _ HR.out hp hm1 hm2).mono ?_
  rintro e w1 ⟨es, A, C, p', rfl, hlen1, hlen2, hz, hp1, hp2, ha1, ho1⟩
  have HA1 := Lib.hid ha1
  have HO1 := Lib.hid ho1
  have HSZ : Hid (∀ x ∈ es, fsz x.1.2.2 ≤ 31000 ∧ fsz x.2.2.2 ≤ 31000) := fun x hx => by have := eqz_sz (hz x hx); omega
  have HZ := Lib.hid hz
  have hpp : p' ≤ p + 11 * 101 := Nat.le_trans hp2 (by have : (most + 1) * 101 ≤ 11 * 101 := Nat.mul_le_mul (by omega) (Nat.le_refl _); omega)
  clear ha1 ho1 hz hp2
  go_wp2_with fail
  with_reducible refine (pick_any 24 br p' _ (HA1.out.rd HR.out) (by omega) (by omega) (by omega)).mono ?_
  rintro e w2 ⟨y, rfl, hy, hb2⟩
  have ha2 : Adv w1 br (p' + 1) w2 := hb2
  have HA2 := Lib.hid (HA1.out.trans ha2)
  have HO2 := Lib.hid (HO1.out.adv ha2 hlt)
  clear ha2 hb2 HO1 HA1
  by_cases hy0 : y = 0
  · subst hy0
    obtain ⟨⟨⟨xs, xv, xk⟩, s, v, k⟩, r, rfl⟩ : ∃ x r, es = x :: r := by
      cases es with
      | nil => simp at hlen1
      | cons x r => exact ⟨x, r, rfl⟩
    have hpos : (0 : Int) < (((((xs, xv, xk), s, v, k) : Eqd) :: r).length : Int) := by simp
    obtain ⟨g, hAE, hg1, hg2⟩ : ∃ g, A = some ⟨g, 0, none⟩ ∧ w.heap.size ≤ g ∧ g < w2.heap.size := by
      obtain ⟨zs, hown, _⟩ := HO2.out
      obtain ⟨g, cap, hv, hb, hlt2⟩ := hown.form (by simp)
      simp only [Value.slice.injEq] at hv
      obtain ⟨rfl, _⟩ := hv
      exact ⟨g, rfl, hb, hlt2⟩
    subst hAE
    have hcells : ∀ {w' : World}, EOwn w' w.heap.size (((xs, xv, xk), s, v, k) :: r) (some ⟨g, 0, none⟩) C → ∃ a' c', w'.cell? ⟨g, 3, none⟩ = some (.int .i64 s) ∧ w'.cell? ⟨g, 4, none⟩ = some (.int .i64 v) ∧ w'.cell? ⟨g, 5, none⟩ = some (.slice a' (flen k) c') ∧ Sl w' 0 w'.heap.size a' k := fun {w'} h => by
      obtain ⟨b, o, hA, hb, hlt', _, _, a', c', _, _, _, d3, d4, d5, _, hl⟩ := h.esl.at (i := 0) (x := ((xs, xv, xk), s, v, k)) rfl
      cases hA
      exact ⟨a', c', d3, d4, d5, hl.mono (Nat.zero_le _) (Nat.le_refl _)⟩
    obtain ⟨a', c', hc3, hc4, hc5, hsl⟩ := hcells HO2.out
    have hsk := (eqz_sz (HZ.out _ List.mem_cons_self)).2
    dsimp only at hsk
    go_wp2_with fail
    with_reducible refine (l71Bad_any s v a' c' k br (p' + 1) 16 _ hsl (HA2.out.rd HR.out) (by omega) (by omega) (by omega)).mono ?_
    rintro e w3 ⟨s2, v2, a2, c2, k2, p2, rfl, hq1, hq2, hS2, ha3, hl2⟩
    clear hc3 hc4 hc5 hsl
    have hsz2 := HA2.out.size
    have HS0 := Lib.hid (HO2.out.set0 (s' := s2) (v' := v2) (c2 := c2) ha3 hlt hl2 hsz2)
    have HA3 := Lib.hid (HA2.out.trans ha3)
    obtain ⟨a'', c'', hc3, hc4, hc5, _⟩ := hcells (HO2.out.adv ha3 hlt)
    have hf3 : w3.frozen? ⟨g, 3, none⟩ = false := by obtain ⟨zs, hown, _⟩ := HO2.out.adv ha3 hlt; exact hown.frozenAt 3
    have hf4 : (w3.setCell ⟨g, 3, none⟩ (.int .i64 s2)).frozen? ⟨g, 4, none⟩ = false := by obtain ⟨zs, hown, _⟩ := HO2.out.adv ha3 hlt; exact (hown.stored 3 _).1.frozenAt 4
    have hf5 : ((w3.setCell ⟨g, 3, none⟩ (.int .i64 s2)).setCell ⟨g, 4, none⟩ (.int .i64 v2)).frozen? ⟨g, 5, none⟩ = false := by obtain ⟨zs, hown, _⟩ := HO2.out.adv ha3 hlt; exact ((hown.stored 3 _).1.stored 4 _).1.frozenAt 5
    have hd4 : (w3.setCell ⟨g, 3, none⟩ (.int .i64 s2)).cell? ⟨g, 4, none⟩ = some (.int .i64 v) := by
      rw [World.cell?_setCell_other _ _ _ _ (by simp)]; exact hc4
    have hd5 : ((w3.setCell ⟨g, 3, none⟩ (.int .i64 s2)).setCell ⟨g, 4, none⟩ (.int .i64 v2)).cell? ⟨g, 5, none⟩ = some (.slice a'' (flen k) c'') := by
      rw [World.cell?_setCell_other _ _ _ _ (by simp), World.cell?_setCell_other _ _ _ _ (by simp)]; exact hc5
    have HE : Hid (Adv w br p2 (((w3.setCell ⟨g, 3, none⟩ (.int .i64 s2)).setCell ⟨g, 4, none⟩ (.int .i64 v2)).setCell ⟨g, 5, none⟩ (.slice a2 (flen k2) c2))) := ((HA3.out.setCell hg1 _).setCell hg1 _).setCell hg1 _
    have HZ2 : Hid (∀ x ∈ (((xs, xv, xk), s2, v2, k2) :: r : List Eqd), fsz x.1.2.2 ≤ 31000 ∧ fsz x.2.2.2 ≤ 31000) := fun x hx => by
      rcases List.mem_cons.1 hx with rfl | hx
      · exact ⟨(HSZ.out _ List.mem_cons_self).1, by dsimp only; omega⟩
      · exact HSZ.out x (List.mem_cons_of_mem _ hx)
    clear ha3 hl2
    go_wp2_with fail
    go_ret
    exact ⟨((xs, xv, xk), s2, v2, k2) :: r, some ⟨g, 0, none⟩, C, p2, rfl, by simp, by simp at hlen2 ⊢; omega, HZ2.out, by omega, by omega, HE.out, HS0.out.mono (Nat.le_refl _) (by simp)⟩
  · have y0 : ((y : Int) == 0) = false := by simpa using hy0
    go_wp2_with fail
    go_ret
    exact ⟨es, A, C, p' + 1, rfl, hlen1, hlen2, HSZ.out, by omega, by omega, HA2.out, HO2.out.esl⟩
end Go.Proofs.Ytdkcbbhkoibplaa

/-! ES1: The specification's EqsOk. -/
namespace Go.Proofs.Ytdkcbbhkoibplaa
open Go.RowKit Go.Deep

set_option maxRecDepth 100000 in
set_option maxHeartbeats 2000000 in
theorem sEqsOk_any (es : List Eqd) (A : Option Addr) (C : Nat) (w : World) (hb : ESl w 0 w.heap.size A es) (hl : es.length ≤ 9223372036854775807) :
    Calls Try.prog 39 #[.slice A es.length C] w fun e w' => e = .returned (.bool (okEs es)) ∧ Below w.heap.size w w' := by
  have HB := Lib.hid hb
  clear hb
  by_cases hbig : 6 < es.length
  · have HF : Hid (okEs es = false) := by
      cases h : okEs es with
      | false => exact rfl
      | true => have := ((okEs_iff es).1 h).1; omega
    go_enter Try.func39, Try.ntmps39
    go_wp2_with fail
    go_ret
    exact ⟨by rw [HF.out]; rfl, Below.refl _ _⟩
  go_enter Try.func39, Try.ntmps39
  go_wp2_with fail
  go_loopw [3] (fun i wr => ∃ j : Nat, i = .int .i64 j ∧ j ≤ es.length ∧ Hid ((es.take j).all okE = true) ∧ Hid (Below w.heap.size w wr)) (fun i _ => es.length - (intOf i).toNat)
  case atStart => exact ⟨0, rfl, Nat.zero_le _, rfl, Below.refl _ _⟩
  case round =>
    obtain ⟨j, rfl, hj, HS, HLW⟩ := hrel
    have hws := HLW.out.size
    by_cases hlt : j < es.length
    · obtain ⟨x, hx⟩ : ∃ x, es[j]? = some x := ⟨es[j], List.getElem?_eq_getElem hlt⟩
      obtain ⟨⟨s, v, k⟩, s', v', k'⟩ := x
      have hbr := HB.out.below HLW.out
      obtain ⟨b, o, rfl, _, hbB, a1, d1, a2, d2, c0, c1, c2, c3, c4, c5, hsl, hsl2⟩ := hbr.at hx
      dsimp only at c0 c1 c2 c3 c4 c5 hsl hsl2
      have g1 : (0 : Int) ≤ (j : Int) := by omega
      have g2 : (j : Int) < (es.length : Int) := by omega
      have HX := Lib.hid hx
      have HSL : Hid (Sl wr 0 wr.heap.size a1 k) := hsl.mono (Nat.le_refl _) hws
      have HSL2 : Hid (Sl wr 0 wr.heap.size a2 k') := hsl2.mono (Nat.le_refl _) hws
      clear hx hsl hsl2
      go_wp2_with fail
      with_reducible refine (sTermOk_any s v a1 d1 k _ HSL.out).mono ?_
      rintro e w2 ⟨rfl, hb2⟩
      have e3 := cell_low hb2 c3
      have e4 := cell_low hb2 c4
      have e5 := cell_low hb2 c5
      have HL2 := Lib.hid (HLW.out.trans (hb2.mono hws))
      have HSL3 := Lib.hid (HSL2.out.next hb2)
      clear hb2 c0 c1 c2 c3 c4 c5 HSL HSL2
      cases hok : okW s v k 16 with
      | false =>
        have HF : Hid (okEs es = false) := all_no HX.out (by simp only [okE, okT3, hok, Bool.false_and])
        clear hok
        go_wp2_with fail
        go_ret
        exact ⟨by rw [HF.out]; rfl, HL2.out⟩
      | true =>
        have HOK := Lib.hid hok
        clear hok
        go_wp2_with fail
        with_reducible refine (sTermOk_any s' v' a2 d2 k' _ HSL3.out).mono ?_
        rintro e w3 ⟨rfl, hb3⟩
        have HL3 := Lib.hid (HL2.out.trans (hb3.mono HL2.out.size))
        clear hb3 e3 e4 e5 HSL3
        cases hok : okW s' v' k' 16 with
        | false =>
          have HF : Hid (okEs es = false) := all_no HX.out (by simp only [okE, okT3, hok, Bool.and_false])
          clear hok
          go_wp2_with fail
          go_ret
          exact ⟨by rw [HF.out]; rfl, HL3.out⟩
        | true =>
          have HA : Hid ((es.take (j + 1)).all okE = true) := all_take HS.out HX.out (by simp only [okE, okT3, hok, HOK.out, Bool.and_self])
          clear hok
          go_wp2_with fail
          go_roundw
          case rel => exact ⟨j + 1, by go_num, by omega, HA, HL3⟩
          case measure => simp [intOf]; omega
    · have HE : Hid (okEs es = true) := by
        refine (okEs_iff es).2 ⟨by omega, fun x hx => ?_⟩
        have := HS.out
        rw [List.take_of_length_le (by omega)] at this
        exact List.all_eq_true.1 this x hx
      go_wp2_with fail
      go_ret
      exact ⟨by rw [HE.out]; rfl, HLW.out⟩
end Go.Proofs.Ytdkcbbhkoibplaa

/-! SP1: What a variable stands for: the specification's l2Of. -/
namespace Go.Proofs.Ytdkcbbhkoibplaa
open Go.RowKit Go.Deep

def OfPost (bs : List Bd) (x : Int) (w : World) (e : Ending) (w' : World) : Prop :=
  ∃ a c, e = .returned (.agg #[.int .i64 (tsub (sv bs) 0 x .nil).1, .int .i64 (tsub (sv bs) 0 x .nil).2.1, .slice a (flen (tsub (sv bs) 0 x .nil).2.2) c]) ∧ Below w.heap.size w w' ∧ Sl w' 0 w'.heap.size a (tsub (sv bs) 0 x .nil).2.2

theorem of_end {w : World} {bs : List Bd} {x s v : Int} {k : Fo} {a : Option Addr} {c : Nat} {Z : Obj} (hr : tsub (sv bs) 0 x .nil = (s, v, k)) (hl : Sl w 0 w.heap.size a k) :
    OfPost bs x w (.returned (.agg #[.int .i64 s, .int .i64 v, .slice a (flen k) c])) (w.alloc Z) := by
  have hb : Below w.heap.size w (w.alloc Z) := (Below.refl _ _).alloc (Nat.le_refl _) Z
  refine ⟨a, c, by rw [hr], hb, ?_⟩
  rw [hr]
  exact (hl.below hb).mono (Nat.le_refl _) hb.size

set_option maxRecDepth 100000 in
set_option maxHeartbeats 1000000 in
theorem l2Of_any (bs : List Bd) (A : Option Addr) (C : Nat) (x : Int) (w : World) (hb : BSl w 0 w.heap.size A bs) (hl : bs.length ≤ 9223372036854775807) :
    Calls Try.prog 85 #[.slice A bs.length C, .int .i64 x] w (OfPost bs x w) := by
  have HB := Lib.hid hb
  clear hb
  go_enter Try.func85, Try.ntmps85
  go_wp2_with fail
  go_loopw [5] (fun i wr => ∃ j : Nat, i = .int .i64 j ∧ j ≤ bs.length ∧ wr = w.alloc (.cells #[.int .i64 0, .int .i64 0, .slice none 0 0] 35) ∧ Hid (sv bs x = sv (bs.drop j) x)) (fun i _ => bs.length - (intOf i).toNat)
  case atStart => exact ⟨0, rfl, Nat.zero_le _, rfl, by simp [Hid]⟩
  case round =>
    obtain ⟨j, rfl, hj, rfl, HS⟩ := hrel
    by_cases hlt : j < bs.length
    · obtain ⟨y, hy⟩ : ∃ y, bs[j]? = some y := ⟨bs[j], List.getElem?_eq_getElem hlt⟩
      obtain ⟨xv, s, v, k⟩ := y
      have hbr := HB.out
      rcases hbr with hbr | ⟨b, o, rfl, _, hbB, hcells⟩
      · subst hbr; simp at hy
      obtain ⟨a', c', c0, c1, c2, c3, hsl⟩ := hcells j _ hy
      dsimp only at c0 c1 c2 c3 hsl
      have d0 := (World.cell?_alloc_lt w (.cells #[.int .i64 0, .int .i64 0, .slice none 0 0] 35) ⟨b, o + j * 4, none⟩ hbB).trans c0
      have d1 := (World.cell?_alloc_lt w (.cells #[.int .i64 0, .int .i64 0, .slice none 0 0] 35) ⟨b, o + j * 4 + 1, none⟩ hbB).trans c1
      have d2 := (World.cell?_alloc_lt w (.cells #[.int .i64 0, .int .i64 0, .slice none 0 0] 35) ⟨b, o + j * 4 + 1 + 1, none⟩ hbB).trans c2
      have d3 := (World.cell?_alloc_lt w (.cells #[.int .i64 0, .int .i64 0, .slice none 0 0] 35) ⟨b, o + j * 4 + 1 + 2, none⟩ hbB).trans c3
      have HD := Lib.hid (drop_bd hy)
      have HSL := Lib.hid hsl
      have g1 : (0 : Int) ≤ (j : Int) := by omega
      have g2 : (j : Int) < (bs.length : Int) := by omega
      clear hcells hy c0 c1 c2 c3 hsl
      by_cases hx : xv = x
      · have hxe : (xv == x) = true := by simpa using hx
        have HT : Hid (tsub (sv bs) 0 x .nil = (s, v, k)) := by
          rw [Hid, tsub, if_pos rfl, HS.out, HD.out]; simp only [sv]; rw [if_pos hx]; rfl
        clear hx HS HD
        go_wp2_with fail
        refine bodyPost_ret (v := .agg #[.int .i64 s, .int .i64 v, .slice a' (flen k) c']) ?_ rfl (of_end HT.out HSL.out)
        simp [results, Try.results85, go_sem]
      · have hxe : (xv == x) = false := by simpa using hx
        have HN : Hid (sv bs x = sv (bs.drop (j + 1)) x) := by rw [Hid, HS.out, HD.out]; simp only [sv]; rw [if_neg hx]
        clear hx HS HD
        go_wp2_with fail
        go_roundw
        case rel => exact ⟨j + 1, by go_num, by omega, trivial, HN⟩
        case measure => simp [intOf]; omega
    · have HT : Hid (tsub (sv bs) 0 x .nil = (0, x, .nil)) := by
        rw [Hid, tsub, if_pos rfl, HS.out, List.drop_eq_nil_of_le (by omega)]; rfl
      clear HS
      go_wp2_with fail
      refine bodyPost_ret (v := .agg #[.int .i64 0, .int .i64 x, .slice none 0 0]) ?_ rfl (of_end (k := .nil) HT.out (.inl rfl))
      simp [results, Try.results85, go_sem]
end Go.Proofs.Ytdkcbbhkoibplaa

/-! AD: Rows of binds whose terms lie in old memory; the specification's l2Add: a bind put in order. -/
namespace Go.Proofs.Ytdkcbbhkoibplaa
open Go.RowKit Go.Deep

theorem ladd_end {bs : List Bd} {b : Bd} {j : Nat} (h : bs.length ≤ j) : ladd (bs.drop j) b = [b] := by
  rw [List.drop_eq_nil_of_le h]; rfl

end Go.Proofs.Ytdkcbbhkoibplaa
