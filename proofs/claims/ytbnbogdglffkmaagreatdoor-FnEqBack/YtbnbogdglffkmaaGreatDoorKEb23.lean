/- Several texts in one: EO, LE2, LA2, DEW, ETX, B3, WDi, Frame, FrameD. -/
import Derived.Test.YtbnbogdglffkmaaGreatDoorKEb15
import Derived.Test.YtbnbogdglffkmaaGreatDoorKEb17
import Derived.Test.YtbnbogdglffkmaaGreatDoorKEb22
import Derived.Test.YtbnbogdglffkmaaGreatDoorKEb16
import Derived.Deep.AppendLies
import Derived.Test.YtbnbogdglffkmaaGreatDoorKEb18
import Derived.Test.YtbnbogdglffkmaaGreatDoorKEb13
import Derived.Test.YtbnbogdglffkmaaGreatDoorKEb4
import Derived.Test.YtbnbogdglffkmaaGreatDoorKEb1
import Derived.Test.YtbnbogdglffkmaaGreatDoorKEb2
import Derived.Test.YtbnbogdglffkmaaGreatDoorKEb3
import Derived.WalkKit
import Derived.ProofKit
import Derived.OpenShut
import Derived.ShutString
import Derived.ChangeOld
import Derived.Below
import Derived.Test.YtbnbogdglffkmaaGreatDoorTie
import Derived.Test.YtbnbogdglffkmaaGreatDoorCards
import Derived.Test.YtbnbogdglffkmaaGreatDoorKEb10
import Derived.Stop.LaidErr
import Derived.Stop.Joined
import Derived.LaidMore
import Derived.Lay
import Derived.SevenTiedAt

/-! EO: A row of equations of one's own: what is appended, what is written. Plain lemmas. -/
namespace Go.Proofs.YtbnbogdglffkmaaGreatDoor
open Go.RowKit Go.Deep

/-- What the six cells of an equation hold. -/
def ECells (xs : List Value) (i : Nat) (x : Eqd) (a1 : Option Addr) (c1 : Nat) (a2 : Option Addr) (c2 : Nat) : Prop :=
  xs[i * 6]? = some (.int .i64 x.1.1) ∧ xs[i * 6 + 1]? = some (.int .i64 x.1.2.1) ∧ xs[i * 6 + 2]? = some (.slice a1 (flen x.1.2.2) c1) ∧ xs[i * 6 + 3]? = some (.int .i64 x.2.1) ∧ xs[i * 6 + 4]? = some (.int .i64 x.2.2.1) ∧ xs[i * 6 + 5]? = some (.slice a2 (flen x.2.2.2) c2)
/-- Both sides lie in blocks from base on, none of them the row's own. -/
def ESides (w : World) (base : Nat) (g : Option Nat) (x : Eqd) (a1 : Option Addr) (a2 : Option Addr) : Prop :=
  ∃ L H, Sl w L H a1 x.1.2.2 ∧ Sl w L H a2 x.2.2.2 ∧ base ≤ L ∧ H ≤ w.heap.size ∧ ∀ g', g = some g' → g' < L ∨ H ≤ g'
/-- The slice is a row of equations of the call's own. -/
def EOwn (w : World) (base : Nat) (es : List Eqd) (A : Option Addr) (C : Nat) : Prop :=
  ∃ xs, w.ownsRow base 27 6 (.slice A es.length C) es.length xs ∧ ∀ (i : Nat) (x : Eqd), es[i]? = some x → ∃ a1 c1 a2 c2, ECells xs i x a1 c1 a2 c2 ∧ (∃ L H, Sl w L H a1 x.1.2.2 ∧ base ≤ L ∧ H ≤ w.heap.size ∧ ∀ g, (Value.slice A es.length C).ownBlock = some g → g < L ∨ H ≤ g) ∧ ∃ L H, Sl w L H a2 x.2.2.2 ∧ base ≤ L ∧ H ≤ w.heap.size ∧ ∀ g, (Value.slice A es.length C).ownBlock = some g → g < L ∨ H ≤ g
theorem EOwn.adv {w w2 : World} {base br p : Nat} {es : List Eqd} {A : Option Addr} {C : Nat} (h : EOwn w base es A C) (ha : Adv w br p w2) (hb : br < base) : EOwn w2 base es A C := by
  obtain ⟨xs, hown, hall⟩ := h
  have hs := ha.size
  refine ⟨xs, own_block hown fun g hg => ?_, fun i x hx => ?_⟩
  · have h1 := hown.lt g hg
    exact ha.same (lo := g) (B := g + 1) (by omega) (by omega) g (Nat.le_refl _) (by omega)
  · obtain ⟨a1, c1, a2, c2, hc, ⟨L, H, hl, h1, h2, h3⟩, L', H', hl', h1', h2', h3'⟩ := hall i x hx
    exact ⟨a1, c1, a2, c2, hc, ⟨L, H, hl.same (ha.same h2 (.inl (by omega))), h1, by omega, h3⟩, L', H', hl'.same (ha.same h2' (.inl (by omega))), h1', by omega, h3'⟩
theorem EOwn.esl {w : World} {base : Nat} {es : List Eqd} {A : Option Addr} {C : Nat} (h : EOwn w base es A C) : ESl w base w.heap.size A es := by
  obtain ⟨xs, hown, hall⟩ := h
  rcases Nat.eq_zero_or_pos es.length with h0 | h0
  · exact .inl (List.eq_nil_of_length_eq_zero h0)
  · obtain ⟨g, cap, hv, hb, hlt⟩ := hown.form h0
    have hA : A = some ⟨g, 0, none⟩ := by simp only [Value.slice.injEq] at hv; exact hv.1
    subst hA
    refine .inr ⟨g, 0, rfl, hb, hlt, fun i x hx => ?_⟩
    have hi := (List.getElem?_eq_some_iff.1 hx).1
    obtain ⟨a1, c1, a2, c2, ⟨c0, d1, d2, d3, d4, d5⟩, ⟨L, H, hl, h1, h2, h3⟩, L', H', hl', h1', h2', h3'⟩ := hall i x hx
    refine ⟨a1, c1, a2, c2, ?_, ?_, ?_, ?_, ?_, ?_, hl.mono h1 h2, hl'.mono h1' h2'⟩
    · rw [Nat.zero_add, hown.cellAt _ (by omega)]; exact c0
    · rw [Nat.zero_add, hown.cellAt _ (by omega)]; exact d1
    · rw [Nat.zero_add, hown.cellAt _ (by omega)]; exact d2
    · rw [Nat.zero_add, hown.cellAt _ (by omega)]; exact d3
    · rw [Nat.zero_add, show i * 6 + 3 + 1 = i * 6 + 4 from rfl, hown.cellAt _ (by omega)]; exact d4
    · rw [Nat.zero_add, show i * 6 + 3 + 2 = i * 6 + 5 from rfl, hown.cellAt _ (by omega)]; exact d5
/-- One more equation. w: where the row stood; w2: where the new terms lie too; blk: the block that shows it to append. -/
theorem EOwn.append {w0 w w2 w3 : World} {base br p : Nat} {es : List Eqd} {A : Option Addr} {C g cap : Nat} {blk : Obj} {s v s' v' : Int} {k k' : Fo} {a2 a2' : Option Addr} {c2 c2' : Nat} {xs : List Value} (hown : w.ownsRow base 27 6 (.slice A es.length C) es.length xs)
    (hall : ∀ (i : Nat) (x : Eqd), es[i]? = some x → ∃ a1 c1 a2 c2, ECells xs i x a1 c1 a2 c2 ∧ (∃ L H, Sl w L H a1 x.1.2.2 ∧ base ≤ L ∧ H ≤ w.heap.size ∧ ∀ g, (Value.slice A es.length C).ownBlock = some g → g < L ∨ H ≤ g) ∧ ∃ L H, Sl w L H a2 x.2.2.2 ∧ base ≤ L ∧ H ≤ w.heap.size ∧ ∀ g, (Value.slice A es.length C).ownBlock = some g → g < L ∨ H ≤ g)
    (hown3 : w3.ownsRow base 27 6 (.slice (some ⟨g, 0, none⟩) (es.length + 1) cap) (es.length + 1) (xs ++ [.int .i64 s, .int .i64 v, .slice a2 (flen k) c2, .int .i64 s', .int .i64 v', .slice a2' (flen k') c2'])) (ha : Adv w br p w2) (hbr : br < base) (hl2 : Sl w2 w.heap.size w2.heap.size a2 k) (hl2' : Sl w2 w.heap.size w2.heap.size a2' k') (hbase : base ≤ w.heap.size)
    (hgrow : (w2.alloc blk).grownBy w3 (Value.slice A es.length C).ownBlock) (hatg : (Value.slice A es.length C).ownBlock = some g ∨ g = w2.heap.size + 1) (ha0 : Adv w0 br p w2) (hw0 : w0.heap.size ≤ base) : EOwn w3 base (es ++ [((s, v, k), s', v', k')]) (some ⟨g, 0, none⟩) cap ∧ Adv w0 br p w3 := by
  have hs2 := ha.size
  have hs3 := hgrow.size
  simp at hs3
  have hxl : xs.length = es.length * 6 := hown.1
  have hl : (es ++ [(((s, v, k) : Tm3), s', v', k')]).length = es.length + 1 := by simp
  have hold : ∀ {L H : Nat} {a : Option Addr} {kk : Fo}, Sl w L H a kk → base ≤ L → H ≤ w.heap.size → (∀ g, (Value.slice A es.length C).ownBlock = some g → g < L ∨ H ≤ g) → ∃ L H, Sl w3 L H a kk ∧ base ≤ L ∧ H ≤ w3.heap.size ∧ ∀ g', (Value.slice (some ⟨g, 0, none⟩) (es.length + 1) cap).ownBlock = some g' → g' < L ∨ H ≤ g' := fun {L H a kk} hsl h1 h2 h3 => by
    refine ⟨L, H, hsl.same (fun b hb1 hb2 => ?_), h1, by omega, fun g' hg' => ?_⟩
    · rw [hgrow.block b (by simp; omega) (fun e => by have := h3 b e.symm; omega), Below.heap_alloc _ _ _ (by omega)]
      exact ha.same h2 (.inl (by omega)) b hb1 hb2
    · have : g' = g := by simpa [Value.ownBlock] using hg'.symm
      subst this
      rcases hatg with hg1 | hg1
      · exact h3 _ hg1
      · omega
  have hnew : ∀ {a : Option Addr} {kk : Fo}, Sl w2 w.heap.size w2.heap.size a kk → ∃ L H, Sl w3 L H a kk ∧ base ≤ L ∧ H ≤ w3.heap.size ∧ ∀ g', (Value.slice (some ⟨g, 0, none⟩) (es.length + 1) cap).ownBlock = some g' → g' < L ∨ H ≤ g' := fun {a kk} hsl => by
    refine ⟨w.heap.size, w2.heap.size, hsl.same (fun b hb1 hb2 => ?_), hbase, by omega, fun g' hg' => ?_⟩
    · rw [hgrow.block b (by simp; omega) (fun e => by have := (hown.lt b e.symm).2; omega), Below.heap_alloc _ _ _ (by omega)]
    · have : g' = g := by simpa [Value.ownBlock] using hg'.symm
      subst this
      rcases hatg with hg1 | hg1
      · exact .inl (hown.lt _ hg1).2
      · exact .inr (by omega)
  refine ⟨⟨xs ++ [.int .i64 s, .int .i64 v, .slice a2 (flen k) c2, .int .i64 s', .int .i64 v', .slice a2' (flen k') c2'], by rw [hl]; exact hown3, fun i y hy => ?_⟩, Below.grown (ha0.alloc blk) hgrow (by have := ha0.size; simp; omega) (fun q hq => by have := (hown.lt q hq).1; omega)⟩
  rw [hl]
  by_cases hi : i < es.length
  · rw [List.getElem?_append_left hi] at hy
    obtain ⟨a1, c1, b1, d1, ⟨e0, e1, e2, e3, e4, e5⟩, ⟨L, H, hsl, h1, h2, h3⟩, L', H', hsl', h1', h2', h3'⟩ := hall i y hy
    exact ⟨a1, c1, b1, d1, ⟨by rw [List.getElem?_append_left (by omega)]; exact e0, by rw [List.getElem?_append_left (by omega)]; exact e1, by rw [List.getElem?_append_left (by omega)]; exact e2, by rw [List.getElem?_append_left (by omega)]; exact e3, by rw [List.getElem?_append_left (by omega)]; exact e4, by rw [List.getElem?_append_left (by omega)]; exact e5⟩, hold hsl h1 h2 h3, hold hsl' h1' h2' h3'⟩
  · have hi' : i = es.length := by have := (List.getElem?_eq_some_iff.1 hy).1; omega
    subst hi'
    simp at hy
    subst hy
    refine ⟨a2, c2, a2', c2', ⟨?_, ?_, ?_, ?_, ?_, ?_⟩, hnew hl2, hnew hl2'⟩
    · rw [List.getElem?_append_right (by omega), hxl]; simp
    · rw [List.getElem?_append_right (by omega), hxl, show es.length * 6 + 1 - es.length * 6 = 1 from by omega]; rfl
    · rw [List.getElem?_append_right (by omega), hxl, show es.length * 6 + 2 - es.length * 6 = 2 from by omega]; rfl
    · rw [List.getElem?_append_right (by omega), hxl, show es.length * 6 + 3 - es.length * 6 = 3 from by omega]; rfl
    · rw [List.getElem?_append_right (by omega), hxl, show es.length * 6 + 4 - es.length * 6 = 4 from by omega]; rfl
    · rw [List.getElem?_append_right (by omega), hxl, show es.length * 6 + 5 - es.length * 6 = 5 from by omega]; rfl
theorem Tryz.infoEq : ∃ i, Tryz.prog.info? 27 = some i ∧ i.zero = some (.agg #[.int .i64 0, .int .i64 0, .slice none 0 0, .int .i64 0, .int .i64 0, .slice none 0 0]) ∧ i.size = 6 ∧ i.bytes = 80 := by
  have h : (Tryz.prog.info? 27).map (fun i => (i.zero, i.size, i.bytes)) = some (some (.agg #[.int .i64 0, .int .i64 0, .slice none 0 0, .int .i64 0, .int .i64 0, .slice none 0 0]), 6, 80) := by kernel_rfl
  obtain ⟨i, hi, hz⟩ := Option.map_eq_some_iff.1 h
  simp only [Prod.mk.injEq] at hz
  exact ⟨i, hi, hz.1, hz.2.1, hz.2.2⟩
end Go.Proofs.YtbnbogdglffkmaaGreatDoor

/-! LE2: l71Eqs, l71Any: drawn lists of equations. -/
namespace Go.Proofs.YtbnbogdglffkmaaGreatDoor
open Go.RowKit Go.Deep

/-- Valid, without marks. -/
def EqZ (x : Eqd) : Prop := okE x = true ∧ Zf x.1.2.2 ∧ Zf x.2.2.2
theorem eqz_of {s v s' v' : Int} {k k' : Fo} (h : OkZ s v k) (hz : fsz k < 16) (h' : OkZ s' v' k') (hz' : fsz k' < 16) : EqZ ((s, v, k), s', v', k') := by
  refine ⟨?_, h.2.2, h'.2.2⟩
  simp only [okE, okT3, Bool.and_eq_true]
  exact ⟨(okW_iff _ _ _ _).2 ⟨h.1, h.2.1, by omega⟩, (okW_iff _ _ _ _).2 ⟨h'.1, h'.2.1, by omega⟩⟩
def EqsPost (most br p : Nat) (w : World) (e : Ending) (w' : World) : Prop :=
  ∃ es A C p', e = .returned (.slice A (List.length es) C) ∧ 1 ≤ es.length ∧ es.length ≤ most ∧ (∀ x ∈ es, EqZ x) ∧ p ≤ p' ∧ p' ≤ p + (most + 1) * 101 ∧ Adv w br p' w' ∧ EOwn w' w.heap.size es A C

set_option maxRecDepth 100000 in
set_option maxHeartbeats 2000000 in
theorem l71Eqs_any (most br p : Nat) (w : World) (hr : Rd w br p) (hp : p ≤ 1000000) (hm1 : 1 ≤ most) (hm2 : most ≤ 10) :
    Calls Tryz.prog 24 #[.pointer (some ⟨br, 0, none⟩), .int .i64 (most : Int)] w (EqsPost most br p w) := by
  have hlt := hr.lt
  obtain ⟨ti, hti, htz, hts, htb⟩ := Tryz.infoEq
  have HTI : Hid (Tryz.prog.info? 27 = some ti ∧ ti.zero = some (.agg #[.int .i64 0, .int .i64 0, .slice none 0 0, .int .i64 0, .int .i64 0, .slice none 0 0]) ∧ ti.size = 6 ∧ ti.bytes = 80) := ⟨hti, htz, hts, htb⟩
  have HA0 : Hid (Adv w br p (w.alloc (.cells #[] 27))) := Adv.start hr ((Below.refl _ _).alloc (Nat.le_refl _) _)
  have HO0 : Hid (EOwn (w.alloc (.cells #[] 27)) w.heap.size [] (some ⟨w.heap.size, 0, none⟩) 0) := ⟨[], ⟨rfl, .inr ⟨w.heap.size, 0, #[], rfl, Nat.le_refl _, heap_alloc_new _ _, Nat.le_refl _, by decide, rfl, rfl⟩⟩, fun i x hx => by simp at hx⟩
  have HR := Lib.hid hr
  clear hr hti htz hts htb
  go_enter Tryz.func24, Tryz.ntmps24
  go_wp2_with fail
  with_reducible refine (pick_any (most : Int) br p _ (HA0.out.rd HR.out) (by omega) (by omega) (by omega)).mono ?_
  rintro e w1 ⟨y, rfl, hy, hb⟩
  have ha1 : Adv (w.alloc (.cells #[] 27)) br (p + 1) w1 := hb
  have hy1 : y < most := by omega
  have HA1 := Lib.hid (HA0.out.trans ha1)
  have HO1 := Lib.hid (HO0.out.adv ha1 hlt)
  clear hb ha1 hy HO0 HA0
  go_wp2_with fail
  go_loopw [5, 6] (fun t i wr => ∃ (n : Nat) (es : List Eqd) (A : Option Addr) (C p' : Nat), t = .slice A es.length C ∧ i = .int .i64 n ∧ n + es.length = y + 1 ∧ Hid (EOwn wr w.heap.size es A C) ∧ Hid (Adv w br p' wr) ∧ p + 1 ≤ p' ∧ p' ≤ p + 1 + es.length * 100 ∧ Hid (∀ x ∈ es, EqZ x)) (fun _ i _ => (intOf i).toNat)
  case atStart => exact ⟨y + 1, [], _, _, p + 1, rfl, by go_num, by simp, HO1, HA1, Nat.le_refl _, by simp, fun x hx => by simp at hx⟩
  case round =>
    clear HO1 HA1
    obtain ⟨n, es, A, C, p', rfl, rfl, hn, HO, HA, hp1, hp2, HZ⟩ := hrel
    by_cases hnv : 0 < n
    · have g1 : (0 : Int) < (n : Int) := by omega
      have HR1 := Lib.hid (HA.out.rd HR.out)
      go_wp2_with fail
      with_reducible refine (l71Eq_any br p' _ HR1.out (by omega)).mono ?_
      rintro e w2 ⟨s, v, a2, c2, k, s', v', a2', c2', k', p2, rfl, ok1, z1, ok2, z2, hpp1, hpp2, ha2, hl2, hl2'⟩
      obtain ⟨xs, hown, hall⟩ := HO.out
      have hs1 := HA.out.size
      have hs2 := ha2.size
      have HOWN2 : Hid (w2.ownsRow w.heap.size 27 6 (.slice A es.length C) es.length xs) := own_block hown fun g hg => by
        have h1 := hown.lt g hg
        exact ha2.same (lo := g) (B := g + 1) (by omega) (by omega) g (Nat.le_refl _) (by omega)
      have HAP := Lib.hid (fun g cap w3 => EOwn.append (w0 := w) (w2 := w2) (br := br) (p := p2) (k := k) (a2 := a2) (k' := k') (a2' := a2') (g := g) (cap := cap) (w3 := w3) (blk := .cells #[.int .i64 s, .int .i64 v, .slice a2 (flen k) c2, .int .i64 s', .int .i64 v', .slice a2' (flen k') c2'] 27) (s := s) (v := v) (c2 := c2) (s' := s') (v' := v') (c2' := c2') hown hall)
      have HA2 := Lib.hid ha2
      have HL2 := Lib.hid hl2
      have HL2' := Lib.hid hl2'
      have HA02 := Lib.hid (HA.out.trans ha2)
      have HZ2 : Hid (EqZ ((s, v, k), s', v', k')) := eqz_of ok1 z1 ok2 z2
      clear hown hall ha2 hl2 hl2' HO ok1 z1 ok2 z2
      go_wp2_with (at_builtin; refine wpList_append_lies _ rfl _ _ 37 rfl w.heap.size 27 ti _ 6 80 Tryz.underlying37 HTI.out.1 HTI.out.2.1 HTI.out.2.2.1 HTI.out.2.2.2 rfl (by omega) (.slice A es.length C) es.length xs rfl (HOWN2.out.alloc _) ⟨w2.heap.size, 0, none⟩ 1 1 [.int .i64 s, .int .i64 v, .slice a2 (flen k) c2, .int .i64 s', .int .i64 v', .slice a2' (flen k') c2'] rfl rfl (World.news_of_block (heap_alloc_new _ _)) (by simp [Value.oneCell']) (by omega) (by unfold maxLen; omega) (by omega) (by simp; omega) (w2.heap.size + 1) (by simp) ?_; intro g cap w3 hown3 hgrow3 hat3 hg3; have HX3 := Lib.hid (HAP.out g cap w3 hown3 HA2.out hlt HL2.out HL2'.out hs1 hgrow3 hat3 HA02.out (Nat.le_refl _)); clear hown3 hgrow3 hat3 hg3)
      go_roundw
      case rel =>
        have hl2' : (es ++ [(((s, v, k) : Tm3), s', v', k')]).length = es.length + 1 := by simp
        refine ⟨n - 1, es ++ [((s, v, k), s', v', k')], some ⟨g, 0, none⟩, cap, p2, by rw [hl2'], by go_num, by omega, HX3.out.1, HX3.out.2, by omega, by omega, ?_⟩
        intro x hx
        rcases List.mem_append.1 hx with hx | hx
        · exact HZ.out x hx
        · simp only [List.mem_singleton] at hx
          subst hx
          exact HZ2.out
      case measure => simp [intOf]; omega
    · obtain rfl : n = 0 := by omega
      go_wp2_with fail
      go_ret
      exact ⟨es, A, C, p', rfl, by omega, by omega, HZ.out, by omega, by omega, HA.out, HO.out⟩

def AnyPost (most br p : Nat) (w : World) (e : Ending) (w' : World) : Prop :=
  ∃ es A C p', e = .returned (.slice A (List.length es) C) ∧ 1 ≤ es.length ∧ es.length ≤ most ∧ (∀ x ∈ es, fsz x.1.2.2 ≤ 31000 ∧ fsz x.2.2.2 ≤ 31000) ∧ p ≤ p' ∧ p' ≤ p + 3000 ∧ Adv w br p' w' ∧ ESl w' w.heap.size w'.heap.size A es

theorem eqz_sz {x : Eqd} (h : EqZ x) : fsz x.1.2.2 ≤ 15 ∧ fsz x.2.2.2 ≤ 15 := by
  obtain ⟨h, _, _⟩ := h
  simp only [okE, okT3, Bool.and_eq_true, okW_iff] at h
  obtain ⟨⟨_, _, h1⟩, _, _, h2⟩ := h
  omega
/-- The first equation's second side is another one. -/
theorem EOwn.set0 {w w2 : World} {base br p : Nat} {x1 : Tm3} {s v s' v' : Int} {k k' : Fo} {r : List Eqd} {g C : Nat} {a2 : Option Addr} {c2 : Nat} (h : EOwn w base ((x1, s, v, k) :: r) (some ⟨g, 0, none⟩) C) (ha : Adv w br p w2) (hbr : br < base) (hl : Sl w2 w.heap.size w2.heap.size a2 k') (hbase : base ≤ w.heap.size) :
    ESl (((w2.setCell ⟨g, 3, none⟩ (.int .i64 s')).setCell ⟨g, 4, none⟩ (.int .i64 v')).setCell ⟨g, 5, none⟩ (.slice a2 (flen k') c2)) base w2.heap.size (some ⟨g, 0, none⟩) ((x1, s', v', k') :: r) := by
  obtain ⟨xs, hown, hall⟩ := h.adv ha hbr
  obtain ⟨xs0, hown0, _⟩ := h
  have hs := ha.size
  have hgl := hown0.lt g rfl
  have h1 := (hown.stored 3 (.int .i64 s')).1
  have h2 := (h1.stored 4 (.int .i64 v')).1
  have h3 := (h2.stored 5 (.slice a2 (flen k') c2)).1
  have hxl : xs.length = (r.length + 1) * 6 := by have := hown.1; simpa using this
  have hS : ∀ {L H : Nat} {a : Option Addr} {kk : Fo}, Sl w2 L H a kk → (g < L ∨ H ≤ g) → Sl (((w2.setCell ⟨g, 3, none⟩ (.int .i64 s')).setCell ⟨g, 4, none⟩ (.int .i64 v')).setCell ⟨g, 5, none⟩ (.slice a2 (flen k') c2)) L H a kk := fun {L H a kk} hsl hg => by
    have h0 : Same L H w2 w2 := fun _ _ _ => rfl
    exact hsl.same (((h0.setCell hg _).setCell hg _).setCell hg _)
  refine .inr ⟨g, 0, rfl, hgl.1, by omega, fun i y hy => ?_⟩
  have hi := (List.getElem?_eq_some_iff.1 hy).1
  simp only [List.length_cons] at hi
  have hc : ∀ m, m < (r.length + 1) * 6 → (((w2.setCell ⟨g, 3, none⟩ (.int .i64 s')).setCell ⟨g, 4, none⟩ (.int .i64 v')).setCell ⟨g, 5, none⟩ (.slice a2 (flen k') c2)).cell? ⟨g, m, none⟩ = (((xs.set 3 (.int .i64 s')).set 4 (.int .i64 v')).set 5 (.slice a2 (flen k') c2))[m]? := fun m hm => h3.cellAt m (by simp; omega)
  cases i with
  | zero =>
    simp at hy
    subst hy
    obtain ⟨a1, c1, b1, d1, ⟨e0, e1, e2, e3, e4, e5⟩, ⟨L, H, hsl, f1, f2, f3⟩, _⟩ := hall 0 _ rfl
    refine ⟨a1, c1, a2, c2, ?_, ?_, ?_, ?_, ?_, ?_, (hS hsl (f3 g rfl)).mono f1 f2, (hS hl (.inl hgl.2)).mono (by omega) (Nat.le_refl _)⟩
    · rw [hc _ (by omega), List.getElem?_set_ne (by omega), List.getElem?_set_ne (by omega), List.getElem?_set_ne (by omega)]; exact e0
    · rw [hc _ (by omega), List.getElem?_set_ne (by omega), List.getElem?_set_ne (by omega), List.getElem?_set_ne (by omega)]; exact e1
    · rw [hc _ (by omega), List.getElem?_set_ne (by omega), List.getElem?_set_ne (by omega), List.getElem?_set_ne (by omega)]; exact e2
    · rw [hc _ (by omega), List.getElem?_set_ne (by omega), List.getElem?_set_ne (by omega)]; exact List.getElem?_set_self (by omega)
    · rw [hc _ (by omega), List.getElem?_set_ne (by omega)]; exact List.getElem?_set_self (by simp; omega)
    · rw [hc _ (by omega)]; exact List.getElem?_set_self (by simp; omega)
  | succ n =>
    obtain ⟨a1, c1, b1, d1, ⟨e0, e1, e2, e3, e4, e5⟩, ⟨L, H, hsl, f1, f2, f3⟩, L', H', hsl', f1', f2', f3'⟩ := hall (n + 1) y (by simpa using hy)
    refine ⟨a1, c1, b1, d1, ?_, ?_, ?_, ?_, ?_, ?_, (hS hsl (f3 g rfl)).mono f1 f2, (hS hsl' (f3' g rfl)).mono f1' f2'⟩
    · rw [hc _ (by omega), List.getElem?_set_ne (by omega), List.getElem?_set_ne (by omega), List.getElem?_set_ne (by omega), Nat.zero_add]; exact e0
    · rw [hc _ (by omega), List.getElem?_set_ne (by omega), List.getElem?_set_ne (by omega), List.getElem?_set_ne (by omega), Nat.zero_add]; exact e1
    · rw [hc _ (by omega), List.getElem?_set_ne (by omega), List.getElem?_set_ne (by omega), List.getElem?_set_ne (by omega), Nat.zero_add]; exact e2
    · rw [hc _ (by omega), List.getElem?_set_ne (by omega), List.getElem?_set_ne (by omega), List.getElem?_set_ne (by omega), Nat.zero_add]; exact e3
    · rw [hc _ (by omega), List.getElem?_set_ne (by omega), List.getElem?_set_ne (by omega), List.getElem?_set_ne (by omega), Nat.zero_add]; exact e4
    · rw [hc _ (by omega), List.getElem?_set_ne (by omega), List.getElem?_set_ne (by omega), List.getElem?_set_ne (by omega), Nat.zero_add]; exact e5
end Go.Proofs.YtbnbogdglffkmaaGreatDoor

/-! LA2: l71Any: equations, some spoilt. -/
namespace Go.Proofs.YtbnbogdglffkmaaGreatDoor
open Go.RowKit Go.Deep

set_option maxRecDepth 100000 in
set_option maxHeartbeats 2000000 in
theorem l71Any_any (most br p : Nat) (w : World) (hr : Rd w br p) (hp : p ≤ 1000000) (hm1 : 1 ≤ most) (hm2 : most ≤ 10) :
    Calls Tryz.prog 13 #[.pointer (some ⟨br, 0, none⟩), .int .i64 (most : Int)] w (AnyPost most br p w) := by
  have hlt := hr.lt
  have HR := Lib.hid hr
  clear hr
  go_enter Tryz.func13, Tryz.ntmps13
  go_wp2_with fail
  with_reducible refine (l71Eqs_any most br p _ HR.out hp hm1 hm2).mono ?_
  rintro e w1 ⟨es, A, C, p', rfl, hlen1, hlen2, hz, hp1, hp2, ha1, ho1⟩
  have HA1 := Lib.hid ha1
  have HO1 := Lib.hid ho1
  have HSZ : Hid (∀ x ∈ es, fsz x.1.2.2 ≤ 31000 ∧ fsz x.2.2.2 ≤ 31000) := fun x hx => by have := eqz_sz (hz x hx); omega
  have HZ := Lib.hid hz
  have hpp : p' ≤ p + 11 * 101 := Nat.le_trans hp2 (by have : (most + 1) * 101 ≤ 11 * 101 := Nat.mul_le_mul (by omega) (Nat.le_refl _); omega)
  clear ha1 ho1 hz hp2
  go_wp2_with fail
  with_reducible refine (pick_any 24 br p' _ (HA1.out.rd HR.out) (by omega) (by omega) (by omega)).mono ?_
  rintro e w2 ⟨y, rfl, hy, hb2⟩
  have ha2 : Adv w1 br (p' + 1) w2 := hb2
  have HA2 := Lib.hid (HA1.out.trans ha2)
  have HO2 := Lib.hid (HO1.out.adv ha2 hlt)
  clear ha2 hb2 HO1 HA1
  by_cases hy0 : y = 0
  · subst hy0
    obtain ⟨⟨⟨xs, xv, xk⟩, s, v, k⟩, r, rfl⟩ : ∃ x r, es = x :: r := by
      cases es with
      | nil => simp at hlen1
      | cons x r => exact ⟨x, r, rfl⟩
    have hpos : (0 : Int) < (((((xs, xv, xk), s, v, k) : Eqd) :: r).length : Int) := by simp
    obtain ⟨g, hAE, hg1, hg2⟩ : ∃ g, A = some ⟨g, 0, none⟩ ∧ w.heap.size ≤ g ∧ g < w2.heap.size := by
      obtain ⟨zs, hown, _⟩ := HO2.out
      obtain ⟨g, cap, hv, hb, hlt2⟩ := hown.form (by simp)
      simp only [Value.slice.injEq] at hv
      obtain ⟨rfl, _⟩ := hv
      exact ⟨g, rfl, hb, hlt2⟩
    subst hAE
    have hcells : ∀ {w' : World}, EOwn w' w.heap.size (((xs, xv, xk), s, v, k) :: r) (some ⟨g, 0, none⟩) C → ∃ a' c', w'.cell? ⟨g, 3, none⟩ = some (.int .i64 s) ∧ w'.cell? ⟨g, 4, none⟩ = some (.int .i64 v) ∧ w'.cell? ⟨g, 5, none⟩ = some (.slice a' (flen k) c') ∧ Sl w' 0 w'.heap.size a' k := fun {w'} h => by
      obtain ⟨b, o, hA, hb, hlt', _, _, a', c', _, _, _, d3, d4, d5, _, hl⟩ := h.esl.at (i := 0) (x := ((xs, xv, xk), s, v, k)) rfl
      cases hA
      exact ⟨a', c', d3, d4, d5, hl.mono (Nat.zero_le _) (Nat.le_refl _)⟩
    obtain ⟨a', c', hc3, hc4, hc5, hsl⟩ := hcells HO2.out
    have hsk := (eqz_sz (HZ.out _ List.mem_cons_self)).2
    dsimp only at hsk
    go_wp2_with fail
    with_reducible refine (l71Bad_any s v a' c' k br (p' + 1) 16 _ hsl (HA2.out.rd HR.out) (by omega) (by omega) (by omega)).mono ?_
    rintro e w3 ⟨s2, v2, a2, c2, k2, p2, rfl, hq1, hq2, hS2, ha3, hl2⟩
    clear hc3 hc4 hc5 hsl
    have hsz2 := HA2.out.size
    have HS0 := Lib.hid (HO2.out.set0 (s' := s2) (v' := v2) (c2 := c2) ha3 hlt hl2 hsz2)
    have HA3 := Lib.hid (HA2.out.trans ha3)
    obtain ⟨a'', c'', hc3, hc4, hc5, _⟩ := hcells (HO2.out.adv ha3 hlt)
    have hf3 : w3.frozen? ⟨g, 3, none⟩ = false := by obtain ⟨zs, hown, _⟩ := HO2.out.adv ha3 hlt; exact hown.frozenAt 3
    have hf4 : (w3.setCell ⟨g, 3, none⟩ (.int .i64 s2)).frozen? ⟨g, 4, none⟩ = false := by obtain ⟨zs, hown, _⟩ := HO2.out.adv ha3 hlt; exact (hown.stored 3 _).1.frozenAt 4
    have hf5 : ((w3.setCell ⟨g, 3, none⟩ (.int .i64 s2)).setCell ⟨g, 4, none⟩ (.int .i64 v2)).frozen? ⟨g, 5, none⟩ = false := by obtain ⟨zs, hown, _⟩ := HO2.out.adv ha3 hlt; exact ((hown.stored 3 _).1.stored 4 _).1.frozenAt 5
    have hd4 : (w3.setCell ⟨g, 3, none⟩ (.int .i64 s2)).cell? ⟨g, 4, none⟩ = some (.int .i64 v) := by
      rw [World.cell?_setCell_other _ _ _ _ (by simp)]; exact hc4
    have hd5 : ((w3.setCell ⟨g, 3, none⟩ (.int .i64 s2)).setCell ⟨g, 4, none⟩ (.int .i64 v2)).cell? ⟨g, 5, none⟩ = some (.slice a'' (flen k) c'') := by
      rw [World.cell?_setCell_other _ _ _ _ (by simp), World.cell?_setCell_other _ _ _ _ (by simp)]; exact hc5
    have HE : Hid (Adv w br p2 (((w3.setCell ⟨g, 3, none⟩ (.int .i64 s2)).setCell ⟨g, 4, none⟩ (.int .i64 v2)).setCell ⟨g, 5, none⟩ (.slice a2 (flen k2) c2))) := ((HA3.out.setCell hg1 _).setCell hg1 _).setCell hg1 _
    have HZ2 : Hid (∀ x ∈ (((xs, xv, xk), s2, v2, k2) :: r : List Eqd), fsz x.1.2.2 ≤ 31000 ∧ fsz x.2.2.2 ≤ 31000) := fun x hx => by
      rcases List.mem_cons.1 hx with rfl | hx
      · exact ⟨(HSZ.out _ List.mem_cons_self).1, by dsimp only; omega⟩
      · exact HSZ.out x (List.mem_cons_of_mem _ hx)
    clear ha3 hl2
    go_wp2_with fail
    go_ret
    exact ⟨((xs, xv, xk), s2, v2, k2) :: r, some ⟨g, 0, none⟩, C, p2, rfl, by simp, by simp at hlen2 ⊢; omega, HZ2.out, by omega, by omega, HE.out, HS0.out.mono (Nat.le_refl _) (by simp)⟩
  · have y0 : ((y : Int) == 0) = false := by simpa using hy0
    go_wp2_with fail
    go_ret
    exact ⟨es, A, C, p' + 1, rfl, hlen1, hlen2, HSZ.out, by omega, by omega, HA2.out, HO2.out.esl⟩
end Go.Proofs.YtbnbogdglffkmaaGreatDoor

/-! DEW: DrawEqWrite: an equation of terms that are not too large. -/
namespace Go.Proofs.YtbnbogdglffkmaaGreatDoor
open Go.RowKit Go.Deep

def DewPost (w : World) (e : Ending) (w' : World) : Prop :=
  ∃ a c s v k a' c' s' v' k', e = .returned (.agg #[.int .i64 s, .int .i64 v, .slice a (flen k) c, .int .i64 s', .int .i64 v', .slice a' (flen k') c']) ∧ fsz k ≤ 31000 ∧ fsz k' ≤ 31000 ∧ Below w.heap.size w w' ∧ Sl w' w.heap.size w'.heap.size a k ∧ Sl w' w.heap.size w'.heap.size a' k'

set_option maxRecDepth 100000 in
set_option maxHeartbeats 2000000 in
theorem DrawEqWrite_any (a : Option Addr) (len cap : Nat) (w : World) (hby : Bytes w a len) (hlen : len ≤ cap) :
    Calls Tryz.prog 5 #[.slice a len cap] w (DewPost w) := by
  have hb0 : Below w.heap.size w (w.alloc (.cells #[.int .i64 0, .int .i64 0, .slice none 0 0, .int .i64 0, .int .i64 0, .slice none 0 0] 27)) := (Below.refl _ _).alloc (Nat.le_refl _) _
  have hby0 : Bytes (w.alloc (.cells #[.int .i64 0, .int .i64 0, .slice none 0 0, .int .i64 0, .int .i64 0, .slice none 0 0] 27)) a len := by
    rcases hby with h | ⟨b, o, rfl, hb, h⟩
    · exact .inl h
    · exact .inr ⟨b, o, rfl, by simp; omega, fun i hi => by
        obtain ⟨x, hx, hc⟩ := h i hi
        exact ⟨x, hx, by rw [hb0.cell (by simpa using hb)]; exact hc⟩⟩
  have HBY := Lib.hid hby0
  have HB0 := Lib.hid hb0
  clear hby hb0 hby0
  go_enter Tryz.func5, Tryz.ntmps5
  go_wp2_with fail
  with_reducible refine (l6Open_any a len cap _ HBY.out hlen).mono ?_
  rintro e w1 ⟨rfl, hb1, hrd⟩
  simp only [World.size_alloc] at hb1 hrd
  have hlt1 := hrd.lt
  have HRD := Lib.hid hrd
  have HB1 := Lib.hid hb1
  clear hb1 hrd
  go_wp2_with fail
  have hany : Calls Tryz.prog 13 #[.pointer (some ⟨w.heap.size + 1, 0, none⟩), .int .i64 1] w1 (AnyPost 1 (w.heap.size + 1) 0 w1) := l71Any_any 1 (w.heap.size + 1) 0 w1 HRD.out (by omega) (by omega) (by omega)
  with_reducible refine hany.mono ?_
  rintro e w2 ⟨es, A, C, p', rfl, h1, h2, hsz, _, _, ha2, hes⟩
  have hs2 := ha2.size
  have HB2 := Lib.hid (adv_low HB1.out (Nat.le_refl _) (by omega) ha2)
  obtain ⟨⟨⟨s, v, k⟩, s', v', k'⟩, hx⟩ : ∃ x, es = [x] := by
    match es, h1, h2 with
    | [x], _, _ => exact ⟨x, rfl⟩
  subst hx
  have hz := hsz _ (List.mem_singleton.2 rfl)
  have HZ := Lib.hid hz
  rcases hes with h | ⟨g, o, rfl, hg1, hg2, hes⟩
  · cases h
  obtain ⟨b, d, b', d', c0, c1, c2, c3, c4, c5, hl, hl'⟩ := hes 0 _ rfl
  simp only [Nat.zero_mul, Nat.add_zero] at c0 c1 c2 c3 c4 c5
  have hHB := HB2.out
  obtain ⟨hr0, hr1, hr2, hr3, hr4, hr5⟩ := box6u rfl hHB
  obtain ⟨hq0, hq1, hq2, hq3, hq4, hq5⟩ := froz6 rfl hHB
  have HL := Lib.hid hl
  have HL' := Lib.hid hl'
  have HBB := Lib.hid (HB0.out.trans (hHB.mono (Nat.le_succ _)))
  have HS2 : Hid (w.heap.size + 1 ≤ w1.heap.size ∧ w1.heap.size ≤ w2.heap.size) := ⟨by omega, hs2⟩
  clear hany hes ha2 hHB hl hl' hz hsz h1 h2
  go_wp2_with fail
  refine bodyPost_ret (v := .agg #[.int .i64 s, .int .i64 v, .slice b (flen k) d, .int .i64 s', .int .i64 v', .slice b' (flen k') d']) ?_ rfl ⟨b, d, s, v, k, b', d', s', v', k', rfl, HZ.out.1, HZ.out.2, below_set6 (Nat.le_refl _) HBB.out _ _ _ _ _ _, ?_, ?_⟩
  · simp [results, Tryz.results5, go_sem, hr0, hr1, hr2, hr3, hr4, hr5]
  · exact (HL.out.same (same_set6 (n := w.heap.size) (by have := HS2.out; omega) _ _ _ _ _ _)).mono (by have := HS2.out; omega) (by simp)
  · exact (HL'.out.same (same_set6 (n := w.heap.size) (by have := HS2.out; omega) _ _ _ _ _ _)).mono (by have := HS2.out; omega) (by simp)
end Go.Proofs.YtbnbogdglffkmaaGreatDoor

/-! ETX: The text of an equation: its length, and what is read from it. -/
namespace Go.Proofs.YtbnbogdglffkmaaGreatDoor
open Go.RowKit Go.Deep

theorem etx_len {s v : Int} {k : Fo} {s' v' : Int} {k' : Fo} : (etx s v k s' v' k').length ≤ 500 := by
  unfold etx
  split
  · rename_i h
    have h1 := tx_len h.1
    have h2 := tx_len h.2
    simp only [List.length_append, List.length_cons, List.length_nil]
    omega
  · simp
theorem etx_back {s v : Int} {k : Fo} {s' v' : Int} {k' : Fo} (h : okW s v k 16 = true) (h' : okW s' v' k' 16 = true) : eqA (etx s v k s' v' k') = ((s, v, fer k), (s', v', fer k'), true) := by
  rw [etx_ok h h']
  exact eqA_some (eqR_made h h')
theorem etx_cases (s v : Int) (k : Fo) (s' v' : Int) (k' : Fo) : (etx s v k s' v' k' = []) ∨ (okW s v k 16 = true ∧ okW s' v' k' 16 = true ∧ etx s v k s' v' k' ≠ []) := by
  by_cases h : okW s v k 16 = true ∧ okW s' v' k' 16 = true
  · refine .inr ⟨h.1, h.2, ?_⟩
    rw [etx_ok h.1 h.2]
    intro e
    exact tx_ne (List.append_eq_nil_iff.1 e).1
  · left; unfold etx; rw [if_neg h]
end Go.Proofs.YtbnbogdglffkmaaGreatDoor

/-! B3: laTerm: what is the same comes out the same. -/
namespace Go.Proofs.YtbnbogdglffkmaaGreatDoor
open Go.RowKit Go.Deep

theorem two_boxes {w wr : World} {x y z x' y' z' : Value} (h : Below (w.heap.size + 2) ((w.alloc (.cells #[x, y, z] 25)).alloc (.cells #[x', y', z'] 25)) wr) :
    wr.cell? ⟨w.heap.size, 2, none⟩ = some z ∧ wr.cell? ⟨w.heap.size + 1, 2, none⟩ = some z' := by
  refine ⟨?_, ?_⟩
  · rw [h.cell (by simp), World.cell?_alloc_lt _ _ _ (by simp), World.cell?_alloc_at _ _ _ _ (by simp)]; rfl
  · rw [h.cell (by simp), World.cell?_alloc_at _ _ _ _ (by simp)]; rfl

set_option maxRecDepth 100000 in
set_option maxHeartbeats 1000000 in
theorem laTerm_same (N : Nat) : ∀ (s v : Int) (a a' : Option Addr) (c c' : Nat) (k : Fo) (w : World), Sl w 0 w.heap.size a k → Sl w 0 w.heap.size a' k → fsz k ≤ N → N ≤ 1000000 →
    Calls Tryz.prog 9 #[.agg #[.int .i64 s, .int .i64 v, .slice a (flen k) c], .agg #[.int .i64 s, .int .i64 v, .slice a' (flen k) c']] w fun e w' => e = .returned (.bool true) ∧ Below w.heap.size w w' := by
  induction N using Nat.strongRecOn with
  | _ N ih =>
    intro s v a a' c c' k w hl hl' hN hN2
    have hfl := flen_le_sz k
    have IH := Lib.hid ih
    clear ih
    have e0 : (s != s) = false := by simp
    have e1 : (v != v) = false := by simp
    have e2 : ((flen k : Int) != (flen k : Int)) = false := by simp
    have hb0 : Below w.heap.size w ((w.alloc (.cells #[.int .i64 s, .int .i64 v, .slice a (flen k) c] 25)).alloc (.cells #[.int .i64 s, .int .i64 v, .slice a' (flen k) c'] 25)) := ((Below.refl _ _).alloc (Nat.le_refl _) _).alloc (by simp) _
    have HB0 := Lib.hid hb0
    clear hb0
    go_enter Tryz.func9, Tryz.ntmps9
    go_wp2_with fail
    go_loopw [5] (fun i wr => ∃ j : Nat, j ≤ flen k ∧ i = .int .i64 j ∧ Below (w.heap.size + 2) ((w.alloc (.cells #[.int .i64 s, .int .i64 v, .slice a (flen k) c] 25)).alloc (.cells #[.int .i64 s, .int .i64 v, .slice a' (flen k) c'] 25)) wr) (fun i _ => flen k - (intOf i).toNat)
    case atStart => exact ⟨0, by omega, rfl, Below.refl _ _⟩
    case round =>
      obtain ⟨j, hj, rfl, hbl⟩ := hrel
      have hsr := hbl.size
      simp at hsr
      obtain ⟨hx2, hy2⟩ := two_boxes hbl
      have hbw := HB0.out.trans (hbl.mono (show w.heap.size ≤ w.heap.size + 2 by omega))
      by_cases hlt : j < flen k
      · rcases hl with rfl | ⟨b, o, rfl, hrow⟩
        · simp [flen] at hlt
        rcases hl' with rfl | ⟨b', o', rfl, hrow'⟩
        · simp [flen] at hlt
        obtain ⟨s1, v1, kk, a1, c1, ⟨x, y, hd⟩, _, hbB, hk0, hk1, hk2, hsl⟩ := row_at (hrow.below hbw) hlt
        obtain ⟨s2, v2, kk2, a2, c2, ⟨x2, y2, hd2⟩, _, hbB', hk3, hk4, hk5, hsl2⟩ := row_at (hrow'.below hbw) hlt
        have hdd := hd.symm.trans hd2
        simp only [BT.node.injEq, Prod.mk.injEq] at hdd
        obtain ⟨_, _, ⟨rfl, rfl⟩, rfl, _⟩ := hdd
        have hkN := fsz_kid hd
        have HS := Lib.hid hsl
        have HS2 := Lib.hid hsl2
        have HBL := Lib.hid hbl
        clear hd hd2 hsl hsl2 hrow hrow' hbl hbw
        have g1 : (0 : Int) ≤ (j : Int) := by omega
        have g2 : (j : Int) < (flen k : Int) := by omega
        have hu0 : ∀ u : After wr.heap.size wr, u.world.cell? ⟨b, o + j * 3, none⟩ = some (.int .i64 s1) := fun u => u.cell (by simp; omega) hk0
        have hu1 : ∀ u : After wr.heap.size wr, u.world.cell? ⟨b, o + j * 3 + 1, none⟩ = some (.int .i64 v1) := fun u => u.cell (by simp; omega) hk1
        have hu2 : ∀ u : After wr.heap.size wr, u.world.cell? ⟨b, o + j * 3 + 2, none⟩ = some (.slice a1 (flen kk) c1) := fun u => u.cell (by simp; omega) hk2
        have hu3 : ∀ u : After wr.heap.size wr, u.world.cell? ⟨b', o' + j * 3, none⟩ = some (.int .i64 s1) := fun u => u.cell (by simp; omega) hk3
        have hu4 : ∀ u : After wr.heap.size wr, u.world.cell? ⟨b', o' + j * 3 + 1, none⟩ = some (.int .i64 v1) := fun u => u.cell (by simp; omega) hk4
        have hu5 : ∀ u : After wr.heap.size wr, u.world.cell? ⟨b', o' + j * 3 + 2, none⟩ = some (.slice a2 (flen kk) c2) := fun u => u.cell (by simp; omega) hk5
        have hu6 : ∀ u : After wr.heap.size wr, u.world.cell? ⟨w.heap.size, 2, none⟩ = some (.slice (some ⟨b, o, none⟩) (flen k) c) := fun u => u.cell (by simp; omega) hx2
        have hu7 : ∀ u : After wr.heap.size wr, u.world.cell? ⟨w.heap.size + 1, 2, none⟩ = some (.slice (some ⟨b', o', none⟩) (flen k) c') := fun u => u.cell (by simp; omega) hy2
        have HCALL : Hid (∀ u : After wr.heap.size wr, Calls Tryz.prog 9 #[.agg #[.int .i64 s1, .int .i64 v1, .slice a1 (flen kk) c1], .agg #[.int .i64 s1, .int .i64 v1, .slice a2 (flen kk) c2]] u.world fun e w' => e = .returned (.bool true) ∧ Below u.world.heap.size u.world w') := fun u => by
          have hu := u.below
          have hus := hu.size
          refine IH.out (fsz kk) (by omega) s1 v1 a1 a2 c1 c2 kk u.world ?_ ?_ (Nat.le_refl _) (by omega)
          · exact (HS.out.below (hu.mono (by omega))).mono (Nat.le_refl _) (by omega)
          · exact (HS2.out.below (hu.mono (by omega))).mono (Nat.le_refl _) (by omega)
        go_wp2_with fail
        refine wp_region_after wr.heap.size (by kernel_rfl) (by kernel_rfl) ?_
        repeat (go_big_quiet_step ((go_at_call 9; exact Calls.after (After.below ‹_›).size (HCALL.out _))))
        refine wpQuiet_nil ?_
        rintro u ⟨⟨_, hu⟩, rfl⟩
        clear hu0 hu1 hu2 hu3 hu4 hu5 hu6 hu7 hk0 hk1 hk2 hk3 hk4 hk5 hx2 hy2
        have HB2 := Lib.hid (HBL.out.trans (hu.mono hsr))
        clear hu
        go_wp2_with fail
        go_roundw
        case rel => exact ⟨j + 1, by omega, by go_num, HB2.out⟩
        case measure => simp [intOf]; omega
      · have HBW := Lib.hid hbw
        clear hbw hbl
        go_wp2_with fail
        go_ret
        exact ⟨rfl, HBW.out⟩
end Go.Proofs.YtbnbogdglffkmaaGreatDoor

/-! WDi: - TermOk of the program. -/
namespace Go.Proofs.YtbnbogdglffkmaaGreatDoor
open Go.RowKit Go.Deep

end Go.Proofs.YtbnbogdglffkmaaGreatDoor

/-! Frame: A slice of bytes that came in, as the walks take it. -/
namespace Go.Proofs.YtbnbogdglffkmaaGreatDoor
open Go.ChangeShapes Go.WideShapes Go.ChangeAt Go.RowKit

/-- A slice of bytes: it is nil; or it leads to a row of cap cells. -/
def IsRow (w : World) (a : Option Addr) (len cap : Nat) (zs : List Int) : Prop :=
  (a = none ∧ len = 0 ∧ cap = 0 ∧ zs = []) ∨
  ∃ x, a = some x ∧ len ≤ cap ∧ cap ≤ maxLen ∧ zs.length = cap ∧ (∀ i, i < zs.length → w.cell? (x.add i) = some (.int .u8 (zs.getD i 0))) ∧ ∀ n ∈ zs, (Lit.int .u8 n).wf = true

theorem bytes_of_row {w : World} {a : Option Addr} {len cap : Nat} {zs : List Int} (h : IsRow w a len cap zs) : Bytes w a len ∧ len ≤ cap := by
  rcases h with ⟨_, h1, h2, _⟩ | ⟨x, rfl, h1, _, h2, h3, h4⟩
  · exact ⟨.inl h1, by omega⟩
  · refine ⟨?_, h1⟩
    by_cases hl : len = 0
    · exact .inl hl
    · obtain ⟨b, o, spot⟩ := x
      have c0 := h3 0 (by omega)
      have hs : spot = none := by simpa [Addr.add] using World.cell?_spot c0
      subst hs
      have ha : ∀ n, (⟨b, o, none⟩ : Addr).add n = ⟨b, o + n, none⟩ := fun n => by unfold Addr.add; split <;> simp_all
      rw [ha] at c0
      refine .inr ⟨b, o, rfl, World.block_lt_of_cell? _ _ c0, fun i hi => ?_⟩
      have ci := h3 i (by omega)
      rw [ha] at ci
      have hm : zs.getD i 0 ∈ zs := by
        rw [List.getD_eq_getElem?_getD, List.getElem?_eq_getElem (by omega)]
        exact List.getElem_mem _
      have hb := bounds_u8 (h4 _ hm)
      obtain ⟨n, hn⟩ := Int.eq_ofNat_of_zero_le hb.1
      exact ⟨n, by omega, by rw [ci, hn]⟩

/-- Out of the reading of an argument. -/
theorem row_of_trod {H : Type} {enc : TypeId × Value → H} {W : World} {a : Option Addr} {len cap : Nat} {d : DataW H} {p : List MemPlace} (h : DataW.Trod enc Tryz.prog W 0 (fun _ => true) true 22 (.slice a len cap) d p) : ∃ zs, IsRow W a len cap zs := by
  obtain ⟨fuel, hf⟩ := h
  rcases open_ints Tryz.underlying22 Tryz.underlying5 (by kernel_rfl) hf with ⟨hcs, _⟩ | ⟨x, l, c, zs, hcs, _, hl, hm, hz, _, hcell, hwz⟩
  · simp [Value.cells] at hcs
    obtain ⟨rfl, rfl, rfl⟩ := hcs
    exact ⟨[], .inl ⟨rfl, rfl, rfl, rfl⟩⟩
  · simp [Value.cells] at hcs
    obtain ⟨rfl, rfl, rfl⟩ := hcs
    exact ⟨zs, .inr ⟨_, rfl, hl, hm, by simpa using hz, hcell, hwz⟩⟩

end Go.Proofs.YtbnbogdglffkmaaGreatDoor

/-! FrameD: What the rows that list the library's two errors give their walks. -/
namespace Go.Proofs
open Go.RowKit

theorem Tryz.gES : Tryz.prog.globalNamed "strconv.ErrSyntax" = some 1 := by kernel_rfl
theorem Tryz.gER : Tryz.prog.globalNamed "strconv.ErrRange" = some 2 := by kernel_rfl
theorem Tryz.gESType : (Tryz.prog.globals[1]?).map (·.type) = some 95 := by kernel_rfl
theorem Tryz.gERType : (Tryz.prog.globals[2]?).map (·.type) = some 95 := by kernel_rfl
theorem Tryz.cellsEs : Tryz.prog.cellsOf 143 = 1 := by kernel_rfl
theorem Tryz.cellsStr : Tryz.prog.cellsOf 9 = 1 := by kernel_rfl
theorem Tryz.starEs : "*" ++ "errors.errorString" = "*errors.errorString" := by decide
theorem Tryz.rowEs (u : TypeId) (h : Tryz.prog.typeName? 3 u = some "*errors.errorString") : u = 141 :=
  typeName_ptr_named (nm := "errors.errorString") (by rw [Tryz.starEs]; kernel_rfl) (by kernel_rfl) (by decide) u (by rw [Tryz.starEs]; exact h)
end Go.Proofs

namespace Go.Proofs.YtbnbogdglffkmaaGreatDoor
open Go.RowKit Go.Deep

theorem errAt_of_laid {x1 x2 x3 x4 : String × DataW Unit} {r : List (String × DataW Unit)} {W : World} (h : laidMet Tryz.prog (x1 :: x2 :: x3 :: x4 :: ("strconv.ErrRange", Rows.laid_strconv_ErrRange) :: ("strconv.ErrSyntax", Rows.laid_strconv_ErrSyntax) :: r) W) : ErrAt W W.heap.size := by
  have h5 := h.tail.tail.tail.tail
  obtain ⟨a0, s0, hv0, -, -, -⟩ := laid_sentinel h5 Tryz.gER Tryz.gERType Tryz.underlying95 Tryz.rowEs Tryz.underlying141 Tryz.underlying143 rfl rfl Tryz.underlying9 Tryz.cellsEs Tryz.cellsStr
  obtain ⟨a1, s1, hv1, -, -, -⟩ := laid_sentinel h5.tail Tryz.gES Tryz.gESType Tryz.underlying95 Tryz.rowEs Tryz.underlying141 Tryz.underlying143 rfl rfl Tryz.underlying9 Tryz.cellsEs Tryz.cellsStr
  have c0 : W.cell? ⟨2, 0, none⟩ = some (.iface 141 (.pointer (some a0))) := by have h0 := World.var?_cell Tryz.gER hv0 0; simpa using h0
  have c1 : W.cell? ⟨1, 0, none⟩ = some (.iface 141 (.pointer (some a1))) := by have h0 := World.var?_cell Tryz.gES hv1 0; simpa using h0
  exact ⟨⟨_, _, c1⟩, ⟨_, _, c0⟩, World.block_lt_of_cell? _ _ c1, World.block_lt_of_cell? _ _ c0⟩
end Go.Proofs.YtbnbogdglffkmaaGreatDoor
