/- Several texts in one: AD, SP3, TP, P6a, P7a, PS2, ML0. -/
import Derived.Test.YtoafleckcjanaaaKLk8
import Derived.Test.YtoafleckcjanaaaKLk26
import Derived.Test.YtoafleckcjanaaaKLk19
import Derived.Test.YtoafleckcjanaaaKLk13
import Derived.Test.YtoafleckcjanaaaKLk15
import Derived.Deep.AppendLies
import Derived.Test.YtoafleckcjanaaaKLk11
import Derived.Test.YtoafleckcjanaaaKLk10
import Derived.Test.YtoafleckcjanaaaKLk4
import Derived.Test.YtoafleckcjanaaaKLk12

/-! AD: Rows of binds whose terms lie in old memory; the specification's l2Add: a bind put in order. -/
namespace Go.Proofs.Ytoafleckcjanaaa
open Go.RowKit Go.Deep

/-- The values of a row of binds; their terms lie in w. -/
def BVals (w : World) (bs : List Bd) (xs : List Value) : Prop := xs.length = bs.length * 4 ∧ ∀ (i : Nat) (x : Bd), bs[i]? = some x → ∃ a' c', xs[i * 4]? = some (.int .i64 x.1) ∧ xs[i * 4 + 1]? = some (.int .i64 x.2.1) ∧ xs[i * 4 + 2]? = some (.int .i64 x.2.2.1) ∧ xs[i * 4 + 3]? = some (.slice a' (flen x.2.2.2) c') ∧ Sl w 0 w.heap.size a' x.2.2.2
theorem BVals.snoc {w : World} {bs : List Bd} {xs : List Value} {x s v : Int} {k : Fo} {a : Option Addr} {c : Nat} (h : BVals w bs xs) (hl : Sl w 0 w.heap.size a k) : BVals w (bs ++ [(x, s, v, k)]) (xs ++ [.int .i64 x, .int .i64 s, .int .i64 v, .slice a (flen k) c]) := by
  obtain ⟨hxl, hall⟩ := h
  refine ⟨by simp [hxl]; omega, fun i y hy => ?_⟩
  by_cases hi : i < bs.length
  · rw [List.getElem?_append_left hi] at hy
    obtain ⟨a', c', c0, c1, c2, c3, hsl⟩ := hall i y hy
    exact ⟨a', c', by rw [List.getElem?_append_left (by omega)]; exact c0, by rw [List.getElem?_append_left (by omega)]; exact c1, by rw [List.getElem?_append_left (by omega)]; exact c2, by rw [List.getElem?_append_left (by omega)]; exact c3, hsl⟩
  · have hi' : i = bs.length := by have := (List.getElem?_eq_some_iff.1 hy).1; simp at this; omega
    subst hi'
    simp at hy
    subst hy
    refine ⟨a, c, ?_, ?_, ?_, ?_, hl⟩
    · rw [List.getElem?_append_right (by omega), hxl]; simp
    · rw [List.getElem?_append_right (by omega), hxl, show bs.length * 4 + 1 - bs.length * 4 = 1 from by omega]; rfl
    · rw [List.getElem?_append_right (by omega), hxl, show bs.length * 4 + 2 - bs.length * 4 = 2 from by omega]; rfl
    · rw [List.getElem?_append_right (by omega), hxl, show bs.length * 4 + 3 - bs.length * 4 = 3 from by omega]; rfl

/-- A row of binds of one's own, made from base on, behind w; its terms lie in w. -/
structure BRow (w : World) (base : Nat) (bs : List Bd) (A : Option Addr) (C : Nat) (wr : World) : Prop where
  low : Below w.heap.size w wr
  hb : w.heap.size ≤ base
  size : base ≤ wr.heap.size
  own : ∃ xs, wr.ownsRow base 124 4 (.slice A bs.length C) bs.length xs ∧ BVals w bs xs
theorem BRow.bsl {w wr : World} {base : Nat} {bs : List Bd} {A : Option Addr} {C : Nat} (h : BRow w base bs A C wr) : BSl wr 0 wr.heap.size A bs := by
  obtain ⟨xs, hown, hxl, hall⟩ := h.own
  rcases Nat.eq_zero_or_pos bs.length with h0 | h0
  · exact .inl (List.eq_nil_of_length_eq_zero h0)
  · obtain ⟨g, cap, hv, hb, hlt⟩ := hown.form h0
    have hA : A = some ⟨g, 0, none⟩ := by simp only [Value.slice.injEq] at hv; exact hv.1
    subst hA
    refine .inr ⟨g, 0, rfl, Nat.zero_le _, hlt, fun i x hx => ?_⟩
    have hi := (List.getElem?_eq_some_iff.1 hx).1
    obtain ⟨a', c', c0, c1, c2, c3, hl⟩ := hall i x hx
    refine ⟨a', c', ?_, ?_, ?_, ?_, hl.next h.low⟩
    · rw [Nat.zero_add, hown.cellAt _ (by omega)]; exact c0
    · rw [Nat.zero_add, hown.cellAt _ (by omega)]; exact c1
    · rw [Nat.zero_add, hown.cellAt _ (by omega)]; exact c2
    · rw [Nat.zero_add, hown.cellAt _ (by omega)]; exact c3
theorem BRow.next {w wr w2 : World} {base : Nat} {bs : List Bd} {A : Option Addr} {C : Nat} (h : BRow w base bs A C wr) (hb : Below wr.heap.size wr w2) : BRow w base bs A C w2 := by
  obtain ⟨xs, hown, hv⟩ := h.own
  exact ⟨below_next h.low hb, h.hb, Nat.le_trans h.size hb.size, xs, own_low hb hown, hv⟩
theorem BRow.start (w : World) (base : Nat) (hb : w.heap.size ≤ base) {wr : World} (hl : Below w.heap.size w wr) (hs : base ≤ wr.heap.size) : BRow w base [] (some ⟨wr.heap.size, 0, none⟩) 0 (wr.alloc (.cells #[] 124)) :=
  ⟨below_next hl (box_low _ _), hb, by simp; omega, [], ⟨rfl, .inr ⟨wr.heap.size, 0, #[], rfl, hs, heap_alloc_new _ _, Nat.le_refl _, by decide, rfl, rfl⟩⟩, rfl, fun i x hx => by simp at hx⟩
theorem BRow.app {w wr w3 : World} {base : Nat} {bs : List Bd} {A : Option Addr} {C g cap : Nat} {x s v : Int} {k : Fo} {a : Option Addr} {c : Nat} {blk : Obj} {xs : List Value} (h : BRow w base bs A C wr) (hown : wr.ownsRow base 124 4 (.slice A bs.length C) bs.length xs) (hv : BVals w bs xs) (hl : Sl w 0 w.heap.size a k)
    (hown3 : w3.ownsRow base 124 4 (.slice (some ⟨g, 0, none⟩) (bs.length + 1) cap) (bs.length + 1) (xs ++ [.int .i64 x, .int .i64 s, .int .i64 v, .slice a (flen k) c])) (hgrow : (wr.alloc blk).grownBy w3 (Value.slice A bs.length C).ownBlock) : BRow w base (bs ++ [(x, s, v, k)]) (some ⟨g, 0, none⟩) cap w3 := by
  have hl' : (bs ++ [(x, s, v, k)]).length = bs.length + 1 := by simp
  have hs := h.size
  have hb := h.hb
  have hlow : Below base wr w3 := ((Below.refl base wr).alloc hs blk).grown hgrow (by simp; omega) (fun q hq => (hown.lt q hq).1)
  exact ⟨h.low.trans (hlow.mono hb), hb, Nat.le_trans hs hlow.size, _, by rw [hl']; exact hown3, hv.snoc hl⟩
theorem BRow.below {w wr w3 : World} {base : Nat} {bs : List Bd} {A : Option Addr} {C : Nat} {blk : Obj} {xs : List Value} (h : BRow w base bs A C wr) (hown : wr.ownsRow base 124 4 (.slice A bs.length C) bs.length xs) (hgrow : (wr.alloc blk).grownBy w3 (Value.slice A bs.length C).ownBlock) : Below base wr w3 :=
  ((Below.refl base wr).alloc h.size blk).grown hgrow (by have := h.size; simp; omega) (fun q hq => (hown.lt q hq).1)

def AddPost (bs : List Bd) (b : Bd) (w : World) (e : Ending) (w' : World) : Prop :=
  ∃ A C, e = .returned (.slice A (List.length (ladd bs b)) C) ∧ BRow w (w.heap.size + 1) (ladd bs b) A C w'

theorem ladd_end {bs : List Bd} {b : Bd} {j : Nat} (h : bs.length ≤ j) : ladd (bs.drop j) b = [b] := by
  rw [List.drop_eq_nil_of_le h]; rfl

set_option maxRecDepth 100000 in
set_option maxHeartbeats 4000000 in
theorem l2Add_any (bs : List Bd) (A : Option Addr) (C : Nat) (x s v : Int) (a : Option Addr) (c : Nat) (k : Fo) (w : World) (hb : BSl w 0 w.heap.size A bs) (hl : bs.length ≤ 100000) (hk : Sl w 0 w.heap.size a k) :
    Calls Try.prog 110 #[.slice A bs.length C, .agg #[.int .i64 x, .int .i64 s, .int .i64 v, .slice a (flen k) c]] w (AddPost bs (x, s, v, k) w) := by
  obtain ⟨ti, hti, htz, hts, htb⟩ := Try.infoBind
  have HTI : Hid (Try.prog.info? 124 = some ti ∧ ti.zero = some (.agg #[.int .i64 0, .int .i64 0, .int .i64 0, .slice none 0 0]) ∧ ti.size = 4 ∧ ti.bytes = 48) := ⟨hti, htz, hts, htb⟩
  have HB := Lib.hid hb
  have HK := Lib.hid hk
  clear hti htz hts htb hb hk
  have HBX0 : Hid (Below (w.heap.size + 1) (w.alloc (.cells #[.int .i64 x, .int .i64 s, .int .i64 v, .slice a (flen k) c] 124)) ((w.alloc (.cells #[.int .i64 x, .int .i64 s, .int .i64 v, .slice a (flen k) c] 124)).alloc (.cells #[] 124))) := (Below.refl _ _).alloc (by simp) _
  have HR0 : Hid (BRow w (w.heap.size + 1) [] (some ⟨w.heap.size + 1, 0, none⟩) 0 ((w.alloc (.cells #[.int .i64 x, .int .i64 s, .int .i64 v, .slice a (flen k) c] 124)).alloc (.cells #[] 124))) := by
    have h := BRow.start w (w.heap.size + 1) (by omega) (box_low w (.cells #[.int .i64 x, .int .i64 s, .int .i64 v, .slice a (flen k) c] 124)) (by simp)
    rw [Hid]
    simpa using h
  have hbox : ∀ wr : World, Below (w.heap.size + 1) (w.alloc (.cells #[.int .i64 x, .int .i64 s, .int .i64 v, .slice a (flen k) c] 124)) wr → wr.cell? ⟨w.heap.size, 0, none⟩ = some (.int .i64 x) ∧ wr.cell? ⟨w.heap.size, 1, none⟩ = some (.int .i64 s) ∧ wr.cell? ⟨w.heap.size, 2, none⟩ = some (.int .i64 v) ∧ wr.cell? ⟨w.heap.size, 3, none⟩ = some (.slice a (flen k) c) := fun wr h => by
    refine ⟨?_, ?_, ?_, ?_⟩
    · rw [h.cell (by simp), World.cell?_alloc_at _ _ _ _ (by simp)]; rfl
    · rw [h.cell (by simp), World.cell?_alloc_at _ _ _ _ (by simp)]; rfl
    · rw [h.cell (by simp), World.cell?_alloc_at _ _ _ _ (by simp)]; rfl
    · rw [h.cell (by simp), World.cell?_alloc_at _ _ _ _ (by simp)]; rfl
  have HBOX := Lib.hid hbox
  clear hbox
  go_enter Try.func110, Try.ntmps110
  go_wp2_with fail
  go_loopw [5, 6, 7] (fun o d i wr => ∃ (j : Nat) (out : List Bd) (A' : Option Addr) (C' : Nat) (dn : Bool), o = .slice A' out.length C' ∧ d = .bool dn ∧ i = .int .i64 j ∧ j ≤ bs.length ∧ out.length ≤ j + 1 ∧ Hid (ladd bs (x, s, v, k) = out ++ (if dn = true then bs.drop j else ladd (bs.drop j) (x, s, v, k))) ∧ Hid (BRow w (w.heap.size + 1) out A' C' wr) ∧ Hid (Below (w.heap.size + 1) (w.alloc (.cells #[.int .i64 x, .int .i64 s, .int .i64 v, .slice a (flen k) c] 124)) wr)) (fun _ _ i _ => bs.length - (intOf i).toNat)
  case atStart => exact ⟨0, [], _, _, false, rfl, rfl, rfl, Nat.zero_le _, by simp, by simp [Hid], HR0, HBX0⟩
  case round =>
    clear HR0 HBX0
    obtain ⟨j, out, A', C', dn, rfl, rfl, rfl, hj, hol, HE, HR, HBX⟩ := hrel
    obtain ⟨b0, b1, b2, b3⟩ := HBOX.out _ HBX.out
    have hws := HR.out.size
    have hbs := HR.out.low
    by_cases hlt : j < bs.length
    · obtain ⟨y, hy⟩ : ∃ y, bs[j]? = some y := ⟨bs[j], List.getElem?_eq_getElem hlt⟩
      obtain ⟨yx, ys, yv, yk⟩ := y
      have hbr := HB.out
      rcases hbr with hbr | ⟨rb, ro, rfl, _, hbB, hcells⟩
      · subst hbr; simp at hy
      obtain ⟨ya, yc, d0, d1, d2, d3, hsl⟩ := hcells j _ hy
      dsimp only at d0 d1 d2 d3 hsl
      have HYS := Lib.hid hsl
      have HD := Lib.hid (drop_bd2 hy)
      have hc0 := cell_low hbs d0
      have hc1 := cell_low hbs d1
      have hc2 := cell_low hbs d2
      have hc3 := cell_low hbs d3
      have g1 : (0 : Int) ≤ (j : Int) := by omega
      have g2 : (j : Int) < (bs.length : Int) := by omega
      clear hcells hy d0 d1 d2 d3 hsl
      have hu0 : ∀ u : After wr.heap.size wr, u.world.cell? ⟨rb, ro + j * 4, none⟩ = some (.int .i64 yx) := fun u => cell_low u.below hc0
      have hu1 : ∀ u : After wr.heap.size wr, u.world.cell? ⟨w.heap.size, 0, none⟩ = some (.int .i64 x) := fun u => cell_low u.below b0
      cases dn with
      | true =>
        have HE2 : Hid (ladd bs (x, s, v, k) = (out ++ [(yx, ys, yv, yk)]) ++ (if true = true then bs.drop (j + 1) else ladd (bs.drop (j + 1)) (x, s, v, k))) := by rw [Hid, HE.out, if_pos rfl, if_pos rfl, HD.out]; simp
        clear HE HD
        go_wp2_with fail
        refine wp_region_after wr.heap.size (by kernel_rfl) (by kernel_rfl) ?_
        repeat (go_big_quiet_step (fail))
        refine wpQuiet_nil ?_
        rintro wq ⟨⟨_, hu⟩, rfl⟩
        have HRq := Lib.hid (HR.out.next hu)
        have HBXq := Lib.hid (HBX.out.trans (hu.mono hws))
        have hws2 := HRq.out.size
        have e0 := cell_low hu b0
        have e1 := cell_low hu b1
        have e2 := cell_low hu b2
        have e3 := cell_low hu b3
        have f0 := cell_low hu hc0
        have f1 := cell_low hu hc1
        have f2 := cell_low hu hc2
        have f3 := cell_low hu hc3
        clear hu0 hu1 hu HR HBX b0 b1 b2 b3 hc0 hc1 hc2 hc3
        obtain ⟨xs, hown, hv⟩ := HRq.out.own
        have HOWN := Lib.hid hown
        have HV := Lib.hid hv
        clear hown hv
        go_wp2_with (at_builtin; refine wpList_append_lies _ rfl _ _ 41 rfl (w.heap.size + 1) 124 ti _ 4 48 Try.underlying41 HTI.out.1 HTI.out.2.1 HTI.out.2.2.1 HTI.out.2.2.2 rfl (by omega) (.slice A' out.length C') out.length xs rfl (HOWN.out.alloc _) ⟨wq.heap.size, 0, none⟩ 1 1 [.int .i64 yx, .int .i64 ys, .int .i64 yv, .slice ya (flen yk) yc] rfl rfl (World.news_of_block (heap_alloc_new _ _)) (by simp [Value.oneCell']) (by omega) (by unfold maxLen; omega) (by omega) (by simp; omega) (wq.heap.size + 1) (by simp) ?_; intro g3 cap3 w3 hown3 hgrow3 hat3 hg3; have HX3 := Lib.hid (BRow.app HRq.out HOWN.out HV.out HYS.out hown3 hgrow3); have HLB3 := Lib.hid (BRow.below HRq.out HOWN.out hgrow3); clear hown3 hgrow3 hat3 hg3)
        have hl2' : (out ++ [(yx, ys, yv, yk)]).length = out.length + 1 := by simp
        have HBX3 := Lib.hid (HBXq.out.trans HLB3.out)
        go_roundw
        case rel => exact ⟨j + 1, out ++ [(yx, ys, yv, yk)], some ⟨g3, 0, none⟩, cap3, true, by rw [hl2'], rfl, by go_num, by omega, by omega, HE2, HX3, HBX3⟩
        case measure => simp [intOf]; omega
      | false =>
        by_cases hgt : x < yx
        · have HE2 : Hid (ladd bs (x, s, v, k) = (out ++ [(x, s, v, k)] ++ [(yx, ys, yv, yk)]) ++ (if true = true then bs.drop (j + 1) else ladd (bs.drop (j + 1)) (x, s, v, k))) := by
            rw [Hid, HE.out, if_neg (by simp), if_pos rfl, HD.out]; simp only [ladd]; rw [if_pos hgt]; simp
          have gg : decide (yx > x) = true := decide_eq_true hgt
          have HOJ : Hid (out.length = j) := by have h := congrArg List.length HE.out; rw [ladd_len, List.length_append, if_neg (by simp), ladd_len, List.length_drop] at h; show out.length = j; omega
          clear HE HD
          go_wp2_with fail
          refine wp_region_after wr.heap.size (by kernel_rfl) (by kernel_rfl) ?_
          repeat (go_big_quiet_step (fail))
          refine wpQuiet_nil ?_
          rintro wq ⟨⟨_, hu⟩, rfl⟩
          have HRq := Lib.hid (HR.out.next hu)
          have HBXq := Lib.hid (HBX.out.trans (hu.mono hws))
          have hws2 := HRq.out.size
          have e0 := cell_low hu b0
          have e1 := cell_low hu b1
          have e2 := cell_low hu b2
          have e3 := cell_low hu b3
          have f0 := cell_low hu hc0
          have f1 := cell_low hu hc1
          have f2 := cell_low hu hc2
          have f3 := cell_low hu hc3
          clear hu0 hu1 hu HR HBX b0 b1 b2 b3 hc0 hc1 hc2 hc3
          obtain ⟨xs, hown, hv⟩ := HRq.out.own
          have HOWN := Lib.hid hown
          have HV := Lib.hid hv
          clear hown hv
          go_wp2_with (first | (at_builtin; refine wpList_append_lies _ rfl _ _ 41 rfl (w.heap.size + 1) 124 ti _ 4 48 Try.underlying41 HTI.out.1 HTI.out.2.1 HTI.out.2.2.1 HTI.out.2.2.2 rfl (by omega) (.slice A' out.length C') out.length xs rfl (HOWN.out.alloc _) ⟨wq.heap.size, 0, none⟩ 1 1 [.int .i64 x, .int .i64 s, .int .i64 v, .slice a (flen k) c] rfl rfl (World.news_of_block (heap_alloc_new _ _)) (by simp [Value.oneCell']) (by omega) (by unfold maxLen; omega) (by omega) (by simp; omega) (wq.heap.size + 1) (by simp) ?_; intro g3 cap3 w3 hown3 hgrow3 hat3 hg3; have HX3 := Lib.hid (BRow.app HRq.out HOWN.out HV.out HK.out hown3 hgrow3); have HLB3 := Lib.hid (BRow.below HRq.out HOWN.out hgrow3); have k0 : w3.cell? ⟨rb, ro + j * 4, none⟩ = some (.int .i64 yx) := (by rw [HLB3.out.cell (by simp; omega)]; exact f0); have k1 : w3.cell? ⟨rb, ro + j * 4 + 1, none⟩ = some (.int .i64 ys) := (by rw [HLB3.out.cell (by simp; omega)]; exact f1); have k2 : w3.cell? ⟨rb, ro + j * 4 + 1 + 1, none⟩ = some (.int .i64 yv) := (by rw [HLB3.out.cell (by simp; omega)]; exact f2); have k3 : w3.cell? ⟨rb, ro + j * 4 + 1 + 2, none⟩ = some (.slice ya (flen yk) yc) := (by rw [HLB3.out.cell (by simp; omega)]; exact f3); have hl2' : (out ++ [(x, s, v, k)]).length = out.length + 1 := (by simp); have HBX3 := Lib.hid (HBXq.out.trans HLB3.out); have hws3 := HX3.out.size; obtain ⟨xs3, hown9, hv9⟩ := HX3.out.own; have HOWN3 := Lib.hid hown9; have HV3 := Lib.hid hv9; clear hown9 hv9 hown3 hgrow3 hat3 hg3 f0 f1 f2 f3 e0 e1 e2 e3) | (at_builtin; refine wpList_append_lies _ rfl _ _ 41 rfl (w.heap.size + 1) 124 ti _ 4 48 Try.underlying41 HTI.out.1 HTI.out.2.1 HTI.out.2.2.1 HTI.out.2.2.2 rfl (by omega) (.slice (some ⟨g3, 0, none⟩) (out.length + 1) cap3) (out.length + 1) xs3 rfl (by have h9 := HOWN3.out.alloc (.cells #[.int .i64 yx, .int .i64 ys, .int .i64 yv, .slice ya (flen yk) yc] 124); rw [hl2'] at h9; exact h9) ⟨w3.heap.size, 0, none⟩ 1 1 [.int .i64 yx, .int .i64 ys, .int .i64 yv, .slice ya (flen yk) yc] rfl rfl (World.news_of_block (heap_alloc_new _ _)) (by simp [Value.oneCell']) (by omega) (by unfold maxLen; omega) (by omega) (by simp; omega) (w3.heap.size + 1) (by simp) ?_; intro g5 cap5 w5 hown5 hgrow5 hat5 hg5; have HX5 := Lib.hid (BRow.app HX3.out HOWN3.out HV3.out HYS.out (by rw [hl2']; exact hown5) (by rw [hl2']; exact hgrow5)); have HLB5 := Lib.hid (BRow.below HX3.out HOWN3.out (by rw [hl2']; exact hgrow5)); clear hown5 hgrow5 hat5 hg5))
          have hl5' : (out ++ [(x, s, v, k)] ++ [(yx, ys, yv, yk)]).length = out.length + 1 + 1 := by simp
          have HBX5 := Lib.hid (HBX3.out.trans HLB5.out)
          go_roundw
          case rel => exact ⟨j + 1, out ++ [(x, s, v, k)] ++ [(yx, ys, yv, yk)], some ⟨g5, 0, none⟩, cap5, true, by rw [hl5'], rfl, by go_num, by omega, by rw [hl5']; have := HOJ.out; omega, HE2, HX5, HBX5⟩
          case measure => simp [intOf]; omega
        · have HE2 : Hid (ladd bs (x, s, v, k) = (out ++ [(yx, ys, yv, yk)]) ++ (if false = true then bs.drop (j + 1) else ladd (bs.drop (j + 1)) (x, s, v, k))) := by
            rw [Hid, HE.out, if_neg (by simp), if_neg (by simp), HD.out]; simp only [ladd]; rw [if_neg hgt]; simp
          have gg : decide (yx > x) = false := decide_eq_false hgt
          clear HE HD
          go_wp2_with fail
          refine wp_region_after wr.heap.size (by kernel_rfl) (by kernel_rfl) ?_
          repeat (go_big_quiet_step (fail))
          refine wpQuiet_nil ?_
          rintro wq ⟨⟨_, hu⟩, rfl⟩
          have HRq := Lib.hid (HR.out.next hu)
          have HBXq := Lib.hid (HBX.out.trans (hu.mono hws))
          have hws2 := HRq.out.size
          have e0 := cell_low hu b0
          have e1 := cell_low hu b1
          have e2 := cell_low hu b2
          have e3 := cell_low hu b3
          have f0 := cell_low hu hc0
          have f1 := cell_low hu hc1
          have f2 := cell_low hu hc2
          have f3 := cell_low hu hc3
          clear hu0 hu1 hu HR HBX b0 b1 b2 b3 hc0 hc1 hc2 hc3
          obtain ⟨xs, hown, hv⟩ := HRq.out.own
          have HOWN := Lib.hid hown
          have HV := Lib.hid hv
          clear hown hv
          go_wp2_with (at_builtin; refine wpList_append_lies _ rfl _ _ 41 rfl (w.heap.size + 1) 124 ti _ 4 48 Try.underlying41 HTI.out.1 HTI.out.2.1 HTI.out.2.2.1 HTI.out.2.2.2 rfl (by omega) (.slice A' out.length C') out.length xs rfl (HOWN.out.alloc _) ⟨wq.heap.size, 0, none⟩ 1 1 [.int .i64 yx, .int .i64 ys, .int .i64 yv, .slice ya (flen yk) yc] rfl rfl (World.news_of_block (heap_alloc_new _ _)) (by simp [Value.oneCell']) (by omega) (by unfold maxLen; omega) (by omega) (by simp; omega) (wq.heap.size + 1) (by simp) ?_; intro g3 cap3 w3 hown3 hgrow3 hat3 hg3; have HX3 := Lib.hid (BRow.app HRq.out HOWN.out HV.out HYS.out hown3 hgrow3); have HLB3 := Lib.hid (BRow.below HRq.out HOWN.out hgrow3); clear hown3 hgrow3 hat3 hg3)
          have hl2' : (out ++ [(yx, ys, yv, yk)]).length = out.length + 1 := by simp
          have HBX3 := Lib.hid (HBXq.out.trans HLB3.out)
          go_roundw
          case rel => exact ⟨j + 1, out ++ [(yx, ys, yv, yk)], some ⟨g3, 0, none⟩, cap3, false, by rw [hl2'], rfl, by go_num, by omega, by omega, HE2, HX3, HBX3⟩
          case measure => simp [intOf]; omega
    · obtain ⟨xs, hown, hv⟩ := HR.out.own
      have HOWN := Lib.hid hown
      have HV := Lib.hid hv
      clear hown hv
      cases dn with
      | true =>
        have HF : Hid (out = ladd bs (x, s, v, k)) := by rw [Hid, HE.out, if_pos rfl, List.drop_eq_nil_of_le (by omega)]; simp
        go_wp2_with fail
        go_ret
        refine ⟨A', C', ?_, ?_⟩
        · rw [← HF.out]; rfl
        · rw [← HF.out]; exact HR.out
      | false =>
        have HF : Hid (out ++ [(x, s, v, k)] = ladd bs (x, s, v, k)) := by rw [Hid, HE.out, if_neg (by simp), ladd_end (by omega)]
        go_wp2_with (at_builtin; refine wpList_append_lies _ rfl _ _ 41 rfl (w.heap.size + 1) 124 ti _ 4 48 Try.underlying41 HTI.out.1 HTI.out.2.1 HTI.out.2.2.1 HTI.out.2.2.2 rfl (by omega) (.slice A' out.length C') out.length xs rfl (HOWN.out.alloc _) ⟨wr.heap.size, 0, none⟩ 1 1 [.int .i64 x, .int .i64 s, .int .i64 v, .slice a (flen k) c] rfl rfl (World.news_of_block (heap_alloc_new _ _)) (by simp [Value.oneCell']) (by omega) (by unfold maxLen; omega) (by omega) (by simp; omega) (wr.heap.size + 1) (by simp) ?_; intro g cap w3 hown3 hgrow3 hat3 hg3; have HX3 := Lib.hid (BRow.app HR.out HOWN.out HV.out HK.out hown3 hgrow3); have HLB3 := Lib.hid (BRow.below HR.out HOWN.out hgrow3); clear hown3 hgrow3 hat3 hg3)
        go_wp2_with fail
        go_ret
        have hl2' : (out ++ [(x, s, v, k)]).length = out.length + 1 := by simp
        refine ⟨some ⟨g, 0, none⟩, cap, ?_, ?_⟩
        · rw [← HF.out, hl2']; rfl
        · rw [← HF.out]; exact HX3.out
end Go.Proofs.Ytoafleckcjanaaa

/-! SP3: The specification's l2Put: what variables stand for put in. -/
namespace Go.Proofs.Ytoafleckcjanaaa
open Go.RowKit Go.Deep
attribute [local go_sem ↓] Go.wp_at_zero Go.wp_at_succ

theorem cpS_start (σ : Int → Option (Int × Int × Fo)) (w : World) (s : Int) (a : Option Addr) (c : Nat) (k : Fo) : CpAt w s 0 a c (fsub σ k) 0 none 0 (((w.alloc (.cells #[.int .i64 s, .int .i64 0, .slice a (flen k) c] 35)).alloc (.cells #[.int .i64 0, .int .i64 0, .slice none 0 0] 35)).alloc (.cells #[.int .i64 s, .int .i64 0, .slice none 0 0] 35)) := by
  have h := CpAt.start w s 0 a c (fsub σ k)
  rw [fsub_len] at h
  exact h

theorem put_end0 {w w1 w2 : World} {s' v' : Int} {k' : Fo} {a : Option Addr} {c : Nat} {Y Z : Obj} (hb1 : Below ((w.alloc Y).alloc Z).heap.size ((w.alloc Y).alloc Z) w1) (hb : Below w1.heap.size w1 w2) (ho : Own w2 w1.heap.size k' (flen k') a c) (p q r : Value) :
    CopyPost s' v' k' w (.returned (.agg #[.int .i64 s', .int .i64 v', .slice a (flen k') c])) (((w2.setCell ⟨w.heap.size + 1, 0, none⟩ p).setCell ⟨w.heap.size + 1, 1, none⟩ q).setCell ⟨w.heap.size + 1, 2, none⟩ r) := by
  have h1 := hb1.size
  simp at h1
  have h2 := hb.size
  have hb2 : Below w.heap.size w w2 := ((((Below.refl _ _).alloc (Nat.le_refl _) Y).alloc (by simp) Z).trans (hb1.mono (by simp; omega))).trans (hb.mono (by omega))
  refine ⟨a, c, rfl, ((hb2.setCell (by simp) _).setCell (by simp) _).setCell (by simp) _, ?_⟩
  exact (((ho.store (by simp; omega) p).store (by simp; omega) q).store (by simp; omega) r).low (Below.refl _ _) (by omega)

set_option maxRecDepth 100000 in
set_option maxHeartbeats 1000000 in
theorem l2Put_any (bs : List Bd) (A0 : Option Addr) (C0 : Nat) (hbl : bs.length ≤ 9223372036854775807) (hbz : ∀ x t, sv bs x = some t → fsz t.2.2 ≤ 1000000) (N : Nat) : ∀ (s v : Int) (a : Option Addr) (c : Nat) (k : Fo) (w : World), BSl w 0 w.heap.size A0 bs → Sl w 0 w.heap.size a k → okN s v (flen k) = true → fok k = true → fsz k ≤ N → N ≤ 1000 →
    Calls Try.prog 52 #[.slice A0 bs.length C0, .agg #[.int .i64 s, .int .i64 v, .slice a (flen k) c]] w (CopyPost (tsub (sv bs) s v k).1 (tsub (sv bs) s v k).2.1 (tsub (sv bs) s v k).2.2 w) := by
  induction N using Nat.strongRecOn with
  | _ N ih =>
    intro s v a c k w hbs hl hok hfk hN hN2
    have hfl := flen_le_sz k
    have IH := Lib.hid ih
    have HFK := Lib.hid hfk
    have HBS := Lib.hid hbs
    have HBZ := Lib.hid hbz
    clear ih hfk hbs hbz
    by_cases hs0 : s = 0
    · subst hs0
      have hk0 : k = .nil := by
        have h1 := ((okN_iff _ _ _).1 hok).1
        cases k with
        | nil => rfl
        | node _ _ _ _ r => simp [flen, ar] at h1; omega
      subst hk0
      have hb0 : Below w.heap.size w ((w.alloc (.cells #[.int .i64 0, .int .i64 v, .slice a (flen .nil) c] 35)).alloc (.cells #[.int .i64 0, .int .i64 0, .slice none 0 0] 35)) := ((Below.refl _ _).alloc (Nat.le_refl _) _).alloc (by simp) _
      have HB1 : Hid (BSl ((w.alloc (.cells #[.int .i64 0, .int .i64 v, .slice a (flen .nil) c] 35)).alloc (.cells #[.int .i64 0, .int .i64 0, .slice none 0 0] 35)) 0 ((w.alloc (.cells #[.int .i64 0, .int .i64 v, .slice a (flen .nil) c] 35)).alloc (.cells #[.int .i64 0, .int .i64 0, .slice none 0 0] 35)).heap.size A0 bs) := (HBS.out.below hb0).mono (Nat.le_refl _) hb0.size
      have HZ : Hid (fsz (tsub (sv bs) 0 v .nil).2.2 ≤ 1000000) := by
        rw [Hid, tsub, if_pos rfl]
        cases h : sv bs v with
        | none => simp [fsz]
        | some t => exact HBZ.out v t h
      clear hb0 hok hl
      go_enter Try.func52, Try.ntmps52
      go_wp2_with fail
      with_reducible refine (l2Of_any bs A0 C0 v _ HB1.out hbl).mono ?_
      rintro e w1 ⟨a1, c1, rfl, hb1, hl1⟩
      generalize tsub (sv bs) 0 v .nil = tt at *
      obtain ⟨s', v', k'⟩ := tt
      dsimp only at hl1 HZ ⊢
      have HB2 := Lib.hid hb1
      have HL1 := Lib.hid hl1
      clear hb1 hl1
      go_wp2_with fail
      with_reducible refine (l1Copy_any (fsz k') s' v' a1 c1 k' _ HL1.out (Nat.le_refl _) HZ.out).mono ?_
      rintro e w2 ⟨a2, c2, rfl, hb2, ho2⟩
      have hs1 := HB2.out.size
      simp at hs1
      have hbx := (HB2.out.mono (show w.heap.size + 2 ≤ _ by simp)).trans (hb2.mono (show w.heap.size + 2 ≤ w1.heap.size by omega))
      obtain ⟨_, _, _, hr0, hr1, hr2⟩ := tb_cellsS hbx
      obtain ⟨_, hf0⟩ := tb_freeS hbx 0 rfl rfl
      obtain ⟨_, hf1⟩ := tb_freeS hbx 1 rfl rfl
      obtain ⟨_, hf2⟩ := tb_freeS hbx 2 rfl rfl
      clear hbx
      have HE := Lib.hid (fun p q r => put_end0 (s' := s') (v' := v') (k' := k') (c := c2) HB2.out hb2 ho2 p q r)
      clear hb2 ho2
      go_wp2_with fail
      refine bodyPost_ret (v := .agg #[.int .i64 s', .int .i64 v', .slice a2 (flen k') c2]) ?_ rfl (HE.out _ _ _)
      simp [results, Try.results52, go_sem, hr0, hr1, hr2]
    have hv0 : v = 0 := ((okN_iff _ _ _).1 hok).2.2 hs0
    subst hv0
    have HTT : Hid (tsub (sv bs) s 0 k = (s, 0, fsub (sv bs) k)) := by unfold Hid tsub; rw [if_neg hs0]
    have hse : (s == 0) = false := by simpa using hs0
    have hfl2 := fsub_len (sv bs) k
    rw [HTT.out]
    dsimp only
    clear hok
    have HST := Lib.hid (cpS_start (sv bs) w s a c k)
    go_enter Try.func52, Try.ntmps52
    go_wp2_with fail
    go_loopw [6] (fun i wr => ∃ (j : Nat) (A : Option Addr) (C : Nat), j ≤ flen k ∧ i = .int .i64 j ∧ CpAt w s 0 a c (fsub (sv bs) k) j A C wr) (fun i _ => flen k - (intOf i).toNat)
    case atStart => exact ⟨0, none, 0, Nat.zero_le _, rfl, HST.out⟩
    case round =>
      clear HST
      obtain ⟨j, A, C, hj, rfl, hat⟩ := hrel
      obtain ⟨hr0, hr1, hr2, hq0, hq1, hq2, hb0⟩ := hat.res
      rw [hfl2] at hb0
      have ho0 := hat.out0
      have ho1 := hat.out1
      have ho2 := hat.out2
      have hof := hat.free
      have hsz := hat.size
      by_cases hlt : j < flen k
      · clear hr0 hr1 hr2 hq0 hq1 hq2
        rcases hl with rfl | ⟨b, o, rfl, hrow⟩
        · simp [flen] at hlt
        have hbw := hat.low
        obtain ⟨s', v', kk, a', c', ⟨x, y, hd⟩, _, hbB, hk0, hk1, hk2, hsl⟩ := row_at (hrow.below hbw) hlt
        have hkN := Lib.hid (fsz_kid hd)
        have HD := Lib.hid (fsub_at (sv bs) j k hd)
        have HKID := Lib.hid (fok_kid HFK.out hd)
        have HBR : Hid (BSl wr.drew 0 wr.drew.heap.size A0 bs) := (HBS.out.below hbw.drew).mono (Nat.le_refl _) hbw.drew.size
        have HS := Lib.hid hsl
        have HROW := Lib.hid hrow
        have HAT := Lib.hid hat
        clear hd hsl hrow hat hbw
        have g1 : (0 : Int) ≤ (j : Int) := by omega
        have g2 : (j : Int) < (flen k : Int) := by omega
        obtain ⟨ti, hti, htz, hts, htb⟩ := Try.infoTerm
        obtain ⟨xs, hown, hall⟩ := HAT.out.own
        have HTI := Lib.hid hti
        have HTZ := Lib.hid htz
        have HTS := Lib.hid hts
        have HTB := Lib.hid htb
        have HOWN := Lib.hid hown
        have HALL := Lib.hid hall
        have HLT : Hid (∀ g, (Value.slice A j C).ownBlock = some g → w.heap.size + 3 ≤ g) := fun g hg => (hown.lt g hg).1
        clear hti htz hts htb hown hall
        have hu0 : ∀ u : After (w.heap.size + 3) wr, u.world.cell? ⟨w.heap.size + 1 + 1, 2, none⟩ = some (.slice A j C) := fun u => u.cell (by simp) ho2
        have hu1 : ∀ u : After (w.heap.size + 3) wr, u.world.cell? ⟨w.heap.size, 2, none⟩ = some (.slice (some ⟨b, o, none⟩) (flen k) c) := fun u => u.cell (by simp) hb0
        have hu2 : ∀ u : After (w.heap.size + 3) wr, u.world.cell? ⟨b, o + j * 3, none⟩ = some (.int .i64 s') := fun u => u.cell (by simp; omega) hk0
        have hu3 : ∀ u : After (w.heap.size + 3) wr, u.world.cell? ⟨b, o + j * 3 + 1, none⟩ = some (.int .i64 v') := fun u => u.cell (by simp; omega) hk1
        have hu4 : ∀ u : After (w.heap.size + 3) wr, u.world.cell? ⟨b, o + j * 3 + 2, none⟩ = some (.slice a' (flen kk) c') := fun u => u.cell (by simp; omega) hk2
        go_wp2_with fail
        refine wp_region_mix (fun w' => ∃ u : After (w.heap.size + 3) wr, w' = u.world) [11, 12] [(0, 0), (1, 0), (2, 0), (3, 0), (4, 0), (5, 0), (6, 0), (7, 0), (8, 1), (9, 1), (10, 1), (11, 2), (12, 2)] (by kernel_rfl) (by kernel_rfl) ⟨⟨_, (Below.refl _ _).drew⟩, rfl⟩ ?_
        iterate 8
          refine mix_see rfl (fun K hK => ?_)
          go_simp
          refine hK _ ?_
          clear hK K
        clear hu0 hu1 hu2 hu3 hu4
        refine mix_hold rfl (fun K hK => ?_)
        go_simp
        with_reducible refine (IH.out (fsz kk) (by have := hkN.out; omega) s' v' a' c' kk _ HBR.out ?_ HKID.out.1 HKID.out.2 (Nat.le_refl _) ?_).mono ?_
        · exact (HS.out.below (Below.refl _ _).drew).mono (Nat.le_refl _) (by simp; omega)
        · have := hkN.out; omega
        generalize tsub (sv bs) s' v' kk = tt at *
        obtain ⟨s3, v3, k3⟩ := tt
        dsimp only at HD
        rintro e w2 ⟨a2, c2, rfl, hb2', hown2⟩
        dsimp only at hown2
        have hb2 : Below wr.heap.size wr w2 := bl_undrew hb2'
        have HL2 : Hid (Sl w2 wr.heap.size w2.heap.size a2 k3) := hown2.sl
        have hs2 := hb2.size
        refine hK _ _ ⟨⟨_, hb2.mono (by omega)⟩, rfl⟩ ?_
        clear hK K hb2' hown2
        refine mix_hold rfl (fun K hK => ?_)
        go_simp
        refine hK _ _ ⟨⟨_, (hb2.mono (by omega)).alloc (by omega) _⟩, rfl⟩ ?_
        clear hK K
        refine mix_hold rfl (fun K hK => ?_)
        refine step_append_lies _ (by rfl) _ _ _ (by rfl) (w.heap.size + 3) 35 ti _ 3 40 Try.underlying33 HTI.out HTZ.out HTS.out HTB.out rfl (by omega) (.slice A j C) j xs (by rfl) (own_low ((Below.refl _ _).alloc (Nat.le_refl _) _) (own_low hb2 HOWN.out)) ⟨w2.heap.size, 0, none⟩ 1 1 [.int .i64 s3, .int .i64 v3, .slice a2 (flen k3) c2] (by rfl) (by rfl) (World.news_of_block (heap_alloc_new _ _)) (by simp [Value.oneCell']) (by omega) (by unfold maxLen; omega) (by omega) (by simp; omega) (w2.heap.size + 1) (by simp) ?_
        intro g cap w3 hown3 hgrow hatg hg3
        have hlow : Below (w.heap.size + 3) wr w3 := ((hb2.mono (by omega)).alloc (by omega) _).grown hgrow (by simp; omega) HLT.out
        have hz2 : w3.cell? ⟨w.heap.size + 1 + 1, 2, none⟩ = some (.slice A j C) := by rw [hlow.cell (by simp)]; exact ho2
        have hz3 : w3.frozen? ⟨w.heap.size + 1 + 1, 2, none⟩ = false := by rw [hlow.frozen (by simp)]; exact hof
        have HSTEP := Lib.hid (HAT.out.step hb2 HL2.out HD.out HOWN.out HALL.out hown3 hgrow hatg)
        refine hK _ _ ⟨⟨_, hlow⟩, rfl⟩ ?_
        clear hK K hown3 hgrow hatg
        refine mix_late rfl (fun K hK => ?_)
        go_simp
        refine hK _ _ ?_
        clear hK K
        refine mix_late rfl (fun K hK => ?_)
        go_simp
        refine hK _ _ ?_
        clear hK K
        refine mix_end ?_
        clear hz2 hz3 hlow hb0 ho0 ho1 ho2 hof hk0 hk1 hk2
        go_wp2_with fail
        go_roundw
        case rel => exact ⟨j + 1, _, _, by omega, by go_num, HSTEP.out⟩
        case measure => simp [intOf]; omega
      · have hjk : j = flen k := by omega
        subst hjk
        have HDN : Hid (∀ x y z, CopyPost s 0 (fsub (sv bs) k) w (.returned (.agg #[.int .i64 s, .int .i64 0, .slice A (flen k) C])) (((wr.setCell ⟨w.heap.size + 1, 0, none⟩ x).setCell ⟨w.heap.size + 1, 1, none⟩ y).setCell ⟨w.heap.size + 1, 2, none⟩ z)) := fun x y z => by
          rw [← hfl2] at hat ⊢
          exact hat.done x y z
        clear hat
        go_wp2_with fail
        refine bodyPost_ret (v := .agg #[.int .i64 s, .int .i64 0, .slice A (flen k) C]) ?_ rfl (HDN.out _ _ _)
        simp [results, Try.results52, go_sem, hr0, hr1, hr2]
end Go.Proofs.Ytoafleckcjanaaa

/-! TP: What TermPlaces answers. -/
namespace Go.Proofs.Ytoafleckcjanaaa
open Go.RowKit Go.Deep

theorem isl_nil {w : World} {lo B : Nat} {a : Option Addr} : ISl w lo B a [] := Or.inl rfl

def TpPost (s v : Int) (k : Fo) (w : World) (e : Ending) (w' : World) : Prop :=
  ∃ A C rows, e = .returned (.slice A rows.length C) ∧ rows = (if okW s v k 16 = true then places k else []) ∧ Below w.heap.size w w' ∧ RSl w' w.heap.size w'.heap.size A rows
end Go.Proofs.Ytoafleckcjanaaa

/-! P6a: - impl.TermPlaces and spec.TermPlaces: of a term the places, of any other value none. -/
namespace Go.Proofs.Ytoafleckcjanaaa
open Go.RowKit Go.Deep

end Go.Proofs.Ytoafleckcjanaaa

/-! P7a: Each place is there, none twice: plain. -/
namespace Go.Proofs.Ytoafleckcjanaaa
open Go.RowKit Go.Deep

mutual
theorem fpl_at : ∀ (r : Fo) (s v : Int) (k : Fo) (i : Nat) (p : List Int), fdrop i k = r → p ∈ fpl r i → ∃ x, fat s v k p = some x
  | .nil, _, _, _, _, _, _, hp => by simp [fpl] at hp
  | .node x y (s', v') kk r, s, v, k, i, p, hd, hp => by
    simp only [fpl, List.mem_append, List.mem_map] at hp
    rcases hp with ⟨q, hq, rfl⟩ | hp
    · have hi : i < flen k := by
        by_cases h : i < flen k
        · exact h
        · rw [fdrop_all (by omega)] at hd; cases hd
      obtain ⟨z, hz⟩ := places_at kk s' v' q hq
      refine ⟨z, ?_⟩
      simp only [fat]
      rw [if_pos (by omega)]
      simp only [Int.toNat_natCast, hd]
      exact hz
    · have hd' : fdrop (i + 1) k = r := by
        have hi : i < flen k := by
          by_cases h : i < flen k
          · exact h
          · rw [fdrop_all (by omega)] at hd; cases hd
        obtain ⟨x', y', s2, v2, kk2, e⟩ := fdrop_succ i k hi
        rw [hd] at e
        simp only [BT.node.injEq] at e
        exact e.2.2.2.2.symm
      exact fpl_at r s v k (i + 1) p hd' hp
  termination_by r => (SizeOf.sizeOf r, 0)
theorem places_at : ∀ (k : Fo) (s v : Int) (p : List Int), p ∈ [] :: fpl k 0 → ∃ x, fat s v k p = some x
  | k, s, v, p, hp => by
    rcases List.mem_cons.1 hp with rfl | hp
    · exact ⟨_, rfl⟩
    · exact fpl_at k s v k 0 p rfl hp
  termination_by k => (SizeOf.sizeOf k, 1)
end

theorem fpl_head : ∀ (k : Fo) (i : Nat) (p : List Int), p ∈ fpl k i → ∃ (j : Nat) (q : List Int), p = (j : Int) :: q ∧ i ≤ j
  | .nil, _, _, hp => by simp [fpl] at hp
  | .node _ _ _ kk r, i, p, hp => by
    simp only [fpl, List.mem_append, List.mem_map] at hp
    rcases hp with ⟨q, _, rfl⟩ | hp
    · exact ⟨i, q, rfl, Nat.le_refl _⟩
    · obtain ⟨j, q, e, h⟩ := fpl_head r (i + 1) p hp
      exact ⟨j, q, e, by omega⟩
theorem nil_fpl {k : Fo} {i : Nat} {b : List Int} (hb : b ∈ fpl k i) : [] ≠ b := by
  obtain ⟨j, q, e, _⟩ := fpl_head k i b hb
  intro e'
  rw [e] at e'
  cases e'
theorem fpl_apart : ∀ (k : Fo) (i : Nat), (fpl k i).Pairwise (· ≠ ·)
  | .nil, _ => List.Pairwise.nil
  | .node _ _ _ kk r, i => by
    simp only [fpl]
    rw [List.pairwise_append]
    refine ⟨?_, fpl_apart r (i + 1), fun a ha b hb => ?_⟩
    · rw [List.pairwise_map]
      have h : ([] :: fpl kk 0).Pairwise (· ≠ ·) := List.pairwise_cons.2 ⟨fun _ hb => nil_fpl hb, fpl_apart kk 0⟩
      exact h.imp fun hne e => hne (List.cons.inj e).2
    · obtain ⟨q, _, rfl⟩ := List.mem_map.1 ha
      obtain ⟨j, q', rfl, hj⟩ := fpl_head r (i + 1) b hb
      intro e
      have := (List.cons.inj e).1
      omega
theorem places_apart (k : Fo) : (places k).Pairwise (· ≠ ·) :=
  List.pairwise_cons.2 ⟨fun _ hb => nil_fpl hb, fpl_apart k 0⟩
theorem places_unlike {k : Fo} {i j : Nat} {p q : List Int} (hi : (places k)[i]? = some p) (hj : (places k)[j]? = some q) (hij : i < j) : p ≠ q := by
  obtain ⟨h1, rfl⟩ := List.getElem?_eq_some_iff.1 hi
  obtain ⟨h2, rfl⟩ := List.getElem?_eq_some_iff.1 hj
  exact List.pairwise_iff_getElem.1 (places_apart k) i j h1 h2 hij
end Go.Proofs.Ytoafleckcjanaaa

/-! PS2: What stands at the places of a term with something put in; sums over places. Plain lemmas. -/
namespace Go.Proofs.Ytoafleckcjanaaa
open Go.RowKit Go.Deep

theorem atR_of {s v : Int} {k : Fo} {p : List Int} {s' v' : Int} {k' : Fo} (h : okW s v k 16 = true) (hf : fat s v k p = some (s', v', k')) : atR s v k p = (s', v', k', true) ∧ okW s' v' k' 16 = true := by
  have h1 := (okW_iff _ _ _ _).1 h
  have h2 := fat_ok p s v k h1.1 h1.2.1 hf
  refine ⟨by unfold atR; rw [h, hf]; rfl, (okW_iff _ _ _ _).2 ⟨h2.1, h2.2.1, by omega⟩⟩
theorem sub_parts {bs : List Bd} {s v : Int} {k : Fo} {sx vx : Int} {kx : Fo} {pl : List Int} (hd : sdR bs s v k = (sx, vx, kx, true)) (hp : pl ∈ places k) :
    ∃ s1 v1 k1 s3 v3 k3, atR s v k pl = (s1, v1, k1, true) ∧ sdR bs s1 v1 k1 = (s3, v3, k3, true) ∧ atR sx vx kx pl = (s3, v3, k3, true) := by
  rcases sdR_cases hd with ⟨h, _⟩ | ⟨_, hsok, hok, ht, hokx⟩
  · cases h
  obtain ⟨⟨s1, v1, k1⟩, hf⟩ := places_at k s v pl hp
  have h1 := (okW_iff _ _ _ _).1 hok
  have hF := fat_sub (sv bs) pl s v k h1.1 h1.2.1 hf
  rw [ht] at hF
  dsimp only at hF
  generalize htt : tsub (sv bs) s1 v1 k1 = tt at hF
  obtain ⟨s3, v3, k3⟩ := tt
  have hx := atR_of hokx hF
  refine ⟨s1, v1, k1, s3, v3, k3, (atR_of hok hf).1, sdR_of hsok (atR_of hok hf).2 htt ?_, hx.1⟩
  have := ((okW_iff _ _ _ _).1 hx.2).2.2
  omega
theorem atR_fat {s v : Int} {k : Fo} {p : List Int} {s' v' : Int} {k' : Fo} (h : atR s v k p = (s', v', k', true)) : okW s v k 16 = true ∧ fat s v k p = some (s', v', k') := by
  unfold atR at h
  cases ho : okW s v k 16 with
  | false => rw [ho] at h; simp at h
  | true =>
    rw [ho] at h
    cases hf : fat s v k p with
    | none => rw [hf] at h; simp at h
    | some y => rw [hf] at h; simp at h; obtain ⟨h1, h2, h3⟩ := h; exact ⟨rfl, by obtain ⟨a, b, c⟩ := y; simp_all⟩
def psum (σ : Int → Option (Int × Int × Fo)) (s v : Int) (k : Fo) (j : Nat) : Nat := (((places k).take j).map fun p => pcnt σ (fat s v k p)).sum
theorem psum_zero (σ : Int → Option (Int × Int × Fo)) (s v : Int) (k : Fo) : psum σ s v k 0 = 0 := by simp [psum]
theorem psum_step {σ : Int → Option (Int × Int × Fo)} {s v : Int} {k : Fo} {j : Nat} {pl : List Int} {s1 v1 : Int} {k1 : Fo} (hp : (places k)[j]? = some pl) (hf : fat s v k pl = some (s1, v1, k1)) : psum σ s v k (j + 1) = psum σ s v k j + pcnt σ (some (s1, v1, k1)) := by
  unfold psum
  rw [List.take_add_one, hp]
  simp [hf]
theorem psum_all {bs : List Bd} {s v : Int} {k : Fo} {sx vx : Int} {kx : Fo} {j : Nat} (hd : sdR bs s v k = (sx, vx, kx, true)) (hj : (places k).length ≤ j) : psum (sv bs) s v k j = 1 + fsz kx := by
  rcases sdR_cases hd with ⟨h, _⟩ | ⟨_, hsok, hok, ht, hokx⟩
  · cases h
  have h1 := (okW_iff _ _ _ _).1 hok
  unfold psum
  rw [List.take_of_length_le hj, places_sum (sv bs) h1.1 h1.2.1, ht]
/-- One step of the sum: what stands at a place, what comes of it. -/
theorem psum_at {bs : List Bd} {s v : Int} {k : Fo} {sx vx : Int} {kx : Fo} {j : Nat} {pl : List Int} (hd : sdR bs s v k = (sx, vx, kx, true)) (hp : (places k)[j]? = some pl) :
    ∃ s1 v1 k1 s3 v3 k3, atR s v k pl = (s1, v1, k1, true) ∧ sdR bs s1 v1 k1 = (s3, v3, k3, true) ∧ okW s3 v3 k3 16 = true ∧ (s1 = 0 → psum (sv bs) s v k (j + 1) = psum (sv bs) s v k j + 1 + fsz k3) ∧ (s1 ≠ 0 → psum (sv bs) s v k (j + 1) = psum (sv bs) s v k j + 1) := by
  obtain ⟨s1, v1, k1, s3, v3, k3, h1, h2, h3⟩ := sub_parts hd (List.mem_of_getElem? hp)
  have hf := (atR_fat h1).2
  have hs := psum_step (σ := sv bs) hp hf
  rcases sdR_cases h2 with ⟨h, _⟩ | ⟨_, hsok, hok, ht, hokx⟩
  · cases h
  refine ⟨s1, v1, k1, s3, v3, k3, h1, h2, hokx, fun e => ?_, fun e => ?_⟩
  · subst e
    obtain rfl := kids_none ((okW_iff _ _ _ _).1 hok).1
    rw [hs, pcnt, if_pos rfl, ht]
    dsimp only
    omega
  · rw [hs, pcnt, if_neg e]
end Go.Proofs.Ytoafleckcjanaaa

/-! ML0: What is put in one behind the other, and not smaller. Plain lemmas. -/
namespace Go.Proofs.Ytoafleckcjanaaa
open Go.RowKit Go.Deep

/-- One behind the other. -/
def comp (σ τ : Int → Option (Int × Int × Fo)) (x : Int) : Option (Int × Int × Fo) := (σ x).map fun t => tsub τ t.1 t.2.1 t.2.2
theorem comp_some {σ τ : Int → Option (Int × Int × Fo)} {x : Int} {t : Int × Int × Fo} (h : σ x = some t) : comp σ τ x = some (tsub τ t.1 t.2.1 t.2.2) := by unfold comp; rw [h]; rfl
theorem fsub_zero {σ : Int → Option (Int × Int × Fo)} {x y : Nat} {p : Int × Int} {k r : Fo} (e : p.1 = 0) : fsub σ (.node x y p k r) = .node x y ((tsub σ p.1 p.2 k).1, (tsub σ p.1 p.2 k).2.1) (tsub σ p.1 p.2 k).2.2 (fsub σ r) := by
  simp only [fsub, tsub, if_pos e]
  cases σ p.2 with
  | none => rfl
  | some t => rfl
theorem fsub_sign {σ : Int → Option (Int × Int × Fo)} {x y : Nat} {p : Int × Int} {k r : Fo} : fsub σ (.node x y p k r) = .node x y ((tsub σ p.1 p.2 k).1, (tsub σ p.1 p.2 k).2.1) (tsub σ p.1 p.2 k).2.2 (fsub σ r) := by
  by_cases e : p.1 = 0
  · exact fsub_zero e
  · simp only [fsub, tsub, if_neg e]
theorem tsub_var {σ : Int → Option (Int × Int × Fo)} {s v : Int} {k : Fo} {t : Int × Int × Fo} (e : s = 0) (h : σ v = some t) : tsub σ s v k = t := by unfold tsub; rw [if_pos e, h]; rfl
theorem tsub_sym {σ : Int → Option (Int × Int × Fo)} {s v : Int} {k : Fo} (e : s ≠ 0) : tsub σ s v k = (s, v, fsub σ k) := by unfold tsub; rw [if_neg e]
theorem fsub_comp {σ τ : Int → Option (Int × Int × Fo)} : ∀ k : Fo, (∀ x ∈ fvl k, (σ x).isSome = true) → fsub τ (fsub σ k) = fsub (comp σ τ) k
  | .nil, _ => rfl
  | .node x y p k r, h => by
    simp only [fvl, List.mem_append] at h
    have hr := fsub_comp (σ := σ) (τ := τ) r (fun z hz => h z (.inr hz))
    rw [fsub_sign (σ := σ), fsub_sign (σ := τ), fsub_sign (σ := comp σ τ), hr]
    by_cases e : p.1 = 0
    · have h0 := h p.2 (.inl (by rw [if_pos e]; simp))
      obtain ⟨t, ht⟩ := Option.isSome_iff_exists.1 h0
      rw [tsub_var e ht, tsub_var e (comp_some ht)]
    · rw [tsub_sym e, tsub_sym (σ := comp σ τ) e, tsub_sym (σ := τ) e, fsub_comp k (fun z hz => h z (.inl (by rw [if_neg e]; exact hz)))]
theorem tsub_comp {σ τ : Int → Option (Int × Int × Fo)} {s v : Int} {k : Fo} (h : ∀ x ∈ fvs s v k, (σ x).isSome = true) : tsub τ (tsub σ s v k).1 (tsub σ s v k).2.1 (tsub σ s v k).2.2 = tsub (comp σ τ) s v k := by
  unfold fvs at h
  by_cases e : s = 0
  · rw [if_pos e] at h
    obtain ⟨t, ht⟩ := Option.isSome_iff_exists.1 (h v (by simp))
    rw [tsub_var e ht, tsub_var e (comp_some ht)]
  · rw [if_neg e] at h
    rw [tsub_sym e, tsub_sym (σ := comp σ τ) e, tsub_sym (σ := τ) e, fsub_comp k h]
/-- Not smaller. -/
theorem fsub_more {σ : Int → Option (Int × Int × Fo)} : ∀ k : Fo, fok k = true → fsz k ≤ fsz (fsub σ k)
  | .nil, _ => Nat.le_refl _
  | .node x y p k r, h => by
    simp only [fok, Bool.and_eq_true] at h
    have h1 := fsub_more (σ := σ) k h.1.2
    have h2 := fsub_more (σ := σ) r h.2
    simp only [fsub]
    by_cases e : p.1 = 0
    · have hk : k = .nil := kids_none (v := p.2) (by rw [← e]; exact h.1.1)
      subst hk
      rw [if_pos e]
      split <;> simp only [fsz] <;> omega
    · rw [if_neg e]; simp only [fsz]; omega
end Go.Proofs.Ytoafleckcjanaaa
