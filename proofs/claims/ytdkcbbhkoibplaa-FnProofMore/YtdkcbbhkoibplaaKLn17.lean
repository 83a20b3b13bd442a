/- Several texts in one: MA0, MS, AD2. -/
import Derived.Test.YtdkcbbhkoibplaaKLn6
import Derived.Test.YtdkcbbhkoibplaaKLn12
import Derived.Test.YtdkcbbhkoibplaaKLn15
import Derived.Test.YtdkcbbhkoibplaaKLn4

/-! MA0: Matching, plain: steps of a row. -/
namespace Go.Proofs.Ytdkcbbhkoibplaa
open Go.RowKit Go.Deep

theorem flen_same {s v v' : Int} {k k' : Fo} (h : okN s v (flen k) = true) (h' : okN s v' (flen k') = true) : flen k = flen k' := by
  have h1 := ((okN_iff _ _ _).1 h).1
  have h2 := ((okN_iff _ _ _).1 h').1
  omega
theorem tmt_sym {bs : List Bd} {s v v' : Int} {k k' : Fo} (hs : s ≠ 0) : tmt bs s v k s v' k' = fmt bs k k' := by unfold tmt; rw [if_neg hs, if_pos rfl]
theorem tmt_other {bs : List Bd} {s v s' v' : Int} {k k' : Fo} (hs : s ≠ 0) (hne : s ≠ s') : tmt bs s v k s' v' k' = none := by unfold tmt; rw [if_neg hs, if_neg hne]
theorem fsz_dropN {j x y : Nat} {p : Int × Int} {k kk r : Fo} (h : fdrop j k = .node x y p kk r) : fsz (fdrop j k) = fsz kk + fsz r + 1 := by rw [h]; rfl

theorem mtV_found {bs : List Bd} {x : Int} {u t : Int × Int × Fo} (h : sv bs x = some u) : mtV bs x t = if teq u.1 u.2.1 u.2.2 t.1 t.2.1 t.2.2 = true then some bs else none := by unfold mtV; rw [h]
theorem mtV_none {bs : List Bd} {x : Int} {t : Int × Int × Fo} (h : sv bs x = none) : mtV bs x t = some (ladd bs (x, t)) := by unfold mtV; rw [h]
theorem tmt_zero {bs : List Bd} {v s' v' : Int} {k k' : Fo} : tmt bs 0 v k s' v' k' = mtV bs v (s', v', k') := by unfold tmt; rw [if_pos rfl]
end Go.Proofs.Ytdkcbbhkoibplaa

/-! MS: The specification's l2Match. -/
namespace Go.Proofs.Ytdkcbbhkoibplaa
open Go.RowKit Go.Deep

/-- Two boxes of terms, made one behind the other. -/
theorem two_boxesM {w wr : World} {x y z x' y' z' : Value} {T T' : TypeId} (h : Below (w.heap.size + 2) ((w.alloc (.cells #[x, y, z] T)).alloc (.cells #[x', y', z'] T')) wr) :
    wr.cell? ⟨w.heap.size, 0, none⟩ = some x ∧ wr.cell? ⟨w.heap.size, 1, none⟩ = some y ∧ wr.cell? ⟨w.heap.size, 2, none⟩ = some z ∧ wr.cell? ⟨w.heap.size + 1, 0, none⟩ = some x' ∧ wr.cell? ⟨w.heap.size + 1, 1, none⟩ = some y' ∧ wr.cell? ⟨w.heap.size + 1, 2, none⟩ = some z' := by
  refine ⟨?_, ?_, ?_, ?_, ?_, ?_⟩
  · rw [h.cell (by simp), World.cell?_alloc_lt _ _ _ (by simp), World.cell?_alloc_at _ _ _ _ (by simp)]; rfl
  · rw [h.cell (by simp), World.cell?_alloc_lt _ _ _ (by simp), World.cell?_alloc_at _ _ _ _ (by simp)]; rfl
  · rw [h.cell (by simp), World.cell?_alloc_lt _ _ _ (by simp), World.cell?_alloc_at _ _ _ _ (by simp)]; rfl
  · rw [h.cell (by simp), World.cell?_alloc_at _ _ _ _ (by simp)]; rfl
  · rw [h.cell (by simp), World.cell?_alloc_at _ _ _ _ (by simp)]; rfl
  · rw [h.cell (by simp), World.cell?_alloc_at _ _ _ _ (by simp)]; rfl

end Go.Proofs.Ytdkcbbhkoibplaa

/-! AD2: l2Add of the specification, its terms in blocks from lo on (out of AD by program). -/
namespace Go.Proofs.Ytdkcbbhkoibplaa
open Go.RowKit Go.Deep

/-- The values of a row of binds; their terms lie in w. -/
def BValL (lo : Nat) (w : World) (bs : List Bd) (xs : List Value) : Prop := xs.length = bs.length * 4 ∧ ∀ (i : Nat) (x : Bd), bs[i]? = some x → ∃ a' c', xs[i * 4]? = some (.int .i64 x.1) ∧ xs[i * 4 + 1]? = some (.int .i64 x.2.1) ∧ xs[i * 4 + 2]? = some (.int .i64 x.2.2.1) ∧ xs[i * 4 + 3]? = some (.slice a' (flen x.2.2.2) c') ∧ Sl w lo w.heap.size a' x.2.2.2
theorem BValL.snoc {lo : Nat} {w : World} {bs : List Bd} {xs : List Value} {x s v : Int} {k : Fo} {a : Option Addr} {c : Nat} (h : BValL lo w bs xs) (hl : Sl w lo w.heap.size a k) : BValL lo w (bs ++ [(x, s, v, k)]) (xs ++ [.int .i64 x, .int .i64 s, .int .i64 v, .slice a (flen k) c]) := by
  obtain ⟨hxl, hall⟩ := h
  refine ⟨by simp [hxl]; omega, fun i y hy => ?_⟩
  by_cases hi : i < bs.length
  · rw [List.getElem?_append_left hi] at hy
    obtain ⟨a', c', c0, c1, c2, c3, hsl⟩ := hall i y hy
    exact ⟨a', c', by rw [List.getElem?_append_left (by omega)]; exact c0, by rw [List.getElem?_append_left (by omega)]; exact c1, by rw [List.getElem?_append_left (by omega)]; exact c2, by rw [List.getElem?_append_left (by omega)]; exact c3, hsl⟩
  · have hi' : i = bs.length := by have := (List.getElem?_eq_some_iff.1 hy).1; simp at this; omega
    subst hi'
    simp at hy
    subst hy
    refine ⟨a, c, ?_, ?_, ?_, ?_, hl⟩
    · rw [List.getElem?_append_right (by omega), hxl]; simp
    · rw [List.getElem?_append_right (by omega), hxl, show bs.length * 4 + 1 - bs.length * 4 = 1 from by omega]; rfl
    · rw [List.getElem?_append_right (by omega), hxl, show bs.length * 4 + 2 - bs.length * 4 = 2 from by omega]; rfl
    · rw [List.getElem?_append_right (by omega), hxl, show bs.length * 4 + 3 - bs.length * 4 = 3 from by omega]; rfl

/-- A row of binds of one's own, made from base on, behind w; its terms lie in w. -/
structure BRowL (lo : Nat) (w : World) (base : Nat) (bs : List Bd) (A : Option Addr) (C : Nat) (wr : World) : Prop where
  low : Below w.heap.size w wr
  hb : w.heap.size ≤ base
  size : base ≤ wr.heap.size
  own : ∃ xs, wr.ownsRow base 131 4 (.slice A bs.length C) bs.length xs ∧ BValL lo w bs xs
theorem BRowL.bsl {lo : Nat} {w wr : World} {base : Nat} {bs : List Bd} {A : Option Addr} {C : Nat} (h : BRowL lo w base bs A C wr) (hlo : lo ≤ w.heap.size) : BSl wr lo wr.heap.size A bs := by
  obtain ⟨xs, hown, hxl, hall⟩ := h.own
  rcases Nat.eq_zero_or_pos bs.length with h0 | h0
  · exact .inl (List.eq_nil_of_length_eq_zero h0)
  · obtain ⟨g, cap, hv, hb, hlt⟩ := hown.form h0
    have hA : A = some ⟨g, 0, none⟩ := by simp only [Value.slice.injEq] at hv; exact hv.1
    subst hA
    refine .inr ⟨g, 0, rfl, by have := h.hb; omega, hlt, fun i x hx => ?_⟩
    have hi := (List.getElem?_eq_some_iff.1 hx).1
    obtain ⟨a', c', c0, c1, c2, c3, hl⟩ := hall i x hx
    refine ⟨a', c', ?_, ?_, ?_, ?_, hl.low h.low⟩
    · rw [Nat.zero_add, hown.cellAt _ (by omega)]; exact c0
    · rw [Nat.zero_add, hown.cellAt _ (by omega)]; exact c1
    · rw [Nat.zero_add, hown.cellAt _ (by omega)]; exact c2
    · rw [Nat.zero_add, hown.cellAt _ (by omega)]; exact c3
theorem BRowL.next {lo : Nat} {w wr w2 : World} {base : Nat} {bs : List Bd} {A : Option Addr} {C : Nat} (h : BRowL lo w base bs A C wr) (hb : Below wr.heap.size wr w2) : BRowL lo w base bs A C w2 := by
  obtain ⟨xs, hown, hv⟩ := h.own
  exact ⟨below_next h.low hb, h.hb, Nat.le_trans h.size hb.size, xs, own_low hb hown, hv⟩
theorem BRowL.start (lo : Nat) (w : World) (base : Nat) (hb : w.heap.size ≤ base) {wr : World} (hl : Below w.heap.size w wr) (hs : base ≤ wr.heap.size) : BRowL lo w base [] (some ⟨wr.heap.size, 0, none⟩) 0 (wr.alloc (.cells #[] 131)) :=
  ⟨below_next hl (box_low _ _), hb, by simp; omega, [], ⟨rfl, .inr ⟨wr.heap.size, 0, #[], rfl, hs, heap_alloc_new _ _, Nat.le_refl _, by decide, rfl, rfl⟩⟩, rfl, fun i x hx => by simp at hx⟩
theorem BRowL.app {lo : Nat} {w wr w3 : World} {base : Nat} {bs : List Bd} {A : Option Addr} {C g cap : Nat} {x s v : Int} {k : Fo} {a : Option Addr} {c : Nat} {blk : Obj} {xs : List Value} (h : BRowL lo w base bs A C wr) (hown : wr.ownsRow base 131 4 (.slice A bs.length C) bs.length xs) (hv : BValL lo w bs xs) (hl : Sl w lo w.heap.size a k)
    (hown3 : w3.ownsRow base 131 4 (.slice (some ⟨g, 0, none⟩) (bs.length + 1) cap) (bs.length + 1) (xs ++ [.int .i64 x, .int .i64 s, .int .i64 v, .slice a (flen k) c])) (hgrow : (wr.alloc blk).grownBy w3 (Value.slice A bs.length C).ownBlock) : BRowL lo w base (bs ++ [(x, s, v, k)]) (some ⟨g, 0, none⟩) cap w3 := by
  have hl' : (bs ++ [(x, s, v, k)]).length = bs.length + 1 := by simp
  have hs := h.size
  have hb := h.hb
  have hlow : Below base wr w3 := ((Below.refl base wr).alloc hs blk).grown hgrow (by simp; omega) (fun q hq => (hown.lt q hq).1)
  exact ⟨h.low.trans (hlow.mono hb), hb, Nat.le_trans hs hlow.size, _, by rw [hl']; exact hown3, hv.snoc hl⟩
theorem BRowL.below {lo : Nat} {w wr w3 : World} {base : Nat} {bs : List Bd} {A : Option Addr} {C : Nat} {blk : Obj} {xs : List Value} (h : BRowL lo w base bs A C wr) (hown : wr.ownsRow base 131 4 (.slice A bs.length C) bs.length xs) (hgrow : (wr.alloc blk).grownBy w3 (Value.slice A bs.length C).ownBlock) : Below base wr w3 :=
  ((Below.refl base wr).alloc h.size blk).grown hgrow (by have := h.size; simp; omega) (fun q hq => (hown.lt q hq).1)

def AddPostL (lo : Nat) (bs : List Bd) (b : Bd) (w : World) (e : Ending) (w' : World) : Prop :=
  ∃ A C, e = .returned (.slice A (List.length (ladd bs b)) C) ∧ BRowL lo w (w.heap.size + 1) (ladd bs b) A C w'

set_option maxRecDepth 100000 in
set_option maxHeartbeats 4000000 in
theorem l2Add_lo (lo : Nat) (bs : List Bd) (A : Option Addr) (C : Nat) (x s v : Int) (a : Option Addr) (c : Nat) (k : Fo) (w : World) (hb : BSl w lo w.heap.size A bs) (hl : bs.length ≤ 100000) (hk : Sl w lo w.heap.size a k) :
    Calls Try.prog 95 #[.slice A bs.length C, .agg #[.int .i64 x, .int .i64 s, .int .i64 v, .slice a (flen k) c]] w (AddPostL lo bs (x, s, v, k) w) := by
  obtain ⟨ti, hti, htz, hts, htb⟩ := Try.infoBind
  have HTI : Hid (Try.prog.info? 131 = some ti ∧ ti.zero = some (.agg #[.int .i64 0, .int .i64 0, .int .i64 0, .slice none 0 0]) ∧ ti.size = 4 ∧ ti.bytes = 48) := ⟨hti, htz, hts, htb⟩
  have HB := Lib.hid hb
  have HK := Lib.hid hk
  clear hti htz hts htb hb hk
  have HBX0 : Hid (Below (w.heap.size + 1) (w.alloc (.cells #[.int .i64 x, .int .i64 s, .int .i64 v, .slice a (flen k) c] 131)) ((w.alloc (.cells #[.int .i64 x, .int .i64 s, .int .i64 v, .slice a (flen k) c] 131)).alloc (.cells #[] 131))) := (Below.refl _ _).alloc (by simp) _
  have HR0 : Hid (BRowL lo w (w.heap.size + 1) [] (some ⟨w.heap.size + 1, 0, none⟩) 0 ((w.alloc (.cells #[.int .i64 x, .int .i64 s, .int .i64 v, .slice a (flen k) c] 131)).alloc (.cells #[] 131))) := by
    have h := BRowL.start lo w (w.heap.size + 1) (by omega) (box_low w (.cells #[.int .i64 x, .int .i64 s, .int .i64 v, .slice a (flen k) c] 131)) (by simp)
    rw [Hid]
    simpa using h
  have hbox : ∀ wr : World, Below (w.heap.size + 1) (w.alloc (.cells #[.int .i64 x, .int .i64 s, .int .i64 v, .slice a (flen k) c] 131)) wr → wr.cell? ⟨w.heap.size, 0, none⟩ = some (.int .i64 x) ∧ wr.cell? ⟨w.heap.size, 1, none⟩ = some (.int .i64 s) ∧ wr.cell? ⟨w.heap.size, 2, none⟩ = some (.int .i64 v) ∧ wr.cell? ⟨w.heap.size, 3, none⟩ = some (.slice a (flen k) c) := fun wr h => by
    refine ⟨?_, ?_, ?_, ?_⟩
    · rw [h.cell (by simp), World.cell?_alloc_at _ _ _ _ (by simp)]; rfl
    · rw [h.cell (by simp), World.cell?_alloc_at _ _ _ _ (by simp)]; rfl
    · rw [h.cell (by simp), World.cell?_alloc_at _ _ _ _ (by simp)]; rfl
    · rw [h.cell (by simp), World.cell?_alloc_at _ _ _ _ (by simp)]; rfl
  have HBOX := Lib.hid hbox
  clear hbox
  go_enter Try.func95, Try.ntmps95
  go_wp2_with fail
  go_loopw [5, 6, 7] (fun o d i wr => ∃ (j : Nat) (out : List Bd) (A' : Option Addr) (C' : Nat) (dn : Bool), o = .slice A' out.length C' ∧ d = .bool dn ∧ i = .int .i64 j ∧ j ≤ bs.length ∧ out.length ≤ j + 1 ∧ Hid (ladd bs (x, s, v, k) = out ++ (if dn = true then bs.drop j else ladd (bs.drop j) (x, s, v, k))) ∧ Hid (BRowL lo w (w.heap.size + 1) out A' C' wr) ∧ Hid (Below (w.heap.size + 1) (w.alloc (.cells #[.int .i64 x, .int .i64 s, .int .i64 v, .slice a (flen k) c] 131)) wr)) (fun _ _ i _ => bs.length - (intOf i).toNat)
  case atStart => exact ⟨0, [], _, _, false, rfl, rfl, rfl, Nat.zero_le _, by simp, by simp [Hid], HR0, HBX0⟩
  case round =>
    clear HR0 HBX0
    obtain ⟨j, out, A', C', dn, rfl, rfl, rfl, hj, hol, HE, HR, HBX⟩ := hrel
    obtain ⟨b0, b1, b2, b3⟩ := HBOX.out _ HBX.out
    have hws := HR.out.size
    have hbs := HR.out.low
    by_cases hlt : j < bs.length
    · obtain ⟨y, hy⟩ : ∃ y, bs[j]? = some y := ⟨bs[j], List.getElem?_eq_getElem hlt⟩
      obtain ⟨yx, ys, yv, yk⟩ := y
      have hbr := HB.out
      rcases hbr with hbr | ⟨rb, ro, rfl, _, hbB, hcells⟩
      · subst hbr; simp at hy
      obtain ⟨ya, yc, d0, d1, d2, d3, hsl⟩ := hcells j _ hy
      dsimp only at d0 d1 d2 d3 hsl
      have HYS := Lib.hid hsl
      have HD := Lib.hid (drop_bd2 hy)
      have hc0 := cell_low hbs d0
      have hc1 := cell_low hbs d1
      have hc2 := cell_low hbs d2
      have hc3 := cell_low hbs d3
      have g1 : (0 : Int) ≤ (j : Int) := by omega
      have g2 : (j : Int) < (bs.length : Int) := by omega
      clear hcells hy d0 d1 d2 d3 hsl
      have hu0 : ∀ u : After wr.heap.size wr, u.world.cell? ⟨rb, ro + j * 4, none⟩ = some (.int .i64 yx) := fun u => cell_low u.below hc0
      have hu1 : ∀ u : After wr.heap.size wr, u.world.cell? ⟨w.heap.size, 0, none⟩ = some (.int .i64 x) := fun u => cell_low u.below b0
      cases dn with
      | true =>
        have HE2 : Hid (ladd bs (x, s, v, k) = (out ++ [(yx, ys, yv, yk)]) ++ (if true = true then bs.drop (j + 1) else ladd (bs.drop (j + 1)) (x, s, v, k))) := by rw [Hid, HE.out, if_pos rfl, if_pos rfl, HD.out]; simp
        clear HE HD
        go_wp2_with fail
        refine wp_region_after wr.heap.size (by kernel_rfl) (by kernel_rfl) ?_
        repeat (go_big_quiet_step (fail))
        refine wpQuiet_nil ?_
        rintro wq ⟨⟨_, hu⟩, rfl⟩
        have HRq := Lib.hid (HR.out.next hu)
        have HBXq := Lib.hid (HBX.out.trans (hu.mono hws))
        have hws2 := HRq.out.size
        have e0 := cell_low hu b0
        have e1 := cell_low hu b1
        have e2 := cell_low hu b2
        have e3 := cell_low hu b3
        have f0 := cell_low hu hc0
        have f1 := cell_low hu hc1
        have f2 := cell_low hu hc2
        have f3 := cell_low hu hc3
        clear hu0 hu1 hu HR HBX b0 b1 b2 b3 hc0 hc1 hc2 hc3
        obtain ⟨xs, hown, hv⟩ := HRq.out.own
        have HOWN := Lib.hid hown
        have HV := Lib.hid hv
        clear hown hv
        go_wp2_with (at_builtin; refine wpList_append_lies _ rfl _ _ 41 rfl (w.heap.size + 1) 131 ti _ 4 48 Try.underlying41 HTI.out.1 HTI.out.2.1 HTI.out.2.2.1 HTI.out.2.2.2 rfl (by omega) (.slice A' out.length C') out.length xs rfl (HOWN.out.alloc _) ⟨wq.heap.size, 0, none⟩ 1 1 [.int .i64 yx, .int .i64 ys, .int .i64 yv, .slice ya (flen yk) yc] rfl rfl (World.news_of_block (heap_alloc_new _ _)) (by simp [Value.oneCell']) (by omega) (by unfold maxLen; omega) (by omega) (by simp; omega) (wq.heap.size + 1) (by simp) ?_; intro g3 cap3 w3 hown3 hgrow3 hat3 hg3; have HX3 := Lib.hid (BRowL.app HRq.out HOWN.out HV.out HYS.out hown3 hgrow3); have HLB3 := Lib.hid (BRowL.below HRq.out HOWN.out hgrow3); clear hown3 hgrow3 hat3 hg3)
        have hl2' : (out ++ [(yx, ys, yv, yk)]).length = out.length + 1 := by simp
        have HBX3 := Lib.hid (HBXq.out.trans HLB3.out)
        go_roundw
        case rel => exact ⟨j + 1, out ++ [(yx, ys, yv, yk)], some ⟨g3, 0, none⟩, cap3, true, by rw [hl2'], rfl, by go_num, by omega, by omega, HE2, HX3, HBX3⟩
        case measure => simp [intOf]; omega
      | false =>
        by_cases hgt : x < yx
        · have HE2 : Hid (ladd bs (x, s, v, k) = (out ++ [(x, s, v, k)] ++ [(yx, ys, yv, yk)]) ++ (if true = true then bs.drop (j + 1) else ladd (bs.drop (j + 1)) (x, s, v, k))) := by
            rw [Hid, HE.out, if_neg (by simp), if_pos rfl, HD.out]; simp only [ladd]; rw [if_pos hgt]; simp
          have gg : decide (yx > x) = true := decide_eq_true hgt
          have HOJ : Hid (out.length = j) := by have h := congrArg List.length HE.out; rw [ladd_len, List.length_append, if_neg (by simp), ladd_len, List.length_drop] at h; show out.length = j; omega
          clear HE HD
          go_wp2_with fail
          refine wp_region_after wr.heap.size (by kernel_rfl) (by kernel_rfl) ?_
          repeat (go_big_quiet_step (fail))
          refine wpQuiet_nil ?_
          rintro wq ⟨⟨_, hu⟩, rfl⟩
          have HRq := Lib.hid (HR.out.next hu)
          have HBXq := Lib.hid (HBX.out.trans (hu.mono hws))
          have hws2 := HRq.out.size
          have e0 := cell_low hu b0
          have e1 := cell_low hu b1
          have e2 := cell_low hu b2
          have e3 := cell_low hu b3
          have f0 := cell_low hu hc0
          have f1 := cell_low hu hc1
          have f2 := cell_low hu hc2
          have f3 := cell_low hu hc3
          clear hu0 hu1 hu HR HBX b0 b1 b2 b3 hc0 hc1 hc2 hc3
          obtain ⟨xs, hown, hv⟩ := HRq.out.own
          have HOWN := Lib.hid hown
          have HV := Lib.hid hv
          clear hown hv
          go_wp2_with (first | (at_builtin; refine wpList_append_lies _ rfl _ _ 41 rfl (w.heap.size + 1) 131 ti _ 4 48 Try.underlying41 HTI.out.1 HTI.out.2.1 HTI.out.2.2.1 HTI.out.2.2.2 rfl (by omega) (.slice A' out.length C') out.length xs rfl (HOWN.out.alloc _) ⟨wq.heap.size, 0, none⟩ 1 1 [.int .i64 x, .int .i64 s, .int .i64 v, .slice a (flen k) c] rfl rfl (World.news_of_block (heap_alloc_new _ _)) (by simp [Value.oneCell']) (by omega) (by unfold maxLen; omega) (by omega) (by simp; omega) (wq.heap.size + 1) (by simp) ?_; intro g3 cap3 w3 hown3 hgrow3 hat3 hg3; have HX3 := Lib.hid (BRowL.app HRq.out HOWN.out HV.out HK.out hown3 hgrow3); have HLB3 := Lib.hid (BRowL.below HRq.out HOWN.out hgrow3); have k0 : w3.cell? ⟨rb, ro + j * 4, none⟩ = some (.int .i64 yx) := (by rw [HLB3.out.cell (by simp; omega)]; exact f0); have k1 : w3.cell? ⟨rb, ro + j * 4 + 1, none⟩ = some (.int .i64 ys) := (by rw [HLB3.out.cell (by simp; omega)]; exact f1); have k2 : w3.cell? ⟨rb, ro + j * 4 + 1 + 1, none⟩ = some (.int .i64 yv) := (by rw [HLB3.out.cell (by simp; omega)]; exact f2); have k3 : w3.cell? ⟨rb, ro + j * 4 + 1 + 2, none⟩ = some (.slice ya (flen yk) yc) := (by rw [HLB3.out.cell (by simp; omega)]; exact f3); have hl2' : (out ++ [(x, s, v, k)]).length = out.length + 1 := (by simp); have HBX3 := Lib.hid (HBXq.out.trans HLB3.out); have hws3 := HX3.out.size; obtain ⟨xs3, hown9, hv9⟩ := HX3.out.own; have HOWN3 := Lib.hid hown9; have HV3 := Lib.hid hv9; clear hown9 hv9 hown3 hgrow3 hat3 hg3 f0 f1 f2 f3 e0 e1 e2 e3) | (at_builtin; refine wpList_append_lies _ rfl _ _ 41 rfl (w.heap.size + 1) 131 ti _ 4 48 Try.underlying41 HTI.out.1 HTI.out.2.1 HTI.out.2.2.1 HTI.out.2.2.2 rfl (by omega) (.slice (some ⟨g3, 0, none⟩) (out.length + 1) cap3) (out.length + 1) xs3 rfl (by have h9 := HOWN3.out.alloc (.cells #[.int .i64 yx, .int .i64 ys, .int .i64 yv, .slice ya (flen yk) yc] 131); rw [hl2'] at h9; exact h9) ⟨w3.heap.size, 0, none⟩ 1 1 [.int .i64 yx, .int .i64 ys, .int .i64 yv, .slice ya (flen yk) yc] rfl rfl (World.news_of_block (heap_alloc_new _ _)) (by simp [Value.oneCell']) (by omega) (by unfold maxLen; omega) (by omega) (by simp; omega) (w3.heap.size + 1) (by simp) ?_; intro g5 cap5 w5 hown5 hgrow5 hat5 hg5; have HX5 := Lib.hid (BRowL.app HX3.out HOWN3.out HV3.out HYS.out (by rw [hl2']; exact hown5) (by rw [hl2']; exact hgrow5)); have HLB5 := Lib.hid (BRowL.below HX3.out HOWN3.out (by rw [hl2']; exact hgrow5)); clear hown5 hgrow5 hat5 hg5))
          have hl5' : (out ++ [(x, s, v, k)] ++ [(yx, ys, yv, yk)]).length = out.length + 1 + 1 := by simp
          have HBX5 := Lib.hid (HBX3.out.trans HLB5.out)
          go_roundw
          case rel => exact ⟨j + 1, out ++ [(x, s, v, k)] ++ [(yx, ys, yv, yk)], some ⟨g5, 0, none⟩, cap5, true, by rw [hl5'], rfl, by go_num, by omega, by rw [hl5']; have := HOJ.out; omega, HE2, HX5, HBX5⟩
          case measure => simp [intOf]; omega
        · have HE2 : Hid (ladd bs (x, s, v, k) = (out ++ [(yx, ys, yv, yk)]) ++ (if false = true then bs.drop (j + 1) else ladd (bs.drop (j + 1)) (x, s, v, k))) := by
            rw [Hid, HE.out, if_neg (by simp), if_neg (by simp), HD.out]; simp only [ladd]; rw [if_neg hgt]; simp
          have gg : decide (yx > x) = false := decide_eq_false hgt
          clear HE HD
          go_wp2_with fail
          refine wp_region_after wr.heap.size (by kernel_rfl) (by kernel_rfl) ?_
          repeat (go_big_quiet_step (fail))
          refine wpQuiet_nil ?_
          rintro wq ⟨⟨_, hu⟩, rfl⟩
          have HRq := Lib.hid (HR.out.next hu)
          have HBXq := Lib.hid (HBX.out.trans (hu.mono hws))
          have hws2 := HRq.out.size
          have e0 := cell_low hu b0
          have e1 := cell_low hu b1
          have e2 := cell_low hu b2
          have e3 := cell_low hu b3
          have f0 := cell_low hu hc0
          have f1 := cell_low hu hc1
          have f2 := cell_low hu hc2
          have f3 := cell_low hu hc3
          clear hu0 hu1 hu HR HBX b0 b1 b2 b3 hc0 hc1 hc2 hc3
          obtain ⟨xs, hown, hv⟩ := HRq.out.own
          have HOWN := Lib.hid hown
          have HV := Lib.hid hv
          clear hown hv
          go_wp2_with (at_builtin; refine wpList_append_lies _ rfl _ _ 41 rfl (w.heap.size + 1) 131 ti _ 4 48 Try.underlying41 HTI.out.1 HTI.out.2.1 HTI.out.2.2.1 HTI.out.2.2.2 rfl (by omega) (.slice A' out.length C') out.length xs rfl (HOWN.out.alloc _) ⟨wq.heap.size, 0, none⟩ 1 1 [.int .i64 yx, .int .i64 ys, .int .i64 yv, .slice ya (flen yk) yc] rfl rfl (World.news_of_block (heap_alloc_new _ _)) (by simp [Value.oneCell']) (by omega) (by unfold maxLen; omega) (by omega) (by simp; omega) (wq.heap.size + 1) (by simp) ?_; intro g3 cap3 w3 hown3 hgrow3 hat3 hg3; have HX3 := Lib.hid (BRowL.app HRq.out HOWN.out HV.out HYS.out hown3 hgrow3); have HLB3 := Lib.hid (BRowL.below HRq.out HOWN.out hgrow3); clear hown3 hgrow3 hat3 hg3)
          have hl2' : (out ++ [(yx, ys, yv, yk)]).length = out.length + 1 := by simp
          have HBX3 := Lib.hid (HBXq.out.trans HLB3.out)
          go_roundw
          case rel => exact ⟨j + 1, out ++ [(yx, ys, yv, yk)], some ⟨g3, 0, none⟩, cap3, false, by rw [hl2'], rfl, by go_num, by omega, by omega, HE2, HX3, HBX3⟩
          case measure => simp [intOf]; omega
    · obtain ⟨xs, hown, hv⟩ := HR.out.own
      have HOWN := Lib.hid hown
      have HV := Lib.hid hv
      clear hown hv
      cases dn with
      | true =>
        have HF : Hid (out = ladd bs (x, s, v, k)) := by rw [Hid, HE.out, if_pos rfl, List.drop_eq_nil_of_le (by omega)]; simp
        go_wp2_with fail
        go_ret
        refine ⟨A', C', ?_, ?_⟩
        · rw [← HF.out]; rfl
        · rw [← HF.out]; exact HR.out
      | false =>
        have HF : Hid (out ++ [(x, s, v, k)] = ladd bs (x, s, v, k)) := by rw [Hid, HE.out, if_neg (by simp), ladd_end (by omega)]
        go_wp2_with (at_builtin; refine wpList_append_lies _ rfl _ _ 41 rfl (w.heap.size + 1) 131 ti _ 4 48 Try.underlying41 HTI.out.1 HTI.out.2.1 HTI.out.2.2.1 HTI.out.2.2.2 rfl (by omega) (.slice A' out.length C') out.length xs rfl (HOWN.out.alloc _) ⟨wr.heap.size, 0, none⟩ 1 1 [.int .i64 x, .int .i64 s, .int .i64 v, .slice a (flen k) c] rfl rfl (World.news_of_block (heap_alloc_new _ _)) (by simp [Value.oneCell']) (by omega) (by unfold maxLen; omega) (by omega) (by simp; omega) (wr.heap.size + 1) (by simp) ?_; intro g cap w3 hown3 hgrow3 hat3 hg3; have HX3 := Lib.hid (BRowL.app HR.out HOWN.out HV.out HK.out hown3 hgrow3); have HLB3 := Lib.hid (BRowL.below HR.out HOWN.out hgrow3); clear hown3 hgrow3 hat3 hg3)
        go_wp2_with fail
        go_ret
        have hl2' : (out ++ [(x, s, v, k)]).length = out.length + 1 := by simp
        refine ⟨some ⟨g, 0, none⟩, cap, ?_, ?_⟩
        · rw [← HF.out, hl2']; rfl
        · rw [← HF.out]; exact HX3.out
end Go.Proofs.Ytdkcbbhkoibplaa
