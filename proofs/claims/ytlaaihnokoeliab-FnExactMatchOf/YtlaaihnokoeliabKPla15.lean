/- Several texts in one: MB, SP1, SP2, LB. -/
import Derived.Test.YtlaaihnokoeliabKPla14
import Derived.Test.YtlaaihnokoeliabKPla7
import Derived.Test.YtlaaihnokoeliabKPla10
import Derived.Test.YtlaaihnokoeliabKPla5
import Derived.Test.YtlaaihnokoeliabKPla4
import Derived.Test.YtlaaihnokoeliabKPla1
import Derived.Test.YtlaaihnokoeliabKPla6

/-! MB: binds: a map's binds in a row, in order. -/
namespace Go.Proofs.Ytlaaihnokoeliab
open Go.RowKit Go.Deep Go.Maps

/-- One more bind. w: where the row stood; w2: where the new term lies too; blk: the block that shows it to append. -/
theorem BOwn.appendB {w0 w w2 w3 : World} {base : Nat} {bs : List Bd} {A : Option Addr} {C g cap : Nat} {blk : Obj} {x s v : Int} {k : Fo} {a2 : Option Addr} {c2 : Nat} {xs : List Value} (hown : w.ownsRow base 68 4 (.slice A bs.length C) bs.length xs)
    (hall : ∀ (i : Nat) (x : Bd), bs[i]? = some x → ∃ a' c' L H, xs[i * 4]? = some (.int .i64 x.1) ∧ xs[i * 4 + 1]? = some (.int .i64 x.2.1) ∧ xs[i * 4 + 2]? = some (.int .i64 x.2.2.1) ∧ xs[i * 4 + 3]? = some (.slice a' (flen x.2.2.2) c') ∧
      Sl w L H a' x.2.2.2 ∧ base ≤ L ∧ H ≤ w.heap.size ∧ ∀ g, (Value.slice A bs.length C).ownBlock = some g → g < L ∨ H ≤ g)
    (hown3 : w3.ownsRow base 68 4 (.slice (some ⟨g, 0, none⟩) (bs.length + 1) cap) (bs.length + 1) (xs ++ [.int .i64 x, .int .i64 s, .int .i64 v, .slice a2 (flen k) c2])) (ha : Below w.heap.size w w2) (hl2 : Sl w2 w.heap.size w2.heap.size a2 k) (hbase : base ≤ w.heap.size)
    (hgrow : (w2.alloc blk).grownBy w3 (Value.slice A bs.length C).ownBlock) (hatg : (Value.slice A bs.length C).ownBlock = some g ∨ g = w2.heap.size + 1) (ha0 : Below w0.heap.size w0 w2) (hw0 : w0.heap.size ≤ base) : BOwn w3 base (bs ++ [(x, s, v, k)]) (some ⟨g, 0, none⟩) cap ∧ Below w0.heap.size w0 w3 := by
  have hs2 := ha.size
  have hs3 := hgrow.size
  simp at hs3
  have hxl : xs.length = bs.length * 4 := hown.1
  have hl : (bs ++ [(x, s, v, k)]).length = bs.length + 1 := by simp
  refine ⟨⟨xs ++ [.int .i64 x, .int .i64 s, .int .i64 v, .slice a2 (flen k) c2], by rw [hl]; exact hown3, fun i y hy => ?_⟩, (ha0.alloc (by omega) blk).grown hgrow (by have := ha0.size; simp; omega) (fun q hq => by have := (hown.lt q hq).1; omega)⟩
  rw [hl]
  by_cases hi : i < bs.length
  · rw [List.getElem?_append_left hi] at hy
    obtain ⟨a', c', L, H, c0, c1, c2', c3, hsl, h1, h2, h3⟩ := hall i y hy
    refine ⟨a', c', L, H, by rw [List.getElem?_append_left (by omega)]; exact c0, by rw [List.getElem?_append_left (by omega)]; exact c1, by rw [List.getElem?_append_left (by omega)]; exact c2', by rw [List.getElem?_append_left (by omega)]; exact c3, hsl.same (fun b hb1 hb2 => ?_), h1, by omega, fun g' hg' => ?_⟩
    · rw [hgrow.block b (by simp; omega) (fun e => by have := h3 b e.symm; omega), Below.heap_alloc _ _ _ (by omega)]
      exact ha.block b (by omega)
    · have : g' = g := by simpa [Value.ownBlock] using hg'.symm
      subst this
      rcases hatg with hg1 | hg1
      · exact h3 _ hg1
      · omega
  · have hi' : i = bs.length := by have := (List.getElem?_eq_some_iff.1 hy).1; omega
    subst hi'
    simp at hy
    subst hy
    refine ⟨a2, c2, w.heap.size, w2.heap.size, ?_, ?_, ?_, ?_, hl2.same (fun b hb1 hb2 => ?_), hbase, by omega, fun g' hg' => ?_⟩
    · rw [List.getElem?_append_right (by omega), hxl]; simp
    · rw [List.getElem?_append_right (by omega), hxl, show bs.length * 4 + 1 - bs.length * 4 = 1 from by omega]; rfl
    · rw [List.getElem?_append_right (by omega), hxl, show bs.length * 4 + 2 - bs.length * 4 = 2 from by omega]; rfl
    · rw [List.getElem?_append_right (by omega), hxl, show bs.length * 4 + 3 - bs.length * 4 = 3 from by omega]; rfl
    · rw [hgrow.block b (by simp; omega) (fun e => by have := (hown.lt b e.symm).2; omega), Below.heap_alloc _ _ _ (by omega)]
    · have : g' = g := by simpa [Value.ownBlock] using hg'.symm
      subst this
      rcases hatg with hg1 | hg1
      · exact .inl (hown.lt _ hg1).2
      · exact .inr (by omega)


theorem BOwn.nil (w : World) (base : Nat) : BOwn w base [] none 0 := ⟨[], World.ownsRow_nil _ _ _ _, fun i x hx => by simp at hx⟩
theorem BOwn.low {w w2 : World} {base : Nat} {bs : List Bd} {A : Option Addr} {C : Nat} (h : BOwn w base bs A C) (hb : Below w.heap.size w w2) : BOwn w2 base bs A C := by
  obtain ⟨xs, hown, hall⟩ := h
  refine ⟨xs, own_low hb hown, fun i x hx => ?_⟩
  obtain ⟨a', c', L, H, c0, c1, c2, c3, hl, h1, h2, h3⟩ := hall i x hx
  exact ⟨a', c', L, H, c0, c1, c2, c3, hl.same (fun b _ hb2 => hb.block b (by omega)), h1, Nat.le_trans h2 hb.size, h3⟩

/-- Each term is so large at most. -/
def fits (lim : Int) (bs : List Bd) : Bool := bs.all fun x => decide (1 + (fsz x.2.2.2 : Int) ≤ lim)
def BiPost (bs : List Bd) (lim : Int) (w : World) (e : Ending) (w' : World) : Prop :=
  Below w.heap.size w w' ∧ ((fits lim bs = true ∧ ∃ A C, e = .returned (.tuple #[.slice A (List.length bs) C, .bool true]) ∧ BOwn w' w.heap.size bs A C) ∨ (fits lim bs = false ∧ e = .returned (.tuple #[.slice none 0 0, .bool false])))
/-- The binds of variables below j. -/
def lows (bs : List Bd) (j : Int) : List Bd := bs.filter fun x => decide (x.1 < j)
theorem lows_none {bs : List Bd} {j : Int} (ha : Asc bs) (h : sv bs j = none) : lows bs (j + 1) = lows bs j := by
  refine List.filter_congr fun x hx => ?_
  have hs := sv_mem ha hx
  have hne : x.1 ≠ j := fun e => by rw [e, h] at hs; cases hs
  by_cases h1 : x.1 < j
  · rw [decide_eq_true h1, decide_eq_true (by omega)]
  · rw [decide_eq_false h1, decide_eq_false (by omega)]
theorem lows_some : ∀ {bs : List Bd} {j : Int} {t : Int × Int × Fo}, Asc bs → sv bs j = some t → lows bs (j + 1) = lows bs j ++ [(j, t)]
  | [], _, _, _, h => by simp [sv] at h
  | y :: r, j, t, ha, h => by
    obtain ⟨h1, h2⟩ := List.pairwise_cons.1 ha
    simp only [sv] at h
    unfold lows
    by_cases e : y.1 = j
    · rw [if_pos e] at h
      obtain rfl := Option.some.inj h
      have hr : ∀ m : Int, m ≤ j + 1 → r.filter (fun x => decide (x.1 < m)) = [] := fun m hm => List.filter_eq_nil_iff.2 fun x hx => by have := h1 x hx; simp; omega
      rw [List.filter_cons_of_pos (by simp; omega), List.filter_cons_of_neg (by simp; omega), hr _ (Int.le_refl _), hr j (by omega), ← e]; rfl
    · rw [if_neg e] at h
      have hlt : y.1 < j := h1 _ (mem_sv h)
      have ih := lows_some h2 h
      unfold lows at ih
      rw [List.filter_cons_of_pos (by simp; omega), List.filter_cons_of_pos (by simp; omega), ih]; rfl
theorem lows_all {bs : List Bd} {j : Int} (h : ∀ x ∈ bs, x.1 < j) : lows bs j = bs := List.filter_eq_self.2 fun x hx => by simpa using h x hx
theorem lows_zero {bs : List Bd} (h : ∀ x ∈ bs, 0 ≤ x.1) : lows bs 0 = [] := List.filter_eq_nil_iff.2 fun x hx => by simpa using h x hx
theorem fits_snoc {lim : Int} {bs : List Bd} {x : Bd} (h : fits lim bs = true) (hx : 1 + (fsz x.2.2.2 : Int) ≤ lim) : fits lim (bs ++ [x]) = true := by
  unfold fits at *
  rw [List.all_append, h]; simpa using hx
theorem fits_no {lim : Int} {bs : List Bd} {x : Int} {t : Int × Int × Fo} (h : sv bs x = some t) (hx : ¬ 1 + (fsz t.2.2 : Int) ≤ lim) : fits lim bs = false := by
  unfold fits
  rw [List.all_eq_false]
  exact ⟨(x, t), mem_sv h, by simpa using hx⟩

theorem low_mem {bs : List Bd} (ha : Asc bs) (hr : ∀ x, (sv bs x).isSome = true → 0 ≤ x ∧ x ≤ 11) {x : Bd} (hx : x ∈ bs) : 0 ≤ x.1 ∧ x.1 ≤ 11 := hr _ (by rw [sv_mem ha hx]; rfl)

set_option maxRecDepth 100000 in
set_option maxHeartbeats 4000000 in
theorem binds_any (bs : List Bd) (b : Nat) (lim : Int) (w : World) (hm : MapIs w b bs) (ha : Asc bs) (hr : ∀ x, (sv bs x).isSome = true → 0 ≤ x ∧ x ≤ 11) (hbo : Bof bs 100000) :
    Calls Try.prog 37 #[.map (some b), .int .i64 lim] w (BiPost bs lim w) := by
  obtain ⟨ti, hti, htz, hts, htb⟩ := Try.infoBind
  have HTI : Hid (Try.prog.info? 68 = some ti ∧ ti.zero = some (.agg #[.int .i64 0, .int .i64 0, .int .i64 0, .slice none 0 0]) ∧ ti.size = 4 ∧ ti.bytes = 48) := ⟨hti, htz, hts, htb⟩
  have HM := Lib.hid hm
  have HA := Lib.hid ha
  have HR := Lib.hid hr
  have HBO := Lib.hid hbo
  have hz := zeroE
  have HL0 : Hid (lows bs ((0 : Nat) : Int) = []) := lows_zero fun x hx => (low_mem ha hr hx).1
  have HLA : Hid (lows bs ((12 : Nat) : Int) = bs) := lows_all fun x hx => by have := low_mem ha hr hx; omega
  clear hti htz hts htb hm ha hr hbo
  go_enter Try.func37, Try.ntmps37
  go_wp2_with fail
  go_loopw [6, 10] (fun o i wr => ∃ (j : Nat) (out : List Bd) (A' : Option Addr) (C' : Nat), o = .slice A' out.length C' ∧ i = .int .i64 (j : Int) ∧ j ≤ 12 ∧ out.length ≤ j ∧ Hid (lows bs (j : Int) = out) ∧ Hid (fits lim out = true) ∧ Hid (BOwn wr w.heap.size out A' C') ∧ Hid (Below w.heap.size w wr)) (fun _ i _ => 12 - (intOf i).toNat)
  case atStart => exact ⟨0, [], none, 0, rfl, rfl, by omega, by simp, HL0, rfl, BOwn.nil _ _, Below.refl _ _⟩
  case round =>
    clear HL0
    obtain ⟨j, out, A', C', rfl, rfl, hj, hol, HLO, HFT, HO, HBW⟩ := hrel
    have hws := HBW.out.size
    by_cases hlt : j < 12
    · obtain ⟨n, D, hown, hn, hsv⟩ := HM.out.below HBW.out
      have HWF : Hid ((Lit.int .i64 (j : Int)).wf = true) := WalkArith.wf_i64 (by omega)
      have HOWNM := Lib.hid hown
      have HKEY := Lib.hid (key_of HWF.out)
      have hx := hsv (j : Int) HWF.out
      have g2 : (j : Int) < 12 := by omega
      clear hown hsv
      cases hs : sv bs (j : Int) with
      | none =>
        have hh := hx.1 hs
        have HLS : Hid (lows bs ((j + 1 : Nat) : Int) = out) := by rw [Hid, show ((j + 1 : Nat) : Int) = (j : Int) + 1 from by omega, lows_none HA.out hs]; exact HLO.out
        clear hx hs
        go_wp2_with (at_lookup; refine wpList_lookup_own_ok (H := Value) _ rfl _ _ 62 rfl 95 58 law underM rdV (zeroE _) (.held .nilIface) [] rfl b n D rfl HOWNM.out (.int .i64 (j : Int)) (.int .i64 (j : Int)) rfl HKEY.out ?_; intro nv ps hnv; rw [hh]; clear hnv)
        go_roundw
        case rel => exact ⟨j + 1, out, A', C', rfl, by go_num, by omega, by omega, HLS, HFT, HO, HBW⟩
        case measure => simp [intOf]; omega
      | some u =>
        obtain ⟨s', v', k'⟩ := u
        obtain ⟨hh, nv0, hat, hnode⟩ := hx.2 s' v' k' hs
        have hbo1 := HBO.out _ _ hs
        dsimp only at hbo1
        have HO1 := Lib.hid hbo1.1
        have HO2 := Lib.hid hbo1.2.1
        have hk9 := hbo1.2.2
        have HNODE := Lib.hid hnode
        have HAT := Lib.hid hat
        have HLS : Hid (lows bs ((j + 1 : Nat) : Int) = out ++ [((j : Int), s', v', k')]) := by rw [Hid, show ((j + 1 : Nat) : Int) = (j : Int) + 1 from by omega, lows_some HA.out hs, HLO.out]
        have HNO : Hid (¬ 1 + (fsz k' : Int) ≤ lim → fits lim bs = false) := fun h => fits_no hs h
        obtain ⟨xs, hownB, hallB⟩ := HO.out
        have HOWN := Lib.hid hownB
        have HALL := Lib.hid hallB
        clear hx hs hnode hat hbo1 hownB hallB
        have hnd := HNODE.out
        rcases hnd with ⟨rfl, rfl, rfl⟩ | ⟨hs', a5, c5, rfl, hn2⟩
        · go_wp2_with (at_lookup; refine wpList_lookup_own_ok (H := Value) _ rfl _ _ 62 rfl 95 58 law underM rdV (zeroE _) (.held .nilIface) [] rfl b n D rfl HOWNM.out (.int .i64 (j : Int)) (.int .i64 (j : Int)) rfl HKEY.out ?_; intro nv ps hnv; rw [hh]; obtain rfl : nv = (.iface 95 (.int .i64 v')) := (by have := HAT.out; simp only [rdV, Option.some.injEq, Prod.mk.injEq] at hnv; rw [this] at hnv; exact DataW.held.inj hnv.1); clear hnv)
          refine upon_method 112 (by kernel_rfl) (by kernel_rfl) ?_
          go_simp
          with_reducible refine (varSize_any v' _).mono ?_
          rintro e w5 ⟨rfl, rfl⟩
          by_cases hbig : 1 + (fsz .nil : Int) ≤ lim
          case neg =>
            have e1 : decide ((1 : Int) > lim) = true := decide_eq_true (by simp [fsz] at hbig; omega)
            have HF := Lib.hid (HNO.out (by omega))
            clear hbig
            go_wp2_with fail
            refine bodyPost_ret (v := .tuple #[.slice none 0 0, .bool false]) ?_ rfl ⟨HBW.out, .inr ⟨HF.out, rfl⟩⟩
            simp [results, Try.results37, go_sem]
          have e1 : decide ((1 : Int) > lim) = false := decide_eq_false (by simp [fsz] at hbig; omega)
          have HFT2 : Hid (fits lim (out ++ [((j : Int), 0, v', (BT.nil : Fo))]) = true) := fits_snoc HFT.out hbig
          clear hbig
          go_wp2_with fail
          refine upon_method 113 (by kernel_rfl) (by kernel_rfl) ?_
          go_simp
          with_reducible refine (varTerm_any v' _).mono ?_
          rintro e w6 ⟨a6, c6, rfl, hb6, hl6⟩
          have hs6 := hb6.size
          have HB6 := Lib.hid hb6
          have HL6 := Lib.hid hl6
          have HBW6 := Lib.hid (HBW.out.trans (hb6.mono hws))
          have HOWN6 := Lib.hid (own_low hb6 HOWN.out)
          clear hb6 hl6
          go_wp2_with (at_builtin; refine wpList_append_lies _ rfl _ _ 27 rfl w.heap.size 68 ti _ 4 48 Try.underlying27 HTI.out.1 HTI.out.2.1 HTI.out.2.2.1 HTI.out.2.2.2 rfl (by omega) (.slice A' out.length C') out.length xs rfl (HOWN6.out.alloc _) ⟨w6.heap.size, 0, none⟩ 1 1 [.int .i64 (j : Int), .int .i64 0, .int .i64 v', .slice a6 (flen .nil) c6] rfl rfl (World.news_of_block (heap_alloc_new _ _)) (by simp [Value.oneCell']) (by omega) (by unfold maxLen; omega) (by omega) (by simp; omega) (w6.heap.size + 1) (by simp) ?_; intro g3 cap3 w3 hown3 hgrow3 hat3 hg3; have HX3 := Lib.hid (BOwn.appendB (w0 := w) HOWN.out HALL.out hown3 HB6.out HL6.out (by omega) hgrow3 hat3 HBW6.out (Nat.le_refl _)); clear hown3 hgrow3 hat3 hg3)
          have hl2' : (out ++ [((j : Int), 0, v', (BT.nil : Fo))]).length = out.length + 1 := by simp
          go_roundw
          case rel => exact ⟨j + 1, out ++ [((j : Int), 0, v', (BT.nil : Fo))], some ⟨g3, 0, none⟩, cap3, by rw [hl2'], by go_num, by omega, by rw [hl2']; omega, HLS, HFT2, HX3.out.1, HX3.out.2⟩
          case measure => simp [intOf]; omega
        · have HNS := Lib.hid hn2
          have hv0 : v' = 0 := ((okN_iff _ _ _).1 HO1.out).2.2 hs'
          subst hv0
          clear hn2
          go_wp2_with (at_lookup; refine wpList_lookup_own_ok (H := Value) _ rfl _ _ 62 rfl 95 58 law underM rdV (zeroE _) (.held .nilIface) [] rfl b n D rfl HOWNM.out (.int .i64 (j : Int)) (.int .i64 (j : Int)) rfl HKEY.out ?_; intro nv ps hnv; rw [hh]; obtain rfl : nv = (.iface 104 (.agg #[.int .i64 s', .slice a5 (flen k') c5])) := (by have := HAT.out; simp only [rdV, Option.some.injEq, Prod.mk.injEq] at hnv; rw [this] at hnv; exact DataW.held.inj hnv.1); clear hnv)
          refine upon_method 128 (by kernel_rfl) (by kernel_rfl) ?_
          go_simp
          with_reducible refine (symSize_any (fsz k') s' a5 c5 k' _ HNS.out (Nat.le_refl _) (by omega)).mono ?_
          rintro e w5 ⟨rfl, hb5⟩
          have hs5 := hb5.size
          have HNS5 := Lib.hid ((HNS.out.below hb5).mono (lo' := 0) (Nat.le_refl _) hs5)
          have HB5 := Lib.hid hb5
          clear hb5
          by_cases hbig : 1 + (fsz k' : Int) ≤ lim
          case neg =>
            have e1 : decide (1 + (fsz k' : Int) > lim) = true := decide_eq_true (by omega)
            have HF := Lib.hid (HNO.out (by omega))
            clear hbig
            go_wp2_with fail
            refine bodyPost_ret (v := .tuple #[.slice none 0 0, .bool false]) ?_ rfl ⟨HBW.out.trans (HB5.out.mono hws), .inr ⟨HF.out, rfl⟩⟩
            simp [results, Try.results37, go_sem]
          have e1 : decide (1 + (fsz k' : Int) > lim) = false := decide_eq_false (by omega)
          have HFT2 : Hid (fits lim (out ++ [((j : Int), s', 0, k')]) = true) := fits_snoc HFT.out hbig
          clear hbig
          go_wp2_with fail
          refine upon_method 129 (by kernel_rfl) (by kernel_rfl) ?_
          go_simp
          with_reducible refine (symTerm_any (fsz k') s' a5 c5 k' _ HNS5.out HO2.out (Nat.le_refl _) (by omega)).mono ?_
          rintro e w6 ⟨a6, c6, rfl, hb6, hl6⟩
          have hs6 := hb6.size
          have HB6 := Lib.hid (HB5.out.trans (hb6.mono hs5))
          have HL6 : Hid (Sl w6 wr.heap.size w6.heap.size a6 k') := hl6.mono hs5 (Nat.le_refl _)
          have HBW6 := Lib.hid (HBW.out.trans (HB6.out.mono hws))
          have HOWN6 := Lib.hid (own_low HB6.out HOWN.out)
          clear hb6 hl6
          go_wp2_with (at_builtin; refine wpList_append_lies _ rfl _ _ 27 rfl w.heap.size 68 ti _ 4 48 Try.underlying27 HTI.out.1 HTI.out.2.1 HTI.out.2.2.1 HTI.out.2.2.2 rfl (by omega) (.slice A' out.length C') out.length xs rfl (HOWN6.out.alloc _) ⟨w6.heap.size, 0, none⟩ 1 1 [.int .i64 (j : Int), .int .i64 s', .int .i64 0, .slice a6 (flen k') c6] rfl rfl (World.news_of_block (heap_alloc_new _ _)) (by simp [Value.oneCell']) (by omega) (by unfold maxLen; omega) (by omega) (by simp; omega) (w6.heap.size + 1) (by simp) ?_; intro g3 cap3 w3 hown3 hgrow3 hat3 hg3; have HX3 := Lib.hid (BOwn.appendB (w0 := w) HOWN.out HALL.out hown3 HB6.out HL6.out (by omega) hgrow3 hat3 HBW6.out (Nat.le_refl _)); clear hown3 hgrow3 hat3 hg3)
          have hl2' : (out ++ [((j : Int), s', 0, k')]).length = out.length + 1 := by simp
          go_roundw
          case rel => exact ⟨j + 1, out ++ [((j : Int), s', 0, k')], some ⟨g3, 0, none⟩, cap3, by rw [hl2'], by go_num, by omega, by rw [hl2']; omega, HLS, HFT2, HX3.out.1, HX3.out.2⟩
          case measure => simp [intOf]; omega
    · have hje : j = 12 := by omega
      subst hje
      have HE : Hid (out = bs) := by rw [Hid, ← HLO.out]; exact HLA.out
      obtain rfl : out = bs := HE.out
      go_wp2_with fail
      refine bodyPost_ret (v := .tuple #[.slice A' out.length C', .bool true]) ?_ rfl ⟨HBW.out, .inl ⟨HFT.out, A', C', rfl, HO.out⟩⟩
      simp [results, Try.results37, go_sem]
end Go.Proofs.Ytlaaihnokoeliab

/-! SP1: What a variable stands for: the specification's l2Of. -/
namespace Go.Proofs.Ytlaaihnokoeliab
open Go.RowKit Go.Deep

def OfPost (bs : List Bd) (x : Int) (w : World) (e : Ending) (w' : World) : Prop :=
  ∃ a c, e = .returned (.agg #[.int .i64 (tsub (sv bs) 0 x .nil).1, .int .i64 (tsub (sv bs) 0 x .nil).2.1, .slice a (flen (tsub (sv bs) 0 x .nil).2.2) c]) ∧ Below w.heap.size w w' ∧ Sl w' 0 w'.heap.size a (tsub (sv bs) 0 x .nil).2.2

theorem of_end {w : World} {bs : List Bd} {x s v : Int} {k : Fo} {a : Option Addr} {c : Nat} {Z : Obj} (hr : tsub (sv bs) 0 x .nil = (s, v, k)) (hl : Sl w 0 w.heap.size a k) :
    OfPost bs x w (.returned (.agg #[.int .i64 s, .int .i64 v, .slice a (flen k) c])) (w.alloc Z) := by
  have hb : Below w.heap.size w (w.alloc Z) := (Below.refl _ _).alloc (Nat.le_refl _) Z
  refine ⟨a, c, by rw [hr], hb, ?_⟩
  rw [hr]
  exact (hl.below hb).mono (Nat.le_refl _) hb.size

set_option maxRecDepth 100000 in
set_option maxHeartbeats 1000000 in
theorem l2Of_any (bs : List Bd) (A : Option Addr) (C : Nat) (x : Int) (w : World) (hb : BSl w 0 w.heap.size A bs) (hl : bs.length ≤ 9223372036854775807) :
    Calls Try.prog 61 #[.slice A bs.length C, .int .i64 x] w (OfPost bs x w) := by
  have HB := Lib.hid hb
  clear hb
  go_enter Try.func61, Try.ntmps61
  go_wp2_with fail
  go_loopw [5] (fun i wr => ∃ j : Nat, i = .int .i64 j ∧ j ≤ bs.length ∧ wr = w.alloc (.cells #[.int .i64 0, .int .i64 0, .slice none 0 0] 25) ∧ Hid (sv bs x = sv (bs.drop j) x)) (fun i _ => bs.length - (intOf i).toNat)
  case atStart => exact ⟨0, rfl, Nat.zero_le _, rfl, by simp [Hid]⟩
  case round =>
    obtain ⟨j, rfl, hj, rfl, HS⟩ := hrel
    by_cases hlt : j < bs.length
    · obtain ⟨y, hy⟩ : ∃ y, bs[j]? = some y := ⟨bs[j], List.getElem?_eq_getElem hlt⟩
      obtain ⟨xv, s, v, k⟩ := y
      have hbr := HB.out
      rcases hbr with hbr | ⟨b, o, rfl, _, hbB, hcells⟩
      · subst hbr; simp at hy
      obtain ⟨a', c', c0, c1, c2, c3, hsl⟩ := hcells j _ hy
      dsimp only at c0 c1 c2 c3 hsl
      have d0 := (World.cell?_alloc_lt w (.cells #[.int .i64 0, .int .i64 0, .slice none 0 0] 25) ⟨b, o + j * 4, none⟩ hbB).trans c0
      have d1 := (World.cell?_alloc_lt w (.cells #[.int .i64 0, .int .i64 0, .slice none 0 0] 25) ⟨b, o + j * 4 + 1, none⟩ hbB).trans c1
      have d2 := (World.cell?_alloc_lt w (.cells #[.int .i64 0, .int .i64 0, .slice none 0 0] 25) ⟨b, o + j * 4 + 1 + 1, none⟩ hbB).trans c2
      have d3 := (World.cell?_alloc_lt w (.cells #[.int .i64 0, .int .i64 0, .slice none 0 0] 25) ⟨b, o + j * 4 + 1 + 2, none⟩ hbB).trans c3
      have HD := Lib.hid (drop_bd hy)
      have HSL := Lib.hid hsl
      have g1 : (0 : Int) ≤ (j : Int) := by omega
      have g2 : (j : Int) < (bs.length : Int) := by omega
      clear hcells hy c0 c1 c2 c3 hsl
      by_cases hx : xv = x
      · have hxe : (xv == x) = true := by simpa using hx
        have HT : Hid (tsub (sv bs) 0 x .nil = (s, v, k)) := by
          rw [Hid, tsub, if_pos rfl, HS.out, HD.out]; simp only [sv]; rw [if_pos hx]; rfl
        clear hx HS HD
        go_wp2_with fail
        refine bodyPost_ret (v := .agg #[.int .i64 s, .int .i64 v, .slice a' (flen k) c']) ?_ rfl (of_end HT.out HSL.out)
        simp [results, Try.results61, go_sem]
      · have hxe : (xv == x) = false := by simpa using hx
        have HN : Hid (sv bs x = sv (bs.drop (j + 1)) x) := by rw [Hid, HS.out, HD.out]; simp only [sv]; rw [if_neg hx]
        clear hx HS HD
        go_wp2_with fail
        go_roundw
        case rel => exact ⟨j + 1, by go_num, by omega, trivial, HN⟩
        case measure => simp [intOf]; omega
    · have HT : Hid (tsub (sv bs) 0 x .nil = (0, x, .nil)) := by
        rw [Hid, tsub, if_pos rfl, HS.out, List.drop_eq_nil_of_le (by omega)]; rfl
      clear HS
      go_wp2_with fail
      refine bodyPost_ret (v := .agg #[.int .i64 0, .int .i64 x, .slice none 0 0]) ?_ rfl (of_end (k := .nil) HT.out (.inl rfl))
      simp [results, Try.results61, go_sem]
end Go.Proofs.Ytlaaihnokoeliab

/-! SP2: - The specification's SubstOk. -/
namespace Go.Proofs.Ytlaaihnokoeliab
open Go.RowKit Go.Deep

theorem sok_len {room : Int} : ∀ (bs : List Bd) (last : Int), last < 12 → sokFrom room last bs = true → last + bs.length < 12
  | [], _, h, _ => by simpa using h
  | x :: r, last, _, hs => by
    simp only [sokFrom, Bool.and_eq_true, decide_eq_true_eq] at hs
    have := sok_len r x.1 hs.2.2.1 hs.2.2.2
    simp only [List.length_cons]
    omega
theorem drop_bd2 {bs : List Bd} {j : Nat} {x : Bd} (h : bs[j]? = some x) : bs.drop j = x :: bs.drop (j + 1) := by
  obtain ⟨hj, rfl⟩ := List.getElem?_eq_some_iff.1 h
  exact List.drop_eq_getElem_cons hj

end Go.Proofs.Ytlaaihnokoeliab

/-! LB: What the walks of laws hold on to: boxes of terms, and what stays when memory is added. Plain lemmas. -/
namespace Go.Proofs.Ytlaaihnokoeliab
open Go.RowKit Go.Deep

/-- Block b is a box that holds the term s v k; what it leads to lies in memory. -/
structure Tb (b : Nat) (s v : Int) (a : Option Addr) (c : Nat) (k : Fo) (w : World) : Prop where
  c0 : w.cell? ⟨b, 0, none⟩ = some (.int .i64 s)
  c1 : w.cell? ⟨b, 1, none⟩ = some (.int .i64 v)
  c2 : w.cell? ⟨b, 2, none⟩ = some (.slice a (flen k) c)
  sl : Sl w 0 w.heap.size a k
theorem Tb.next {b : Nat} {s v : Int} {a : Option Addr} {c : Nat} {k : Fo} {w w2 : World} (h : Tb b s v a c k w) (hb : Below w.heap.size w w2) : Tb b s v a c k w2 :=
  ⟨cell_low hb h.c0, cell_low hb h.c1, cell_low hb h.c2, (h.sl.below hb).mono (Nat.le_refl _) hb.size⟩
theorem Tb.new {s v : Int} {a : Option Addr} {c : Nat} {k : Fo} {w : World} {lo : Nat} (h : Sl w lo w.heap.size a k) : Tb w.heap.size s v a c k (w.alloc (.cells #[.int .i64 s, .int .i64 v, .slice a (flen k) c] 25)) := by
  have hb : Below w.heap.size w (w.alloc (.cells #[.int .i64 s, .int .i64 v, .slice a (flen k) c] 25)) := (Below.refl _ _).alloc (Nat.le_refl _) _
  refine ⟨?_, ?_, ?_, ((h.mono (Nat.zero_le _) (Nat.le_refl _)).below hb).mono (Nat.le_refl _) hb.size⟩
  · rw [World.cell?_alloc_at _ _ _ _ (by simp)]; rfl
  · rw [World.cell?_alloc_at _ _ _ _ (by simp)]; rfl
  · rw [World.cell?_alloc_at _ _ _ _ (by simp)]; rfl
theorem box_low (w : World) (o : Obj) : Below w.heap.size w (w.alloc o) := (Below.refl _ _).alloc (Nat.le_refl _) o
theorem Sl.next {w w2 : World} {lo : Nat} {a : Option Addr} {k : Fo} (h : Sl w lo w.heap.size a k) (hb : Below w.heap.size w w2) : Sl w2 0 w2.heap.size a k := ((h.mono (Nat.zero_le _) (Nat.le_refl _)).below hb).mono (Nat.le_refl _) hb.size
theorem BSl.next {w w2 : World} {lo : Nat} {a : Option Addr} {bs : List Bd} (h : BSl w lo w.heap.size a bs) (hb : Below w.heap.size w w2) : BSl w2 0 w2.heap.size a bs := ((h.mono (Nat.zero_le _) (Nat.le_refl _)).below hb).mono (Nat.le_refl _) hb.size
theorem ISl.next {w w2 : World} {lo : Nat} {a : Option Addr} {xs : List Int} (h : ISl w lo w.heap.size a xs) (hb : Below w.heap.size w w2) : ISl w2 0 w2.heap.size a xs := ((h.mono (Nat.zero_le _) (Nat.le_refl _)).below hb).mono (Nat.le_refl _) hb.size
theorem ISc.next {w w2 : World} {lo : Nat} {a : Option Addr} {c : Nat} {xs : List Int} (h : ISc w lo w.heap.size a c xs) (hb : Below w.heap.size w w2) : ISc w2 0 w2.heap.size a c xs := ⟨h.1.next hb, h.2⟩
theorem RSl.next {w w2 : World} {lo : Nat} {a : Option Addr} {rows : List (List Int)} (h : RSl w lo w.heap.size a rows) (hb : Below w.heap.size w w2) : RSl w2 0 w2.heap.size a rows := ((h.mono (Nat.zero_le _) (Nat.le_refl _)).below hb).mono (Nat.le_refl _) hb.size
theorem below_next {w0 w w2 : World} (h : Below w0.heap.size w0 w) (hb : Below w.heap.size w w2) : Below w0.heap.size w0 w2 := h.trans (hb.mono h.size)
theorem Bytes.next {w wn : World} {a : Option Addr} {len : Nat} (h : Bytes w a len) (hb : Below w.heap.size w wn) : Bytes wn a len := by
  rcases h with h | ⟨b, o, e, h1, h2⟩
  · exact .inl h
  · refine .inr ⟨b, o, e, Nat.lt_of_lt_of_le h1 hb.size, fun i hi => ?_⟩
    obtain ⟨x, hx, hc⟩ := h2 i hi
    exact ⟨x, hx, cell_low hb hc⟩
end Go.Proofs.Ytlaaihnokoeliab
