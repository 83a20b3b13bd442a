/- Several texts in one: MBt, XO0. -/
import Derived.Test.YtlaaihnokoeliabKPla15
import Derived.Test.YtlaaihnokoeliabKPla23
import Derived.Test.YtlaaihnokoeliabKPla22
import Derived.Test.YtlaaihnokoeliabKPla21
import Derived.Test.YtlaaihnokoeliabKPla2
import Derived.Test.YtlaaihnokoeliabKPla3

/-! MBt: binds: the row that comes of it is one's own, its terms trees of one's own. -/
namespace Go.Proofs.Ytlaaihnokoeliab
open Go.RowKit Go.Deep Go.Maps

/-- A row of binds of the call's own, its terms trees in blocks apart. -/
def BOwnT (w : World) (base : Nat) (bs : List Bd) (A : Option Addr) (C : Nat) : Prop :=
  ∃ xs, ∃ Ls Hs : Nat → Nat, w.ownsRow base 68 4 (.slice A bs.length C) bs.length xs ∧ (∀ (i : Nat) (x : Bd), bs[i]? = some x → ∃ a' c', xs[i * 4]? = some (.int .i64 x.1) ∧ xs[i * 4 + 1]? = some (.int .i64 x.2.1) ∧ xs[i * 4 + 2]? = some (.int .i64 x.2.2.1) ∧ xs[i * 4 + 3]? = some (.slice a' (flen x.2.2.2) c') ∧
    TX w (Ls i) (Hs i) a' x.2.2.2 ∧ base ≤ Ls i ∧ Ls i ≤ Hs i ∧ Hs i ≤ w.heap.size ∧ ∀ g, (Value.slice A bs.length C).ownBlock = some g → g < Ls i ∨ Hs i ≤ g) ∧ ∀ i j, i < j → j < bs.length → Hs i ≤ Ls j
theorem BOwnT.nil (w : World) (base : Nat) : BOwnT w base [] none 0 := ⟨[], fun _ => 0, fun _ => 0, World.ownsRow_nil _ _ _ _, fun i x hx => by simp at hx, fun i j _ hj => by simp at hj⟩
theorem BOwnT.append {w0 w w2 w3 : World} {base : Nat} {bs : List Bd} {A : Option Addr} {C g cap : Nat} {blk : Obj} {x s v : Int} {k : Fo} {a2 : Option Addr} {c2 : Nat} {xs : List Value} {Ls Hs : Nat → Nat} (hown : w.ownsRow base 68 4 (.slice A bs.length C) bs.length xs)
    (hall : ∀ (i : Nat) (x : Bd), bs[i]? = some x → ∃ a' c', xs[i * 4]? = some (.int .i64 x.1) ∧ xs[i * 4 + 1]? = some (.int .i64 x.2.1) ∧ xs[i * 4 + 2]? = some (.int .i64 x.2.2.1) ∧ xs[i * 4 + 3]? = some (.slice a' (flen x.2.2.2) c') ∧
      TX w (Ls i) (Hs i) a' x.2.2.2 ∧ base ≤ Ls i ∧ Ls i ≤ Hs i ∧ Hs i ≤ w.heap.size ∧ ∀ g, (Value.slice A bs.length C).ownBlock = some g → g < Ls i ∨ Hs i ≤ g) (hord : ∀ i j, i < j → j < bs.length → Hs i ≤ Ls j)
    (hown3 : w3.ownsRow base 68 4 (.slice (some ⟨g, 0, none⟩) (bs.length + 1) cap) (bs.length + 1) (xs ++ [.int .i64 x, .int .i64 s, .int .i64 v, .slice a2 (flen k) c2])) (ha : Below w.heap.size w w2) (hl2 : TX w2 w.heap.size w2.heap.size a2 k) (hbase : base ≤ w.heap.size)
    (hgrow : (w2.alloc blk).grownBy w3 (Value.slice A bs.length C).ownBlock) (hatg : (Value.slice A bs.length C).ownBlock = some g ∨ g = w2.heap.size + 1) (ha0 : Below w0.heap.size w0 w2) (hw0 : w0.heap.size ≤ base) : BOwnT w3 base (bs ++ [(x, s, v, k)]) (some ⟨g, 0, none⟩) cap ∧ Below w0.heap.size w0 w3 := by
  have hs2 := ha.size
  have hs3 := hgrow.size
  simp at hs3
  have hxl : xs.length = bs.length * 4 := hown.1
  have hl : (bs ++ [(x, s, v, k)]).length = bs.length + 1 := by simp
  refine ⟨⟨xs ++ [.int .i64 x, .int .i64 s, .int .i64 v, .slice a2 (flen k) c2], fun i => if i < bs.length then Ls i else w.heap.size, fun i => if i < bs.length then Hs i else w2.heap.size, by rw [hl]; exact hown3, fun i y hy => ?_, fun i j hij hj => ?_⟩, (ha0.alloc (by omega) blk).grown hgrow (by have := ha0.size; simp; omega) (fun q hq => by have := (hown.lt q hq).1; omega)⟩
  · rw [hl]
    by_cases hi : i < bs.length
    · rw [List.getElem?_append_left hi] at hy
      obtain ⟨a', c', c0, c1, c2', c3, hsl, h1, hLH, h2, h3⟩ := hall i y hy
      simp only [if_pos hi]
      refine ⟨a', c', by rw [List.getElem?_append_left (by omega)]; exact c0, by rw [List.getElem?_append_left (by omega)]; exact c1, by rw [List.getElem?_append_left (by omega)]; exact c2', by rw [List.getElem?_append_left (by omega)]; exact c3, hsl.same (fun b hb1 hb2 => ?_), h1, hLH, by omega, fun g' hg' => ?_⟩
      · rw [hgrow.block b (by simp; omega) (fun e => by have := h3 b e.symm; omega), Below.heap_alloc _ _ _ (by omega)]
        exact ha.block b (by omega)
      · have : g' = g := by simpa [Value.ownBlock] using hg'.symm
        subst this
        rcases hatg with hg1 | hg1
        · exact h3 _ hg1
        · omega
    · have hi' : i = bs.length := by have := (List.getElem?_eq_some_iff.1 hy).1; omega
      subst hi'
      simp at hy
      subst hy
      simp only [if_neg hi]
      refine ⟨a2, c2, ?_, ?_, ?_, ?_, hl2.same (fun b hb1 hb2 => ?_), hbase, hs2, by omega, fun g' hg' => ?_⟩
      · rw [List.getElem?_append_right (by omega), hxl]; simp
      · rw [List.getElem?_append_right (by omega), hxl, show bs.length * 4 + 1 - bs.length * 4 = 1 from by omega]; rfl
      · rw [List.getElem?_append_right (by omega), hxl, show bs.length * 4 + 2 - bs.length * 4 = 2 from by omega]; rfl
      · rw [List.getElem?_append_right (by omega), hxl, show bs.length * 4 + 3 - bs.length * 4 = 3 from by omega]; rfl
      · rw [hgrow.block b (by simp; omega) (fun e => by have := (hown.lt b e.symm).2; omega), Below.heap_alloc _ _ _ (by omega)]
      · have : g' = g := by simpa [Value.ownBlock] using hg'.symm
        subst this
        rcases hatg with hg1 | hg1
        · exact .inl (hown.lt _ hg1).2
        · exact .inr (by omega)
  · rw [hl] at hj
    simp only [if_pos (show i < bs.length by omega)]
    by_cases hj2 : j < bs.length
    · rw [if_pos hj2]; exact hord i j hij hj2
    · rw [if_neg hj2]
      obtain ⟨y, hy⟩ : ∃ y, bs[i]? = some y := ⟨bs[i], List.getElem?_eq_getElem (by omega)⟩
      obtain ⟨_, _, _, _, _, _, _, _, _, h2, _⟩ := hall i y hy
      exact h2
theorem BOwnT.bx {w : World} {base : Nat} {bs : List Bd} {A : Option Addr} {C : Nat} (h : BOwnT w base bs A C) : BX w base w.heap.size bs A := by
  obtain ⟨xs, Ls, Hs, hown, hall, hord⟩ := h
  rcases Nat.eq_zero_or_pos bs.length with h0 | h0
  · exact .inl (List.eq_nil_of_length_eq_zero h0)
  · obtain ⟨g, cap, hv, hb, hlt⟩ := hown.form h0
    have hA : A = some ⟨g, 0, none⟩ := by simp only [Value.slice.injEq] at hv; exact hv.1
    subst hA
    have hget : ∀ i, i < bs.length → ∃ y, bs[i]? = some y := fun i hi => ⟨bs[i], List.getElem?_eq_getElem hi⟩
    refine .inr ⟨g, Ls, Hs, rfl, ⟨hb, hlt, fun i hi => ?_, fun i hi => ?_, fun i hi => ?_, fun i hi => ?_, hord⟩, fun o => hown.frozenAt o, fun i x hx => ?_⟩
    · obtain ⟨y, hy⟩ := hget i hi
      obtain ⟨_, _, _, _, _, _, _, h1, _, _, _⟩ := hall i y hy
      exact h1
    · obtain ⟨y, hy⟩ := hget i hi
      obtain ⟨_, _, _, _, _, _, _, _, h1, _, _⟩ := hall i y hy
      exact h1
    · obtain ⟨y, hy⟩ := hget i hi
      obtain ⟨_, _, _, _, _, _, _, _, _, h1, _⟩ := hall i y hy
      exact h1
    · obtain ⟨y, hy⟩ := hget i hi
      obtain ⟨_, _, _, _, _, _, _, _, _, _, h1⟩ := hall i y hy
      exact h1 g rfl
    · have hi := (List.getElem?_eq_some_iff.1 hx).1
      obtain ⟨a', c', c0, c1, c2, c3, ht, _, _, _, _⟩ := hall i x hx
      exact ⟨a', c', by rw [hown.cellAt _ (by omega)]; exact c0, by rw [hown.cellAt _ (by omega)]; exact c1, by rw [hown.cellAt _ (by omega)]; exact c2, by rw [hown.cellAt _ (by omega)]; exact c3, ht⟩
def BiPostT (bs : List Bd) (lim : Int) (w : World) (e : Ending) (w' : World) : Prop :=
  Below w.heap.size w w' ∧ ((fits lim bs = true ∧ ∃ A C, e = .returned (.tuple #[.slice A (List.length bs) C, .bool true]) ∧ BX w' w.heap.size w'.heap.size bs A) ∨ (fits lim bs = false ∧ e = .returned (.tuple #[.slice none 0 0, .bool false])))

set_option maxRecDepth 100000 in
set_option maxHeartbeats 4000000 in
theorem bindsT_any (bs : List Bd) (b : Nat) (lim : Int) (w : World) (hm : MapIs w b bs) (ha : Asc bs) (hr : ∀ x, (sv bs x).isSome = true → 0 ≤ x ∧ x ≤ 11) (hbo : Bof bs 100000) :
    Calls Try.prog 37 #[.map (some b), .int .i64 lim] w (BiPostT bs lim w) := by
  obtain ⟨ti, hti, htz, hts, htb⟩ := Try.infoBind
  have HTI : Hid (Try.prog.info? 68 = some ti ∧ ti.zero = some (.agg #[.int .i64 0, .int .i64 0, .int .i64 0, .slice none 0 0]) ∧ ti.size = 4 ∧ ti.bytes = 48) := ⟨hti, htz, hts, htb⟩
  have HM := Lib.hid hm
  have HA := Lib.hid ha
  have HR := Lib.hid hr
  have HBO := Lib.hid hbo
  have hz := zeroE
  have HL0 : Hid (lows bs ((0 : Nat) : Int) = []) := lows_zero fun x hx => (low_mem ha hr hx).1
  have HLA : Hid (lows bs ((12 : Nat) : Int) = bs) := lows_all fun x hx => by have := low_mem ha hr hx; omega
  clear hti htz hts htb hm ha hr hbo
  go_enter Try.func37, Try.ntmps37
  go_wp2_with fail
  go_loopw [6, 10] (fun o i wr => ∃ (j : Nat) (out : List Bd) (A' : Option Addr) (C' : Nat), o = .slice A' out.length C' ∧ i = .int .i64 (j : Int) ∧ j ≤ 12 ∧ out.length ≤ j ∧ Hid (lows bs (j : Int) = out) ∧ Hid (fits lim out = true) ∧ Hid (BOwnT wr w.heap.size out A' C') ∧ Hid (Below w.heap.size w wr)) (fun _ i _ => 12 - (intOf i).toNat)
  case atStart => exact ⟨0, [], none, 0, rfl, rfl, by omega, by simp, HL0, rfl, BOwnT.nil _ _, Below.refl _ _⟩
  case round =>
    clear HL0
    obtain ⟨j, out, A', C', rfl, rfl, hj, hol, HLO, HFT, HO, HBW⟩ := hrel
    have hws := HBW.out.size
    by_cases hlt : j < 12
    · obtain ⟨n, D, hown, hn, hsv⟩ := HM.out.below HBW.out
      have HWF : Hid ((Lit.int .i64 (j : Int)).wf = true) := WalkArith.wf_i64 (by omega)
      have HOWNM := Lib.hid hown
      have HKEY := Lib.hid (key_of HWF.out)
      have hx := hsv (j : Int) HWF.out
      have g2 : (j : Int) < 12 := by omega
      clear hown hsv
      cases hs : sv bs (j : Int) with
      | none =>
        have hh := hx.1 hs
        have HLS : Hid (lows bs ((j + 1 : Nat) : Int) = out) := by rw [Hid, show ((j + 1 : Nat) : Int) = (j : Int) + 1 from by omega, lows_none HA.out hs]; exact HLO.out
        clear hx hs
        go_wp2_with (at_lookup; refine wpList_lookup_own_ok (H := Value) _ rfl _ _ 62 rfl 95 58 law underM rdV (zeroE _) (.held .nilIface) [] rfl b n D rfl HOWNM.out (.int .i64 (j : Int)) (.int .i64 (j : Int)) rfl HKEY.out ?_; intro nv ps hnv; rw [hh]; clear hnv)
        go_roundw
        case rel => exact ⟨j + 1, out, A', C', rfl, by go_num, by omega, by omega, HLS, HFT, HO, HBW⟩
        case measure => simp [intOf]; omega
      | some u =>
        obtain ⟨s', v', k'⟩ := u
        obtain ⟨hh, nv0, hat, hnode⟩ := hx.2 s' v' k' hs
        have hbo1 := HBO.out _ _ hs
        dsimp only at hbo1
        have HO1 := Lib.hid hbo1.1
        have HO2 := Lib.hid hbo1.2.1
        have hk9 := hbo1.2.2
        have HNODE := Lib.hid hnode
        have HAT := Lib.hid hat
        have HLS : Hid (lows bs ((j + 1 : Nat) : Int) = out ++ [((j : Int), s', v', k')]) := by rw [Hid, show ((j + 1 : Nat) : Int) = (j : Int) + 1 from by omega, lows_some HA.out hs, HLO.out]
        have HNO : Hid (¬ 1 + (fsz k' : Int) ≤ lim → fits lim bs = false) := fun h => fits_no hs h
        obtain ⟨xs, Ls0, Hs0, hownB, hallB, hordB⟩ := HO.out
        have HOWN := Lib.hid hownB
        have HALL := Lib.hid hallB
        have HORD := Lib.hid hordB
        clear hx hs hnode hat hbo1 hownB hallB hordB
        have hnd := HNODE.out
        rcases hnd with ⟨rfl, rfl, rfl⟩ | ⟨hs', a5, c5, rfl, hn2⟩
        · go_wp2_with (at_lookup; refine wpList_lookup_own_ok (H := Value) _ rfl _ _ 62 rfl 95 58 law underM rdV (zeroE _) (.held .nilIface) [] rfl b n D rfl HOWNM.out (.int .i64 (j : Int)) (.int .i64 (j : Int)) rfl HKEY.out ?_; intro nv ps hnv; rw [hh]; obtain rfl : nv = (.iface 95 (.int .i64 v')) := (by have := HAT.out; simp only [rdV, Option.some.injEq, Prod.mk.injEq] at hnv; rw [this] at hnv; exact DataW.held.inj hnv.1); clear hnv)
          refine upon_method 112 (by kernel_rfl) (by kernel_rfl) ?_
          go_simp
          with_reducible refine (varSize_any v' _).mono ?_
          rintro e w5 ⟨rfl, rfl⟩
          by_cases hbig : 1 + (fsz .nil : Int) ≤ lim
          case neg =>
            have e1 : decide ((1 : Int) > lim) = true := decide_eq_true (by simp [fsz] at hbig; omega)
            have HF := Lib.hid (HNO.out (by omega))
            clear hbig
            go_wp2_with fail
            refine bodyPost_ret (v := .tuple #[.slice none 0 0, .bool false]) ?_ rfl ⟨HBW.out, .inr ⟨HF.out, rfl⟩⟩
            simp [results, Try.results37, go_sem]
          have e1 : decide ((1 : Int) > lim) = false := decide_eq_false (by simp [fsz] at hbig; omega)
          have HFT2 : Hid (fits lim (out ++ [((j : Int), 0, v', (BT.nil : Fo))]) = true) := fits_snoc HFT.out hbig
          clear hbig
          go_wp2_with fail
          refine upon_method 113 (by kernel_rfl) (by kernel_rfl) ?_
          go_simp
          with_reducible refine (varTermT_any v' _).mono ?_
          rintro e w6 ⟨a6, c6, rfl, hb6, hl6⟩
          have hs6 := hb6.size
          have HB6 := Lib.hid hb6
          have HL6 := Lib.hid hl6
          have HBW6 := Lib.hid (HBW.out.trans (hb6.mono hws))
          have HOWN6 := Lib.hid (own_low hb6 HOWN.out)
          clear hb6 hl6
          go_wp2_with (at_builtin; refine wpList_append_lies _ rfl _ _ 27 rfl w.heap.size 68 ti _ 4 48 Try.underlying27 HTI.out.1 HTI.out.2.1 HTI.out.2.2.1 HTI.out.2.2.2 rfl (by omega) (.slice A' out.length C') out.length xs rfl (HOWN6.out.alloc _) ⟨w6.heap.size, 0, none⟩ 1 1 [.int .i64 (j : Int), .int .i64 0, .int .i64 v', .slice a6 (flen .nil) c6] rfl rfl (World.news_of_block (heap_alloc_new _ _)) (by simp [Value.oneCell']) (by omega) (by unfold maxLen; omega) (by omega) (by simp; omega) (w6.heap.size + 1) (by simp) ?_; intro g3 cap3 w3 hown3 hgrow3 hat3 hg3; have HX3 := Lib.hid (BOwnT.append (w0 := w) HOWN.out HALL.out HORD.out hown3 HB6.out HL6.out (by omega) hgrow3 hat3 HBW6.out (Nat.le_refl _)); clear hown3 hgrow3 hat3 hg3)
          have hl2' : (out ++ [((j : Int), 0, v', (BT.nil : Fo))]).length = out.length + 1 := by simp
          go_roundw
          case rel => exact ⟨j + 1, out ++ [((j : Int), 0, v', (BT.nil : Fo))], some ⟨g3, 0, none⟩, cap3, by rw [hl2'], by go_num, by omega, by rw [hl2']; omega, HLS, HFT2, HX3.out.1, HX3.out.2⟩
          case measure => simp [intOf]; omega
        · have HNS := Lib.hid hn2
          have hv0 : v' = 0 := ((okN_iff _ _ _).1 HO1.out).2.2 hs'
          subst hv0
          clear hn2
          go_wp2_with (at_lookup; refine wpList_lookup_own_ok (H := Value) _ rfl _ _ 62 rfl 95 58 law underM rdV (zeroE _) (.held .nilIface) [] rfl b n D rfl HOWNM.out (.int .i64 (j : Int)) (.int .i64 (j : Int)) rfl HKEY.out ?_; intro nv ps hnv; rw [hh]; obtain rfl : nv = (.iface 104 (.agg #[.int .i64 s', .slice a5 (flen k') c5])) := (by have := HAT.out; simp only [rdV, Option.some.injEq, Prod.mk.injEq] at hnv; rw [this] at hnv; exact DataW.held.inj hnv.1); clear hnv)
          refine upon_method 128 (by kernel_rfl) (by kernel_rfl) ?_
          go_simp
          with_reducible refine (symSize_any (fsz k') s' a5 c5 k' _ HNS.out (Nat.le_refl _) (by omega)).mono ?_
          rintro e w5 ⟨rfl, hb5⟩
          have hs5 := hb5.size
          have HNS5 := Lib.hid ((HNS.out.below hb5).mono (lo' := 0) (Nat.le_refl _) hs5)
          have HB5 := Lib.hid hb5
          clear hb5
          by_cases hbig : 1 + (fsz k' : Int) ≤ lim
          case neg =>
            have e1 : decide (1 + (fsz k' : Int) > lim) = true := decide_eq_true (by omega)
            have HF := Lib.hid (HNO.out (by omega))
            clear hbig
            go_wp2_with fail
            refine bodyPost_ret (v := .tuple #[.slice none 0 0, .bool false]) ?_ rfl ⟨HBW.out.trans (HB5.out.mono hws), .inr ⟨HF.out, rfl⟩⟩
            simp [results, Try.results37, go_sem]
          have e1 : decide (1 + (fsz k' : Int) > lim) = false := decide_eq_false (by omega)
          have HFT2 : Hid (fits lim (out ++ [((j : Int), s', 0, k')]) = true) := fits_snoc HFT.out hbig
          clear hbig
          go_wp2_with fail
          refine upon_method 129 (by kernel_rfl) (by kernel_rfl) ?_
          go_simp
          with_reducible refine (symTermT_any (fsz k') s' a5 c5 k' _ HNS5.out HO2.out (Nat.le_refl _) (by omega)).mono ?_
          rintro e w6 ⟨a6, c6, rfl, hb6, hl6⟩
          have hs6 := hb6.size
          have HB6 := Lib.hid (HB5.out.trans (hb6.mono hs5))
          have HL6 : Hid (TX w6 wr.heap.size w6.heap.size a6 k') := hl6.mono hs5 (Nat.le_refl _)
          have HBW6 := Lib.hid (HBW.out.trans (HB6.out.mono hws))
          have HOWN6 := Lib.hid (own_low HB6.out HOWN.out)
          clear hb6 hl6
          go_wp2_with (at_builtin; refine wpList_append_lies _ rfl _ _ 27 rfl w.heap.size 68 ti _ 4 48 Try.underlying27 HTI.out.1 HTI.out.2.1 HTI.out.2.2.1 HTI.out.2.2.2 rfl (by omega) (.slice A' out.length C') out.length xs rfl (HOWN6.out.alloc _) ⟨w6.heap.size, 0, none⟩ 1 1 [.int .i64 (j : Int), .int .i64 s', .int .i64 0, .slice a6 (flen k') c6] rfl rfl (World.news_of_block (heap_alloc_new _ _)) (by simp [Value.oneCell']) (by omega) (by unfold maxLen; omega) (by omega) (by simp; omega) (w6.heap.size + 1) (by simp) ?_; intro g3 cap3 w3 hown3 hgrow3 hat3 hg3; have HX3 := Lib.hid (BOwnT.append (w0 := w) HOWN.out HALL.out HORD.out hown3 HB6.out HL6.out (by omega) hgrow3 hat3 HBW6.out (Nat.le_refl _)); clear hown3 hgrow3 hat3 hg3)
          have hl2' : (out ++ [((j : Int), s', 0, k')]).length = out.length + 1 := by simp
          go_roundw
          case rel => exact ⟨j + 1, out ++ [((j : Int), s', 0, k')], some ⟨g3, 0, none⟩, cap3, by rw [hl2'], by go_num, by omega, by rw [hl2']; omega, HLS, HFT2, HX3.out.1, HX3.out.2⟩
          case measure => simp [intOf]; omega
    · have hje : j = 12 := by omega
      subst hje
      have HE : Hid (out = bs) := by rw [Hid, ← HLO.out]; exact HLA.out
      obtain rfl : out = bs := HE.out
      go_wp2_with fail
      refine bodyPost_ret (v := .tuple #[.slice A' out.length C', .bool true]) ?_ rfl ⟨HBW.out, .inl ⟨HFT.out, A', C', rfl, HO.out.bx⟩⟩
      simp [results, Try.results37, go_sem]
end Go.Proofs.Ytlaaihnokoeliab

/-! XO0: Small lemmas of the exact laws. -/
namespace Go.Proofs.Ytlaaihnokoeliab
open Go.RowKit Go.Deep

theorem szR_fit {k : Fo} (h : 0 ≤ szR k 1048576) : fsz k ≤ 1048576 := by
  unfold szR at h
  split at h
  · omega
  · omega
theorem cell_lowX {W w2 : World} {q : Addr} {x : Value} (hb : Below W.heap.size W w2) (h : W.cell? q = some x) : w2.cell? q = some x := by
  rw [hb.cell (World.block_lt_of_cell? _ _ h)]; exact h
end Go.Proofs.Ytlaaihnokoeliab
