/- Several texts in one: MBt, PLiT, PLs, XO0. -/
import Derived.Test.YtbiplmccmclbiaaKMatch13
import Derived.Test.YtbiplmccmclbiaaLFnExactTermPlain4
import Derived.Test.YtbiplmccmclbiaaLFnExactTermPlain3
import Derived.Test.YtbiplmccmclbiaaLFnExactTermPlain5
import Derived.Test.YtbiplmccmclbiaaKMatch15
import Derived.Test.YtbiplmccmclbiaaKMatch17
import Derived.Test.YtbiplmccmclbiaaLFnExactTermPlain2
import Derived.Test.YtbiplmccmclbiaaKMatch3
import Derived.Test.YtbiplmccmclbiaaKMatch4

/-! MBt: binds: the row that comes of it is one's own, its terms trees of one's own. -/
namespace Go.Proofs.Ytbiplmccmclbiaa
open Go.RowKit Go.Deep Go.Maps

/-- A row of binds of the call's own, its terms trees in blocks apart. -/
def BOwnT (w : World) (base : Nat) (bs : List Bd) (A : Option Addr) (C : Nat) : Prop :=
  ∃ xs, ∃ Ls Hs : Nat → Nat, w.ownsRow base 47 4 (.slice A bs.length C) bs.length xs ∧ (∀ (i : Nat) (x : Bd), bs[i]? = some x → ∃ a' c', xs[i * 4]? = some (.int .i64 x.1) ∧ xs[i * 4 + 1]? = some (.int .i64 x.2.1) ∧ xs[i * 4 + 2]? = some (.int .i64 x.2.2.1) ∧ xs[i * 4 + 3]? = some (.slice a' (flen x.2.2.2) c') ∧
    TX w (Ls i) (Hs i) a' x.2.2.2 ∧ base ≤ Ls i ∧ Ls i ≤ Hs i ∧ Hs i ≤ w.heap.size ∧ ∀ g, (Value.slice A bs.length C).ownBlock = some g → g < Ls i ∨ Hs i ≤ g) ∧ ∀ i j, i < j → j < bs.length → Hs i ≤ Ls j
theorem BOwnT.nil (w : World) (base : Nat) : BOwnT w base [] none 0 := ⟨[], fun _ => 0, fun _ => 0, World.ownsRow_nil _ _ _ _, fun i x hx => by simp at hx, fun i j _ hj => by simp at hj⟩
theorem BOwnT.append {w0 w w2 w3 : World} {base : Nat} {bs : List Bd} {A : Option Addr} {C g cap : Nat} {blk : Obj} {x s v : Int} {k : Fo} {a2 : Option Addr} {c2 : Nat} {xs : List Value} {Ls Hs : Nat → Nat} (hown : w.ownsRow base 47 4 (.slice A bs.length C) bs.length xs)
    (hall : ∀ (i : Nat) (x : Bd), bs[i]? = some x → ∃ a' c', xs[i * 4]? = some (.int .i64 x.1) ∧ xs[i * 4 + 1]? = some (.int .i64 x.2.1) ∧ xs[i * 4 + 2]? = some (.int .i64 x.2.2.1) ∧ xs[i * 4 + 3]? = some (.slice a' (flen x.2.2.2) c') ∧
      TX w (Ls i) (Hs i) a' x.2.2.2 ∧ base ≤ Ls i ∧ Ls i ≤ Hs i ∧ Hs i ≤ w.heap.size ∧ ∀ g, (Value.slice A bs.length C).ownBlock = some g → g < Ls i ∨ Hs i ≤ g) (hord : ∀ i j, i < j → j < bs.length → Hs i ≤ Ls j)
    (hown3 : w3.ownsRow base 47 4 (.slice (some ⟨g, 0, none⟩) (bs.length + 1) cap) (bs.length + 1) (xs ++ [.int .i64 x, .int .i64 s, .int .i64 v, .slice a2 (flen k) c2])) (ha : Below w.heap.size w w2) (hl2 : TX w2 w.heap.size w2.heap.size a2 k) (hbase : base ≤ w.heap.size)
    (hgrow : (w2.alloc blk).grownBy w3 (Value.slice A bs.length C).ownBlock) (hatg : (Value.slice A bs.length C).ownBlock = some g ∨ g = w2.heap.size + 1) (ha0 : Below w0.heap.size w0 w2) (hw0 : w0.heap.size ≤ base) : BOwnT w3 base (bs ++ [(x, s, v, k)]) (some ⟨g, 0, none⟩) cap ∧ Below w0.heap.size w0 w3 := by
  have hs2 := ha.size
  have hs3 := hgrow.size
  simp at hs3
  have hxl : xs.length = bs.length * 4 := hown.1
  have hl : (bs ++ [(x, s, v, k)]).length = bs.length + 1 := by simp
  refine ⟨⟨xs ++ [.int .i64 x, .int .i64 s, .int .i64 v, .slice a2 (flen k) c2], fun i => if i < bs.length then Ls i else w.heap.size, fun i => if i < bs.length then Hs i else w2.heap.size, by rw [hl]; exact hown3, fun i y hy => ?_, fun i j hij hj => ?_⟩, (ha0.alloc (by omega) blk).grown hgrow (by have := ha0.size; simp; omega) (fun q hq => by have := (hown.lt q hq).1; omega)⟩
  · rw [hl]
    by_cases hi : i < bs.length
    · rw [List.getElem?_append_left hi] at hy
      obtain ⟨a', c', c0, c1, c2', c3, hsl, h1, hLH, h2, h3⟩ := hall i y hy
      simp only [if_pos hi]
      refine ⟨a', c', by rw [List.getElem?_append_left (by omega)]; exact c0, by rw [List.getElem?_append_left (by omega)]; exact c1, by rw [List.getElem?_append_left (by omega)]; exact c2', by rw [List.getElem?_append_left (by omega)]; exact c3, hsl.same (fun b hb1 hb2 => ?_), h1, hLH, by omega, fun g' hg' => ?_⟩
      · rw [hgrow.block b (by simp; omega) (fun e => by have := h3 b e.symm; omega), Below.heap_alloc _ _ _ (by omega)]
        exact ha.block b (by omega)
      · have : g' = g := by simpa [Value.ownBlock] using hg'.symm
        subst this
        rcases hatg with hg1 | hg1
        · exact h3 _ hg1
        · omega
    · have hi' : i = bs.length := by have := (List.getElem?_eq_some_iff.1 hy).1; omega
      subst hi'
      simp at hy
      subst hy
      simp only [if_neg hi]
      refine ⟨a2, c2, ?_, ?_, ?_, ?_, hl2.same (fun b hb1 hb2 => ?_), hbase, hs2, by omega, fun g' hg' => ?_⟩
      · rw [List.getElem?_append_right (by omega), hxl]; simp
      · rw [List.getElem?_append_right (by omega), hxl, show bs.length * 4 + 1 - bs.length * 4 = 1 from by omega]; rfl
      · rw [List.getElem?_append_right (by omega), hxl, show bs.length * 4 + 2 - bs.length * 4 = 2 from by omega]; rfl
      · rw [List.getElem?_append_right (by omega), hxl, show bs.length * 4 + 3 - bs.length * 4 = 3 from by omega]; rfl
      · rw [hgrow.block b (by simp; omega) (fun e => by have := (hown.lt b e.symm).2; omega), Below.heap_alloc _ _ _ (by omega)]
      · have : g' = g := by simpa [Value.ownBlock] using hg'.symm
        subst this
        rcases hatg with hg1 | hg1
        · exact .inl (hown.lt _ hg1).2
        · exact .inr (by omega)
  · rw [hl] at hj
    simp only [if_pos (show i < bs.length by omega)]
    by_cases hj2 : j < bs.length
    · rw [if_pos hj2]; exact hord i j hij hj2
    · rw [if_neg hj2]
      obtain ⟨y, hy⟩ : ∃ y, bs[i]? = some y := ⟨bs[i], List.getElem?_eq_getElem (by omega)⟩
      obtain ⟨_, _, _, _, _, _, _, _, _, h2, _⟩ := hall i y hy
      exact h2
theorem BOwnT.bx {w : World} {base : Nat} {bs : List Bd} {A : Option Addr} {C : Nat} (h : BOwnT w base bs A C) : BX w base w.heap.size bs A := by
  obtain ⟨xs, Ls, Hs, hown, hall, hord⟩ := h
  rcases Nat.eq_zero_or_pos bs.length with h0 | h0
  · exact .inl (List.eq_nil_of_length_eq_zero h0)
  · obtain ⟨g, cap, hv, hb, hlt⟩ := hown.form h0
    have hA : A = some ⟨g, 0, none⟩ := by simp only [Value.slice.injEq] at hv; exact hv.1
    subst hA
    have hget : ∀ i, i < bs.length → ∃ y, bs[i]? = some y := fun i hi => ⟨bs[i], List.getElem?_eq_getElem hi⟩
    refine .inr ⟨g, Ls, Hs, rfl, ⟨hb, hlt, fun i hi => ?_, fun i hi => ?_, fun i hi => ?_, fun i hi => ?_, hord⟩, fun o => hown.frozenAt o, fun i x hx => ?_⟩
    · obtain ⟨y, hy⟩ := hget i hi
      obtain ⟨_, _, _, _, _, _, _, h1, _, _, _⟩ := hall i y hy
      exact h1
    · obtain ⟨y, hy⟩ := hget i hi
      obtain ⟨_, _, _, _, _, _, _, _, h1, _, _⟩ := hall i y hy
      exact h1
    · obtain ⟨y, hy⟩ := hget i hi
      obtain ⟨_, _, _, _, _, _, _, _, _, h1, _⟩ := hall i y hy
      exact h1
    · obtain ⟨y, hy⟩ := hget i hi
      obtain ⟨_, _, _, _, _, _, _, _, _, _, h1⟩ := hall i y hy
      exact h1 g rfl
    · have hi := (List.getElem?_eq_some_iff.1 hx).1
      obtain ⟨a', c', c0, c1, c2, c3, ht, _, _, _, _⟩ := hall i x hx
      exact ⟨a', c', by rw [hown.cellAt _ (by omega)]; exact c0, by rw [hown.cellAt _ (by omega)]; exact c1, by rw [hown.cellAt _ (by omega)]; exact c2, by rw [hown.cellAt _ (by omega)]; exact c3, ht⟩
def BiPostT (bs : List Bd) (lim : Int) (w : World) (e : Ending) (w' : World) : Prop :=
  Below w.heap.size w w' ∧ ((fits lim bs = true ∧ ∃ A C, e = .returned (.tuple #[.slice A (List.length bs) C, .bool true]) ∧ BX w' w.heap.size w'.heap.size bs A) ∨ (fits lim bs = false ∧ e = .returned (.tuple #[.slice none 0 0, .bool false])))

set_option maxRecDepth 100000 in
set_option maxHeartbeats 4000000 in
theorem bindsT_any (bs : List Bd) (b : Nat) (lim : Int) (w : World) (hm : MapIs w b bs) (ha : Asc bs) (hr : ∀ x, (sv bs x).isSome = true → 0 ≤ x ∧ x ≤ 11) (hbo : Bof bs 100000) :
    Calls Try.prog 47 #[.map (some b), .int .i64 lim] w (BiPostT bs lim w) := by
  obtain ⟨ti, hti, htz, hts, htb⟩ := Try.infoBind
  have HTI : Hid (Try.prog.info? 47 = some ti ∧ ti.zero = some (.agg #[.int .i64 0, .int .i64 0, .int .i64 0, .slice none 0 0]) ∧ ti.size = 4 ∧ ti.bytes = 48) := ⟨hti, htz, hts, htb⟩
  have HM := Lib.hid hm
  have HA := Lib.hid ha
  have HR := Lib.hid hr
  have HBO := Lib.hid hbo
  have hz := zeroE
  have HL0 : Hid (lows bs ((0 : Nat) : Int) = []) := lows_zero fun x hx => (low_mem ha hr hx).1
  have HLA : Hid (lows bs ((12 : Nat) : Int) = bs) := lows_all fun x hx => by have := low_mem ha hr hx; omega
  clear hti htz hts htb hm ha hr hbo
  go_enter Try.func47, Try.ntmps47
  go_wp2_with fail
  go_loopw [6, 10] (fun o i wr => ∃ (j : Nat) (out : List Bd) (A' : Option Addr) (C' : Nat), o = .slice A' out.length C' ∧ i = .int .i64 (j : Int) ∧ j ≤ 12 ∧ out.length ≤ j ∧ Hid (lows bs (j : Int) = out) ∧ Hid (fits lim out = true) ∧ Hid (BOwnT wr w.heap.size out A' C') ∧ Hid (Below w.heap.size w wr)) (fun _ i _ => 12 - (intOf i).toNat)
  case atStart => exact ⟨0, [], none, 0, rfl, rfl, by omega, by simp, HL0, rfl, BOwnT.nil _ _, Below.refl _ _⟩
  case round =>
    clear HL0
    obtain ⟨j, out, A', C', rfl, rfl, hj, hol, HLO, HFT, HO, HBW⟩ := hrel
    have hws := HBW.out.size
    by_cases hlt : j < 12
    · obtain ⟨n, D, hown, hn, hsv⟩ := HM.out.below HBW.out
      have HWF : Hid ((Lit.int .i64 (j : Int)).wf = true) := WalkArith.wf_i64 (by omega)
      have HOWNM := Lib.hid hown
      have HKEY := Lib.hid (key_of HWF.out)
      have hx := hsv (j : Int) HWF.out
      have g2 : (j : Int) < 12 := by omega
      clear hown hsv
      cases hs : sv bs (j : Int) with
      | none =>
        have hh := hx.1 hs
        have HLS : Hid (lows bs ((j + 1 : Nat) : Int) = out) := by rw [Hid, show ((j + 1 : Nat) : Int) = (j : Int) + 1 from by omega, lows_none HA.out hs]; exact HLO.out
        clear hx hs
        go_wp2_with (at_lookup; refine wpList_lookup_own_ok (H := Value) _ rfl _ _ 70 rfl 102 66 law underM rdV (zeroE _) (.held .nilIface) [] rfl b n D rfl HOWNM.out (.int .i64 (j : Int)) (.int .i64 (j : Int)) rfl HKEY.out ?_; intro nv ps hnv; rw [hh]; clear hnv)
        go_roundw
        case rel => exact ⟨j + 1, out, A', C', rfl, by go_num, by omega, by omega, HLS, HFT, HO, HBW⟩
        case measure => simp [intOf]; omega
      | some u =>
        obtain ⟨s', v', k'⟩ := u
        obtain ⟨hh, nv0, hat, hnode⟩ := hx.2 s' v' k' hs
        have hbo1 := HBO.out _ _ hs
        dsimp only at hbo1
        have HO1 := Lib.hid hbo1.1
        have HO2 := Lib.hid hbo1.2.1
        have hk9 := hbo1.2.2
        have HNODE := Lib.hid hnode
        have HAT := Lib.hid hat
        have HLS : Hid (lows bs ((j + 1 : Nat) : Int) = out ++ [((j : Int), s', v', k')]) := by rw [Hid, show ((j + 1 : Nat) : Int) = (j : Int) + 1 from by omega, lows_some HA.out hs, HLO.out]
        have HNO : Hid (¬ 1 + (fsz k' : Int) ≤ lim → fits lim bs = false) := fun h => fits_no hs h
        obtain ⟨xs, Ls0, Hs0, hownB, hallB, hordB⟩ := HO.out
        have HOWN := Lib.hid hownB
        have HALL := Lib.hid hallB
        have HORD := Lib.hid hordB
        clear hx hs hnode hat hbo1 hownB hallB hordB
        have hnd := HNODE.out
        rcases hnd with ⟨rfl, rfl, rfl⟩ | ⟨hs', a5, c5, rfl, hn2⟩
        · go_wp2_with (at_lookup; refine wpList_lookup_own_ok (H := Value) _ rfl _ _ 70 rfl 102 66 law underM rdV (zeroE _) (.held .nilIface) [] rfl b n D rfl HOWNM.out (.int .i64 (j : Int)) (.int .i64 (j : Int)) rfl HKEY.out ?_; intro nv ps hnv; rw [hh]; obtain rfl : nv = (.iface 102 (.int .i64 v')) := (by have := HAT.out; simp only [rdV, Option.some.injEq, Prod.mk.injEq] at hnv; rw [this] at hnv; exact DataW.held.inj hnv.1); clear hnv)
          refine upon_method 124 (by kernel_rfl) (by kernel_rfl) ?_
          go_simp
          with_reducible refine (varSize_any v' _).mono ?_
          rintro e w5 ⟨rfl, rfl⟩
          by_cases hbig : 1 + (fsz .nil : Int) ≤ lim
          case neg =>
            have e1 : decide ((1 : Int) > lim) = true := decide_eq_true (by simp [fsz] at hbig; omega)
            have HF := Lib.hid (HNO.out (by omega))
            clear hbig
            go_wp2_with fail
            refine bodyPost_ret (v := .tuple #[.slice none 0 0, .bool false]) ?_ rfl ⟨HBW.out, .inr ⟨HF.out, rfl⟩⟩
            simp [results, Try.results47, go_sem]
          have e1 : decide ((1 : Int) > lim) = false := decide_eq_false (by simp [fsz] at hbig; omega)
          have HFT2 : Hid (fits lim (out ++ [((j : Int), 0, v', (BT.nil : Fo))]) = true) := fits_snoc HFT.out hbig
          clear hbig
          go_wp2_with fail
          refine upon_method 125 (by kernel_rfl) (by kernel_rfl) ?_
          go_simp
          with_reducible refine (varTermT_any v' _).mono ?_
          rintro e w6 ⟨a6, c6, rfl, hb6, hl6⟩
          have hs6 := hb6.size
          have HB6 := Lib.hid hb6
          have HL6 := Lib.hid hl6
          have HBW6 := Lib.hid (HBW.out.trans (hb6.mono hws))
          have HOWN6 := Lib.hid (own_low hb6 HOWN.out)
          clear hb6 hl6
          go_wp2_with (at_builtin; refine wpList_append_lies _ rfl _ _ 27 rfl w.heap.size 47 ti _ 4 48 Try.underlying27 HTI.out.1 HTI.out.2.1 HTI.out.2.2.1 HTI.out.2.2.2 rfl (by omega) (.slice A' out.length C') out.length xs rfl (HOWN6.out.alloc _) ⟨w6.heap.size, 0, none⟩ 1 1 [.int .i64 (j : Int), .int .i64 0, .int .i64 v', .slice a6 (flen .nil) c6] rfl rfl (World.news_of_block (heap_alloc_new _ _)) (by simp [Value.oneCell']) (by omega) (by unfold maxLen; omega) (by omega) (by simp; omega) (w6.heap.size + 1) (by simp) ?_; intro g3 cap3 w3 hown3 hgrow3 hat3 hg3; have HX3 := Lib.hid (BOwnT.append (w0 := w) HOWN.out HALL.out HORD.out hown3 HB6.out HL6.out (by omega) hgrow3 hat3 HBW6.out (Nat.le_refl _)); clear hown3 hgrow3 hat3 hg3)
          have hl2' : (out ++ [((j : Int), 0, v', (BT.nil : Fo))]).length = out.length + 1 := by simp
          go_roundw
          case rel => exact ⟨j + 1, out ++ [((j : Int), 0, v', (BT.nil : Fo))], some ⟨g3, 0, none⟩, cap3, by rw [hl2'], by go_num, by omega, by rw [hl2']; omega, HLS, HFT2, HX3.out.1, HX3.out.2⟩
          case measure => simp [intOf]; omega
        · have HNS := Lib.hid hn2
          have hv0 : v' = 0 := ((okN_iff _ _ _).1 HO1.out).2.2 hs'
          subst hv0
          clear hn2
          go_wp2_with (at_lookup; refine wpList_lookup_own_ok (H := Value) _ rfl _ _ 70 rfl 102 66 law underM rdV (zeroE _) (.held .nilIface) [] rfl b n D rfl HOWNM.out (.int .i64 (j : Int)) (.int .i64 (j : Int)) rfl HKEY.out ?_; intro nv ps hnv; rw [hh]; obtain rfl : nv = (.iface 109 (.agg #[.int .i64 s', .slice a5 (flen k') c5])) := (by have := HAT.out; simp only [rdV, Option.some.injEq, Prod.mk.injEq] at hnv; rw [this] at hnv; exact DataW.held.inj hnv.1); clear hnv)
          refine upon_method 140 (by kernel_rfl) (by kernel_rfl) ?_
          go_simp
          with_reducible refine (symSize_any (fsz k') s' a5 c5 k' _ HNS.out (Nat.le_refl _) (by omega)).mono ?_
          rintro e w5 ⟨rfl, hb5⟩
          have hs5 := hb5.size
          have HNS5 := Lib.hid ((HNS.out.below hb5).mono (lo' := 0) (Nat.le_refl _) hs5)
          have HB5 := Lib.hid hb5
          clear hb5
          by_cases hbig : 1 + (fsz k' : Int) ≤ lim
          case neg =>
            have e1 : decide (1 + (fsz k' : Int) > lim) = true := decide_eq_true (by omega)
            have HF := Lib.hid (HNO.out (by omega))
            clear hbig
            go_wp2_with fail
            refine bodyPost_ret (v := .tuple #[.slice none 0 0, .bool false]) ?_ rfl ⟨HBW.out.trans (HB5.out.mono hws), .inr ⟨HF.out, rfl⟩⟩
            simp [results, Try.results47, go_sem]
          have e1 : decide (1 + (fsz k' : Int) > lim) = false := decide_eq_false (by omega)
          have HFT2 : Hid (fits lim (out ++ [((j : Int), s', 0, k')]) = true) := fits_snoc HFT.out hbig
          clear hbig
          go_wp2_with fail
          refine upon_method 141 (by kernel_rfl) (by kernel_rfl) ?_
          go_simp
          with_reducible refine (symTermT_any (fsz k') s' a5 c5 k' _ HNS5.out HO2.out (Nat.le_refl _) (by omega)).mono ?_
          rintro e w6 ⟨a6, c6, rfl, hb6, hl6⟩
          have hs6 := hb6.size
          have HB6 := Lib.hid (HB5.out.trans (hb6.mono hs5))
          have HL6 : Hid (TX w6 wr.heap.size w6.heap.size a6 k') := hl6.mono hs5 (Nat.le_refl _)
          have HBW6 := Lib.hid (HBW.out.trans (HB6.out.mono hws))
          have HOWN6 := Lib.hid (own_low HB6.out HOWN.out)
          clear hb6 hl6
          go_wp2_with (at_builtin; refine wpList_append_lies _ rfl _ _ 27 rfl w.heap.size 47 ti _ 4 48 Try.underlying27 HTI.out.1 HTI.out.2.1 HTI.out.2.2.1 HTI.out.2.2.2 rfl (by omega) (.slice A' out.length C') out.length xs rfl (HOWN6.out.alloc _) ⟨w6.heap.size, 0, none⟩ 1 1 [.int .i64 (j : Int), .int .i64 s', .int .i64 0, .slice a6 (flen k') c6] rfl rfl (World.news_of_block (heap_alloc_new _ _)) (by simp [Value.oneCell']) (by omega) (by unfold maxLen; omega) (by omega) (by simp; omega) (w6.heap.size + 1) (by simp) ?_; intro g3 cap3 w3 hown3 hgrow3 hat3 hg3; have HX3 := Lib.hid (BOwnT.append (w0 := w) HOWN.out HALL.out HORD.out hown3 HB6.out HL6.out (by omega) hgrow3 hat3 HBW6.out (Nat.le_refl _)); clear hown3 hgrow3 hat3 hg3)
          have hl2' : (out ++ [((j : Int), s', 0, k')]).length = out.length + 1 := by simp
          go_roundw
          case rel => exact ⟨j + 1, out ++ [((j : Int), s', 0, k')], some ⟨g3, 0, none⟩, cap3, by rw [hl2'], by go_num, by omega, by rw [hl2']; omega, HLS, HFT2, HX3.out.1, HX3.out.2⟩
          case measure => simp [intOf]; omega
    · have hje : j = 12 := by omega
      subst hje
      have HE : Hid (out = bs) := by rw [Hid, ← HLO.out]; exact HLA.out
      obtain rfl : out = bs := HE.out
      go_wp2_with fail
      refine bodyPost_ret (v := .tuple #[.slice A' out.length C', .bool true]) ?_ rfl ⟨HBW.out, .inl ⟨HFT.out, A', C', rfl, HO.out.bx⟩⟩
      simp [results, Try.results47, go_sem]
end Go.Proofs.Ytbiplmccmclbiaa

/-! PLiT: The program's TermPlain: its answers own their memory. -/
namespace Go.Proofs.Ytbiplmccmclbiaa
open Go.RowKit Go.Deep Go.Maps

def PlnPostT (s v : Int) (k : Fo) (w : World) (e : Ending) (w' : World) : Prop :=
  ∃ a c A C s' v' k' bs n, plR s v k = ((s', v', k'), bs) ∧ e = .returned (.tuple #[.agg #[.int .i64 s', .int .i64 v', .slice a (flen k') c], .slice A (List.length bs) C]) ∧ Below w.heap.size w w' ∧ BX w' w.heap.size n bs A ∧ TX w' n w'.heap.size a k' ∧ w.heap.size ≤ n ∧ n ≤ w'.heap.size
theorem pl_endT {w w1 : World} {s v s' v' : Int} {k k' : Fo} {a A : Option Addr} {c C n : Nat} {bs : List Bd} {o o' : Obj} (hr : plR s v k = ((s', v', k'), bs)) (hb : Below (w.heap.size + 2) ((w.alloc o).alloc o') w1) (hi : BX w1 (w.heap.size + 2) n bs A) (hl : TX w1 n w1.heap.size a k') (hn : w.heap.size + 2 ≤ n) (hn2 : n ≤ w1.heap.size) (x y z : Value) :
    PlnPostT s v k w (.returned (.tuple #[.agg #[.int .i64 s', .int .i64 v', .slice a (flen k') c], .slice A (List.length bs) C])) (((w1.setCell ⟨w.heap.size + 1, 0, none⟩ x).setCell ⟨w.heap.size + 1, 1, none⟩ y).setCell ⟨w.heap.size + 1, 2, none⟩ z) := by
  have h0 : Same (w.heap.size + 2) w1.heap.size w1 (((w1.setCell ⟨w.heap.size + 1, 0, none⟩ x).setCell ⟨w.heap.size + 1, 1, none⟩ y).setCell ⟨w.heap.size + 1, 2, none⟩ z) := ((Same.setCell (fun _ _ _ => rfl) (.inl (by simp)) _).setCell (.inl (by simp)) _).setCell (.inl (by simp)) _
  have hb' : Below w.heap.size w w1 := (((Below.refl _ _).alloc (Nat.le_refl _) o).alloc (by simp) o').trans (hb.mono (by omega))
  refine ⟨a, c, A, C, s', v', k', bs, n, hr, rfl, ((hb'.setCell (by simp) _).setCell (by simp) _).setCell (by simp) _, (hi.same (h0.mono (Nat.le_refl _) hn2)).mono (by omega) (Nat.le_refl _), ?_, by omega, by simpa using hn2⟩
  simpa using hl.same (h0.mono hn (Nat.le_refl _))

set_option maxRecDepth 100000 in
set_option maxHeartbeats 2000000 in
theorem iTermPlainT_any (s v : Int) (a : Option Addr) (c : Nat) (k : Fo) (w : World) (hl : Sl w 0 w.heap.size a k) :
    Calls Try.prog 17 #[.agg #[.int .i64 s, .int .i64 v, .slice a (flen k) c]] w (PlnPostT s v k w) := by
  have hb0 : Below w.heap.size w ((w.alloc (.cells #[.int .i64 s, .int .i64 v, .slice a (flen k) c] 25)).alloc (.cells #[.int .i64 0, .int .i64 0, .slice none 0 0] 25)) := ((Below.refl _ _).alloc (Nat.le_refl _) _).alloc (by simp) _
  have HL0 := Lib.hid (hl.next hb0)
  have HB0 : Hid (Below (w.heap.size + 2) ((w.alloc (.cells #[.int .i64 s, .int .i64 v, .slice a (flen k) c] 25)).alloc (.cells #[.int .i64 0, .int .i64 0, .slice none 0 0] 25)) ((w.alloc (.cells #[.int .i64 s, .int .i64 v, .slice a (flen k) c] 25)).alloc (.cells #[.int .i64 0, .int .i64 0, .slice none 0 0] 25))) := Below.refl _ _
  have hsz : w.heap.size + 2 ≤ ((w.alloc (.cells #[.int .i64 s, .int .i64 v, .slice a (flen k) c] 25)).alloc (.cells #[.int .i64 0, .int .i64 0, .slice none 0 0] 25)).heap.size := by simp
  clear hb0 hl
  go_enter Try.func17, Try.ntmps17
  go_wp2_with fail
  with_reducible refine (nodeOf_any s v a c k 16 _ HL0.out (by omega) (by omega)).mono ?_
  rintro e w1 ⟨nv, rfl, hb1, hyes⟩
  have hb1' := HB0.out.trans (hb1.mono hsz)
  have hs1 : w.heap.size + 2 ≤ w1.heap.size := Nat.le_trans hsz hb1.size
  have HB1 := Lib.hid hb1'
  have HY := Lib.hid hyes
  clear hb1 hyes HB0 hsz HL0
  cases hok : okW s v k 16 with
  | false =>
    obtain ⟨_, _, _, hr3, hr4, hr5⟩ := tb_cellsS hb1'
    obtain ⟨_, hf3⟩ := tb_freeS hb1' 0 rfl rfl
    obtain ⟨_, hf4⟩ := tb_freeS hb1' 1 rfl rfl
    obtain ⟨_, hf5⟩ := tb_freeS hb1' 2 rfl rfl
    have HR := Lib.hid (plR_bad hok)
    clear hok hb1'
    go_wp2_with fail
    refine bodyPost_ret (v := .tuple #[.agg #[.int .i64 0, .int .i64 0, .slice none 0 0], .slice none 0 0]) ?_ rfl (pl_endT (k' := .nil) (bs := []) (n := w1.heap.size) HR.out HB1.out (.inl rfl) ⟨.inl rfl, .inl rfl⟩ hs1 (Nat.le_refl _) _ _ _)
    simp [results, Try.results17, go_sem, hr3, hr4, hr5]
  | true =>
    have HOK := Lib.hid hok
    obtain ⟨o1, o2, o3⟩ := (okW_iff _ _ _ _).1 hok
    have HO1 := Lib.hid o1
    have HO2 := Lib.hid o2
    have HN1 : Hid (NodeIs w1 0 w1.heap.size nv s v k) := (HY.out hok).mono (Nat.zero_le _) (Nat.le_refl _)
    have HFI := Lib.hid (fvs_in hok)
    have HR := Lib.hid (plR_ok hok)
    clear hok o1 o2 hb1' HY
    go_wp2_with fail
    with_reducible refine (plainOf_any s v k nv _ HN1.out (by omega) HFI.out).mono ?_
    rintro e w2 ⟨b, rfl, hb2, hm2⟩
    have HB2 := Lib.hid (HB1.out.trans (hb2.mono hs1))
    have HN2 : Hid (NodeIs w2 0 w2.heap.size nv s v k) := (HN1.out.below hb2).mono (Nat.le_refl _) hb2.size
    have hs2 := hb2.size
    have HM2 := Lib.hid hm2.to
    clear hb2 hm2 HN1 HB1
    obtain ⟨i1, i2, i3, i4, i5⟩ := nms_in HOK.out
    have HBI := Lib.hid (bindsT_any (nms s v k) b 16 w2 HM2.out i1 (fun x hx => HFI.out x ((i3 x).1 hx)) ((nms_bof HOK.out).mono (by omega)))
    have HFIT := Lib.hid (fits_of i1 ((nms_bof HOK.out).mono (by omega)))
    clear i1 i2 i3 i4 i5
    go_wp2_with fail
    with_reducible refine HBI.out.mono ?_
    rintro e w3 ⟨hb3, hc3⟩
    rcases hc3 with ⟨_, A, C, rfl, ho⟩ | ⟨hno, _⟩
    case inr => rw [HFIT.out] at hno; cases hno
    have HB3 := Lib.hid (HB2.out.trans (hb3.mono (by omega)))
    have HN3 : Hid (NodeIs w3 0 w3.heap.size nv s v k) := (HN2.out.below hb3).mono (Nat.le_refl _) hb3.size
    have HM3 := Lib.hid (HM2.out.below hb3)
    have HS3 : Hid (BX w3 (w.heap.size + 2) w3.heap.size (nms s v k) A) := ho.mono (by omega) (Nat.le_refl _)
    have hs3 := hb3.size
    clear hb3 ho HN2 HM2 HB2 HBI HFIT
    go_wp2_with fail
    with_reducible refine (apply_any (nms s v k) b s v k nv _ HN3.out HM3.out HO1.out HO2.out (by omega)).mono ?_
    obtain ⟨t1, t2, t3⟩ := tsub_ok (nms_sok HOK.out) HOK.out
    have HT1 := Lib.hid t1
    have HT2 := Lib.hid t2
    clear t1 t2
    generalize htt : tsub (sv (nms s v k)) s v k = tt at *
    obtain ⟨s', v', k'⟩ := tt
    dsimp only at HT1 HT2 t3
    rintro e w4 ⟨nv', rfl, hb4, hn'⟩
    dsimp only at hn'
    have hs4 := hb4.size
    have HB4 := Lib.hid (HB3.out.trans (hb4.mono (by omega)))
    have HS4 : Hid (BX w4 (w.heap.size + 2) w3.heap.size (nms s v k) A) := HS3.out.same (Same.of_below hb4)
    clear hb4 HB3 HN3 HM3 HS3 htt
    rcases hn' with ⟨rfl, rfl, rfl⟩ | ⟨hs', a5, c5, rfl, hn2⟩
    · go_wp2_with fail
      refine upon_method 125 (by kernel_rfl) (by kernel_rfl) ?_
      go_simp
      with_reducible refine (varTermT_any v' _).mono ?_
      rintro e w6 ⟨a6, c6, rfl, hb6, hl6⟩
      have hs6 := hb6.size
      have hb6' := HB4.out.trans (hb6.mono (by omega))
      have HBE := Lib.hid hb6'
      have HSE : Hid (BX w6 (w.heap.size + 2) w3.heap.size (nms s v k) A) := HS4.out.same (Same.of_below (hb6.mono hs4))
      obtain ⟨_, _, _, hr3, hr4, hr5⟩ := tb_cellsS hb6'
      obtain ⟨_, hf3⟩ := tb_freeS hb6' 0 rfl rfl
      obtain ⟨_, hf4⟩ := tb_freeS hb6' 1 rfl rfl
      obtain ⟨_, hf5⟩ := tb_freeS hb6' 2 rfl rfl
      have HL6 := Lib.hid (hl6.mono (lo' := w3.heap.size) hs4 (Nat.le_refl _))
      clear hb6 hl6 hb6'
      go_wp2_with fail
      refine bodyPost_ret (v := .tuple #[.agg #[.int .i64 0, .int .i64 v', .slice a6 (flen .nil) c6], .slice A (nms s v k).length C]) ?_ rfl (pl_endT HR.out HBE.out HSE.out HL6.out (by omega) (by omega) _ _ _)
      simp [results, Try.results17, go_sem, hr3, hr4, hr5]
    · have hv0 : v' = 0 := ((okN_iff _ _ _).1 HT1.out).2.2 hs'
      subst hv0
      have HNS := Lib.hid hn2
      clear hn2
      go_wp2_with fail
      refine upon_method 141 (by kernel_rfl) (by kernel_rfl) ?_
      go_simp
      with_reducible refine (symTermT_any (fsz k') s' a5 c5 k' _ HNS.out HT2.out (Nat.le_refl _) (by omega)).mono ?_
      rintro e w6 ⟨a6, c6, rfl, hb6, hl6⟩
      have hs6 := hb6.size
      have hb6' := HB4.out.trans (hb6.mono (by omega))
      have HBE := Lib.hid hb6'
      have HSE : Hid (BX w6 (w.heap.size + 2) w3.heap.size (nms s v k) A) := HS4.out.same (Same.of_below (hb6.mono hs4))
      obtain ⟨_, _, _, hr3, hr4, hr5⟩ := tb_cellsS hb6'
      obtain ⟨_, hf3⟩ := tb_freeS hb6' 0 rfl rfl
      obtain ⟨_, hf4⟩ := tb_freeS hb6' 1 rfl rfl
      obtain ⟨_, hf5⟩ := tb_freeS hb6' 2 rfl rfl
      have HL6 := Lib.hid (hl6.mono (lo' := w3.heap.size) hs4 (Nat.le_refl _))
      clear hb6 hl6 hb6'
      go_wp2_with fail
      refine bodyPost_ret (v := .tuple #[.agg #[.int .i64 s', .int .i64 0, .slice a6 (flen k') c6], .slice A (nms s v k).length C]) ?_ rfl (pl_endT HR.out HBE.out HSE.out HL6.out (by omega) (by omega) _ _ _)
      simp [results, Try.results17, go_sem, hr3, hr4, hr5]
end Go.Proofs.Ytbiplmccmclbiaa

/-! PLs: The specification's l2Names and TermPlain. -/
namespace Go.Proofs.Ytbiplmccmclbiaa
open Go.RowKit Go.Deep

def LnPost (lo : Nat) (bs : List Bd) (s v : Int) (k : Fo) (w : World) (e : Ending) (w' : World) : Prop :=
  ∃ A C, e = .returned (.slice A (List.length (nmL bs (fvs s v k))) C) ∧ Below w.heap.size w w' ∧ BSl w' lo w'.heap.size A (nmL bs (fvs s v k))
/-- No term has kids. -/
def Nils (bs : List Bd) : Prop := ∀ x ∈ bs, x.2.2.2 = .nil
theorem nm1_nils {bs : List Bd} (x : Int) (h : Nils bs) : Nils (nm1 bs x) := by
  cases hs : sv bs x with
  | some t => rw [nm1_some hs]; exact h
  | none =>
    rw [nm1_none hs]
    intro y hy
    rcases ladd_mem.1 hy with rfl | hy
    · rfl
    · exact h y hy
theorem nmL_nils : ∀ (xs : List Int) (bs : List Bd), Nils bs → Nils (nmL bs xs)
  | [], _, h => h
  | x :: r, _, h => nmL_nils r _ (nm1_nils x h)
theorem BRow.bsl_lo {w wr : World} {base lo : Nat} {bs : List Bd} {A : Option Addr} {C : Nat} (h : BRow w base bs A C wr) (hn : Nils bs) (hlo : lo ≤ base) : BSl wr lo wr.heap.size A bs := by
  obtain ⟨xs, hown, hxl, hall⟩ := h.own
  rcases Nat.eq_zero_or_pos bs.length with h0 | h0
  · exact .inl (List.eq_nil_of_length_eq_zero h0)
  · obtain ⟨g, cap, hv, hb, hlt⟩ := hown.form h0
    have hA : A = some ⟨g, 0, none⟩ := by simp only [Value.slice.injEq] at hv; exact hv.1
    subst hA
    refine .inr ⟨g, 0, rfl, by omega, hlt, fun i x hx => ?_⟩
    have hi := (List.getElem?_eq_some_iff.1 hx).1
    obtain ⟨a', c', c0, c1, c2, c3, hl⟩ := hall i x hx
    refine ⟨a', c', ?_, ?_, ?_, ?_, .inl (hn x (List.mem_of_getElem? hx))⟩
    · rw [Nat.zero_add, hown.cellAt _ (by omega)]; exact c0
    · rw [Nat.zero_add, hown.cellAt _ (by omega)]; exact c1
    · rw [Nat.zero_add, hown.cellAt _ (by omega)]; exact c2
    · rw [Nat.zero_add, hown.cellAt _ (by omega)]; exact c3
theorem BSl.go {w w2 : World} {lo : Nat} {a : Option Addr} {bs : List Bd} (h : BSl w lo w.heap.size a bs) (hb : Below w.heap.size w w2) : BSl w2 lo w2.heap.size a bs := (h.below hb).mono (Nat.le_refl _) hb.size
theorem one_box {w wr : World} {x y z : Value} {T : TypeId} (h : Below (w.heap.size + 1) (w.alloc (.cells #[x, y, z] T)) wr) :
    wr.cell? ⟨w.heap.size, 0, none⟩ = some x ∧ wr.cell? ⟨w.heap.size, 1, none⟩ = some y ∧ wr.cell? ⟨w.heap.size, 2, none⟩ = some z := by
  refine ⟨?_, ?_, ?_⟩
  · rw [h.cell (by simp), World.cell?_alloc_at _ _ _ _ (by simp)]; rfl
  · rw [h.cell (by simp), World.cell?_alloc_at _ _ _ _ (by simp)]; rfl
  · rw [h.cell (by simp), World.cell?_alloc_at _ _ _ _ (by simp)]; rfl
theorem fvl_dropN {j x y : Nat} {s v : Int} {k kk : Fo} (h : fdrop j k = .node x y (s, v) kk (fdrop (j + 1) k)) : fvl (fdrop j k) = fvs s v kk ++ fvl (fdrop (j + 1) k) := by
  rw [h]; rfl

set_option maxRecDepth 100000 in
set_option maxHeartbeats 4000000 in
theorem l2Names_any (lo N : Nat) : ∀ (bs : List Bd) (A : Option Addr) (C : Nat) (s v : Int) (a : Option Addr) (c : Nat) (k : Fo) (w : World), BSl w lo w.heap.size A bs → Nils bs → lo ≤ w.heap.size → Sl w 0 w.heap.size a k → okN s v (flen k) = true → fok k = true → fsz k ≤ N → N ≤ 100 → bs.length + (1 + fsz k) ≤ 1000 →
    Calls Try.prog 43 #[.slice A bs.length C, .agg #[.int .i64 s, .int .i64 v, .slice a (flen k) c], .int .i64 0] w (LnPost lo bs s v k w) := by
  induction N using Nat.strongRecOn with
  | _ N ih =>
    intro bs A C s v a c k w hbs hnil hlo hl hok hfk hN hN2 hbl
    have hfl := flen_le_sz k
    have IH := Lib.hid ih
    have HFK := Lib.hid hfk
    have HOK := Lib.hid hok
    have HBS0 := Lib.hid hbs
    have hb0 : Below w.heap.size w (w.alloc (.cells #[.int .i64 s, .int .i64 v, .slice a (flen k) c] 25)) := (Below.refl _ _).alloc (Nat.le_refl _) _
    have HB0 := Lib.hid hb0
    have HBS := Lib.hid (hbs.go hb0)
    have HNIL := Lib.hid hnil
    have HSL := Lib.hid hl
    have HBX : Hid (Below (w.heap.size + 1) (w.alloc (.cells #[.int .i64 s, .int .i64 v, .slice a (flen k) c] 25)) (w.alloc (.cells #[.int .i64 s, .int .i64 v, .slice a (flen k) c] 25))) := Below.refl _ _
    clear ih hfk hok hbs hb0 hl hnil
    by_cases hs0 : s = 0
    · subst hs0
      have hk0 := kids_none HOK.out
      subst hk0
      have HFV : Hid (nmL bs (fvs 0 v .nil) = nm1 bs v) := rfl
      go_enter Try.func43, Try.ntmps43
      go_wp2_with fail
      go_loopw [7] (fun i wr => ∃ j : Nat, i = .int .i64 j ∧ j ≤ bs.length ∧ Hid (sv bs v = sv (bs.drop j) v) ∧ Hid (Below (w.heap.size + 1) (w.alloc (.cells #[.int .i64 0, .int .i64 v, .slice a (flen .nil) c] 25)) wr)) (fun i _ => bs.length - (intOf i).toNat)
      case atStart => exact ⟨0, rfl, Nat.zero_le _, by simp [Hid], HBX⟩
      case round =>
        clear HBX
        obtain ⟨j, rfl, hj, HS, HBL⟩ := hrel
        have hsr := HBL.out.size
        simp at hsr
        obtain ⟨hx0, hx1, hx2⟩ := one_box HBL.out
        have HBW := Lib.hid (HB0.out.trans (HBL.out.mono (show w.heap.size ≤ w.heap.size + 1 by omega)))
        by_cases hlt : j < bs.length
        · obtain ⟨y, hy⟩ : ∃ y, bs[j]? = some y := ⟨bs[j], List.getElem?_eq_getElem hlt⟩
          obtain ⟨yx, ys, yv, yk⟩ := y
          have hbr := HBS0.out.next HBW.out
          rcases hbr with hbr | ⟨rb, ro, rfl, _, hbB, hcells⟩
          · subst hbr; simp at hy
          obtain ⟨ya, yc, d0, _, _, _, _⟩ := hcells j _ hy
          dsimp only at d0
          have HD := Lib.hid (drop_bd hy)
          have g1 : (0 : Int) ≤ (j : Int) := by omega
          have g2 : (j : Int) < (bs.length : Int) := by omega
          clear hcells hy
          have hu0 : ∀ u : After wr.heap.size wr, u.world.cell? ⟨rb, ro + j * 4, none⟩ = some (.int .i64 yx) := fun u => cell_low u.below d0
          have hu1 : ∀ u : After wr.heap.size wr, u.world.cell? ⟨w.heap.size, 1, none⟩ = some (.int .i64 v) := fun u => cell_low u.below hx1
          by_cases hx : yx = v
          · subst hx
            have hxe : (yx == yx) = true := by simp
            have HT : Hid (sv bs yx = some (ys, yv, yk)) := by rw [Hid, HS.out, HD.out]; simp only [sv]; rw [if_pos trivial]
            clear HS HD
            go_wp2_with fail
            refine wp_region_after wr.heap.size (by kernel_rfl) (by kernel_rfl) ?_
            repeat (go_big_quiet_step (fail))
            refine wpQuiet_nil ?_
            rintro wq ⟨⟨_, hu⟩, rfl⟩
            have HP : Hid (LnPost lo bs 0 yx .nil w (.returned (.slice (some ⟨rb, ro, none⟩) bs.length C)) wq) := by
              have h1 := below_next HBW.out hu
              refine ⟨some ⟨rb, ro, none⟩, C, ?_, h1, ?_⟩
              · rw [HFV.out, nm1_some HT.out]
              · rw [HFV.out, nm1_some HT.out]; exact HBS0.out.go h1
            clear hu hu0 hu1 d0 hx0 hx1 hx2
            go_wp2_with fail
            go_ret
            exact HP.out
          · have hxe : (yx == v) = false := by simpa using hx
            have HN : Hid (sv bs v = sv (bs.drop (j + 1)) v) := by rw [Hid, HS.out, HD.out]; simp only [sv]; rw [if_neg hx]
            clear HS HD
            go_wp2_with fail
            refine wp_region_after wr.heap.size (by kernel_rfl) (by kernel_rfl) ?_
            repeat (go_big_quiet_step (fail))
            refine wpQuiet_nil ?_
            rintro wq ⟨⟨_, hu⟩, rfl⟩
            have HBL2 := Lib.hid (HBL.out.trans (hu.mono hsr))
            clear hu hu0 hu1 d0 hx0 hx1 hx2
            go_wp2_with fail
            go_roundw
            case rel => exact ⟨j + 1, by go_num, by omega, HN, HBL2⟩
            case measure => simp [intOf]; omega
        · have HT : Hid (sv bs v = none) := by rw [Hid, HS.out, List.drop_eq_nil_of_le (by omega)]; rfl
          have HC : Hid (Calls Try.prog 71 #[.slice A bs.length C, .agg #[.int .i64 v, .int .i64 0, .int .i64 (bs.length : Int), .slice none 0 0]] wr (AddPost bs (v, 0, (bs.length : Int), .nil) wr)) := l2Add_any bs A C v 0 (bs.length : Int) none 0 .nil _ (HBS0.out.next HBW.out) (by omega) (.inl rfl)
          clear HS
          go_wp2_with fail
          with_reducible refine HC.out.mono ?_
          rintro e w3 ⟨A3, C3, rfl, hrow⟩
          have HP : Hid (LnPost lo bs 0 v .nil w (.returned (.slice A3 (ladd bs (v, 0, (bs.length : Int), .nil)).length C3)) w3) := by
            refine ⟨A3, C3, ?_, below_next HBW.out hrow.low, ?_⟩
            · rw [HFV.out, nm1_none HT.out]
            · rw [HFV.out, nm1_none HT.out]; exact hrow.bsl_lo (by have := nm1_nils v HNIL.out; rw [nm1_none HT.out] at this; exact this) (by omega)
          clear hrow hx0 hx1 hx2
          go_wp2_with fail
          go_ret
          exact HP.out
    · have hse : (s == 0) = false := by simpa using hs0
      have HFV : Hid (fvs s v k = fvl k) := by unfold Hid fvs; rw [if_neg hs0]
      go_enter Try.func43, Try.ntmps43
      go_wp2_with fail
      go_loopw [0, 8] (fun o i wr => ∃ (j : Nat) (b1 : List Bd) (A1 : Option Addr) (C1 : Nat), o = .slice A1 b1.length C1 ∧ i = .int .i64 j ∧ j ≤ flen k ∧ Hid (nmL bs (fvl k) = nmL b1 (fvl (fdrop j k))) ∧ Hid (b1.length + fsz (fdrop j k) ≤ bs.length + fsz k) ∧ Hid (Nils b1) ∧ Hid (BSl wr lo wr.heap.size A1 b1) ∧ Hid (Below (w.heap.size + 1) (w.alloc (.cells #[.int .i64 s, .int .i64 v, .slice a (flen k) c] 25)) wr)) (fun _ i _ => flen k - (intOf i).toNat)
      case atStart => exact ⟨0, bs, A, C, rfl, rfl, Nat.zero_le _, rfl, Nat.le_refl _, HNIL, HBS, HBX⟩
      case round =>
        clear HBX HBS HNIL
        obtain ⟨j, b1, A1, C1, rfl, rfl, hj, HF, HLN, HNIL, HBS, HBL⟩ := hrel
        have hsr := HBL.out.size
        simp at hsr
        obtain ⟨hx0, hx1, hx2⟩ := one_box HBL.out
        have HBW := Lib.hid (HB0.out.trans (HBL.out.mono (show w.heap.size ≤ w.heap.size + 1 by omega)))
        by_cases hlt : j < flen k
        · have hnr := HSL.out.next HBW.out
          rcases hnr with rfl | ⟨b, o, rfl, hrow⟩
          · simp [flen] at hlt
          obtain ⟨s1, v1, k1, a1, c1, ⟨x, y, hd⟩, _, hbB, q0, q1, q2, hsl⟩ := row_at hrow hlt
          have hk1 := fok_kid HFK.out hd
          have z1 := fsz_kid hd
          have HST := Lib.hid (fvl_dropN hd)
          have hzd := fsz_dropN hd
          have hl1 := HLN.out
          have HZ : Hid (b1.length + (1 + fsz k1) + fsz (fdrop (j + 1) k) ≤ bs.length + fsz k) := by show _ ≤ _; omega
          have HCALL := Lib.hid (IH.out (fsz k1) (by omega) b1 A1 C1 s1 v1 a1 c1 k1 wr HBS.out HNIL.out (by omega) hsl hk1.1 hk1.2 (Nat.le_refl _) (by omega) (by omega))
          have g1 : (0 : Int) ≤ (j : Int) := by omega
          have g2 : (j : Int) < (flen k : Int) := by omega
          clear hd hk1 hrow hzd hl1 hsl
          go_wp2_with fail
          with_reducible refine HCALL.out.mono ?_
          rintro e w2 ⟨A2, C2, rfl, hb2, hs2⟩
          have HF2 : Hid (nmL bs (fvl k) = nmL (nmL b1 (fvs s1 v1 k1)) (fvl (fdrop (j + 1) k))) := by rw [Hid, HF.out, HST.out, nmL_app]
          have HL5 : Hid ((nmL b1 (fvs s1 v1 k1)).length + fsz (fdrop (j + 1) k) ≤ bs.length + fsz k) := by have h1 := (nmL_len (fvs s1 v1 k1) b1).2; have h2 := HZ.out; have h3 := fvs_sz s1 v1 k1; show _ ≤ _; omega
          have HBL2 := Lib.hid (HBL.out.trans (hb2.mono hsr))
          have HS2 := Lib.hid hs2
          have HN5 := Lib.hid (nmL_nils (fvs s1 v1 k1) b1 HNIL.out)
          clear hb2 hs2 HCALL q0 q1 q2 hx0 hx1 hx2
          go_wp2_with fail
          go_roundw
          case rel => exact ⟨j + 1, _, A2, C2, rfl, by go_num, by omega, HF2, HL5, HN5, HS2, HBL2⟩
          case measure => simp [intOf]; omega
        · have HE : Hid (b1 = nmL bs (fvs s v k)) := by rw [Hid, HFV.out, HF.out, fdrop_all (by omega)]; rfl
          have HP : Hid (LnPost lo bs s v k w (.returned (.slice A1 b1.length C1)) wr) := by
            refine ⟨A1, C1, ?_, HBW.out, ?_⟩
            · rw [← HE.out]
            · rw [← HE.out]; exact HBS.out
          go_wp2_with fail
          go_ret
          exact HP.out

set_option maxRecDepth 100000 in
set_option maxHeartbeats 2000000 in
theorem sTermPlain_any (s v : Int) (a : Option Addr) (c : Nat) (k : Fo) (w : World) (hl : Sl w 0 w.heap.size a k) :
    Calls Try.prog 16 #[.agg #[.int .i64 s, .int .i64 v, .slice a (flen k) c]] w (PlnPost s v k w) := by
  have hb0 : Below w.heap.size w ((w.alloc (.cells #[.int .i64 s, .int .i64 v, .slice a (flen k) c] 25)).alloc (.cells #[.int .i64 0, .int .i64 0, .slice none 0 0] 25)) := ((Below.refl _ _).alloc (Nat.le_refl _) _).alloc (by simp) _
  have HL0 := Lib.hid (hl.next hb0)
  have HB0 : Hid (Below (w.heap.size + 2) ((w.alloc (.cells #[.int .i64 s, .int .i64 v, .slice a (flen k) c] 25)).alloc (.cells #[.int .i64 0, .int .i64 0, .slice none 0 0] 25)) ((w.alloc (.cells #[.int .i64 s, .int .i64 v, .slice a (flen k) c] 25)).alloc (.cells #[.int .i64 0, .int .i64 0, .slice none 0 0] 25))) := Below.refl _ _
  have hsz : w.heap.size + 2 ≤ ((w.alloc (.cells #[.int .i64 s, .int .i64 v, .slice a (flen k) c] 25)).alloc (.cells #[.int .i64 0, .int .i64 0, .slice none 0 0] 25)).heap.size := by simp
  clear hb0 hl
  go_enter Try.func16, Try.ntmps16
  go_wp2_with fail
  with_reducible refine (sTermOk_any s v a c k _ HL0.out).mono ?_
  rintro e w1 ⟨rfl, hb1⟩
  have hb1' := HB0.out.trans (hb1.mono hsz)
  have hs1 : w.heap.size + 2 ≤ w1.heap.size := Nat.le_trans hsz hb1.size
  have hbm : Below w1.heap.size w1 (w1.alloc (.cells #[] 47)) := (Below.refl _ _).alloc (Nat.le_refl _) _
  have hb2' := hb1'.trans (hbm.mono hs1)
  have HB2 := Lib.hid hb2'
  have HL2 := Lib.hid ((HL0.out.next hb1).next hbm)
  obtain ⟨hr0, hr1, hr2, hr3, hr4, hr5⟩ := tb_cellsS hb2'
  obtain ⟨_, hf3⟩ := tb_freeS hb2' 0 rfl rfl
  obtain ⟨_, hf4⟩ := tb_freeS hb2' 1 rfl rfl
  obtain ⟨_, hf5⟩ := tb_freeS hb2' 2 rfl rfl
  clear hb1 HB0 hsz HL0 hb1' hbm hb2'
  cases hok : okW s v k 16 with
  | false =>
    have HR := Lib.hid (plR_bad hok)
    clear hok
    go_wp2_with fail
    refine bodyPost_ret (v := .tuple #[.agg #[.int .i64 0, .int .i64 0, .slice none 0 0], .slice (some ⟨w1.heap.size, 0, none⟩) 0 0]) ?_ rfl (pl_end (k' := .nil) (bs := []) HR.out HB2.out (.inl rfl) (.inl rfl) _ _ _)
    simp [results, Try.results16, go_sem, hr3, hr4, hr5]
  | true =>
    have HOK := Lib.hid hok
    obtain ⟨o1, o2, o3⟩ := (okW_iff _ _ _ _).1 hok
    have HO1 := Lib.hid o1
    have HO2 := Lib.hid o2
    have HR := Lib.hid (plR_ok hok)
    have HC : Hid (Calls Try.prog 43 #[.slice (some ⟨w1.heap.size, 0, none⟩) 0 0, .agg #[.int .i64 s, .int .i64 v, .slice a (flen k) c], .int .i64 0] (w1.alloc (.cells #[] 47)) (fun e w' => ∃ A C, e = .returned (.slice A (List.length (nms s v k)) C) ∧ Below (w1.alloc (.cells #[] 47)).heap.size (w1.alloc (.cells #[] 47)) w' ∧ BSl w' (w.heap.size + 2) w'.heap.size A (nms s v k))) := l2Names_any (w.heap.size + 2) (fsz k) [] (some ⟨w1.heap.size, 0, none⟩) 0 s v a c k _ (.inl rfl) (fun _ h => by cases h) (by simp; omega) HL2.out o1 o2 (Nat.le_refl _) (by omega) (by simp; omega)
    clear hok o1 o2 hr3 hr4 hr5 hf3 hf4 hf5
    go_wp2_with fail
    with_reducible refine HC.out.mono ?_
    rintro e w3 ⟨A, C, rfl, hb3, hs3⟩
    have hs3' := hb3.size
    simp at hs3'
    have HB3 := Lib.hid (HB2.out.trans (hb3.mono (by simp; omega)))
    have HS3 : Hid (BSl w3 (w.heap.size + 2) w3.heap.size A (nms s v k)) := hs3
    have HL3 := Lib.hid (HL2.out.next hb3)
    obtain ⟨i1, i2, i3, i4, i5⟩ := nms_in HOK.out
    have HZ : Hid (∀ x t, sv (nms s v k) x = some t → fsz t.2.2 ≤ 1000000) := fun x t ht => by have := (nms_bof HOK.out x t ht).2.2; omega
    obtain ⟨hq0, hq1, hq2, _, _, _⟩ := tb_cellsS HB3.out
    have HPC := Lib.hid (l2Put_any (nms s v k) A C (by omega) HZ.out (fsz k) s v a c k w3 (HS3.out.mono (Nat.zero_le _) (Nat.le_refl _)) HL3.out HO1.out HO2.out (Nat.le_refl _) (by omega))
    clear hb3 hs3 hr0 hr1 hr2 HC i1 i2 i3 i4 i5
    go_wp2_with fail
    with_reducible refine HPC.out.mono ?_
    generalize htt : tsub (sv (nms s v k)) s v k = tt at *
    obtain ⟨s', v', k'⟩ := tt
    rintro e w4 ⟨a4, c4, rfl, hb4, ho4⟩
    dsimp only at ho4
    have hs4 := hb4.size
    have hb4' := HB3.out.trans (hb4.mono (by omega))
    have HBE := Lib.hid hb4'
    obtain ⟨_, _, _, hr3, hr4, hr5⟩ := tb_cellsS hb4'
    obtain ⟨_, hf3⟩ := tb_freeS hb4' 0 rfl rfl
    obtain ⟨_, hf4⟩ := tb_freeS hb4' 1 rfl rfl
    obtain ⟨_, hf5⟩ := tb_freeS hb4' 2 rfl rfl
    have HL4 : Hid (Sl w4 (w.heap.size + 2) w4.heap.size a4 k') := ho4.sl.mono (by omega) (Nat.le_refl _)
    have HS4 := Lib.hid (HS3.out.go hb4)
    clear hb4 hb4' ho4 hq0 hq1 hq2 HPC htt
    go_wp2_with fail
    refine bodyPost_ret (v := .tuple #[.agg #[.int .i64 s', .int .i64 v', .slice a4 (flen k') c4], .slice A (nms s v k).length C]) ?_ rfl (pl_end HR.out HBE.out HL4.out HS4.out _ _ _)
    simp [results, Try.results16, go_sem, hr3, hr4, hr5]
end Go.Proofs.Ytbiplmccmclbiaa

/-! XO0: Small lemmas of the exact laws. -/
namespace Go.Proofs.Ytbiplmccmclbiaa
open Go.RowKit Go.Deep

theorem szR_fit {k : Fo} (h : 0 ≤ szR k 1048576) : fsz k ≤ 1048576 := by
  unfold szR at h
  split at h
  · omega
  · omega
theorem cell_lowX {W w2 : World} {q : Addr} {x : Value} (hb : Below W.heap.size W w2) (h : W.cell? q = some x) : w2.cell? q = some x := by
  rw [hb.cell (World.block_lt_of_cell? _ _ h)]; exact h
end Go.Proofs.Ytbiplmccmclbiaa
