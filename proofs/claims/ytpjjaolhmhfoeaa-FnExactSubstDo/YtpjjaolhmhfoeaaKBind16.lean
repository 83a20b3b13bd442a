/- Several texts in one: S8, C2, C3, SOk, SP1, SP3. -/
import Derived.Test.YtpjjaolhmhfoeaaKBind13
import Derived.Test.YtpjjaolhmhfoeaaKBind10
import Derived.Lib.SliceRun
import Derived.Deep.RegionHeld3
import Derived.Test.YtpjjaolhmhfoeaaKBind15
import Derived.Test.YtpjjaolhmhfoeaaKBind9

/-! S8: l71Subst, DrawSubstDo. -/
namespace Go.Proofs.Ytpjjaolhmhfoeaa
open Go.RowKit Go.Deep

def SbPost (br p : Nat) (w : World) (e : Ending) (w' : World) : Prop :=
  ∃ bs A C p', e = .returned (.slice A (List.length bs) C) ∧ bs.length ≤ 20 ∧ p ≤ p' ∧ p' ≤ p + 3000 ∧ Adv w br p' w' ∧ BOwn w' w.heap.size bs A C

set_option maxRecDepth 100000 in
set_option maxHeartbeats 2000000 in
theorem l71Subst_any (vn br p : Nat) (w : World) (hr : Rd w br p) (hp : p ≤ 10000000) (hv1 : 1 ≤ vn) (hv2 : vn ≤ 10) :
    Calls Try.prog 29 #[.pointer (some ⟨br, 0, none⟩), .int .i64 (vn : Int)] w (SbPost br p w) := by
  have hlt := hr.lt
  obtain ⟨ti, hti, htz, hts, htb⟩ := Try.infoBind
  have HTI : Hid (Try.prog.info? 64 = some ti ∧ ti.zero = some (.agg #[.int .i64 0, .int .i64 0, .int .i64 0, .slice none 0 0]) ∧ ti.size = 4 ∧ ti.bytes = 48) := ⟨hti, htz, hts, htb⟩
  have HA0 : Hid (Adv w br p (w.alloc (.cells #[] 64))) := Adv.start hr ((Below.refl _ _).alloc (Nat.le_refl _) _)
  have HO0 : Hid (BOwn (w.alloc (.cells #[] 64)) w.heap.size [] (some ⟨w.heap.size, 0, none⟩) 0) := ⟨[], ⟨rfl, .inr ⟨w.heap.size, 0, #[], rfl, Nat.le_refl _, heap_alloc_new _ _, Nat.le_refl _, by decide, rfl, rfl⟩⟩, fun i x hx => by simp at hx⟩
  have HR := Lib.hid hr
  have hpk : pkN 3 ≤ 100 := by decide
  have hsk : szN 3 ≤ 500 := by decide
  clear hr hti htz hts htb
  go_enter Try.func29, Try.ntmps29
  go_wp2_with fail
  go_loopw [5, 6] (fun t i wr => ∃ (n : Nat) (bs : List Bd) (A : Option Addr) (C p' : Nat), t = .slice A bs.length C ∧ i = .int .i64 n ∧ n ≤ vn ∧ bs.length ≤ n ∧ Hid (BOwn wr w.heap.size bs A C) ∧ Hid (Adv w br p' wr) ∧ p ≤ p' ∧ p' ≤ p + n * 101 ∧ Hid (∀ (i : Nat) (x : Bd), bs[i]? = some x → 1 + fsz x.2.2.2 ≤ 500)) (fun _ i _ => vn - (intOf i).toNat)
  case atStart => exact ⟨0, [], _, _, p, rfl, rfl, Nat.zero_le _, Nat.le_refl _, HO0, HA0, Nat.le_refl _, by omega, fun i x hx => by simp at hx⟩
  case round =>
    clear HO0 HA0
    obtain ⟨n, bs, A, C, p', rfl, rfl, hn, hbl, HO, HA, hp1, hp2, HSZ⟩ := hrel
    by_cases hnv : n < vn
    · have g1 : (n : Int) < (vn : Int) := by omega
      go_wp2_with fail
      with_reducible refine (pick_any 3 br p' _ (HA.out.rd HR.out) (by omega) (by omega) (by omega)).mono ?_
      rintro e w1 ⟨y, rfl, hy, hb1⟩
      have ha1 : Adv wr br (p' + 1) w1 := hb1
      have HA1 := Lib.hid (HA.out.trans ha1)
      have HO1 := Lib.hid (HO.out.adv ha1 hlt)
      clear hb1 ha1 hy HO HA
      by_cases hy0 : y = 0
      · subst hy0
        go_wp2_with fail
        go_roundw
        case rel => exact ⟨n + 1, bs, A, C, p' + 1, rfl, by go_num, by omega, by omega, HO1, HA1, by omega, by omega, HSZ⟩
        case measure => simp [intOf]; omega
      · have y0 : (0 : Int) < (y : Int) := by omega
        go_wp2_with fail
        with_reducible refine (l71Term_any 3 3 (vn : Int) br (p' + 1) _ (by omega) (by omega) (by omega) (by omega) (by omega) (HA1.out.rd HR.out) (by omega)).mono ?_
        rintro e w2 ⟨s, v, a2, c2, k, p2, rfl, hpp1, hpp2, hS2, ha2, hl2⟩
        obtain ⟨xs, hown, hall⟩ := HO1.out
        have hs1 := HA1.out.size
        have hs2 := ha2.size
        have HOWN2 : Hid (w2.ownsRow w.heap.size 64 4 (.slice A bs.length C) bs.length xs) := own_block hown fun g hg => by
          have h1 := hown.lt g hg
          exact ha2.same (lo := g) (B := g + 1) (by omega) (by omega) g (Nat.le_refl _) (by omega)
        have HAP := Lib.hid (fun g cap w3 => BOwn.append (w0 := w) (w2 := w2) (br := br) (p := p2) (k := k) (a2 := a2) (x := (n : Int)) (g := g) (cap := cap) (w3 := w3) (blk := .cells #[.int .i64 (n : Int), .int .i64 s, .int .i64 v, .slice a2 (flen k) c2] 64) (s := s) (v := v) (c2 := c2) hown hall)
        have HA2 := Lib.hid ha2
        have HL2 := Lib.hid hl2
        have HA02 := Lib.hid (HA1.out.trans ha2)
        clear hown hall ha2 hl2 HO1
        go_wp2_with (at_builtin; refine wpList_append_lies _ rfl _ _ 23 rfl w.heap.size 64 ti _ 4 48 Try.underlying23 HTI.out.1 HTI.out.2.1 HTI.out.2.2.1 HTI.out.2.2.2 rfl (by omega) (.slice A bs.length C) bs.length xs rfl (HOWN2.out.alloc _) ⟨w2.heap.size, 0, none⟩ 1 1 [.int .i64 (n : Int), .int .i64 s, .int .i64 v, .slice a2 (flen k) c2] rfl rfl (World.news_of_block (heap_alloc_new _ _)) (by simp [Value.oneCell']) (by omega) (by unfold maxLen; omega) (by omega) (by simp; omega) (w2.heap.size + 1) (by simp) ?_; intro g cap w3 hown3 hgrow3 hat3 hg3; have HX3 := Lib.hid (HAP.out g cap w3 hown3 HA2.out hlt HL2.out hs1 hgrow3 hat3 HA02.out (Nat.le_refl _)); clear hown3 hgrow3 hat3 hg3)
        go_roundw
        case rel =>
          have hl2' : (bs ++ [((n : Int), s, v, k)]).length = bs.length + 1 := by simp
          refine ⟨n + 1, bs ++ [((n : Int), s, v, k)], some ⟨g, 0, none⟩, cap, p2, by rw [hl2'], by go_num, by omega, by omega, HX3.out.1, HX3.out.2, by omega, by omega, ?_⟩
          intro i x hx
          by_cases hi : i < bs.length
          · rw [List.getElem?_append_left hi] at hx; exact HSZ.out i x hx
          · have hi' : i = bs.length := by have := (List.getElem?_eq_some_iff.1 hx).1; omega
            subst hi'
            simp at hx
            subst hx
            show 1 + fsz k ≤ 500
            omega
        case measure => simp [intOf]; omega
    · go_wp2_with fail
      with_reducible refine (pick_any 24 br p' _ (HA.out.rd HR.out) (by omega) (by omega) (by omega)).mono ?_
      rintro e w1 ⟨y, rfl, hy, hb1⟩
      have ha1 : Adv wr br (p' + 1) w1 := hb1
      have HA1 := Lib.hid (HA.out.trans ha1)
      have HO1 := Lib.hid (HO.out.adv ha1 hlt)
      clear hb1 ha1 hy HO HA
      by_cases hy0 : y = 0
      · subst hy0
        go_wp2_with fail
        with_reducible refine (pick_any 14 br (p' + 1) _ (HA1.out.rd HR.out) (by omega) (by omega) (by omega)).mono ?_
        rintro e w2 ⟨z, rfl, hz, hb2⟩
        have ha2 : Adv w1 br (p' + 1 + 1) w2 := hb2
        have HA2 := Lib.hid (HA1.out.trans ha2)
        have HO2 := Lib.hid (HO1.out.adv ha2 hlt)
        have hz14 : z < 14 := by omega
        clear hb2 ha2 hz HO1 HA1
        go_wp2_with fail
        with_reducible refine (l71Of_any 1 none 0 0 _).mono ?_
        rintro e w3 ⟨rfl, hb3⟩
        have ha3 : Adv w2 br (p' + 1 + 1) w3 := Adv.start (HA2.out.rd HR.out) hb3
        obtain ⟨xs, hown, hall⟩ := HO2.out
        have hs2 := HA2.out.size
        have hs3 := ha3.size
        have HOWN2 : Hid (w3.ownsRow w.heap.size 64 4 (.slice A bs.length C) bs.length xs) := own_block hown fun g hg => by
          have h1 := hown.lt g hg
          exact ha3.same (lo := g) (B := g + 1) (by omega) (by omega) g (Nat.le_refl _) (by omega)
        have HAP := Lib.hid (fun g cap w4 => BOwn.append (w0 := w) (w2 := w3) (br := br) (p := p' + 1 + 1) (x := (z : Int) - 1) (g := g) (cap := cap) (w3 := w4) (blk := .cells #[.int .i64 ((z : Int) - 1), .int .i64 1, .int .i64 0, .slice none 0 0] 64) (s := 1) (v := 0) (k := .nil) (a2 := none) (c2 := 0) hown hall)
        have HA3 := Lib.hid ha3
        have HA03 := Lib.hid (HA2.out.trans ha3)
        clear hown hall ha3 hb3 HO2
        go_wp2_with (at_builtin; refine wpList_append_lies _ rfl _ _ 23 rfl w.heap.size 64 ti _ 4 48 Try.underlying23 HTI.out.1 HTI.out.2.1 HTI.out.2.2.1 HTI.out.2.2.2 rfl (by omega) (.slice A bs.length C) bs.length xs rfl (HOWN2.out.alloc _) ⟨w3.heap.size, 0, none⟩ 1 1 [.int .i64 ((z : Int) - 1), .int .i64 1, .int .i64 0, .slice none 0 0] rfl rfl (World.news_of_block (heap_alloc_new _ _)) (by simp [Value.oneCell']) (by omega) (by unfold maxLen; omega) (by omega) (by simp; omega) (w3.heap.size + 1) (by simp) ?_; intro g cap w4 hown4 hgrow4 hat4 hg4; have HX4 := Lib.hid (HAP.out g cap w4 hown4 HA3.out hlt (.inl rfl) hs2 hgrow4 hat4 HA03.out (Nat.le_refl _)); clear hown4 hgrow4 hat4 hg4)
        go_ret
        have hl2' : (bs ++ [((z : Int) - 1, (1 : Int), (0 : Int), (.nil : Fo))]).length = bs.length + 1 := by simp
        exact ⟨_, some ⟨g, 0, none⟩, cap, p' + 1 + 1, by rw [hl2']; rfl, by omega, by omega, by omega, HX4.out.2, HX4.out.1⟩
      have y0 : ((y : Int) == 0) = false := by simpa using hy0
      by_cases hy1 : y = 1
      · subst hy1
        cases bs with
        | nil =>
          go_wp2_with fail
          go_ret
          exact ⟨[], A, C, p' + 1, rfl, by simp, by omega, by omega, HA1.out, HO1.out⟩
        | cons x r =>
          obtain ⟨xv, s, v, k⟩ := x
          have hpos : (0 : Int) < ((((xv, s, v, k) : Bd) :: r).length : Int) := by simp
          obtain ⟨g, hAE, hg1, hg2⟩ : ∃ g, A = some ⟨g, 0, none⟩ ∧ w.heap.size ≤ g ∧ g < w1.heap.size := by
            obtain ⟨xs, hown, _⟩ := HO1.out
            obtain ⟨g, cap, hv, hb, hlt2⟩ := hown.form (by simp)
            simp only [Value.slice.injEq] at hv
            obtain ⟨rfl, _⟩ := hv
            exact ⟨g, rfl, hb, hlt2⟩
          subst hAE
          have hcells : ∀ {w' : World}, BOwn w' w.heap.size ((xv, s, v, k) :: r) (some ⟨g, 0, none⟩) C → ∃ a' c', w'.cell? ⟨g, 1, none⟩ = some (.int .i64 s) ∧ w'.cell? ⟨g, 2, none⟩ = some (.int .i64 v) ∧ w'.cell? ⟨g, 3, none⟩ = some (.slice a' (flen k) c') ∧ Sl w' 0 w'.heap.size a' k := fun {w'} h => by
            rcases h.bsl with h | ⟨g', o, hA, hb, hlt', hrow⟩
            · cases h
            · cases hA
              obtain ⟨a', c', _, d1, d2, d3, hl⟩ := hrow 0 _ rfl
              exact ⟨a', c', d1, d2, d3, hl.mono (Nat.zero_le _) (Nat.le_refl _)⟩
          obtain ⟨a', c', hc1, hc2, hc3, hsl⟩ := hcells HO1.out
          have hsk2 := HSZ.out 0 _ rfl
          simp only at hsk2
          go_wp2_with fail
          with_reducible refine (l71Bad_any s v a' c' k br (p' + 1) 500 _ hsl (HA1.out.rd HR.out) (by omega) (by omega) (by omega)).mono ?_
          rintro e w2 ⟨s2, v2, a2, c2, k2, p2, rfl, hq1, hq2, hS2, ha2, hl2⟩
          clear hc1 hc2 hc3 hsl
          have HS0 := Lib.hid (HO1.out.set0 (s' := s2) (v' := v2) (c2 := c2) ha2 hlt hl2)
          have HA2 := Lib.hid (HA1.out.trans ha2)
          obtain ⟨a'', c'', hc1, hc2, hc3, _⟩ := hcells (HO1.out.adv ha2 hlt)
          have hf1 : w2.frozen? ⟨g, 1, none⟩ = false := by obtain ⟨xs, hown, _⟩ := HO1.out.adv ha2 hlt; exact hown.frozenAt 1
          have hf2 : (w2.setCell ⟨g, 1, none⟩ (.int .i64 s2)).frozen? ⟨g, 2, none⟩ = false := by obtain ⟨xs, hown, _⟩ := HO1.out.adv ha2 hlt; exact (hown.stored 1 _).1.frozenAt 2
          have hf3 : ((w2.setCell ⟨g, 1, none⟩ (.int .i64 s2)).setCell ⟨g, 2, none⟩ (.int .i64 v2)).frozen? ⟨g, 3, none⟩ = false := by obtain ⟨xs, hown, _⟩ := HO1.out.adv ha2 hlt; exact ((hown.stored 1 _).1.stored 2 _).1.frozenAt 3
          have hd2 : (w2.setCell ⟨g, 1, none⟩ (.int .i64 s2)).cell? ⟨g, 2, none⟩ = some (.int .i64 v) := by
            rw [World.cell?_setCell_other _ _ _ _ (by simp)]; exact hc2
          have hd3 : ((w2.setCell ⟨g, 1, none⟩ (.int .i64 s2)).setCell ⟨g, 2, none⟩ (.int .i64 v2)).cell? ⟨g, 3, none⟩ = some (.slice a'' (flen k) c'') := by
            rw [World.cell?_setCell_other _ _ _ _ (by simp), World.cell?_setCell_other _ _ _ _ (by simp)]; exact hc3
          have HE : Hid (Adv w br p2 (((w2.setCell ⟨g, 1, none⟩ (.int .i64 s2)).setCell ⟨g, 2, none⟩ (.int .i64 v2)).setCell ⟨g, 3, none⟩ (.slice a2 (flen k2) c2))) := ((HA2.out.setCell hg1 _).setCell hg1 _).setCell hg1 _
          clear ha2 hl2
          go_wp2_with fail
          go_ret
          exact ⟨(xv, s2, v2, k2) :: r, some ⟨g, 0, none⟩, C, p2, rfl, by simp at hbl ⊢; omega, by omega, by omega, HE.out, HS0.out⟩
      · have y1 : ((y : Int) == 1) = false := by simp; omega
        go_wp2_with fail
        go_ret
        exact ⟨bs, A, C, p' + 1, rfl, by omega, by omega, by omega, HA1.out, HO1.out⟩
end Go.Proofs.Ytpjjaolhmhfoeaa

/-! C2: - A row of nodes, copied, with another node in the midst. -/
namespace Go.Proofs.Ytpjjaolhmhfoeaa
open Go.RowKit Go.Deep
attribute [local go_sem ↓] Go.wp_at_zero Go.wp_at_succ

theorem Try.infoN : ∃ i, Try.prog.info? 66 = some i ∧ i.zero = some .nilIface ∧ i.size = 1 ∧ i.bytes = 16 := by
  obtain ⟨i, hi, hz⟩ := Option.map_eq_some_iff.1 Try.infoNode
  simp only [Prod.mk.injEq] at hz
  exact ⟨i, hi, hz.1, hz.2.1, hz.2.2⟩

theorem node_one {w : World} {lo B : Nat} {val : Value} {s v : Int} {k : Fo} (h : NodeIs w lo B val s v k) : val.oneCell' = true := by
  rcases h with ⟨_, _, rfl⟩ | ⟨_, _, _, rfl, _⟩ <;> rfl
/-- What the cells of a row of nodes hold. -/
theorem nrow_cells {w : World} {lo B : Nat} : ∀ (k : Fo) (b o : Nat), NRow w lo B k b o → ∃ xs : List Value, xs.length = flen k ∧ (∀ u ∈ xs, u.oneCell' = true) ∧
    ∀ j u, xs[j]? = some u → w.cell? ⟨b, o + j, none⟩ = some u ∧ ∃ x y s v kk, fdrop j k = .node x y (s, v) kk (fdrop (j + 1) k) ∧ NodeIs w lo B u s v kk
  | .nil, _, _, _ => ⟨[], rfl, by simp, by simp⟩
  | .node x y (s, v) kk r, b, o, ⟨_, _, ⟨val, hc, hn⟩, hr⟩ => by
    obtain ⟨xs, hl, h1, h2⟩ := nrow_cells r b (o + 1) hr
    have hn' : NodeIs w lo B val s v kk := hn
    refine ⟨val :: xs, by simp [flen, hl], ?_, ?_⟩
    · intro u hu
      rcases List.mem_cons.1 hu with rfl | hu
      · exact node_one hn'
      · exact h1 u hu
    · intro j u hu
      cases j with
      | zero =>
        simp only [List.getElem?_cons_zero, Option.some.injEq] at hu
        subst hu
        exact ⟨hc, x, y, s, v, kk, rfl, hn'⟩
      | succ j =>
        simp only [List.getElem?_cons_succ] at hu
        obtain ⟨hc', e⟩ := h2 j u hu
        exact ⟨by rw [show o + (j + 1) = o + 1 + j from by omega]; exact hc', e⟩

/-- Copied, and the i-th is another. -/
theorem nrow_put {w w5 : World} {i g : Nat} {k : Fo} {xs : List Value} {n C : Nat} {val : Value} {x : Int × Int × Fo} (hb : Below w.heap.size w w5) (hxl : xs.length = flen k)
    (hall : ∀ j u, xs[j]? = some u → ∃ x y s v kk, fdrop j k = .node x y (s, v) kk (fdrop (j + 1) k) ∧ NodeIs w 0 w.heap.size u s v kk)
    (hown : w5.ownsRow w.heap.size 66 1 (.slice (some ⟨g, 0, none⟩) n C) n xs) (hval : NodeIs w 0 w.heap.size val x.1 x.2.1 x.2.2) :
    NRow (w5.setCell ⟨g, i, none⟩ val) 0 w5.heap.size (fset k i x) g 0 := by
  have hcells := hown.cells (g := g) rfl
  have ha : ∀ n, (⟨g, 0, none⟩ : Addr).add n = ⟨g, 0 + n, none⟩ := fun n => by unfold Addr.add; split <;> simp_all
  obtain ⟨hg, hglt⟩ := hown.lt g rfl
  have hsame : Same 0 w.heap.size w (w5.setCell ⟨g, i, none⟩ val) := Same.setCell (fun b _ hb' => hb.block b hb') (.inr hg) _
  refine nrow_of_all _ g 0 (Nat.zero_le _) hglt fun j hj => ?_
  rw [flen_set] at hj
  obtain ⟨u, hu⟩ : ∃ u, xs[j]? = some u := ⟨_, List.getElem?_eq_getElem (by omega)⟩
  obtain ⟨x1, y1, s1, v1, k1, e1, hn1⟩ := hall j u hu
  have hcu := hcells j u hu
  rw [ha] at hcu
  by_cases hij : i = j
  · subst hij
    obtain ⟨b', o', e'⟩ := fset_at k i x hj
    exact ⟨b', o', _, _, _, e', val, by rw [Nat.zero_add] at hcu ⊢; exact World.cell?_setCell_same _ _ _ hcu, (hval.same hsame).mono (Nat.le_refl _) hb.size⟩
  · obtain ⟨r', e'⟩ := fset_far k i j x hij e1
    obtain ⟨x2, y2, s2, v2, k2, e2⟩ := fdrop_succ j (fset k i x) (by rw [flen_set]; exact hj)
    rw [e'] at e2
    simp only [BT.node.injEq, Prod.mk.injEq] at e2
    obtain ⟨rfl, rfl, ⟨rfl, rfl⟩, rfl, hr'⟩ := e2
    refine ⟨x1, y1, s1, v1, k1, by rw [e', hr'], u, ?_, (hn1.same hsame).mono (Nat.le_refl _) hb.size⟩
    rw [World.cell?_setCell_other _ _ _ _ (by intro h; have := congrArg Addr.off h; simp at this; omega)]
    exact hcu
end Go.Proofs.Ytpjjaolhmhfoeaa

/-! C3: - nodePut: another node put to a place; the nodes on the way are made anew. -/
namespace Go.Proofs.Ytpjjaolhmhfoeaa
open Go.RowKit Go.Deep
attribute [local go_sem ↓] Go.wp_at_zero Go.wp_at_succ

def NpPost (s v : Int) (k : Fo) (place : List Int) (x : Int × Int × Fo) (w : World) (e : Ending) (w' : World) : Prop :=
  ∃ nv t, e = .returned (.tuple #[nv, .bool t]) ∧ Below w.heap.size w w' ∧ ((∃ s' v' k', fput s v k place x = some (s', v', k') ∧ t = true ∧ NodeIs w' 0 w'.heap.size nv s' v' k') ∨ (fput s v k place x = none ∧ t = false))

/-- A place from its n-th number on. -/
theorem cut_from {pA : Option Addr} {pC n : Nat} {place : List Int} (hn : n ≤ place.length) (hc : place.length ≤ pC) : ∃ A', (∀ w : World, (Instr.slice 100 (.slice pA place.length pC) (some (.int .i64 (n : Int))) none none).run Try.prog w = .ok (.slice A' (place.length - n) (pC - n)) w) ∧
    ∀ {w : World} {lo B : Nat}, ISl w lo B pA place → ISc w lo B A' (pC - n) (place.drop n) := by
  obtain ⟨ti, hti, htz, hts, htb⟩ := Try.infoI
  have hsz : ∀ w : World, (sizeOf (Try.prog.elem 100)).run Try.prog w = .ok 1 w := fun w => by
    have he : Try.prog.elem 100 = 3 := by kernel_rfl
    rw [he]
    simp [sizeOf, typeInfo, hti, hts]
  have hel : Try.prog.underlying 100 = some (.slice (Try.prog.elem 100)) := by kernel_rfl
  have hrun : ∀ w : World, (Instr.slice 100 (.slice pA place.length pC) (some (.int .i64 (n : Int))) none none).run Try.prog w = .ok (sliced pA n place.length pC 1) w := fun w => by
    rw [run_slice_l (P := Try.prog) w 100 pA place.length pC hel .i64 (n : Int) (by omega) (by omega), hsz]
    simp [Result.andThen]
  refine ⟨if pC = n then pA else pA.map (·.add (n * 1)), fun w => by rw [hrun w]; rfl, fun {w lo B} h => ⟨?_, by simp; omega⟩⟩
  split
  · exact .inl (List.drop_eq_nil_of_le (by omega))
  · rcases h with rfl | ⟨b, o, rfl, h1, h2, h3⟩
    · exact .inl (by simp)
    · refine .inr ⟨b, o + n, ?_, h1, h2, fun j x hx => ?_⟩
      · have ha : (⟨b, o, none⟩ : Addr).add n = ⟨b, o + n, none⟩ := by unfold Addr.add; split <;> simp_all
        simp only [Option.map_some, Nat.mul_one, ha]
      · rw [List.getElem?_drop] at hx
        rw [show o + n + j = o + (n + j) from by omega]
        exact h3 (n + j) x hx
/-- A place's first n numbers. -/
theorem cut_to {pA : Option Addr} {pC n : Nat} {place : List Int} (hn : n ≤ place.length) (hc : place.length ≤ pC) : (∀ w : World, (Instr.slice 100 (.slice pA place.length pC) none (some (.int .i64 (n : Int))) none).run Try.prog w = .ok (.slice pA n pC) w) ∧
    ∀ {w : World} {lo B : Nat}, ISl w lo B pA place → ISc w lo B pA pC (place.take n) := by
  obtain ⟨ti, hti, htz, hts, htb⟩ := Try.infoI
  have hsz : ∀ w : World, (sizeOf (Try.prog.elem 100)).run Try.prog w = .ok 1 w := fun w => by
    have he : Try.prog.elem 100 = 3 := by kernel_rfl
    rw [he]
    simp [sizeOf, typeInfo, hti, hts]
  have hel : Try.prog.underlying 100 = some (.slice (Try.prog.elem 100)) := by kernel_rfl
  refine ⟨fun w => ?_, fun {w lo B} h => ⟨?_, by simp; omega⟩⟩
  · rw [run_slice_h (P := Try.prog) w 100 pA place.length pC hel .i64 (n : Int) (by omega) (by omega), hsz]
    cases pA <;> simp [Result.andThen, sliced, Addr.add]
  · rcases h with rfl | ⟨b, o, rfl, h1, h2, h3⟩
    · exact .inl (by simp)
    · refine .inr ⟨b, o, rfl, h1, h2, fun j x hx => ?_⟩
      rw [List.getElem?_take] at hx
      split at hx
      · exact h3 j x hx
      · cases hx

end Go.Proofs.Ytpjjaolhmhfoeaa

/-! SOk: - The program's SubstOk; DrawSubstOk; the first binds of a row. -/
namespace Go.Proofs.Ytpjjaolhmhfoeaa
open Go.RowKit Go.Deep

set_option maxRecDepth 100000 in
theorem iSubstOk_any (bs : List Bd) (A : Option Addr) (C : Nat) (w : World) (hb : BSl w 0 w.heap.size A bs) (hl : bs.length ≤ 9223372036854775807) :
    Calls Try.prog 14 #[.slice A bs.length C] w fun e w' => e = .returned (.bool (sok 16 bs)) ∧ Below w.heap.size w w' := by
  have HB := Lib.hid hb
  clear hb
  go_enter Try.func14, Try.ntmps14
  go_wp2_with fail
  with_reducible refine (substOf_any bs A C 16 _ HB.out hl (by omega) (by omega)).mono ?_
  rintro e w1 ⟨hb1, hcase⟩
  have HB1 := Lib.hid hb1
  clear hb1
  rcases hcase with ⟨hs, b, rfl, _, _⟩ | ⟨hs, rfl⟩
  · have HS := Lib.hid hs
    clear hs
    go_wp2_with fail
    go_ret
    exact ⟨by rw [HS.out]; rfl, HB1.out⟩
  · have HS := Lib.hid hs
    clear hs
    go_wp2_with fail
    go_ret
    exact ⟨by rw [HS.out]; rfl, HB1.out⟩

theorem sokFrom_take {room : Int} : ∀ (bs : List Bd) (last : Int) (n : Nat), sokFrom room last bs = true → sokFrom room last (bs.take n) = true
  | [], _, _, _ => by simp [sokFrom]
  | _ :: _, _, 0, _ => by simp [sokFrom]
  | x :: r, last, n + 1, h => by
    simp only [sokFrom, Bool.and_eq_true, List.take_succ_cons] at h ⊢
    exact ⟨h.1, h.2.1, h.2.2.1, sokFrom_take r x.1 n h.2.2.2⟩
theorem BSl.take {w : World} {lo B : Nat} {A : Option Addr} {bs : List Bd} (h : BSl w lo B A bs) (n : Nat) : BSl w lo B A (bs.take n) := by
  rcases h with rfl | ⟨b, o, e, h1, h2, h3⟩
  · exact .inl (by simp)
  · refine .inr ⟨b, o, e, h1, h2, fun i x hx => h3 i x ?_⟩
    rw [List.getElem?_take] at hx
    split at hx
    · exact hx
    · cases hx
theorem cutB_to {A : Option Addr} {L C n : Nat} (hn : n ≤ L) (hc : L ≤ C) (w : World) : (Instr.slice 23 (.slice A L C) none (some (.int .i64 (n : Int))) none).run Try.prog w = .ok (.slice A n C) w := by
  obtain ⟨ti, hti, htz, hts, htb⟩ := Try.infoBind
  have hsz : ∀ w : World, (sizeOf (Try.prog.elem 23)).run Try.prog w = .ok 4 w := fun w => by
    have he : Try.prog.elem 23 = 64 := by kernel_rfl
    rw [he]
    simp [sizeOf, typeInfo, hti, hts]
  have hel : Try.prog.underlying 23 = some (.slice (Try.prog.elem 23)) := by kernel_rfl
  rw [run_slice_h (P := Try.prog) w 23 A L C hel .i64 (n : Int) (by omega) (by omega), hsz]
  cases A <;> simp [Result.andThen, sliced, Addr.add]
theorem BOwn.cap {w : World} {base : Nat} {bs : List Bd} {A : Option Addr} {C : Nat} (h : BOwn w base bs A C) : bs.length ≤ C := by
  obtain ⟨xs, hown, _⟩ := h
  rcases hown.2 with ⟨_, h2⟩ | ⟨g, cap, cur, h3, _, _, h6, _⟩
  · omega
  · simp only [Value.slice.injEq] at h3
    omega

def DsoPost (w : World) (e : Ending) (w' : World) : Prop :=
  ∃ bs A C, e = .returned (.slice A (List.length bs) C) ∧ bs.length ≤ 21 ∧ bs.length ≤ C ∧ Below w.heap.size w w' ∧ BSl w' w.heap.size w'.heap.size A bs

end Go.Proofs.Ytpjjaolhmhfoeaa

/-! SP1: What a variable stands for: the specification's l2Of. -/
namespace Go.Proofs.Ytpjjaolhmhfoeaa
open Go.RowKit Go.Deep

def OfPost (bs : List Bd) (x : Int) (w : World) (e : Ending) (w' : World) : Prop :=
  ∃ a c, e = .returned (.agg #[.int .i64 (tsub (sv bs) 0 x .nil).1, .int .i64 (tsub (sv bs) 0 x .nil).2.1, .slice a (flen (tsub (sv bs) 0 x .nil).2.2) c]) ∧ Below w.heap.size w w' ∧ Sl w' 0 w'.heap.size a (tsub (sv bs) 0 x .nil).2.2

theorem of_end {w : World} {bs : List Bd} {x s v : Int} {k : Fo} {a : Option Addr} {c : Nat} {Z : Obj} (hr : tsub (sv bs) 0 x .nil = (s, v, k)) (hl : Sl w 0 w.heap.size a k) :
    OfPost bs x w (.returned (.agg #[.int .i64 s, .int .i64 v, .slice a (flen k) c])) (w.alloc Z) := by
  have hb : Below w.heap.size w (w.alloc Z) := (Below.refl _ _).alloc (Nat.le_refl _) Z
  refine ⟨a, c, by rw [hr], hb, ?_⟩
  rw [hr]
  exact (hl.below hb).mono (Nat.le_refl _) hb.size

set_option maxRecDepth 100000 in
set_option maxHeartbeats 1000000 in
theorem l2Of_any (bs : List Bd) (A : Option Addr) (C : Nat) (x : Int) (w : World) (hb : BSl w 0 w.heap.size A bs) (hl : bs.length ≤ 9223372036854775807) :
    Calls Try.prog 60 #[.slice A bs.length C, .int .i64 x] w (OfPost bs x w) := by
  have HB := Lib.hid hb
  clear hb
  go_enter Try.func60, Try.ntmps60
  go_wp2_with fail
  go_loopw [5] (fun i wr => ∃ j : Nat, i = .int .i64 j ∧ j ≤ bs.length ∧ wr = w.alloc (.cells #[.int .i64 0, .int .i64 0, .slice none 0 0] 28) ∧ Hid (sv bs x = sv (bs.drop j) x)) (fun i _ => bs.length - (intOf i).toNat)
  case atStart => exact ⟨0, rfl, Nat.zero_le _, rfl, by simp [Hid]⟩
  case round =>
    obtain ⟨j, rfl, hj, rfl, HS⟩ := hrel
    by_cases hlt : j < bs.length
    · obtain ⟨y, hy⟩ : ∃ y, bs[j]? = some y := ⟨bs[j], List.getElem?_eq_getElem hlt⟩
      obtain ⟨xv, s, v, k⟩ := y
      have hbr := HB.out
      rcases hbr with hbr | ⟨b, o, rfl, _, hbB, hcells⟩
      · subst hbr; simp at hy
      obtain ⟨a', c', c0, c1, c2, c3, hsl⟩ := hcells j _ hy
      dsimp only at c0 c1 c2 c3 hsl
      have d0 := (World.cell?_alloc_lt w (.cells #[.int .i64 0, .int .i64 0, .slice none 0 0] 28) ⟨b, o + j * 4, none⟩ hbB).trans c0
      have d1 := (World.cell?_alloc_lt w (.cells #[.int .i64 0, .int .i64 0, .slice none 0 0] 28) ⟨b, o + j * 4 + 1, none⟩ hbB).trans c1
      have d2 := (World.cell?_alloc_lt w (.cells #[.int .i64 0, .int .i64 0, .slice none 0 0] 28) ⟨b, o + j * 4 + 1 + 1, none⟩ hbB).trans c2
      have d3 := (World.cell?_alloc_lt w (.cells #[.int .i64 0, .int .i64 0, .slice none 0 0] 28) ⟨b, o + j * 4 + 1 + 2, none⟩ hbB).trans c3
      have HD := Lib.hid (drop_bd hy)
      have HSL := Lib.hid hsl
      have g1 : (0 : Int) ≤ (j : Int) := by omega
      have g2 : (j : Int) < (bs.length : Int) := by omega
      clear hcells hy c0 c1 c2 c3 hsl
      by_cases hx : xv = x
      · have hxe : (xv == x) = true := by simpa using hx
        have HT : Hid (tsub (sv bs) 0 x .nil = (s, v, k)) := by
          rw [Hid, tsub, if_pos rfl, HS.out, HD.out]; simp only [sv]; rw [if_pos hx]; rfl
        clear hx HS HD
        go_wp2_with fail
        refine bodyPost_ret (v := .agg #[.int .i64 s, .int .i64 v, .slice a' (flen k) c']) ?_ rfl (of_end HT.out HSL.out)
        simp [results, Try.results60, go_sem]
      · have hxe : (xv == x) = false := by simpa using hx
        have HN : Hid (sv bs x = sv (bs.drop (j + 1)) x) := by rw [Hid, HS.out, HD.out]; simp only [sv]; rw [if_neg hx]
        clear hx HS HD
        go_wp2_with fail
        go_roundw
        case rel => exact ⟨j + 1, by go_num, by omega, trivial, HN⟩
        case measure => simp [intOf]; omega
    · have HT : Hid (tsub (sv bs) 0 x .nil = (0, x, .nil)) := by
        rw [Hid, tsub, if_pos rfl, HS.out, List.drop_eq_nil_of_le (by omega)]; rfl
      clear HS
      go_wp2_with fail
      refine bodyPost_ret (v := .agg #[.int .i64 0, .int .i64 x, .slice none 0 0]) ?_ rfl (of_end (k := .nil) HT.out (.inl rfl))
      simp [results, Try.results60, go_sem]
end Go.Proofs.Ytpjjaolhmhfoeaa

/-! SP3: The specification's l2Put: what variables stand for put in. -/
namespace Go.Proofs.Ytpjjaolhmhfoeaa
open Go.RowKit Go.Deep
attribute [local go_sem ↓] Go.wp_at_zero Go.wp_at_succ

theorem cpS_start (σ : Int → Option (Int × Int × Fo)) (w : World) (s : Int) (a : Option Addr) (c : Nat) (k : Fo) : CpAt w s 0 a c (fsub σ k) 0 none 0 (((w.alloc (.cells #[.int .i64 s, .int .i64 0, .slice a (flen k) c] 28)).alloc (.cells #[.int .i64 0, .int .i64 0, .slice none 0 0] 28)).alloc (.cells #[.int .i64 s, .int .i64 0, .slice none 0 0] 28)) := by
  have h := CpAt.start w s 0 a c (fsub σ k)
  rw [fsub_len] at h
  exact h

theorem put_end0 {w w1 w2 : World} {s' v' : Int} {k' : Fo} {a : Option Addr} {c : Nat} {Y Z : Obj} (hb1 : Below ((w.alloc Y).alloc Z).heap.size ((w.alloc Y).alloc Z) w1) (hb : Below w1.heap.size w1 w2) (ho : Own w2 w1.heap.size k' (flen k') a c) (p q r : Value) :
    CopyPost s' v' k' w (.returned (.agg #[.int .i64 s', .int .i64 v', .slice a (flen k') c])) (((w2.setCell ⟨w.heap.size + 1, 0, none⟩ p).setCell ⟨w.heap.size + 1, 1, none⟩ q).setCell ⟨w.heap.size + 1, 2, none⟩ r) := by
  have h1 := hb1.size
  simp at h1
  have h2 := hb.size
  have hb2 : Below w.heap.size w w2 := ((((Below.refl _ _).alloc (Nat.le_refl _) Y).alloc (by simp) Z).trans (hb1.mono (by simp; omega))).trans (hb.mono (by omega))
  refine ⟨a, c, rfl, ((hb2.setCell (by simp) _).setCell (by simp) _).setCell (by simp) _, ?_⟩
  exact (((ho.store (by simp; omega) p).store (by simp; omega) q).store (by simp; omega) r).low (Below.refl _ _) (by omega)

set_option maxRecDepth 100000 in
set_option maxHeartbeats 1000000 in
theorem l2Put_any (bs : List Bd) (A0 : Option Addr) (C0 : Nat) (hbl : bs.length ≤ 9223372036854775807) (hbz : ∀ x t, sv bs x = some t → fsz t.2.2 ≤ 1000000) (N : Nat) : ∀ (s v : Int) (a : Option Addr) (c : Nat) (k : Fo) (w : World), BSl w 0 w.heap.size A0 bs → Sl w 0 w.heap.size a k → okN s v (flen k) = true → fok k = true → fsz k ≤ N → N ≤ 1000 →
    Calls Try.prog 43 #[.slice A0 bs.length C0, .agg #[.int .i64 s, .int .i64 v, .slice a (flen k) c]] w (CopyPost (tsub (sv bs) s v k).1 (tsub (sv bs) s v k).2.1 (tsub (sv bs) s v k).2.2 w) := by
  induction N using Nat.strongRecOn with
  | _ N ih =>
    intro s v a c k w hbs hl hok hfk hN hN2
    have hfl := flen_le_sz k
    have IH := Lib.hid ih
    have HFK := Lib.hid hfk
    have HBS := Lib.hid hbs
    have HBZ := Lib.hid hbz
    clear ih hfk hbs hbz
    by_cases hs0 : s = 0
    · subst hs0
      have hk0 : k = .nil := by
        have h1 := ((okN_iff _ _ _).1 hok).1
        cases k with
        | nil => rfl
        | node _ _ _ _ r => simp [flen, ar] at h1; omega
      subst hk0
      have hb0 : Below w.heap.size w ((w.alloc (.cells #[.int .i64 0, .int .i64 v, .slice a (flen .nil) c] 28)).alloc (.cells #[.int .i64 0, .int .i64 0, .slice none 0 0] 28)) := ((Below.refl _ _).alloc (Nat.le_refl _) _).alloc (by simp) _
      have HB1 : Hid (BSl ((w.alloc (.cells #[.int .i64 0, .int .i64 v, .slice a (flen .nil) c] 28)).alloc (.cells #[.int .i64 0, .int .i64 0, .slice none 0 0] 28)) 0 ((w.alloc (.cells #[.int .i64 0, .int .i64 v, .slice a (flen .nil) c] 28)).alloc (.cells #[.int .i64 0, .int .i64 0, .slice none 0 0] 28)).heap.size A0 bs) := (HBS.out.below hb0).mono (Nat.le_refl _) hb0.size
      have HZ : Hid (fsz (tsub (sv bs) 0 v .nil).2.2 ≤ 1000000) := by
        rw [Hid, tsub, if_pos rfl]
        cases h : sv bs v with
        | none => simp [fsz]
        | some t => exact HBZ.out v t h
      clear hb0 hok hl
      go_enter Try.func43, Try.ntmps43
      go_wp2_with fail
      with_reducible refine (l2Of_any bs A0 C0 v _ HB1.out hbl).mono ?_
      rintro e w1 ⟨a1, c1, rfl, hb1, hl1⟩
      generalize tsub (sv bs) 0 v .nil = tt at *
      obtain ⟨s', v', k'⟩ := tt
      dsimp only at hl1 HZ ⊢
      have HB2 := Lib.hid hb1
      have HL1 := Lib.hid hl1
      clear hb1 hl1
      go_wp2_with fail
      with_reducible refine (l1Copy_any (fsz k') s' v' a1 c1 k' _ HL1.out (Nat.le_refl _) HZ.out).mono ?_
      rintro e w2 ⟨a2, c2, rfl, hb2, ho2⟩
      have hs1 := HB2.out.size
      simp at hs1
      have hbx := (HB2.out.mono (show w.heap.size + 2 ≤ _ by simp)).trans (hb2.mono (show w.heap.size + 2 ≤ w1.heap.size by omega))
      obtain ⟨_, _, _, hr0, hr1, hr2⟩ := tb_cellsS hbx
      obtain ⟨_, hf0⟩ := tb_freeS hbx 0 rfl rfl
      obtain ⟨_, hf1⟩ := tb_freeS hbx 1 rfl rfl
      obtain ⟨_, hf2⟩ := tb_freeS hbx 2 rfl rfl
      clear hbx
      have HE := Lib.hid (fun p q r => put_end0 (s' := s') (v' := v') (k' := k') (c := c2) HB2.out hb2 ho2 p q r)
      clear hb2 ho2
      go_wp2_with fail
      refine bodyPost_ret (v := .agg #[.int .i64 s', .int .i64 v', .slice a2 (flen k') c2]) ?_ rfl (HE.out _ _ _)
      simp [results, Try.results43, go_sem, hr0, hr1, hr2]
    have hv0 : v = 0 := ((okN_iff _ _ _).1 hok).2.2 hs0
    subst hv0
    have HTT : Hid (tsub (sv bs) s 0 k = (s, 0, fsub (sv bs) k)) := by unfold Hid tsub; rw [if_neg hs0]
    have hse : (s == 0) = false := by simpa using hs0
    have hfl2 := fsub_len (sv bs) k
    rw [HTT.out]
    dsimp only
    clear hok
    have HST := Lib.hid (cpS_start (sv bs) w s a c k)
    go_enter Try.func43, Try.ntmps43
    go_wp2_with fail
    go_loopw [6] (fun i wr => ∃ (j : Nat) (A : Option Addr) (C : Nat), j ≤ flen k ∧ i = .int .i64 j ∧ CpAt w s 0 a c (fsub (sv bs) k) j A C wr) (fun i _ => flen k - (intOf i).toNat)
    case atStart => exact ⟨0, none, 0, Nat.zero_le _, rfl, HST.out⟩
    case round =>
      clear HST
      obtain ⟨j, A, C, hj, rfl, hat⟩ := hrel
      obtain ⟨hr0, hr1, hr2, hq0, hq1, hq2, hb0⟩ := hat.res
      rw [hfl2] at hb0
      have ho0 := hat.out0
      have ho1 := hat.out1
      have ho2 := hat.out2
      have hof := hat.free
      have hsz := hat.size
      by_cases hlt : j < flen k
      · clear hr0 hr1 hr2 hq0 hq1 hq2
        rcases hl with rfl | ⟨b, o, rfl, hrow⟩
        · simp [flen] at hlt
        have hbw := hat.low
        obtain ⟨s', v', kk, a', c', ⟨x, y, hd⟩, _, hbB, hk0, hk1, hk2, hsl⟩ := row_at (hrow.below hbw) hlt
        have hkN := Lib.hid (fsz_kid hd)
        have HD := Lib.hid (fsub_at (sv bs) j k hd)
        have HKID := Lib.hid (fok_kid HFK.out hd)
        have HBR : Hid (BSl wr.drew 0 wr.drew.heap.size A0 bs) := (HBS.out.below hbw.drew).mono (Nat.le_refl _) hbw.drew.size
        have HS := Lib.hid hsl
        have HROW := Lib.hid hrow
        have HAT := Lib.hid hat
        clear hd hsl hrow hat hbw
        have g1 : (0 : Int) ≤ (j : Int) := by omega
        have g2 : (j : Int) < (flen k : Int) := by omega
        obtain ⟨ti, hti, htz, hts, htb⟩ := Try.infoTerm
        obtain ⟨xs, hown, hall⟩ := HAT.out.own
        have HTI := Lib.hid hti
        have HTZ := Lib.hid htz
        have HTS := Lib.hid hts
        have HTB := Lib.hid htb
        have HOWN := Lib.hid hown
        have HALL := Lib.hid hall
        have HLT : Hid (∀ g, (Value.slice A j C).ownBlock = some g → w.heap.size + 3 ≤ g) := fun g hg => (hown.lt g hg).1
        clear hti htz hts htb hown hall
        have hu0 : ∀ u : After (w.heap.size + 3) wr, u.world.cell? ⟨w.heap.size + 1 + 1, 2, none⟩ = some (.slice A j C) := fun u => u.cell (by simp) ho2
        have hu1 : ∀ u : After (w.heap.size + 3) wr, u.world.cell? ⟨w.heap.size, 2, none⟩ = some (.slice (some ⟨b, o, none⟩) (flen k) c) := fun u => u.cell (by simp) hb0
        have hu2 : ∀ u : After (w.heap.size + 3) wr, u.world.cell? ⟨b, o + j * 3, none⟩ = some (.int .i64 s') := fun u => u.cell (by simp; omega) hk0
        have hu3 : ∀ u : After (w.heap.size + 3) wr, u.world.cell? ⟨b, o + j * 3 + 1, none⟩ = some (.int .i64 v') := fun u => u.cell (by simp; omega) hk1
        have hu4 : ∀ u : After (w.heap.size + 3) wr, u.world.cell? ⟨b, o + j * 3 + 2, none⟩ = some (.slice a' (flen kk) c') := fun u => u.cell (by simp; omega) hk2
        go_wp2_with fail
        refine wp_region_mix (fun w' => ∃ u : After (w.heap.size + 3) wr, w' = u.world) [11, 12] [(0, 0), (1, 0), (2, 0), (3, 0), (4, 0), (5, 0), (6, 0), (7, 0), (8, 1), (9, 1), (10, 1), (11, 2), (12, 2)] (by kernel_rfl) (by kernel_rfl) ⟨⟨_, (Below.refl _ _).drew⟩, rfl⟩ ?_
        iterate 8
          refine mix_see rfl (fun K hK => ?_)
          go_simp
          refine hK _ ?_
          clear hK K
        clear hu0 hu1 hu2 hu3 hu4
        refine mix_hold rfl (fun K hK => ?_)
        go_simp
        with_reducible refine (IH.out (fsz kk) (by have := hkN.out; omega) s' v' a' c' kk _ HBR.out ?_ HKID.out.1 HKID.out.2 (Nat.le_refl _) ?_).mono ?_
        · exact (HS.out.below (Below.refl _ _).drew).mono (Nat.le_refl _) (by simp; omega)
        · have := hkN.out; omega
        generalize tsub (sv bs) s' v' kk = tt at *
        obtain ⟨s3, v3, k3⟩ := tt
        dsimp only at HD
        rintro e w2 ⟨a2, c2, rfl, hb2', hown2⟩
        dsimp only at hown2
        have hb2 : Below wr.heap.size wr w2 := bl_undrew hb2'
        have HL2 : Hid (Sl w2 wr.heap.size w2.heap.size a2 k3) := hown2.sl
        have hs2 := hb2.size
        refine hK _ _ ⟨⟨_, hb2.mono (by omega)⟩, rfl⟩ ?_
        clear hK K hb2' hown2
        refine mix_hold rfl (fun K hK => ?_)
        go_simp
        refine hK _ _ ⟨⟨_, (hb2.mono (by omega)).alloc (by omega) _⟩, rfl⟩ ?_
        clear hK K
        refine mix_hold rfl (fun K hK => ?_)
        refine step_append_lies _ (by rfl) _ _ _ (by rfl) (w.heap.size + 3) 28 ti _ 3 40 Try.underlying26 HTI.out HTZ.out HTS.out HTB.out rfl (by omega) (.slice A j C) j xs (by rfl) (own_low ((Below.refl _ _).alloc (Nat.le_refl _) _) (own_low hb2 HOWN.out)) ⟨w2.heap.size, 0, none⟩ 1 1 [.int .i64 s3, .int .i64 v3, .slice a2 (flen k3) c2] (by rfl) (by rfl) (World.news_of_block (heap_alloc_new _ _)) (by simp [Value.oneCell']) (by omega) (by unfold maxLen; omega) (by omega) (by simp; omega) (w2.heap.size + 1) (by simp) ?_
        intro g cap w3 hown3 hgrow hatg hg3
        have hlow : Below (w.heap.size + 3) wr w3 := ((hb2.mono (by omega)).alloc (by omega) _).grown hgrow (by simp; omega) HLT.out
        have hz2 : w3.cell? ⟨w.heap.size + 1 + 1, 2, none⟩ = some (.slice A j C) := by rw [hlow.cell (by simp)]; exact ho2
        have hz3 : w3.frozen? ⟨w.heap.size + 1 + 1, 2, none⟩ = false := by rw [hlow.frozen (by simp)]; exact hof
        have HSTEP := Lib.hid (HAT.out.step hb2 HL2.out HD.out HOWN.out HALL.out hown3 hgrow hatg)
        refine hK _ _ ⟨⟨_, hlow⟩, rfl⟩ ?_
        clear hK K hown3 hgrow hatg
        refine mix_late rfl (fun K hK => ?_)
        go_simp
        refine hK _ _ ?_
        clear hK K
        refine mix_late rfl (fun K hK => ?_)
        go_simp
        refine hK _ _ ?_
        clear hK K
        refine mix_end ?_
        clear hz2 hz3 hlow hb0 ho0 ho1 ho2 hof hk0 hk1 hk2
        go_wp2_with fail
        go_roundw
        case rel => exact ⟨j + 1, _, _, by omega, by go_num, HSTEP.out⟩
        case measure => simp [intOf]; omega
      · have hjk : j = flen k := by omega
        subst hjk
        have HDN : Hid (∀ x y z, CopyPost s 0 (fsub (sv bs) k) w (.returned (.agg #[.int .i64 s, .int .i64 0, .slice A (flen k) C])) (((wr.setCell ⟨w.heap.size + 1, 0, none⟩ x).setCell ⟨w.heap.size + 1, 1, none⟩ y).setCell ⟨w.heap.size + 1, 2, none⟩ z)) := fun x y z => by
          rw [← hfl2] at hat ⊢
          exact hat.done x y z
        clear hat
        go_wp2_with fail
        refine bodyPost_ret (v := .agg #[.int .i64 s, .int .i64 0, .slice A (flen k) C]) ?_ rfl (HDN.out _ _ _)
        simp [results, Try.results43, go_sem, hr0, hr1, hr2]
end Go.Proofs.Ytpjjaolhmhfoeaa
