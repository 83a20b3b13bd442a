/- Several texts in one: S8, S9, C1, PS, LB. -/
import Derived.Test.YtkmfnhoeigoajaaKSub10
import Derived.Test.YtkmfnhoeigoajaaKSub9
import Derived.Test.YtkmfnhoeigoajaaKSub7
import Derived.Test.YtkmfnhoeigoajaaKSub4

/-! S8: l71Subst, DrawSubstDo. -/
namespace Go.Proofs.Ytkmfnhoeigoajaa
open Go.RowKit Go.Deep

def SbPost (br p : Nat) (w : World) (e : Ending) (w' : World) : Prop :=
  ∃ bs A C p', e = .returned (.slice A (List.length bs) C) ∧ bs.length ≤ 20 ∧ p ≤ p' ∧ p' ≤ p + 3000 ∧ Adv w br p' w' ∧ BOwn w' w.heap.size bs A C

set_option maxRecDepth 100000 in
set_option maxHeartbeats 2000000 in
theorem l71Subst_any (vn br p : Nat) (w : World) (hr : Rd w br p) (hp : p ≤ 10000000) (hv1 : 1 ≤ vn) (hv2 : vn ≤ 10) :
    Calls Try.prog 27 #[.pointer (some ⟨br, 0, none⟩), .int .i64 (vn : Int)] w (SbPost br p w) := by
  have hlt := hr.lt
  obtain ⟨ti, hti, htz, hts, htb⟩ := Try.infoBind
  have HTI : Hid (Try.prog.info? 71 = some ti ∧ ti.zero = some (.agg #[.int .i64 0, .int .i64 0, .int .i64 0, .slice none 0 0]) ∧ ti.size = 4 ∧ ti.bytes = 48) := ⟨hti, htz, hts, htb⟩
  have HA0 : Hid (Adv w br p (w.alloc (.cells #[] 71))) := Adv.start hr ((Below.refl _ _).alloc (Nat.le_refl _) _)
  have HO0 : Hid (BOwn (w.alloc (.cells #[] 71)) w.heap.size [] (some ⟨w.heap.size, 0, none⟩) 0) := ⟨[], ⟨rfl, .inr ⟨w.heap.size, 0, #[], rfl, Nat.le_refl _, heap_alloc_new _ _, Nat.le_refl _, by decide, rfl, rfl⟩⟩, fun i x hx => by simp at hx⟩
  have HR := Lib.hid hr
  have hpk : pkN 3 ≤ 100 := by decide
  have hsk : szN 3 ≤ 500 := by decide
  clear hr hti htz hts htb
  go_enter Try.func27, Try.ntmps27
  go_wp2_with fail
  go_loopw [5, 6] (fun t i wr => ∃ (n : Nat) (bs : List Bd) (A : Option Addr) (C p' : Nat), t = .slice A bs.length C ∧ i = .int .i64 n ∧ n ≤ vn ∧ bs.length ≤ n ∧ Hid (BOwn wr w.heap.size bs A C) ∧ Hid (Adv w br p' wr) ∧ p ≤ p' ∧ p' ≤ p + n * 101 ∧ Hid (∀ (i : Nat) (x : Bd), bs[i]? = some x → 1 + fsz x.2.2.2 ≤ 500)) (fun _ i _ => vn - (intOf i).toNat)
  case atStart => exact ⟨0, [], _, _, p, rfl, rfl, Nat.zero_le _, Nat.le_refl _, HO0, HA0, Nat.le_refl _, by omega, fun i x hx => by simp at hx⟩
  case round =>
    clear HO0 HA0
    obtain ⟨n, bs, A, C, p', rfl, rfl, hn, hbl, HO, HA, hp1, hp2, HSZ⟩ := hrel
    by_cases hnv : n < vn
    · have g1 : (n : Int) < (vn : Int) := by omega
      go_wp2_with fail
      with_reducible refine (pick_any 3 br p' _ (HA.out.rd HR.out) (by omega) (by omega) (by omega)).mono ?_
      rintro e w1 ⟨y, rfl, hy, hb1⟩
      have ha1 : Adv wr br (p' + 1) w1 := hb1
      have HA1 := Lib.hid (HA.out.trans ha1)
      have HO1 := Lib.hid (HO.out.adv ha1 hlt)
      clear hb1 ha1 hy HO HA
      by_cases hy0 : y = 0
      · subst hy0
        go_wp2_with fail
        go_roundw
        case rel => exact ⟨n + 1, bs, A, C, p' + 1, rfl, by go_num, by omega, by omega, HO1, HA1, by omega, by omega, HSZ⟩
        case measure => simp [intOf]; omega
      · have y0 : (0 : Int) < (y : Int) := by omega
        go_wp2_with fail
        with_reducible refine (l71Term_any 3 3 (vn : Int) br (p' + 1) _ (by omega) (by omega) (by omega) (by omega) (by omega) (HA1.out.rd HR.out) (by omega)).mono ?_
        rintro e w2 ⟨s, v, a2, c2, k, p2, rfl, hpp1, hpp2, hS2, ha2, hl2⟩
        obtain ⟨xs, hown, hall⟩ := HO1.out
        have hs1 := HA1.out.size
        have hs2 := ha2.size
        have HOWN2 : Hid (w2.ownsRow w.heap.size 71 4 (.slice A bs.length C) bs.length xs) := own_block hown fun g hg => by
          have h1 := hown.lt g hg
          exact ha2.same (lo := g) (B := g + 1) (by omega) (by omega) g (Nat.le_refl _) (by omega)
        have HAP := Lib.hid (fun g cap w3 => BOwn.append (w0 := w) (w2 := w2) (br := br) (p := p2) (k := k) (a2 := a2) (x := (n : Int)) (g := g) (cap := cap) (w3 := w3) (blk := .cells #[.int .i64 (n : Int), .int .i64 s, .int .i64 v, .slice a2 (flen k) c2] 71) (s := s) (v := v) (c2 := c2) hown hall)
        have HA2 := Lib.hid ha2
        have HL2 := Lib.hid hl2
        have HA02 := Lib.hid (HA1.out.trans ha2)
        clear hown hall ha2 hl2 HO1
        go_wp2_with (at_builtin; refine wpList_append_lies _ rfl _ _ 23 rfl w.heap.size 71 ti _ 4 48 Try.underlying23 HTI.out.1 HTI.out.2.1 HTI.out.2.2.1 HTI.out.2.2.2 rfl (by omega) (.slice A bs.length C) bs.length xs rfl (HOWN2.out.alloc _) ⟨w2.heap.size, 0, none⟩ 1 1 [.int .i64 (n : Int), .int .i64 s, .int .i64 v, .slice a2 (flen k) c2] rfl rfl (World.news_of_block (heap_alloc_new _ _)) (by simp [Value.oneCell']) (by omega) (by unfold maxLen; omega) (by omega) (by simp; omega) (w2.heap.size + 1) (by simp) ?_; intro g cap w3 hown3 hgrow3 hat3 hg3; have HX3 := Lib.hid (HAP.out g cap w3 hown3 HA2.out hlt HL2.out hs1 hgrow3 hat3 HA02.out (Nat.le_refl _)); clear hown3 hgrow3 hat3 hg3)
        go_roundw
        case rel =>
          have hl2' : (bs ++ [((n : Int), s, v, k)]).length = bs.length + 1 := by simp
          refine ⟨n + 1, bs ++ [((n : Int), s, v, k)], some ⟨g, 0, none⟩, cap, p2, by rw [hl2'], by go_num, by omega, by omega, HX3.out.1, HX3.out.2, by omega, by omega, ?_⟩
          intro i x hx
          by_cases hi : i < bs.length
          · rw [List.getElem?_append_left hi] at hx; exact HSZ.out i x hx
          · have hi' : i = bs.length := by have := (List.getElem?_eq_some_iff.1 hx).1; omega
            subst hi'
            simp at hx
            subst hx
            show 1 + fsz k ≤ 500
            omega
        case measure => simp [intOf]; omega
    · go_wp2_with fail
      with_reducible refine (pick_any 24 br p' _ (HA.out.rd HR.out) (by omega) (by omega) (by omega)).mono ?_
      rintro e w1 ⟨y, rfl, hy, hb1⟩
      have ha1 : Adv wr br (p' + 1) w1 := hb1
      have HA1 := Lib.hid (HA.out.trans ha1)
      have HO1 := Lib.hid (HO.out.adv ha1 hlt)
      clear hb1 ha1 hy HO HA
      by_cases hy0 : y = 0
      · subst hy0
        go_wp2_with fail
        with_reducible refine (pick_any 14 br (p' + 1) _ (HA1.out.rd HR.out) (by omega) (by omega) (by omega)).mono ?_
        rintro e w2 ⟨z, rfl, hz, hb2⟩
        have ha2 : Adv w1 br (p' + 1 + 1) w2 := hb2
        have HA2 := Lib.hid (HA1.out.trans ha2)
        have HO2 := Lib.hid (HO1.out.adv ha2 hlt)
        have hz14 : z < 14 := by omega
        clear hb2 ha2 hz HO1 HA1
        go_wp2_with fail
        with_reducible refine (l71Of_any 1 none 0 0 _).mono ?_
        rintro e w3 ⟨rfl, hb3⟩
        have ha3 : Adv w2 br (p' + 1 + 1) w3 := Adv.start (HA2.out.rd HR.out) hb3
        obtain ⟨xs, hown, hall⟩ := HO2.out
        have hs2 := HA2.out.size
        have hs3 := ha3.size
        have HOWN2 : Hid (w3.ownsRow w.heap.size 71 4 (.slice A bs.length C) bs.length xs) := own_block hown fun g hg => by
          have h1 := hown.lt g hg
          exact ha3.same (lo := g) (B := g + 1) (by omega) (by omega) g (Nat.le_refl _) (by omega)
        have HAP := Lib.hid (fun g cap w4 => BOwn.append (w0 := w) (w2 := w3) (br := br) (p := p' + 1 + 1) (x := (z : Int) - 1) (g := g) (cap := cap) (w3 := w4) (blk := .cells #[.int .i64 ((z : Int) - 1), .int .i64 1, .int .i64 0, .slice none 0 0] 71) (s := 1) (v := 0) (k := .nil) (a2 := none) (c2 := 0) hown hall)
        have HA3 := Lib.hid ha3
        have HA03 := Lib.hid (HA2.out.trans ha3)
        clear hown hall ha3 hb3 HO2
        go_wp2_with (at_builtin; refine wpList_append_lies _ rfl _ _ 23 rfl w.heap.size 71 ti _ 4 48 Try.underlying23 HTI.out.1 HTI.out.2.1 HTI.out.2.2.1 HTI.out.2.2.2 rfl (by omega) (.slice A bs.length C) bs.length xs rfl (HOWN2.out.alloc _) ⟨w3.heap.size, 0, none⟩ 1 1 [.int .i64 ((z : Int) - 1), .int .i64 1, .int .i64 0, .slice none 0 0] rfl rfl (World.news_of_block (heap_alloc_new _ _)) (by simp [Value.oneCell']) (by omega) (by unfold maxLen; omega) (by omega) (by simp; omega) (w3.heap.size + 1) (by simp) ?_; intro g cap w4 hown4 hgrow4 hat4 hg4; have HX4 := Lib.hid (HAP.out g cap w4 hown4 HA3.out hlt (.inl rfl) hs2 hgrow4 hat4 HA03.out (Nat.le_refl _)); clear hown4 hgrow4 hat4 hg4)
        go_ret
        have hl2' : (bs ++ [((z : Int) - 1, (1 : Int), (0 : Int), (.nil : Fo))]).length = bs.length + 1 := by simp
        exact ⟨_, some ⟨g, 0, none⟩, cap, p' + 1 + 1, by rw [hl2']; rfl, by omega, by omega, by omega, HX4.out.2, HX4.out.1⟩
      have y0 : ((y : Int) == 0) = false := by simpa using hy0
      by_cases hy1 : y = 1
      · subst hy1
        cases bs with
        | nil =>
          go_wp2_with fail
          go_ret
          exact ⟨[], A, C, p' + 1, rfl, by simp, by omega, by omega, HA1.out, HO1.out⟩
        | cons x r =>
          obtain ⟨xv, s, v, k⟩ := x
          have hpos : (0 : Int) < ((((xv, s, v, k) : Bd) :: r).length : Int) := by simp
          obtain ⟨g, hAE, hg1, hg2⟩ : ∃ g, A = some ⟨g, 0, none⟩ ∧ w.heap.size ≤ g ∧ g < w1.heap.size := by
            obtain ⟨xs, hown, _⟩ := HO1.out
            obtain ⟨g, cap, hv, hb, hlt2⟩ := hown.form (by simp)
            simp only [Value.slice.injEq] at hv
            obtain ⟨rfl, _⟩ := hv
            exact ⟨g, rfl, hb, hlt2⟩
          subst hAE
          have hcells : ∀ {w' : World}, BOwn w' w.heap.size ((xv, s, v, k) :: r) (some ⟨g, 0, none⟩) C → ∃ a' c', w'.cell? ⟨g, 1, none⟩ = some (.int .i64 s) ∧ w'.cell? ⟨g, 2, none⟩ = some (.int .i64 v) ∧ w'.cell? ⟨g, 3, none⟩ = some (.slice a' (flen k) c') ∧ Sl w' 0 w'.heap.size a' k := fun {w'} h => by
            rcases h.bsl with h | ⟨g', o, hA, hb, hlt', hrow⟩
            · cases h
            · cases hA
              obtain ⟨a', c', _, d1, d2, d3, hl⟩ := hrow 0 _ rfl
              exact ⟨a', c', d1, d2, d3, hl.mono (Nat.zero_le _) (Nat.le_refl _)⟩
          obtain ⟨a', c', hc1, hc2, hc3, hsl⟩ := hcells HO1.out
          have hsk2 := HSZ.out 0 _ rfl
          simp only at hsk2
          go_wp2_with fail
          with_reducible refine (l71Bad_any s v a' c' k br (p' + 1) 500 _ hsl (HA1.out.rd HR.out) (by omega) (by omega) (by omega)).mono ?_
          rintro e w2 ⟨s2, v2, a2, c2, k2, p2, rfl, hq1, hq2, hS2, ha2, hl2⟩
          clear hc1 hc2 hc3 hsl
          have HS0 := Lib.hid (HO1.out.set0 (s' := s2) (v' := v2) (c2 := c2) ha2 hlt hl2)
          have HA2 := Lib.hid (HA1.out.trans ha2)
          obtain ⟨a'', c'', hc1, hc2, hc3, _⟩ := hcells (HO1.out.adv ha2 hlt)
          have hf1 : w2.frozen? ⟨g, 1, none⟩ = false := by obtain ⟨xs, hown, _⟩ := HO1.out.adv ha2 hlt; exact hown.frozenAt 1
          have hf2 : (w2.setCell ⟨g, 1, none⟩ (.int .i64 s2)).frozen? ⟨g, 2, none⟩ = false := by obtain ⟨xs, hown, _⟩ := HO1.out.adv ha2 hlt; exact (hown.stored 1 _).1.frozenAt 2
          have hf3 : ((w2.setCell ⟨g, 1, none⟩ (.int .i64 s2)).setCell ⟨g, 2, none⟩ (.int .i64 v2)).frozen? ⟨g, 3, none⟩ = false := by obtain ⟨xs, hown, _⟩ := HO1.out.adv ha2 hlt; exact ((hown.stored 1 _).1.stored 2 _).1.frozenAt 3
          have hd2 : (w2.setCell ⟨g, 1, none⟩ (.int .i64 s2)).cell? ⟨g, 2, none⟩ = some (.int .i64 v) := by
            rw [World.cell?_setCell_other _ _ _ _ (by simp)]; exact hc2
          have hd3 : ((w2.setCell ⟨g, 1, none⟩ (.int .i64 s2)).setCell ⟨g, 2, none⟩ (.int .i64 v2)).cell? ⟨g, 3, none⟩ = some (.slice a'' (flen k) c'') := by
            rw [World.cell?_setCell_other _ _ _ _ (by simp), World.cell?_setCell_other _ _ _ _ (by simp)]; exact hc3
          have HE : Hid (Adv w br p2 (((w2.setCell ⟨g, 1, none⟩ (.int .i64 s2)).setCell ⟨g, 2, none⟩ (.int .i64 v2)).setCell ⟨g, 3, none⟩ (.slice a2 (flen k2) c2))) := ((HA2.out.setCell hg1 _).setCell hg1 _).setCell hg1 _
          clear ha2 hl2
          go_wp2_with fail
          go_ret
          exact ⟨(xv, s2, v2, k2) :: r, some ⟨g, 0, none⟩, C, p2, rfl, by simp at hbl ⊢; omega, by omega, by omega, HE.out, HS0.out⟩
      · have y1 : ((y : Int) == 1) = false := by simp; omega
        go_wp2_with fail
        go_ret
        exact ⟨bs, A, C, p' + 1, rfl, by omega, by omega, by omega, HA1.out, HO1.out⟩
end Go.Proofs.Ytkmfnhoeigoajaa

/-! S9: DrawSubstDo. -/
namespace Go.Proofs.Ytkmfnhoeigoajaa
open Go.RowKit Go.Deep

def DsdPost (w : World) (e : Ending) (w' : World) : Prop :=
  ∃ bs A C s v a c k, e = .returned (.tuple #[.slice A (List.length bs) C, .agg #[.int .i64 s, .int .i64 v, .slice a (flen k) c]]) ∧ bs.length ≤ 20 ∧ 1 + fsz k ≤ 31000 ∧ Below w.heap.size w w' ∧ BSl w' w.heap.size w'.heap.size A bs ∧ Sl w' w.heap.size w'.heap.size a k

theorem dsd_end {w w1 : World} {o : Obj} {s v : Int} {a A : Option Addr} {c C : Nat} {k : Fo} {bs : List Bd} (hb : Below (w.heap.size + 1) (w.alloc o) w1) (hS : 1 + fsz k ≤ 31000) (hpl : bs.length ≤ 20) (hl : Sl w1 (w.heap.size + 1) w1.heap.size a k) (hi : BSl w1 (w.heap.size + 1) w1.heap.size A bs) (x y z : Value) :
    DsdPost w (.returned (.tuple #[.slice A bs.length C, .agg #[.int .i64 s, .int .i64 v, .slice a (flen k) c]])) (((w1.setCell ⟨w.heap.size, 0, none⟩ x).setCell ⟨w.heap.size, 1, none⟩ y).setCell ⟨w.heap.size, 2, none⟩ z) := by
  have hs : Same (w.heap.size + 1) w1.heap.size w1 (((w1.setCell ⟨w.heap.size, 0, none⟩ x).setCell ⟨w.heap.size, 1, none⟩ y).setCell ⟨w.heap.size, 2, none⟩ z) :=
    (((Same.setCell (fun _ _ _ => rfl) (.inl (by simp)) _).setCell (.inl (by simp)) _).setCell (.inl (by simp)) _)
  have hb' : Below w.heap.size w w1 := ((Below.refl _ _).alloc (Nat.le_refl _) o).trans (hb.mono (by omega))
  exact ⟨bs, A, C, s, v, a, c, k, rfl, hpl, hS, ((hb'.setCell (Nat.le_refl _) _).setCell (Nat.le_refl _) _).setCell (Nat.le_refl _) _, (hi.same hs).mono (by omega) (by simp), (hl.same hs).mono (by omega) (by simp)⟩

set_option maxRecDepth 100000 in
set_option maxHeartbeats 1000000 in
theorem DrawSubstDo_any (a : Option Addr) (len cap : Nat) (w : World) (hby : Bytes w a len) (hlen : len ≤ cap) :
    Calls Try.prog 9 #[.slice a len cap] w (DsdPost w) := by
  have HBY := Lib.hid hby
  clear hby
  go_enter Try.func9, Try.ntmps9
  go_wp2_with fail
  with_reducible refine (l6Open_any a len cap _ (HBY.out.alloc _) hlen).mono ?_
  rintro e w1 ⟨rfl, hb1, hrd⟩
  have hs1 := hb1.size
  simp at hs1
  simp only [World.size_alloc] at hrd
  have hlt1 := hrd.lt
  have HRD := Lib.hid hrd
  have HB1 : Hid (Below (w.heap.size + 1) (w.alloc (.cells #[.int .i64 0, .int .i64 0, .slice none 0 0] 26)) w1) := hb1.mono (by simp)
  clear hb1 hrd
  simp only [World.size_alloc]
  have HC : Hid (Calls Try.prog 27 #[.pointer (some ⟨w.heap.size + 1, 0, none⟩), .int .i64 3] w1 (SbPost (w.heap.size + 1) 0 w1)) := l71Subst_any 3 (w.heap.size + 1) 0 _ HRD.out (by omega) (by omega) (by omega)
  go_wp2_with fail
  with_reducible refine HC.out.mono ?_
  rintro e w2 ⟨bs, A, C, p2, rfl, hbl, _, hp2, ha2, ho2⟩
  have hs2 := ha2.size
  have HB2 := Lib.hid (adv_low HB1.out (by omega) (by omega) ha2)
  have HR2 := Lib.hid (ha2.rd HRD.out)
  have HI2 := Lib.hid ho2.bsl
  clear ha2 ho2
  go_wp2_with fail
  with_reducible refine (l71Some_any (w.heap.size + 1) p2 _ HR2.out (by omega)).mono ?_
  rintro e w3 ⟨s, v, a2, c2, k, p3, rfl, _, hp3, hS3, ha3, hl3⟩
  have hs3 := ha3.size
  have hb3 := adv_low HB2.out (by omega) (by omega) ha3
  obtain ⟨hr0, hr1, hr2, hf0, hf1, hf2⟩ := res_low hb3
  have HB3 := Lib.hid hb3
  have HL3 := Lib.hid (hl3.mono (lo' := w.heap.size + 1) (by omega) (Nat.le_refl _))
  have HI3 : Hid (BSl w3 (w.heap.size + 1) w3.heap.size A bs) := (HI2.out.same (ha3.same (Nat.le_refl _) (.inl (by omega)))).mono (by omega) hs3
  clear ha3 hl3 hb3
  go_wp2_with fail
  refine bodyPost_ret (v := .tuple #[.slice A bs.length C, .agg #[.int .i64 s, .int .i64 v, .slice a2 (flen k) c2]]) ?_ rfl (dsd_end HB3.out hS3 hbl HL3.out HI3.out _ _ _)
  simp [results, Try.results9, go_sem, hr0, hr1, hr2]
end Go.Proofs.Ytkmfnhoeigoajaa

/-! C1: A term with another put to a place. Definitions and plain lemmas. -/
namespace Go.Proofs.Ytkmfnhoeigoajaa
open Go.RowKit Go.Deep

/-- The terms, the n-th of them another. -/
def fset : Fo → Nat → Int × Int × Fo → Fo
  | .nil, _, _ => .nil
  | .node b o _ _ r, 0, x => .node b o (x.1, x.2.1) x.2.2 r
  | .node b o p k r, n + 1, x => .node b o p k (fset r n x)
theorem flen_set : ∀ (k : Fo) (n : Nat) (x : Int × Int × Fo), flen (fset k n x) = flen k
  | .nil, _, _ => rfl
  | .node _ _ _ _ _, 0, _ => rfl
  | .node _ _ _ _ r, n + 1, x => by simp only [fset, flen, flen_set r n x]
theorem fset_at : ∀ (k : Fo) (n : Nat) (x : Int × Int × Fo), n < flen k → ∃ b o, fdrop n (fset k n x) = .node b o (x.1, x.2.1) x.2.2 (fdrop (n + 1) (fset k n x))
  | .nil, _, _, h => by simp [flen] at h
  | .node b o _ _ _, 0, _, _ => ⟨b, o, rfl⟩
  | .node _ _ _ _ r, n + 1, x, h => by
    obtain ⟨b, o, e⟩ := fset_at r n x (by simp [flen] at h; omega)
    exact ⟨b, o, by simp only [fset, fdrop]; exact e⟩
theorem fset_same : ∀ (k : Fo) (n : Nat) {b o : Nat} {s v : Int} {kk r : Fo}, fdrop n k = .node b o (s, v) kk r → fset k n (s, v, kk) = k
  | .nil, _, _, _, _, _, _, _, _ => rfl
  | .node _ _ _ _ _, 0, _, _, _, _, _, _, h => by
    simp only [fdrop, BT.node.injEq] at h
    obtain ⟨_, _, rfl, rfl, _⟩ := h
    rfl
  | .node _ _ _ _ r, n + 1, _, _, _, _, _, _, h => by simp only [fset]; rw [fset_same r n (by simpa [fdrop] using h)]
theorem fset_set : ∀ (k : Fo) (n : Nat) (x y : Int × Int × Fo), fset (fset k n x) n y = fset k n y
  | .nil, _, _, _ => rfl
  | .node _ _ _ _ _, 0, _, _ => rfl
  | .node _ _ _ _ r, n + 1, x, y => by simp only [fset, fset_set r n x y]
theorem fset_sz : ∀ (k : Fo) (n : Nat) (x : Int × Int × Fo) {b o : Nat} {p : Int × Int} {kk r : Fo}, fdrop n k = .node b o p kk r → fsz (fset k n x) + fsz kk = fsz k + fsz x.2.2
  | .nil, n, _, _, _, _, _, _, h => by cases n <;> simp [fdrop] at h
  | .node _ _ _ _ _, 0, _, _, _, _, _, _, h => by
    simp only [fdrop, BT.node.injEq] at h
    obtain ⟨_, _, rfl, rfl, _⟩ := h
    simp only [fset, fsz]; omega
  | .node _ _ _ _ r, n + 1, x, _, _, _, _, _, h => by
    have := fset_sz r n x (by simpa [fdrop] using h)
    simp only [fset, fsz]; omega
theorem fset_ok : ∀ (k : Fo) (n : Nat) (x : Int × Int × Fo), fok k = true → okN x.1 x.2.1 (flen x.2.2) = true → fok x.2.2 = true → fok (fset k n x) = true
  | .nil, _, _, _, _, _ => rfl
  | .node _ _ _ _ _, 0, _, h, h1, h2 => by
    simp only [fok, Bool.and_eq_true] at h
    simp only [fset, fok, h1, h2, h.2, Bool.and_true]
  | .node _ _ _ _ r, n + 1, x, h, h1, h2 => by
    simp only [fok, Bool.and_eq_true] at h
    simp only [fset, fok, h.1.1, h.1.2, fset_ok r n x h.2 h1 h2, Bool.and_true]
theorem fset_far : ∀ (k : Fo) (n m : Nat) (x : Int × Int × Fo) {b o : Nat} {p : Int × Int} {kk r : Fo}, n ≠ m → fdrop m k = .node b o p kk r → ∃ r', fdrop m (fset k n x) = .node b o p kk r'
  | .nil, _, m, _, _, _, _, _, _, _, h => by cases m <;> simp [fdrop] at h
  | .node _ _ _ _ _, 0, 0, _, _, _, _, _, _, hne, _ => absurd rfl hne
  | .node _ _ _ _ r, 0, m + 1, _, _, _, _, _, _, _, h => ⟨_, by simp only [fset, fdrop] at h ⊢; exact h⟩
  | .node _ _ _ _ r, n + 1, 0, x, _, _, _, _, _, _, h => by
    simp only [fdrop, BT.node.injEq] at h
    obtain ⟨rfl, rfl, rfl, rfl, _⟩ := h
    exact ⟨_, rfl⟩
  | .node _ _ _ _ r, n + 1, m + 1, x, _, _, _, _, _, hne, h => by
    obtain ⟨r', e⟩ := fset_far r n m x (by omega) (by simpa [fdrop] using h)
    exact ⟨r', by simp only [fset, fdrop]; exact e⟩

/-- What comes of it if x is put to a place. -/
def fput : Int → Int → Fo → List Int → Int × Int × Fo → Option (Int × Int × Fo)
  | _, _, _, [], x => some x
  | s, v, k, i :: ps, x => if 0 ≤ i ∧ i < (flen k : Int) then (match fdrop i.toNat k with
    | .node _ _ (s', v') kk _ => (fput s' v' kk ps x).map fun y => (s, v, fset k i.toNat y)
    | .nil => none) else none

/-- One step of it. -/
theorem fput_cons {s v : Int} {k : Fo} {i : Int} {ps : List Int} {x z : Int × Int × Fo} (h : fput s v k (i :: ps) x = some z) :
    ∃ (n b o : Nat) (s' v' : Int) (kk : Fo) (y : Int × Int × Fo), i = n ∧ n < flen k ∧ fdrop n k = .node b o (s', v') kk (fdrop (n + 1) k) ∧ fput s' v' kk ps x = some y ∧ z = (s, v, fset k n y) := by
  simp only [fput] at h
  split at h
  · rename_i hi
    obtain ⟨b, o, s', v', kk, e⟩ := fdrop_succ i.toNat k (by omega)
    rw [e] at h
    obtain ⟨y, hy, rfl⟩ := Option.map_eq_some_iff.1 h
    exact ⟨i.toNat, b, o, s', v', kk, y, by omega, by omega, e, hy, rfl⟩
  · cases h
theorem fput_step {s v : Int} {k : Fo} {n b o : Nat} {ps : List Int} {s' v' : Int} {kk r : Fo} {x y : Int × Int × Fo} (hn : n < flen k) (hd : fdrop n k = .node b o (s', v') kk r) (hy : fput s' v' kk ps x = some y) :
    fput s v k ((n : Int) :: ps) x = some (s, v, fset k n y) := by
  simp only [fput, Int.toNat_natCast]
  rw [if_pos (by omega), hd]
  simp only [hy, Option.map_some]
theorem fput_none {s v : Int} {k : Fo} {n b o : Nat} {ps : List Int} {s' v' : Int} {kk r : Fo} {x : Int × Int × Fo} (hd : fdrop n k = .node b o (s', v') kk r) (hy : fput s' v' kk ps x = none) :
    fput s v k ((n : Int) :: ps) x = none := by
  simp only [fput, Int.toNat_natCast]
  rw [hd]
  simp only [hy, Option.map_none]
  split <;> rfl
theorem fput_out {s v : Int} {k : Fo} {i : Int} {ps : List Int} {x : Int × Int × Fo} (h : ¬(0 ≤ i ∧ i < (flen k : Int))) : fput s v k (i :: ps) x = none := by
  simp only [fput]
  rw [if_neg h]
theorem fat_step {s v : Int} {k : Fo} {n b o : Nat} {ps : List Int} {s' v' : Int} {kk r : Fo} (hn : n < flen k) (hd : fdrop n k = .node b o (s', v') kk r) : fat s v k ((n : Int) :: ps) = fat s' v' kk ps := by
  simp only [fat, Int.toNat_natCast]
  rw [if_pos (by omega), hd]
theorem fat_out {s v : Int} {k : Fo} {i : Int} {ps : List Int} (h : ¬(0 ≤ i ∧ i < (flen k : Int))) : fat s v k (i :: ps) = none := by
  simp only [fat]
  rw [if_neg h]

/-- It can be put just where something stands. -/
theorem fput_there : ∀ (p : List Int) (s v : Int) (k : Fo) (x : Int × Int × Fo), (fput s v k p x).isSome = (fat s v k p).isSome
  | [], _, _, _, _ => rfl
  | i :: ps, s, v, k, x => by
    by_cases hi : 0 ≤ i ∧ i < (flen k : Int)
    · obtain ⟨b, o, s', v', kk, e⟩ := fdrop_succ i.toNat k (by omega)
      have hin : i = (i.toNat : Int) := by omega
      rw [hin, fat_step (by omega) e, ← fput_there ps s' v' kk x]
      cases hy : fput s' v' kk ps x with
      | none => rw [fput_none e hy]
      | some y => rw [fput_step (by omega) e hy]; rfl
    · rw [fput_out hi, fat_out hi]
/-- What is put is there. -/
theorem fput_at : ∀ (p : List Int) (s v : Int) (k : Fo) (x : Int × Int × Fo) {s' v' : Int} {k' : Fo}, fput s v k p x = some (s', v', k') → fat s' v' k' p = some x
  | [], _, _, _, _, _, _, _, h => by simp only [fput, Option.some.injEq] at h; subst h; rfl
  | i :: ps, s, v, k, x, s', v', k', h => by
    obtain ⟨n, b, o, s1, v1, kk, y, rfl, hn, hd, hy, e⟩ := fput_cons h
    simp only [Prod.mk.injEq] at e
    obtain ⟨rfl, rfl, rfl⟩ := e
    obtain ⟨b', o', e'⟩ := fset_at k n y hn
    rw [fat_step (by rw [flen_set]; exact hn) e']
    exact fput_at ps s1 v1 kk x hy
/-- To put what was there changes nothing. -/
theorem fput_same : ∀ (p : List Int) (s v : Int) (k : Fo) {x : Int × Int × Fo}, fat s v k p = some x → fput s v k p x = some (s, v, k)
  | [], _, _, _, _, h => by simp only [fat, Option.some.injEq] at h; subst h; rfl
  | i :: ps, s, v, k, x, h => by
    by_cases hi : 0 ≤ i ∧ i < (flen k : Int)
    · obtain ⟨b, o, s', v', kk, e⟩ := fdrop_succ i.toNat k (by omega)
      have hin : i = (i.toNat : Int) := by omega
      rw [hin, fat_step (by omega) e] at h
      rw [hin, fput_step (by omega) e (fput_same ps s' v' kk h), fset_same k _ e]
    · rw [fat_out hi] at h; cases h
/-- What is put last counts. -/
theorem fput_twice : ∀ (p : List Int) (s v : Int) (k : Fo) (x y : Int × Int × Fo) {s' v' : Int} {k' : Fo}, fput s v k p x = some (s', v', k') → fput s' v' k' p y = fput s v k p y
  | [], _, _, _, _, _, _, _, _, _ => rfl
  | i :: ps, s, v, k, x, y, s', v', k', h => by
    obtain ⟨n, b, o, s1, v1, kk, z, rfl, hn, hd, hz, e⟩ := fput_cons h
    simp only [Prod.mk.injEq] at e
    obtain ⟨rfl, rfl, rfl⟩ := e
    obtain ⟨b', o', e'⟩ := fset_at k n z hn
    have ih := fput_twice ps s1 v1 kk x y hz
    cases hq : fput s1 v1 kk ps y with
    | none => rw [fput_none hd hq, fput_none e' (by rw [ih]; exact hq)]
    | some q => rw [fput_step hn hd hq, fput_step (by rw [flen_set]; exact hn) e' (by rw [ih]; exact hq), fset_set]
/-- The room that it takes. -/
theorem fput_sz : ∀ (p : List Int) (s v : Int) (k : Fo) (x : Int × Int × Fo) {s' v' s0 v0 : Int} {k' k0 : Fo}, fput s v k p x = some (s', v', k') → fat s v k p = some (s0, v0, k0) → fsz k' + fsz k0 = fsz k + fsz x.2.2
  | [], _, _, _, _, _, _, _, _, _, _, h, h0 => by
    simp only [fput, Option.some.injEq] at h
    simp only [fat, Option.some.injEq, Prod.mk.injEq] at h0
    obtain ⟨_, _, rfl⟩ := h0
    subst h
    exact Nat.add_comm _ _
  | i :: ps, s, v, k, x, s', v', s0, v0, k', k0, h, h0 => by
    obtain ⟨n, b, o, s1, v1, kk, ⟨z1, z2, z3⟩, rfl, hn, hd, hz, e⟩ := fput_cons h
    simp only [Prod.mk.injEq] at e
    obtain ⟨rfl, rfl, rfl⟩ := e
    rw [fat_step hn hd] at h0
    have h1 := fput_sz ps s1 v1 kk x hz h0
    have h2 := fset_sz k n (z1, z2, z3) hd
    dsimp only at h2
    omega
theorem fput_ok : ∀ (p : List Int) (s v : Int) (k : Fo) (x : Int × Int × Fo) {s' v' : Int} {k' : Fo}, okN s v (flen k) = true → fok k = true → okN x.1 x.2.1 (flen x.2.2) = true → fok x.2.2 = true → fput s v k p x = some (s', v', k') →
    okN s' v' (flen k') = true ∧ fok k' = true
  | [], _, _, _, _, _, _, _, _, _, h3, h4, h => by simp only [fput, Option.some.injEq] at h; subst h; exact ⟨h3, h4⟩
  | i :: ps, s, v, k, x, s', v', k', h1, h2, h3, h4, h => by
    obtain ⟨n, b, o, s1, v1, kk, z, rfl, hn, hd, hz, e⟩ := fput_cons h
    simp only [Prod.mk.injEq] at e
    obtain ⟨rfl, rfl, rfl⟩ := e
    have hk := fok_kid h2 hd
    have ih := fput_ok ps s1 v1 kk x hk.1 hk.2 h3 h4 hz
    exact ⟨by rw [flen_set]; exact h1, fset_ok k n z h2 ih.1 ih.2⟩

/-- No one of two places begins with the other. -/
def apart : List Int → List Int → Bool
  | i :: ps, j :: qs => i != j || apart ps qs
  | _, _ => false
/-- What stands apart from it stays. -/
theorem fput_far : ∀ (p q : List Int) (s v : Int) (k : Fo) (x : Int × Int × Fo) {s' v' : Int} {k' : Fo} {y : Int × Int × Fo}, apart q p = true → fput s v k p x = some (s', v', k') → fat s v k q = some y → fat s' v' k' q = some y
  | [], [], _, _, _, _, _, _, _, _, h, _, _ => by simp [apart] at h
  | [], _ :: _, _, _, _, _, _, _, _, _, h, _, _ => by simp [apart] at h
  | _ :: _, [], _, _, _, _, _, _, _, _, h, _, _ => by simp [apart] at h
  | i :: ps, j :: qs, s, v, k, x, s', v', k', y, ha, h, hq => by
    obtain ⟨n, b, o, s1, v1, kk, z, rfl, hn, hd, hz, e⟩ := fput_cons h
    simp only [Prod.mk.injEq] at e
    obtain ⟨rfl, rfl, rfl⟩ := e
    by_cases hj : 0 ≤ j ∧ j < (flen k : Int)
    · obtain ⟨m, rfl⟩ : ∃ m : Nat, j = m := ⟨j.toNat, by omega⟩
      obtain ⟨b2, o2, s2, v2, k2, e2⟩ := fdrop_succ m k (by omega)
      by_cases hne : n = m
      · subst hne
        obtain ⟨b', o', e'⟩ := fset_at k n z hn
        rw [fat_step hn hd] at hq
        rw [fat_step (by rw [flen_set]; exact hn) e']
        refine fput_far ps qs s1 v1 kk x ?_ hz hq
        simpa [apart] using ha
      · obtain ⟨r', e'⟩ := fset_far k n m z hne e2
        rw [fat_step (by omega) e2] at hq
        rw [fat_step (by rw [flen_set]; omega) e']
        exact hq
    · rw [fat_out hj] at hq; cases hq

/-- TermPut's answer. -/
def putR (s v : Int) (k : Fo) (place : List Int) (x : Int × Int × Fo) : Int × Int × Fo × Bool :=
  if okW s v k 16 = true ∧ okW x.1 x.2.1 x.2.2 16 = true then (match fput s v k place x with
    | some (s', v', k') => if 1 + fsz k' ≤ 16 then (s', v', k', true) else (0, 0, .nil, false)
    | none => (0, 0, .nil, false)) else (0, 0, .nil, false)
theorem putR_true {s v : Int} {k : Fo} {place : List Int} {x : Int × Int × Fo} {s' v' : Int} {k' : Fo} (h : putR s v k place x = (s', v', k', true)) :
    okW s v k 16 = true ∧ okW x.1 x.2.1 x.2.2 16 = true ∧ fput s v k place x = some (s', v', k') ∧ okW s' v' k' 16 = true := by
  unfold putR at h
  split at h
  · rename_i hok
    split at h
    · rename_i s2 v2 k2 hf
      split at h
      · rename_i hsz
        simp only [Prod.mk.injEq] at h
        obtain ⟨rfl, rfl, rfl, _⟩ := h
        have h1 := (okW_iff _ _ _ _).1 hok.1
        have h2 := (okW_iff _ _ _ _).1 hok.2
        have h3 := fput_ok place s v k x h1.1 h1.2.1 h2.1 h2.2.1 hf
        exact ⟨hok.1, hok.2, hf, (okW_iff _ _ _ _).2 ⟨h3.1, h3.2, by omega⟩⟩
      · simp at h
    · simp at h
  · simp at h
theorem putR_some {s v : Int} {k : Fo} {place : List Int} {x : Int × Int × Fo} {s' v' : Int} {k' : Fo} (h1 : okW s v k 16 = true) (h2 : okW x.1 x.2.1 x.2.2 16 = true) (h3 : fput s v k place x = some (s', v', k')) (h4 : 1 + fsz k' ≤ 16) :
    putR s v k place x = (s', v', k', true) := by
  unfold putR
  rw [if_pos ⟨h1, h2⟩, h3]
  dsimp only
  rw [if_pos h4]
theorem putR_sz {s v : Int} {k : Fo} {place : List Int} {x : Int × Int × Fo} {s' v' : Int} {k' : Fo} {t : Bool} (h : putR s v k place x = (s', v', k', t)) : fsz k' ≤ 15 := by
  cases t with
  | true => have := (okW_iff _ _ _ _).1 (putR_true h).2.2.2; omega
  | false =>
    unfold putR at h
    split at h
    · split at h
      · split at h
        · simp at h
        · simp only [Prod.mk.injEq] at h; obtain ⟨_, _, rfl, _⟩ := h; simp [fsz]
      · simp only [Prod.mk.injEq] at h; obtain ⟨_, _, rfl, _⟩ := h; simp [fsz]
    · simp only [Prod.mk.injEq] at h; obtain ⟨_, _, rfl, _⟩ := h; simp [fsz]
end Go.Proofs.Ytkmfnhoeigoajaa

/-! PS: What is put into terms, plain: parts, places, sizes, variables. -/
namespace Go.Proofs.Ytkmfnhoeigoajaa
open Go.RowKit Go.Deep

theorem fsub_id {σ : Int → Option (Int × Int × Fo)} : ∀ k : Fo, (∀ x ∈ fvl k, σ x = none) → fsub σ k = k
  | .nil, _ => rfl
  | .node x y p k r, h => by
    simp only [fvl, List.mem_append] at h
    have hr := fsub_id r (fun z hz => h z (.inr hz))
    simp only [fsub]
    by_cases e : p.1 = 0
    · have h0 := h p.2 (.inl (by rw [if_pos e]; simp))
      rw [if_pos e, h0, hr]
    · rw [if_neg e, fsub_id k (fun z hz => h z (.inl (by rw [if_neg e]; exact hz))), hr]
theorem tsub_id {σ : Int → Option (Int × Int × Fo)} {s v : Int} {k : Fo} (h : ∀ x ∈ fvs s v k, σ x = none) : tsub σ s v k = (s, v, k) := by
  unfold tsub
  unfold fvs at h
  by_cases e : s = 0
  · rw [if_pos e] at h ⊢
    rw [h v (by simp)]; rfl
  · rw [if_neg e] at h ⊢
    rw [fsub_id k h]
theorem tsub_nil (s v : Int) (k : Fo) : tsub (sv []) s v k = (s, v, k) := tsub_id fun _ _ => rfl

theorem sdR_nil {s v : Int} {k : Fo} (h : okW s v k 16 = true) : sdR [] s v k = (s, v, k, true) := by
  unfold sdR
  rw [tsub_nil, if_pos ⟨rfl, h, by have := ((okW_iff _ _ _ _).1 h).2.2; dsimp only; omega⟩]
theorem sdR_cases {bs : List Bd} {s v : Int} {k : Fo} {s' v' : Int} {k' : Fo} {t : Bool} (h : sdR bs s v k = (s', v', k', t)) :
    (t = false ∧ s' = 0 ∧ v' = 0 ∧ k' = .nil) ∨ (t = true ∧ sok 16 bs = true ∧ okW s v k 16 = true ∧ tsub (sv bs) s v k = (s', v', k') ∧ okW s' v' k' 16 = true) := by
  unfold sdR at h
  split at h
  · rename_i hc
    simp only [Prod.mk.injEq] at h
    obtain ⟨rfl, rfl, rfl, rfl⟩ := h
    have ht := tsub_ok hc.1 hc.2.1
    exact .inr ⟨rfl, hc.1, hc.2.1, rfl, (okW_iff _ _ _ _).2 ⟨ht.1, ht.2.1, by have := hc.2.2; omega⟩⟩
  · simp only [Prod.mk.injEq] at h
    obtain ⟨rfl, rfl, rfl, rfl⟩ := h
    exact .inl ⟨rfl, rfl, rfl, rfl⟩
theorem sdR_sz {bs : List Bd} {s v : Int} {k : Fo} {s' v' : Int} {k' : Fo} {t : Bool} (h : sdR bs s v k = (s', v', k', t)) : fsz k' ≤ 15 := by
  rcases sdR_cases h with ⟨_, _, _, rfl⟩ | ⟨_, _, _, _, ho⟩
  · simp [fsz]
  · have := ((okW_iff _ _ _ _).1 ho).2.2; omega
theorem sdR_of {bs : List Bd} {s v : Int} {k : Fo} {s' v' : Int} {k' : Fo} (h1 : sok 16 bs = true) (h2 : okW s v k 16 = true) (h3 : tsub (sv bs) s v k = (s', v', k')) (h4 : 1 + fsz k' ≤ 16) : sdR bs s v k = (s', v', k', true) := by
  unfold sdR
  rw [h3, if_pos ⟨h1, h2, h4⟩]
theorem sdR_big {bs : List Bd} {s v : Int} {k : Fo} {s' v' : Int} {k' : Fo} (h3 : tsub (sv bs) s v k = (s', v', k')) (h4 : ¬ 1 + fsz k' ≤ 16) : sdR bs s v k = (0, 0, .nil, false) := by
  unfold sdR
  rw [h3, if_neg fun h => h4 h.2.2]

theorem kids_none {v : Int} {k : Fo} (h : okN 0 v (flen k) = true) : k = .nil := by
  have h1 := ((okN_iff _ _ _).1 h).1
  cases k with
  | nil => rfl
  | node _ _ _ _ r => simp [flen, ar] at h1; omega
theorem sign_of_kid {s v : Int} {k : Fo} {n : Nat} (h : okN s v (flen k) = true) (hn : n < flen k) : s ≠ 0 := by
  rintro rfl
  rw [kids_none h] at hn
  simp [flen] at hn

theorem fat_sub (σ : Int → Option (Int × Int × Fo)) : ∀ (p : List Int) (s v : Int) (k : Fo) {s' v' : Int} {k' : Fo}, okN s v (flen k) = true → fok k = true → fat s v k p = some (s', v', k') →
    fat (tsub σ s v k).1 (tsub σ s v k).2.1 (tsub σ s v k).2.2 p = some (tsub σ s' v' k')
  | [], s, v, k, s', v', k', _, _, h => by
    simp only [fat, Option.some.injEq, Prod.mk.injEq] at h
    obtain ⟨rfl, rfl, rfl⟩ := h
    rfl
  | i :: ps, s, v, k, s', v', k', ho, hk, h => by
    rw [fat] at h
    split at h
    · rename_i hi
      obtain ⟨x, y, s1, v1, kk, hd⟩ := fdrop_succ i.toNat k (by omega)
      rw [hd] at h
      dsimp only at h
      have hs := sign_of_kid ho (n := i.toNat) (by omega)
      have hkk := fok_kid hk hd
      have ih := fat_sub σ ps s1 v1 kk hkk.1 hkk.2 h
      rw [tsub, if_neg hs]
      dsimp only
      rw [fat, if_pos (by rw [fsub_len]; exact hi), fsub_at σ i.toNat k hd]
      exact ih
    · cases h

theorem fset_sub (σ : Int → Option (Int × Int × Fo)) : ∀ (k : Fo) (n : Nat) (y : Int × Int × Fo), fsub σ (fset k n y) = fset (fsub σ k) n (tsub σ y.1 y.2.1 y.2.2)
  | .nil, _, _ => rfl
  | .node a b p k r, 0, y => by
    simp only [fset, fsub, tsub]
    by_cases e : y.1 = 0
    · rw [if_pos e, if_pos e]
      by_cases e2 : p.1 = 0
      · rw [if_pos e2]
        cases σ y.2.1 <;> cases σ p.2 <;> simp [fset]
      · rw [if_neg e2]
        cases σ y.2.1 <;> simp [fset]
    · rw [if_neg e, if_neg e]
      by_cases e2 : p.1 = 0
      · rw [if_pos e2]
        cases σ p.2 <;> simp [fset]
      · rw [if_neg e2]; simp [fset]
  | .node a b p k r, n + 1, y => by
    have ih := fset_sub σ r n y
    simp only [fset, fsub]
    by_cases e2 : p.1 = 0
    · rw [if_pos e2, if_pos e2]
      cases σ p.2 <;> simp [fset, ih]
    · rw [if_neg e2, if_neg e2]; simp [fset, ih]

theorem fput_sub (σ : Int → Option (Int × Int × Fo)) : ∀ (p : List Int) (s v : Int) (k : Fo) (y : Int × Int × Fo) {z : Int × Int × Fo}, okN s v (flen k) = true → fok k = true → fput s v k p y = some z →
    fput (tsub σ s v k).1 (tsub σ s v k).2.1 (tsub σ s v k).2.2 p (tsub σ y.1 y.2.1 y.2.2) = some (tsub σ z.1 z.2.1 z.2.2)
  | [], s, v, k, y, z, _, _, h => by
    simp only [fput, Option.some.injEq] at h
    subst h
    rfl
  | i :: ps, s, v, k, y, z, ho, hk, h => by
    obtain ⟨n, b, o, s', v', kk, y', rfl, hn, hd, hy, rfl⟩ := fput_cons h
    have hs := sign_of_kid ho hn
    have hkk := fok_kid hk hd
    have ih := fput_sub σ ps s' v' kk y hkk.1 hkk.2 hy
    have h1 : tsub σ s v k = (s, v, fsub σ k) := by rw [tsub, if_neg hs]
    have h2 : tsub σ s v (fset k n y') = (s, v, fset (fsub σ k) n (tsub σ y'.1 y'.2.1 y'.2.2)) := by rw [tsub, if_neg hs, fset_sub]
    rw [h1, h2]
    exact fput_step (by rw [fsub_len]; exact hn) (fsub_at σ n k hd) ih

theorem fvl_sub (σ : Int → Option (Int × Int × Fo)) (x : Int) : ∀ k : Fo, x ∈ fvl (fsub σ k) ↔ ∃ y ∈ fvl k, x ∈ fvs (tsub σ 0 y .nil).1 (tsub σ 0 y .nil).2.1 (tsub σ 0 y .nil).2.2
  | .nil => by simp [fsub, fvl]
  | .node a b p k r => by
    have ihr := fvl_sub σ x r
    have ihk := fvl_sub σ x k
    simp only [fsub]
    by_cases e : p.1 = 0
    · rw [if_pos e]
      have ht : tsub σ 0 p.2 .nil = (σ p.2).getD (0, p.2, .nil) := by rw [tsub, if_pos rfl]
      have hR : (∃ y ∈ fvl (.node a b p k r), x ∈ fvs (tsub σ 0 y .nil).1 (tsub σ 0 y .nil).2.1 (tsub σ 0 y .nil).2.2) ↔ (x ∈ fvs (tsub σ 0 p.2 .nil).1 (tsub σ 0 p.2 .nil).2.1 (tsub σ 0 p.2 .nil).2.2) ∨ x ∈ fvl (fsub σ r) := by
        rw [ihr]
        simp only [fvl, if_pos e, List.mem_append, List.mem_singleton]
        constructor
        · rintro ⟨y, rfl | hy, h⟩
          · exact .inl h
          · exact .inr ⟨y, hy, h⟩
        · rintro (h | ⟨y, hy, h⟩)
          · exact ⟨_, .inl rfl, h⟩
          · exact ⟨y, .inr hy, h⟩
      rw [hR, ht]
      cases hσ : σ p.2 with
      | none =>
        simp only [Option.getD_none, fvl, if_pos e, List.mem_append, List.mem_singleton, fvs, if_true]
      | some t =>
        simp only [Option.getD_some, fvl, List.mem_append]
        rfl
    · rw [if_neg e]
      simp only [fvl, if_neg e, List.mem_append, ihk, ihr]
      constructor
      · rintro (⟨y, hy, h⟩ | ⟨y, hy, h⟩)
        · exact ⟨y, .inl hy, h⟩
        · exact ⟨y, .inr hy, h⟩
      · rintro ⟨y, hy | hy, h⟩
        · exact .inl ⟨y, hy, h⟩
        · exact .inr ⟨y, hy, h⟩
theorem fvs_sub (σ : Int → Option (Int × Int × Fo)) (x s v : Int) (k : Fo) (hk : s = 0 → k = .nil) : x ∈ fvs (tsub σ s v k).1 (tsub σ s v k).2.1 (tsub σ s v k).2.2 ↔ ∃ y ∈ fvs s v k, x ∈ fvs (tsub σ 0 y .nil).1 (tsub σ 0 y .nil).2.1 (tsub σ 0 y .nil).2.2 := by
  by_cases e : s = 0
  · subst e
    obtain rfl := hk rfl
    simp [fvs]
  · have h1 : tsub σ s v k = (s, v, fsub σ k) := by rw [tsub, if_neg e]
    rw [h1]
    simp only [fvs, if_neg e]
    exact fvl_sub σ x k

/-- How many signs come of what stands at a place. -/
def pcnt (σ : Int → Option (Int × Int × Fo)) : Option (Int × Int × Fo) → Nat
  | some (s, v, _) => if s = 0 then 1 + fsz (tsub σ 0 v .nil).2.2 else 1
  | none => 0
theorem fpl_sum (σ : Int → Option (Int × Int × Fo)) (s v : Int) (K : Fo) : ∀ (r : Fo) (i : Nat), fdrop i K = r → fok r = true → ((fpl r i).map fun p => pcnt σ (fat s v K p)).sum = fsz (fsub σ r)
  | .nil, _, _, _ => by simp [fpl, fsub, fsz]
  | .node a b (s', v') kk r, i, hd, hk => by
    have hi : i < flen K := by
      have := flen_drop i K
      rw [hd] at this
      simp [flen] at this
      omega
    have hr : fdrop (i + 1) K = r := by
      obtain ⟨_, _, _, _, _, e⟩ := fdrop_succ i K hi
      rw [hd] at e
      simp only [BT.node.injEq] at e
      exact e.2.2.2.2.symm
    simp only [fok, Bool.and_eq_true] at hk
    have ihr := fpl_sum σ s v K r (i + 1) hr hk.2
    have ihk := fpl_sum σ s' v' kk kk 0 rfl hk.1.2
    have hst : ∀ q, fat s v K ((i : Int) :: q) = fat s' v' kk q := fun q => fat_step hi hd
    simp only [fpl, List.map_append, List.map_map, List.sum_append, ihr, List.map_cons, List.sum_cons, Function.comp_def, hst, ihk]
    simp only [fat, pcnt, fsub]
    by_cases e : s' = 0
    · subst e
      have hn : kk = .nil := kids_none hk.1.1
      subst hn
      simp only [if_true]
      have ht : tsub σ 0 v' .nil = (σ v').getD (0, v', .nil) := by rw [tsub, if_pos rfl]
      rw [ht]
      cases σ v' with
      | none => simp [fsz, fsub]; omega
      | some t => simp [fsz, fsub]; omega
    · rw [if_neg e, if_neg e]
      simp only [fsz]
      omega
theorem places_sum (σ : Int → Option (Int × Int × Fo)) {s v : Int} {k : Fo} (ho : okN s v (flen k) = true) (hk : fok k = true) : ((places k).map fun p => pcnt σ (fat s v k p)).sum = 1 + fsz (tsub σ s v k).2.2 := by
  have h := fpl_sum σ s v k k 0 rfl hk
  simp only [places, List.map_cons, List.sum_cons]
  rw [h]
  simp only [fat, pcnt]
  by_cases e : s = 0
  · subst e
    obtain rfl := kids_none ho
    simp [fsub, fsz]
  · rw [if_neg e, tsub, if_neg e]
end Go.Proofs.Ytkmfnhoeigoajaa

/-! LB: What the walks of laws hold on to: boxes of terms, and what stays when memory is added. Plain lemmas. -/
namespace Go.Proofs.Ytkmfnhoeigoajaa
open Go.RowKit Go.Deep

/-- Block b is a box that holds the term s v k; what it leads to lies in memory. -/
structure Tb (b : Nat) (s v : Int) (a : Option Addr) (c : Nat) (k : Fo) (w : World) : Prop where
  c0 : w.cell? ⟨b, 0, none⟩ = some (.int .i64 s)
  c1 : w.cell? ⟨b, 1, none⟩ = some (.int .i64 v)
  c2 : w.cell? ⟨b, 2, none⟩ = some (.slice a (flen k) c)
  sl : Sl w 0 w.heap.size a k
theorem Tb.next {b : Nat} {s v : Int} {a : Option Addr} {c : Nat} {k : Fo} {w w2 : World} (h : Tb b s v a c k w) (hb : Below w.heap.size w w2) : Tb b s v a c k w2 :=
  ⟨cell_low hb h.c0, cell_low hb h.c1, cell_low hb h.c2, (h.sl.below hb).mono (Nat.le_refl _) hb.size⟩
theorem Tb.new {s v : Int} {a : Option Addr} {c : Nat} {k : Fo} {w : World} {lo : Nat} (h : Sl w lo w.heap.size a k) : Tb w.heap.size s v a c k (w.alloc (.cells #[.int .i64 s, .int .i64 v, .slice a (flen k) c] 26)) := by
  have hb : Below w.heap.size w (w.alloc (.cells #[.int .i64 s, .int .i64 v, .slice a (flen k) c] 26)) := (Below.refl _ _).alloc (Nat.le_refl _) _
  refine ⟨?_, ?_, ?_, ((h.mono (Nat.zero_le _) (Nat.le_refl _)).below hb).mono (Nat.le_refl _) hb.size⟩
  · rw [World.cell?_alloc_at _ _ _ _ (by simp)]; rfl
  · rw [World.cell?_alloc_at _ _ _ _ (by simp)]; rfl
  · rw [World.cell?_alloc_at _ _ _ _ (by simp)]; rfl
theorem box_low (w : World) (o : Obj) : Below w.heap.size w (w.alloc o) := (Below.refl _ _).alloc (Nat.le_refl _) o
theorem Sl.next {w w2 : World} {lo : Nat} {a : Option Addr} {k : Fo} (h : Sl w lo w.heap.size a k) (hb : Below w.heap.size w w2) : Sl w2 0 w2.heap.size a k := ((h.mono (Nat.zero_le _) (Nat.le_refl _)).below hb).mono (Nat.le_refl _) hb.size
theorem BSl.next {w w2 : World} {lo : Nat} {a : Option Addr} {bs : List Bd} (h : BSl w lo w.heap.size a bs) (hb : Below w.heap.size w w2) : BSl w2 0 w2.heap.size a bs := ((h.mono (Nat.zero_le _) (Nat.le_refl _)).below hb).mono (Nat.le_refl _) hb.size
theorem ISl.next {w w2 : World} {lo : Nat} {a : Option Addr} {xs : List Int} (h : ISl w lo w.heap.size a xs) (hb : Below w.heap.size w w2) : ISl w2 0 w2.heap.size a xs := ((h.mono (Nat.zero_le _) (Nat.le_refl _)).below hb).mono (Nat.le_refl _) hb.size
theorem ISc.next {w w2 : World} {lo : Nat} {a : Option Addr} {c : Nat} {xs : List Int} (h : ISc w lo w.heap.size a c xs) (hb : Below w.heap.size w w2) : ISc w2 0 w2.heap.size a c xs := ⟨h.1.next hb, h.2⟩
theorem RSl.next {w w2 : World} {lo : Nat} {a : Option Addr} {rows : List (List Int)} (h : RSl w lo w.heap.size a rows) (hb : Below w.heap.size w w2) : RSl w2 0 w2.heap.size a rows := ((h.mono (Nat.zero_le _) (Nat.le_refl _)).below hb).mono (Nat.le_refl _) hb.size
theorem below_next {w0 w w2 : World} (h : Below w0.heap.size w0 w) (hb : Below w.heap.size w w2) : Below w0.heap.size w0 w2 := h.trans (hb.mono h.size)
theorem Bytes.next {w wn : World} {a : Option Addr} {len : Nat} (h : Bytes w a len) (hb : Below w.heap.size w wn) : Bytes wn a len := by
  rcases h with h | ⟨b, o, e, h1, h2⟩
  · exact .inl h
  · refine .inr ⟨b, o, e, Nat.lt_of_lt_of_le h1 hb.size, fun i hi => ?_⟩
    obtain ⟨x, hx, hc⟩ := h2 i hi
    exact ⟨x, hx, cell_low hb hc⟩
end Go.Proofs.Ytkmfnhoeigoajaa
