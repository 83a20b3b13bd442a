/- Several texts in one: S8, S9, LawOPut. -/
import Derived.Test.YtbgjdkpdjclagaaLFnOrderPut2

/-! S8: l71Subst, DrawSubstDo. -/
namespace Go.Proofs.Ytbgjdkpdjclagaa
open Go.RowKit Go.Deep

def SbPost (br p : Nat) (w : World) (e : Ending) (w' : World) : Prop :=
  ∃ bs A C p', e = .returned (.slice A (List.length bs) C) ∧ bs.length ≤ 20 ∧ p ≤ p' ∧ p' ≤ p + 3000 ∧ Adv w br p' w' ∧ BOwn w' w.heap.size bs A C

set_option maxRecDepth 100000 in
set_option maxHeartbeats 2000000 in
theorem l71Subst_any (vn br p : Nat) (w : World) (hr : Rd w br p) (hp : p ≤ 10000000) (hv1 : 1 ≤ vn) (hv2 : vn ≤ 10) :
    Calls Try.prog 38 #[.pointer (some ⟨br, 0, none⟩), .int .i64 (vn : Int)] w (SbPost br p w) := by
  have hlt := hr.lt
  obtain ⟨ti, hti, htz, hts, htb⟩ := Try.infoBind
  have HTI : Hid (Try.prog.info? 99 = some ti ∧ ti.zero = some (.agg #[.int .i64 0, .int .i64 0, .int .i64 0, .slice none 0 0]) ∧ ti.size = 4 ∧ ti.bytes = 48) := ⟨hti, htz, hts, htb⟩
  have HA0 : Hid (Adv w br p (w.alloc (.cells #[] 99))) := Adv.start hr ((Below.refl _ _).alloc (Nat.le_refl _) _)
  have HO0 : Hid (BOwn (w.alloc (.cells #[] 99)) w.heap.size [] (some ⟨w.heap.size, 0, none⟩) 0) := ⟨[], ⟨rfl, .inr ⟨w.heap.size, 0, #[], rfl, Nat.le_refl _, heap_alloc_new _ _, Nat.le_refl _, by decide, rfl, rfl⟩⟩, fun i x hx => by simp at hx⟩
  have HR := Lib.hid hr
  have hpk : pkN 3 ≤ 100 := by decide
  have hsk : szN 3 ≤ 500 := by decide
  clear hr hti htz hts htb
  go_enter Try.func38, Try.ntmps38
  go_wp2_with fail
  go_loopw [5, 6] (fun t i wr => ∃ (n : Nat) (bs : List Bd) (A : Option Addr) (C p' : Nat), t = .slice A bs.length C ∧ i = .int .i64 n ∧ n ≤ vn ∧ bs.length ≤ n ∧ Hid (BOwn wr w.heap.size bs A C) ∧ Hid (Adv w br p' wr) ∧ p ≤ p' ∧ p' ≤ p + n * 101 ∧ Hid (∀ (i : Nat) (x : Bd), bs[i]? = some x → 1 + fsz x.2.2.2 ≤ 500)) (fun _ i _ => vn - (intOf i).toNat)
  case atStart => exact ⟨0, [], _, _, p, rfl, rfl, Nat.zero_le _, Nat.le_refl _, HO0, HA0, Nat.le_refl _, by omega, fun i x hx => by simp at hx⟩
  case round =>
    clear HO0 HA0
    obtain ⟨n, bs, A, C, p', rfl, rfl, hn, hbl, HO, HA, hp1, hp2, HSZ⟩ := hrel
    by_cases hnv : n < vn
    · have g1 : (n : Int) < (vn : Int) := by omega
      go_wp2_with fail
      with_reducible refine (pick_any 3 br p' _ (HA.out.rd HR.out) (by omega) (by omega) (by omega)).mono ?_
      rintro e w1 ⟨y, rfl, hy, hb1⟩
      have ha1 : Adv wr br (p' + 1) w1 := hb1
      have HA1 := Lib.hid (HA.out.trans ha1)
      have HO1 := Lib.hid (HO.out.adv ha1 hlt)
      clear hb1 ha1 hy HO HA
      by_cases hy0 : y = 0
      · subst hy0
        go_wp2_with fail
        go_roundw
        case rel => exact ⟨n + 1, bs, A, C, p' + 1, rfl, by go_num, by omega, by omega, HO1, HA1, by omega, by omega, HSZ⟩
        case measure => simp [intOf]; omega
      · have y0 : (0 : Int) < (y : Int) := by omega
        go_wp2_with fail
        with_reducible refine (l71Term_any 3 3 (vn : Int) br (p' + 1) _ (by omega) (by omega) (by omega) (by omega) (by omega) (HA1.out.rd HR.out) (by omega)).mono ?_
        rintro e w2 ⟨s, v, a2, c2, k, p2, rfl, hpp1, hpp2, hS2, ha2, hl2⟩
        obtain ⟨xs, hown, hall⟩ := HO1.out
        have hs1 := HA1.out.size
        have hs2 := ha2.size
        have HOWN2 : Hid (w2.ownsRow w.heap.size 99 4 (.slice A bs.length C) bs.length xs) := own_block hown fun g hg => by
          have h1 := hown.lt g hg
          exact ha2.same (lo := g) (B := g + 1) (by omega) (by omega) g (Nat.le_refl _) (by omega)
        have HAP := Lib.hid (fun g cap w3 => BOwn.append (w0 := w) (w2 := w2) (br := br) (p := p2) (k := k) (a2 := a2) (x := (n : Int)) (g := g) (cap := cap) (w3 := w3) (blk := .cells #[.int .i64 (n : Int), .int .i64 s, .int .i64 v, .slice a2 (flen k) c2] 99) (s := s) (v := v) (c2 := c2) hown hall)
        have HA2 := Lib.hid ha2
        have HL2 := Lib.hid hl2
        have HA02 := Lib.hid (HA1.out.trans ha2)
        clear hown hall ha2 hl2 HO1
        go_wp2_with (at_builtin; refine wpList_append_lies _ rfl _ _ 37 rfl w.heap.size 99 ti _ 4 48 Try.underlying37 HTI.out.1 HTI.out.2.1 HTI.out.2.2.1 HTI.out.2.2.2 rfl (by omega) (.slice A bs.length C) bs.length xs rfl (HOWN2.out.alloc _) ⟨w2.heap.size, 0, none⟩ 1 1 [.int .i64 (n : Int), .int .i64 s, .int .i64 v, .slice a2 (flen k) c2] rfl rfl (World.news_of_block (heap_alloc_new _ _)) (by simp [Value.oneCell']) (by omega) (by unfold maxLen; omega) (by omega) (by simp; omega) (w2.heap.size + 1) (by simp) ?_; intro g cap w3 hown3 hgrow3 hat3 hg3; have HX3 := Lib.hid (HAP.out g cap w3 hown3 HA2.out hlt HL2.out hs1 hgrow3 hat3 HA02.out (Nat.le_refl _)); clear hown3 hgrow3 hat3 hg3)
        go_roundw
        case rel =>
          have hl2' : (bs ++ [((n : Int), s, v, k)]).length = bs.length + 1 := by simp
          refine ⟨n + 1, bs ++ [((n : Int), s, v, k)], some ⟨g, 0, none⟩, cap, p2, by rw [hl2'], by go_num, by omega, by omega, HX3.out.1, HX3.out.2, by omega, by omega, ?_⟩
          intro i x hx
          by_cases hi : i < bs.length
          · rw [List.getElem?_append_left hi] at hx; exact HSZ.out i x hx
          · have hi' : i = bs.length := by have := (List.getElem?_eq_some_iff.1 hx).1; omega
            subst hi'
            simp at hx
            subst hx
            show 1 + fsz k ≤ 500
            omega
        case measure => simp [intOf]; omega
    · go_wp2_with fail
      with_reducible refine (pick_any 24 br p' _ (HA.out.rd HR.out) (by omega) (by omega) (by omega)).mono ?_
      rintro e w1 ⟨y, rfl, hy, hb1⟩
      have ha1 : Adv wr br (p' + 1) w1 := hb1
      have HA1 := Lib.hid (HA.out.trans ha1)
      have HO1 := Lib.hid (HO.out.adv ha1 hlt)
      clear hb1 ha1 hy HO HA
      by_cases hy0 : y = 0
      · subst hy0
        go_wp2_with fail
        with_reducible refine (pick_any 14 br (p' + 1) _ (HA1.out.rd HR.out) (by omega) (by omega) (by omega)).mono ?_
        rintro e w2 ⟨z, rfl, hz, hb2⟩
        have ha2 : Adv w1 br (p' + 1 + 1) w2 := hb2
        have HA2 := Lib.hid (HA1.out.trans ha2)
        have HO2 := Lib.hid (HO1.out.adv ha2 hlt)
        have hz14 : z < 14 := by omega
        clear hb2 ha2 hz HO1 HA1
        go_wp2_with fail
        with_reducible refine (l71Of_any 1 none 0 0 _).mono ?_
        rintro e w3 ⟨rfl, hb3⟩
        have ha3 : Adv w2 br (p' + 1 + 1) w3 := Adv.start (HA2.out.rd HR.out) hb3
        obtain ⟨xs, hown, hall⟩ := HO2.out
        have hs2 := HA2.out.size
        have hs3 := ha3.size
        have HOWN2 : Hid (w3.ownsRow w.heap.size 99 4 (.slice A bs.length C) bs.length xs) := own_block hown fun g hg => by
          have h1 := hown.lt g hg
          exact ha3.same (lo := g) (B := g + 1) (by omega) (by omega) g (Nat.le_refl _) (by omega)
        have HAP := Lib.hid (fun g cap w4 => BOwn.append (w0 := w) (w2 := w3) (br := br) (p := p' + 1 + 1) (x := (z : Int) - 1) (g := g) (cap := cap) (w3 := w4) (blk := .cells #[.int .i64 ((z : Int) - 1), .int .i64 1, .int .i64 0, .slice none 0 0] 99) (s := 1) (v := 0) (k := .nil) (a2 := none) (c2 := 0) hown hall)
        have HA3 := Lib.hid ha3
        have HA03 := Lib.hid (HA2.out.trans ha3)
        clear hown hall ha3 hb3 HO2
        go_wp2_with (at_builtin; refine wpList_append_lies _ rfl _ _ 37 rfl w.heap.size 99 ti _ 4 48 Try.underlying37 HTI.out.1 HTI.out.2.1 HTI.out.2.2.1 HTI.out.2.2.2 rfl (by omega) (.slice A bs.length C) bs.length xs rfl (HOWN2.out.alloc _) ⟨w3.heap.size, 0, none⟩ 1 1 [.int .i64 ((z : Int) - 1), .int .i64 1, .int .i64 0, .slice none 0 0] rfl rfl (World.news_of_block (heap_alloc_new _ _)) (by simp [Value.oneCell']) (by omega) (by unfold maxLen; omega) (by omega) (by simp; omega) (w3.heap.size + 1) (by simp) ?_; intro g cap w4 hown4 hgrow4 hat4 hg4; have HX4 := Lib.hid (HAP.out g cap w4 hown4 HA3.out hlt (.inl rfl) hs2 hgrow4 hat4 HA03.out (Nat.le_refl _)); clear hown4 hgrow4 hat4 hg4)
        go_ret
        have hl2' : (bs ++ [((z : Int) - 1, (1 : Int), (0 : Int), (.nil : Fo))]).length = bs.length + 1 := by simp
        exact ⟨_, some ⟨g, 0, none⟩, cap, p' + 1 + 1, by rw [hl2']; rfl, by omega, by omega, by omega, HX4.out.2, HX4.out.1⟩
      have y0 : ((y : Int) == 0) = false := by simpa using hy0
      by_cases hy1 : y = 1
      · subst hy1
        cases bs with
        | nil =>
          go_wp2_with fail
          go_ret
          exact ⟨[], A, C, p' + 1, rfl, by simp, by omega, by omega, HA1.out, HO1.out⟩
        | cons x r =>
          obtain ⟨xv, s, v, k⟩ := x
          have hpos : (0 : Int) < ((((xv, s, v, k) : Bd) :: r).length : Int) := by simp
          obtain ⟨g, hAE, hg1, hg2⟩ : ∃ g, A = some ⟨g, 0, none⟩ ∧ w.heap.size ≤ g ∧ g < w1.heap.size := by
            obtain ⟨xs, hown, _⟩ := HO1.out
            obtain ⟨g, cap, hv, hb, hlt2⟩ := hown.form (by simp)
            simp only [Value.slice.injEq] at hv
            obtain ⟨rfl, _⟩ := hv
            exact ⟨g, rfl, hb, hlt2⟩
          subst hAE
          have hcells : ∀ {w' : World}, BOwn w' w.heap.size ((xv, s, v, k) :: r) (some ⟨g, 0, none⟩) C → ∃ a' c', w'.cell? ⟨g, 1, none⟩ = some (.int .i64 s) ∧ w'.cell? ⟨g, 2, none⟩ = some (.int .i64 v) ∧ w'.cell? ⟨g, 3, none⟩ = some (.slice a' (flen k) c') ∧ Sl w' 0 w'.heap.size a' k := fun {w'} h => by
            rcases h.bsl with h | ⟨g', o, hA, hb, hlt', hrow⟩
            · cases h
            · cases hA
              obtain ⟨a', c', _, d1, d2, d3, hl⟩ := hrow 0 _ rfl
              exact ⟨a', c', d1, d2, d3, hl.mono (Nat.zero_le _) (Nat.le_refl _)⟩
          obtain ⟨a', c', hc1, hc2, hc3, hsl⟩ := hcells HO1.out
          have hsk2 := HSZ.out 0 _ rfl
          simp only at hsk2
          go_wp2_with fail
          with_reducible refine (l71Bad_any s v a' c' k br (p' + 1) 500 _ hsl (HA1.out.rd HR.out) (by omega) (by omega) (by omega)).mono ?_
          rintro e w2 ⟨s2, v2, a2, c2, k2, p2, rfl, hq1, hq2, hS2, ha2, hl2⟩
          clear hc1 hc2 hc3 hsl
          have HS0 := Lib.hid (HO1.out.set0 (s' := s2) (v' := v2) (c2 := c2) ha2 hlt hl2)
          have HA2 := Lib.hid (HA1.out.trans ha2)
          obtain ⟨a'', c'', hc1, hc2, hc3, _⟩ := hcells (HO1.out.adv ha2 hlt)
          have hf1 : w2.frozen? ⟨g, 1, none⟩ = false := by obtain ⟨xs, hown, _⟩ := HO1.out.adv ha2 hlt; exact hown.frozenAt 1
          have hf2 : (w2.setCell ⟨g, 1, none⟩ (.int .i64 s2)).frozen? ⟨g, 2, none⟩ = false := by obtain ⟨xs, hown, _⟩ := HO1.out.adv ha2 hlt; exact (hown.stored 1 _).1.frozenAt 2
          have hf3 : ((w2.setCell ⟨g, 1, none⟩ (.int .i64 s2)).setCell ⟨g, 2, none⟩ (.int .i64 v2)).frozen? ⟨g, 3, none⟩ = false := by obtain ⟨xs, hown, _⟩ := HO1.out.adv ha2 hlt; exact ((hown.stored 1 _).1.stored 2 _).1.frozenAt 3
          have hd2 : (w2.setCell ⟨g, 1, none⟩ (.int .i64 s2)).cell? ⟨g, 2, none⟩ = some (.int .i64 v) := by
            rw [World.cell?_setCell_other _ _ _ _ (by simp)]; exact hc2
          have hd3 : ((w2.setCell ⟨g, 1, none⟩ (.int .i64 s2)).setCell ⟨g, 2, none⟩ (.int .i64 v2)).cell? ⟨g, 3, none⟩ = some (.slice a'' (flen k) c'') := by
            rw [World.cell?_setCell_other _ _ _ _ (by simp), World.cell?_setCell_other _ _ _ _ (by simp)]; exact hc3
          have HE : Hid (Adv w br p2 (((w2.setCell ⟨g, 1, none⟩ (.int .i64 s2)).setCell ⟨g, 2, none⟩ (.int .i64 v2)).setCell ⟨g, 3, none⟩ (.slice a2 (flen k2) c2))) := ((HA2.out.setCell hg1 _).setCell hg1 _).setCell hg1 _
          clear ha2 hl2
          go_wp2_with fail
          go_ret
          exact ⟨(xv, s2, v2, k2) :: r, some ⟨g, 0, none⟩, C, p2, rfl, by simp at hbl ⊢; omega, by omega, by omega, HE.out, HS0.out⟩
      · have y1 : ((y : Int) == 1) = false := by simp; omega
        go_wp2_with fail
        go_ret
        exact ⟨bs, A, C, p' + 1, rfl, by omega, by omega, by omega, HA1.out, HO1.out⟩
end Go.Proofs.Ytbgjdkpdjclagaa

/-! S9: DrawSubstDo. -/
namespace Go.Proofs.Ytbgjdkpdjclagaa
open Go.RowKit Go.Deep

def DsdPost (w : World) (e : Ending) (w' : World) : Prop :=
  ∃ bs A C s v a c k, e = .returned (.tuple #[.slice A (List.length bs) C, .agg #[.int .i64 s, .int .i64 v, .slice a (flen k) c]]) ∧ bs.length ≤ 20 ∧ 1 + fsz k ≤ 31000 ∧ Below w.heap.size w w' ∧ BSl w' w.heap.size w'.heap.size A bs ∧ Sl w' w.heap.size w'.heap.size a k

theorem dsd_end {w w1 : World} {o : Obj} {s v : Int} {a A : Option Addr} {c C : Nat} {k : Fo} {bs : List Bd} (hb : Below (w.heap.size + 1) (w.alloc o) w1) (hS : 1 + fsz k ≤ 31000) (hpl : bs.length ≤ 20) (hl : Sl w1 (w.heap.size + 1) w1.heap.size a k) (hi : BSl w1 (w.heap.size + 1) w1.heap.size A bs) (x y z : Value) :
    DsdPost w (.returned (.tuple #[.slice A bs.length C, .agg #[.int .i64 s, .int .i64 v, .slice a (flen k) c]])) (((w1.setCell ⟨w.heap.size, 0, none⟩ x).setCell ⟨w.heap.size, 1, none⟩ y).setCell ⟨w.heap.size, 2, none⟩ z) := by
  have hs : Same (w.heap.size + 1) w1.heap.size w1 (((w1.setCell ⟨w.heap.size, 0, none⟩ x).setCell ⟨w.heap.size, 1, none⟩ y).setCell ⟨w.heap.size, 2, none⟩ z) :=
    (((Same.setCell (fun _ _ _ => rfl) (.inl (by simp)) _).setCell (.inl (by simp)) _).setCell (.inl (by simp)) _)
  have hb' : Below w.heap.size w w1 := ((Below.refl _ _).alloc (Nat.le_refl _) o).trans (hb.mono (by omega))
  exact ⟨bs, A, C, s, v, a, c, k, rfl, hpl, hS, ((hb'.setCell (Nat.le_refl _) _).setCell (Nat.le_refl _) _).setCell (Nat.le_refl _) _, (hi.same hs).mono (by omega) (by simp), (hl.same hs).mono (by omega) (by simp)⟩

set_option maxRecDepth 100000 in
set_option maxHeartbeats 1000000 in
theorem DrawSubstDo_any (a : Option Addr) (len cap : Nat) (w : World) (hby : Bytes w a len) (hlen : len ≤ cap) :
    Calls Try.prog 16 #[.slice a len cap] w (DsdPost w) := by
  have HBY := Lib.hid hby
  clear hby
  go_enter Try.func16, Try.ntmps16
  go_wp2_with fail
  with_reducible refine (l6Open_any a len cap _ (HBY.out.alloc _) hlen).mono ?_
  rintro e w1 ⟨rfl, hb1, hrd⟩
  have hs1 := hb1.size
  simp at hs1
  simp only [World.size_alloc] at hrd
  have hlt1 := hrd.lt
  have HRD := Lib.hid hrd
  have HB1 : Hid (Below (w.heap.size + 1) (w.alloc (.cells #[.int .i64 0, .int .i64 0, .slice none 0 0] 26)) w1) := hb1.mono (by simp)
  clear hb1 hrd
  simp only [World.size_alloc]
  have HC : Hid (Calls Try.prog 38 #[.pointer (some ⟨w.heap.size + 1, 0, none⟩), .int .i64 3] w1 (SbPost (w.heap.size + 1) 0 w1)) := l71Subst_any 3 (w.heap.size + 1) 0 _ HRD.out (by omega) (by omega) (by omega)
  go_wp2_with fail
  with_reducible refine HC.out.mono ?_
  rintro e w2 ⟨bs, A, C, p2, rfl, hbl, _, hp2, ha2, ho2⟩
  have hs2 := ha2.size
  have HB2 := Lib.hid (adv_low HB1.out (by omega) (by omega) ha2)
  have HR2 := Lib.hid (ha2.rd HRD.out)
  have HI2 := Lib.hid ho2.bsl
  clear ha2 ho2
  go_wp2_with fail
  with_reducible refine (l71Some_any (w.heap.size + 1) p2 _ HR2.out (by omega)).mono ?_
  rintro e w3 ⟨s, v, a2, c2, k, p3, rfl, _, hp3, hS3, ha3, hl3⟩
  have hs3 := ha3.size
  have hb3 := adv_low HB2.out (by omega) (by omega) ha3
  obtain ⟨hr0, hr1, hr2, hf0, hf1, hf2⟩ := res_low hb3
  have HB3 := Lib.hid hb3
  have HL3 := Lib.hid (hl3.mono (lo' := w.heap.size + 1) (by omega) (Nat.le_refl _))
  have HI3 : Hid (BSl w3 (w.heap.size + 1) w3.heap.size A bs) := (HI2.out.same (ha3.same (Nat.le_refl _) (.inl (by omega)))).mono (by omega) hs3
  clear ha3 hl3 hb3
  go_wp2_with fail
  refine bodyPost_ret (v := .tuple #[.slice A bs.length C, .agg #[.int .i64 s, .int .i64 v, .slice a2 (flen k) c2]]) ?_ rfl (dsd_end HB3.out hS3 hbl HL3.out HI3.out _ _ _)
  simp [results, Try.results16, go_sem, hr0, hr1, hr2]
end Go.Proofs.Ytbgjdkpdjclagaa

/-! LawOPut: laws.FnOrderPut answers true at any two codes. -/
namespace Go.Proofs.Ytbgjdkpdjclagaa
open Go.RowKit Go.Deep

set_option maxRecDepth 100000 in
set_option maxHeartbeats 4000000 in
theorem orderPut_walk (a0 : Option Addr) (len cap : Nat) (a1 : Option Addr) (len1 cap1 : Nat) (w : World) (hby : Bytes w a0 len) (hlen : len ≤ cap) (hby1 : Bytes w a1 len1) (hlen1 : len1 ≤ cap1) :
    Calls Try.prog 4 #[.slice a0 len cap, .slice a1 len1 cap1] w fun e w' => e = .returned (.bool true) ∧ Below w.heap.size w w' := by
  have HBY := Lib.hid hby
  have HBY1 := Lib.hid hby1
  clear hby hby1
  by_cases hbig : 1048576 < len
  · go_enter Try.func4, Try.ntmps4
    go_wp2_with fail
    go_ret
    exact ⟨rfl, Below.refl _ _⟩
  by_cases hbig1 : 1048576 < len1
  · go_enter Try.func4, Try.ntmps4
    go_wp2_with fail
    go_ret
    exact ⟨rfl, Below.refl _ _⟩
  go_enter Try.func4, Try.ntmps4
  go_wp2_with fail
  with_reducible refine (DrawOrderMore_any a0 len cap _ HBY.out hlen).mono ?_
  rintro e wa ⟨xs, A, C, s, v, a, c, k, s', v', a', c', k', rfl, hx4, hS, hS', hb1, hi1, hl1, hl1'⟩
  have HO0 := Lib.hid (ob_start (C := C) (s := s) (v := v) (c := c) (s' := s') (v' := v') (c' := c') hb1 hi1 hl1 hl1')
  have HX4 := Lib.hid hx4
  clear hb1 hi1 hl1 hl1' hx4
  go_wp2_with fail
  generalize ((wa.alloc (.cells #[.int .i64 s, .int .i64 v, .slice a (flen k) c] 26)).alloc (.cells #[.int .i64 s', .int .i64 v', .slice a' (flen k') c'] 26)) = wx at *
  with_reducible refine (DrawSubstDo_any a1 len1 cap1 _ (HBY1.out.low HO0.out.low) hlen1).mono ?_
  rintro e wb ⟨bs, A2, C2, su, vu, au, cu, ku, rfl, hbl, hSu, hb2, hi2, hl2⟩
  have HO1 := Lib.hid ((HO0.out.next hb2).next ((Below.refl _ _).alloc (Nat.le_refl _) (.cells #[.int .i64 su, .int .i64 vu, .slice au (flen ku) cu] 26)))
  have HS1 : Hid (BSl (wb.alloc (.cells #[.int .i64 su, .int .i64 vu, .slice au (flen ku) cu] 26)) 0 (wb.alloc (.cells #[.int .i64 su, .int .i64 vu, .slice au (flen ku) cu] 26)).heap.size A2 bs) := ((hi2.mono (Nat.zero_le _) (Nat.le_refl _)).below ((Below.refl _ _).alloc (Nat.le_refl _) _)).mono (Nat.le_refl _) (by simp)
  clear hb2 hi2 hl2 HO0 HBY HBY1
  cases hST : moreR xs s v k s' v' k' with
  | false =>
    have HST := Lib.hid hST
    clear hST
    have qs0 := HO1.out.s0
    have qs1 := HO1.out.s1
    have qs2 := HO1.out.s2
    have qt0 := HO1.out.t0
    have qt1 := HO1.out.t1
    have qt2 := HO1.out.t2
    go_wp2_with fail
    with_reducible refine (iOrderMore_any xs A C s v a c k s' v' a' c' k' _ HO1.out.ints HO1.out.one HO1.out.two).mono ?_
    rw [HST.out]
    rintro e w2 ⟨rfl, hb⟩
    have HS2 : Hid (BSl w2 0 w2.heap.size A2 bs) := (HS1.out.below hb).mono (Nat.le_refl _) hb.size
    clear HS1
    have HO2 := Lib.hid (HO1.out.next hb)
    clear qs0 qs1 qs2 qt0 qt1 qt2
    clear hb HO1
    have qs0 := HO2.out.s0
    have qs1 := HO2.out.s1
    have qs2 := HO2.out.s2
    have qt0 := HO2.out.t0
    have qt1 := HO2.out.t1
    have qt2 := HO2.out.t2
    go_wp2_with fail
    with_reducible refine (sOrderMore_any xs A C s v a c k s' v' a' c' k' _ HO2.out.ints HO2.out.one HO2.out.two).mono ?_
    rw [HST.out]
    rintro e w3 ⟨rfl, hb⟩
    have HS3 : Hid (BSl w3 0 w3.heap.size A2 bs) := (HS2.out.below hb).mono (Nat.le_refl _) hb.size
    clear HS2
    have HO3 := Lib.hid (HO2.out.next hb)
    clear qs0 qs1 qs2 qt0 qt1 qt2
    clear hb HO2
    have qs0 := HO3.out.s0
    have qs1 := HO3.out.s1
    have qs2 := HO3.out.s2
    have qt0 := HO3.out.t0
    have qt1 := HO3.out.t1
    have qt2 := HO3.out.t2
    go_wp2_with fail
    with_reducible refine (sOrderMore_any xs A C s v a c k s' v' a' c' k' _ HO3.out.ints HO3.out.one HO3.out.two).mono ?_
    rw [HST.out]
    rintro e w4 ⟨rfl, hb⟩
    have HS4 : Hid (BSl w4 0 w4.heap.size A2 bs) := (HS3.out.below hb).mono (Nat.le_refl _) hb.size
    clear HS3
    have HO4 := Lib.hid (HO3.out.next hb)
    clear qs0 qs1 qs2 qt0 qt1 qt2
    clear hb HO3
    go_wp2_with fail
    go_ret
    exact ⟨rfl, HO4.out.low⟩
  | true =>
    have HST := Lib.hid hST
    clear hST
    have qs0 := HO1.out.s0
    have qs1 := HO1.out.s1
    have qs2 := HO1.out.s2
    have qt0 := HO1.out.t0
    have qt1 := HO1.out.t1
    have qt2 := HO1.out.t2
    go_wp2_with fail
    with_reducible refine (iOrderMore_any xs A C s v a c k s' v' a' c' k' _ HO1.out.ints HO1.out.one HO1.out.two).mono ?_
    rw [HST.out]
    rintro e w2 ⟨rfl, hb⟩
    have HS2 : Hid (BSl w2 0 w2.heap.size A2 bs) := (HS1.out.below hb).mono (Nat.le_refl _) hb.size
    clear HS1
    have HO2 := Lib.hid (HO1.out.next hb)
    clear qs0 qs1 qs2 qt0 qt1 qt2
    clear hb HO1
    have qs0 := HO2.out.s0
    have qs1 := HO2.out.s1
    have qs2 := HO2.out.s2
    have qt0 := HO2.out.t0
    have qt1 := HO2.out.t1
    have qt2 := HO2.out.t2
    go_wp2_with fail
    with_reducible refine (sOrderMore_any xs A C s v a c k s' v' a' c' k' _ HO2.out.ints HO2.out.one HO2.out.two).mono ?_
    rw [HST.out]
    rintro e w3 ⟨rfl, hb⟩
    have HS3 : Hid (BSl w3 0 w3.heap.size A2 bs) := (HS2.out.below hb).mono (Nat.le_refl _) hb.size
    clear HS2
    have HO3 := Lib.hid (HO2.out.next hb)
    clear qs0 qs1 qs2 qt0 qt1 qt2
    clear hb HO2
    have qs0 := HO3.out.s0
    have qs1 := HO3.out.s1
    have qs2 := HO3.out.s2
    have qt0 := HO3.out.t0
    have qt1 := HO3.out.t1
    have qt2 := HO3.out.t2
    go_wp2_with fail
    with_reducible refine (iSubstDo_any bs A2 C2 s v a c k _ HS3.out (by omega) HO3.out.one).mono ?_
    rintro e w4 ⟨ax, cx, sx, vx, kx, tx, hdx, rfl, hb4, hlx⟩
    have hba : Below w4.heap.size w4 (w4.alloc (.cells #[.int .i64 sx, .int .i64 vx, .slice ax (flen kx) cx] 26)) := (Below.refl _ _).alloc (Nat.le_refl _) _
    have HO4 := Lib.hid ((HO3.out.next hb4).next hba)
    have HS4 : Hid (BSl (w4.alloc (.cells #[.int .i64 sx, .int .i64 vx, .slice ax (flen kx) cx] 26)) 0 (w4.alloc (.cells #[.int .i64 sx, .int .i64 vx, .slice ax (flen kx) cx] 26)).heap.size A2 bs) := (((HS3.out.below hb4).mono (Nat.le_refl _) hb4.size).below hba).mono (Nat.le_refl _) hba.size
    have HLX : Hid (Sl (w4.alloc (.cells #[.int .i64 sx, .int .i64 vx, .slice ax (flen kx) cx] 26)) 0 (w4.alloc (.cells #[.int .i64 sx, .int .i64 vx, .slice ax (flen kx) cx] 26)).heap.size ax kx) := ((hlx.mono (Nat.zero_le _) (Nat.le_refl _)).below hba).mono (Nat.le_refl _) hba.size
    have HDX := Lib.hid hdx
    clear qs0 qs1 qs2 qt0 qt1 qt2
    clear hb4 hlx hdx hba HO3 HS3
    have qs0 := HO4.out.s0
    have qs1 := HO4.out.s1
    have qs2 := HO4.out.s2
    have qt0 := HO4.out.t0
    have qt1 := HO4.out.t1
    have qt2 := HO4.out.t2
    go_wp2_with fail
    with_reducible refine (iSubstDo_any bs A2 C2 s' v' a' c' k' _ HS4.out (by omega) HO4.out.two).mono ?_
    rintro e w5 ⟨ay, cy, sy, vy, ky, ty, hdy, rfl, hb5, hly⟩
    have hba : Below w5.heap.size w5 (w5.alloc (.cells #[.int .i64 sy, .int .i64 vy, .slice ay (flen ky) cy] 26)) := (Below.refl _ _).alloc (Nat.le_refl _) _
    have HO5 := Lib.hid ((HO4.out.next hb5).next hba)
    have HLX5 : Hid (Sl (w5.alloc (.cells #[.int .i64 sy, .int .i64 vy, .slice ay (flen ky) cy] 26)) 0 (w5.alloc (.cells #[.int .i64 sy, .int .i64 vy, .slice ay (flen ky) cy] 26)).heap.size ax kx) := (((HLX.out.below hb5).mono (Nat.le_refl _) hb5.size).below hba).mono (Nat.le_refl _) hba.size
    have HLY5 : Hid (Sl (w5.alloc (.cells #[.int .i64 sy, .int .i64 vy, .slice ay (flen ky) cy] 26)) 0 (w5.alloc (.cells #[.int .i64 sy, .int .i64 vy, .slice ay (flen ky) cy] 26)).heap.size ay ky) := ((hly.mono (Nat.zero_le _) (Nat.le_refl _)).below hba).mono (Nat.le_refl _) hba.size
    have hb5' : Below (w4.heap.size + 1) (w4.alloc (.cells #[.int .i64 sx, .int .i64 vx, .slice ax (flen kx) cx] 26)) w5 := hb5.mono (by simp)
    obtain ⟨qx0, qx1, qx2, _⟩ := res_low (hb5'.alloc (by have := hb5'.size; simpa using this) (.cells #[.int .i64 sy, .int .i64 vy, .slice ay (flen ky) cy] 26))
    obtain ⟨qy0, qy1, qy2, _⟩ := res_low (Below.refl (w5.heap.size + 1) (w5.alloc (.cells #[.int .i64 sy, .int .i64 vy, .slice ay (flen ky) cy] 26)))
    clear qs0 qs1 qs2 qt0 qt1 qt2
    clear hb5 hb5' hly hba HO4 HS4 HLX
    cases tx with
    | false =>
      go_wp2_with fail
      go_ret
      exact ⟨rfl, HO5.out.low⟩
    | true =>
      cases ty with
      | false =>
        go_wp2_with fail
        go_ret
        exact ⟨rfl, HO5.out.low⟩
      | true =>
        have HXY := Lib.hid (more_sub HST.out HDX.out hdy)
        go_wp2_with fail
        with_reducible refine (iOrderMore_any xs A C sx vx ax cx kx sy vy ay cy ky _ HO5.out.ints HLX5.out HLY5.out).mono ?_
        rw [HXY.out]
        rintro e w6 ⟨rfl, hb⟩
        have HO6 := Lib.hid (HO5.out.next hb)
        clear hb HO5
        go_wp2_with fail
        go_ret
        exact ⟨rfl, HO6.out.low⟩
end Go.Proofs.Ytbgjdkpdjclagaa
