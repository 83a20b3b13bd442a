/- Several texts in one: XS3, XSk, S6t. -/
import Derived.Test.YtpjjaolhmhfoeaaKBind15
import Derived.Test.YtpjjaolhmhfoeaaKBind16
import Derived.Test.YtpjjaolhmhfoeaaKBind10
import Derived.Test.YtpjjaolhmhfoeaaKBind8

/-! XS3: Marks in a copy of a row of binds. -/
namespace Go.Proofs.Ytpjjaolhmhfoeaa
open Go.RowKit Go.Deep

/-- In the midst of the marking. -/
structure MsAt (w : World) (base top g : Nat) (bs : List Bd) (wr : World) : Prop where
  low : Below base w wr
  far : ∀ b, top ≤ b → b < w.heap.size → wr.heap[b]? = w.heap[b]?
  fr : ∀ o, wr.frozen? ⟨g, o, none⟩ = false
  cells : ∀ i x, bs[i]? = some x → ∃ y0 y1 y2 a c, wr.cell? ⟨g, i * 4, none⟩ = some (.int .i64 y0) ∧ wr.cell? ⟨g, i * 4 + 1, none⟩ = some (.int .i64 y1) ∧ wr.cell? ⟨g, i * 4 + 2, none⟩ = some (.int .i64 y2) ∧ wr.cell? ⟨g, i * 4 + 3, none⟩ = some (.slice a (flen x.2.2.2) c) ∧ ShS wr (g + 1) top a x.2.2.2
theorem MsAt.step {w wr w2 : World} {base top g : Nat} {bs : List Bd} {j : Nat} {m0 m1 m2 : Int} (h : MsAt w base top g bs wr) (hgb : base ≤ g) (hgt : g < top) (_htop : top ≤ w.heap.size) {z0 z1 z2 : Int} (c0 : wr.cell? ⟨g, j * 4, none⟩ = some (.int .i64 z0)) (c1 : wr.cell? ⟨g, j * 4 + 1, none⟩ = some (.int .i64 z1)) (c2 : wr.cell? ⟨g, j * 4 + 2, none⟩ = some (.int .i64 z2))
    (hm : Marked (g + 1) top (((wr.setCell ⟨g, j * 4, none⟩ (.int .i64 m0)).setCell ⟨g, j * 4 + 1, none⟩ (.int .i64 m1)).setCell ⟨g, j * 4 + 2, none⟩ (.int .i64 m2)) w2) : MsAt w base top g bs w2 := by
  have hsz := h.low.size
  have hg2 : ∀ o, w2.cell? ⟨g, o, none⟩ = (((wr.setCell ⟨g, j * 4, none⟩ (.int .i64 m0)).setCell ⟨g, j * 4 + 1, none⟩ (.int .i64 m1)).setCell ⟨g, j * 4 + 2, none⟩ (.int .i64 m2)).cell? ⟨g, o, none⟩ := fun o => World.cell?_of_block (a := ⟨g, o, none⟩) (hm.below.block g (by omega))
  have hgo : ∀ o, o ≠ j * 4 → o ≠ j * 4 + 1 → o ≠ j * 4 + 2 → w2.cell? ⟨g, o, none⟩ = wr.cell? ⟨g, o, none⟩ := fun o h0 h1 h2 => by
    rw [hg2 o, World.cell?_setCell_other _ _ _ _ (ne_offB (Ne.symm h2)), World.cell?_setCell_other _ _ _ _ (ne_offB (Ne.symm h1)), World.cell?_setCell_other _ _ _ _ (ne_offB (Ne.symm h0))]
  have hs0 : w2.cell? ⟨g, j * 4, none⟩ = some (.int .i64 m0) := by
    rw [hg2, World.cell?_setCell_other _ _ _ _ (ne_offB (by omega)), World.cell?_setCell_other _ _ _ _ (ne_offB (by omega))]; exact World.cell?_setCell_same _ _ _ c0
  have hs1 : w2.cell? ⟨g, j * 4 + 1, none⟩ = some (.int .i64 m1) := by
    rw [hg2, World.cell?_setCell_other _ _ _ _ (ne_offB (by omega))]
    refine World.cell?_setCell_same _ _ _ (?_ : _ = some (.int .i64 z1))
    rw [World.cell?_setCell_other _ _ _ _ (ne_offB (by omega))]; exact c1
  have hs2 : w2.cell? ⟨g, j * 4 + 2, none⟩ = some (.int .i64 m2) := by
    rw [hg2]
    refine World.cell?_setCell_same _ _ _ (?_ : _ = some (.int .i64 z2))
    rw [World.cell?_setCell_other _ _ _ _ (ne_offB (by omega)), World.cell?_setCell_other _ _ _ _ (ne_offB (by omega))]; exact c2
  have hint : ∀ o y, wr.cell? ⟨g, o, none⟩ = some (.int .i64 y) → ∃ y', w2.cell? ⟨g, o, none⟩ = some (.int .i64 y') := fun o y hy => by
    by_cases e0 : o = j * 4
    · exact ⟨m0, by rw [e0]; exact hs0⟩
    by_cases e1 : o = j * 4 + 1
    · exact ⟨m1, by rw [e1]; exact hs1⟩
    by_cases e2 : o = j * 4 + 2
    · exact ⟨m2, by rw [e2]; exact hs2⟩
    exact ⟨y, by rw [hgo o e0 e1 e2]; exact hy⟩
  have hS : Same (g + 1) top wr (((wr.setCell ⟨g, j * 4, none⟩ (.int .i64 m0)).setCell ⟨g, j * 4 + 1, none⟩ (.int .i64 m1)).setCell ⟨g, j * 4 + 2, none⟩ (.int .i64 m2)) := ((Same.setCell (fun _ _ _ => rfl) (.inl (by simp)) _).setCell (.inl (by simp)) _).setCell (.inl (by simp)) _
  refine ⟨(((h.low.setCell hgb _).setCell hgb _).setCell hgb _).trans (hm.below.mono (by omega)), fun b h1 h2 => ?_, fun o => ?_, fun i x hx => ?_⟩
  · rw [hm.far b h1 (by simp; omega), Below.heap_setCell _ _ _ _ (by simp; omega), Below.heap_setCell _ _ _ _ (by simp; omega), Below.heap_setCell _ _ _ _ (by simp; omega)]; exact h.far b h1 h2
  · rw [frozen_same (hm.below.block g (by omega)), World.frozen?_setCell, World.frozen?_setCell, World.frozen?_setCell]; exact h.fr o
  · obtain ⟨y0, y1, y2, a, c, d0, d1, d2, d3, hsh⟩ := h.cells i x hx
    obtain ⟨y0', e0⟩ := hint _ _ d0
    obtain ⟨y1', e1⟩ := hint _ _ d1
    obtain ⟨y2', e2⟩ := hint _ _ d2
    refine ⟨y0', y1', y2', a, c, e0, e1, e2, by rw [hgo _ (by omega) (by omega) (by omega)]; exact d3, ShS.marked hm (?_)⟩
    rcases hsh with hsh | ⟨b, e, hsh⟩
    · exact .inl hsh
    · exact .inr ⟨b, e, hsh.same hS⟩
def MsPost (base top : Nat) (bs : List Bd) (m : Int) (w : World) (e : Ending) (w' : World) : Prop :=
  e = .returned (.int .i64 (m + mcn bs)) ∧ Below base w w' ∧ ∀ b, top ≤ b → b < w.heap.size → w'.heap[b]? = w.heap[b]?

set_option maxRecDepth 100000 in
set_option maxHeartbeats 2000000 in
theorem markBindSs_any (bs : List Bd) (A : Option Addr) (C base top : Nat) (m : Int) (w : World) (h : BS w base top bs A) (htop : top ≤ w.heap.size) (hl : bs.length ≤ 1048576) (hz : ∀ x ∈ bs, fsz x.2.2.2 ≤ 1048576) (hm0 : 0 ≤ m) (hm1 : m ≤ 1000) (hmm : mcn bs ≤ 4000000) :
    Calls Try.prog 24 #[.slice A bs.length C, .int .i64 m] w (MsPost base top bs m w) := by
  have HZ := Lib.hid hz
  rcases h with rfl | ⟨g, rfl, hgb, hgt, hf, hc⟩
  · go_enter Try.func24, Try.ntmps24
    go_wp2_with fail
    go_loopw [1, 5] (fun t i wr => t = .int .i64 m ∧ i = .int .i64 0 ∧ wr = w) (fun _ _ _ => 0)
    case atStart => exact ⟨rfl, rfl, rfl⟩
    case round =>
      obtain ⟨rfl, rfl, rfl⟩ := hrel
      go_wp2_with fail
      go_ret
      exact ⟨by simp [mcn], Below.refl _ _, fun _ _ _ => rfl⟩
  have HST : Hid (MsAt w base top g bs w) := ⟨Below.refl _ _, fun _ _ _ => rfl, hf, fun i x hx => by
    obtain ⟨a, c, c0, c1, c2, c3, ht⟩ := hc i x hx
    exact ⟨_, _, _, a, c, c0, c1, c2, c3, ht.2⟩⟩
  clear hf hc hz
  go_enter Try.func24, Try.ntmps24
  go_wp2_with fail
  go_loopw [1, 5] (fun t i wr => ∃ j : Nat, t = .int .i64 (m + mcn (bs.take j)) ∧ i = .int .i64 j ∧ j ≤ bs.length ∧ Hid (MsAt w base top g bs wr)) (fun _ i _ => bs.length - (intOf i).toNat)
  case atStart => exact ⟨0, by simp [mcn], rfl, Nat.zero_le _, HST⟩
  case round =>
    clear HST
    obtain ⟨j, rfl, rfl, hj, HAT⟩ := hrel
    have hsz := HAT.out.low.size
    by_cases hlt : j < bs.length
    · obtain ⟨x, hx⟩ : ∃ x, bs[j]? = some x := ⟨bs[j], List.getElem?_eq_getElem hlt⟩
      obtain ⟨x1, x2, x3, xk⟩ := x
      obtain ⟨y0, y1, y2, a, c, c0, c1, c2, c3, ht⟩ := HAT.out.cells j _ hx
      dsimp only at c3 ht
      have hxz := HZ.out _ (List.mem_of_getElem? hx)
      dsimp only at hxz
      have hp := mcn_pos (bs.take j)
      have hq := mcn_le (bs := bs) (j + 1)
      rw [mcn_take hx] at hq
      dsimp only at hq
      have HNX : Hid (mcn (bs.take (j + 1)) = mcn (bs.take j) + (3 + 2 * (fsz xk : Int))) := mcn_take hx
      have f0 := HAT.out.fr (j * 4)
      have f1 := HAT.out.fr (j * 4 + 1)
      have f2 := HAT.out.fr (j * 4 + 1 + 1)
      have g1 : (0 : Int) ≤ (j : Int) := by omega
      have g2 : (j : Int) < (bs.length : Int) := by omega
      have hS0 : Same (g + 1) top wr (((wr.setCell ⟨g, j * 4, none⟩ (.int .i64 (m + mcn (bs.take j)))).setCell ⟨g, j * 4 + 1, none⟩ (.int .i64 (m + mcn (bs.take j) + 1))).setCell ⟨g, j * 4 + 1 + 1, none⟩ (.int .i64 (m + mcn (bs.take j) + 1 + 1))) := ((Same.setCell (fun _ _ _ => rfl) (.inl (by simp)) _).setCell (.inl (by simp)) _).setCell (.inl (by simp)) _
      have HSH : Hid (ShS (((wr.setCell ⟨g, j * 4, none⟩ (.int .i64 (m + mcn (bs.take j)))).setCell ⟨g, j * 4 + 1, none⟩ (.int .i64 (m + mcn (bs.take j) + 1))).setCell ⟨g, j * 4 + 1 + 1, none⟩ (.int .i64 (m + mcn (bs.take j) + 1 + 1))) (g + 1) top a xk) := by
        rcases ht with ht | ⟨b, e, ht⟩
        · exact .inl ht
        · exact .inr ⟨b, e, ht.same hS0⟩
      have HC := Lib.hid (And.intro c0 (And.intro c1 c2))
      have d1 : (wr.setCell ⟨g, j * 4, none⟩ (.int .i64 (m + mcn (bs.take j)))).cell? ⟨g, j * 4 + 1, none⟩ = some (.int .i64 y1) := by rw [World.cell?_setCell_other _ _ _ _ (ne_offB (by omega))]; exact c1
      have d2 : ((wr.setCell ⟨g, j * 4, none⟩ (.int .i64 (m + mcn (bs.take j)))).setCell ⟨g, j * 4 + 1, none⟩ (.int .i64 (m + mcn (bs.take j) + 1))).cell? ⟨g, j * 4 + 1 + 1, none⟩ = some (.int .i64 y2) := by rw [World.cell?_setCell_other _ _ _ _ (ne_offB (by omega)), World.cell?_setCell_other _ _ _ _ (ne_offB (by omega))]; exact c2
      have d3 : (((wr.setCell ⟨g, j * 4, none⟩ (.int .i64 (m + mcn (bs.take j)))).setCell ⟨g, j * 4 + 1, none⟩ (.int .i64 (m + mcn (bs.take j) + 1))).setCell ⟨g, j * 4 + 1 + 1, none⟩ (.int .i64 (m + mcn (bs.take j) + 1 + 1))).cell? ⟨g, j * 4 + 1 + 2, none⟩ = some (.slice a (flen xk) c) := by
        rw [World.cell?_setCell_other _ _ _ _ (ne_offB (by omega)), World.cell?_setCell_other _ _ _ _ (ne_offB (by omega)), World.cell?_setCell_other _ _ _ _ (ne_offB (by omega))]; exact c3
      clear hx ht hS0 c1 c2 c3
      have HCALL := Lib.hid (markTermS_any (fsz xk) a c xk (g + 1) top (m + mcn (bs.take j) + 1 + 1 + 1) (((wr.setCell ⟨g, j * 4, none⟩ (.int .i64 (m + mcn (bs.take j)))).setCell ⟨g, j * 4 + 1, none⟩ (.int .i64 (m + mcn (bs.take j) + 1))).setCell ⟨g, j * 4 + 1 + 1, none⟩ (.int .i64 (m + mcn (bs.take j) + 1 + 1))) HSH.out (Nat.le_refl _) hxz (by omega) (by omega) (by simp; omega) (by simp; omega))
      go_wp2_with fail
      with_reducible refine HCALL.out.mono ?_
      rintro e w2 ⟨rfl, hmk⟩
      have HAT2 := Lib.hid (HAT.out.step hgb hgt htop HC.out.1 HC.out.2.1 HC.out.2.2 hmk)
      clear hmk HCALL HSH d1 d2 d3 c0 f0 f1 f2
      go_wp2_with fail
      go_roundw
      case rel => exact ⟨j + 1, by rw [HNX.out]; congr 1; omega, by go_num, by omega, HAT2⟩
      case measure => simp [intOf]; omega
    · have hje : j = bs.length := by omega
      subst hje
      have HE : Hid (bs.take bs.length = bs) := List.take_length
      have HP : Hid (MsPost base top bs m w (.returned (.int .i64 (m + mcn (bs.take bs.length)))) wr) := ⟨by rw [HE.out], HAT.out.low, HAT.out.far⟩
      go_wp2_with fail
      go_ret
      exact HP.out
end Go.Proofs.Ytpjjaolhmhfoeaa

/-! XSk: For every slice of binds, laws.FnExactSubstOk answers true and writes nothing that was there. -/
namespace Go.Proofs.Ytpjjaolhmhfoeaa
open Go.RowKit Go.Deep

/-- A copy that lies in blocks of its own. -/
structure Gs (lo hi : Nat) (bs : List Bd) (A : Option Addr) (w : World) : Prop where
  bx : BS w lo hi bs A
  le : hi ≤ w.heap.size
theorem Gs.next {lo hi : Nat} {bs : List Bd} {A : Option Addr} {w w2 : World} (h : Gs lo hi bs A w) (hb : Below w.heap.size w w2) : Gs lo hi bs A w2 := ⟨h.bx.same (Same.of_below (hb.mono h.le)), Nat.le_trans h.le hb.size⟩
theorem Gs.top {lo hi : Nat} {bs : List Bd} {A : Option Addr} {w : World} (h : Gs lo hi bs A w) : BSl w 0 w.heap.size A bs := h.bx.bsl.mono (Nat.zero_le _) h.le

set_option maxRecDepth 100000 in
set_option maxHeartbeats 2000000 in
theorem exactSubstOk_walk (A : Option Addr) (C : Nat) (bs : List Bd) (w : World) (h : BSl w 0 w.heap.size A bs) (hm : bs.length ≤ maxLen) (hall : ∀ x ∈ bs, flen x.2.2.2 ≤ maxLen ∧ fcap x.2.2.2) :
    Calls Try.prog 5 #[.slice A bs.length C] w fun e w' => e = .returned (.bool true) ∧ Below w.heap.size w w' := by
  have HP : Hid (Rw w.heap.size bs A w) := ⟨h, Nat.le_refl _⟩
  have HM := Lib.hid hm
  have HA := Lib.hid hall
  clear h hm hall
  go_enter Try.func5, Try.ntmps5
  go_wp2_with fail
  with_reducible refine (szBindS_any bs A C 1048576 _ HP.out.top HM.out HA.out (by omega) (by omega)).mono ?_
  rintro e w1 ⟨rfl, hb1⟩
  have HL1 := Lib.hid hb1
  replace HP := Lib.hid (HP.out.next hb1)
  clear hb1
  rcases szBR_case bs 1048576 with hz | hz
  · rw [hz]
    clear hz
    go_wp2_with fail
    go_ret
    exact ⟨rfl, HL1.out⟩
  have hfit := (szBR_fit hz (by omega)).1
  have HZ : Hid (∀ x ∈ bs, fsz x.2.2.2 ≤ 1048576) := fun x hx => by have := szT_mem hx; omega
  generalize szBR bs 1048576 = z at *
  go_wp2_with fail
  with_reducible refine (toBindS_any bs A C _ HP.out.top (by omega) HZ.out).mono ?_
  rintro e w2 ⟨A2, C2, rfl, hb2, hs2⟩
  have HL2 := Lib.hid (low_next HL1.out hb2)
  replace HP := Lib.hid (HP.out.next hb2)
  have HS2 := Lib.hid (hs2.bsl.mono (lo' := 0) (Nat.zero_le _) (Nat.le_refl _))
  clear hb2 hs2 hz HL1
  go_wp2_with fail
  with_reducible refine (sSubstOk_any bs A2 C2 _ HS2.out (by omega)).mono ?_
  rintro e w3 ⟨rfl, hb3⟩
  have HL3 := Lib.hid (low_next HL2.out hb3)
  replace HP := Lib.hid (HP.out.next hb3)
  clear hb3 HS2 HL2
  go_wp2_with fail
  with_reducible refine (toBindS_any bs A C _ HP.out.top (by omega) HZ.out).mono ?_
  rintro e w4 ⟨A4, C4, rfl, hb4, hs4⟩
  have HL4 := Lib.hid (low_next HL3.out hb4)
  replace HP := Lib.hid (HP.out.next hb4)
  have HX : Hid (Gs w3.heap.size w4.heap.size bs A4 w4) := ⟨hs4, Nat.le_refl _⟩
  clear hb4 hs4 HL3
  go_wp2_with fail
  with_reducible refine (iSubstOk_any bs A4 C4 _ HX.out.top (by omega)).mono ?_
  rintro e w5 ⟨rfl, hb5⟩
  have HL5 := Lib.hid (low_next HL4.out hb5)
  replace HP := Lib.hid (HP.out.next hb5)
  replace HX := Lib.hid (HX.out.next hb5)
  clear hb5 HL4
  have en : (sok 16 bs != sok 16 bs) = false := by simp
  go_wp2_with fail
  with_reducible refine (toBindS_any bs A C _ HP.out.top (by omega) HZ.out).mono ?_
  rintro e w6 ⟨A6, C6, rfl, hb6, hs6⟩
  have HL6 := Lib.hid (low_next HL5.out hb6)
  replace HX := Lib.hid (HX.out.next hb6)
  have HS6 := Lib.hid (hs6.bsl.mono (lo' := 0) (Nat.zero_le _) (Nat.le_refl _))
  clear hb6 hs6 HL5
  go_wp2_with fail
  with_reducible refine (eqBindS_same bs A4 A6 C4 C6 _ HX.out.top HS6.out (by omega) HZ.out).mono ?_
  rintro e w7 ⟨rfl, hb7⟩
  have HL7 := Lib.hid (low_next HL6.out hb7)
  clear hb7
  go_wp2_with fail
  go_ret
  exact ⟨rfl, HL7.out⟩
end Go.Proofs.Ytpjjaolhmhfoeaa

/-! S6t: impl.SubstDo: its answer owns its memory. -/
namespace Go.Proofs.Ytpjjaolhmhfoeaa
open Go.RowKit Go.Deep Go.Maps

def SdPostT (bs : List Bd) (s v : Int) (k : Fo) (w : World) (e : Ending) (w' : World) : Prop :=
  ∃ a c s' v' k' t, sdR bs s v k = (s', v', k', t) ∧ e = .returned (.tuple #[.agg #[.int .i64 s', .int .i64 v', .slice a (flen k') c], .bool t]) ∧ Below w.heap.size w w' ∧ TX w' w.heap.size w'.heap.size a k'
theorem sd_endT {w w1 : World} {bs : List Bd} {s v s' v' : Int} {k k' : Fo} {t : Bool} {a : Option Addr} {c : Nat} {o o' : Obj} (hr : sdR bs s v k = (s', v', k', t)) (hb : Below (w.heap.size + 2) ((w.alloc o).alloc o') w1) (hl : TX w1 (w.heap.size + 2) w1.heap.size a k') (x y z : Value) :
    SdPostT bs s v k w (.returned (.tuple #[.agg #[.int .i64 s', .int .i64 v', .slice a (flen k') c], .bool t])) (((w1.setCell ⟨w.heap.size + 1, 0, none⟩ x).setCell ⟨w.heap.size + 1, 1, none⟩ y).setCell ⟨w.heap.size + 1, 2, none⟩ z) := by
  have h0 : Same (w.heap.size + 2) w1.heap.size w1 w1 := fun _ _ _ => rfl
  have hb' : Below w.heap.size w w1 := (((Below.refl _ _).alloc (Nat.le_refl _) o).alloc (by simp) o').trans (hb.mono (by omega))
  exact ⟨a, c, s', v', k', t, hr, rfl, ((hb'.setCell (by simp) _).setCell (by simp) _).setCell (by simp) _, (hl.same (((h0.setCell (.inl (by simp)) _).setCell (.inl (by simp)) _).setCell (.inl (by simp)) _)).mono (by omega) (by simp)⟩

set_option maxRecDepth 100000 in
set_option maxHeartbeats 2000000 in
theorem iSubstDoT_any (bs : List Bd) (A : Option Addr) (C : Nat) (s v : Int) (a : Option Addr) (c : Nat) (k : Fo) (w : World) (hb : BSl w 0 w.heap.size A bs) (hbl : bs.length ≤ 9223372036854775807) (hl : Sl w 0 w.heap.size a k) :
    Calls Try.prog 13 #[.slice A bs.length C, .agg #[.int .i64 s, .int .i64 v, .slice a (flen k) c]] w (SdPostT bs s v k w) := by
  have hb0 : Below w.heap.size w ((w.alloc (.cells #[.int .i64 s, .int .i64 v, .slice a (flen k) c] 28)).alloc (.cells #[.int .i64 0, .int .i64 0, .slice none 0 0] 28)) := ((Below.refl _ _).alloc (Nat.le_refl _) _).alloc (by simp) _
  have HBS := Lib.hid ((hb.below hb0).mono (Nat.le_refl _) hb0.size)
  have HL0 := Lib.hid ((hl.below hb0).mono (Nat.le_refl _) hb0.size)
  have HB0 : Hid (Below (w.heap.size + 2) ((w.alloc (.cells #[.int .i64 s, .int .i64 v, .slice a (flen k) c] 28)).alloc (.cells #[.int .i64 0, .int .i64 0, .slice none 0 0] 28)) ((w.alloc (.cells #[.int .i64 s, .int .i64 v, .slice a (flen k) c] 28)).alloc (.cells #[.int .i64 0, .int .i64 0, .slice none 0 0] 28))) := Below.refl _ _
  have hsz : w.heap.size + 2 ≤ ((w.alloc (.cells #[.int .i64 s, .int .i64 v, .slice a (flen k) c] 28)).alloc (.cells #[.int .i64 0, .int .i64 0, .slice none 0 0] 28)).heap.size := by simp
  clear hb0 hb hl
  go_enter Try.func13, Try.ntmps13
  go_wp2_with fail
  with_reducible refine (substOf_any bs A C 16 _ HBS.out hbl (by omega) (by omega)).mono ?_
  rintro e w1 ⟨hb1, hcase⟩
  have hs1 := hb1.size
  have hb1' := HB0.out.trans (hb1.mono hsz)
  obtain ⟨hc0, hc1, hc2, _, _, _⟩ := tb_cellsS hb1'
  have HB1 := Lib.hid hb1'
  have HL1 := Lib.hid ((HL0.out.below hb1).mono (Nat.le_refl _) hs1)
  clear hb1 hb1'
  rcases hcase with ⟨hsok, b, rfl, hbb, hmap⟩ | ⟨hsok, rfl⟩
  · have HM1 := Lib.hid hmap
    have HSOK := Lib.hid hsok
    clear hmap hsok
    go_wp2_with fail
    with_reducible refine (nodeOf_any s v a c k 16 _ HL1.out (by omega) (by omega)).mono ?_
    rintro e w2 ⟨nv, rfl, hb2, hyes⟩
    have hs2 := hb2.size
    have hb2' := HB1.out.trans (hb2.mono (by omega))
    have HB2 := Lib.hid hb2'
    have HM2 := Lib.hid (HM1.out.below hb2)
    have HY := Lib.hid hyes
    clear hb2 hyes hc0 hc1 hc2
    cases hok : okW s v k 16 with
    | false =>
      have HR : Hid (sdR bs s v k = (0, 0, .nil, false)) := by unfold Hid sdR; rw [if_neg (by rw [hok]; simp)]
      clear hok
      have HBE := Lib.hid hb2'
      obtain ⟨hr0, hr1, hr2, hr3, hr4, hr5⟩ := tb_cellsS hb2'
      obtain ⟨hf0, hf3⟩ := tb_freeS hb2' 0 rfl rfl
      obtain ⟨hf1, hf4⟩ := tb_freeS hb2' 1 rfl rfl
      obtain ⟨hf2, hf5⟩ := tb_freeS hb2' 2 rfl rfl
      clear hb2'
      go_wp2_with fail
      refine bodyPost_ret (v := .tuple #[.agg #[.int .i64 0, .int .i64 0, .slice none 0 0], .bool false]) ?_ rfl (sd_endT (k' := .nil) HR.out HBE.out ⟨.inl rfl, .inl rfl⟩ _ _ _)
      simp [results, Try.results13, go_sem, hr3, hr4, hr5]
    | true =>
      obtain ⟨t1, t2, t3⟩ := tsub_ok HSOK.out hok
      have HT1 := Lib.hid t1
      have HT2 := Lib.hid t2
      have HN2 : Hid (NodeIs w2 0 w2.heap.size nv s v k) := (HY.out hok).mono (Nat.zero_le _) (Nat.le_refl _)
      have HOK := Lib.hid hok
      obtain ⟨o1, o2, o3⟩ := (okW_iff _ _ _ _).1 hok
      have HO1 := Lib.hid o1
      have HO2 := Lib.hid o2
      have o4 : fsz k ≤ 1000 := by omega
      clear hok hb2' t1 t2 o1 o2 HY
      go_wp2_with fail
      with_reducible refine (apply_any bs b s v k nv _ HN2.out HM2.out HO1.out HO2.out o4).mono ?_
      have HRD : Hid (∀ s' v' k', tsub (sv bs) s v k = (s', v', k') → (1 + fsz k' ≤ 16 → sdR bs s v k = (s', v', k', true)) ∧ (¬ 1 + fsz k' ≤ 16 → sdR bs s v k = (0, 0, .nil, false))) := fun s' v' k' h => by
        unfold sdR
        rw [h]
        exact ⟨fun h1 => by rw [if_pos ⟨HSOK.out, HOK.out, h1⟩], fun h1 => by rw [if_neg fun h2 => h1 h2.2.2]⟩
      generalize htt : tsub (sv bs) s v k = tt at *
      obtain ⟨s', v', k'⟩ := tt
      dsimp only at HT1 HT2 t3
      have HR0 := Lib.hid (HRD.out s' v' k' rfl)
      clear htt HRD
      rintro e w4 ⟨nv', rfl, hb4, hn'⟩
      have hs4 := hb4.size
      have hb4' := HB2.out.trans (hb4.mono (by omega))
      dsimp only at hn'
      have HB4 := Lib.hid hb4'
      clear hb4 hb4'
      by_cases hbig : 1 + fsz k' ≤ 16
      · have e1 : decide ((16 : Int) < 1 + (fsz k' : Int)) = false := decide_eq_false (by omega)
        have HR := Lib.hid (HR0.out.1 hbig)
        rcases hn' with ⟨rfl, rfl, rfl⟩ | ⟨hs', a5, c5, rfl, hn2⟩
        · clear e1
          go_wp2_with fail
          refine upon_method 82 (by kernel_rfl) (by kernel_rfl) ?_
          go_simp
          with_reducible refine (varSize_any v' _).mono ?_
          rintro e w5 ⟨rfl, rfl⟩
          go_wp2_with fail
          refine upon_method 83 (by kernel_rfl) (by kernel_rfl) ?_
          go_simp
          with_reducible refine (varTermT_any v' _).mono ?_
          rintro e w6 ⟨a6, c6, rfl, hb6, hl6⟩
          have hs6 := hb6.size
          have hb6' := HB4.out.trans (hb6.mono (by omega))
          have HBE := Lib.hid hb6'
          obtain ⟨hr0, hr1, hr2, hr3, hr4, hr5⟩ := tb_cellsS hb6'
          obtain ⟨hf0, hf3⟩ := tb_freeS hb6' 0 rfl rfl
          obtain ⟨hf1, hf4⟩ := tb_freeS hb6' 1 rfl rfl
          obtain ⟨hf2, hf5⟩ := tb_freeS hb6' 2 rfl rfl
          have HL6 := Lib.hid (hl6.mono (lo' := w.heap.size + 2) (by omega) (Nat.le_refl _))
          clear hb6 hl6 hb6'
          go_wp2_with fail
          refine bodyPost_ret (v := .tuple #[.agg #[.int .i64 0, .int .i64 v', .slice a6 (flen .nil) c6], .bool true]) ?_ rfl (sd_endT HR.out HBE.out HL6.out _ _ _)
          simp [results, Try.results13, go_sem, hr3, hr4, hr5]
        · have hv0 : v' = 0 := ((okN_iff _ _ _).1 HT1.out).2.2 hs'
          subst hv0
          have HNS := Lib.hid hn2
          clear hn2
          go_wp2_with fail
          refine upon_method 85 (by kernel_rfl) (by kernel_rfl) ?_
          go_simp
          with_reducible refine (symSize_any (fsz k') s' a5 c5 k' _ HNS.out (Nat.le_refl _) (by omega)).mono ?_
          rintro e w5 ⟨rfl, hb5⟩
          have hs5 := hb5.size
          have HNS5 := Lib.hid ((HNS.out.below hb5).mono (lo' := 0) (Nat.le_refl _) hs5)
          have HB5 := Lib.hid (HB4.out.trans (hb5.mono (by omega)))
          clear hb5
          go_wp2_with fail
          refine upon_method 86 (by kernel_rfl) (by kernel_rfl) ?_
          go_simp
          with_reducible refine (symTermT_any (fsz k') s' a5 c5 k' _ HNS5.out HT2.out (Nat.le_refl _) (by omega)).mono ?_
          rintro e w6 ⟨a6, c6, rfl, hb6, hl6⟩
          have hs6 := hb6.size
          have hb6' := HB5.out.trans (hb6.mono (by omega))
          have HBE := Lib.hid hb6'
          obtain ⟨hr0, hr1, hr2, hr3, hr4, hr5⟩ := tb_cellsS hb6'
          obtain ⟨hf0, hf3⟩ := tb_freeS hb6' 0 rfl rfl
          obtain ⟨hf1, hf4⟩ := tb_freeS hb6' 1 rfl rfl
          obtain ⟨hf2, hf5⟩ := tb_freeS hb6' 2 rfl rfl
          have HL6 := Lib.hid (hl6.mono (lo' := w.heap.size + 2) (by omega) (Nat.le_refl _))
          clear hb6 hl6 hb6'
          go_wp2_with fail
          refine bodyPost_ret (v := .tuple #[.agg #[.int .i64 s', .int .i64 0, .slice a6 (flen k') c6], .bool true]) ?_ rfl (sd_endT HR.out HBE.out HL6.out _ _ _)
          simp [results, Try.results13, go_sem, hr3, hr4, hr5]
      · have e1 : decide ((16 : Int) < 1 + (fsz k' : Int)) = true := decide_eq_true (by omega)
        have HR := Lib.hid (HR0.out.2 hbig)
        rcases hn' with ⟨rfl, rfl, rfl⟩ | ⟨hs', a5, c5, rfl, hn2⟩
        · simp [fsz] at hbig
        · have HNS := Lib.hid hn2
          clear hn2
          go_wp2_with fail
          refine upon_method 85 (by kernel_rfl) (by kernel_rfl) ?_
          go_simp
          with_reducible refine (symSize_any (fsz k') s' a5 c5 k' _ HNS.out (Nat.le_refl _) (by omega)).mono ?_
          rintro e w5 ⟨rfl, hb5⟩
          have hs5 := hb5.size
          have hb5' := HB4.out.trans (hb5.mono (by omega))
          have HBE := Lib.hid hb5'
          obtain ⟨hr0, hr1, hr2, hr3, hr4, hr5⟩ := tb_cellsS hb5'
          obtain ⟨hf0, hf3⟩ := tb_freeS hb5' 0 rfl rfl
          obtain ⟨hf1, hf4⟩ := tb_freeS hb5' 1 rfl rfl
          obtain ⟨hf2, hf5⟩ := tb_freeS hb5' 2 rfl rfl
          clear hb5 hb5'
          go_wp2_with fail
          refine bodyPost_ret (v := .tuple #[.agg #[.int .i64 0, .int .i64 0, .slice none 0 0], .bool false]) ?_ rfl (sd_endT (k' := .nil) HR.out HBE.out ⟨.inl rfl, .inl rfl⟩ _ _ _)
          simp [results, Try.results13, go_sem, hr3, hr4, hr5]
  · have HR : Hid (sdR bs s v k = (0, 0, .nil, false)) := by unfold Hid sdR; rw [if_neg (by rw [hsok]; simp)]
    clear hsok
    go_wp2_with fail
    with_reducible refine (nodeOf_any s v a c k 16 _ HL1.out (by omega) (by omega)).mono ?_
    rintro e w2 ⟨nv, rfl, hb2, _⟩
    have hs2 := hb2.size
    have hb2' := HB1.out.trans (hb2.mono (by omega))
    have HBE := Lib.hid hb2'
    obtain ⟨hr0, hr1, hr2, hr3, hr4, hr5⟩ := tb_cellsS hb2'
    obtain ⟨hf0, hf3⟩ := tb_freeS hb2' 0 rfl rfl
    obtain ⟨hf1, hf4⟩ := tb_freeS hb2' 1 rfl rfl
    obtain ⟨hf2, hf5⟩ := tb_freeS hb2' 2 rfl rfl
    clear hb2 hb2' hc0 hc1 hc2
    generalize okW s v k 16 = okk
    cases okk with
    | false =>
      go_wp2_with fail
      refine bodyPost_ret (v := .tuple #[.agg #[.int .i64 0, .int .i64 0, .slice none 0 0], .bool false]) ?_ rfl (sd_endT (k' := .nil) HR.out HBE.out ⟨.inl rfl, .inl rfl⟩ _ _ _)
      simp [results, Try.results13, go_sem, hr3, hr4, hr5]
    | true =>
      go_wp2_with fail
      refine bodyPost_ret (v := .tuple #[.agg #[.int .i64 0, .int .i64 0, .slice none 0 0], .bool false]) ?_ rfl (sd_endT (k' := .nil) HR.out HBE.out ⟨.inl rfl, .inl rfl⟩ _ _ _)
      simp [results, Try.results13, go_sem, hr3, hr4, hr5]
end Go.Proofs.Ytpjjaolhmhfoeaa
