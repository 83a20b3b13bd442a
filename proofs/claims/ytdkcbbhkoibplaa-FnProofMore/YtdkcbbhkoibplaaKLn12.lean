/- Several texts in one: LA2, ES1, SP2, LK0, BX, LD0, SP1, AD. -/
import Derived.Test.YtdkcbbhkoibplaaKLn11
import Derived.Test.YtdkcbbhkoibplaaKLn7
import Derived.Test.YtdkcbbhkoibplaaKLn3
import Derived.Test.YtdkcbbhkoibplaaKLn1
import Derived.Test.YtdkcbbhkoibplaaKLn6
import Derived.Test.YtdkcbbhkoibplaaKLn5
import Derived.Test.YtdkcbbhkoibplaaKLn8
import Derived.Deep.AppendLies

/-! LA2: l71Any: equations, some spoilt. -/
namespace Go.Proofs.Ytdkcbbhkoibplaa
open Go.RowKit Go.Deep

set_option maxRecDepth 100000 in
set_option maxHeartbeats 2000000 in
theorem l71Any_any (most br p : Nat) (w : World) (hr : Rd w br p) (hp : p ≤ 1000000) (hm1 : 1 ≤ most) (hm2 : most ≤ 10) :
    Calls Try.prog 67 #[.pointer (some ⟨br, 0, none⟩), .int .i64 (most : Int)] w (AnyPost most br p w) := by
  have hlt := hr.lt
  have HR := Lib.hid hr
  clear hr
  go_enter Try.func67, Try.ntmps67
  go_wp2_with fail
  with_reducible refine (l71Eqs_any most br p _ HR.out hp hm1 hm2).mono ?_
  rintro e w1 ⟨es, A, C, p', rfl, hlen1, hlen2, hz, hp1, hp2, ha1, ho1⟩
  have HA1 := Lib.hid ha1
  have HO1 := Lib.hid ho1
  have HSZ : Hid (∀ x ∈ es, fsz x.1.2.2 ≤ 31000 ∧ fsz x.2.2.2 ≤ 31000) := fun x hx => by have := eqz_sz (hz x hx); omega
  have HZ := Lib.hid hz
  have hpp : p' ≤ p + 11 * 101 := Nat.le_trans hp2 (by have : (most + 1) * 101 ≤ 11 * 101 := Nat.mul_le_mul (by omega) (Nat.le_refl _); omega)
  clear ha1 ho1 hz hp2
  go_wp2_with fail
  with_reducible refine (pick_any 24 br p' _ (HA1.out.rd HR.out) (by omega) (by omega) (by omega)).mono ?_
  rintro e w2 ⟨y, rfl, hy, hb2⟩
  have ha2 : Adv w1 br (p' + 1) w2 := hb2
  have HA2 := Lib.hid (HA1.out.trans ha2)
  have HO2 := Lib.hid (HO1.out.adv ha2 hlt)
  clear ha2 hb2 HO1 HA1
  by_cases hy0 : y = 0
  · subst hy0
    obtain ⟨⟨⟨xs, xv, xk⟩, s, v, k⟩, r, rfl⟩ : ∃ x r, es = x :: r := by
      cases es with
      | nil => simp at hlen1
      | cons x r => exact ⟨x, r, rfl⟩
    have hpos : (0 : Int) < (((((xs, xv, xk), s, v, k) : Eqd) :: r).length : Int) := by simp
    obtain ⟨g, hAE, hg1, hg2⟩ : ∃ g, A = some ⟨g, 0, none⟩ ∧ w.heap.size ≤ g ∧ g < w2.heap.size := by
      obtain ⟨zs, hown, _⟩ := HO2.out
      obtain ⟨g, cap, hv, hb, hlt2⟩ := hown.form (by simp)
      simp only [Value.slice.injEq] at hv
      obtain ⟨rfl, _⟩ := hv
      exact ⟨g, rfl, hb, hlt2⟩
    subst hAE
    have hcells : ∀ {w' : World}, EOwn w' w.heap.size (((xs, xv, xk), s, v, k) :: r) (some ⟨g, 0, none⟩) C → ∃ a' c', w'.cell? ⟨g, 3, none⟩ = some (.int .i64 s) ∧ w'.cell? ⟨g, 4, none⟩ = some (.int .i64 v) ∧ w'.cell? ⟨g, 5, none⟩ = some (.slice a' (flen k) c') ∧ Sl w' 0 w'.heap.size a' k := fun {w'} h => by
      obtain ⟨b, o, hA, hb, hlt', _, _, a', c', _, _, _, d3, d4, d5, _, hl⟩ := h.esl.at (i := 0) (x := ((xs, xv, xk), s, v, k)) rfl
      cases hA
      exact ⟨a', c', d3, d4, d5, hl.mono (Nat.zero_le _) (Nat.le_refl _)⟩
    obtain ⟨a', c', hc3, hc4, hc5, hsl⟩ := hcells HO2.out
    have hsk := (eqz_sz (HZ.out _ List.mem_cons_self)).2
    dsimp only at hsk
    go_wp2_with fail
    with_reducible refine (l71Bad_any s v a' c' k br (p' + 1) 16 _ hsl (HA2.out.rd HR.out) (by omega) (by omega) (by omega)).mono ?_
    rintro e w3 ⟨s2, v2, a2, c2, k2, p2, rfl, hq1, hq2, hS2, ha3, hl2⟩
    clear hc3 hc4 hc5 hsl
    have hsz2 := HA2.out.size
    have HS0 := Lib.hid (HO2.out.set0 (s' := s2) (v' := v2) (c2 := c2) ha3 hlt hl2 hsz2)
    have HA3 := Lib.hid (HA2.out.trans ha3)
    obtain ⟨a'', c'', hc3, hc4, hc5, _⟩ := hcells (HO2.out.adv ha3 hlt)
    have hf3 : w3.frozen? ⟨g, 3, none⟩ = false := by obtain ⟨zs, hown, _⟩ := HO2.out.adv ha3 hlt; exact hown.frozenAt 3
    have hf4 : (w3.setCell ⟨g, 3, none⟩ (.int .i64 s2)).frozen? ⟨g, 4, none⟩ = false := by obtain ⟨zs, hown, _⟩ := HO2.out.adv ha3 hlt; exact (hown.stored 3 _).1.frozenAt 4
    have hf5 : ((w3.setCell ⟨g, 3, none⟩ (.int .i64 s2)).setCell ⟨g, 4, none⟩ (.int .i64 v2)).frozen? ⟨g, 5, none⟩ = false := by obtain ⟨zs, hown, _⟩ := HO2.out.adv ha3 hlt; exact ((hown.stored 3 _).1.stored 4 _).1.frozenAt 5
    have hd4 : (w3.setCell ⟨g, 3, none⟩ (.int .i64 s2)).cell? ⟨g, 4, none⟩ = some (.int .i64 v) := by
      rw [World.cell?_setCell_other _ _ _ _ (by simp)]; exact hc4
    have hd5 : ((w3.setCell ⟨g, 3, none⟩ (.int .i64 s2)).setCell ⟨g, 4, none⟩ (.int .i64 v2)).cell? ⟨g, 5, none⟩ = some (.slice a'' (flen k) c'') := by
      rw [World.cell?_setCell_other _ _ _ _ (by simp), World.cell?_setCell_other _ _ _ _ (by simp)]; exact hc5
    have HE : Hid (Adv w br p2 (((w3.setCell ⟨g, 3, none⟩ (.int .i64 s2)).setCell ⟨g, 4, none⟩ (.int .i64 v2)).setCell ⟨g, 5, none⟩ (.slice a2 (flen k2) c2))) := ((HA3.out.setCell hg1 _).setCell hg1 _).setCell hg1 _
    have HZ2 : Hid (∀ x ∈ (((xs, xv, xk), s2, v2, k2) :: r : List Eqd), fsz x.1.2.2 ≤ 31000 ∧ fsz x.2.2.2 ≤ 31000) := fun x hx => by
      rcases List.mem_cons.1 hx with rfl | hx
      · exact ⟨(HSZ.out _ List.mem_cons_self).1, by dsimp only; omega⟩
      · exact HSZ.out x (List.mem_cons_of_mem _ hx)
    clear ha3 hl2
    go_wp2_with fail
    go_ret
    exact ⟨((xs, xv, xk), s2, v2, k2) :: r, some ⟨g, 0, none⟩, C, p2, rfl, by simp, by simp at hlen2 ⊢; omega, HZ2.out, by omega, by omega, HE.out, HS0.out.mono (Nat.le_refl _) (by simp)⟩
  · have y0 : ((y : Int) == 0) = false := by simpa using hy0
    go_wp2_with fail
    go_ret
    exact ⟨es, A, C, p' + 1, rfl, hlen1, hlen2, HSZ.out, by omega, by omega, HA2.out, HO2.out.esl⟩
end Go.Proofs.Ytdkcbbhkoibplaa

/-! ES1: The specification's EqsOk. -/
namespace Go.Proofs.Ytdkcbbhkoibplaa
open Go.RowKit Go.Deep

set_option maxRecDepth 100000 in
set_option maxHeartbeats 2000000 in
theorem sEqsOk_any (es : List Eqd) (A : Option Addr) (C : Nat) (w : World) (hb : ESl w 0 w.heap.size A es) (hl : es.length ≤ 9223372036854775807) :
    Calls Try.prog 39 #[.slice A es.length C] w fun e w' => e = .returned (.bool (okEs es)) ∧ Below w.heap.size w w' := by
  have HB := Lib.hid hb
  clear hb
  by_cases hbig : 6 < es.length
  · have HF : Hid (okEs es = false) := by
      cases h : okEs es with
      | false => exact rfl
      | true => have := ((okEs_iff es).1 h).1; omega
    go_enter Try.func39, Try.ntmps39
    go_wp2_with fail
    go_ret
    exact ⟨by rw [HF.out]; rfl, Below.refl _ _⟩
  go_enter Try.func39, Try.ntmps39
  go_wp2_with fail
  go_loopw [3] (fun i wr => ∃ j : Nat, i = .int .i64 j ∧ j ≤ es.length ∧ Hid ((es.take j).all okE = true) ∧ Hid (Below w.heap.size w wr)) (fun i _ => es.length - (intOf i).toNat)
  case atStart => exact ⟨0, rfl, Nat.zero_le _, rfl, Below.refl _ _⟩
  case round =>
    obtain ⟨j, rfl, hj, HS, HLW⟩ := hrel
    have hws := HLW.out.size
    by_cases hlt : j < es.length
    · obtain ⟨x, hx⟩ : ∃ x, es[j]? = some x := ⟨es[j], List.getElem?_eq_getElem hlt⟩
      obtain ⟨⟨s, v, k⟩, s', v', k'⟩ := x
      have hbr := HB.out.below HLW.out
      obtain ⟨b, o, rfl, _, hbB, a1, d1, a2, d2, c0, c1, c2, c3, c4, c5, hsl, hsl2⟩ := hbr.at hx
      dsimp only at c0 c1 c2 c3 c4 c5 hsl hsl2
      have g1 : (0 : Int) ≤ (j : Int) := by omega
      have g2 : (j : Int) < (es.length : Int) := by omega
      have HX := Lib.hid hx
      have HSL : Hid (Sl wr 0 wr.heap.size a1 k) := hsl.mono (Nat.le_refl _) hws
      have HSL2 : Hid (Sl wr 0 wr.heap.size a2 k') := hsl2.mono (Nat.le_refl _) hws
      clear hx hsl hsl2
      go_wp2_with fail
      with_reducible refine (sTermOk_any s v a1 d1 k _ HSL.out).mono ?_
      rintro e w2 ⟨rfl, hb2⟩
      have e3 := cell_low hb2 c3
      have e4 := cell_low hb2 c4
      have e5 := cell_low hb2 c5
      have HL2 := Lib.hid (HLW.out.trans (hb2.mono hws))
      have HSL3 := Lib.hid (HSL2.out.next hb2)
      clear hb2 c0 c1 c2 c3 c4 c5 HSL HSL2
      cases hok : okW s v k 16 with
      | false =>
        have HF : Hid (okEs es = false) := all_no HX.out (by simp only [okE, okT3, hok, Bool.false_and])
        clear hok
        go_wp2_with fail
        go_ret
        exact ⟨by rw [HF.out]; rfl, HL2.out⟩
      | true =>
        have HOK := Lib.hid hok
        clear hok
        go_wp2_with fail
        with_reducible refine (sTermOk_any s' v' a2 d2 k' _ HSL3.out).mono ?_
        rintro e w3 ⟨rfl, hb3⟩
        have HL3 := Lib.hid (HL2.out.trans (hb3.mono HL2.out.size))
        clear hb3 e3 e4 e5 HSL3
        cases hok : okW s' v' k' 16 with
        | false =>
          have HF : Hid (okEs es = false) := all_no HX.out (by simp only [okE, okT3, hok, Bool.and_false])
          clear hok
          go_wp2_with fail
          go_ret
          exact ⟨by rw [HF.out]; rfl, HL3.out⟩
        | true =>
          have HA : Hid ((es.take (j + 1)).all okE = true) := all_take HS.out HX.out (by simp only [okE, okT3, hok, HOK.out, Bool.and_self])
          clear hok
          go_wp2_with fail
          go_roundw
          case rel => exact ⟨j + 1, by go_num, by omega, HA, HL3⟩
          case measure => simp [intOf]; omega
    · have HE : Hid (okEs es = true) := by
        refine (okEs_iff es).2 ⟨by omega, fun x hx => ?_⟩
        have := HS.out
        rw [List.take_of_length_le (by omega)] at this
        exact List.all_eq_true.1 this x hx
      go_wp2_with fail
      go_ret
      exact ⟨by rw [HE.out]; rfl, HLW.out⟩
end Go.Proofs.Ytdkcbbhkoibplaa

/-! SP2: - The specification's SubstOk. -/
namespace Go.Proofs.Ytdkcbbhkoibplaa
open Go.RowKit Go.Deep

theorem sok_len {room : Int} : ∀ (bs : List Bd) (last : Int), last < 12 → sokFrom room last bs = true → last + bs.length < 12
  | [], _, h, _ => by simpa using h
  | x :: r, last, _, hs => by
    simp only [sokFrom, Bool.and_eq_true, decide_eq_true_eq] at hs
    have := sok_len r x.1 hs.2.2.1 hs.2.2.2
    simp only [List.length_cons]
    omega
theorem drop_bd2 {bs : List Bd} {j : Nat} {x : Bd} (h : bs[j]? = some x) : bs.drop j = x :: bs.drop (j + 1) := by
  obtain ⟨hj, rfl⟩ := List.getElem?_eq_some_iff.1 h
  exact List.drop_eq_getElem_cons hj

end Go.Proofs.Ytdkcbbhkoibplaa

/-! LK0: Steps of a proof as plain data: what a link makes of a term, where a list of links leads. Definitions and plain lemmas. -/
namespace Go.Proofs.Ytdkcbbhkoibplaa
open Go.RowKit Go.Deep

/-- A link: the equation, whether back, the place, what variables stand for. -/
abbrev Lk := Int × Bool × List Int × List Bd
def sidesR (e : Eqd) (back : Bool) : Tm3 × Tm3 := if back = true then (e.2, e.1) else (e.1, e.2)
def put3 (σ : Int → Option Tm3) (t : Tm3) : Tm3 := tsub σ t.1 t.2.1 t.2.2
/-- What stands at a place being f, it becomes g. -/
def lkAt (t : Tm3) (pl : List Int) (f g : Tm3) : Option Tm3 :=
  match fat t.1 t.2.1 t.2.2 pl with
  | none => none
  | some h => if teq h.1 h.2.1 h.2.2 f.1 f.2.1 f.2.2 = true then
      (match fput t.1 t.2.1 t.2.2 pl g with
        | none => none
        | some out => if okT3 64 out = true then some out else none)
    else none
/-- A link done at a term of a proof, the equations being valid. -/
def lk1 (es : List Eqd) (t : Tm3) (l : Lk) : Option Tm3 :=
  if sok 64 l.2.2.2 = true ∧ 0 ≤ l.1 ∧ l.1 < (es.length : Int) then
    (es[l.1.toNat]?).bind fun e => lkAt t l.2.2.1 (put3 (sv l.2.2.2) (sidesR e l.2.1).1) (put3 (sv l.2.2.2) (sidesR e l.2.1).2)
  else none
def lkR (es : List Eqd) (t : Tm3) (l : Lk) : Option Tm3 := if okEs es = true ∧ okT3 64 t = true then lk1 es t l else none
/-- Links one behind the other. -/
def lkF (es : List Eqd) : Tm3 → List Lk → Option Tm3
  | t, [] => some t
  | t, l :: r => (lk1 es t l).bind fun x => lkF es x r
def prR (es : List Eqd) (t : Tm3) (ls : List Lk) : Option Tm3 := if okEs es = true ∧ okT3 64 t = true ∧ ls.length ≤ 40 then lkF es t ls else none
def t0 : Tm3 := (0, 0, .nil)
/-- What is answered. -/
def ansR (r : Option Tm3) : Tm3 × Bool := match r with
  | some t => (t, true)
  | none => (t0, false)

theorem lkF_append (es : List Eqd) : ∀ (t : Tm3) (l1 l2 : List Lk), lkF es t (l1 ++ l2) = (lkF es t l1).bind fun x => lkF es x l2
  | t, [], l2 => rfl
  | t, l :: r, l2 => by
    simp only [List.cons_append, lkF]
    cases lk1 es t l with
    | none => rfl
    | some x => exact lkF_append es x r l2
theorem lkF_one (es : List Eqd) (t : Tm3) (l : Lk) : lkF es t [l] = lk1 es t l := by
  simp only [lkF]
  cases lk1 es t l <;> rfl
/-- How many leaves. -/
def lvs : Fo → Nat
  | .nil => 0
  | .node _ _ _ .nil r => 1 + lvs r
  | .node _ _ _ (.node x y p k r') r => lvs (.node x y p k r') + lvs r
theorem flen_two {s v : Int} {k : Fo} (h : okN s v (flen k) = true) : flen k ≤ 2 := by
  have := ((okN_iff _ _ _).1 h).1
  unfold ar at this
  split at this
  · omega
  · split at this
    · omega
    · split at this <;> omega
theorem lvs_le : ∀ k : Fo, fok k = true → 2 * lvs k ≤ fsz k + flen k
  | .nil, _ => Nat.zero_le _
  | .node _ _ _ .nil r, h => by
    simp only [fok, Bool.and_eq_true] at h
    have := lvs_le r h.2
    simp only [lvs, fsz, flen]; omega
  | .node _ _ _ (.node x y p k r') r, h => by
    simp only [fok, Bool.and_eq_true] at h
    have h1 := lvs_le r h.2
    have h2 := lvs_le (.node x y p k r') (by simp only [fok, Bool.and_eq_true]; exact h.1.2)
    have h3 := flen_two h.1.1
    simp only [lvs, fsz, flen] at h2 h3 ⊢; omega
theorem fsub_small {σ : Int → Option Tm3} {m : Nat} (hσ : ∀ x t, σ x = some t → fsz t.2.2 ≤ m) : ∀ k : Fo, fok k = true → fsz (fsub σ k) ≤ fsz k + m * lvs k
  | .nil, _ => Nat.zero_le _
  | .node x y p .nil r, h => by
    simp only [fok, Bool.and_eq_true] at h
    have h1 := fsub_small hσ r h.2
    simp only [fsub]
    split
    · split
      · rename_i t ht
        have := hσ _ _ ht
        simp only [fsz, lvs, Nat.mul_add]; omega
      · simp only [fsz, lvs, Nat.mul_add]; omega
    · simp only [fsz, lvs, Nat.mul_add]; omega
  | .node x y p (.node x' y' p' k r') r, h => by
    simp only [fok, Bool.and_eq_true] at h
    have h1 := fsub_small hσ r h.2
    have h2 := fsub_small hσ (.node x' y' p' k r') (by simp only [fok, Bool.and_eq_true]; exact h.1.2)
    have hs : p.1 ≠ 0 := fun e => by
      have := ((okN_iff _ _ _).1 h.1.1).1
      rw [e] at this
      simp [ar, flen] at this
      omega
    rw [fsub, if_neg hs]
    simp only [fsz, lvs, Nat.mul_add] at h2 ⊢; omega
theorem sok_sz {room : Int} : ∀ {bs : List Bd} {last : Int}, sokFrom room last bs = true → ∀ x ∈ bs, okW x.2.1 x.2.2.1 x.2.2.2 room = true
  | [], _, _, _, hx => by cases hx
  | y :: r, last, h, x, hx => by
    simp only [sokFrom, Bool.and_eq_true] at h
    rcases List.mem_cons.1 hx with rfl | hx
    · exact h.1
    · exact sok_sz h.2.2.2 x hx
theorem sv_in : ∀ {bs : List Bd} {v : Int} {t : Tm3}, sv bs v = some t → (v, t) ∈ bs
  | [], _, _, h => by simp [sv] at h
  | x :: r, v, t, h => by
    simp only [sv] at h
    split at h
    · rename_i e
      simp only [Option.some.injEq] at h
      subst h
      subst e
      exact List.mem_cons_self
    · exact List.mem_cons_of_mem _ (sv_in h)
theorem sok_ok {room : Int} {bs : List Bd} (h : sok room bs = true) {x : Int} {t : Tm3} (ht : sv bs x = some t) : okT3 room t = true := sok_sz h _ (sv_in ht)
/-- What is put into an equation's side is not too large for the walks. -/
theorem put3_small {bs : List Bd} (h : sok 64 bs = true) {t : Tm3} (ht : okT3 16 t = true) : fsz (put3 (sv bs) t).2.2 ≤ 1000 := by
  have hσ : ∀ x t, sv bs x = some t → fsz t.2.2 ≤ 63 := fun x u hu => by
    have := ((okW_iff _ _ _ _).1 (sok_ok h hu)).2.2
    omega
  obtain ⟨h1, h2, h3⟩ := (okW_iff _ _ _ _).1 ht
  unfold put3 tsub
  split
  · cases hv : sv bs t.2.1 with
    | none => simp only [Option.getD_none]; omega
    | some u => have := hσ _ _ hv; simp only [Option.getD_some]; omega
  · have a1 := fsub_small hσ t.2.2 h2
    have a2 := lvs_le t.2.2 h2
    have a3 := flen_two h1
    dsimp only
    omega
theorem put3_ok {bs : List Bd} {room : Int} (h : sok room bs = true) {t : Tm3} (h1 : okN t.1 t.2.1 (flen t.2.2) = true) (h2 : fok t.2.2 = true) : okN (put3 (sv bs) t).1 (put3 (sv bs) t).2.1 (flen (put3 (sv bs) t).2.2) = true ∧ fok (put3 (sv bs) t).2.2 = true := by
  have hok : ∀ k : Fo, fok k = true → fok (fsub (sv bs) k) = true := fun k => by
    induction k with
    | nil => intro _; rfl
    | node x y p k r ihk ihr =>
      intro h
      simp only [fok, Bool.and_eq_true] at h
      simp only [fsub]
      split
      · split
        · rename_i t ht
          have := (okW_iff _ _ _ _).1 (sok_ok ‹sok room bs = true› ht)
          simp only [fok, this.1, this.2.1, ihr h.2, Bool.and_self]
        · simp only [fok, h.1.1, h.1.2, ihr h.2, Bool.and_self]
      · simp only [fok, fsub_len, h.1.1, ihk h.1.2, ihr h.2, Bool.and_self]
  unfold put3 tsub
  split
  · cases hv : sv bs t.2.1 with
    | none => exact ⟨h1, h2⟩
    | some u =>
      have := (okW_iff _ _ _ _).1 (sok_ok h hv)
      exact ⟨this.1, this.2.1⟩
  · dsimp only
    rw [fsub_len]
    exact ⟨h1, hok _ h2⟩
theorem sides_ok {es : List Eqd} (h : okEs es = true) {i : Nat} {e : Eqd} (hi : es[i]? = some e) (b : Bool) : okT3 16 (sidesR e b).1 = true ∧ okT3 16 (sidesR e b).2 = true := by
  have := ((okEs_iff es).1 h).2 e (List.mem_of_getElem? hi)
  simp only [okE, Bool.and_eq_true] at this
  unfold sidesR
  split
  · exact ⟨this.2, this.1⟩
  · exact this
/-- A done link leaves a term of a proof. -/
theorem lkAt_ok {t x : Tm3} {pl : List Int} {f g : Tm3} (h : lkAt t pl f g = some x) : okT3 64 x = true := by
  unfold lkAt at h
  split at h
  · cases h
  · split at h
    · split at h
      · cases h
      · split at h
        · rename_i hx
          simp only [Option.some.injEq] at h
          subst h
          exact hx
        · cases h
    · cases h
theorem lk1_ok {es : List Eqd} {t x : Tm3} {l : Lk} (h : lk1 es t l = some x) : okT3 64 x = true := by
  unfold lk1 at h
  split at h
  · obtain ⟨e, _, h⟩ := Option.bind_eq_some_iff.1 h
    exact lkAt_ok h
  · cases h
end Go.Proofs.Ytdkcbbhkoibplaa

/-! BX: Boxes that are made and filled in a region that draws its order. Plain lemmas. -/
namespace Go.Proofs.Ytdkcbbhkoibplaa
open Go.RowKit Go.Deep

/-- A box of three cells: made by operation al into temporary tmp, filled by operation st from temporary src. -/
def Bx (al st tmp src lo : Nat) (listed : Array Bool) (a : Act) (u : World) : Prop :=
  listed.getD al false = true → ∃ b, (a.tmps[tmp]?).getD undef = .pointer (some ⟨b, 0, none⟩) ∧ lo ≤ b ∧ b < u.heap.size ∧ (∀ i, i < 3 → ∃ x, u.cell? ⟨b, i, none⟩ = some x) ∧ (∀ i, u.frozen? ⟨b, i, none⟩ = false) ∧
    (listed.getD st false = true → ∃ x0 x1 x2, (a.tmps[src]?).getD undef = .agg #[x0, x1, x2] ∧ u.cell? ⟨b, 0, none⟩ = some x0 ∧ u.cell? ⟨b, 1, none⟩ = some x1 ∧ u.cell? ⟨b, 2, none⟩ = some x2)
theorem Bx.start {al st tmp src lo n : Nat} {a : Act} {u : World} : Bx al st tmp src lo (Array.replicate n false) a u := fun h => by
  simp [Array.getD_eq_getD_getElem?, Array.getElem?_replicate] at h
  split at h <;> simp at h
/-- Another operation, that adds memory at most. -/
theorem Bx.keep {al st tmp src lo i : Nat} {listed : Array Bool} {a : Act} {u u' : World} (h : Bx al st tmp src lo listed a u) (h1 : i ≠ al) (h2 : i ≠ st) {dst : Option Nat} {v : Value} (ht : dst ≠ some tmp) (hs : dst ≠ some src ∨ listed.getD st false = false) (hb : Below u.heap.size u u') :
    Bx al st tmp src lo (listed.setIfInBounds i true) (a.put dst v) u' := fun hl => by
  obtain ⟨b, e, q1, q2, q3, q4, q5⟩ := h (set_was h1 hl)
  have hget : ∀ t, dst ≠ some t → ((a.put dst v).tmps[t]?).getD undef = (a.tmps[t]?).getD undef := fun t hd => by
    cases dst with
    | none => rfl
    | some d => exact put_at v (fun e => hd (by rw [e]))
  refine ⟨b, (hget tmp ht).trans e, q1, Nat.lt_of_lt_of_le q2 hb.size, fun j hj => ?_, fun j => (hb.frozen q2).trans (q4 j), fun hf => ?_⟩
  · obtain ⟨x, hx⟩ := q3 j hj
    exact ⟨x, cell_low hb hx⟩
  · have hf' := set_was h2 hf
    obtain ⟨x0, x1, x2, e1, c0, c1, c2⟩ := q5 hf'
    have hs' : dst ≠ some src := by
      rcases hs with hs | hs
      · exact hs
      · rw [hs] at hf'; cases hf'
    exact ⟨x0, x1, x2, (hget src hs').trans e1, cell_low hb c0, cell_low hb c1, cell_low hb c2⟩
/-- The box is made. -/
theorem Bx.make {al st tmp src lo : Nat} {listed : Array Bool} {a : Act} {u : World} {x y z : Value} {T : TypeId} (hlt : tmp < a.tmps.size) (hst : listed.getD st false = false) (hne : al ≠ st) (hlo : lo ≤ u.heap.size) :
    Bx al st tmp src lo (listed.setIfInBounds al true) (a.put (some tmp) (.pointer (some ⟨u.heap.size, 0, none⟩))) (u.alloc (.cells #[x, y, z] T)) := fun _ => by
  refine ⟨u.heap.size, put_self _ hlt, hlo, by simp, fun i hi => ?_, fun i => ?_, fun hf => ?_⟩
  · have h3 : i = 0 ∨ i = 1 ∨ i = 2 := by omega
    rcases h3 with rfl | rfl | rfl
    all_goals exact ⟨_, by rw [World.cell?_alloc_at _ _ _ _ (by simp)]; rfl⟩
  · rw [World.frozen?_alloc_at _ _ _ _ (by simp)]
  · rw [set_was hne hf] at hst; cases hst
/-- The three cells of a box. -/
def s3 (u : World) (b : Nat) (x y z : Value) : World := ((u.setCell ⟨b, 0, none⟩ x).setCell ⟨b, 1, none⟩ y).setCell ⟨b, 2, none⟩ z
theorem s3_far {u : World} {b : Nat} {x y z : Value} {q : Addr} (h : q.block ≠ b) : (s3 u b x y z).cell? q = u.cell? q ∧ (s3 u b x y z).frozen? q = u.frozen? q := by
  unfold s3
  refine ⟨?_, by rw [World.frozen?_setCell, World.frozen?_setCell, World.frozen?_setCell]⟩
  rw [World.cell?_setCell_other _ _ _ _ (by intro e; exact h (by rw [← e])), World.cell?_setCell_other _ _ _ _ (by intro e; exact h (by rw [← e])), World.cell?_setCell_other _ _ _ _ (by intro e; exact h (by rw [← e]))]
theorem s3_fr {u : World} {b : Nat} {x y z : Value} {q : Addr} : (s3 u b x y z).frozen? q = u.frozen? q := by unfold s3; rw [World.frozen?_setCell, World.frozen?_setCell, World.frozen?_setCell]
theorem s3_size {u : World} {b : Nat} {x y z : Value} : (s3 u b x y z).heap.size = u.heap.size := by simp [s3]
theorem s3_in {u : World} {b : Nat} {x y z p q r : Value} (h0 : u.cell? ⟨b, 0, none⟩ = some p) (h1 : u.cell? ⟨b, 1, none⟩ = some q) (h2 : u.cell? ⟨b, 2, none⟩ = some r) : (s3 u b x y z).cell? ⟨b, 0, none⟩ = some x ∧ (s3 u b x y z).cell? ⟨b, 1, none⟩ = some y ∧ (s3 u b x y z).cell? ⟨b, 2, none⟩ = some z := by
  have ne : ∀ {i j : Nat}, i ≠ j → (⟨b, i, none⟩ : Addr) ≠ ⟨b, j, none⟩ := fun hij e => hij (congrArg Addr.off e)
  unfold s3
  refine ⟨?_, ?_, ?_⟩
  · rw [World.cell?_setCell_other _ _ _ _ (ne (by decide)), World.cell?_setCell_other _ _ _ _ (ne (by decide))]; exact World.cell?_setCell_same _ _ _ h0
  · rw [World.cell?_setCell_other _ _ _ _ (ne (by decide))]
    refine World.cell?_setCell_same _ _ _ (?_ : _ = some q)
    rw [World.cell?_setCell_other _ _ _ _ (ne (by decide))]; exact h1
  · refine World.cell?_setCell_same _ _ _ (?_ : _ = some r)
    rw [World.cell?_setCell_other _ _ _ _ (ne (by decide)), World.cell?_setCell_other _ _ _ _ (ne (by decide))]; exact h2
theorem s3_low {N : Nat} {w u : World} {b : Nat} (h : Below N w u) (hb : N ≤ b) (x y z : Value) : Below N w (s3 u b x y z) := by
  unfold s3
  exact ((h.setCell hb _).setCell hb _).setCell hb _
/-- The box is filled. -/
theorem Bx.fill {al st tmp src lo b : Nat} {listed : Array Bool} {a : Act} {u : World} {x y z : Value} (h : Bx al st tmp src lo listed a u) (hal : listed.getD al false = true) (he : (a.tmps[tmp]?).getD undef = .pointer (some ⟨b, 0, none⟩)) (hv : (a.tmps[src]?).getD undef = .agg #[x, y, z]) :
    Bx al st tmp src lo (listed.setIfInBounds st true) (a.put none undef) (s3 u b x y z) := fun _ => by
  obtain ⟨b', e, q1, q2, q3, q4, q5⟩ := h hal
  rw [he] at e
  simp only [Value.pointer.injEq, Option.some.injEq, Addr.mk.injEq, and_true] at e
  subst e
  obtain ⟨p, hp⟩ := q3 0 (by omega)
  obtain ⟨q, hq⟩ := q3 1 (by omega)
  obtain ⟨r, hr⟩ := q3 2 (by omega)
  obtain ⟨c0, c1, c2⟩ := s3_in (x := x) (y := y) (z := z) hp hq hr
  refine ⟨b, he, q1, by rw [s3_size]; exact q2, fun i hi => ?_, fun i => by rw [s3_fr]; exact q4 i, fun _ => ⟨x, y, z, hv, c0, c1, c2⟩⟩
  have h3 : i = 0 ∨ i = 1 ∨ i = 2 := by omega
  rcases h3 with rfl | rfl | rfl
  · exact ⟨_, c0⟩
  · exact ⟨_, c1⟩
  · exact ⟨_, c2⟩
/-- Another box is filled. -/
theorem Bx.other {al st tmp src lo b i : Nat} {listed : Array Bool} {a : Act} {u : World} {x y z : Value} (h : Bx al st tmp src lo listed a u) (h1 : i ≠ al) (h2 : i ≠ st) (hne : listed.getD al false = true → (a.tmps[tmp]?).getD undef ≠ .pointer (some ⟨b, 0, none⟩)) :
    Bx al st tmp src lo (listed.setIfInBounds i true) (a.put none undef) (s3 u b x y z) := fun hl => by
  have hl' := set_was h1 hl
  obtain ⟨b', e, q1, q2, q3, q4, q5⟩ := h hl'
  have hbb : b' ≠ b := fun e2 => hne hl' (by rw [e, e2])
  refine ⟨b', e, q1, by rw [s3_size]; exact q2, fun i hi => ?_, fun i => by rw [s3_fr]; exact q4 i, fun hf => ?_⟩
  · obtain ⟨x', hx⟩ := q3 i hi
    exact ⟨x', by rw [(s3_far (q := ⟨b', i, none⟩) hbb).1]; exact hx⟩
  · obtain ⟨x0, x1, x2, e1, c0, c1, c2⟩ := q5 (set_was h2 hf)
    exact ⟨x0, x1, x2, e1, by rw [(s3_far (q := ⟨b', 0, none⟩) hbb).1]; exact c0, by rw [(s3_far (q := ⟨b', 1, none⟩) hbb).1]; exact c1, by rw [(s3_far (q := ⟨b', 2, none⟩) hbb).1]; exact c2⟩
/-- Two boxes are two. -/
def Bx2 (al1 al2 t1 t2 : Nat) (listed : Array Bool) (a : Act) : Prop := listed.getD al1 false = true → listed.getD al2 false = true → (a.tmps[t1]?).getD undef ≠ (a.tmps[t2]?).getD undef
theorem Bx2.start {al1 al2 t1 t2 n : Nat} {a : Act} : Bx2 al1 al2 t1 t2 (Array.replicate n false) a := fun h => by
  simp [Array.getD_eq_getD_getElem?, Array.getElem?_replicate] at h
  split at h <;> simp at h
theorem Bx2.keep {al1 al2 t1 t2 i : Nat} {listed : Array Bool} {a : Act} (h : Bx2 al1 al2 t1 t2 listed a) (h1 : i ≠ al1) (h2 : i ≠ al2) {dst : Option Nat} {v : Value} (ht1 : dst ≠ some t1) (ht2 : dst ≠ some t2) : Bx2 al1 al2 t1 t2 (listed.setIfInBounds i true) (a.put dst v) := fun g1 g2 => by
  have hget : ∀ t, dst ≠ some t → ((a.put dst v).tmps[t]?).getD undef = (a.tmps[t]?).getD undef := fun t hd => by
    cases dst with
    | none => rfl
    | some d => exact put_at v (fun e => hd (by rw [e]))
  rw [hget _ ht1, hget _ ht2]
  exact h (set_was h1 g1) (set_was h2 g2)
theorem Bx2.make1 {al1 al2 t1 t2 st2 src2 lo : Nat} {listed : Array Bool} {a : Act} {u : World} (hx : Bx al2 st2 t2 src2 lo listed a u) (hne : al1 ≠ al2) (ht : t1 ≠ t2) (hlt : t1 < a.tmps.size) : Bx2 al1 al2 t1 t2 (listed.setIfInBounds al1 true) (a.put (some t1) (.pointer (some ⟨u.heap.size, 0, none⟩))) := fun _ g2 => by
  obtain ⟨b, e, _, q, _⟩ := hx (set_was hne g2)
  rw [put_self _ hlt, put_at _ ht, e]
  intro h
  simp only [Value.pointer.injEq, Option.some.injEq, Addr.mk.injEq, and_true] at h
  omega
theorem Bx2.make2 {al1 al2 t1 t2 st1 src1 lo : Nat} {listed : Array Bool} {a : Act} {u : World} (hx : Bx al1 st1 t1 src1 lo listed a u) (hne : al2 ≠ al1) (ht : t2 ≠ t1) (hlt : t2 < a.tmps.size) : Bx2 al1 al2 t1 t2 (listed.setIfInBounds al2 true) (a.put (some t2) (.pointer (some ⟨u.heap.size, 0, none⟩))) := fun g1 _ => by
  obtain ⟨b, e, _, q, _⟩ := hx (set_was hne g1)
  rw [put_self _ hlt, put_at _ ht, e]
  intro h
  simp only [Value.pointer.injEq, Option.some.injEq, Addr.mk.injEq, and_true] at h
  omega
/-- A term that operation ot answers into temporary src; a box that operation al makes into temporary tmp is no block of it. -/
def Tr1 (al tmp ot src lo : Nat) (t : Int × Int × Fo) (listed : Array Bool) (a : Act) (u : World) : Prop :=
  listed.getD ot false = true → ∃ x c L H, (a.tmps[src]?).getD undef = .agg #[.int .i64 t.1, .int .i64 t.2.1, .slice x (flen t.2.2) c] ∧ Sl u L H x t.2.2 ∧ lo ≤ L ∧ H ≤ u.heap.size ∧ (listed.getD al false = true → ∃ b, (a.tmps[tmp]?).getD undef = .pointer (some ⟨b, 0, none⟩) ∧ (b < L ∨ H ≤ b))
theorem Tr1.start {al tmp ot src lo n : Nat} {t : Int × Int × Fo} {a : Act} {u : World} : Tr1 al tmp ot src lo t (Array.replicate n false) a u := fun h => by
  simp [Array.getD_eq_getD_getElem?, Array.getElem?_replicate] at h
  split at h <;> simp at h
theorem Tr1.keep {al tmp ot src lo i : Nat} {t : Int × Int × Fo} {listed : Array Bool} {a : Act} {u u' : World} (h : Tr1 al tmp ot src lo t listed a u) (h1 : i ≠ al) (h2 : i ≠ ot) {dst : Option Nat} {v : Value} (ht : dst ≠ some tmp) (hs : dst ≠ some src) (hb : Below u.heap.size u u') :
    Tr1 al tmp ot src lo t (listed.setIfInBounds i true) (a.put dst v) u' := fun hl => by
  obtain ⟨x, c, L, H, e, q1, q2, q3, q4⟩ := h (set_was h2 hl)
  have hget : ∀ t, dst ≠ some t → ((a.put dst v).tmps[t]?).getD undef = (a.tmps[t]?).getD undef := fun t hd => by
    cases dst with
    | none => rfl
    | some d => exact put_at v (fun e => hd (by rw [e]))
  refine ⟨x, c, L, H, (hget _ hs).trans e, q1.same (fun b _ hb2 => hb.block b (by omega)), q2, Nat.le_trans q3 hb.size, fun hal => ?_⟩
  obtain ⟨b, e2, q5⟩ := q4 (set_was h1 hal)
  exact ⟨b, (hget _ ht).trans e2, q5⟩
theorem Tr1.make {al st tmp bsrc ot src lo : Nat} {t : Int × Int × Fo} {listed : Array Bool} {a : Act} {u u' : World} {x : Option Addr} {c : Nat} (hx : Bx al st tmp bsrc lo listed a u) (h1 : ot ≠ al) (hts : src ≠ tmp) (hlt : src < a.tmps.size) (hlo : lo ≤ u.heap.size) (hsl : Sl u' u.heap.size u'.heap.size x t.2.2) :
    Tr1 al tmp ot src lo t (listed.setIfInBounds ot true) (a.put (some src) (.agg #[.int .i64 t.1, .int .i64 t.2.1, .slice x (flen t.2.2) c])) u' := fun _ => by
  refine ⟨x, c, u.heap.size, u'.heap.size, put_self _ hlt, hsl, hlo, Nat.le_refl _, fun hal => ?_⟩
  obtain ⟨b, e, _, q2, _⟩ := hx (set_was h1 hal)
  exact ⟨b, (put_at _ hts).trans e, .inl q2⟩
theorem Tr1.box {al tmp ot src lo : Nat} {t : Int × Int × Fo} {listed : Array Bool} {a : Act} {u : World} {o : Obj} (h : Tr1 al tmp ot src lo t listed a u) (h1 : al ≠ ot) (hts : tmp ≠ src) (hlt : tmp < a.tmps.size) :
    Tr1 al tmp ot src lo t (listed.setIfInBounds al true) (a.put (some tmp) (.pointer (some ⟨u.heap.size, 0, none⟩))) (u.alloc o) := fun hl => by
  obtain ⟨x, c, L, H, e, q1, q2, q3, q4⟩ := h (set_was h1 hl)
  exact ⟨x, c, L, H, (put_at _ hts).trans e, q1.same (fun b _ hb2 => Below.heap_alloc _ _ _ (by omega)), q2, by simp; omega, fun _ => ⟨_, put_self _ hlt, .inr q3⟩⟩
theorem Tr1.fill {al tmp ot src lo i b : Nat} {t : Int × Int × Fo} {listed : Array Bool} {a : Act} {u : World} {x y z : Value} (h : Tr1 al tmp ot src lo t listed a u) (_h1 : i ≠ al) (h2 : i ≠ ot) (hal : listed.getD al false = true) (he : (a.tmps[tmp]?).getD undef = .pointer (some ⟨b, 0, none⟩)) :
    Tr1 al tmp ot src lo t (listed.setIfInBounds i true) (a.put none undef) (s3 u b x y z) := fun hl => by
  obtain ⟨x', c, L, H, e, q1, q2, q3, q4⟩ := h (set_was h2 hl)
  obtain ⟨b', e2, q5⟩ := q4 hal
  rw [he] at e2
  simp only [Value.pointer.injEq, Option.some.injEq, Addr.mk.injEq, and_true] at e2
  subst e2
  refine ⟨x', c, L, H, e, ?_, q2, by rw [s3_size]; exact q3, fun _ => ⟨b, he, q5⟩⟩
  have h0 : Same L H u u := fun _ _ _ => rfl
  unfold s3
  exact q1.same (((h0.setCell q5 _).setCell q5 _).setCell q5 _)
end Go.Proofs.Ytdkcbbhkoibplaa

/-! LD0: LinkDo's walk: what holds in its midst. Definitions and plain lemmas. -/
namespace Go.Proofs.Ytdkcbbhkoibplaa
open Go.RowKit Go.Deep

/-- What LinkDo and ProofEnd answer. -/
def LkPost (r : Option Tm3) (w : World) (e : Ending) (w' : World) : Prop :=
  ∃ a c s v k t, ansR r = ((s, v, k), t) ∧ e = .returned (.tuple #[.agg #[.int .i64 s, .int .i64 v, .slice a (flen k) c], .bool t]) ∧ Below w.heap.size w w' ∧ Sl w' w.heap.size w'.heap.size a k
/-- The boxes of the term, the link and the result. -/
structure LdS (w : World) (s v : Int) (T : Value) (eq : Int) (back : Bool) (P B : Value) (u : World) : Prop where
  low : Below w.heap.size w u
  size : w.heap.size + 3 ≤ u.heap.size
  t0 : u.cell? ⟨w.heap.size, 0, none⟩ = some (.int .i64 s)
  t1 : u.cell? ⟨w.heap.size, 1, none⟩ = some (.int .i64 v)
  t2 : u.cell? ⟨w.heap.size, 2, none⟩ = some T
  l0 : u.cell? ⟨w.heap.size + 1, 0, none⟩ = some (.int .i64 eq)
  l1 : u.cell? ⟨w.heap.size + 1, 1, none⟩ = some (.bool back)
  l2 : u.cell? ⟨w.heap.size + 1, 2, none⟩ = some P
  l3 : u.cell? ⟨w.heap.size + 1, 3, none⟩ = some B
  r0 : u.cell? ⟨w.heap.size + 1 + 1, 0, none⟩ = some (.int .i64 0)
  r1 : u.cell? ⟨w.heap.size + 1 + 1, 1, none⟩ = some (.int .i64 0)
  r2 : u.cell? ⟨w.heap.size + 1 + 1, 2, none⟩ = some (.slice none 0 0)
  f : ∀ i, u.frozen? ⟨w.heap.size + 1 + 1, i, none⟩ = false
theorem LdS.start {w : World} {s v : Int} {T : Value} {eq : Int} {back : Bool} {P B : Value} {T1 T2 T3 : TypeId} : LdS w s v T eq back P B (((w.alloc (.cells #[.int .i64 s, .int .i64 v, T] T1)).alloc (.cells #[.int .i64 eq, .bool back, P, B] T2)).alloc (.cells #[.int .i64 0, .int .i64 0, .slice none 0 0] T3)) := by
  have a0 : ∀ i, (((w.alloc (.cells #[.int .i64 s, .int .i64 v, T] T1)).alloc (.cells #[.int .i64 eq, .bool back, P, B] T2)).alloc (.cells #[.int .i64 0, .int .i64 0, .slice none 0 0] T3)).cell? ⟨w.heap.size, i, none⟩ = #[Value.int .i64 s, .int .i64 v, T][i]? := fun i => by
    rw [World.cell?_alloc_lt _ _ _ (by simp; omega), World.cell?_alloc_lt _ _ _ (by simp), World.cell?_alloc_at _ _ _ _ (by simp)]
  have a1 : ∀ i, (((w.alloc (.cells #[.int .i64 s, .int .i64 v, T] T1)).alloc (.cells #[.int .i64 eq, .bool back, P, B] T2)).alloc (.cells #[.int .i64 0, .int .i64 0, .slice none 0 0] T3)).cell? ⟨w.heap.size + 1, i, none⟩ = #[Value.int .i64 eq, .bool back, P, B][i]? := fun i => by
    rw [World.cell?_alloc_lt _ _ _ (by simp), World.cell?_alloc_at _ _ _ _ (by simp)]
  have a2 : ∀ i, (((w.alloc (.cells #[.int .i64 s, .int .i64 v, T] T1)).alloc (.cells #[.int .i64 eq, .bool back, P, B] T2)).alloc (.cells #[.int .i64 0, .int .i64 0, .slice none 0 0] T3)).cell? ⟨w.heap.size + 1 + 1, i, none⟩ = #[Value.int .i64 0, .int .i64 0, .slice none 0 0][i]? := fun i => by
    rw [World.cell?_alloc_at _ _ _ _ (by simp)]
  exact ⟨(((Below.refl _ _).alloc (Nat.le_refl _) _).alloc (by simp) _).alloc (by simp; omega) _, by simp, a0 0, a0 1, a0 2, a1 0, a1 1, a1 2, a1 3, a2 0, a2 1, a2 2, fun i => by rw [World.frozen?_alloc_at _ _ _ _ (by simp)]⟩
theorem LdS.next {w : World} {s v : Int} {T : Value} {eq : Int} {back : Bool} {P B : Value} {u u' : World} (h : LdS w s v T eq back P B u) (hb : Below u.heap.size u u') : LdS w s v T eq back P B u' :=
  ⟨h.low.trans (hb.mono (by have := h.size; omega)), Nat.le_trans h.size hb.size, cell_low hb h.t0, cell_low hb h.t1, cell_low hb h.t2, cell_low hb h.l0, cell_low hb h.l1, cell_low hb h.l2, cell_low hb h.l3, cell_low hb h.r0, cell_low hb h.r1, cell_low hb h.r2, fun i => (hb.frozen (by have := h.size; simp; omega)).trans (h.f i)⟩
theorem LdS.s3 {w : World} {s v : Int} {T : Value} {eq : Int} {back : Bool} {P B : Value} {u : World} (h : LdS w s v T eq back P B u) {b : Nat} (hb : w.heap.size + 3 ≤ b) (x y z : Value) : LdS w s v T eq back P B (s3 u b x y z) := by
  have hf : ∀ {q i : Nat}, q < w.heap.size + 3 → (Go.Proofs.Ytdkcbbhkoibplaa.s3 u b x y z).cell? ⟨q, i, none⟩ = u.cell? ⟨q, i, none⟩ := fun hq => (s3_far (q := ⟨_, _, none⟩) (by dsimp only; omega)).1
  refine ⟨?_, by rw [s3_size]; exact h.size, by rw [hf (by omega)]; exact h.t0, by rw [hf (by omega)]; exact h.t1, by rw [hf (by omega)]; exact h.t2, by rw [hf (by omega)]; exact h.l0, by rw [hf (by omega)]; exact h.l1, by rw [hf (by omega)]; exact h.l2, by rw [hf (by omega)]; exact h.l3, by rw [hf (by omega)]; exact h.r0, by rw [hf (by omega)]; exact h.r1, by rw [hf (by omega)]; exact h.r2, fun i => by rw [s3_fr]; exact h.f i⟩
  unfold Go.Proofs.Ytdkcbbhkoibplaa.s3
  exact ((h.low.setCell (by simp; omega) _).setCell (by simp; omega) _).setCell (by simp; omega) _
theorem lk_end {w w1 : World} {r : Option Tm3} {s v : Int} {k : Fo} {t : Bool} {a : Option Addr} {c : Nat} (hr : ansR r = ((s, v, k), t)) (hb : Below w.heap.size w w1) (hl : Sl w1 (w.heap.size + 3) w1.heap.size a k) (p q o : Value) :
    LkPost r w (.returned (.tuple #[.agg #[.int .i64 s, .int .i64 v, .slice a (flen k) c], .bool t])) (((w1.setCell ⟨w.heap.size + 1 + 1, 0, none⟩ p).setCell ⟨w.heap.size + 1 + 1, 1, none⟩ q).setCell ⟨w.heap.size + 1 + 1, 2, none⟩ o) := by
  refine ⟨a, c, s, v, k, t, hr, rfl, ((hb.setCell (by simp; omega) _).setCell (by simp; omega) _).setCell (by simp; omega) _, ?_⟩
  have hs : Same (w.heap.size + 3) w1.heap.size w1 (((w1.setCell ⟨w.heap.size + 1 + 1, 0, none⟩ p).setCell ⟨w.heap.size + 1 + 1, 1, none⟩ q).setCell ⟨w.heap.size + 1 + 1, 2, none⟩ o) :=
    (((Same.setCell (fun _ _ _ => rfl) (.inl (by simp)) _).setCell (.inl (by simp)) _).setCell (.inl (by simp)) _)
  exact (hl.same hs).mono (by omega) (by simp)
theorem lkR_bad {es : List Eqd} {t : Tm3} {l : Lk} (h : okEs es = false) : lkR es t l = none := by unfold lkR; rw [if_neg (fun h' => by rw [h] at h'; cases h'.1)]
theorem lkR_big {es : List Eqd} {t : Tm3} {l : Lk} (h : okT3 64 t = false) : lkR es t l = none := by unfold lkR; rw [if_neg (fun h' => by rw [h] at h'; cases h'.2)]
theorem lkR_eq {es : List Eqd} {t : Tm3} {l : Lk} (h : okEs es = true) (h2 : okT3 64 t = true) : lkR es t l = lk1 es t l := by unfold lkR; rw [if_pos ⟨h, h2⟩]
theorem lk1_in {es : List Eqd} {t : Tm3} {l : Lk} (h : ¬ (0 ≤ l.1 ∧ l.1 < (es.length : Int))) : lk1 es t l = none := by unfold lk1; rw [if_neg (fun h' => h h'.2)]
theorem lk1_sok {es : List Eqd} {t : Tm3} {l : Lk} (h : sok 64 l.2.2.2 = false) : lk1 es t l = none := by unfold lk1; rw [if_neg (fun h' => by rw [h] at h'; cases h'.1)]
theorem lk1_at {es : List Eqd} {t : Tm3} {i : Nat} {b : Bool} {pl : List Int} {bs : List Bd} {e : Eqd} (hi : es[i]? = some e) (hs : sok 64 bs = true) : lk1 es t ((i : Int), b, pl, bs) = lkAt t pl (put3 (sv bs) (sidesR e b).1) (put3 (sv bs) (sidesR e b).2) := by
  have hlt := (List.getElem?_eq_some_iff.1 hi).1
  unfold lk1
  simp only [Int.toNat_natCast]
  rw [if_pos ⟨hs, by omega, by omega⟩, hi]
  rfl
theorem lkAt_none {t : Tm3} {pl : List Int} {f g : Tm3} (h : fat t.1 t.2.1 t.2.2 pl = none) : lkAt t pl f g = none := by unfold lkAt; rw [h]
theorem lkAt_other {t : Tm3} {pl : List Int} {f g h : Tm3} (h1 : fat t.1 t.2.1 t.2.2 pl = some h) (h2 : teq h.1 h.2.1 h.2.2 f.1 f.2.1 f.2.2 = false) : lkAt t pl f g = none := by unfold lkAt; rw [h1]; dsimp only; rw [h2]; rfl
theorem lkAt_out {t : Tm3} {pl : List Int} {f g h out : Tm3} (h1 : fat t.1 t.2.1 t.2.2 pl = some h) (h2 : teq h.1 h.2.1 h.2.2 f.1 f.2.1 f.2.2 = true) (h3 : fput t.1 t.2.1 t.2.2 pl g = some out) : lkAt t pl f g = if okT3 64 out = true then some out else none := by
  unfold lkAt; rw [h1]; dsimp only; rw [if_pos h2, h3]
theorem ans_none {r : Option Tm3} (h : r = none) : ansR r = ((0, 0, .nil), false) := by rw [h]; rfl
theorem ans_some {r : Option Tm3} {t : Tm3} (h : r = some t) : ansR r = (t, true) := by rw [h]; rfl
end Go.Proofs.Ytdkcbbhkoibplaa

/-! SP1: What a variable stands for: the specification's l2Of. -/
namespace Go.Proofs.Ytdkcbbhkoibplaa
open Go.RowKit Go.Deep

def OfPost (bs : List Bd) (x : Int) (w : World) (e : Ending) (w' : World) : Prop :=
  ∃ a c, e = .returned (.agg #[.int .i64 (tsub (sv bs) 0 x .nil).1, .int .i64 (tsub (sv bs) 0 x .nil).2.1, .slice a (flen (tsub (sv bs) 0 x .nil).2.2) c]) ∧ Below w.heap.size w w' ∧ Sl w' 0 w'.heap.size a (tsub (sv bs) 0 x .nil).2.2

theorem of_end {w : World} {bs : List Bd} {x s v : Int} {k : Fo} {a : Option Addr} {c : Nat} {Z : Obj} (hr : tsub (sv bs) 0 x .nil = (s, v, k)) (hl : Sl w 0 w.heap.size a k) :
    OfPost bs x w (.returned (.agg #[.int .i64 s, .int .i64 v, .slice a (flen k) c])) (w.alloc Z) := by
  have hb : Below w.heap.size w (w.alloc Z) := (Below.refl _ _).alloc (Nat.le_refl _) Z
  refine ⟨a, c, by rw [hr], hb, ?_⟩
  rw [hr]
  exact (hl.below hb).mono (Nat.le_refl _) hb.size

set_option maxRecDepth 100000 in
set_option maxHeartbeats 1000000 in
theorem l2Of_any (bs : List Bd) (A : Option Addr) (C : Nat) (x : Int) (w : World) (hb : BSl w 0 w.heap.size A bs) (hl : bs.length ≤ 9223372036854775807) :
    Calls Try.prog 85 #[.slice A bs.length C, .int .i64 x] w (OfPost bs x w) := by
  have HB := Lib.hid hb
  clear hb
  go_enter Try.func85, Try.ntmps85
  go_wp2_with fail
  go_loopw [5] (fun i wr => ∃ j : Nat, i = .int .i64 j ∧ j ≤ bs.length ∧ wr = w.alloc (.cells #[.int .i64 0, .int .i64 0, .slice none 0 0] 35) ∧ Hid (sv bs x = sv (bs.drop j) x)) (fun i _ => bs.length - (intOf i).toNat)
  case atStart => exact ⟨0, rfl, Nat.zero_le _, rfl, by simp [Hid]⟩
  case round =>
    obtain ⟨j, rfl, hj, rfl, HS⟩ := hrel
    by_cases hlt : j < bs.length
    · obtain ⟨y, hy⟩ : ∃ y, bs[j]? = some y := ⟨bs[j], List.getElem?_eq_getElem hlt⟩
      obtain ⟨xv, s, v, k⟩ := y
      have hbr := HB.out
      rcases hbr with hbr | ⟨b, o, rfl, _, hbB, hcells⟩
      · subst hbr; simp at hy
      obtain ⟨a', c', c0, c1, c2, c3, hsl⟩ := hcells j _ hy
      dsimp only at c0 c1 c2 c3 hsl
      have d0 := (World.cell?_alloc_lt w (.cells #[.int .i64 0, .int .i64 0, .slice none 0 0] 35) ⟨b, o + j * 4, none⟩ hbB).trans c0
      have d1 := (World.cell?_alloc_lt w (.cells #[.int .i64 0, .int .i64 0, .slice none 0 0] 35) ⟨b, o + j * 4 + 1, none⟩ hbB).trans c1
      have d2 := (World.cell?_alloc_lt w (.cells #[.int .i64 0, .int .i64 0, .slice none 0 0] 35) ⟨b, o + j * 4 + 1 + 1, none⟩ hbB).trans c2
      have d3 := (World.cell?_alloc_lt w (.cells #[.int .i64 0, .int .i64 0, .slice none 0 0] 35) ⟨b, o + j * 4 + 1 + 2, none⟩ hbB).trans c3
      have HD := Lib.hid (drop_bd hy)
      have HSL := Lib.hid hsl
      have g1 : (0 : Int) ≤ (j : Int) := by omega
      have g2 : (j : Int) < (bs.length : Int) := by omega
      clear hcells hy c0 c1 c2 c3 hsl
      by_cases hx : xv = x
      · have hxe : (xv == x) = true := by simpa using hx
        have HT : Hid (tsub (sv bs) 0 x .nil = (s, v, k)) := by
          rw [Hid, tsub, if_pos rfl, HS.out, HD.out]; simp only [sv]; rw [if_pos hx]; rfl
        clear hx HS HD
        go_wp2_with fail
        refine bodyPost_ret (v := .agg #[.int .i64 s, .int .i64 v, .slice a' (flen k) c']) ?_ rfl (of_end HT.out HSL.out)
        simp [results, Try.results85, go_sem]
      · have hxe : (xv == x) = false := by simpa using hx
        have HN : Hid (sv bs x = sv (bs.drop (j + 1)) x) := by rw [Hid, HS.out, HD.out]; simp only [sv]; rw [if_neg hx]
        clear hx HS HD
        go_wp2_with fail
        go_roundw
        case rel => exact ⟨j + 1, by go_num, by omega, trivial, HN⟩
        case measure => simp [intOf]; omega
    · have HT : Hid (tsub (sv bs) 0 x .nil = (0, x, .nil)) := by
        rw [Hid, tsub, if_pos rfl, HS.out, List.drop_eq_nil_of_le (by omega)]; rfl
      clear HS
      go_wp2_with fail
      refine bodyPost_ret (v := .agg #[.int .i64 0, .int .i64 x, .slice none 0 0]) ?_ rfl (of_end (k := .nil) HT.out (.inl rfl))
      simp [results, Try.results85, go_sem]
end Go.Proofs.Ytdkcbbhkoibplaa

/-! AD: Rows of binds whose terms lie in old memory; the specification's l2Add: a bind put in order. -/
namespace Go.Proofs.Ytdkcbbhkoibplaa
open Go.RowKit Go.Deep

theorem ladd_end {bs : List Bd} {b : Bd} {j : Nat} (h : bs.length ≤ j) : ladd (bs.drop j) b = [b] := by
  rw [List.drop_eq_nil_of_le h]; rfl

end Go.Proofs.Ytdkcbbhkoibplaa
