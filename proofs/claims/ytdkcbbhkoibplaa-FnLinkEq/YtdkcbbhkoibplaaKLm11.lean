/- Several texts in one: QN, FW0, Read, XA, XB, XBt, XT, XTo, OT. -/
import Derived.Test.YtdkcbbhkoibplaaKLm5
import Derived.Test.YtdkcbbhkoibplaaKLm7
import Derived.Test.YtdkcbbhkoibplaaKLm3
import Derived.Test.YtdkcbbhkoibplaaKLm4
import Derived.Test.YtdkcbbhkoibplaaKLm1
import Derived.Test.YtdkcbbhkoibplaaRows
import Derived.ProofKit
import Derived.Lib.SmallJoins
import Derived.WalkKit
import Derived.WalkSpells
import Derived.WalkLawsBesides
import Derived.Lib.Hide
import Derived.Deep.OwnRows
import Derived.Test.YtdkcbbhkoibplaaKLm8

/-! QN: equationsOf; the program's EqsOk. -/
namespace Go.Proofs.Ytdkcbbhkoibplaa
open Go.RowKit Go.Deep

/-- A slice's address at which the equations' nodes lie. -/
def QSl (w : World) (a : Option Addr) (es : List Eqd) : Prop :=
  es = [] ∨ ∃ b, a = some ⟨b, 0, none⟩ ∧ ∀ (i : Nat) (x : Eqd), es[i]? = some x → ∃ n1 n2, w.cell? ⟨b, i * 2, none⟩ = some n1 ∧ w.cell? ⟨b, i * 2 + 1, none⟩ = some n2 ∧ NodeIs w 0 w.heap.size n1 x.1.1 x.1.2.1 x.1.2.2 ∧ NodeIs w 0 w.heap.size n2 x.2.1 x.2.2.1 x.2.2.2
theorem QSl.next {w w' : World} {a : Option Addr} {es : List Eqd} (h : QSl w a es) (hb : Below w.heap.size w w') : QSl w' a es := by
  rcases h with h | ⟨b, e, h⟩
  · exact .inl h
  · refine .inr ⟨b, e, fun i x hx => ?_⟩
    obtain ⟨n1, n2, c1, c2, h1, h2⟩ := h i x hx
    exact ⟨n1, n2, cell_low hb c1, cell_low hb c2, (h1.below hb).mono (Nat.le_refl _) hb.size, (h2.below hb).mono (Nat.le_refl _) hb.size⟩
/-- The first j equations' nodes are laid. -/
structure QAt (w : World) (es : List Eqd) (g j : Nat) (wr : World) : Prop where
  below : Below w.heap.size w wr
  new : w.heap.size ≤ g
  lt : g < wr.heap.size
  row : ∃ f : Nat → Value, wr.rowIs g 154 (es.length * 2) f ∧ (∀ i, j * 2 ≤ i → i < es.length * 2 → f i = .nilIface) ∧ ∀ (i : Nat) (x : Eqd), i < j → es[i]? = some x → NodeIs wr 0 wr.heap.size (f (i * 2)) x.1.1 x.1.2.1 x.1.2.2 ∧ NodeIs wr 0 wr.heap.size (f (i * 2 + 1)) x.2.1 x.2.2.1 x.2.2.2
theorem QAt.start (w : World) (es : List Eqd) : QAt w es w.heap.size 0 (w.alloc (.cells (madeCells #[.nilIface, .nilIface] (es.length * 2)) 154)) := by
  refine ⟨(Below.refl _ _).alloc (Nat.le_refl _) _, Nat.le_refl _, by simp, fun _ => .nilIface, ?_, fun _ _ _ => rfl, fun i x hi => by omega⟩
  have := World.rowIs_alloc w (madeCells #[.nilIface, .nilIface] (es.length * 2)) 154 (fun _ => .nilIface) (fun i hi => by
    rw [size_madeCells] at hi
    rw [made_atA _ _ _ hi]
    have : i % (#[Value.nilIface, .nilIface] : Array Value).size = 0 ∨ i % (#[Value.nilIface, .nilIface] : Array Value).size = 1 := by simp; omega
    rcases this with h | h <;> rw [h] <;> rfl)
  rw [size_madeCells] at this
  exact this
theorem QAt.low {w wr w2 : World} {es : List Eqd} {g j : Nat} (h : QAt w es g j wr) (hb : Below wr.heap.size wr w2) : QAt w es g j w2 := by
  obtain ⟨f, hf, h1, h2⟩ := h.row
  exact ⟨h.below.trans (hb.mono h.below.size), h.new, Nat.lt_of_lt_of_le h.lt hb.size, f, hf.of_block (hb.block _ h.lt), h1, fun i x hi hx => ⟨((h2 i x hi hx).1.below hb).mono (Nat.le_refl _) hb.size, ((h2 i x hi hx).2.below hb).mono (Nat.le_refl _) hb.size⟩⟩
theorem QAt.step {w wr : World} {es : List Eqd} {g j : Nat} {x : Eqd} {n1 n2 : Value} (h : QAt w es g j wr) (hx : es[j]? = some x) (hn1 : NodeIs wr 0 wr.heap.size n1 x.1.1 x.1.2.1 x.1.2.2) (hn2 : NodeIs wr 0 wr.heap.size n2 x.2.1 x.2.2.1 x.2.2.2) :
    QAt w es g (j + 1) ((wr.setCell ⟨g, j * 2, none⟩ n1).setCell ⟨g, j * 2 + 1, none⟩ n2) := by
  obtain ⟨f, hf, hnil, hall⟩ := h.row
  have hj := (List.getElem?_eq_some_iff.1 hx).1
  have c1 : wr.cell? ⟨g, j * 2, none⟩ = some .nilIface := by rw [hf.cell (by omega), hnil _ (Nat.le_refl _) (by omega)]
  have c2 : wr.cell? ⟨g, j * 2 + 1, none⟩ = some .nilIface := by rw [hf.cell (by omega), hnil _ (by omega) (by omega)]
  have ne : (⟨g, j * 2, none⟩ : Addr) ≠ ⟨g, j * 2 + 1, none⟩ := by intro e; have := congrArg Addr.off e; simp at this
  have hkeep : ∀ q z, wr.cell? q = some z → z ≠ .nilIface → ((wr.setCell ⟨g, j * 2, none⟩ n1).setCell ⟨g, j * 2 + 1, none⟩ n2).cell? q = some z := fun q z hq hz => by
    by_cases e : q = ⟨g, j * 2, none⟩
    · subst e; rw [c1] at hq; exact absurd (Option.some.inj hq).symm hz
    · by_cases e2 : q = ⟨g, j * 2 + 1, none⟩
      · subst e2; rw [c2] at hq; exact absurd (Option.some.inj hq).symm hz
      · rw [World.cell?_setCell_other _ _ _ _ (fun h' => e2 h'.symm), World.cell?_setCell_other _ _ _ _ (fun h' => e h'.symm)]; exact hq
  refine ⟨(h.below.setCell h.new _).setCell h.new _, h.new, by simpa using h.lt, _, (hf.set _ _).set _ _, fun i h1 h2 => ?_, fun i y hi hy => ?_⟩
  · rw [if_neg (by omega), if_neg (by omega)]; exact hnil i (by omega) h2
  · by_cases e : i = j
    · subst e
      rw [hx] at hy
      obtain rfl := Option.some.inj hy
      rw [if_neg (by omega), if_pos rfl, if_pos rfl]
      exact ⟨(hn1.keepN hkeep).mono (Nat.le_refl _) (by simp), (hn2.keepN hkeep).mono (Nat.le_refl _) (by simp)⟩
    · rw [if_neg (by omega), if_neg (by omega), if_neg (by omega), if_neg (by omega)]
      obtain ⟨q1, q2⟩ := hall i y (by omega) hy
      exact ⟨(q1.keepN hkeep).mono (Nat.le_refl _) (by simp), (q2.keepN hkeep).mono (Nat.le_refl _) (by simp)⟩
theorem QAt.done {w wr : World} {es : List Eqd} {g : Nat} (h : QAt w es g es.length wr) : QSl wr (some ⟨g, 0, none⟩) es := by
  obtain ⟨f, hf, _, hall⟩ := h.row
  refine .inr ⟨g, rfl, fun i x hx => ?_⟩
  have hi := (List.getElem?_eq_some_iff.1 hx).1
  exact ⟨_, _, hf.cell (by omega), hf.cell (by omega), (hall i x hi hx).1, (hall i x hi hx).2⟩
theorem Try.infoEqn : ∃ i, Try.prog.info? 154 = some i ∧ i.zero = some (.agg #[.nilIface, .nilIface]) ∧ i.size = 2 ∧ i.bytes = 32 := by
  have h : (Try.prog.info? 154).map (fun i => (i.zero, i.size, i.bytes)) = some (some (.agg #[.nilIface, .nilIface]), 2, 32) := by kernel_rfl
  obtain ⟨i, hi, hz⟩ := Option.map_eq_some_iff.1 h
  simp only [Prod.mk.injEq] at hz
  exact ⟨i, hi, hz.1, hz.2.1, hz.2.2⟩
theorem make_eqns (n : Nat) (hn : n ≤ 1048576) (w : World) :
    (Instr.makeSlice 112 (.int .i64 (n : Int)) (.int .i64 (n : Int))).run Try.prog w = .ok (.slice (some ⟨w.heap.size, 0, none⟩) n n) (w.alloc (.cells (madeCells #[.nilIface, .nilIface] (n * 2)) 154)) := by
  obtain ⟨i, hi, hz, hs, hb⟩ := Try.infoEqn
  have := run_make (P := Try.prog) w 112 154 i _ Try.underlying112 hi hz .i64 .i64 (n : Int) (n : Int) (by omega) (by omega) (by rw [hb]; omega) (by omega)
  rw [hs] at this
  simpa [Value.cells] using this

def EqnPost (es : List Eqd) (w : World) (e : Ending) (w' : World) : Prop :=
  Below w.heap.size w w' ∧ ((okEs es = true ∧ ∃ A C, e = .returned (.tuple #[.slice A es.length C, .bool true]) ∧ QSl w' A es) ∨ (okEs es = false ∧ e = .returned (.tuple #[.slice none 0 0, .bool false])))

set_option maxRecDepth 100000 in
set_option maxHeartbeats 2000000 in
theorem equationsOf_any (es : List Eqd) (A : Option Addr) (C : Nat) (w : World) (hb : ESl w 0 w.heap.size A es) (hl : es.length ≤ 9223372036854775807) :
    Calls Try.prog 76 #[.slice A es.length C] w (EqnPost es w) := by
  have HB := Lib.hid hb
  clear hb
  by_cases hbig : 6 < es.length
  · have HF : Hid (okEs es = false) := by
      cases h : okEs es with
      | false => exact rfl
      | true => have := ((okEs_iff es).1 h).1; omega
    go_enter Try.func76, Try.ntmps76
    go_wp2_with fail
    refine bodyPost_ret (v := .tuple #[.slice none 0 0, .bool false]) ?_ rfl ⟨Below.refl _ _, .inr ⟨HF.out, rfl⟩⟩
    simp [results, Try.results76, go_sem]
  have hmk := make_eqns es.length (by omega)
  have HST := Lib.hid (QAt.start w es)
  go_enter Try.func76, Try.ntmps76
  go_wp2_with fail
  clear hmk
  go_loopw [19] (fun i wr => ∃ j : Nat, i = .int .i64 j ∧ j ≤ es.length ∧ Hid ((es.take j).all okE = true) ∧ Hid (QAt w es w.heap.size j wr)) (fun i _ => es.length - (intOf i).toNat)
  case atStart => exact ⟨0, rfl, Nat.zero_le _, rfl, HST⟩
  case round =>
    clear HST
    obtain ⟨j, rfl, hj, HS, HQ⟩ := hrel
    have hws := HQ.out.below.size
    by_cases hlt : j < es.length
    · obtain ⟨x, hx⟩ : ∃ x, es[j]? = some x := ⟨es[j], List.getElem?_eq_getElem hlt⟩
      obtain ⟨⟨s, v, k⟩, s', v', k'⟩ := x
      have hbr := HB.out.below HQ.out.below
      obtain ⟨b, o, rfl, _, hbB, a1, d1, a2, d2, c0, c1, c2, c3, c4, c5, hsl, hsl2⟩ := hbr.at hx
      dsimp only at c0 c1 c2 c3 c4 c5 hsl hsl2
      have g1 : (0 : Int) ≤ (j : Int) := by omega
      have g2 : (j : Int) < (es.length : Int) := by omega
      have HX := Lib.hid hx
      have hbx : Below wr.heap.size wr (wr.alloc (.cells #[.int .i64 s, .int .i64 v, .slice a1 (flen k) d1, .int .i64 s', .int .i64 v', .slice a2 (flen k') d2] 63)) := box_low _ _
      have HSL := Lib.hid (Sl.next (hsl.mono (Nat.le_refl _) hws) hbx)
      have HSL2 := Lib.hid (Sl.next (hsl2.mono (Nat.le_refl _) hws) hbx)
      have HQ1 := Lib.hid (HQ.out.low hbx)
      have cx : ∀ i, (wr.alloc (.cells #[.int .i64 s, .int .i64 v, .slice a1 (flen k) d1, .int .i64 s', .int .i64 v', .slice a2 (flen k') d2] 63)).cell? ⟨wr.heap.size, i, none⟩ = #[Value.int .i64 s, .int .i64 v, .slice a1 (flen k) d1, .int .i64 s', .int .i64 v', .slice a2 (flen k') d2][i]? := fun i => by rw [World.cell?_alloc_at _ _ _ _ (by simp)]
      have HX3 : Hid ((wr.alloc (.cells #[.int .i64 s, .int .i64 v, .slice a1 (flen k) d1, .int .i64 s', .int .i64 v', .slice a2 (flen k') d2] 63)).cell? ⟨wr.heap.size, 3, none⟩ = some (.int .i64 s')) := cx 3
      have HX4 : Hid ((wr.alloc (.cells #[.int .i64 s, .int .i64 v, .slice a1 (flen k) d1, .int .i64 s', .int .i64 v', .slice a2 (flen k') d2] 63)).cell? ⟨wr.heap.size, 4, none⟩ = some (.int .i64 v')) := cx 4
      have HX5 : Hid ((wr.alloc (.cells #[.int .i64 s, .int .i64 v, .slice a1 (flen k) d1, .int .i64 s', .int .i64 v', .slice a2 (flen k') d2] 63)).cell? ⟨wr.heap.size, 5, none⟩ = some (.slice a2 (flen k') d2)) := cx 5
      clear hx hsl hsl2 hbx cx
      go_wp2_with fail
      with_reducible refine (nodeOf_any s v a1 d1 k 16 _ HSL.out (by omega) (by omega)).mono ?_
      rintro e w2 ⟨n1, rfl, hb2, hyes⟩
      have e3 := cell_low hb2 HX3.out
      have e4 := cell_low hb2 HX4.out
      have e5 := cell_low hb2 HX5.out
      have HQ2 := Lib.hid (HQ1.out.low hb2)
      have HSL3 := Lib.hid (HSL2.out.next hb2)
      have HY := Lib.hid hyes
      clear hb2 hyes c0 c1 c2 c3 c4 c5 HSL HSL2 HX3 HX4 HX5 HQ1 HQ
      go_wp2_with fail
      with_reducible refine (nodeOf_any s' v' a2 d2 k' 16 _ HSL3.out (by omega) (by omega)).mono ?_
      rintro e w3 ⟨n2, rfl, hb3, hyes3⟩
      have HQ3 := Lib.hid (HQ2.out.low hb3)
      have HY2 := Lib.hid hyes3
      have HB3 := Lib.hid hb3
      clear hb3 hyes3 e3 e4 e5 HSL3 HQ2
      cases hok : okW s v k 16 with
      | false =>
        have HF : Hid (okEs es = false) := all_no HX.out (by simp only [okE, okT3, hok, Bool.false_and])
        clear hok
        go_wp2_with fail
        refine bodyPost_ret (v := .tuple #[.slice none 0 0, .bool false]) ?_ rfl ⟨HQ3.out.below, .inr ⟨HF.out, rfl⟩⟩
        simp [results, Try.results76, go_sem]
      | true =>
        have HOK := Lib.hid hok
        clear hok
        cases hok : okW s' v' k' 16 with
        | false =>
          have HF : Hid (okEs es = false) := all_no HX.out (by simp only [okE, okT3, hok, Bool.and_false])
          clear hok
          go_wp2_with fail
          refine bodyPost_ret (v := .tuple #[.slice none 0 0, .bool false]) ?_ rfl ⟨HQ3.out.below, .inr ⟨HF.out, rfl⟩⟩
          simp [results, Try.results76, go_sem]
        | true =>
          have HA : Hid ((es.take (j + 1)).all okE = true) := all_take HS.out HX.out (by simp only [okE, okT3, hok, HOK.out, Bool.and_self])
          have hn1 := ((HY.out HOK.out).mono (Nat.zero_le _) (Nat.le_refl _)).below HB3.out |>.mono (Nat.le_refl _) HB3.out.size
          have hn2 := (HY2.out hok).mono (Nat.zero_le _) (Nat.le_refl _)
          obtain ⟨f, hf, hnil, _⟩ := HQ3.out.row
          have z1 : w3.cell? ⟨w.heap.size, j * 2, none⟩ = some .nilIface := by rw [hf.cell (by omega), hnil _ (Nat.le_refl _) (by omega)]
          have z2 : w3.cell? ⟨w.heap.size, j * 2 + 1, none⟩ = some .nilIface := by rw [hf.cell (by omega), hnil _ (by omega) (by omega)]
          have f1 := hf.frozen (j * 2)
          have f2 := hf.frozen (j * 2 + 1)
          obtain ⟨t1, u1, rfl⟩ : ∃ t u, n1 = .iface t u := by rcases hn1 with ⟨_, _, rfl⟩ | ⟨_, _, _, rfl, _⟩ <;> exact ⟨_, _, rfl⟩
          obtain ⟨t2, u2, rfl⟩ : ∃ t u, n2 = .iface t u := by rcases hn2 with ⟨_, _, rfl⟩ | ⟨_, _, _, rfl, _⟩ <;> exact ⟨_, _, rfl⟩
          have HQ4 := Lib.hid (HQ3.out.step HX.out hn1 hn2)
          clear hok hn1 hn2 hf hnil HY HY2 HB3
          go_wp2_with fail
          go_roundw
          case rel => exact ⟨j + 1, by go_num, by omega, HA, HQ4⟩
          case measure => simp [intOf]; omega
    · obtain rfl : j = es.length := by omega
      have HE : Hid (okEs es = true) := by
        refine (okEs_iff es).2 ⟨by omega, fun x hx => ?_⟩
        have := HS.out
        rw [List.take_of_length_le (by omega)] at this
        exact List.all_eq_true.1 this x hx
      go_wp2_with fail
      refine bodyPost_ret (v := .tuple #[.slice (some ⟨w.heap.size, 0, none⟩) es.length es.length, .bool true]) ?_ rfl ⟨HQ.out.below, .inl ⟨HE.out, _, _, rfl, HQ.out.done⟩⟩
      simp [results, Try.results76, go_sem]

set_option maxRecDepth 100000 in
theorem iEqsOk_any (es : List Eqd) (A : Option Addr) (C : Nat) (w : World) (hb : ESl w 0 w.heap.size A es) (hl : es.length ≤ 9223372036854775807) :
    Calls Try.prog 40 #[.slice A es.length C] w fun e w' => e = .returned (.bool (okEs es)) ∧ Below w.heap.size w w' := by
  have HC := Lib.hid (equationsOf_any es A C w hb hl)
  clear hb
  go_enter Try.func40, Try.ntmps40
  go_wp2_with fail
  with_reducible refine HC.out.mono ?_
  rintro e w1 ⟨hb1, ⟨hok, A', C', rfl, _⟩ | ⟨hok, rfl⟩⟩
  · have HB1 := Lib.hid hb1
    have HOK := Lib.hid hok
    clear hb1 HC hok
    go_wp2_with fail
    go_ret
    exact ⟨by rw [HOK.out]; rfl, HB1.out⟩
  · have HB1 := Lib.hid hb1
    have HOK := Lib.hid hok
    clear hb1 HC hok
    go_wp2_with fail
    go_ret
    exact ⟨by rw [HOK.out]; rfl, HB1.out⟩
end Go.Proofs.Ytdkcbbhkoibplaa

/-! FW0: The program's sides of an equation. -/
namespace Go.Proofs.Ytdkcbbhkoibplaa
open Go.RowKit Go.Deep

set_option maxRecDepth 100000 in
set_option maxHeartbeats 1000000 in
theorem sides_any (t1 t2 : TypeId) (u1 u2 : Value) (back : Bool) (w : World) :
    Calls Try.prog 103 #[.agg #[.iface t1 u1, .iface t2 u2], .bool back] w fun e w' =>
      e = .returned (.tuple (if back = true then #[.iface t2 u2, .iface t1 u1] else #[.iface t1 u1, .iface t2 u2])) ∧ Below w.heap.size w w' := by
  have hb0 : Below w.heap.size w (w.alloc (.cells #[.iface t1 u1, .iface t2 u2] 154)) := box_low _ _
  have HB0 := Lib.hid hb0
  have hu0 : ∀ u : After (w.alloc (.cells #[.iface t1 u1, .iface t2 u2] 154)).heap.size (w.alloc (.cells #[.iface t1 u1, .iface t2 u2] 154)), u.world.cell? ⟨w.heap.size, 0, none⟩ = some (.iface t1 u1) := fun u => by
    rw [u.below.cell (by simp), World.cell?_alloc_at _ _ _ _ (by simp)]; rfl
  have hu1 : ∀ u : After (w.alloc (.cells #[.iface t1 u1, .iface t2 u2] 154)).heap.size (w.alloc (.cells #[.iface t1 u1, .iface t2 u2] 154)), u.world.cell? ⟨w.heap.size, 1, none⟩ = some (.iface t2 u2) := fun u => by
    rw [u.below.cell (by simp), World.cell?_alloc_at _ _ _ _ (by simp)]; rfl
  clear hb0
  go_enter Try.func103, Try.ntmps103
  cases back with
  | true =>
    go_wp2_with fail
    refine wp_region_mix (fun w' => ∃ u : After (w.alloc (.cells #[.iface t1 u1, .iface t2 u2] 154)).heap.size (w.alloc (.cells #[.iface t1 u1, .iface t2 u2] 154)), w' = u.world) [] [(0, 0), (1, 0), (2, 0), (3, 0), (4, 0), (5, 0)] (by kernel_rfl) (by kernel_rfl) ⟨⟨_, (Below.refl _ _).drew⟩, rfl⟩ ?_
    have HB1 := Lib.hid (HB0.out.trans ((Below.refl (w.alloc (.cells #[.iface t1 u1, .iface t2 u2] 154)).heap.size (w.alloc (.cells #[.iface t1 u1, .iface t2 u2] 154))).drew.mono (by simp)))
    iterate 6
      refine mix_see rfl (fun K hK => ?_)
      go_simp
      refine hK _ ?_
      clear hK K
    refine mix_end ?_
    clear hu0 hu1
    generalize (w.alloc (.cells #[.iface t1 u1, .iface t2 u2] 154)).drew = wd at *
    go_wp2_with fail
    refine bodyPost_ret (v := .tuple #[.iface t2 u2, .iface t1 u1]) ?_ rfl ⟨rfl, HB1.out⟩
    simp [results, Try.results103, go_sem]
  | false =>
    go_wp2_with fail
    refine wp_region_mix (fun w' => ∃ u : After (w.alloc (.cells #[.iface t1 u1, .iface t2 u2] 154)).heap.size (w.alloc (.cells #[.iface t1 u1, .iface t2 u2] 154)), w' = u.world) [] [(0, 0), (1, 0), (2, 0), (3, 0), (4, 0), (5, 0)] (by kernel_rfl) (by kernel_rfl) ⟨⟨_, (Below.refl _ _).drew⟩, rfl⟩ ?_
    have HB1 := Lib.hid (HB0.out.trans ((Below.refl (w.alloc (.cells #[.iface t1 u1, .iface t2 u2] 154)).heap.size (w.alloc (.cells #[.iface t1 u1, .iface t2 u2] 154))).drew.mono (by simp)))
    iterate 6
      refine mix_see rfl (fun K hK => ?_)
      go_simp
      refine hK _ ?_
      clear hK K
    refine mix_end ?_
    clear hu0 hu1
    generalize (w.alloc (.cells #[.iface t1 u1, .iface t2 u2] 154)).drew = wd at *
    go_wp2_with fail
    refine bodyPost_ret (v := .tuple #[.iface t1 u1, .iface t2 u2]) ?_ rfl ⟨rfl, HB1.out⟩
    simp [results, Try.results103, go_sem]
end Go.Proofs.Ytdkcbbhkoibplaa

/-! XBt: toTerm, toTermS once more: the copy is a tree whose rows lie each at the head of a block of its own, not frozen; and what stays of it if its numbers are written over. -/
namespace Go.Proofs.Ytdkcbbhkoibplaa
open Go.RowKit Go.Deep

theorem frozen_same {w w' : World} {b o : Nat} (h : w'.heap[b]? = w.heap[b]?) : w'.frozen? ⟨b, o, none⟩ = w.frozen? ⟨b, o, none⟩ := by simp only [World.frozen?, h]
end Go.Proofs.Ytdkcbbhkoibplaa

/-! XT: Trees of one's own: each row at the head of a block, the rows below it behind it, those of one kid ahead of those of the next. Plain lemmas. -/
namespace Go.Proofs.Ytdkcbbhkoibplaa
open Go.RowKit Go.Deep

theorem Ls_mono {Ls : Nat → Nat} {n : Nat} (h : ∀ i, i < n → Ls i ≤ Ls (i + 1)) : ∀ (d i : Nat), i + d ≤ n → Ls i ≤ Ls (i + d)
  | 0, _, _ => Nat.le_refl _
  | d + 1, i, hi => Nat.le_trans (Ls_mono h d i (by omega)) (by rw [show i + (d + 1) = i + d + 1 from by omega]; exact h (i + d) (by omega))

/-- The numbers of the row, and of the rows below it, count up from m on. -/
def Hd (w : World) (lo B : Nat) : Fo → Nat → Nat → Int → Prop
  | .nil, _, _, _ => True
  | .node _ _ _ k r, b, o, m => lo ≤ b ∧ b < B ∧ w.cell? ⟨b, o, none⟩ = some (.int .i64 m) ∧ w.cell? ⟨b, o + 1, none⟩ = some (.int .i64 (m + 1)) ∧
      (∃ a c, w.cell? ⟨b, o + 2, none⟩ = some (.slice a (flen k) c) ∧ (k = .nil ∨ ∃ b', a = some ⟨b', 0, none⟩ ∧ Hd w lo B k b' 0 (m + 2))) ∧ Hd w lo B r b (o + 3) (m + 2 + 2 * (fsz k : Int))
/-- The number from which the i-th kid counts. -/
def cnt (k : Fo) (m : Int) (i : Nat) : Int := m + 2 * ((fsz k : Int) - (fsz (fdrop i k) : Int))
end Go.Proofs.Ytdkcbbhkoibplaa

/-! XTo: Trees of one's own as XT has them, and no cell of them frozen. Plain lemmas. -/
namespace Go.Proofs.Ytdkcbbhkoibplaa
open Go.RowKit Go.Deep

/-- The row of the terms k in block b from offset o on, not frozen; the rows below them from block lo on below B. -/
def Tro (w : World) : Fo → Nat → Nat → Nat → Nat → Prop
  | .nil, _, _, lo, B => lo ≤ B
  | .node _ _ _ k r, b, o, lo, B => b < lo ∧ (∃ x, w.cell? ⟨b, o, none⟩ = some (.int .i64 x)) ∧ (∃ x, w.cell? ⟨b, o + 1, none⟩ = some (.int .i64 x)) ∧ w.frozen? ⟨b, o, none⟩ = false ∧ (w.frozen? ⟨b, o + 1, none⟩ = false ∧ w.frozen? ⟨b, o + 2, none⟩ = false) ∧
      ∃ M a c, lo ≤ M ∧ w.cell? ⟨b, o + 2, none⟩ = some (.slice a (flen k) c) ∧ (k = .nil ∨ ∃ b', a = some ⟨b', 0, none⟩ ∧ lo ≤ b' ∧ b' < M ∧ Tro w k b' 0 (b' + 1) M) ∧ Tro w r b (o + 3) M B
def TroS (w : World) (lo B : Nat) (a : Option Addr) (k : Fo) : Prop := k = .nil ∨ ∃ b, a = some ⟨b, 0, none⟩ ∧ lo ≤ b ∧ b < B ∧ Tro w k b 0 (b + 1) B

theorem Tro.le {w : World} : ∀ {k : Fo} {b o lo B : Nat}, Tro w k b o lo B → lo ≤ B
  | .nil, _, _, _, _, h => h
  | .node _ _ _ _ _, _, _, _, _, ⟨_, _, _, _, _, _, _, _, h1, _, _, h2⟩ => Nat.le_trans h1 h2.le
theorem Tro.mono {w : World} {B' : Nat} : ∀ {k : Fo} {b o lo B : Nat}, B ≤ B' → Tro w k b o lo B → Tro w k b o lo B'
  | .nil, _, _, _, _, hB, h => Nat.le_trans h hB
  | .node _ _ _ _ _, _, _, _, _, hB, ⟨h0, h1, h2, h3, h4, M, a, c, h5, h6, h7, h8⟩ => ⟨h0, h1, h2, h3, h4, M, a, c, h5, h6, h7, h8.mono hB⟩
theorem Tro.same {w w' : World} {L H : Nat} (hb : Same L H w w') : ∀ {k : Fo} {b o lo B : Nat}, L ≤ b → b < H → L ≤ lo → B ≤ H → Tro w k b o lo B → Tro w' k b o lo B
  | .nil, _, _, _, _, _, _, _, _, h => h
  | .node _ _ _ k r, b, o, lo, B, h1, h2, h3, h4, ⟨g0, ⟨x, hx⟩, ⟨y, hy⟩, f0, f1, M, a, c, g5, g6, g7, g8⟩ => by
    have hM := g8.le
    refine ⟨g0, ⟨x, by rw [hb.cell h1 h2]; exact hx⟩, ⟨y, by rw [hb.cell h1 h2]; exact hy⟩, by rw [frozen_same (hb b h1 h2)]; exact f0, ⟨by rw [frozen_same (hb b h1 h2)]; exact f1.1, by rw [frozen_same (hb b h1 h2)]; exact f1.2⟩, M, a, c, g5, by rw [hb.cell h1 h2]; exact g6, ?_, g8.same hb h1 h2 (by omega) h4⟩
    rcases g7 with g7 | ⟨b', e, e1, e2, g7⟩
    · exact .inl g7
    · exact .inr ⟨b', e, e1, e2, g7.same hb (by omega) (by omega) (by omega) (by omega)⟩
theorem TroS.same {w w' : World} {lo B : Nat} {a : Option Addr} {k : Fo} (hb : Same lo B w w') (h : TroS w lo B a k) : TroS w' lo B a k := by
  rcases h with h | ⟨b, e, h1, h2, h⟩
  · exact .inl h
  · exact .inr ⟨b, e, h1, h2, h.same hb h1 h2 (by omega) (Nat.le_refl _)⟩
theorem TroS.mono {w : World} {lo lo' B B' : Nat} {a : Option Addr} {k : Fo} (hlo : lo' ≤ lo) (hB : B ≤ B') (h : TroS w lo B a k) : TroS w lo' B' a k := by
  rcases h with h | ⟨b, e, h1, h2, h⟩
  · exact .inl h
  · exact .inr ⟨b, e, by omega, by omega, h.mono hB⟩

/-- What a kid of a tree's row is. -/
def TroAt (w : World) (k : Fo) (b o : Nat) (Ls : Nat → Nat) (i : Nat) : Prop :=
  ∃ x y s v kk a c, fdrop i k = .node x y (s, v) kk (fdrop (i + 1) k) ∧ (∃ z, w.cell? ⟨b, o + i * 3, none⟩ = some (.int .i64 z)) ∧ (∃ z, w.cell? ⟨b, o + i * 3 + 1, none⟩ = some (.int .i64 z)) ∧
    w.frozen? ⟨b, o + i * 3, none⟩ = false ∧ (w.frozen? ⟨b, o + i * 3 + 1, none⟩ = false ∧ w.frozen? ⟨b, o + i * 3 + 2, none⟩ = false) ∧ w.cell? ⟨b, o + i * 3 + 2, none⟩ = some (.slice a (flen kk) c) ∧ TroS w (Ls i) (Ls (i + 1)) a kk
theorem tro_of_all {w : World} : ∀ (k : Fo) (b o : Nat) (B : Nat) (Ls : Nat → Nat), (∀ i, i < flen k → Ls i ≤ Ls (i + 1)) → Ls (flen k) ≤ B → b < Ls 0 → (∀ i, i < flen k → TroAt w k b o Ls i) → Tro w k b o (Ls 0) B
  | .nil, _, _, _, _, _, h, _, _ => h
  | .node x y p kk r, b, o, B, Ls, h1, h2, h3, h => by
    obtain ⟨x', y', s, v, kk', a, c, e, d1, d2, d3, d4, d5, d6⟩ := h 0 (by simp [flen])
    simp only [fdrop, BT.node.injEq] at e
    obtain ⟨_, _, rfl, rfl, _⟩ := e
    have h01 : Ls 0 ≤ Ls 1 := h1 0 (by simp [flen])
    refine ⟨h3, by simpa using d1, by simpa using d2, by simpa using d3, by simpa using d4, Ls 1, a, c, h01, by simpa using d5, d6, ?_⟩
    have := tro_of_all r b (o + 3) B (fun i => Ls (i + 1)) (fun i hi => h1 (i + 1) (by simp [flen]; omega)) (by simpa [flen] using h2) (show b < Ls 1 by omega) fun i hi => by
      obtain ⟨x', y', s', v', kk', a', c', d0, d1, d2, d3, d4, d5, d6⟩ := h (i + 1) (by simp [flen]; omega)
      have e3' : o + (i + 1) * 3 = o + 3 + i * 3 := by omega
      rw [e3'] at d1 d2 d3 d4 d5
      exact ⟨x', y', s', v', kk', a', c', d0, d1, d2, d3, d4, d5, d6⟩
    exact this
end Go.Proofs.Ytdkcbbhkoibplaa

/-! OT: A term in memory of its own, one part of which is written over: rows whose blocks below lie apart, given by sets. Definitions and plain lemmas. -/
namespace Go.Proofs.Ytdkcbbhkoibplaa
open Go.RowKit Go.Deep

/-- The terms k lie in block b from offset o on; what is below them in blocks of P, the kids of one apart from those of the next. -/
def OwR (w : World) : Fo → Nat → Nat → (Nat → Prop) → Prop
  | .nil, _, _, _ => True
  | .node _ _ p k r, b, o, P => (w.cell? ⟨b, o, none⟩ = some (.int .i64 p.1) ∧ w.cell? ⟨b, o + 1, none⟩ = some (.int .i64 p.2)) ∧ (w.frozen? ⟨b, o, none⟩ = false ∧ w.frozen? ⟨b, o + 1, none⟩ = false ∧ w.frozen? ⟨b, o + 2, none⟩ = false) ∧
      ∃ (a : Option Addr) (c : Nat) (P1 P2 : Nat → Prop), (∀ x, P1 x → P x) ∧ (∀ x, P2 x → P x) ∧ (∀ x, P1 x → ¬ P2 x) ∧ w.cell? ⟨b, o + 2, none⟩ = some (.slice a (flen k) c) ∧
        (k = .nil ∨ ∃ (b' : Nat) (P3 : Nat → Prop), a = some ⟨b', 0, none⟩ ∧ P1 b' ∧ ¬ P3 b' ∧ (∀ x, P3 x → P1 x) ∧ OwR w k b' 0 P3) ∧ OwR w r b (o + 3) P2
/-- A slice's address at which the terms k lie so. -/
def OwS (w : World) (a : Option Addr) (k : Fo) (P : Nat → Prop) : Prop := k = .nil ∨ ∃ (b' : Nat) (P3 : Nat → Prop), a = some ⟨b', 0, none⟩ ∧ P b' ∧ ¬ P3 b' ∧ (∀ x, P3 x → P x) ∧ OwR w k b' 0 P3

/-- What stays. -/
theorem OwR.keep {w w' : World} : ∀ {k : Fo} {b o : Nat} {P : Nat → Prop}, (∀ q : Addr, (P q.block ∨ (q.block = b ∧ o ≤ q.off)) → w'.cell? q = w.cell? q ∧ w'.frozen? q = w.frozen? q) → OwR w k b o P → OwR w' k b o P
  | .nil, _, _, _, _, _ => trivial
  | .node _ _ p k r, b, o, P, hk, ⟨⟨c0, c1⟩, ⟨f0, f1, f2⟩, a, c, P1, P2, g1, g2, g3, g4, g5, g6⟩ => by
    have k0 := hk ⟨b, o, none⟩ (.inr ⟨rfl, Nat.le_refl _⟩)
    have k1 := hk ⟨b, o + 1, none⟩ (.inr ⟨rfl, by simp⟩)
    have k2 := hk ⟨b, o + 2, none⟩ (.inr ⟨rfl, by simp⟩)
    refine ⟨⟨k0.1.trans c0, k1.1.trans c1⟩, ⟨k0.2.trans f0, k1.2.trans f1, k2.2.trans f2⟩, a, c, P1, P2, g1, g2, g3, k2.1.trans g4, ?_, OwR.keep (fun q hq => hk q ?_) g6⟩
    · rcases g5 with g5 | ⟨b', P3, e, h1, h2, h3, h4⟩
      · exact .inl g5
      · refine .inr ⟨b', P3, e, h1, h2, h3, OwR.keep (fun q hq => hk q (.inl ?_)) h4⟩
        rcases hq with hq | ⟨hq, _⟩
        · exact g1 _ (h3 _ hq)
        · rw [hq]; exact g1 _ h1
    · rcases hq with hq | ⟨hq, ho⟩
      · exact .inl (g2 _ hq)
      · exact .inr ⟨hq, by omega⟩
theorem OwS.keep {w w' : World} {a : Option Addr} {k : Fo} {P : Nat → Prop} (hk : ∀ q : Addr, P q.block → w'.cell? q = w.cell? q ∧ w'.frozen? q = w.frozen? q) (h : OwS w a k P) : OwS w' a k P := by
  rcases h with h | ⟨b', P3, e, h1, h2, h3, h4⟩
  · exact .inl h
  · refine .inr ⟨b', P3, e, h1, h2, h3, h4.keep fun q hq => hk q ?_⟩
    rcases hq with hq | ⟨hq, _⟩
    · exact h3 _ hq
    · rw [hq]; exact h1
/-- Such rows are rows. -/
theorem OwR.row {w : World} {lo B : Nat} : ∀ {k : Fo} {b o : Nat} {P : Nat → Prop}, (∀ x, P x → lo ≤ x ∧ x < B) → lo ≤ b → b < B → OwR w k b o P → Row w lo B k b o
  | .nil, _, _, _, _, _, _, _ => trivial
  | .node _ _ p k r, b, o, P, hP, hl, hB, ⟨⟨c0, c1⟩, _, a, c, P1, P2, g1, g2, g3, g4, g5, g6⟩ => by
    refine ⟨hl, hB, c0, c1, ⟨a, c, g4, ?_⟩, OwR.row (fun x hx => hP x (g2 x hx)) hl hB g6⟩
    rcases g5 with g5 | ⟨b', P3, e, h1, h2, h3, h4⟩
    · exact .inl g5
    · have hb := hP b' (g1 _ h1)
      exact .inr ⟨b', 0, e, OwR.row (fun x hx => hP x (g1 _ (h3 x hx))) hb.1 hb.2 h4⟩
/-- Trees of one's own are such rows. -/
theorem ow_of_tr {w : World} {lo' B' : Nat} : ∀ {k : Fo} {b o lo B : Nat}, Tro w k b o lo B → Row w lo' B' k b o → OwR w k b o fun x => lo ≤ x ∧ x < B
  | .nil, _, _, _, _, _, _ => trivial
  | .node _ _ p k r, b, o, lo, B, ⟨h0, _, _, f0, f1, M, a, c, h5, h6, h7, h8⟩, ⟨_, _, c0, c1, ⟨a2, c2, d2, hk⟩, hr⟩ => by
    rw [h6] at d2
    simp only [Option.some.injEq, Value.slice.injEq, true_and] at d2
    obtain ⟨rfl, rfl⟩ := d2
    have hM := h8.le
    refine ⟨⟨c0, c1⟩, ⟨f0, f1.1, f1.2⟩, a, c, fun x => lo ≤ x ∧ x < M, fun x => M ≤ x ∧ x < B, fun x hx => ⟨hx.1, by omega⟩, fun x hx => ⟨by omega, hx.2⟩, fun x hx hx2 => by omega, h6, ?_, ow_of_tr h8 hr⟩
    rcases h7 with h7 | ⟨b', e, e1, e2, h7⟩
    · exact .inl h7
    · rcases hk with hk | ⟨b2, o2, e', hk⟩
      · exact .inl hk
      · rw [e] at e'
        simp only [Option.some.injEq, Addr.mk.injEq, and_true] at e'
        obtain ⟨rfl, rfl⟩ := e'
        exact .inr ⟨b', fun x => b' + 1 ≤ x ∧ x < M, e, ⟨e1, e2⟩, fun hx => by omega, fun x hx => ⟨by omega, hx.2⟩, ow_of_tr h7 hk⟩
theorem ow_of_trs {w : World} {lo B lo' B' : Nat} {a : Option Addr} {k : Fo} (ht : TroS w lo B a k) (hs : Sl w lo' B' a k) : OwS w a k fun x => lo ≤ x ∧ x < B := by
  rcases ht with ht | ⟨b, e, h1, h2, ht⟩
  · exact .inl ht
  · rcases hs with hs | ⟨b2, o2, e', hs⟩
    · exact .inl hs
    · rw [e] at e'
      simp only [Option.some.injEq, Addr.mk.injEq, and_true] at e'
      obtain ⟨rfl, rfl⟩ := e'
      exact .inr ⟨b, fun x => b + 1 ≤ x ∧ x < B, e, ⟨h1, h2⟩, fun hx => by omega, fun x hx => ⟨by omega, hx.2⟩, ow_of_tr ht hs⟩

/-- Where the way to a place leads from the term at (b, o). -/
def Way (w : World) : List Int → Nat → Nat → Nat → Nat → Prop
  | [], b, o, b', o' => b' = b ∧ o' = o
  | i :: ps, b, o, b', o' => ∃ b1 n c, w.cell? ⟨b, o + 2, none⟩ = some (.slice (some ⟨b1, 0, none⟩) n c) ∧ 0 ≤ i ∧ Way w ps b1 (i.toNat * 3) b' o'
theorem Way.snoc {w : World} : ∀ {ps : List Int} {b o b1 o1 b2 n c : Nat} {i : Int}, Way w ps b o b1 o1 → w.cell? ⟨b1, o1 + 2, none⟩ = some (.slice (some ⟨b2, 0, none⟩) n c) → 0 ≤ i → Way w (ps ++ [i]) b o b2 (i.toNat * 3)
  | [], _, _, _, _, b2, n, c, i, ⟨h1, h2⟩, hc, hi => by subst h1; subst h2; exact ⟨b2, n, c, hc, hi, rfl, rfl⟩
  | _ :: ps, _, _, _, _, _, _, _, _, ⟨b1, n, c, h1, h2, h3⟩, hc, hi => ⟨b1, n, c, h1, h2, Way.snoc h3 hc hi⟩

/-- The three cells of one part are written. -/
def st3 (w : World) (b o : Nat) (s v : Int) (a : Option Addr) (n c : Nat) : World := ((w.setCell ⟨b, o, none⟩ (.int .i64 s)).setCell ⟨b, o + 1, none⟩ (.int .i64 v)).setCell ⟨b, o + 2, none⟩ (.slice a n c)
theorem st3_far {w : World} {b o : Nat} {s v : Int} {a : Option Addr} {n c : Nat} {q : Addr} (h : q.block ≠ b ∨ q.off < o ∨ o + 3 ≤ q.off) : (st3 w b o s v a n c).cell? q = w.cell? q ∧ (st3 w b o s v a n c).frozen? q = w.frozen? q := by
  unfold st3
  refine ⟨?_, by rw [World.frozen?_setCell, World.frozen?_setCell, World.frozen?_setCell]⟩
  have hne : ∀ i, i ≤ 2 → (⟨b, o + i, none⟩ : Addr) ≠ q := fun i hi e => by
    subst e
    rcases h with h | h | h
    · exact h rfl
    · dsimp only at h; omega
    · dsimp only at h; omega
  rw [World.cell?_setCell_other _ _ _ _ (hne 2 (by omega)), World.cell?_setCell_other _ _ _ _ (hne 1 (by omega)), World.cell?_setCell_other _ _ _ _ (by simpa using hne 0 (by omega))]
theorem st3_in {w : World} {b o : Nat} {s v : Int} {a : Option Addr} {n c : Nat} {x y z : Value} (h0 : w.cell? ⟨b, o, none⟩ = some x) (h1 : w.cell? ⟨b, o + 1, none⟩ = some y) (h2 : w.cell? ⟨b, o + 2, none⟩ = some z) :
    (st3 w b o s v a n c).cell? ⟨b, o, none⟩ = some (.int .i64 s) ∧ (st3 w b o s v a n c).cell? ⟨b, o + 1, none⟩ = some (.int .i64 v) ∧ (st3 w b o s v a n c).cell? ⟨b, o + 2, none⟩ = some (.slice a n c) := by
  unfold st3
  refine ⟨?_, ?_, ?_⟩
  · rw [World.cell?_setCell_other _ _ _ _ (by simp), World.cell?_setCell_other _ _ _ _ (by simp)]; exact World.cell?_setCell_same _ _ _ h0
  · rw [World.cell?_setCell_other _ _ _ _ (by simp)]
    refine World.cell?_setCell_same (u := y) _ _ _ ?_
    rw [World.cell?_setCell_other _ _ _ _ (by simp)]; exact h1
  · refine World.cell?_setCell_same (u := z) _ _ _ ?_
    rw [World.cell?_setCell_other _ _ _ _ (by simp), World.cell?_setCell_other _ _ _ _ (by simp)]; exact h2
theorem st3_fr {w : World} {b o : Nat} {s v : Int} {a : Option Addr} {n c : Nat} {q : Addr} : (st3 w b o s v a n c).frozen? q = w.frozen? q := by
  unfold st3; rw [World.frozen?_setCell, World.frozen?_setCell, World.frozen?_setCell]

/-- A part is written over by a term in blocks apart: the whole is a term in memory of its own again, and what it is. -/
theorem OwR.put {w : World} {s2 v2 : Int} {a2 : Option Addr} {c2 : Nat} {k2 : Fo} {Q : Nat → Prop} {b' o' : Nat} (hq : OwS w a2 k2 Q) : ∀ (ps : List Int) (k : Fo) (b o : Nat) (P : Nat → Prop) (n : Nat) (x y : Nat) (s v : Int) (kk r : Fo) (z : Tm3), OwR w k b o P → ¬ P b → ¬ Q b → (∀ x, P x → ¬ Q x) →
    fdrop n k = .node x y (s, v) kk r → Way w ps b (o + n * 3) b' o' → fput s v kk ps (s2, v2, k2) = some z → (P b' ∨ (b' = b ∧ o ≤ o')) ∧ OwR (st3 w b' o' s2 v2 a2 (flen k2) c2) (fset k n z) b o fun x => P x ∨ Q x
  | ps, .nil, _, _, _, n, _, _, _, _, _, _, _, _, _, _, _, hd, _, _ => by cases n <;> simp [fdrop] at hd
  | ps, .node x0 y0 p k0 r0, b, o, P, n + 1, x, y, s, v, kk, r, z, ⟨⟨c0, c1⟩, ⟨f0, f1, f2⟩, a, c, P1, P2, g1, g2, g3, g4, g5, g6⟩, hPb, hQb, hPQ, hd, hw, hz => by
    have ih := OwR.put (c2 := c2) hq ps r0 b (o + 3) P2 n x y s v kk r z g6 (fun h => hPb (g2 _ h)) hQb (fun x hx => hPQ x (g2 x hx)) (by simpa [fdrop] using hd) (by rw [show o + 3 + n * 3 = o + (n + 1) * 3 from by omega]; exact hw) hz
    obtain ⟨hb', ih⟩ := ih
    have hne : ∀ x, P1 x → x ≠ b' := fun x hx e => by
      subst e
      rcases hb' with h | ⟨h, _⟩
      · exact g3 _ hx h
      · subst h; exact hPb (g1 _ hx)
    have hfar : b ≠ b' ∨ o + 2 < o' := by
      rcases hb' with h | ⟨_, h⟩
      · exact .inl fun e => by subst e; exact hPb (g2 _ h)
      · exact .inr (by omega)
    have kf : ∀ i, i ≤ 2 → (st3 w b' o' s2 v2 a2 (flen k2) c2).cell? ⟨b, o + i, none⟩ = w.cell? ⟨b, o + i, none⟩ ∧ (st3 w b' o' s2 v2 a2 (flen k2) c2).frozen? ⟨b, o + i, none⟩ = w.frozen? ⟨b, o + i, none⟩ := fun i hi => st3_far (by rcases hfar with h | h; exact .inl h; exact .inr (.inl (by show o + i < o'; omega)))
    refine ⟨?_, ⟨(kf 0 (by omega)).1.trans c0, (kf 1 (by omega)).1.trans c1⟩, ⟨(kf 0 (by omega)).2.trans f0, (kf 1 (by omega)).2.trans f1, (kf 2 (by omega)).2.trans f2⟩, a, c, P1, fun x => P2 x ∨ Q x, fun x hx => .inl (g1 x hx), fun x hx => hx.elim (fun h => .inl (g2 x h)) .inr, fun x hx hx2 => hx2.elim (g3 x hx) (hPQ x (g1 x hx)), (kf 2 (by omega)).1.trans g4, ?_, ih⟩
    · rcases hb' with h | ⟨h, h2⟩
      · exact .inl (g2 _ h)
      · exact .inr ⟨h, by omega⟩
    · rcases g5 with g5 | ⟨b3, P3, e, h1, h2, h3, h4⟩
      · exact .inl g5
      · refine .inr ⟨b3, P3, e, h1, h2, h3, h4.keep fun q hq2 => st3_far (.inl ?_)⟩
        rcases hq2 with hq2 | ⟨hq2, _⟩
        · exact hne _ (h3 _ hq2)
        · rw [hq2]; exact hne _ h1
  | [], .node x0 y0 p k0 r0, b, o, P, 0, x, y, s, v, kk, r, z, ⟨⟨c0, c1⟩, ⟨f0, f1, f2⟩, a, c, P1, P2, g1, g2, g3, g4, g5, g6⟩, hPb, hQb, hPQ, hd, hw, hz => by
    obtain ⟨e1, e2⟩ := hw
    rw [Nat.zero_mul, Nat.add_zero] at e2
    subst e1
    subst e2
    simp only [fput, Option.some.injEq] at hz
    subst hz
    obtain ⟨u0, u1, u2⟩ := st3_in (s := s2) (v := v2) (a := a2) (n := flen k2) (c := c2) c0 c1 g4
    have kQ : ∀ q : Addr, Q q.block → (st3 w b' o' s2 v2 a2 (flen k2) c2).cell? q = w.cell? q ∧ (st3 w b' o' s2 v2 a2 (flen k2) c2).frozen? q = w.frozen? q := fun q hq2 => st3_far (.inl fun e => by rw [e] at hq2; exact hQb hq2)
    refine ⟨.inr ⟨rfl, Nat.le_refl _⟩, ⟨u0, u1⟩, ⟨by rw [st3_fr]; exact f0, by rw [st3_fr]; exact f1, by rw [st3_fr]; exact f2⟩, a2, c2, Q, P2, fun x hx => .inr hx, fun x hx => .inl (g2 x hx), fun x hx hx2 => hPQ x (g2 x hx2) hx, u2, hq.keep kQ, g6.keep fun q hq2 => st3_far ?_⟩
    rcases hq2 with hq2 | ⟨_, hq2⟩
    · exact .inl fun e => by rw [e] at hq2; exact hPb (g2 _ hq2)
    · exact .inr (.inr hq2)
  | i :: ps, .node x0 y0 p k0 r0, b, o, P, 0, x, y, s, v, kk, r, z, ⟨⟨c0, c1⟩, ⟨f0, f1, f2⟩, a, c, P1, P2, g1, g2, g3, g4, g5, g6⟩, hPb, hQb, hPQ, hd, hw, hz => by
    simp only [fdrop, BT.node.injEq] at hd
    obtain ⟨rfl, rfl, rfl, rfl, rfl⟩ := hd
    obtain ⟨m, x1, y1, s1, v1, k1, z1, rfl, hm, hd1, hz1, rfl⟩ := fput_cons hz
    obtain ⟨b1, n1, d1, hc1, hi, hw⟩ := hw
    simp only [Nat.zero_mul, Nat.add_zero] at hc1
    rw [g4] at hc1
    simp only [Option.some.injEq, Value.slice.injEq] at hc1
    obtain ⟨rfl, _, _⟩ := hc1
    rcases g5 with g5 | ⟨b3, P3, e, h1, h2, h3, h4⟩
    · subst g5; simp [flen] at hm
    simp only [Option.some.injEq, Addr.mk.injEq, and_true] at e
    subst e
    have hb1 : b ≠ b1 := fun e => by subst e; exact hPb (g1 _ h1)
    have ih := OwR.put (c2 := c2) hq ps k0 b1 0 P3 m x1 y1 s1 v1 k1 _ z1 h4 h2 (hPQ _ (g1 _ h1)) (fun x hx => hPQ x (g1 _ (h3 x hx))) hd1 (by simpa using hw) hz1
    obtain ⟨hb', ih⟩ := ih
    have hb1' : P1 b' := by
      rcases hb' with h | ⟨h, _⟩
      · exact h3 _ h
      · rw [h]; exact h1
    have hbb : b ≠ b' := fun e => by subst e; exact hPb (g1 _ hb1')
    have kf : ∀ i, (st3 w b' o' s2 v2 a2 (flen k2) c2).cell? ⟨b, i, none⟩ = w.cell? ⟨b, i, none⟩ ∧ (st3 w b' o' s2 v2 a2 (flen k2) c2).frozen? ⟨b, i, none⟩ = w.frozen? ⟨b, i, none⟩ := fun i => st3_far (.inl hbb)
    refine ⟨.inl (g1 _ hb1'), ⟨(kf _).1.trans c0, (kf _).1.trans c1⟩, ⟨(kf _).2.trans f0, (kf _).2.trans f1, (kf _).2.trans f2⟩, some ⟨b1, 0, none⟩, c, fun x => P1 x ∨ Q x, P2, fun x hx => hx.elim (fun h => .inl (g1 x h)) .inr, fun x hx => .inl (g2 x hx), fun x hx hx2 => hx.elim (fun h => g3 x h hx2) (hPQ x (g2 x hx2)), ?_, ?_, g6.keep fun q hq2 => st3_far ?_⟩
    · rw [flen_set]; exact (kf _).1.trans g4
    · exact .inr ⟨b1, fun x => P3 x ∨ Q x, rfl, .inl h1, fun h => h.elim h2 (hPQ _ (g1 _ h1)), fun x hx => hx.elim (fun h => .inl (h3 x h)) .inr, ih⟩
    · rcases hq2 with hq2 | ⟨hq2, _⟩
      · exact .inl fun e => by rw [e] at hq2; exact g3 _ hb1' hq2
      · exact .inl fun e => hbb (by rw [← hq2, e])
termination_by ps k => (ps.length, fsz k)
decreasing_by all_goals (first | (simp_wf; simp only [fsz]; omega) | (simp_wf; omega) | (simp_wf; left; omega) | (simp_wf; right; simp only [fsz]; omega))
end Go.Proofs.Ytdkcbbhkoibplaa
