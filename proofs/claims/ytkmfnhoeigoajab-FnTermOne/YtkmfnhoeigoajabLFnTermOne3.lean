/- Several texts in one: LawOne. -/
import Derived.Test.YtkmfnhoeigoajabLFnTermOne1
import Derived.Test.YtkmfnhoeigoajabLFnTermOne2

/-! LawOne: For every two codes, laws.FnTermOne answers true and writes nothing that was there. No condition. -/
namespace Go.Proofs.Ytkmfnhoeigoajab
open Go.RowKit Go.Deep

/-- Two terms in boxes, beside what was there. -/
structure OneAt (g : Nat) (s v : Int) (a : Option Addr) (c : Nat) (k : Fo) (g' : Nat) (s' v' : Int) (a' : Option Addr) (c' : Nat) (k' : Fo) (w W : World) : Prop where
  low : Below w.heap.size w W
  c0 : W.cell? ⟨g, 0, none⟩ = some (.int .i64 s)
  c1 : W.cell? ⟨g, 1, none⟩ = some (.int .i64 v)
  c2 : W.cell? ⟨g, 2, none⟩ = some (.slice a (flen k) c)
  d0 : W.cell? ⟨g', 0, none⟩ = some (.int .i64 s')
  d1 : W.cell? ⟨g', 1, none⟩ = some (.int .i64 v')
  d2 : W.cell? ⟨g', 2, none⟩ = some (.slice a' (flen k') c')
  l : Sl W 0 W.heap.size a k
  l' : Sl W 0 W.heap.size a' k'
theorem bytes_low {w w2 : World} {a : Option Addr} {len : Nat} (h : Bytes w a len) (hb : Below w.heap.size w w2) : Bytes w2 a len := by
  rcases h with h | ⟨b, o, e, hlt, h⟩
  · exact .inl h
  · refine .inr ⟨b, o, e, Nat.lt_of_lt_of_le hlt hb.size, fun i hi => ?_⟩
    obtain ⟨x, hx, hc⟩ := h i hi
    exact ⟨x, hx, cell_lowT hb hc⟩
theorem OneAt.next {g : Nat} {s v : Int} {a : Option Addr} {c : Nat} {k : Fo} {g' : Nat} {s' v' : Int} {a' : Option Addr} {c' : Nat} {k' : Fo} {w W W2 : World} (h : OneAt g s v a c k g' s' v' a' c' k' w W) (hb : Below W.heap.size W W2) : OneAt g s v a c k g' s' v' a' c' k' w W2 :=
  ⟨h.low.trans (hb.mono h.low.size), cell_lowT hb h.c0, cell_lowT hb h.c1, cell_lowT hb h.c2, cell_lowT hb h.d0, cell_lowT hb h.d1, cell_lowT hb h.d2, (h.l.below hb).mono (Nat.le_refl _) hb.size, (h.l'.below hb).mono (Nat.le_refl _) hb.size⟩
theorem OneAt.start {s v : Int} {a : Option Addr} {c : Nat} {k : Fo} {s' v' : Int} {a' : Option Addr} {c' : Nat} {k' : Fo} {w w1 w2 : World} {T : TypeId} (h1 : Below w.heap.size w w1) (hl : Sl w1 0 w1.heap.size a k)
    (h2 : Below (w1.alloc (.cells #[.int .i64 s, .int .i64 v, .slice a (flen k) c] T)).heap.size (w1.alloc (.cells #[.int .i64 s, .int .i64 v, .slice a (flen k) c] T)) w2) (hl' : Sl w2 0 w2.heap.size a' k') :
    OneAt w1.heap.size s v a c k w2.heap.size s' v' a' c' k' w (w2.alloc (.cells #[.int .i64 s', .int .i64 v', .slice a' (flen k') c'] T)) := by
  have hs := h2.size
  simp only [World.size_alloc] at hs
  have hb2 : Below w2.heap.size w2 (w2.alloc (.cells #[.int .i64 s', .int .i64 v', .slice a' (flen k') c'] T)) := (Below.refl _ _).alloc (Nat.le_refl _) _
  have hb1 : Below w1.heap.size w1 (w1.alloc (.cells #[.int .i64 s, .int .i64 v, .slice a (flen k) c] T)) := (Below.refl _ _).alloc (Nat.le_refl _) _
  have hb := hb1.trans (h2.mono (by simp))
  have cc : ∀ (o : Nat) (x : Value), (w1.alloc (.cells #[.int .i64 s, .int .i64 v, .slice a (flen k) c] T)).cell? ⟨w1.heap.size, o, none⟩ = some x → (w2.alloc (.cells #[.int .i64 s', .int .i64 v', .slice a' (flen k') c'] T)).cell? ⟨w1.heap.size, o, none⟩ = some x := fun o x h => cell_lowT hb2 (cell_lowT h2 h)
  refine ⟨h1.trans ((hb.trans (hb2.mono (by omega))).mono h1.size), cc 0 _ ?_, cc 1 _ ?_, cc 2 _ ?_, ?_, ?_, ?_, (((hl.below hb).mono (Nat.le_refl _) hb.size).below hb2).mono (Nat.le_refl _) hb2.size, (hl'.below hb2).mono (Nat.le_refl _) hb2.size⟩
  all_goals rw [World.cell?_alloc_at _ _ _ _ rfl]; rfl

def ttx (s v : Int) (k : Fo) : ByteArray := str (if okW s v k 16 = true then tx s v k else [])
theorem iText_any (s v : Int) (a : Option Addr) (c : Nat) (k : Fo) (w : World) (hl : Sl w 0 w.heap.size a k) :
    Calls Try.prog 22 #[.agg #[.int .i64 s, .int .i64 v, .slice a (flen k) c]] w fun e w' => e = .returned (.string (ttx s v k)) ∧ Below w.heap.size w w' := iTermText_any s v a c k w hl
theorem sText_any (s v : Int) (a : Option Addr) (c : Nat) (k : Fo) (w : World) (hl : Sl w 0 w.heap.size a k) :
    Calls Try.prog 23 #[.agg #[.int .i64 s, .int .i64 v, .slice a (flen k) c]] w fun e w' => e = .returned (.string (ttx s v k)) ∧ Below w.heap.size w w' := sTermText_any s v a c k w hl
theorem str_list (l : List UInt8) : (str l).toList = l := by simp [str]
theorem ttx_none {s v : Int} {k : Fo} (h : okW s v k 16 = false) : (ttx s v k).toList = [] := by unfold ttx; rw [str_list, h]; rfl
theorem ttx_list {s v : Int} {k : Fo} (h : okW s v k 16 = true) : (ttx s v k).toList = tx s v k := by unfold ttx; rw [str_list, if_pos h]
theorem tx_some (s v : Int) (k : Fo) : tx s v k ≠ [] := by
  unfold tx tx1
  have := ltr_len s
  split
  · simp
  · split
    · intro h; rw [h] at this; simp at this
    · simp
theorem ttx_some {s v : Int} {k : Fo} (h : okW s v k 16 = true) : ¬ (ttx s v k).toList = [] := by rw [ttx_list h]; exact tx_some s v k
theorem ttx_same {s v : Int} {k : Fo} {s' v' : Int} {k' : Fo} (h : okW s v k 16 = true) (h' : okW s' v' k' 16 = true) : ((ttx s v k).toList == (ttx s' v' k').toList) = teq s v k s' v' k' := by
  rw [ttx_list h, ttx_list h']
  have g := (okW_iff _ _ _ _).1 h
  have g' := (okW_iff _ _ _ _).1 h'
  have := tx_teq (shape_of g.1 g.2.1) (shape_of g'.1 g'.2.1)
  cases ht : teq s v k s' v' k' with
  | true => exact beq_iff_eq.2 (this.2 ht)
  | false => exact beq_eq_false_iff_ne.2 fun he => by rw [this.1 he] at ht; cases ht

set_option maxRecDepth 100000 in
set_option maxHeartbeats 2000000 in
theorem lawOne_walk (a : Option Addr) (len cap : Nat) (a' : Option Addr) (len' cap' : Nat) (w : World) (hby : Bytes w a len) (hlen : len ≤ cap) (hby' : Bytes w a' len') (hlen' : len' ≤ cap') :
    Calls Try.prog 5 #[.slice a len cap, .slice a' len' cap'] w fun e w' => e = .returned (.bool true) ∧ Below w.heap.size w w' := by
  have HBY := Lib.hid hby
  have HBY' := Lib.hid hby'
  clear hby hby'
  by_cases hbig : 1048576 < len
  · go_enter Try.func5, Try.ntmps5
    go_wp2_with fail
    go_ret
    exact ⟨rfl, Below.refl _ _⟩
  by_cases hbig' : 1048576 < len'
  · go_enter Try.func5, Try.ntmps5
    go_wp2_with fail
    go_ret
    exact ⟨rfl, Below.refl _ _⟩
  go_enter Try.func5, Try.ntmps5
  go_wp2_with fail
  with_reducible refine (DrawTermText_any a len cap _ HBY.out hlen).mono ?_
  rintro e w1 ⟨s, v, a1, c1, k, rfl, hS, hb1, hl1⟩
  have hs1 := hb1.size
  have HBB := Lib.hid hb1
  have HSL := Lib.hid (hl1.mono (lo' := 0) (Nat.zero_le _) (Nat.le_refl _))
  have HY1 := Lib.hid (bytes_low HBY'.out (hb1.alloc hs1 (.cells #[.int .i64 s, .int .i64 v, .slice a1 (flen k) c1] 25)))
  clear hb1 hl1
  go_wp2_with fail
  with_reducible refine (DrawTermText_any a' len' cap' _ HY1.out hlen').mono ?_
  rintro e w2 ⟨s', v', a2, c2, k', rfl, hS', hb2, hl2⟩
  have H0 := Lib.hid (OneAt.start (c := c1) (c' := c2) (s := s) (v := v) (s' := s') (v' := v') HBB.out HSL.out hb2 (hl2.mono (lo' := 0) (Nat.zero_le _) (Nat.le_refl _)))
  clear hb2 hl2
  have hc0 := H0.out.c0
  have hc1 := H0.out.c1
  have hc2 := H0.out.c2
  have hd0 := H0.out.d0
  have hd1 := H0.out.d1
  have hd2 := H0.out.d2
  go_wp2_with fail
  with_reducible refine (iText_any s v a1 c1 k _ H0.out.l).mono ?_
  rintro e W1 ⟨rfl, hb⟩
  have H1 := Lib.hid (H0.out.next hb)
  clear hb hc0 hc1 hc2 hd0 hd1 hd2
  have hc0 := H1.out.c0
  have hc1 := H1.out.c1
  have hc2 := H1.out.c2
  have hd0 := H1.out.d0
  have hd1 := H1.out.d1
  have hd2 := H1.out.d2
  go_wp2_with fail
  with_reducible refine (iText_any s' v' a2 c2 k' _ H1.out.l').mono ?_
  rintro e W2 ⟨rfl, hb⟩
  have H2 := Lib.hid (H1.out.next hb)
  clear hb hc0 hc1 hc2 hd0 hd1 hd2
  have hc0 := H2.out.c0
  have hc1 := H2.out.c1
  have hc2 := H2.out.c2
  have hd0 := H2.out.d0
  have hd1 := H2.out.d1
  have hd2 := H2.out.d2
  go_wp2_with fail
  with_reducible refine (sText_any s v a1 c1 k _ H2.out.l).mono ?_
  rintro e W3 ⟨rfl, hb⟩
  have H3 := Lib.hid (H2.out.next hb)
  clear hb hc0 hc1 hc2 hd0 hd1 hd2
  have hc0 := H3.out.c0
  have hc1 := H3.out.c1
  have hc2 := H3.out.c2
  have hd0 := H3.out.d0
  have hd1 := H3.out.d1
  have hd2 := H3.out.d2
  go_wp2_with fail
  with_reducible refine (sText_any s' v' a2 c2 k' _ H3.out.l').mono ?_
  rintro e W4 ⟨rfl, hb⟩
  have H4 := Lib.hid (H3.out.next hb)
  clear hb hc0 hc1 hc2 hd0 hd1 hd2
  have hc0 := H4.out.c0
  have hc1 := H4.out.c1
  have hc2 := H4.out.c2
  have hd0 := H4.out.d0
  have hd1 := H4.out.d1
  have hd2 := H4.out.d2
  cases hok : okW s v k 16 with
  | false =>
    have hE := ttx_none hok
    clear hok
    go_wp2_with fail
    with_reducible refine (sText_any s v a1 c1 k _ H4.out.l).mono ?_
    rintro e W5 ⟨rfl, hb⟩
    have H5 := Lib.hid (H4.out.next hb)
    clear hb hc0 hc1 hc2 hd0 hd1 hd2
    have hc0 := H5.out.c0
    have hc1 := H5.out.c1
    have hc2 := H5.out.c2
    have hd0 := H5.out.d0
    have hd1 := H5.out.d1
    have hd2 := H5.out.d2
    go_wp2_with fail
    with_reducible refine (sText_any s' v' a2 c2 k' _ H5.out.l').mono ?_
    rintro e W6 ⟨rfl, hb⟩
    have H6 := Lib.hid (H5.out.next hb)
    clear hb hc0 hc1 hc2 hd0 hd1 hd2
    have hc0 := H6.out.c0
    have hc1 := H6.out.c1
    have hc2 := H6.out.c2
    have hd0 := H6.out.d0
    have hd1 := H6.out.d1
    have hd2 := H6.out.d2
    go_wp2_with fail
    go_ret
    exact ⟨rfl, H6.out.low⟩
  | true =>
    cases hok' : okW s' v' k' 16 with
    | false =>
      have hE := ttx_none hok'
      have hN := ttx_some hok
      clear hok hok'
      go_wp2_with fail
      with_reducible refine (sText_any s v a1 c1 k _ H4.out.l).mono ?_
      rintro e W5 ⟨rfl, hb⟩
      have H5 := Lib.hid (H4.out.next hb)
      clear hb hc0 hc1 hc2 hd0 hd1 hd2
      have hc0 := H5.out.c0
      have hc1 := H5.out.c1
      have hc2 := H5.out.c2
      have hd0 := H5.out.d0
      have hd1 := H5.out.d1
      have hd2 := H5.out.d2
      go_wp2_with fail
      with_reducible refine (sText_any s' v' a2 c2 k' _ H5.out.l').mono ?_
      rintro e W6 ⟨rfl, hb⟩
      have H6 := Lib.hid (H5.out.next hb)
      clear hb hc0 hc1 hc2 hd0 hd1 hd2
      have hc0 := H6.out.c0
      have hc1 := H6.out.c1
      have hc2 := H6.out.c2
      have hd0 := H6.out.d0
      have hd1 := H6.out.d1
      have hd2 := H6.out.d2
      go_wp2_with fail
      go_ret
      exact ⟨rfl, H6.out.low⟩
    | true =>
      have hN := ttx_some hok
      have hN' := ttx_some hok'
      have hM : (ttx s v k).toList.isEmpty = false := by rw [List.isEmpty_eq_false_iff]; exact hN
      have hM' : (ttx s' v' k').toList.isEmpty = false := by rw [List.isEmpty_eq_false_iff]; exact hN'
      have HT := Lib.hid (ttx_same hok hok')
      clear hok hok'
      go_wp2_with fail
      with_reducible refine (laTerm_any (fsz k) s v a1 c1 k s' v' a2 c2 k' _ H4.out.l H4.out.l' (Nat.le_refl _) (by omega)).mono ?_
      rintro e W5 ⟨rfl, hb⟩
      have H5 := Lib.hid (H4.out.next hb)
      clear hb hc0 hc1 hc2 hd0 hd1 hd2
      go_wp2_with fail
      go_ret
      exact ⟨by rw [HT.out, beq_self_eq_true]; rfl, H5.out.low⟩
end Go.Proofs.Ytkmfnhoeigoajab
