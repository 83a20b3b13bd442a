/- Several texts in one: SP2, LB, AD, SM. -/
import Derived.Test.YtlaaihnokoeliaaKMat7
import Derived.Test.YtlaaihnokoeliaaKMat1
import Derived.Test.YtlaaihnokoeliaaKMat6
import Derived.Test.YtlaaihnokoeliaaKMat9
import Derived.Test.YtlaaihnokoeliaaKMat13
import Derived.Deep.AppendLies
import Derived.Test.YtlaaihnokoeliaaKMat2

/-! SP2: The specification's SubstOk. -/
namespace Go.Proofs.Ytlaaihnokoeliaa
open Go.RowKit Go.Deep

theorem sok_len {room : Int} : ∀ (bs : List Bd) (last : Int), last < 12 → sokFrom room last bs = true → last + bs.length < 12
  | [], _, h, _ => by simpa using h
  | x :: r, last, _, hs => by
    simp only [sokFrom, Bool.and_eq_true, decide_eq_true_eq] at hs
    have := sok_len r x.1 hs.2.2.1 hs.2.2.2
    simp only [List.length_cons]
    omega
theorem drop_bd2 {bs : List Bd} {j : Nat} {x : Bd} (h : bs[j]? = some x) : bs.drop j = x :: bs.drop (j + 1) := by
  obtain ⟨hj, rfl⟩ := List.getElem?_eq_some_iff.1 h
  exact List.drop_eq_getElem_cons hj

set_option maxRecDepth 100000 in
set_option maxHeartbeats 2000000 in
theorem sSubstOk_any (bs : List Bd) (A : Option Addr) (C : Nat) (w : World) (hb : BSl w 0 w.heap.size A bs) (hl : bs.length ≤ 9223372036854775807) :
    Calls Try.prog 34 #[.slice A bs.length C] w fun e w' => e = .returned (.bool (sok 16 bs)) ∧ Below w.heap.size w w' := by
  have HB := Lib.hid hb
  clear hb
  by_cases hbig : 12 < bs.length
  · have HF : Hid (sok 16 bs = false) := by
      cases h : sok 16 bs with
      | false => exact rfl
      | true => have := sok_len bs (-1) (by omega) h; omega
    go_enter Try.func34, Try.ntmps34
    go_wp2_with fail
    go_ret
    exact ⟨by rw [HF.out]; rfl, Below.refl _ _⟩
  go_enter Try.func34, Try.ntmps34
  go_wp2_with fail
  go_loopw [3] (fun i wr => ∃ (j : Nat) (last : Int), i = .int .i64 j ∧ j ≤ bs.length ∧ Hid (j = 0 → last = -1) ∧ Hid (∀ n, j = n + 1 → ∃ y, bs[n]? = some y ∧ y.1 = last ∧ 0 ≤ last) ∧ Hid (sok 16 bs = sokFrom 16 last (bs.drop j)) ∧ Hid (Below w.heap.size w wr)) (fun i _ => bs.length - (intOf i).toNat)
  case atStart => exact ⟨0, -1, rfl, Nat.zero_le _, fun _ => rfl, fun n hn => by omega, rfl, Below.refl _ _⟩
  case round =>
    obtain ⟨j, last, rfl, hj, HJ0, HJ1, HS, HLW⟩ := hrel
    have hws := HLW.out.size
    by_cases hlt : j < bs.length
    · obtain ⟨x, hx⟩ : ∃ x, bs[j]? = some x := ⟨bs[j], List.getElem?_eq_getElem hlt⟩
      obtain ⟨xv, s, v, k⟩ := x
      have hbr := HB.out.below HLW.out
      rcases hbr with hbr | ⟨b, o, rfl, _, hbB, hcells⟩
      · subst hbr; simp at hx
      obtain ⟨a', c', c0, c1, c2, c3, hsl⟩ := hcells j _ hx
      dsimp only at c0 c1 c2 c3 hsl
      have HD := Lib.hid (drop_bd2 hx)
      have HX := Lib.hid hx
      have g1 : (0 : Int) ≤ (j : Int) := by omega
      have g2 : (j : Int) < (bs.length : Int) := by omega
      have hu0 : ∀ u : After wr.heap.size wr, u.world.cell? ⟨b, o + j * 4, none⟩ = some (.int .i64 xv) := fun u => u.cell (by simp; omega) c0
      have hu1 : ∀ u : After wr.heap.size wr, u.world.cell? ⟨b, o + j * 4 + 1, none⟩ = some (.int .i64 s) := fun u => u.cell (by simp; omega) c1
      have hu2 : ∀ u : After wr.heap.size wr, u.world.cell? ⟨b, o + j * 4 + 1 + 1, none⟩ = some (.int .i64 v) := fun u => u.cell (by simp; omega) c2
      have hu3 : ∀ u : After wr.heap.size wr, u.world.cell? ⟨b, o + j * 4 + 1 + 2, none⟩ = some (.slice a' (flen k) c') := fun u => u.cell (by simp; omega) c3
      have HCALL : Hid (∀ u : After wr.heap.size wr, Calls Try.prog 23 #[.agg #[.int .i64 s, .int .i64 v, .slice a' (flen k) c']] u.world fun e w' => e = .returned (.bool (okW s v k 16)) ∧ Below u.world.heap.size u.world w') := fun u => by
        have hu := u.below
        exact sTermOk_any s v a' c' k u.world ((hsl.below (hu.mono hws)).mono (Nat.le_refl _) (Nat.le_trans hws hu.size))
      by_cases hin : 0 ≤ xv ∧ xv ≤ 11
      · have hid : decide (0 ≤ xv ∧ xv ≤ (11 : Int)) = true := by simpa using hin
        cases hok : okW s v k 16 with
        | false =>
          rw [hok] at HCALL
          have HF : Hid (sok 16 bs = false) := by rw [Hid, HS.out, HD.out]; simp only [sokFrom, hok, Bool.false_and]
          clear hok hcells hx c0 c1 c2 c3 hsl HJ0 HJ1 HD HX hin
          go_wp2_with fail
          refine wp_region_after wr.heap.size (by kernel_rfl) (by kernel_rfl) ?_
          repeat (go_big_quiet_step ((first | (go_at_call 54; exact Calls.after_same (l6In_is hid)) | (go_at_call 23; exact Calls.after (After.below ‹_›).size (HCALL.out _)))))
          refine wpQuiet_nil ?_
          rintro w3 ⟨⟨_, hu⟩, rfl⟩
          have HL3 := Lib.hid (HLW.out.trans (hu.mono hws))
          clear hu0 hu1 hu2 hu3 hu
          go_wp2_with fail
          go_ret
          exact ⟨by rw [HF.out]; rfl, HL3.out⟩
        | true =>
          rw [hok] at HCALL
          by_cases hj0 : j = 0
          · subst hj0
            obtain rfl := HJ0.out rfl
            have k0 : ∀ u : After wr.heap.size wr, u.world.cell? ⟨b, o, none⟩ = some (.int .i64 xv) := fun u => hu0 u
            have k1 : ∀ u : After wr.heap.size wr, u.world.cell? ⟨b, o + 1, none⟩ = some (.int .i64 s) := fun u => hu1 u
            have k2 : ∀ u : After wr.heap.size wr, u.world.cell? ⟨b, o + 2, none⟩ = some (.int .i64 v) := fun u => hu2 u
            have k3 : ∀ u : After wr.heap.size wr, u.world.cell? ⟨b, o + 3, none⟩ = some (.slice a' (flen k) c') := fun u => hu3 u
            have k4 : ∀ u : After wr.heap.size wr, u.world.cell? ⟨b, o + 1 + 1, none⟩ = some (.int .i64 v) := fun u => hu2 u
            have k5 : ∀ u : After wr.heap.size wr, u.world.cell? ⟨b, o + 1 + 2, none⟩ = some (.slice a' (flen k) c') := fun u => hu3 u
            have hl0 : 0 < bs.length := hlt
            have HT : Hid (sok 16 bs = sokFrom 16 xv (bs.drop (0 + 1))) := by
              rw [Hid, HS.out, HD.out]
              simp only [sokFrom, hok]
              rw [decide_eq_true (show (-1 : Int) < xv by omega), decide_eq_true (show xv < 12 by omega)]; simp
            clear hok hcells hx c0 c1 c2 c3 hsl HJ0 HJ1 HD hu0 hu1 hu2 hu3
            go_wp2_with fail
            refine wp_region_after wr.heap.size (by kernel_rfl) (by kernel_rfl) ?_
            repeat (go_big_quiet_step ((first | (go_at_call 54; exact Calls.after_same (l6In_is hid)) | (go_at_call 23; exact Calls.after (After.below ‹_›).size (HCALL.out _)))))
            refine wpQuiet_nil ?_
            rintro w3 ⟨⟨_, hu⟩, rfl⟩
            have HL3 := Lib.hid (HLW.out.trans (hu.mono hws))
            clear k0 k1 k2 k3 k4 k5 hu
            go_wp2_with fail
            go_roundw
            case rel => exact ⟨0 + 1, xv, by go_num, by omega, fun h => by omega, fun n hn => ⟨(xv, s, v, k), (by rw [show n = 0 from by omega]; exact HX.out), rfl, hin.1⟩, HT, HL3⟩
            case measure => simp [intOf]; omega
          · obtain ⟨n, rfl⟩ : ∃ n, j = n + 1 := ⟨j - 1, by omega⟩
            obtain ⟨⟨yv, ys, yt, yk⟩, hy, rfl, hl0⟩ := HJ1.out n rfl
            obtain ⟨_, _, p0, _, _, _, _⟩ := hcells n _ hy
            dsimp only at p0 hl0
            have hu4 : ∀ u : After wr.heap.size wr, u.world.cell? ⟨b, o + n * 4, none⟩ = some (.int .i64 yv) := fun u => u.cell (by simp; omega) p0
            have g3 : (0 : Int) ≤ (n : Int) := by omega
            have g4 : (n : Int) < (bs.length : Int) := by omega
            have gi : ((n + 1 : Nat) : Int) - 1 = (n : Int) := by omega
            by_cases hge : xv ≤ yv
            · have HF : Hid (sok 16 bs = false) := by
                rw [Hid, HS.out, HD.out]; simp only [sokFrom]; rw [decide_eq_false (show ¬ yv < xv by omega)]; simp
              clear hok hcells hx c0 c1 c2 c3 hsl HJ0 HJ1 HD p0 hy
              go_wp2_with fail
              refine wp_region_after wr.heap.size (by kernel_rfl) (by kernel_rfl) ?_
              repeat (go_big_quiet_step ((first | (go_at_call 54; exact Calls.after_same (l6In_is hid)) | (go_at_call 23; exact Calls.after (After.below ‹_›).size (HCALL.out _)))))
              refine wpQuiet_nil ?_
              rintro w3 ⟨⟨_, hu⟩, rfl⟩
              have HL3 := Lib.hid (HLW.out.trans (hu.mono hws))
              clear hu0 hu1 hu2 hu3 hu4 hu
              go_wp2_with fail
              go_ret
              exact ⟨by rw [HF.out]; rfl, HL3.out⟩
            · have HT : Hid (sok 16 bs = sokFrom 16 xv (bs.drop (n + 1 + 1))) := by
                rw [Hid, HS.out, HD.out]
                simp only [sokFrom, hok]
                rw [decide_eq_true (show yv < xv by omega), decide_eq_true (show xv < 12 by omega)]; simp
              clear hok hcells hx c0 c1 c2 c3 hsl HJ0 HJ1 HD p0 hy
              go_wp2_with fail
              refine wp_region_after wr.heap.size (by kernel_rfl) (by kernel_rfl) ?_
              repeat (go_big_quiet_step ((first | (go_at_call 54; exact Calls.after_same (l6In_is hid)) | (go_at_call 23; exact Calls.after (After.below ‹_›).size (HCALL.out _)))))
              refine wpQuiet_nil ?_
              rintro w3 ⟨⟨_, hu⟩, rfl⟩
              have HL3 := Lib.hid (HLW.out.trans (hu.mono hws))
              clear hu0 hu1 hu2 hu3 hu4 hu
              go_wp2_with fail
              go_roundw
              case rel => exact ⟨n + 1 + 1, xv, by go_num, by omega, fun h => by omega, fun m hm => ⟨(xv, s, v, k), (by rw [show m = n + 1 from by omega]; exact HX.out), rfl, hin.1⟩, HT, HL3⟩
              case measure => simp [intOf]; omega
      · have hid : decide (0 ≤ xv ∧ xv ≤ (11 : Int)) = false := by simpa using hin
        have HF : Hid (sok 16 bs = false) := by
          rw [Hid, HS.out, HD.out]
          simp only [sokFrom]
          by_cases hx0 : 0 ≤ xv
          · rw [decide_eq_false (show ¬ xv < 12 by omega)]; simp
          · have : ¬ last < xv := by
              rcases j with _ | n
              · have := HJ0.out rfl; omega
              · obtain ⟨_, _, _, h0⟩ := HJ1.out n rfl; omega
            rw [decide_eq_false this]; simp
        clear hcells hx c0 c1 c2 c3 hsl HJ0 HJ1 HD HX hin
        go_wp2_with fail
        refine wp_region_after wr.heap.size (by kernel_rfl) (by kernel_rfl) ?_
        repeat (go_big_quiet_step ((first | (go_at_call 54; exact Calls.after_same (l6In_is hid)) | (go_at_call 23; exact Calls.after (After.below ‹_›).size (HCALL.out _)))))
        refine wpQuiet_nil ?_
        rintro w3 ⟨⟨_, hu⟩, rfl⟩
        have HL3 := Lib.hid (HLW.out.trans (hu.mono hws))
        clear hu0 hu1 hu2 hu3 hu
        go_wp2_with fail
        go_ret
        exact ⟨by rw [HF.out]; rfl, HL3.out⟩
    · have HE : Hid (sok 16 bs = true) := by rw [Hid, HS.out, List.drop_eq_nil_of_le (by omega)]; rfl
      go_wp2_with fail
      go_ret
      exact ⟨by rw [HE.out]; rfl, HLW.out⟩
end Go.Proofs.Ytlaaihnokoeliaa

/-! LB: What the walks of laws hold on to: boxes of terms, and what stays when memory is added. Plain lemmas. -/
namespace Go.Proofs.Ytlaaihnokoeliaa
open Go.RowKit Go.Deep

/-- Block b is a box that holds the term s v k; what it leads to lies in memory. -/
structure Tb (b : Nat) (s v : Int) (a : Option Addr) (c : Nat) (k : Fo) (w : World) : Prop where
  c0 : w.cell? ⟨b, 0, none⟩ = some (.int .i64 s)
  c1 : w.cell? ⟨b, 1, none⟩ = some (.int .i64 v)
  c2 : w.cell? ⟨b, 2, none⟩ = some (.slice a (flen k) c)
  sl : Sl w 0 w.heap.size a k
theorem Tb.next {b : Nat} {s v : Int} {a : Option Addr} {c : Nat} {k : Fo} {w w2 : World} (h : Tb b s v a c k w) (hb : Below w.heap.size w w2) : Tb b s v a c k w2 :=
  ⟨cell_low hb h.c0, cell_low hb h.c1, cell_low hb h.c2, (h.sl.below hb).mono (Nat.le_refl _) hb.size⟩
theorem Tb.new {s v : Int} {a : Option Addr} {c : Nat} {k : Fo} {w : World} {lo : Nat} (h : Sl w lo w.heap.size a k) : Tb w.heap.size s v a c k (w.alloc (.cells #[.int .i64 s, .int .i64 v, .slice a (flen k) c] 25)) := by
  have hb : Below w.heap.size w (w.alloc (.cells #[.int .i64 s, .int .i64 v, .slice a (flen k) c] 25)) := (Below.refl _ _).alloc (Nat.le_refl _) _
  refine ⟨?_, ?_, ?_, ((h.mono (Nat.zero_le _) (Nat.le_refl _)).below hb).mono (Nat.le_refl _) hb.size⟩
  · rw [World.cell?_alloc_at _ _ _ _ (by simp)]; rfl
  · rw [World.cell?_alloc_at _ _ _ _ (by simp)]; rfl
  · rw [World.cell?_alloc_at _ _ _ _ (by simp)]; rfl
theorem box_low (w : World) (o : Obj) : Below w.heap.size w (w.alloc o) := (Below.refl _ _).alloc (Nat.le_refl _) o
theorem Sl.next {w w2 : World} {lo : Nat} {a : Option Addr} {k : Fo} (h : Sl w lo w.heap.size a k) (hb : Below w.heap.size w w2) : Sl w2 0 w2.heap.size a k := ((h.mono (Nat.zero_le _) (Nat.le_refl _)).below hb).mono (Nat.le_refl _) hb.size
theorem BSl.next {w w2 : World} {lo : Nat} {a : Option Addr} {bs : List Bd} (h : BSl w lo w.heap.size a bs) (hb : Below w.heap.size w w2) : BSl w2 0 w2.heap.size a bs := ((h.mono (Nat.zero_le _) (Nat.le_refl _)).below hb).mono (Nat.le_refl _) hb.size
theorem ISl.next {w w2 : World} {lo : Nat} {a : Option Addr} {xs : List Int} (h : ISl w lo w.heap.size a xs) (hb : Below w.heap.size w w2) : ISl w2 0 w2.heap.size a xs := ((h.mono (Nat.zero_le _) (Nat.le_refl _)).below hb).mono (Nat.le_refl _) hb.size
theorem ISc.next {w w2 : World} {lo : Nat} {a : Option Addr} {c : Nat} {xs : List Int} (h : ISc w lo w.heap.size a c xs) (hb : Below w.heap.size w w2) : ISc w2 0 w2.heap.size a c xs := ⟨h.1.next hb, h.2⟩
theorem RSl.next {w w2 : World} {lo : Nat} {a : Option Addr} {rows : List (List Int)} (h : RSl w lo w.heap.size a rows) (hb : Below w.heap.size w w2) : RSl w2 0 w2.heap.size a rows := ((h.mono (Nat.zero_le _) (Nat.le_refl _)).below hb).mono (Nat.le_refl _) hb.size
theorem below_next {w0 w w2 : World} (h : Below w0.heap.size w0 w) (hb : Below w.heap.size w w2) : Below w0.heap.size w0 w2 := h.trans (hb.mono h.size)
theorem Bytes.next {w wn : World} {a : Option Addr} {len : Nat} (h : Bytes w a len) (hb : Below w.heap.size w wn) : Bytes wn a len := by
  rcases h with h | ⟨b, o, e, h1, h2⟩
  · exact .inl h
  · refine .inr ⟨b, o, e, Nat.lt_of_lt_of_le h1 hb.size, fun i hi => ?_⟩
    obtain ⟨x, hx, hc⟩ := h2 i hi
    exact ⟨x, hx, cell_low hb hc⟩
end Go.Proofs.Ytlaaihnokoeliaa

/-! AD: Rows of binds whose terms lie in old memory; the specification's l2Add: a bind put in order. -/
namespace Go.Proofs.Ytlaaihnokoeliaa
open Go.RowKit Go.Deep

/-- The values of a row of binds; their terms lie in w. -/
def BVals (w : World) (bs : List Bd) (xs : List Value) : Prop := xs.length = bs.length * 4 ∧ ∀ (i : Nat) (x : Bd), bs[i]? = some x → ∃ a' c', xs[i * 4]? = some (.int .i64 x.1) ∧ xs[i * 4 + 1]? = some (.int .i64 x.2.1) ∧ xs[i * 4 + 2]? = some (.int .i64 x.2.2.1) ∧ xs[i * 4 + 3]? = some (.slice a' (flen x.2.2.2) c') ∧ Sl w 0 w.heap.size a' x.2.2.2
theorem BVals.snoc {w : World} {bs : List Bd} {xs : List Value} {x s v : Int} {k : Fo} {a : Option Addr} {c : Nat} (h : BVals w bs xs) (hl : Sl w 0 w.heap.size a k) : BVals w (bs ++ [(x, s, v, k)]) (xs ++ [.int .i64 x, .int .i64 s, .int .i64 v, .slice a (flen k) c]) := by
  obtain ⟨hxl, hall⟩ := h
  refine ⟨by simp [hxl]; omega, fun i y hy => ?_⟩
  by_cases hi : i < bs.length
  · rw [List.getElem?_append_left hi] at hy
    obtain ⟨a', c', c0, c1, c2, c3, hsl⟩ := hall i y hy
    exact ⟨a', c', by rw [List.getElem?_append_left (by omega)]; exact c0, by rw [List.getElem?_append_left (by omega)]; exact c1, by rw [List.getElem?_append_left (by omega)]; exact c2, by rw [List.getElem?_append_left (by omega)]; exact c3, hsl⟩
  · have hi' : i = bs.length := by have := (List.getElem?_eq_some_iff.1 hy).1; simp at this; omega
    subst hi'
    simp at hy
    subst hy
    refine ⟨a, c, ?_, ?_, ?_, ?_, hl⟩
    · rw [List.getElem?_append_right (by omega), hxl]; simp
    · rw [List.getElem?_append_right (by omega), hxl, show bs.length * 4 + 1 - bs.length * 4 = 1 from by omega]; rfl
    · rw [List.getElem?_append_right (by omega), hxl, show bs.length * 4 + 2 - bs.length * 4 = 2 from by omega]; rfl
    · rw [List.getElem?_append_right (by omega), hxl, show bs.length * 4 + 3 - bs.length * 4 = 3 from by omega]; rfl

/-- A row of binds of one's own, made from base on, behind w; its terms lie in w. -/
structure BRow (w : World) (base : Nat) (bs : List Bd) (A : Option Addr) (C : Nat) (wr : World) : Prop where
  low : Below w.heap.size w wr
  hb : w.heap.size ≤ base
  size : base ≤ wr.heap.size
  own : ∃ xs, wr.ownsRow base 41 4 (.slice A bs.length C) bs.length xs ∧ BVals w bs xs
theorem BRow.bsl {w wr : World} {base : Nat} {bs : List Bd} {A : Option Addr} {C : Nat} (h : BRow w base bs A C wr) : BSl wr 0 wr.heap.size A bs := by
  obtain ⟨xs, hown, hxl, hall⟩ := h.own
  rcases Nat.eq_zero_or_pos bs.length with h0 | h0
  · exact .inl (List.eq_nil_of_length_eq_zero h0)
  · obtain ⟨g, cap, hv, hb, hlt⟩ := hown.form h0
    have hA : A = some ⟨g, 0, none⟩ := by simp only [Value.slice.injEq] at hv; exact hv.1
    subst hA
    refine .inr ⟨g, 0, rfl, Nat.zero_le _, hlt, fun i x hx => ?_⟩
    have hi := (List.getElem?_eq_some_iff.1 hx).1
    obtain ⟨a', c', c0, c1, c2, c3, hl⟩ := hall i x hx
    refine ⟨a', c', ?_, ?_, ?_, ?_, hl.next h.low⟩
    · rw [Nat.zero_add, hown.cellAt _ (by omega)]; exact c0
    · rw [Nat.zero_add, hown.cellAt _ (by omega)]; exact c1
    · rw [Nat.zero_add, hown.cellAt _ (by omega)]; exact c2
    · rw [Nat.zero_add, hown.cellAt _ (by omega)]; exact c3
theorem BRow.next {w wr w2 : World} {base : Nat} {bs : List Bd} {A : Option Addr} {C : Nat} (h : BRow w base bs A C wr) (hb : Below wr.heap.size wr w2) : BRow w base bs A C w2 := by
  obtain ⟨xs, hown, hv⟩ := h.own
  exact ⟨below_next h.low hb, h.hb, Nat.le_trans h.size hb.size, xs, own_low hb hown, hv⟩
theorem BRow.start (w : World) (base : Nat) (hb : w.heap.size ≤ base) {wr : World} (hl : Below w.heap.size w wr) (hs : base ≤ wr.heap.size) : BRow w base [] (some ⟨wr.heap.size, 0, none⟩) 0 (wr.alloc (.cells #[] 41)) :=
  ⟨below_next hl (box_low _ _), hb, by simp; omega, [], ⟨rfl, .inr ⟨wr.heap.size, 0, #[], rfl, hs, heap_alloc_new _ _, Nat.le_refl _, by decide, rfl, rfl⟩⟩, rfl, fun i x hx => by simp at hx⟩
theorem BRow.app {w wr w3 : World} {base : Nat} {bs : List Bd} {A : Option Addr} {C g cap : Nat} {x s v : Int} {k : Fo} {a : Option Addr} {c : Nat} {blk : Obj} {xs : List Value} (h : BRow w base bs A C wr) (hown : wr.ownsRow base 41 4 (.slice A bs.length C) bs.length xs) (hv : BVals w bs xs) (hl : Sl w 0 w.heap.size a k)
    (hown3 : w3.ownsRow base 41 4 (.slice (some ⟨g, 0, none⟩) (bs.length + 1) cap) (bs.length + 1) (xs ++ [.int .i64 x, .int .i64 s, .int .i64 v, .slice a (flen k) c])) (hgrow : (wr.alloc blk).grownBy w3 (Value.slice A bs.length C).ownBlock) : BRow w base (bs ++ [(x, s, v, k)]) (some ⟨g, 0, none⟩) cap w3 := by
  have hl' : (bs ++ [(x, s, v, k)]).length = bs.length + 1 := by simp
  have hs := h.size
  have hb := h.hb
  have hlow : Below base wr w3 := ((Below.refl base wr).alloc hs blk).grown hgrow (by simp; omega) (fun q hq => (hown.lt q hq).1)
  exact ⟨h.low.trans (hlow.mono hb), hb, Nat.le_trans hs hlow.size, _, by rw [hl']; exact hown3, hv.snoc hl⟩
theorem BRow.below {w wr w3 : World} {base : Nat} {bs : List Bd} {A : Option Addr} {C : Nat} {blk : Obj} {xs : List Value} (h : BRow w base bs A C wr) (hown : wr.ownsRow base 41 4 (.slice A bs.length C) bs.length xs) (hgrow : (wr.alloc blk).grownBy w3 (Value.slice A bs.length C).ownBlock) : Below base wr w3 :=
  ((Below.refl base wr).alloc h.size blk).grown hgrow (by have := h.size; simp; omega) (fun q hq => (hown.lt q hq).1)

def AddPost (bs : List Bd) (b : Bd) (w : World) (e : Ending) (w' : World) : Prop :=
  ∃ A C, e = .returned (.slice A (List.length (ladd bs b)) C) ∧ BRow w (w.heap.size + 1) (ladd bs b) A C w'

theorem ladd_end {bs : List Bd} {b : Bd} {j : Nat} (h : bs.length ≤ j) : ladd (bs.drop j) b = [b] := by
  rw [List.drop_eq_nil_of_le h]; rfl

set_option maxRecDepth 100000 in
set_option maxHeartbeats 4000000 in
theorem l2Add_any (bs : List Bd) (A : Option Addr) (C : Nat) (x s v : Int) (a : Option Addr) (c : Nat) (k : Fo) (w : World) (hb : BSl w 0 w.heap.size A bs) (hl : bs.length ≤ 100000) (hk : Sl w 0 w.heap.size a k) :
    Calls Try.prog 46 #[.slice A bs.length C, .agg #[.int .i64 x, .int .i64 s, .int .i64 v, .slice a (flen k) c]] w (AddPost bs (x, s, v, k) w) := by
  obtain ⟨ti, hti, htz, hts, htb⟩ := Try.infoBind
  have HTI : Hid (Try.prog.info? 41 = some ti ∧ ti.zero = some (.agg #[.int .i64 0, .int .i64 0, .int .i64 0, .slice none 0 0]) ∧ ti.size = 4 ∧ ti.bytes = 48) := ⟨hti, htz, hts, htb⟩
  have HB := Lib.hid hb
  have HK := Lib.hid hk
  clear hti htz hts htb hb hk
  have HBX0 : Hid (Below (w.heap.size + 1) (w.alloc (.cells #[.int .i64 x, .int .i64 s, .int .i64 v, .slice a (flen k) c] 41)) ((w.alloc (.cells #[.int .i64 x, .int .i64 s, .int .i64 v, .slice a (flen k) c] 41)).alloc (.cells #[] 41))) := (Below.refl _ _).alloc (by simp) _
  have HR0 : Hid (BRow w (w.heap.size + 1) [] (some ⟨w.heap.size + 1, 0, none⟩) 0 ((w.alloc (.cells #[.int .i64 x, .int .i64 s, .int .i64 v, .slice a (flen k) c] 41)).alloc (.cells #[] 41))) := by
    have h := BRow.start w (w.heap.size + 1) (by omega) (box_low w (.cells #[.int .i64 x, .int .i64 s, .int .i64 v, .slice a (flen k) c] 41)) (by simp)
    rw [Hid]
    simpa using h
  have hbox : ∀ wr : World, Below (w.heap.size + 1) (w.alloc (.cells #[.int .i64 x, .int .i64 s, .int .i64 v, .slice a (flen k) c] 41)) wr → wr.cell? ⟨w.heap.size, 0, none⟩ = some (.int .i64 x) ∧ wr.cell? ⟨w.heap.size, 1, none⟩ = some (.int .i64 s) ∧ wr.cell? ⟨w.heap.size, 2, none⟩ = some (.int .i64 v) ∧ wr.cell? ⟨w.heap.size, 3, none⟩ = some (.slice a (flen k) c) := fun wr h => by
    refine ⟨?_, ?_, ?_, ?_⟩
    · rw [h.cell (by simp), World.cell?_alloc_at _ _ _ _ (by simp)]; rfl
    · rw [h.cell (by simp), World.cell?_alloc_at _ _ _ _ (by simp)]; rfl
    · rw [h.cell (by simp), World.cell?_alloc_at _ _ _ _ (by simp)]; rfl
    · rw [h.cell (by simp), World.cell?_alloc_at _ _ _ _ (by simp)]; rfl
  have HBOX := Lib.hid hbox
  clear hbox
  go_enter Try.func46, Try.ntmps46
  go_wp2_with fail
  go_loopw [5, 6, 7] (fun o d i wr => ∃ (j : Nat) (out : List Bd) (A' : Option Addr) (C' : Nat) (dn : Bool), o = .slice A' out.length C' ∧ d = .bool dn ∧ i = .int .i64 j ∧ j ≤ bs.length ∧ out.length ≤ j + 1 ∧ Hid (ladd bs (x, s, v, k) = out ++ (if dn = true then bs.drop j else ladd (bs.drop j) (x, s, v, k))) ∧ Hid (BRow w (w.heap.size + 1) out A' C' wr) ∧ Hid (Below (w.heap.size + 1) (w.alloc (.cells #[.int .i64 x, .int .i64 s, .int .i64 v, .slice a (flen k) c] 41)) wr)) (fun _ _ i _ => bs.length - (intOf i).toNat)
  case atStart => exact ⟨0, [], _, _, false, rfl, rfl, rfl, Nat.zero_le _, by simp, by simp [Hid], HR0, HBX0⟩
  case round =>
    clear HR0 HBX0
    obtain ⟨j, out, A', C', dn, rfl, rfl, rfl, hj, hol, HE, HR, HBX⟩ := hrel
    obtain ⟨b0, b1, b2, b3⟩ := HBOX.out _ HBX.out
    have hws := HR.out.size
    have hbs := HR.out.low
    by_cases hlt : j < bs.length
    · obtain ⟨y, hy⟩ : ∃ y, bs[j]? = some y := ⟨bs[j], List.getElem?_eq_getElem hlt⟩
      obtain ⟨yx, ys, yv, yk⟩ := y
      have hbr := HB.out
      rcases hbr with hbr | ⟨rb, ro, rfl, _, hbB, hcells⟩
      · subst hbr; simp at hy
      obtain ⟨ya, yc, d0, d1, d2, d3, hsl⟩ := hcells j _ hy
      dsimp only at d0 d1 d2 d3 hsl
      have HYS := Lib.hid hsl
      have HD := Lib.hid (drop_bd2 hy)
      have hc0 := cell_low hbs d0
      have hc1 := cell_low hbs d1
      have hc2 := cell_low hbs d2
      have hc3 := cell_low hbs d3
      have g1 : (0 : Int) ≤ (j : Int) := by omega
      have g2 : (j : Int) < (bs.length : Int) := by omega
      clear hcells hy d0 d1 d2 d3 hsl
      have hu0 : ∀ u : After wr.heap.size wr, u.world.cell? ⟨rb, ro + j * 4, none⟩ = some (.int .i64 yx) := fun u => cell_low u.below hc0
      have hu1 : ∀ u : After wr.heap.size wr, u.world.cell? ⟨w.heap.size, 0, none⟩ = some (.int .i64 x) := fun u => cell_low u.below b0
      cases dn with
      | true =>
        have HE2 : Hid (ladd bs (x, s, v, k) = (out ++ [(yx, ys, yv, yk)]) ++ (if true = true then bs.drop (j + 1) else ladd (bs.drop (j + 1)) (x, s, v, k))) := by rw [Hid, HE.out, if_pos rfl, if_pos rfl, HD.out]; simp
        clear HE HD
        go_wp2_with fail
        refine wp_region_after wr.heap.size (by kernel_rfl) (by kernel_rfl) ?_
        repeat (go_big_quiet_step (fail))
        refine wpQuiet_nil ?_
        rintro wq ⟨⟨_, hu⟩, rfl⟩
        have HRq := Lib.hid (HR.out.next hu)
        have HBXq := Lib.hid (HBX.out.trans (hu.mono hws))
        have hws2 := HRq.out.size
        have e0 := cell_low hu b0
        have e1 := cell_low hu b1
        have e2 := cell_low hu b2
        have e3 := cell_low hu b3
        have f0 := cell_low hu hc0
        have f1 := cell_low hu hc1
        have f2 := cell_low hu hc2
        have f3 := cell_low hu hc3
        clear hu0 hu1 hu HR HBX b0 b1 b2 b3 hc0 hc1 hc2 hc3
        obtain ⟨xs, hown, hv⟩ := HRq.out.own
        have HOWN := Lib.hid hown
        have HV := Lib.hid hv
        clear hown hv
        go_wp2_with (at_builtin; refine wpList_append_lies _ rfl _ _ 28 rfl (w.heap.size + 1) 41 ti _ 4 48 Try.underlying28 HTI.out.1 HTI.out.2.1 HTI.out.2.2.1 HTI.out.2.2.2 rfl (by omega) (.slice A' out.length C') out.length xs rfl (HOWN.out.alloc _) ⟨wq.heap.size, 0, none⟩ 1 1 [.int .i64 yx, .int .i64 ys, .int .i64 yv, .slice ya (flen yk) yc] rfl rfl (World.news_of_block (heap_alloc_new _ _)) (by simp [Value.oneCell']) (by omega) (by unfold maxLen; omega) (by omega) (by simp; omega) (wq.heap.size + 1) (by simp) ?_; intro g3 cap3 w3 hown3 hgrow3 hat3 hg3; have HX3 := Lib.hid (BRow.app HRq.out HOWN.out HV.out HYS.out hown3 hgrow3); have HLB3 := Lib.hid (BRow.below HRq.out HOWN.out hgrow3); clear hown3 hgrow3 hat3 hg3)
        have hl2' : (out ++ [(yx, ys, yv, yk)]).length = out.length + 1 := by simp
        have HBX3 := Lib.hid (HBXq.out.trans HLB3.out)
        go_roundw
        case rel => exact ⟨j + 1, out ++ [(yx, ys, yv, yk)], some ⟨g3, 0, none⟩, cap3, true, by rw [hl2'], rfl, by go_num, by omega, by omega, HE2, HX3, HBX3⟩
        case measure => simp [intOf]; omega
      | false =>
        by_cases hgt : x < yx
        · have HE2 : Hid (ladd bs (x, s, v, k) = (out ++ [(x, s, v, k)] ++ [(yx, ys, yv, yk)]) ++ (if true = true then bs.drop (j + 1) else ladd (bs.drop (j + 1)) (x, s, v, k))) := by
            rw [Hid, HE.out, if_neg (by simp), if_pos rfl, HD.out]; simp only [ladd]; rw [if_pos hgt]; simp
          have gg : decide (yx > x) = true := decide_eq_true hgt
          have HOJ : Hid (out.length = j) := by have h := congrArg List.length HE.out; rw [ladd_len, List.length_append, if_neg (by simp), ladd_len, List.length_drop] at h; show out.length = j; omega
          clear HE HD
          go_wp2_with fail
          refine wp_region_after wr.heap.size (by kernel_rfl) (by kernel_rfl) ?_
          repeat (go_big_quiet_step (fail))
          refine wpQuiet_nil ?_
          rintro wq ⟨⟨_, hu⟩, rfl⟩
          have HRq := Lib.hid (HR.out.next hu)
          have HBXq := Lib.hid (HBX.out.trans (hu.mono hws))
          have hws2 := HRq.out.size
          have e0 := cell_low hu b0
          have e1 := cell_low hu b1
          have e2 := cell_low hu b2
          have e3 := cell_low hu b3
          have f0 := cell_low hu hc0
          have f1 := cell_low hu hc1
          have f2 := cell_low hu hc2
          have f3 := cell_low hu hc3
          clear hu0 hu1 hu HR HBX b0 b1 b2 b3 hc0 hc1 hc2 hc3
          obtain ⟨xs, hown, hv⟩ := HRq.out.own
          have HOWN := Lib.hid hown
          have HV := Lib.hid hv
          clear hown hv
          go_wp2_with (first | (at_builtin; refine wpList_append_lies _ rfl _ _ 28 rfl (w.heap.size + 1) 41 ti _ 4 48 Try.underlying28 HTI.out.1 HTI.out.2.1 HTI.out.2.2.1 HTI.out.2.2.2 rfl (by omega) (.slice A' out.length C') out.length xs rfl (HOWN.out.alloc _) ⟨wq.heap.size, 0, none⟩ 1 1 [.int .i64 x, .int .i64 s, .int .i64 v, .slice a (flen k) c] rfl rfl (World.news_of_block (heap_alloc_new _ _)) (by simp [Value.oneCell']) (by omega) (by unfold maxLen; omega) (by omega) (by simp; omega) (wq.heap.size + 1) (by simp) ?_; intro g3 cap3 w3 hown3 hgrow3 hat3 hg3; have HX3 := Lib.hid (BRow.app HRq.out HOWN.out HV.out HK.out hown3 hgrow3); have HLB3 := Lib.hid (BRow.below HRq.out HOWN.out hgrow3); have k0 : w3.cell? ⟨rb, ro + j * 4, none⟩ = some (.int .i64 yx) := (by rw [HLB3.out.cell (by simp; omega)]; exact f0); have k1 : w3.cell? ⟨rb, ro + j * 4 + 1, none⟩ = some (.int .i64 ys) := (by rw [HLB3.out.cell (by simp; omega)]; exact f1); have k2 : w3.cell? ⟨rb, ro + j * 4 + 1 + 1, none⟩ = some (.int .i64 yv) := (by rw [HLB3.out.cell (by simp; omega)]; exact f2); have k3 : w3.cell? ⟨rb, ro + j * 4 + 1 + 2, none⟩ = some (.slice ya (flen yk) yc) := (by rw [HLB3.out.cell (by simp; omega)]; exact f3); have hl2' : (out ++ [(x, s, v, k)]).length = out.length + 1 := (by simp); have HBX3 := Lib.hid (HBXq.out.trans HLB3.out); have hws3 := HX3.out.size; obtain ⟨xs3, hown9, hv9⟩ := HX3.out.own; have HOWN3 := Lib.hid hown9; have HV3 := Lib.hid hv9; clear hown9 hv9 hown3 hgrow3 hat3 hg3 f0 f1 f2 f3 e0 e1 e2 e3) | (at_builtin; refine wpList_append_lies _ rfl _ _ 28 rfl (w.heap.size + 1) 41 ti _ 4 48 Try.underlying28 HTI.out.1 HTI.out.2.1 HTI.out.2.2.1 HTI.out.2.2.2 rfl (by omega) (.slice (some ⟨g3, 0, none⟩) (out.length + 1) cap3) (out.length + 1) xs3 rfl (by have h9 := HOWN3.out.alloc (.cells #[.int .i64 yx, .int .i64 ys, .int .i64 yv, .slice ya (flen yk) yc] 41); rw [hl2'] at h9; exact h9) ⟨w3.heap.size, 0, none⟩ 1 1 [.int .i64 yx, .int .i64 ys, .int .i64 yv, .slice ya (flen yk) yc] rfl rfl (World.news_of_block (heap_alloc_new _ _)) (by simp [Value.oneCell']) (by omega) (by unfold maxLen; omega) (by omega) (by simp; omega) (w3.heap.size + 1) (by simp) ?_; intro g5 cap5 w5 hown5 hgrow5 hat5 hg5; have HX5 := Lib.hid (BRow.app HX3.out HOWN3.out HV3.out HYS.out (by rw [hl2']; exact hown5) (by rw [hl2']; exact hgrow5)); have HLB5 := Lib.hid (BRow.below HX3.out HOWN3.out (by rw [hl2']; exact hgrow5)); clear hown5 hgrow5 hat5 hg5))
          have hl5' : (out ++ [(x, s, v, k)] ++ [(yx, ys, yv, yk)]).length = out.length + 1 + 1 := by simp
          have HBX5 := Lib.hid (HBX3.out.trans HLB5.out)
          go_roundw
          case rel => exact ⟨j + 1, out ++ [(x, s, v, k)] ++ [(yx, ys, yv, yk)], some ⟨g5, 0, none⟩, cap5, true, by rw [hl5'], rfl, by go_num, by omega, by rw [hl5']; have := HOJ.out; omega, HE2, HX5, HBX5⟩
          case measure => simp [intOf]; omega
        · have HE2 : Hid (ladd bs (x, s, v, k) = (out ++ [(yx, ys, yv, yk)]) ++ (if false = true then bs.drop (j + 1) else ladd (bs.drop (j + 1)) (x, s, v, k))) := by
            rw [Hid, HE.out, if_neg (by simp), if_neg (by simp), HD.out]; simp only [ladd]; rw [if_neg hgt]; simp
          have gg : decide (yx > x) = false := decide_eq_false hgt
          clear HE HD
          go_wp2_with fail
          refine wp_region_after wr.heap.size (by kernel_rfl) (by kernel_rfl) ?_
          repeat (go_big_quiet_step (fail))
          refine wpQuiet_nil ?_
          rintro wq ⟨⟨_, hu⟩, rfl⟩
          have HRq := Lib.hid (HR.out.next hu)
          have HBXq := Lib.hid (HBX.out.trans (hu.mono hws))
          have hws2 := HRq.out.size
          have e0 := cell_low hu b0
          have e1 := cell_low hu b1
          have e2 := cell_low hu b2
          have e3 := cell_low hu b3
          have f0 := cell_low hu hc0
          have f1 := cell_low hu hc1
          have f2 := cell_low hu hc2
          have f3 := cell_low hu hc3
          clear hu0 hu1 hu HR HBX b0 b1 b2 b3 hc0 hc1 hc2 hc3
          obtain ⟨xs, hown, hv⟩ := HRq.out.own
          have HOWN := Lib.hid hown
          have HV := Lib.hid hv
          clear hown hv
          go_wp2_with (at_builtin; refine wpList_append_lies _ rfl _ _ 28 rfl (w.heap.size + 1) 41 ti _ 4 48 Try.underlying28 HTI.out.1 HTI.out.2.1 HTI.out.2.2.1 HTI.out.2.2.2 rfl (by omega) (.slice A' out.length C') out.length xs rfl (HOWN.out.alloc _) ⟨wq.heap.size, 0, none⟩ 1 1 [.int .i64 yx, .int .i64 ys, .int .i64 yv, .slice ya (flen yk) yc] rfl rfl (World.news_of_block (heap_alloc_new _ _)) (by simp [Value.oneCell']) (by omega) (by unfold maxLen; omega) (by omega) (by simp; omega) (wq.heap.size + 1) (by simp) ?_; intro g3 cap3 w3 hown3 hgrow3 hat3 hg3; have HX3 := Lib.hid (BRow.app HRq.out HOWN.out HV.out HYS.out hown3 hgrow3); have HLB3 := Lib.hid (BRow.below HRq.out HOWN.out hgrow3); clear hown3 hgrow3 hat3 hg3)
          have hl2' : (out ++ [(yx, ys, yv, yk)]).length = out.length + 1 := by simp
          have HBX3 := Lib.hid (HBXq.out.trans HLB3.out)
          go_roundw
          case rel => exact ⟨j + 1, out ++ [(yx, ys, yv, yk)], some ⟨g3, 0, none⟩, cap3, false, by rw [hl2'], rfl, by go_num, by omega, by omega, HE2, HX3, HBX3⟩
          case measure => simp [intOf]; omega
    · obtain ⟨xs, hown, hv⟩ := HR.out.own
      have HOWN := Lib.hid hown
      have HV := Lib.hid hv
      clear hown hv
      cases dn with
      | true =>
        have HF : Hid (out = ladd bs (x, s, v, k)) := by rw [Hid, HE.out, if_pos rfl, List.drop_eq_nil_of_le (by omega)]; simp
        go_wp2_with fail
        go_ret
        refine ⟨A', C', ?_, ?_⟩
        · rw [← HF.out]; rfl
        · rw [← HF.out]; exact HR.out
      | false =>
        have HF : Hid (out ++ [(x, s, v, k)] = ladd bs (x, s, v, k)) := by rw [Hid, HE.out, if_neg (by simp), ladd_end (by omega)]
        go_wp2_with (at_builtin; refine wpList_append_lies _ rfl _ _ 28 rfl (w.heap.size + 1) 41 ti _ 4 48 Try.underlying28 HTI.out.1 HTI.out.2.1 HTI.out.2.2.1 HTI.out.2.2.2 rfl (by omega) (.slice A' out.length C') out.length xs rfl (HOWN.out.alloc _) ⟨wr.heap.size, 0, none⟩ 1 1 [.int .i64 x, .int .i64 s, .int .i64 v, .slice a (flen k) c] rfl rfl (World.news_of_block (heap_alloc_new _ _)) (by simp [Value.oneCell']) (by omega) (by unfold maxLen; omega) (by omega) (by simp; omega) (wr.heap.size + 1) (by simp) ?_; intro g cap w3 hown3 hgrow3 hat3 hg3; have HX3 := Lib.hid (BRow.app HR.out HOWN.out HV.out HK.out hown3 hgrow3); have HLB3 := Lib.hid (BRow.below HR.out HOWN.out hgrow3); clear hown3 hgrow3 hat3 hg3)
        go_wp2_with fail
        go_ret
        have hl2' : (out ++ [(x, s, v, k)]).length = out.length + 1 := by simp
        refine ⟨some ⟨g, 0, none⟩, cap, ?_, ?_⟩
        · rw [← HF.out, hl2']; rfl
        · rw [← HF.out]; exact HX3.out
end Go.Proofs.Ytlaaihnokoeliaa

/-! SM: l1Same on any two terms. -/
namespace Go.Proofs.Ytlaaihnokoeliaa
open Go.RowKit Go.Deep

theorem boxes_SM {w wr : World} {x y z x' y' z' : Value} (h : Below (w.heap.size + 2) ((w.alloc (.cells #[x, y, z] 25)).alloc (.cells #[x', y', z'] 25)) wr) :
    wr.cell? ⟨w.heap.size, 2, none⟩ = some z ∧ wr.cell? ⟨w.heap.size + 1, 2, none⟩ = some z' := by
  refine ⟨?_, ?_⟩
  · rw [h.cell (by simp), World.cell?_alloc_lt _ _ _ (by simp), World.cell?_alloc_at _ _ _ _ (by simp)]; rfl
  · rw [h.cell (by simp), World.cell?_alloc_at _ _ _ _ (by simp)]; rfl

set_option maxRecDepth 100000 in
set_option maxHeartbeats 2000000 in
theorem l1Same_any (N : Nat) : ∀ (s v : Int) (a : Option Addr) (c : Nat) (k : Fo) (s' v' : Int) (a' : Option Addr) (c' : Nat) (k' : Fo) (w : World), Sl w 0 w.heap.size a k → Sl w 0 w.heap.size a' k' → fsz k ≤ N → N ≤ 1000000 →
    Calls Try.prog 45 #[.agg #[.int .i64 s, .int .i64 v, .slice a (flen k) c], .agg #[.int .i64 s', .int .i64 v', .slice a' (flen k') c']] w fun e w' => e = .returned (.bool (teq s v k s' v' k')) ∧ Below w.heap.size w w' := by
  induction N using Nat.strongRecOn with
  | _ N ih =>
    intro s v a c k s' v' a' c' k' w hl hl' hN hN2
    have hfl := flen_le_sz k
    have IH := Lib.hid ih
    clear ih
    have hb0 : Below w.heap.size w ((w.alloc (.cells #[.int .i64 s, .int .i64 v, .slice a (flen k) c] 25)).alloc (.cells #[.int .i64 s', .int .i64 v', .slice a' (flen k') c'] 25)) := ((Below.refl _ _).alloc (Nat.le_refl _) _).alloc (by simp) _
    have HB0 := Lib.hid hb0
    clear hb0
    by_cases hs : s = s'
    case neg =>
      have e0 : (s != s') = true := by simp [hs]
      have HF := Lib.hid (teq_sign (v := v) (k := k) (v' := v') (k' := k') hs)
      clear hs
      go_enter Try.func45, Try.ntmps45
      go_wp2_with fail
      go_ret
      exact ⟨by rw [HF.out]; rfl, HB0.out⟩
    subst hs
    have e0 : (s != s) = false := by simp
    by_cases hv : v = v'
    case neg =>
      have e1 : (v != v') = true := by simp [hv]
      have HF := Lib.hid (teq_var (s := s) (k := k) (s' := s) (k' := k') hv)
      clear hv
      go_enter Try.func45, Try.ntmps45
      go_wp2_with fail
      go_ret
      exact ⟨by rw [HF.out]; rfl, HB0.out⟩
    subst hv
    have e1 : (v != v) = false := by simp
    by_cases hk : flen k = flen k'
    case neg =>
      have e2 : ((flen k : Int) != (flen k' : Int)) = true := by simp; omega
      have HF := Lib.hid (teq_len (s := s) (v := v) (s' := s) (v' := v) hk)
      clear hk
      go_enter Try.func45, Try.ntmps45
      go_wp2_with fail
      go_ret
      exact ⟨by rw [HF.out]; rfl, HB0.out⟩
    have e2 : ((flen k : Int) != (flen k' : Int)) = false := by simp [hk]
    have hkl : flen k ≤ flen k' := by omega
    have hkg : flen k' ≤ flen k := by omega
    clear hk
    rw [teq_kids]
    go_enter Try.func45, Try.ntmps45
    go_wp2_with fail
    go_loopw [5] (fun i wr => ∃ j : Nat, j ≤ flen k ∧ i = .int .i64 j ∧ Hid (feq k k' = feq (fdrop j k) (fdrop j k')) ∧ Below (w.heap.size + 2) ((w.alloc (.cells #[.int .i64 s, .int .i64 v, .slice a (flen k) c] 25)).alloc (.cells #[.int .i64 s, .int .i64 v, .slice a' (flen k') c'] 25)) wr) (fun i _ => flen k - (intOf i).toNat)
    case atStart => exact ⟨0, by omega, rfl, rfl, Below.refl _ _⟩
    case round =>
      obtain ⟨j, hj, rfl, hfe, hbl⟩ := hrel
      have hsr := hbl.size
      simp at hsr
      obtain ⟨hx2, hy2⟩ := boxes_SM hbl
      have hbw := HB0.out.trans (hbl.mono (show w.heap.size ≤ w.heap.size + 2 by omega))
      by_cases hlt : j < flen k
      · rcases hl with rfl | ⟨b, o, rfl, hrow⟩
        · simp [flen] at hlt
        rcases hl' with rfl | ⟨b', o', rfl, hrow'⟩
        · simp [flen] at hkl; omega
        obtain ⟨s1, v1, kk, a1, c1, ⟨x, y, hd⟩, _, hbB, hk0, hk1, hk2, hsl⟩ := row_at (hrow.below hbw) hlt
        obtain ⟨s2, v2, kk2, a2, c2, ⟨x2, y2, hd2⟩, _, hbB', hk3, hk4, hk5, hsl2⟩ := row_at (hrow'.below hbw) (show j < flen k' by omega)
        have hfd := feq_drop hd hd2
        have hkN := fsz_kid hd
        have HS := Lib.hid hsl
        have HS2 := Lib.hid hsl2
        have HBL := Lib.hid hbl
        clear hd hd2 hsl hsl2 hrow hrow' hbl hbw
        have g1 : (0 : Int) ≤ (j : Int) := by omega
        have g2 : (j : Int) < (flen k : Int) := by omega
        have g3 : (j : Int) < (flen k' : Int) := by omega
        have hu0 : ∀ u : After wr.heap.size wr, u.world.cell? ⟨b, o + j * 3, none⟩ = some (.int .i64 s1) := fun u => u.cell (by simp; omega) hk0
        have hu1 : ∀ u : After wr.heap.size wr, u.world.cell? ⟨b, o + j * 3 + 1, none⟩ = some (.int .i64 v1) := fun u => u.cell (by simp; omega) hk1
        have hu2 : ∀ u : After wr.heap.size wr, u.world.cell? ⟨b, o + j * 3 + 2, none⟩ = some (.slice a1 (flen kk) c1) := fun u => u.cell (by simp; omega) hk2
        have hu3 : ∀ u : After wr.heap.size wr, u.world.cell? ⟨b', o' + j * 3, none⟩ = some (.int .i64 s2) := fun u => u.cell (by simp; omega) hk3
        have hu4 : ∀ u : After wr.heap.size wr, u.world.cell? ⟨b', o' + j * 3 + 1, none⟩ = some (.int .i64 v2) := fun u => u.cell (by simp; omega) hk4
        have hu5 : ∀ u : After wr.heap.size wr, u.world.cell? ⟨b', o' + j * 3 + 2, none⟩ = some (.slice a2 (flen kk2) c2) := fun u => u.cell (by simp; omega) hk5
        have hu6 : ∀ u : After wr.heap.size wr, u.world.cell? ⟨w.heap.size, 2, none⟩ = some (.slice (some ⟨b, o, none⟩) (flen k) c) := fun u => u.cell (by simp; omega) hx2
        have hu7 : ∀ u : After wr.heap.size wr, u.world.cell? ⟨w.heap.size + 1, 2, none⟩ = some (.slice (some ⟨b', o', none⟩) (flen k') c') := fun u => u.cell (by simp; omega) hy2
        have HCALL : Hid (∀ u : After wr.heap.size wr, Calls Try.prog 45 #[.agg #[.int .i64 s1, .int .i64 v1, .slice a1 (flen kk) c1], .agg #[.int .i64 s2, .int .i64 v2, .slice a2 (flen kk2) c2]] u.world fun e w' => e = .returned (.bool (teq s1 v1 kk s2 v2 kk2)) ∧ Below u.world.heap.size u.world w') := fun u => by
          have hu := u.below
          have hus := hu.size
          refine IH.out (fsz kk) (by omega) s1 v1 a1 c1 kk s2 v2 a2 c2 kk2 u.world ?_ ?_ (Nat.le_refl _) (by omega)
          · exact (HS.out.below (hu.mono (by omega))).mono (Nat.le_refl _) (by omega)
          · exact (HS2.out.below (hu.mono (by omega))).mono (Nat.le_refl _) (by omega)
        cases hte : teq s1 v1 kk s2 v2 kk2 with
        | true =>
          have HFE : Hid (feq k k' = feq (fdrop (j + 1) k) (fdrop (j + 1) k')) := by unfold Hid; rw [hfe.out, hfd, hte, Bool.true_and]
          rw [hte] at HCALL
          clear hfe hfd hte
          go_wp2_with fail
          refine wp_region_after wr.heap.size (by kernel_rfl) (by kernel_rfl) ?_
          repeat (go_big_quiet_step ((go_at_call 45; exact Calls.after (After.below ‹_›).size (HCALL.out _))))
          refine wpQuiet_nil ?_
          rintro u ⟨⟨_, hu⟩, rfl⟩
          clear hu0 hu1 hu2 hu3 hu4 hu5 hu6 hu7 hk0 hk1 hk2 hk3 hk4 hk5 hx2 hy2
          have HB2 := Lib.hid (HBL.out.trans (hu.mono hsr))
          clear hu
          go_wp2_with fail
          go_roundw
          case rel => exact ⟨j + 1, by omega, by go_num, HFE, HB2.out⟩
          case measure => simp [intOf]; omega
        | false =>
          have HFE : Hid (feq k k' = false) := by unfold Hid; rw [hfe.out, hfd, hte, Bool.false_and]
          rw [hte] at HCALL
          clear hfe hfd hte
          go_wp2_with fail
          refine wp_region_after wr.heap.size (by kernel_rfl) (by kernel_rfl) ?_
          repeat (go_big_quiet_step ((go_at_call 45; exact Calls.after (After.below ‹_›).size (HCALL.out _))))
          refine wpQuiet_nil ?_
          rintro u ⟨⟨_, hu⟩, rfl⟩
          clear hu0 hu1 hu2 hu3 hu4 hu5 hu6 hu7 hk0 hk1 hk2 hk3 hk4 hk5 hx2 hy2
          have HB2 := Lib.hid (HB0.out.trans ((HBL.out.trans (hu.mono hsr)).mono (by omega)))
          clear hu
          go_wp2_with fail
          go_ret
          exact ⟨by rw [HFE.out]; rfl, HB2.out⟩
      · have HBW := Lib.hid hbw
        have HFE : Hid (feq k k' = true) := by unfold Hid; rw [hfe.out, fdrop_all (by omega), fdrop_all (by omega)]; rfl
        clear hbw hbl hfe
        go_wp2_with fail
        go_ret
        exact ⟨by rw [HFE.out]; rfl, HBW.out⟩
end Go.Proofs.Ytlaaihnokoeliaa
