/- For every code, laws.FnTermParts answers true and writes nothing that was there. No condition. -/
import Derived.Test.YtebalmemncldlaaWJ
namespace Go.Proofs.Ytebalmemncldlaa
open Go.RowKit Go.Deep

theorem okW_kid {s v : Int} {k : Fo} {m : Int} {i x y : Nat} {s' v' : Int} {kk r : Fo} (h : okW s v k m = true) (hd : fdrop i k = .node x y (s', v') kk r) : okW s' v' kk m = true := by
  obtain ⟨_, h2, h3⟩ := (okW_iff _ _ _ _).1 h
  have hf : ∀ (i : Nat) (k : Fo), fok k = true → fok (fdrop i k) = true := by
    intro i
    induction i with
    | zero => intro k h; exact h
    | succ n ih =>
      intro k h
      cases k with
      | nil => rfl
      | node _ _ p kk r => simp only [fok, Bool.and_eq_true] at h; exact ih r h.2
  have h4 := hf i k h2
  rw [hd] at h4
  simp only [fok, Bool.and_eq_true] at h4
  have h5 := fsz_kid hd
  exact (okW_iff _ _ _ _).2 ⟨h4.1.1, h4.1.2, by omega⟩

set_option maxRecDepth 100000 in
set_option maxHeartbeats 1000000 in
theorem lawParts_walk (a : Option Addr) (len cap : Nat) (w : World) (hby : Bytes w a len) (hlen : len ≤ cap) :
    Calls Try.prog 11 #[.slice a len cap] w fun e w' => e = .returned (.bool true) ∧ Below w.heap.size w w' := by
  have HBY := Lib.hid hby
  clear hby
  by_cases hbig : 1048576 < len
  · go_enter Try.func11, Try.ntmps11
    go_wp2_with fail
    go_ret
    exact ⟨rfl, Below.refl _ _⟩
  go_enter Try.func11, Try.ntmps11
  go_wp2_with fail
  with_reducible refine (DrawTermOk_any a len cap _ HBY.out hlen).mono ?_
  rintro e w1 ⟨s, v, a1, c1, k, rfl, hS, hb1, hl1⟩
  have hs1 := hb1.size
  have HB1 := Lib.hid (hb1.alloc hs1 (.cells #[.int .i64 s, .int .i64 v, .slice a1 (flen k) c1] 25))
  have HL1 := Lib.hid ((hl1.mono (Nat.zero_le _) (Nat.le_refl _)).low ((Below.refl _ _).alloc (Nat.le_refl _) (.cells #[.int .i64 s, .int .i64 v, .slice a1 (flen k) c1] 25)))
  clear hb1 hl1
  go_wp2_with fail
  with_reducible refine (iTermOk_any s v a1 c1 k _ HL1.out).mono ?_
  rintro e w2 ⟨rfl, hb2⟩
  have hb2' : Below (w1.heap.size + 1) (w1.alloc (.cells #[.int .i64 s, .int .i64 v, .slice a1 (flen k) c1] 25)) w2 := by simpa using hb2
  obtain ⟨hc0, hc1, hc2⟩ := box_cells ⟨w2, hb2'⟩
  dsimp only at hc0 hc1 hc2
  have hs2 := hb2'.size
  simp at hs2
  have HL2 := Lib.hid (HL1.out.low hb2)
  have HB2 := Lib.hid hb2'
  clear hb2 hb2'
  cases hok : okW s v k 16 with
  | false =>
    have hok' : Hid (okW s v k 16 = false) := hok
    clear hok
    go_wp2_with fail
    with_reducible refine (sTermOk_any s v a1 c1 k _ HL2.out).mono ?_
    rw [hok'.out]
    rintro e w3 ⟨rfl, hb3⟩
    have hb3' := HB2.out.trans (hb3.mono (by omega))
    obtain ⟨hd0, hd1, hd2⟩ := box_cells ⟨w3, hb3'⟩
    dsimp only at hd0 hd1 hd2
    have hs3 := hb3.size
    have HL3 := Lib.hid (HL2.out.low hb3)
    have HB3 := Lib.hid hb3'
    clear hb3 hb3' hc0 hc1 hc2
    go_wp2_with fail
    with_reducible refine (sTermOk_any s v a1 c1 k _ HL3.out).mono ?_
    rw [hok'.out]
    rintro e w4 ⟨rfl, hb4⟩
    have hb4' := HB3.out.trans (hb4.mono (by omega))
    go_wp2_with fail
    go_ret
    exact ⟨rfl, (HB1.out.trans (hb4'.mono (by omega)))⟩
  | true =>
    have hok' : Hid (okW s v k 16 = true) := hok
    have hk2 : flen k ≤ 2 := okN_le ((okW_iff _ _ _ _).1 hok).1
    clear hok
    go_wp2_with fail
    with_reducible refine (sTermOk_any s v a1 c1 k _ HL2.out).mono ?_
    rw [hok'.out]
    rintro e w3 ⟨rfl, hb3⟩
    have HB3 := Lib.hid (HB2.out.trans (hb3.mono (by omega)))
    have HL3 := Lib.hid hb3
    clear hb3 hc0 hc1 hc2
    go_wp2_with fail
    go_loopw [5] (fun i wr => ∃ j : Nat, j ≤ flen k ∧ i = .int .i64 j ∧ Below (w1.heap.size + 1) (w1.alloc (.cells #[.int .i64 s, .int .i64 v, .slice a1 (flen k) c1] 25)) wr) (fun i _ => flen k - (intOf i).toNat)
    case atStart => exact ⟨0, by omega, rfl, HB3.out⟩
    case round =>
      obtain ⟨j, hj, rfl, hbl⟩ := hrel
      obtain ⟨hd0, hd1, hd2⟩ := box_cells ⟨wr, hbl⟩
      dsimp only at hd0 hd1 hd2
      have hsr := hbl.size
      simp at hsr
      by_cases hlt : j < flen k
      · have hslr := HL1.out.below (Below.mono hbl (by simp))
        rcases hslr with rfl | ⟨b, o, rfl, hrow⟩
        · simp [flen] at hlt
        obtain ⟨s', v', kk, a', c', ⟨x, y, hd⟩, _, hbB, hk0, hk1, hk2', hsl⟩ := row_at hrow hlt
        have hkid : Hid (okW s' v' kk 16 = true) := okW_kid hok'.out hd
        have HS := Lib.hid hsl
        have HBL := Lib.hid hbl
        clear hd hsl hrow hbl
        go_wp2_with fail
        with_reducible refine (iTermOk_any s' v' a' c' kk _ ?_).mono ?_
        · exact HS.out.mono (Nat.le_refl _) (by simp; omega)
        rw [hkid.out]
        rintro e w4 ⟨rfl, hb4⟩
        have HB4 := Lib.hid (HBL.out.trans (hb4.mono (by omega)))
        clear hb4
        go_wp2_with fail
        go_roundw
        case rel => exact ⟨j + 1, by omega, by go_num, HB4.out⟩
        case measure => simp [intOf]; omega
      · have HBL := Lib.hid hbl
        clear hbl
        go_wp2_with fail
        go_ret
        exact ⟨rfl, HB1.out.trans (HBL.out.mono (by omega))⟩
end Go.Proofs.Ytebalmemncldlaa
