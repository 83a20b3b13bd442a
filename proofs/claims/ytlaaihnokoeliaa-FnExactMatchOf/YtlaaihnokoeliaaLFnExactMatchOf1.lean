/- Several texts in one: MOt, XMa. -/
import Derived.Test.YtlaaihnokoeliaaKMat15
import Derived.Test.YtlaaihnokoeliaaKMat23
import Derived.Test.YtlaaihnokoeliaaKMat19

/-! MOt: MatchOf of the program: its answer owns its memory. -/
namespace Go.Proofs.Ytlaaihnokoeliaa
open Go.RowKit Go.Deep Go.Maps

def MaPostT (s v : Int) (k : Fo) (s' v' : Int) (k' : Fo) (w : World) (e : Ending) (w' : World) : Prop :=
  ∃ A C bs t, maR s v k s' v' k' = (bs, t) ∧ e = .returned (.tuple #[.slice A (List.length bs) C, .bool t]) ∧ Below w.heap.size w w' ∧ BX w' w.heap.size w'.heap.size bs A
theorem ma_noneT {s v : Int} {k : Fo} {s' v' : Int} {k' : Fo} {w w' : World} {A : Option Addr} {C : Nat} (h : maR s v k s' v' k' = ([], false)) (hb : Below w.heap.size w w') : MaPostT s v k s' v' k' w (.returned (.tuple #[.slice A 0 C, .bool false])) w' :=
  ⟨A, C, [], false, h, rfl, hb, .inl rfl⟩

set_option maxRecDepth 100000 in
set_option maxHeartbeats 2000000 in
theorem iMatchOfT_any (s v : Int) (a : Option Addr) (c : Nat) (k : Fo) (s' v' : Int) (a' : Option Addr) (c' : Nat) (k' : Fo) (w : World) (hl : Sl w 0 w.heap.size a k) (hl' : Sl w 0 w.heap.size a' k') :
    Calls Try.prog 11 #[.agg #[.int .i64 s, .int .i64 v, .slice a (flen k) c], .agg #[.int .i64 s', .int .i64 v', .slice a' (flen k') c']] w (MaPostT s v k s' v' k' w) := by
  have hb0 : Below w.heap.size w ((w.alloc (.cells #[.int .i64 s, .int .i64 v, .slice a (flen k) c] 25)).alloc (.cells #[.int .i64 s', .int .i64 v', .slice a' (flen k') c'] 25)) := ((Below.refl _ _).alloc (Nat.le_refl _) _).alloc (by simp) _
  have HL0 := Lib.hid (hl.next hb0)
  have HL0' := Lib.hid (hl'.next hb0)
  have HW0 := Lib.hid hb0
  have HB0 : Hid (Below (w.heap.size + 2) ((w.alloc (.cells #[.int .i64 s, .int .i64 v, .slice a (flen k) c] 25)).alloc (.cells #[.int .i64 s', .int .i64 v', .slice a' (flen k') c'] 25)) ((w.alloc (.cells #[.int .i64 s, .int .i64 v, .slice a (flen k) c] 25)).alloc (.cells #[.int .i64 s', .int .i64 v', .slice a' (flen k') c'] 25))) := Below.refl _ _
  have hsz : w.heap.size + 2 ≤ ((w.alloc (.cells #[.int .i64 s, .int .i64 v, .slice a (flen k) c] 25)).alloc (.cells #[.int .i64 s', .int .i64 v', .slice a' (flen k') c'] 25)).heap.size := by simp
  have hmm := @run_makeMap Try.prog
  clear hb0 hl hl'
  go_enter Try.func11, Try.ntmps11
  go_wp2_with fail
  with_reducible refine (nodeOf_any s v a c k 16 _ HL0.out (by omega) (by omega)).mono ?_
  rintro e w1 ⟨nv, rfl, hb1, hyes1⟩
  have hb1' := HB0.out.trans (hb1.mono hsz)
  obtain ⟨_, _, _, hr3, hr4, hr5⟩ := two_boxesM hb1'
  have HW1 := Lib.hid (below_next HW0.out hb1)
  have HL1' := Lib.hid (HL0'.out.next hb1)
  have HY1 := Lib.hid hyes1
  clear hb1 hb1' hyes1 HB0 hsz HL0 HL0' HW0
  go_wp2_with fail
  with_reducible refine (nodeOf_any s' v' a' c' k' 16 _ HL1'.out (by omega) (by omega)).mono ?_
  rintro e w2 ⟨nv', rfl, hb2, hyes2⟩
  have HW2 := Lib.hid (below_next HW1.out hb2)
  have HB2 := Lib.hid hb2
  have HY2 := Lib.hid hyes2
  clear hb2 hyes2 hr3 hr4 hr5
  by_cases hok : okW s v k 16 = true
  case neg =>
    have hf : okW s v k 16 = false := by simpa using hok
    have HP : Hid (MaPostT s v k s' v' k' w (.returned (.tuple #[.slice none 0 0, .bool false])) w2) := ma_noneT (maR_bad fun h => hok h.1) HW2.out
    rw [hf]
    clear hok hf
    generalize okW s' v' k' 16 = okk
    cases okk with
    | true =>
      go_wp2_with fail
      refine bodyPost_ret (v := .tuple #[.slice none 0 0, .bool false]) ?_ rfl HP.out
      simp [results, Try.results11, go_sem]
    | false =>
      go_wp2_with fail
      refine bodyPost_ret (v := .tuple #[.slice none 0 0, .bool false]) ?_ rfl HP.out
      simp [results, Try.results11, go_sem]
  by_cases hok' : okW s' v' k' 16 = true
  case neg =>
    have hf : okW s' v' k' 16 = false := by simpa using hok'
    have HP : Hid (MaPostT s v k s' v' k' w (.returned (.tuple #[.slice none 0 0, .bool false])) w2) := ma_noneT (maR_bad fun h => hok' h.2) HW2.out
    rw [hf, hok]
    clear hok hf hok'
    go_wp2_with fail
    refine bodyPost_ret (v := .tuple #[.slice none 0 0, .bool false]) ?_ rfl HP.out
    simp [results, Try.results11, go_sem]
  obtain ⟨o1, o2, o3⟩ := (okW_iff _ _ _ _).1 hok
  obtain ⟨p1, p2, p3⟩ := (okW_iff _ _ _ _).1 hok'
  have hbm : Below w2.heap.size w2 (w2.alloc (.map #[] 0)) := (Below.refl _ _).alloc (Nat.le_refl _) _
  have HN1 : Hid (Nj (w2.alloc (.map #[] 0)) nv s v k) := by
    have h1 := (HY1.out hok).mono (lo' := 0) (Nat.zero_le _) (Nat.le_refl _)
    have h2 := (h1.below HB2.out).mono (lo' := 0) (Nat.le_refl _) HB2.out.size
    exact ⟨(h2.below hbm).mono (Nat.le_refl _) hbm.size, o1, o2, by omega⟩
  have HN2 : Hid (Nj (w2.alloc (.map #[] 0)) nv' s' v' k') := by
    have h2 := (HY2.out hok').mono (lo' := 0) (Nat.zero_le _) (Nat.le_refl _)
    exact ⟨(h2.below hbm).mono (Nat.le_refl _) hbm.size, p1, p2, by omega⟩
  have HMS := Lib.hid (MapIs.start w2)
  have HOK := Lib.hid hok
  have HOK' := Lib.hid hok'
  have HO1 := Lib.hid p1
  have HO2 := Lib.hid p2
  have HWM := Lib.hid (below_next HW2.out hbm)
  have hws := HW2.out.size
  have HCM := Lib.hid (match_any (base := w2.heap.size) (b := w2.heap.size) (Nat.le_refl _) 1000 HMS.out (Bof.nil _) (by simp) HN1.out HN2.out (by simp; omega) (by omega))
  rw [hok, hok']
  clear hok hok' o1 o2 p1 p2 hbm HY1 HY2
  go_wp2_with fail
  with_reducible refine HCM.out.mono ?_
  rintro e w3 ⟨hkp, hcase⟩
  have HW3 := Lib.hid (HWM.out.trans (hkp.low.mono hws))
  clear hkp HN1 HN2 HMS HCM
  rcases hcase with ⟨bs, ht, rfl, hm3⟩ | ⟨ht, rfl⟩
  · have HR := Lib.hid (maR_of HOK.out HOK'.out ht)
    obtain ⟨i1, i2, i3, i4, i5⟩ := maR_in HR.out
    have HFIT := Lib.hid (fits_of i1 i2)
    have HC := Lib.hid (bindsT_any bs w2.heap.size 16 w3 hm3 i1 i4 (i2.mono (by omega)))
    clear ht hm3 i1 i2 i3 i4 i5
    go_wp2_with fail
    with_reducible refine HC.out.mono ?_
    rintro e w4 ⟨hb4, hc4⟩
    rcases hc4 with ⟨_, A, C, rfl, ho⟩ | ⟨hno, _⟩
    · have HP : Hid (MaPostT s v k s' v' k' w (.returned (.tuple #[.slice A bs.length C, .bool true])) w4) := ⟨A, C, bs, true, HR.out, rfl, below_next HW3.out hb4, ho.mono (by have := HW3.out.size; omega) (Nat.le_refl _)⟩
      clear hb4 ho
      go_wp2_with fail
      refine bodyPost_ret (v := .tuple #[.slice A bs.length C, .bool true]) ?_ rfl HP.out
      simp [results, Try.results11, go_sem]
    · rw [HFIT.out] at hno; cases hno
  · have HP : Hid (MaPostT s v k s' v' k' w (.returned (.tuple #[.slice none 0 0, .bool false])) w3) := ma_noneT (maR_no ht) HW3.out
    clear ht
    go_wp2_with fail
    refine bodyPost_ret (v := .tuple #[.slice none 0 0, .bool false]) ?_ rfl HP.out
    simp [results, Try.results11, go_sem]

end Go.Proofs.Ytlaaihnokoeliaa

/-! XMa: - For any two terms, laws.FnExactMatchOf answers true and writes nothing that was there. -/
namespace Go.Proofs.Ytlaaihnokoeliaa
open Go.RowKit Go.Deep

theorem two_boxesX {w wr : World} {x y z x' y' z' : Value} {T T' : TypeId} (h : Below (w.heap.size + 2) ((w.alloc (.cells #[x, y, z] T)).alloc (.cells #[x', y', z'] T')) wr) :
    wr.cell? ⟨w.heap.size, 0, none⟩ = some x ∧ wr.cell? ⟨w.heap.size, 1, none⟩ = some y ∧ wr.cell? ⟨w.heap.size, 2, none⟩ = some z ∧ wr.cell? ⟨w.heap.size + 1, 0, none⟩ = some x' ∧ wr.cell? ⟨w.heap.size + 1, 1, none⟩ = some y' ∧ wr.cell? ⟨w.heap.size + 1, 2, none⟩ = some z' := by
  refine ⟨?_, ?_, ?_, ?_, ?_, ?_⟩
  · rw [h.cell (by simp), World.cell?_alloc_lt _ _ _ (by simp), World.cell?_alloc_at _ _ _ _ (by simp)]; rfl
  · rw [h.cell (by simp), World.cell?_alloc_lt _ _ _ (by simp), World.cell?_alloc_at _ _ _ _ (by simp)]; rfl
  · rw [h.cell (by simp), World.cell?_alloc_lt _ _ _ (by simp), World.cell?_alloc_at _ _ _ _ (by simp)]; rfl
  · rw [h.cell (by simp), World.cell?_alloc_at _ _ _ _ (by simp)]; rfl
  · rw [h.cell (by simp), World.cell?_alloc_at _ _ _ _ (by simp)]; rfl
  · rw [h.cell (by simp), World.cell?_alloc_at _ _ _ _ (by simp)]; rfl

theorem ma_tiny {s v : Int} {k : Fo} {s' v' : Int} {k' : Fo} {bs : List Bd} {t : Bool} (h : maR s v k s' v' k' = (bs, t)) : bs.length ≤ 16 ∧ (∀ x ∈ bs, fsz x.2.2.2 ≤ 15) ∧ mcn bs ≤ 600 := by
  have hi := maR_in h
  have h2 : ∀ x ∈ bs, fsz x.2.2.2 ≤ 15 := fun x hx => (hi.2.1 x.1 x.2 (sv_mem hi.1 hx)).2.2
  have h3 := mcn_small (bs := bs) (by have := hi.2.2.1; omega) h2
  exact ⟨hi.2.2.1, h2, by have := hi.2.2.1; omega⟩

end Go.Proofs.Ytlaaihnokoeliaa
