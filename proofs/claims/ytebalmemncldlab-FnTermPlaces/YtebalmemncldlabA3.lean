/- impl.TermAt: what stands at a place of a term, made anew. -/
import Derived.Test.YtebalmemncldlabA2
namespace Go.Proofs.Ytebalmemncldlab
open Go.RowKit Go.Deep

/-- TermAt's answer. -/
def atR (s v : Int) (k : Fo) (place : List Int) : Int × Int × Fo × Bool :=
  if okW s v k 16 = true then (match fat s v k place with
    | some (s', v', k') => (s', v', k', true)
    | none => (0, 0, .nil, false)) else (0, 0, .nil, false)

def AtPost (s v : Int) (k : Fo) (place : List Int) (w : World) (e : Ending) (w' : World) : Prop :=
  ∃ a c s' v' k' t, atR s v k place = (s', v', k', t) ∧ e = .returned (.tuple #[.agg #[.int .i64 s', .int .i64 v', .slice a (flen k') c], .bool t]) ∧ Below w.heap.size w w' ∧ Sl w' w.heap.size w'.heap.size a k'

theorem fat_ok : ∀ (place : List Int) (s v : Int) (k : Fo) {s' v' : Int} {k' : Fo}, okN s v (flen k) = true → fok k = true → fat s v k place = some (s', v', k') → okN s' v' (flen k') = true ∧ fok k' = true ∧ fsz k' ≤ fsz k
  | [], s, v, k, s', v', k', h1, h2, h => by
    simp only [fat, Option.some.injEq, Prod.mk.injEq] at h
    obtain ⟨rfl, rfl, rfl⟩ := h
    exact ⟨h1, h2, Nat.le_refl _⟩
  | i :: ps, s, v, k, s', v', k', h1, h2, h => by
    simp only [fat] at h
    split at h
    · split at h
      · rename_i x y s2 v2 kk r hd
        have hk := fok_kid h2 hd
        have hs := fsz_kid hd
        have := fat_ok ps s2 v2 kk hk.1 hk.2 h
        exact ⟨this.1, this.2.1, by omega⟩
      · cases h
    · cases h

theorem at_end {w w1 : World} {s v s' v' : Int} {k k' : Fo} {t : Bool} {place : List Int} {a : Option Addr} {c : Nat} (hr : atR s v k place = (s', v', k', t)) (hb : Below w.heap.size w w1) (hl : Sl w1 (w.heap.size + 2) w1.heap.size a k') (x y z : Value) :
    AtPost s v k place w (.returned (.tuple #[.agg #[.int .i64 s', .int .i64 v', .slice a (flen k') c], .bool t])) (((w1.setCell ⟨w.heap.size + 1, 0, none⟩ x).setCell ⟨w.heap.size + 1, 1, none⟩ y).setCell ⟨w.heap.size + 1, 2, none⟩ z) := by
  refine ⟨a, c, s', v', k', t, hr, rfl, ((hb.setCell (by simp) _).setCell (by simp) _).setCell (by simp) _, ?_⟩
  have hs : Same (w.heap.size + 2) w1.heap.size w1 (((w1.setCell ⟨w.heap.size + 1, 0, none⟩ x).setCell ⟨w.heap.size + 1, 1, none⟩ y).setCell ⟨w.heap.size + 1, 2, none⟩ z) :=
    (((Same.setCell (fun _ _ _ => rfl) (.inl (by simp)) _).setCell (.inl (by simp)) _).setCell (.inl (by simp)) _)
  exact (hl.same hs).mono (by omega) (by simp)

/-- The cells that hold TermAt's answer. -/
theorem at_cells {w w1 : World} {o : Obj} (hb : Below (w.heap.size + 2) ((w.alloc o).alloc (.cells #[.int .i64 0, .int .i64 0, .slice none 0 0] 25)) w1) :
    w1.cell? ⟨w.heap.size + 1, 0, none⟩ = some (.int .i64 0) ∧ w1.cell? ⟨w.heap.size + 1, 1, none⟩ = some (.int .i64 0) ∧ w1.cell? ⟨w.heap.size + 1, 2, none⟩ = some (.slice none 0 0) ∧
      w1.frozen? ⟨w.heap.size + 1, 0, none⟩ = false ∧ w1.frozen? ⟨w.heap.size + 1, 1, none⟩ = false ∧ w1.frozen? ⟨w.heap.size + 1, 2, none⟩ = false := by
  refine ⟨?_, ?_, ?_, ?_, ?_, ?_⟩
  · rw [hb.cell (by simp), World.cell?_alloc_at _ _ _ _ (by simp)]; rfl
  · rw [hb.cell (by simp), World.cell?_alloc_at _ _ _ _ (by simp)]; rfl
  · rw [hb.cell (by simp), World.cell?_alloc_at _ _ _ _ (by simp)]; rfl
  · rw [hb.frozen (by simp), World.frozen?_alloc_at _ _ _ _ (by simp)]
  · rw [hb.frozen (by simp), World.frozen?_alloc_at _ _ _ _ (by simp)]
  · rw [hb.frozen (by simp), World.frozen?_alloc_at _ _ _ _ (by simp)]

set_option maxRecDepth 100000 in
set_option maxHeartbeats 1000000 in
theorem iTermAt_any (s v : Int) (a : Option Addr) (c : Nat) (k : Fo) (pA : Option Addr) (pC : Nat) (place : List Int) (w : World) (hl : Sl w 0 w.heap.size a k) (hp : ISl w 0 w.heap.size pA place) (hpl : place.length ≤ 1048576) :
    Calls Try.prog 19 #[.agg #[.int .i64 s, .int .i64 v, .slice a (flen k) c], .slice pA place.length pC] w (AtPost s v k place w) := by
  have HL := Lib.hid hl
  have HP := Lib.hid hp
  clear hl hp
  have hb0 : Below w.heap.size w ((w.alloc (.cells #[.int .i64 s, .int .i64 v, .slice a (flen k) c] 25)).alloc (.cells #[.int .i64 0, .int .i64 0, .slice none 0 0] 25)) := ((Below.refl _ _).alloc (Nat.le_refl _) _).alloc (by simp) _
  have HB0 := Lib.hid hb0
  clear hb0
  cases hok : okW s v k 16 with
  | false =>
    have HR : Hid (atR s v k place = (0, 0, .nil, false)) := by unfold Hid atR; rw [hok]; rfl
    have HOK := Lib.hid hok
    clear hok
    go_enter Try.func19, Try.ntmps19
    go_wp2_with fail
    with_reducible refine (nodeOf_any s v a c k 16 _ ?_ (by omega) (by omega)).mono ?_
    · exact (HL.out.below HB0.out).mono (Nat.le_refl _) HB0.out.size
    rintro e w2 ⟨nv, he, hb, hyes⟩
    rw [HOK.out] at he
    subst he
    clear hyes
    have hb' := hb.mono (show w.heap.size + 2 ≤ _ by simp)
    obtain ⟨hr0, hr1, hr2, hq0, hq1, hq2⟩ := at_cells hb'
    have HB := Lib.hid (HB0.out.trans (hb.mono HB0.out.size))
    clear hb hb'
    go_wp2_with fail
    refine bodyPost_ret (v := .tuple #[.agg #[.int .i64 0, .int .i64 0, .slice none 0 0], .bool false]) ?_ rfl (at_end (k' := .nil) HR.out HB.out (.inl rfl) _ _ _)
    simp [results, Try.results19, go_sem, hr0, hr1, hr2]
  | true =>
    have HOK := Lib.hid hok
    have hsz := ((okW_iff _ _ _ _).1 hok).2.2
    clear hok
    go_enter Try.func19, Try.ntmps19
    go_wp2_with fail
    with_reducible refine (nodeOf_any s v a c k 16 _ ?_ (by omega) (by omega)).mono ?_
    · exact (HL.out.below HB0.out).mono (Nat.le_refl _) HB0.out.size
    rintro e w2 ⟨nv, he, hb, hyes⟩
    rw [HOK.out] at he
    subst he
    have HN := Lib.hid ((hyes HOK.out).mono (lo' := 0) (Nat.zero_le _) (Nat.le_refl _))
    have hs2 := hb.size
    simp at hs2
    have HB2' := Lib.hid (hb.mono (show w.heap.size + 2 ≤ _ by simp))
    have HB2 := Lib.hid (HB0.out.trans (hb.mono HB0.out.size))
    clear hyes hb
    obtain ⟨ty, vv, rfl⟩ : ∃ ty vv, nv = .iface ty vv := by
      rcases HN.out with ⟨_, _, rfl⟩ | ⟨_, _, _, rfl, _⟩
      · exact ⟨_, _, rfl⟩
      · exact ⟨_, _, rfl⟩
    go_wp2_with fail
    with_reducible refine (nodeAt_any s v k _ pA pC place _ HN.out ?_ hpl).mono ?_
    · exact (HP.out.below HB2.out).mono (Nat.le_refl _) HB2.out.size
    rintro e w3 ⟨hb3, hcase⟩
    have hs3 := hb3.size
    have HB3' := Lib.hid (HB2'.out.trans (hb3.mono (by omega)))
    have HB3 := Lib.hid (HB2.out.trans (hb3.mono (by omega)))
    rcases hcase with ⟨s', v', k', nv', hf, rfl, hn'⟩ | ⟨hf, rfl⟩
    · have HR : Hid (atR s v k place = (s', v', k', true)) := by unfold Hid atR; rw [HOK.out, hf]; rfl
      have hfo := fat_ok place s v k ((okW_iff _ _ _ _).1 HOK.out).1 ((okW_iff _ _ _ _).1 HOK.out).2.1 hf
      have HN' := Lib.hid (hn'.below hb3)
      clear hn' hb3 hf
      rcases HN'.out with ⟨rfl, rfl, rfl⟩ | ⟨hs', a2, c2, rfl, hn2⟩
      · clear HN' hfo
        go_wp2_with fail
        refine upon_method 124 (by kernel_rfl) (by kernel_rfl) ?_
        go_simp
        with_reducible refine (varTerm_any v' _).mono ?_
        rintro e w4 ⟨a4, c4, rfl, hb4, hl4⟩
        have hs4 := hb4.size
        obtain ⟨hr0, hr1, hr2, hq0, hq1, hq2⟩ := at_cells (HB3'.out.trans (hb4.mono (by omega)))
        have HB4 := Lib.hid (HB3.out.trans (hb4.mono (by omega)))
        have HL4 := Lib.hid (hl4.mono (lo' := w.heap.size + 2) (by omega) (Nat.le_refl _))
        clear hb4 hl4
        go_wp2_with fail
        refine bodyPost_ret (v := .tuple #[.agg #[.int .i64 0, .int .i64 v', .slice a4 (flen .nil) c4], .bool true]) ?_ rfl (at_end HR.out HB4.out HL4.out _ _ _)
        simp [results, Try.results19, go_sem, hr0, hr1, hr2]
      · have hv0 : v' = 0 := ((okN_iff _ _ _).1 hfo.1).2.2 hs'
        subst hv0
        have hk' := hfo.2.2
        have HKK := Lib.hid hfo.2.1
        have HN2 := Lib.hid hn2
        clear HN' hn2 hfo
        go_wp2_with fail
        refine upon_method 140 (by kernel_rfl) (by kernel_rfl) ?_
        go_simp
        with_reducible refine (symTerm_any (fsz k') s' a2 c2 k' _ ?_ HKK.out (Nat.le_refl _) (by omega)).mono ?_
        · exact HN2.out.mono (Nat.le_refl _) hs3
        rintro e w4 ⟨a4, c4, rfl, hb4, hl4⟩
        have hs4 := hb4.size
        obtain ⟨hr0, hr1, hr2, hq0, hq1, hq2⟩ := at_cells (HB3'.out.trans (hb4.mono (by omega)))
        have HB4 := Lib.hid (HB3.out.trans (hb4.mono (by omega)))
        have HL4 := Lib.hid (hl4.mono (lo' := w.heap.size + 2) (by omega) (Nat.le_refl _))
        clear hb4 hl4
        go_wp2_with fail
        refine bodyPost_ret (v := .tuple #[.agg #[.int .i64 s', .int .i64 0, .slice a4 (flen k') c4], .bool true]) ?_ rfl (at_end HR.out HB4.out HL4.out _ _ _)
        simp [results, Try.results19, go_sem, hr0, hr1, hr2]
    · have HR : Hid (atR s v k place = (0, 0, .nil, false)) := by unfold Hid atR; rw [HOK.out, hf]; rfl
      obtain ⟨hr0, hr1, hr2, hq0, hq1, hq2⟩ := at_cells HB3'.out
      clear hb3 hf
      go_wp2_with fail
      refine bodyPost_ret (v := .tuple #[.agg #[.int .i64 0, .int .i64 0, .slice none 0 0], .bool false]) ?_ rfl (at_end (k' := .nil) HR.out HB3.out (.inl rfl) _ _ _)
      simp [results, Try.results19, go_sem, hr0, hr1, hr2]
end Go.Proofs.Ytebalmemncldlab
