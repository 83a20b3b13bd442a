/- Several texts in one: A3, S6, SP3, SP4. -/
import Derived.Test.YtkmfnhoeigoajaaKSub8
import Derived.Test.YtkmfnhoeigoajaaKSub6
import Derived.Test.YtkmfnhoeigoajaaKSub4

/-! A3: impl.TermAt: what stands at a place of a term, made anew. -/
namespace Go.Proofs.Ytkmfnhoeigoajaa
open Go.RowKit Go.Deep

/-- TermAt's answer. -/
def atR (s v : Int) (k : Fo) (place : List Int) : Int × Int × Fo × Bool :=
  if okW s v k 16 = true then (match fat s v k place with
    | some (s', v', k') => (s', v', k', true)
    | none => (0, 0, .nil, false)) else (0, 0, .nil, false)

def AtPost (s v : Int) (k : Fo) (place : List Int) (w : World) (e : Ending) (w' : World) : Prop :=
  ∃ a c s' v' k' t, atR s v k place = (s', v', k', t) ∧ e = .returned (.tuple #[.agg #[.int .i64 s', .int .i64 v', .slice a (flen k') c], .bool t]) ∧ Below w.heap.size w w' ∧ Sl w' w.heap.size w'.heap.size a k'

theorem fat_ok : ∀ (place : List Int) (s v : Int) (k : Fo) {s' v' : Int} {k' : Fo}, okN s v (flen k) = true → fok k = true → fat s v k place = some (s', v', k') → okN s' v' (flen k') = true ∧ fok k' = true ∧ fsz k' ≤ fsz k
  | [], s, v, k, s', v', k', h1, h2, h => by
    simp only [fat, Option.some.injEq, Prod.mk.injEq] at h
    obtain ⟨rfl, rfl, rfl⟩ := h
    exact ⟨h1, h2, Nat.le_refl _⟩
  | i :: ps, s, v, k, s', v', k', h1, h2, h => by
    simp only [fat] at h
    split at h
    · split at h
      · rename_i x y s2 v2 kk r hd
        have hk := fok_kid h2 hd
        have hs := fsz_kid hd
        have := fat_ok ps s2 v2 kk hk.1 hk.2 h
        exact ⟨this.1, this.2.1, by omega⟩
      · cases h
    · cases h

theorem at_end {w w1 : World} {s v s' v' : Int} {k k' : Fo} {t : Bool} {place : List Int} {a : Option Addr} {c : Nat} (hr : atR s v k place = (s', v', k', t)) (hb : Below w.heap.size w w1) (hl : Sl w1 (w.heap.size + 2) w1.heap.size a k') (x y z : Value) :
    AtPost s v k place w (.returned (.tuple #[.agg #[.int .i64 s', .int .i64 v', .slice a (flen k') c], .bool t])) (((w1.setCell ⟨w.heap.size + 1, 0, none⟩ x).setCell ⟨w.heap.size + 1, 1, none⟩ y).setCell ⟨w.heap.size + 1, 2, none⟩ z) := by
  refine ⟨a, c, s', v', k', t, hr, rfl, ((hb.setCell (by simp) _).setCell (by simp) _).setCell (by simp) _, ?_⟩
  have hs : Same (w.heap.size + 2) w1.heap.size w1 (((w1.setCell ⟨w.heap.size + 1, 0, none⟩ x).setCell ⟨w.heap.size + 1, 1, none⟩ y).setCell ⟨w.heap.size + 1, 2, none⟩ z) :=
    (((Same.setCell (fun _ _ _ => rfl) (.inl (by simp)) _).setCell (.inl (by simp)) _).setCell (.inl (by simp)) _)
  exact (hl.same hs).mono (by omega) (by simp)

/-- The cells that hold TermAt's answer. -/
theorem at_cells {w w1 : World} {o : Obj} (hb : Below (w.heap.size + 2) ((w.alloc o).alloc (.cells #[.int .i64 0, .int .i64 0, .slice none 0 0] 26)) w1) :
    w1.cell? ⟨w.heap.size + 1, 0, none⟩ = some (.int .i64 0) ∧ w1.cell? ⟨w.heap.size + 1, 1, none⟩ = some (.int .i64 0) ∧ w1.cell? ⟨w.heap.size + 1, 2, none⟩ = some (.slice none 0 0) ∧
      w1.frozen? ⟨w.heap.size + 1, 0, none⟩ = false ∧ w1.frozen? ⟨w.heap.size + 1, 1, none⟩ = false ∧ w1.frozen? ⟨w.heap.size + 1, 2, none⟩ = false := by
  refine ⟨?_, ?_, ?_, ?_, ?_, ?_⟩
  · rw [hb.cell (by simp), World.cell?_alloc_at _ _ _ _ (by simp)]; rfl
  · rw [hb.cell (by simp), World.cell?_alloc_at _ _ _ _ (by simp)]; rfl
  · rw [hb.cell (by simp), World.cell?_alloc_at _ _ _ _ (by simp)]; rfl
  · rw [hb.frozen (by simp), World.frozen?_alloc_at _ _ _ _ (by simp)]
  · rw [hb.frozen (by simp), World.frozen?_alloc_at _ _ _ _ (by simp)]
  · rw [hb.frozen (by simp), World.frozen?_alloc_at _ _ _ _ (by simp)]

set_option maxRecDepth 100000 in
set_option maxHeartbeats 1000000 in
theorem iTermAt_any (s v : Int) (a : Option Addr) (c : Nat) (k : Fo) (pA : Option Addr) (pC : Nat) (place : List Int) (w : World) (hl : Sl w 0 w.heap.size a k) (hp : ISl w 0 w.heap.size pA place) (hpl : place.length ≤ 1048576) :
    Calls Try.prog 14 #[.agg #[.int .i64 s, .int .i64 v, .slice a (flen k) c], .slice pA place.length pC] w (AtPost s v k place w) := by
  have HL := Lib.hid hl
  have HP := Lib.hid hp
  clear hl hp
  have hb0 : Below w.heap.size w ((w.alloc (.cells #[.int .i64 s, .int .i64 v, .slice a (flen k) c] 26)).alloc (.cells #[.int .i64 0, .int .i64 0, .slice none 0 0] 26)) := ((Below.refl _ _).alloc (Nat.le_refl _) _).alloc (by simp) _
  have HB0 := Lib.hid hb0
  clear hb0
  cases hok : okW s v k 16 with
  | false =>
    have HR : Hid (atR s v k place = (0, 0, .nil, false)) := by unfold Hid atR; rw [hok]; rfl
    have HOK := Lib.hid hok
    clear hok
    go_enter Try.func14, Try.ntmps14
    go_wp2_with fail
    with_reducible refine (nodeOf_any s v a c k 16 _ ?_ (by omega) (by omega)).mono ?_
    · exact (HL.out.below HB0.out).mono (Nat.le_refl _) HB0.out.size
    rintro e w2 ⟨nv, he, hb, hyes⟩
    rw [HOK.out] at he
    subst he
    clear hyes
    have hb' := hb.mono (show w.heap.size + 2 ≤ _ by simp)
    obtain ⟨hr0, hr1, hr2, hq0, hq1, hq2⟩ := at_cells hb'
    have HB := Lib.hid (HB0.out.trans (hb.mono HB0.out.size))
    clear hb hb'
    go_wp2_with fail
    refine bodyPost_ret (v := .tuple #[.agg #[.int .i64 0, .int .i64 0, .slice none 0 0], .bool false]) ?_ rfl (at_end (k' := .nil) HR.out HB.out (.inl rfl) _ _ _)
    simp [results, Try.results14, go_sem, hr0, hr1, hr2]
  | true =>
    have HOK := Lib.hid hok
    have hsz := ((okW_iff _ _ _ _).1 hok).2.2
    clear hok
    go_enter Try.func14, Try.ntmps14
    go_wp2_with fail
    with_reducible refine (nodeOf_any s v a c k 16 _ ?_ (by omega) (by omega)).mono ?_
    · exact (HL.out.below HB0.out).mono (Nat.le_refl _) HB0.out.size
    rintro e w2 ⟨nv, he, hb, hyes⟩
    rw [HOK.out] at he
    subst he
    have HN := Lib.hid ((hyes HOK.out).mono (lo' := 0) (Nat.zero_le _) (Nat.le_refl _))
    have hs2 := hb.size
    simp at hs2
    have HB2' := Lib.hid (hb.mono (show w.heap.size + 2 ≤ _ by simp))
    have HB2 := Lib.hid (HB0.out.trans (hb.mono HB0.out.size))
    clear hyes hb
    obtain ⟨ty, vv, rfl⟩ : ∃ ty vv, nv = .iface ty vv := by
      rcases HN.out with ⟨_, _, rfl⟩ | ⟨_, _, _, rfl, _⟩
      · exact ⟨_, _, rfl⟩
      · exact ⟨_, _, rfl⟩
    go_wp2_with fail
    with_reducible refine (nodeAt_any s v k _ pA pC place _ HN.out ?_ hpl).mono ?_
    · exact (HP.out.below HB2.out).mono (Nat.le_refl _) HB2.out.size
    rintro e w3 ⟨hb3, hcase⟩
    have hs3 := hb3.size
    have HB3' := Lib.hid (HB2'.out.trans (hb3.mono (by omega)))
    have HB3 := Lib.hid (HB2.out.trans (hb3.mono (by omega)))
    rcases hcase with ⟨s', v', k', nv', hf, rfl, hn'⟩ | ⟨hf, rfl⟩
    · have HR : Hid (atR s v k place = (s', v', k', true)) := by unfold Hid atR; rw [HOK.out, hf]; rfl
      have hfo := fat_ok place s v k ((okW_iff _ _ _ _).1 HOK.out).1 ((okW_iff _ _ _ _).1 HOK.out).2.1 hf
      have HN' := Lib.hid (hn'.below hb3)
      clear hn' hb3 hf
      rcases HN'.out with ⟨rfl, rfl, rfl⟩ | ⟨hs', a2, c2, rfl, hn2⟩
      · clear HN' hfo
        go_wp2_with fail
        refine upon_method 98 (by kernel_rfl) (by kernel_rfl) ?_
        go_simp
        with_reducible refine (varTerm_any v' _).mono ?_
        rintro e w4 ⟨a4, c4, rfl, hb4, hl4⟩
        have hs4 := hb4.size
        obtain ⟨hr0, hr1, hr2, hq0, hq1, hq2⟩ := at_cells (HB3'.out.trans (hb4.mono (by omega)))
        have HB4 := Lib.hid (HB3.out.trans (hb4.mono (by omega)))
        have HL4 := Lib.hid (hl4.mono (lo' := w.heap.size + 2) (by omega) (Nat.le_refl _))
        clear hb4 hl4
        go_wp2_with fail
        refine bodyPost_ret (v := .tuple #[.agg #[.int .i64 0, .int .i64 v', .slice a4 (flen .nil) c4], .bool true]) ?_ rfl (at_end HR.out HB4.out HL4.out _ _ _)
        simp [results, Try.results14, go_sem, hr0, hr1, hr2]
      · have hv0 : v' = 0 := ((okN_iff _ _ _).1 hfo.1).2.2 hs'
        subst hv0
        have hk' := hfo.2.2
        have HKK := Lib.hid hfo.2.1
        have HN2 := Lib.hid hn2
        clear HN' hn2 hfo
        go_wp2_with fail
        refine upon_method 101 (by kernel_rfl) (by kernel_rfl) ?_
        go_simp
        with_reducible refine (symTerm_any (fsz k') s' a2 c2 k' _ ?_ HKK.out (Nat.le_refl _) (by omega)).mono ?_
        · exact HN2.out.mono (Nat.le_refl _) hs3
        rintro e w4 ⟨a4, c4, rfl, hb4, hl4⟩
        have hs4 := hb4.size
        obtain ⟨hr0, hr1, hr2, hq0, hq1, hq2⟩ := at_cells (HB3'.out.trans (hb4.mono (by omega)))
        have HB4 := Lib.hid (HB3.out.trans (hb4.mono (by omega)))
        have HL4 := Lib.hid (hl4.mono (lo' := w.heap.size + 2) (by omega) (Nat.le_refl _))
        clear hb4 hl4
        go_wp2_with fail
        refine bodyPost_ret (v := .tuple #[.agg #[.int .i64 s', .int .i64 0, .slice a4 (flen k') c4], .bool true]) ?_ rfl (at_end HR.out HB4.out HL4.out _ _ _)
        simp [results, Try.results14, go_sem, hr0, hr1, hr2]
    · have HR : Hid (atR s v k place = (0, 0, .nil, false)) := by unfold Hid atR; rw [HOK.out, hf]; rfl
      obtain ⟨hr0, hr1, hr2, hq0, hq1, hq2⟩ := at_cells HB3'.out
      clear hb3 hf
      go_wp2_with fail
      refine bodyPost_ret (v := .tuple #[.agg #[.int .i64 0, .int .i64 0, .slice none 0 0], .bool false]) ?_ rfl (at_end (k' := .nil) HR.out HB3.out (.inl rfl) _ _ _)
      simp [results, Try.results14, go_sem, hr0, hr1, hr2]
end Go.Proofs.Ytkmfnhoeigoajaa

/-! S6: impl.SubstDo. -/
namespace Go.Proofs.Ytkmfnhoeigoajaa
open Go.RowKit Go.Deep Go.Maps

theorem fsub_sz {σ : Int → Option (Int × Int × Fo)} (h : ∀ x t, σ x = some t → fsz t.2.2 ≤ 15) : ∀ k : Fo, fsz (fsub σ k) ≤ 16 * fsz k
  | .nil => by simp [fsub, fsz]
  | .node _ _ p k r => by
    have h1 := fsub_sz h k
    have h2 := fsub_sz h r
    simp only [fsub]
    split
    · split
      · rename_i t ht
        have := h _ _ ht
        simp only [fsz]; omega
      · simp only [fsz]; omega
    · simp only [fsz]; omega
theorem fsub_ok {σ : Int → Option (Int × Int × Fo)} (h : ∀ x t, σ x = some t → okN t.1 t.2.1 (flen t.2.2) = true ∧ fok t.2.2 = true) : ∀ k : Fo, fok k = true → fok (fsub σ k) = true
  | .nil, _ => rfl
  | .node _ _ p k r, hk => by
    simp only [fok, Bool.and_eq_true] at hk
    have h1 := fsub_ok h k hk.1.2
    have h2 := fsub_ok h r hk.2
    simp only [fsub]
    split
    · split
      · rename_i t ht
        have := h _ _ ht
        simp only [fok, Bool.and_eq_true]
        exact ⟨⟨this.1, this.2⟩, h2⟩
      · simp only [fok, Bool.and_eq_true]
        exact ⟨⟨hk.1.1, hk.1.2⟩, h2⟩
    · simp only [fok, Bool.and_eq_true, fsub_len]
      exact ⟨⟨hk.1.1, h1⟩, h2⟩
theorem sv_ok {room : Int} : ∀ (bs : List Bd) (last : Int), sokFrom room last bs = true → ∀ x t, sv bs x = some t → okW t.1 t.2.1 t.2.2 room = true
  | [], _, _, _, _, h => by simp [sv] at h
  | y :: r, last, hs, x, t, h => by
    simp only [sokFrom, Bool.and_eq_true] at hs
    simp only [sv] at h
    split at h
    · obtain rfl := Option.some.inj h; exact hs.1
    · exact sv_ok r y.1 hs.2.2.2 x t h
/-- The answer of SubstDo. -/
def sdR (bs : List Bd) (s v : Int) (k : Fo) : Int × Int × Fo × Bool :=
  if sok 16 bs = true ∧ okW s v k 16 = true ∧ 1 + fsz (tsub (sv bs) s v k).2.2 ≤ 16 then ((tsub (sv bs) s v k).1, (tsub (sv bs) s v k).2.1, (tsub (sv bs) s v k).2.2, true) else (0, 0, .nil, false)
theorem tsub_ok {bs : List Bd} {s v : Int} {k : Fo} (hs : sok 16 bs = true) (ho : okW s v k 16 = true) : okN (tsub (sv bs) s v k).1 (tsub (sv bs) s v k).2.1 (flen (tsub (sv bs) s v k).2.2) = true ∧ fok (tsub (sv bs) s v k).2.2 = true ∧ fsz (tsub (sv bs) s v k).2.2 ≤ 1000 := by
  obtain ⟨o1, o2, o3⟩ := (okW_iff _ _ _ _).1 ho
  have hsv := sv_ok bs (-1) hs
  have h1 : ∀ x t, sv bs x = some t → okN t.1 t.2.1 (flen t.2.2) = true ∧ fok t.2.2 = true := fun x t ht => by have := (okW_iff _ _ _ _).1 (hsv x t ht); exact ⟨this.1, this.2.1⟩
  have h2 : ∀ x t, sv bs x = some t → fsz t.2.2 ≤ 15 := fun x t ht => by have := (okW_iff _ _ _ _).1 (hsv x t ht); omega
  unfold tsub
  by_cases e : s = 0
  · rw [if_pos e]
    cases ht : sv bs v with
    | none => exact ⟨o1, o2, by simp only [Option.getD]; omega⟩
    | some t => simp only [Option.getD]; exact ⟨(h1 v t ht).1, (h1 v t ht).2, by have := h2 v t ht; omega⟩
  · rw [if_neg e]
    refine ⟨by dsimp only; rw [fsub_len]; exact o1, fsub_ok h1 k o2, ?_⟩
    have := fsub_sz h2 k
    dsimp only; omega

def SdPost (bs : List Bd) (s v : Int) (k : Fo) (w : World) (e : Ending) (w' : World) : Prop :=
  ∃ a c s' v' k' t, sdR bs s v k = (s', v', k', t) ∧ e = .returned (.tuple #[.agg #[.int .i64 s', .int .i64 v', .slice a (flen k') c], .bool t]) ∧ Below w.heap.size w w' ∧ Sl w' w.heap.size w'.heap.size a k'
theorem tb_cellsS {w w' : World} {x y z x' y' z' : Value} {T T' : TypeId} (h : Below (w.heap.size + 2) ((w.alloc (.cells #[x, y, z] T)).alloc (.cells #[x', y', z'] T')) w') :
    w'.cell? ⟨w.heap.size, 0, none⟩ = some x ∧ w'.cell? ⟨w.heap.size, 1, none⟩ = some y ∧ w'.cell? ⟨w.heap.size, 2, none⟩ = some z ∧
      w'.cell? ⟨w.heap.size + 1, 0, none⟩ = some x' ∧ w'.cell? ⟨w.heap.size + 1, 1, none⟩ = some y' ∧ w'.cell? ⟨w.heap.size + 1, 2, none⟩ = some z' := by
  refine ⟨?_, ?_, ?_, ?_, ?_, ?_⟩
  · rw [h.cell (by simp), World.cell?_alloc_lt _ _ _ (by simp), World.cell?_alloc_at _ _ _ _ (by simp)]; rfl
  · rw [h.cell (by simp), World.cell?_alloc_lt _ _ _ (by simp), World.cell?_alloc_at _ _ _ _ (by simp)]; rfl
  · rw [h.cell (by simp), World.cell?_alloc_lt _ _ _ (by simp), World.cell?_alloc_at _ _ _ _ (by simp)]; rfl
  · rw [h.cell (by simp), World.cell?_alloc_at _ _ _ _ (by simp)]; rfl
  · rw [h.cell (by simp), World.cell?_alloc_at _ _ _ _ (by simp)]; rfl
  · rw [h.cell (by simp), World.cell?_alloc_at _ _ _ _ (by simp)]; rfl
theorem tb_freeS {w w' : World} {o o' : Obj} (h : Below (w.heap.size + 2) ((w.alloc o).alloc o') w') (j : Nat) {c c' : Array Value} {T T' : TypeId} (ho : o = .cells c T) (ho' : o' = .cells c' T') :
    w'.frozen? ⟨w.heap.size, j, none⟩ = false ∧ w'.frozen? ⟨w.heap.size + 1, j, none⟩ = false := by
  subst ho
  subst ho'
  constructor
  · rw [h.frozen (by simp), World.frozen?_alloc_past _ _ _ (by simp), World.frozen?_alloc_at _ _ _ _ (by simp)]
  · rw [h.frozen (by simp), World.frozen?_alloc_at _ _ _ _ (by simp)]


theorem sd_end {w w1 : World} {bs : List Bd} {s v s' v' : Int} {k k' : Fo} {t : Bool} {a : Option Addr} {c : Nat} {o o' : Obj} (hr : sdR bs s v k = (s', v', k', t)) (hb : Below (w.heap.size + 2) ((w.alloc o).alloc o') w1) (hl : Sl w1 (w.heap.size + 2) w1.heap.size a k') (x y z : Value) :
    SdPost bs s v k w (.returned (.tuple #[.agg #[.int .i64 s', .int .i64 v', .slice a (flen k') c], .bool t])) (((w1.setCell ⟨w.heap.size + 1, 0, none⟩ x).setCell ⟨w.heap.size + 1, 1, none⟩ y).setCell ⟨w.heap.size + 1, 2, none⟩ z) := by
  have h0 : Same (w.heap.size + 2) w1.heap.size w1 w1 := fun _ _ _ => rfl
  have hb' : Below w.heap.size w w1 := (((Below.refl _ _).alloc (Nat.le_refl _) o).alloc (by simp) o').trans (hb.mono (by omega))
  exact ⟨a, c, s', v', k', t, hr, rfl, ((hb'.setCell (by simp) _).setCell (by simp) _).setCell (by simp) _, (hl.same (((h0.setCell (.inl (by simp)) _).setCell (.inl (by simp)) _).setCell (.inl (by simp)) _)).mono (by omega) (by simp)⟩

set_option maxRecDepth 100000 in
set_option maxHeartbeats 2000000 in
theorem iSubstDo_any (bs : List Bd) (A : Option Addr) (C : Nat) (s v : Int) (a : Option Addr) (c : Nat) (k : Fo) (w : World) (hb : BSl w 0 w.heap.size A bs) (hbl : bs.length ≤ 9223372036854775807) (hl : Sl w 0 w.heap.size a k) :
    Calls Try.prog 11 #[.slice A bs.length C, .agg #[.int .i64 s, .int .i64 v, .slice a (flen k) c]] w (SdPost bs s v k w) := by
  have hb0 : Below w.heap.size w ((w.alloc (.cells #[.int .i64 s, .int .i64 v, .slice a (flen k) c] 26)).alloc (.cells #[.int .i64 0, .int .i64 0, .slice none 0 0] 26)) := ((Below.refl _ _).alloc (Nat.le_refl _) _).alloc (by simp) _
  have HBS := Lib.hid ((hb.below hb0).mono (Nat.le_refl _) hb0.size)
  have HL0 := Lib.hid ((hl.below hb0).mono (Nat.le_refl _) hb0.size)
  have HB0 : Hid (Below (w.heap.size + 2) ((w.alloc (.cells #[.int .i64 s, .int .i64 v, .slice a (flen k) c] 26)).alloc (.cells #[.int .i64 0, .int .i64 0, .slice none 0 0] 26)) ((w.alloc (.cells #[.int .i64 s, .int .i64 v, .slice a (flen k) c] 26)).alloc (.cells #[.int .i64 0, .int .i64 0, .slice none 0 0] 26))) := Below.refl _ _
  have hsz : w.heap.size + 2 ≤ ((w.alloc (.cells #[.int .i64 s, .int .i64 v, .slice a (flen k) c] 26)).alloc (.cells #[.int .i64 0, .int .i64 0, .slice none 0 0] 26)).heap.size := by simp
  clear hb0 hb hl
  go_enter Try.func11, Try.ntmps11
  go_wp2_with fail
  with_reducible refine (substOf_any bs A C 16 _ HBS.out hbl (by omega) (by omega)).mono ?_
  rintro e w1 ⟨hb1, hcase⟩
  have hs1 := hb1.size
  have hb1' := HB0.out.trans (hb1.mono hsz)
  obtain ⟨hc0, hc1, hc2, _, _, _⟩ := tb_cellsS hb1'
  have HB1 := Lib.hid hb1'
  have HL1 := Lib.hid ((HL0.out.below hb1).mono (Nat.le_refl _) hs1)
  clear hb1 hb1'
  rcases hcase with ⟨hsok, b, rfl, hbb, hmap⟩ | ⟨hsok, rfl⟩
  · have HM1 := Lib.hid hmap
    have HSOK := Lib.hid hsok
    clear hmap hsok
    go_wp2_with fail
    with_reducible refine (nodeOf_any s v a c k 16 _ HL1.out (by omega) (by omega)).mono ?_
    rintro e w2 ⟨nv, rfl, hb2, hyes⟩
    have hs2 := hb2.size
    have hb2' := HB1.out.trans (hb2.mono (by omega))
    have HB2 := Lib.hid hb2'
    have HM2 := Lib.hid (HM1.out.below hb2)
    have HY := Lib.hid hyes
    clear hb2 hyes hc0 hc1 hc2
    cases hok : okW s v k 16 with
    | false =>
      have HR : Hid (sdR bs s v k = (0, 0, .nil, false)) := by unfold Hid sdR; rw [if_neg (by rw [hok]; simp)]
      clear hok
      have HBE := Lib.hid hb2'
      obtain ⟨hr0, hr1, hr2, hr3, hr4, hr5⟩ := tb_cellsS hb2'
      obtain ⟨hf0, hf3⟩ := tb_freeS hb2' 0 rfl rfl
      obtain ⟨hf1, hf4⟩ := tb_freeS hb2' 1 rfl rfl
      obtain ⟨hf2, hf5⟩ := tb_freeS hb2' 2 rfl rfl
      clear hb2'
      go_wp2_with fail
      refine bodyPost_ret (v := .tuple #[.agg #[.int .i64 0, .int .i64 0, .slice none 0 0], .bool false]) ?_ rfl (sd_end (k' := .nil) HR.out HBE.out (.inl rfl) _ _ _)
      simp [results, Try.results11, go_sem, hr3, hr4, hr5]
    | true =>
      obtain ⟨t1, t2, t3⟩ := tsub_ok HSOK.out hok
      have HT1 := Lib.hid t1
      have HT2 := Lib.hid t2
      have HN2 : Hid (NodeIs w2 0 w2.heap.size nv s v k) := (HY.out hok).mono (Nat.zero_le _) (Nat.le_refl _)
      have HOK := Lib.hid hok
      obtain ⟨o1, o2, o3⟩ := (okW_iff _ _ _ _).1 hok
      have HO1 := Lib.hid o1
      have HO2 := Lib.hid o2
      have o4 : fsz k ≤ 1000 := by omega
      clear hok hb2' t1 t2 o1 o2 HY
      go_wp2_with fail
      with_reducible refine (apply_any bs b s v k nv _ HN2.out HM2.out HO1.out HO2.out o4).mono ?_
      have HRD : Hid (∀ s' v' k', tsub (sv bs) s v k = (s', v', k') → (1 + fsz k' ≤ 16 → sdR bs s v k = (s', v', k', true)) ∧ (¬ 1 + fsz k' ≤ 16 → sdR bs s v k = (0, 0, .nil, false))) := fun s' v' k' h => by
        unfold sdR
        rw [h]
        exact ⟨fun h1 => by rw [if_pos ⟨HSOK.out, HOK.out, h1⟩], fun h1 => by rw [if_neg fun h2 => h1 h2.2.2]⟩
      generalize htt : tsub (sv bs) s v k = tt at *
      obtain ⟨s', v', k'⟩ := tt
      dsimp only at HT1 HT2 t3
      have HR0 := Lib.hid (HRD.out s' v' k' rfl)
      clear htt HRD
      rintro e w4 ⟨nv', rfl, hb4, hn'⟩
      have hs4 := hb4.size
      have hb4' := HB2.out.trans (hb4.mono (by omega))
      dsimp only at hn'
      have HB4 := Lib.hid hb4'
      clear hb4 hb4'
      by_cases hbig : 1 + fsz k' ≤ 16
      · have e1 : decide ((16 : Int) < 1 + (fsz k' : Int)) = false := decide_eq_false (by omega)
        have HR := Lib.hid (HR0.out.1 hbig)
        rcases hn' with ⟨rfl, rfl, rfl⟩ | ⟨hs', a5, c5, rfl, hn2⟩
        · clear e1
          go_wp2_with fail
          refine upon_method 97 (by kernel_rfl) (by kernel_rfl) ?_
          go_simp
          with_reducible refine (varSize_any v' _).mono ?_
          rintro e w5 ⟨rfl, rfl⟩
          go_wp2_with fail
          refine upon_method 98 (by kernel_rfl) (by kernel_rfl) ?_
          go_simp
          with_reducible refine (varTerm_any v' _).mono ?_
          rintro e w6 ⟨a6, c6, rfl, hb6, hl6⟩
          have hs6 := hb6.size
          have hb6' := HB4.out.trans (hb6.mono (by omega))
          have HBE := Lib.hid hb6'
          obtain ⟨hr0, hr1, hr2, hr3, hr4, hr5⟩ := tb_cellsS hb6'
          obtain ⟨hf0, hf3⟩ := tb_freeS hb6' 0 rfl rfl
          obtain ⟨hf1, hf4⟩ := tb_freeS hb6' 1 rfl rfl
          obtain ⟨hf2, hf5⟩ := tb_freeS hb6' 2 rfl rfl
          have HL6 := Lib.hid (hl6.mono (lo' := w.heap.size + 2) (by omega) (Nat.le_refl _))
          clear hb6 hl6 hb6'
          go_wp2_with fail
          refine bodyPost_ret (v := .tuple #[.agg #[.int .i64 0, .int .i64 v', .slice a6 (flen .nil) c6], .bool true]) ?_ rfl (sd_end HR.out HBE.out HL6.out _ _ _)
          simp [results, Try.results11, go_sem, hr3, hr4, hr5]
        · have hv0 : v' = 0 := ((okN_iff _ _ _).1 HT1.out).2.2 hs'
          subst hv0
          have HNS := Lib.hid hn2
          clear hn2
          go_wp2_with fail
          refine upon_method 100 (by kernel_rfl) (by kernel_rfl) ?_
          go_simp
          with_reducible refine (symSize_any (fsz k') s' a5 c5 k' _ HNS.out (Nat.le_refl _) (by omega)).mono ?_
          rintro e w5 ⟨rfl, hb5⟩
          have hs5 := hb5.size
          have HNS5 := Lib.hid ((HNS.out.below hb5).mono (lo' := 0) (Nat.le_refl _) hs5)
          have HB5 := Lib.hid (HB4.out.trans (hb5.mono (by omega)))
          clear hb5
          go_wp2_with fail
          refine upon_method 101 (by kernel_rfl) (by kernel_rfl) ?_
          go_simp
          with_reducible refine (symTerm_any (fsz k') s' a5 c5 k' _ HNS5.out HT2.out (Nat.le_refl _) (by omega)).mono ?_
          rintro e w6 ⟨a6, c6, rfl, hb6, hl6⟩
          have hs6 := hb6.size
          have hb6' := HB5.out.trans (hb6.mono (by omega))
          have HBE := Lib.hid hb6'
          obtain ⟨hr0, hr1, hr2, hr3, hr4, hr5⟩ := tb_cellsS hb6'
          obtain ⟨hf0, hf3⟩ := tb_freeS hb6' 0 rfl rfl
          obtain ⟨hf1, hf4⟩ := tb_freeS hb6' 1 rfl rfl
          obtain ⟨hf2, hf5⟩ := tb_freeS hb6' 2 rfl rfl
          have HL6 := Lib.hid (hl6.mono (lo' := w.heap.size + 2) (by omega) (Nat.le_refl _))
          clear hb6 hl6 hb6'
          go_wp2_with fail
          refine bodyPost_ret (v := .tuple #[.agg #[.int .i64 s', .int .i64 0, .slice a6 (flen k') c6], .bool true]) ?_ rfl (sd_end HR.out HBE.out HL6.out _ _ _)
          simp [results, Try.results11, go_sem, hr3, hr4, hr5]
      · have e1 : decide ((16 : Int) < 1 + (fsz k' : Int)) = true := decide_eq_true (by omega)
        have HR := Lib.hid (HR0.out.2 hbig)
        rcases hn' with ⟨rfl, rfl, rfl⟩ | ⟨hs', a5, c5, rfl, hn2⟩
        · simp [fsz] at hbig
        · have HNS := Lib.hid hn2
          clear hn2
          go_wp2_with fail
          refine upon_method 100 (by kernel_rfl) (by kernel_rfl) ?_
          go_simp
          with_reducible refine (symSize_any (fsz k') s' a5 c5 k' _ HNS.out (Nat.le_refl _) (by omega)).mono ?_
          rintro e w5 ⟨rfl, hb5⟩
          have hs5 := hb5.size
          have hb5' := HB4.out.trans (hb5.mono (by omega))
          have HBE := Lib.hid hb5'
          obtain ⟨hr0, hr1, hr2, hr3, hr4, hr5⟩ := tb_cellsS hb5'
          obtain ⟨hf0, hf3⟩ := tb_freeS hb5' 0 rfl rfl
          obtain ⟨hf1, hf4⟩ := tb_freeS hb5' 1 rfl rfl
          obtain ⟨hf2, hf5⟩ := tb_freeS hb5' 2 rfl rfl
          clear hb5 hb5'
          go_wp2_with fail
          refine bodyPost_ret (v := .tuple #[.agg #[.int .i64 0, .int .i64 0, .slice none 0 0], .bool false]) ?_ rfl (sd_end (k' := .nil) HR.out HBE.out (.inl rfl) _ _ _)
          simp [results, Try.results11, go_sem, hr3, hr4, hr5]
  · have HR : Hid (sdR bs s v k = (0, 0, .nil, false)) := by unfold Hid sdR; rw [if_neg (by rw [hsok]; simp)]
    clear hsok
    go_wp2_with fail
    with_reducible refine (nodeOf_any s v a c k 16 _ HL1.out (by omega) (by omega)).mono ?_
    rintro e w2 ⟨nv, rfl, hb2, _⟩
    have hs2 := hb2.size
    have hb2' := HB1.out.trans (hb2.mono (by omega))
    have HBE := Lib.hid hb2'
    obtain ⟨hr0, hr1, hr2, hr3, hr4, hr5⟩ := tb_cellsS hb2'
    obtain ⟨hf0, hf3⟩ := tb_freeS hb2' 0 rfl rfl
    obtain ⟨hf1, hf4⟩ := tb_freeS hb2' 1 rfl rfl
    obtain ⟨hf2, hf5⟩ := tb_freeS hb2' 2 rfl rfl
    clear hb2 hb2' hc0 hc1 hc2
    generalize okW s v k 16 = okk
    cases okk with
    | false =>
      go_wp2_with fail
      refine bodyPost_ret (v := .tuple #[.agg #[.int .i64 0, .int .i64 0, .slice none 0 0], .bool false]) ?_ rfl (sd_end (k' := .nil) HR.out HBE.out (.inl rfl) _ _ _)
      simp [results, Try.results11, go_sem, hr3, hr4, hr5]
    | true =>
      go_wp2_with fail
      refine bodyPost_ret (v := .tuple #[.agg #[.int .i64 0, .int .i64 0, .slice none 0 0], .bool false]) ?_ rfl (sd_end (k' := .nil) HR.out HBE.out (.inl rfl) _ _ _)
      simp [results, Try.results11, go_sem, hr3, hr4, hr5]
end Go.Proofs.Ytkmfnhoeigoajaa

/-! SP3: The specification's l2Put: what variables stand for put in. -/
namespace Go.Proofs.Ytkmfnhoeigoajaa
open Go.RowKit Go.Deep
attribute [local go_sem ↓] Go.wp_at_zero Go.wp_at_succ

theorem cpS_start (σ : Int → Option (Int × Int × Fo)) (w : World) (s : Int) (a : Option Addr) (c : Nat) (k : Fo) : CpAt w s 0 a c (fsub σ k) 0 none 0 (((w.alloc (.cells #[.int .i64 s, .int .i64 0, .slice a (flen k) c] 26)).alloc (.cells #[.int .i64 0, .int .i64 0, .slice none 0 0] 26)).alloc (.cells #[.int .i64 s, .int .i64 0, .slice none 0 0] 26)) := by
  have h := CpAt.start w s 0 a c (fsub σ k)
  rw [fsub_len] at h
  exact h

theorem put_end0 {w w1 w2 : World} {s' v' : Int} {k' : Fo} {a : Option Addr} {c : Nat} {Y Z : Obj} (hb1 : Below ((w.alloc Y).alloc Z).heap.size ((w.alloc Y).alloc Z) w1) (hb : Below w1.heap.size w1 w2) (ho : Own w2 w1.heap.size k' (flen k') a c) (p q r : Value) :
    CopyPost s' v' k' w (.returned (.agg #[.int .i64 s', .int .i64 v', .slice a (flen k') c])) (((w2.setCell ⟨w.heap.size + 1, 0, none⟩ p).setCell ⟨w.heap.size + 1, 1, none⟩ q).setCell ⟨w.heap.size + 1, 2, none⟩ r) := by
  have h1 := hb1.size
  simp at h1
  have h2 := hb.size
  have hb2 : Below w.heap.size w w2 := ((((Below.refl _ _).alloc (Nat.le_refl _) Y).alloc (by simp) Z).trans (hb1.mono (by simp; omega))).trans (hb.mono (by omega))
  refine ⟨a, c, rfl, ((hb2.setCell (by simp) _).setCell (by simp) _).setCell (by simp) _, ?_⟩
  exact (((ho.store (by simp; omega) p).store (by simp; omega) q).store (by simp; omega) r).low (Below.refl _ _) (by omega)

set_option maxRecDepth 100000 in
set_option maxHeartbeats 1000000 in
theorem l2Put_any (bs : List Bd) (A0 : Option Addr) (C0 : Nat) (hbl : bs.length ≤ 9223372036854775807) (hbz : ∀ x t, sv bs x = some t → fsz t.2.2 ≤ 1000000) (N : Nat) : ∀ (s v : Int) (a : Option Addr) (c : Nat) (k : Fo) (w : World), BSl w 0 w.heap.size A0 bs → Sl w 0 w.heap.size a k → okN s v (flen k) = true → fok k = true → fsz k ≤ N → N ≤ 1000 →
    Calls Try.prog 29 #[.slice A0 bs.length C0, .agg #[.int .i64 s, .int .i64 v, .slice a (flen k) c]] w (CopyPost (tsub (sv bs) s v k).1 (tsub (sv bs) s v k).2.1 (tsub (sv bs) s v k).2.2 w) := by
  induction N using Nat.strongRecOn with
  | _ N ih =>
    intro s v a c k w hbs hl hok hfk hN hN2
    have hfl := flen_le_sz k
    have IH := Lib.hid ih
    have HFK := Lib.hid hfk
    have HBS := Lib.hid hbs
    have HBZ := Lib.hid hbz
    clear ih hfk hbs hbz
    by_cases hs0 : s = 0
    · subst hs0
      have hk0 : k = .nil := by
        have h1 := ((okN_iff _ _ _).1 hok).1
        cases k with
        | nil => rfl
        | node _ _ _ _ r => simp [flen, ar] at h1; omega
      subst hk0
      have hb0 : Below w.heap.size w ((w.alloc (.cells #[.int .i64 0, .int .i64 v, .slice a (flen .nil) c] 26)).alloc (.cells #[.int .i64 0, .int .i64 0, .slice none 0 0] 26)) := ((Below.refl _ _).alloc (Nat.le_refl _) _).alloc (by simp) _
      have HB1 : Hid (BSl ((w.alloc (.cells #[.int .i64 0, .int .i64 v, .slice a (flen .nil) c] 26)).alloc (.cells #[.int .i64 0, .int .i64 0, .slice none 0 0] 26)) 0 ((w.alloc (.cells #[.int .i64 0, .int .i64 v, .slice a (flen .nil) c] 26)).alloc (.cells #[.int .i64 0, .int .i64 0, .slice none 0 0] 26)).heap.size A0 bs) := (HBS.out.below hb0).mono (Nat.le_refl _) hb0.size
      have HZ : Hid (fsz (tsub (sv bs) 0 v .nil).2.2 ≤ 1000000) := by
        rw [Hid, tsub, if_pos rfl]
        cases h : sv bs v with
        | none => simp [fsz]
        | some t => exact HBZ.out v t h
      clear hb0 hok hl
      go_enter Try.func29, Try.ntmps29
      go_wp2_with fail
      with_reducible refine (l2Of_any bs A0 C0 v _ HB1.out hbl).mono ?_
      rintro e w1 ⟨a1, c1, rfl, hb1, hl1⟩
      generalize tsub (sv bs) 0 v .nil = tt at *
      obtain ⟨s', v', k'⟩ := tt
      dsimp only at hl1 HZ ⊢
      have HB2 := Lib.hid hb1
      have HL1 := Lib.hid hl1
      clear hb1 hl1
      go_wp2_with fail
      with_reducible refine (l1Copy_any (fsz k') s' v' a1 c1 k' _ HL1.out (Nat.le_refl _) HZ.out).mono ?_
      rintro e w2 ⟨a2, c2, rfl, hb2, ho2⟩
      have hs1 := HB2.out.size
      simp at hs1
      have hbx := (HB2.out.mono (show w.heap.size + 2 ≤ _ by simp)).trans (hb2.mono (show w.heap.size + 2 ≤ w1.heap.size by omega))
      obtain ⟨_, _, _, hr0, hr1, hr2⟩ := tb_cellsS hbx
      obtain ⟨_, hf0⟩ := tb_freeS hbx 0 rfl rfl
      obtain ⟨_, hf1⟩ := tb_freeS hbx 1 rfl rfl
      obtain ⟨_, hf2⟩ := tb_freeS hbx 2 rfl rfl
      clear hbx
      have HE := Lib.hid (fun p q r => put_end0 (s' := s') (v' := v') (k' := k') (c := c2) HB2.out hb2 ho2 p q r)
      clear hb2 ho2
      go_wp2_with fail
      refine bodyPost_ret (v := .agg #[.int .i64 s', .int .i64 v', .slice a2 (flen k') c2]) ?_ rfl (HE.out _ _ _)
      simp [results, Try.results29, go_sem, hr0, hr1, hr2]
    have hv0 : v = 0 := ((okN_iff _ _ _).1 hok).2.2 hs0
    subst hv0
    have HTT : Hid (tsub (sv bs) s 0 k = (s, 0, fsub (sv bs) k)) := by unfold Hid tsub; rw [if_neg hs0]
    have hse : (s == 0) = false := by simpa using hs0
    have hfl2 := fsub_len (sv bs) k
    rw [HTT.out]
    dsimp only
    clear hok
    have HST := Lib.hid (cpS_start (sv bs) w s a c k)
    go_enter Try.func29, Try.ntmps29
    go_wp2_with fail
    go_loopw [6] (fun i wr => ∃ (j : Nat) (A : Option Addr) (C : Nat), j ≤ flen k ∧ i = .int .i64 j ∧ CpAt w s 0 a c (fsub (sv bs) k) j A C wr) (fun i _ => flen k - (intOf i).toNat)
    case atStart => exact ⟨0, none, 0, Nat.zero_le _, rfl, HST.out⟩
    case round =>
      clear HST
      obtain ⟨j, A, C, hj, rfl, hat⟩ := hrel
      obtain ⟨hr0, hr1, hr2, hq0, hq1, hq2, hb0⟩ := hat.res
      rw [hfl2] at hb0
      have ho0 := hat.out0
      have ho1 := hat.out1
      have ho2 := hat.out2
      have hof := hat.free
      have hsz := hat.size
      by_cases hlt : j < flen k
      · clear hr0 hr1 hr2 hq0 hq1 hq2
        rcases hl with rfl | ⟨b, o, rfl, hrow⟩
        · simp [flen] at hlt
        have hbw := hat.low
        obtain ⟨s', v', kk, a', c', ⟨x, y, hd⟩, _, hbB, hk0, hk1, hk2, hsl⟩ := row_at (hrow.below hbw) hlt
        have hkN := Lib.hid (fsz_kid hd)
        have HD := Lib.hid (fsub_at (sv bs) j k hd)
        have HKID := Lib.hid (fok_kid HFK.out hd)
        have HBR : Hid (BSl wr.drew 0 wr.drew.heap.size A0 bs) := (HBS.out.below hbw.drew).mono (Nat.le_refl _) hbw.drew.size
        have HS := Lib.hid hsl
        have HROW := Lib.hid hrow
        have HAT := Lib.hid hat
        clear hd hsl hrow hat hbw
        have g1 : (0 : Int) ≤ (j : Int) := by omega
        have g2 : (j : Int) < (flen k : Int) := by omega
        obtain ⟨ti, hti, htz, hts, htb⟩ := Try.infoTerm
        obtain ⟨xs, hown, hall⟩ := HAT.out.own
        have HTI := Lib.hid hti
        have HTZ := Lib.hid htz
        have HTS := Lib.hid hts
        have HTB := Lib.hid htb
        have HOWN := Lib.hid hown
        have HALL := Lib.hid hall
        have HLT : Hid (∀ g, (Value.slice A j C).ownBlock = some g → w.heap.size + 3 ≤ g) := fun g hg => (hown.lt g hg).1
        clear hti htz hts htb hown hall
        have hu0 : ∀ u : After (w.heap.size + 3) wr, u.world.cell? ⟨w.heap.size + 1 + 1, 2, none⟩ = some (.slice A j C) := fun u => u.cell (by simp) ho2
        have hu1 : ∀ u : After (w.heap.size + 3) wr, u.world.cell? ⟨w.heap.size, 2, none⟩ = some (.slice (some ⟨b, o, none⟩) (flen k) c) := fun u => u.cell (by simp) hb0
        have hu2 : ∀ u : After (w.heap.size + 3) wr, u.world.cell? ⟨b, o + j * 3, none⟩ = some (.int .i64 s') := fun u => u.cell (by simp; omega) hk0
        have hu3 : ∀ u : After (w.heap.size + 3) wr, u.world.cell? ⟨b, o + j * 3 + 1, none⟩ = some (.int .i64 v') := fun u => u.cell (by simp; omega) hk1
        have hu4 : ∀ u : After (w.heap.size + 3) wr, u.world.cell? ⟨b, o + j * 3 + 2, none⟩ = some (.slice a' (flen kk) c') := fun u => u.cell (by simp; omega) hk2
        go_wp2_with fail
        refine wp_region_mix (fun w' => ∃ u : After (w.heap.size + 3) wr, w' = u.world) [11, 12] [(0, 0), (1, 0), (2, 0), (3, 0), (4, 0), (5, 0), (6, 0), (7, 0), (8, 1), (9, 1), (10, 1), (11, 2), (12, 2)] (by kernel_rfl) (by kernel_rfl) ⟨⟨_, (Below.refl _ _).drew⟩, rfl⟩ ?_
        iterate 8
          refine mix_see rfl (fun K hK => ?_)
          go_simp
          refine hK _ ?_
          clear hK K
        clear hu0 hu1 hu2 hu3 hu4
        refine mix_hold rfl (fun K hK => ?_)
        go_simp
        with_reducible refine (IH.out (fsz kk) (by have := hkN.out; omega) s' v' a' c' kk _ HBR.out ?_ HKID.out.1 HKID.out.2 (Nat.le_refl _) ?_).mono ?_
        · exact (HS.out.below (Below.refl _ _).drew).mono (Nat.le_refl _) (by simp; omega)
        · have := hkN.out; omega
        generalize tsub (sv bs) s' v' kk = tt at *
        obtain ⟨s3, v3, k3⟩ := tt
        dsimp only at HD
        rintro e w2 ⟨a2, c2, rfl, hb2', hown2⟩
        dsimp only at hown2
        have hb2 : Below wr.heap.size wr w2 := bl_undrew hb2'
        have HL2 : Hid (Sl w2 wr.heap.size w2.heap.size a2 k3) := hown2.sl
        have hs2 := hb2.size
        refine hK _ _ ⟨⟨_, hb2.mono (by omega)⟩, rfl⟩ ?_
        clear hK K hb2' hown2
        refine mix_hold rfl (fun K hK => ?_)
        go_simp
        refine hK _ _ ⟨⟨_, (hb2.mono (by omega)).alloc (by omega) _⟩, rfl⟩ ?_
        clear hK K
        refine mix_hold rfl (fun K hK => ?_)
        refine step_append_lies _ (by rfl) _ _ _ (by rfl) (w.heap.size + 3) 26 ti _ 3 40 Try.underlying24 HTI.out HTZ.out HTS.out HTB.out rfl (by omega) (.slice A j C) j xs (by rfl) (own_low ((Below.refl _ _).alloc (Nat.le_refl _) _) (own_low hb2 HOWN.out)) ⟨w2.heap.size, 0, none⟩ 1 1 [.int .i64 s3, .int .i64 v3, .slice a2 (flen k3) c2] (by rfl) (by rfl) (World.news_of_block (heap_alloc_new _ _)) (by simp [Value.oneCell']) (by omega) (by unfold maxLen; omega) (by omega) (by simp; omega) (w2.heap.size + 1) (by simp) ?_
        intro g cap w3 hown3 hgrow hatg hg3
        have hlow : Below (w.heap.size + 3) wr w3 := ((hb2.mono (by omega)).alloc (by omega) _).grown hgrow (by simp; omega) HLT.out
        have hz2 : w3.cell? ⟨w.heap.size + 1 + 1, 2, none⟩ = some (.slice A j C) := by rw [hlow.cell (by simp)]; exact ho2
        have hz3 : w3.frozen? ⟨w.heap.size + 1 + 1, 2, none⟩ = false := by rw [hlow.frozen (by simp)]; exact hof
        have HSTEP := Lib.hid (HAT.out.step hb2 HL2.out HD.out HOWN.out HALL.out hown3 hgrow hatg)
        refine hK _ _ ⟨⟨_, hlow⟩, rfl⟩ ?_
        clear hK K hown3 hgrow hatg
        refine mix_late rfl (fun K hK => ?_)
        go_simp
        refine hK _ _ ?_
        clear hK K
        refine mix_late rfl (fun K hK => ?_)
        go_simp
        refine hK _ _ ?_
        clear hK K
        refine mix_end ?_
        clear hz2 hz3 hlow hb0 ho0 ho1 ho2 hof hk0 hk1 hk2
        go_wp2_with fail
        go_roundw
        case rel => exact ⟨j + 1, _, _, by omega, by go_num, HSTEP.out⟩
        case measure => simp [intOf]; omega
      · have hjk : j = flen k := by omega
        subst hjk
        have HDN : Hid (∀ x y z, CopyPost s 0 (fsub (sv bs) k) w (.returned (.agg #[.int .i64 s, .int .i64 0, .slice A (flen k) C])) (((wr.setCell ⟨w.heap.size + 1, 0, none⟩ x).setCell ⟨w.heap.size + 1, 1, none⟩ y).setCell ⟨w.heap.size + 1, 2, none⟩ z)) := fun x y z => by
          rw [← hfl2] at hat ⊢
          exact hat.done x y z
        clear hat
        go_wp2_with fail
        refine bodyPost_ret (v := .agg #[.int .i64 s, .int .i64 0, .slice A (flen k) C]) ?_ rfl (HDN.out _ _ _)
        simp [results, Try.results29, go_sem, hr0, hr1, hr2]
end Go.Proofs.Ytkmfnhoeigoajaa

/-! SP4: The specification's SubstDo. -/
namespace Go.Proofs.Ytkmfnhoeigoajaa
open Go.RowKit Go.Deep

theorem okW_of {s v : Int} {k : Fo} (h1 : okN s v (flen k) = true) (h2 : fok k = true) : okW s v k 16 = decide (1 + fsz k ≤ 16) := by
  by_cases h : 1 + fsz k ≤ 16
  · rw [decide_eq_true h]; exact (okW_iff _ _ _ _).2 ⟨h1, h2, by omega⟩
  · rw [decide_eq_false h]
    cases ho : okW s v k 16 with
    | false => rfl
    | true => have := ((okW_iff _ _ _ _).1 ho).2.2; omega

set_option maxRecDepth 100000 in
set_option maxHeartbeats 2000000 in
theorem sSubstDo_any (bs : List Bd) (A : Option Addr) (C : Nat) (s v : Int) (a : Option Addr) (c : Nat) (k : Fo) (w : World) (hb : BSl w 0 w.heap.size A bs) (hbl : bs.length ≤ 9223372036854775807) (hl : Sl w 0 w.heap.size a k) :
    Calls Try.prog 10 #[.slice A bs.length C, .agg #[.int .i64 s, .int .i64 v, .slice a (flen k) c]] w (SdPost bs s v k w) := by
  have hb0 : Below w.heap.size w ((w.alloc (.cells #[.int .i64 s, .int .i64 v, .slice a (flen k) c] 26)).alloc (.cells #[.int .i64 0, .int .i64 0, .slice none 0 0] 26)) := ((Below.refl _ _).alloc (Nat.le_refl _) _).alloc (by simp) _
  have HBS := Lib.hid ((hb.below hb0).mono (Nat.le_refl _) hb0.size)
  have HL0 := Lib.hid ((hl.below hb0).mono (Nat.le_refl _) hb0.size)
  have HB0 : Hid (Below (w.heap.size + 2) ((w.alloc (.cells #[.int .i64 s, .int .i64 v, .slice a (flen k) c] 26)).alloc (.cells #[.int .i64 0, .int .i64 0, .slice none 0 0] 26)) ((w.alloc (.cells #[.int .i64 s, .int .i64 v, .slice a (flen k) c] 26)).alloc (.cells #[.int .i64 0, .int .i64 0, .slice none 0 0] 26))) := Below.refl _ _
  have hsz : w.heap.size + 2 ≤ ((w.alloc (.cells #[.int .i64 s, .int .i64 v, .slice a (flen k) c] 26)).alloc (.cells #[.int .i64 0, .int .i64 0, .slice none 0 0] 26)).heap.size := by simp
  clear hb0 hb hl
  go_enter Try.func10, Try.ntmps10
  go_wp2_with fail
  with_reducible refine (sSubstOk_any bs A C _ HBS.out hbl).mono ?_
  rintro e w1 ⟨rfl, hb1⟩
  have hs1 := hb1.size
  have hb1' := HB0.out.trans (hb1.mono hsz)
  have HB1 := Lib.hid hb1'
  have HL1 := Lib.hid ((HL0.out.below hb1).mono (Nat.le_refl _) hs1)
  have HBS1 := Lib.hid ((HBS.out.below hb1).mono (Nat.le_refl _) hs1)
  obtain ⟨hr0, hr1, hr2, hr3, hr4, hr5⟩ := tb_cellsS hb1'
  obtain ⟨hf0, hf3⟩ := tb_freeS hb1' 0 rfl rfl
  obtain ⟨hf1, hf4⟩ := tb_freeS hb1' 1 rfl rfl
  obtain ⟨hf2, hf5⟩ := tb_freeS hb1' 2 rfl rfl
  clear hb1 hb1'
  cases hsok : sok 16 bs with
  | false =>
    have HR : Hid (sdR bs s v k = (0, 0, .nil, false)) := by unfold Hid sdR; rw [if_neg (by rw [hsok]; simp)]
    clear hsok
    go_wp2_with fail
    refine bodyPost_ret (v := .tuple #[.agg #[.int .i64 0, .int .i64 0, .slice none 0 0], .bool false]) ?_ rfl (sd_end (k' := .nil) HR.out HB1.out (.inl rfl) _ _ _)
    simp [results, Try.results10, go_sem, hr3, hr4, hr5]
  | true =>
    have HSOK := Lib.hid hsok
    clear hsok hr3 hr4 hr5 hf0 hf1 hf2 hf3 hf4 hf5
    go_wp2_with fail
    with_reducible refine (sTermOk_any s v a c k _ HL1.out).mono ?_
    rintro e w2 ⟨rfl, hb2⟩
    have hs2 := hb2.size
    have hb2' := HB1.out.trans (hb2.mono (by omega))
    have HB2 := Lib.hid hb2'
    have HL2 := Lib.hid ((HL1.out.below hb2).mono (Nat.le_refl _) hs2)
    have HBS2 := Lib.hid ((HBS1.out.below hb2).mono (Nat.le_refl _) hs2)
    clear hr0 hr1 hr2
    obtain ⟨hr0, hr1, hr2, hr3, hr4, hr5⟩ := tb_cellsS hb2'
    obtain ⟨hf0, hf3⟩ := tb_freeS hb2' 0 rfl rfl
    obtain ⟨hf1, hf4⟩ := tb_freeS hb2' 1 rfl rfl
    obtain ⟨hf2, hf5⟩ := tb_freeS hb2' 2 rfl rfl
    clear hb2 hb2'
    cases hok : okW s v k 16 with
    | false =>
      have HR : Hid (sdR bs s v k = (0, 0, .nil, false)) := by unfold Hid sdR; rw [if_neg (by rw [hok]; simp)]
      clear hok
      go_wp2_with fail
      refine bodyPost_ret (v := .tuple #[.agg #[.int .i64 0, .int .i64 0, .slice none 0 0], .bool false]) ?_ rfl (sd_end (k' := .nil) HR.out HB2.out (.inl rfl) _ _ _)
      simp [results, Try.results10, go_sem, hr3, hr4, hr5]
    | true =>
      obtain ⟨t1, t2, t3⟩ := tsub_ok HSOK.out hok
      have HT1 := Lib.hid t1
      have HT2 := Lib.hid t2
      have HOK := Lib.hid hok
      obtain ⟨o1, o2, o3⟩ := (okW_iff _ _ _ _).1 hok
      have HO1 := Lib.hid o1
      have HO2 := Lib.hid o2
      have o4 : fsz k ≤ 1000 := by omega
      have HZ : Hid (∀ x t, sv bs x = some t → fsz t.2.2 ≤ 1000000) := fun x t ht => by have := ((okW_iff _ _ _ _).1 (sv_ok bs (-1) HSOK.out x t ht)).2.2; omega
      clear hok t1 t2 o1 o2 hr3 hr4 hr5 hf0 hf1 hf2 hf3 hf4 hf5
      go_wp2_with fail
      with_reducible refine (l2Put_any bs A C hbl HZ.out 1000 s v a c k _ HBS2.out HL2.out HO1.out HO2.out o4 (Nat.le_refl _)).mono ?_
      have HRD : Hid (∀ s' v' k', tsub (sv bs) s v k = (s', v', k') → (1 + fsz k' ≤ 16 → sdR bs s v k = (s', v', k', true)) ∧ (¬ 1 + fsz k' ≤ 16 → sdR bs s v k = (0, 0, .nil, false))) := fun s' v' k' h => by
        unfold sdR
        rw [h]
        exact ⟨fun h1 => by rw [if_pos ⟨HSOK.out, HOK.out, h1⟩], fun h1 => by rw [if_neg fun h2 => h1 h2.2.2]⟩
      generalize htt : tsub (sv bs) s v k = tt at *
      obtain ⟨s', v', k'⟩ := tt
      dsimp only at HT1 HT2 t3
      have HR0 := Lib.hid (HRD.out s' v' k' rfl)
      clear htt HRD
      rintro e w3 ⟨a3, c3, rfl, hb3, ho3⟩
      dsimp only at ho3 ⊢
      have hs3 := hb3.size
      have hb3' := (HB2.out.trans (hb3.mono (by omega))).alloc (show w.heap.size + 2 ≤ w3.heap.size by omega) (.cells #[.int .i64 s', .int .i64 v', .slice a3 (flen k') c3] 26)
      have HB3 := Lib.hid hb3'
      have hba : Below w3.heap.size w3 (w3.alloc (.cells #[.int .i64 s', .int .i64 v', .slice a3 (flen k') c3] 26)) := (Below.refl _ _).alloc (Nat.le_refl _) _
      have HL3 := Lib.hid ((ho3.sl.below hba).mono (lo' := w.heap.size + 2) (by omega) hba.size)
      clear hr0 hr1 hr2 hb3 hb3' ho3 hba
      go_wp2_with fail
      with_reducible refine (sTermOk_any s' v' a3 c3 k' _ (HL3.out.mono (Nat.zero_le _) (Nat.le_refl _))).mono ?_
      rw [okW_of HT1.out HT2.out]
      rintro e w4 ⟨rfl, hb4⟩
      have hs4 := hb4.size
      simp at hs4
      have hb4' := HB3.out.trans (hb4.mono (by simp; omega))
      have HB4 := Lib.hid hb4'
      have HL4 := Lib.hid ((HL3.out.below hb4).mono (Nat.le_refl _) hb4.size)
      obtain ⟨hr0, hr1, hr2, hr3, hr4, hr5⟩ := tb_cellsS hb4'
      obtain ⟨hf0, hf3⟩ := tb_freeS hb4' 0 rfl rfl
      obtain ⟨hf1, hf4⟩ := tb_freeS hb4' 1 rfl rfl
      obtain ⟨hf2, hf5⟩ := tb_freeS hb4' 2 rfl rfl
      obtain ⟨he0, he1, he2⟩ := box_cells (w := w3) (x := .int .i64 s') (y := .int .i64 v') (z := .slice a3 (flen k') c3) (T := 26) ⟨w4, by simpa using hb4⟩
      dsimp only at he0 he1 he2
      clear hb4 hb4'
      by_cases hbig : 1 + fsz k' ≤ 16
      · have HR := Lib.hid (HR0.out.1 hbig)
        rw [decide_eq_true hbig]
        go_wp2_with fail
        refine bodyPost_ret (v := .tuple #[.agg #[.int .i64 s', .int .i64 v', .slice a3 (flen k') c3], .bool true]) ?_ rfl (sd_end HR.out HB4.out HL4.out _ _ _)
        simp [results, Try.results10, go_sem, hr3, hr4, hr5]
      · have HR := Lib.hid (HR0.out.2 hbig)
        rw [decide_eq_false hbig]
        go_wp2_with fail
        refine bodyPost_ret (v := .tuple #[.agg #[.int .i64 0, .int .i64 0, .slice none 0 0], .bool false]) ?_ rfl (sd_end (k' := .nil) HR.out HB4.out (.inl rfl) _ _ _)
        simp [results, Try.results10, go_sem, hr3, hr4, hr5]
end Go.Proofs.Ytkmfnhoeigoajaa
