/- Several texts in one: S6, LO6, LT, PS, FrameO, Frame. -/
import Derived.Test.YtiinmlagcbjloaaGreatKAll23
import Derived.Test.YtiinmlagcbjloaaGreatKAll17
import Derived.Test.YtiinmlagcbjloaaGreatKAll22
import Derived.Test.YtiinmlagcbjloaaGreatKAll2
import Derived.Test.YtiinmlagcbjloaaGreatKAll5
import Derived.Test.YtiinmlagcbjloaaGreatKAll19
import Derived.Test.YtiinmlagcbjloaaGreatRows
import Derived.WalkKit
import Derived.ProofKit
import Derived.OpenShut
import Derived.ShutString
import Derived.ChangeOld
import Derived.Below
import Derived.Test.YtiinmlagcbjloaaGreatKAll3

/-! S6: impl.SubstDo. -/
namespace Go.Proofs.YtiinmlagcbjloaaGreat
open Go.RowKit Go.Deep Go.Maps

theorem fsub_sz {σ : Int → Option (Int × Int × Fo)} (h : ∀ x t, σ x = some t → fsz t.2.2 ≤ 15) : ∀ k : Fo, fsz (fsub σ k) ≤ 16 * fsz k
  | .nil => by simp [fsub, fsz]
  | .node _ _ p k r => by
    have h1 := fsub_sz h k
    have h2 := fsub_sz h r
    simp only [fsub]
    split
    · split
      · rename_i t ht
        have := h _ _ ht
        simp only [fsz]; omega
      · simp only [fsz]; omega
    · simp only [fsz]; omega
theorem fsub_ok {σ : Int → Option (Int × Int × Fo)} (h : ∀ x t, σ x = some t → okN t.1 t.2.1 (flen t.2.2) = true ∧ fok t.2.2 = true) : ∀ k : Fo, fok k = true → fok (fsub σ k) = true
  | .nil, _ => rfl
  | .node _ _ p k r, hk => by
    simp only [fok, Bool.and_eq_true] at hk
    have h1 := fsub_ok h k hk.1.2
    have h2 := fsub_ok h r hk.2
    simp only [fsub]
    split
    · split
      · rename_i t ht
        have := h _ _ ht
        simp only [fok, Bool.and_eq_true]
        exact ⟨⟨this.1, this.2⟩, h2⟩
      · simp only [fok, Bool.and_eq_true]
        exact ⟨⟨hk.1.1, hk.1.2⟩, h2⟩
    · simp only [fok, Bool.and_eq_true, fsub_len]
      exact ⟨⟨hk.1.1, h1⟩, h2⟩
theorem sv_ok {room : Int} : ∀ (bs : List Bd) (last : Int), sokFrom room last bs = true → ∀ x t, sv bs x = some t → okW t.1 t.2.1 t.2.2 room = true
  | [], _, _, _, _, h => by simp [sv] at h
  | y :: r, last, hs, x, t, h => by
    simp only [sokFrom, Bool.and_eq_true] at hs
    simp only [sv] at h
    split at h
    · obtain rfl := Option.some.inj h; exact hs.1
    · exact sv_ok r y.1 hs.2.2.2 x t h
/-- The answer of SubstDo. -/
def sdR (bs : List Bd) (s v : Int) (k : Fo) : Int × Int × Fo × Bool :=
  if sok 16 bs = true ∧ okW s v k 16 = true ∧ 1 + fsz (tsub (sv bs) s v k).2.2 ≤ 16 then ((tsub (sv bs) s v k).1, (tsub (sv bs) s v k).2.1, (tsub (sv bs) s v k).2.2, true) else (0, 0, .nil, false)
theorem tsub_ok {bs : List Bd} {s v : Int} {k : Fo} (hs : sok 16 bs = true) (ho : okW s v k 16 = true) : okN (tsub (sv bs) s v k).1 (tsub (sv bs) s v k).2.1 (flen (tsub (sv bs) s v k).2.2) = true ∧ fok (tsub (sv bs) s v k).2.2 = true ∧ fsz (tsub (sv bs) s v k).2.2 ≤ 1000 := by
  obtain ⟨o1, o2, o3⟩ := (okW_iff _ _ _ _).1 ho
  have hsv := sv_ok bs (-1) hs
  have h1 : ∀ x t, sv bs x = some t → okN t.1 t.2.1 (flen t.2.2) = true ∧ fok t.2.2 = true := fun x t ht => by have := (okW_iff _ _ _ _).1 (hsv x t ht); exact ⟨this.1, this.2.1⟩
  have h2 : ∀ x t, sv bs x = some t → fsz t.2.2 ≤ 15 := fun x t ht => by have := (okW_iff _ _ _ _).1 (hsv x t ht); omega
  unfold tsub
  by_cases e : s = 0
  · rw [if_pos e]
    cases ht : sv bs v with
    | none => exact ⟨o1, o2, by simp only [Option.getD]; omega⟩
    | some t => simp only [Option.getD]; exact ⟨(h1 v t ht).1, (h1 v t ht).2, by have := h2 v t ht; omega⟩
  · rw [if_neg e]
    refine ⟨by dsimp only; rw [fsub_len]; exact o1, fsub_ok h1 k o2, ?_⟩
    have := fsub_sz h2 k
    dsimp only; omega

def SdPost (bs : List Bd) (s v : Int) (k : Fo) (w : World) (e : Ending) (w' : World) : Prop :=
  ∃ a c s' v' k' t, sdR bs s v k = (s', v', k', t) ∧ e = .returned (.tuple #[.agg #[.int .i64 s', .int .i64 v', .slice a (flen k') c], .bool t]) ∧ Below w.heap.size w w' ∧ Sl w' w.heap.size w'.heap.size a k'
theorem tb_cellsS {w w' : World} {x y z x' y' z' : Value} {T T' : TypeId} (h : Below (w.heap.size + 2) ((w.alloc (.cells #[x, y, z] T)).alloc (.cells #[x', y', z'] T')) w') :
    w'.cell? ⟨w.heap.size, 0, none⟩ = some x ∧ w'.cell? ⟨w.heap.size, 1, none⟩ = some y ∧ w'.cell? ⟨w.heap.size, 2, none⟩ = some z ∧
      w'.cell? ⟨w.heap.size + 1, 0, none⟩ = some x' ∧ w'.cell? ⟨w.heap.size + 1, 1, none⟩ = some y' ∧ w'.cell? ⟨w.heap.size + 1, 2, none⟩ = some z' := by
  refine ⟨?_, ?_, ?_, ?_, ?_, ?_⟩
  · rw [h.cell (by simp), World.cell?_alloc_lt _ _ _ (by simp), World.cell?_alloc_at _ _ _ _ (by simp)]; rfl
  · rw [h.cell (by simp), World.cell?_alloc_lt _ _ _ (by simp), World.cell?_alloc_at _ _ _ _ (by simp)]; rfl
  · rw [h.cell (by simp), World.cell?_alloc_lt _ _ _ (by simp), World.cell?_alloc_at _ _ _ _ (by simp)]; rfl
  · rw [h.cell (by simp), World.cell?_alloc_at _ _ _ _ (by simp)]; rfl
  · rw [h.cell (by simp), World.cell?_alloc_at _ _ _ _ (by simp)]; rfl
  · rw [h.cell (by simp), World.cell?_alloc_at _ _ _ _ (by simp)]; rfl
theorem tb_freeS {w w' : World} {o o' : Obj} (h : Below (w.heap.size + 2) ((w.alloc o).alloc o') w') (j : Nat) {c c' : Array Value} {T T' : TypeId} (ho : o = .cells c T) (ho' : o' = .cells c' T') :
    w'.frozen? ⟨w.heap.size, j, none⟩ = false ∧ w'.frozen? ⟨w.heap.size + 1, j, none⟩ = false := by
  subst ho
  subst ho'
  constructor
  · rw [h.frozen (by simp), World.frozen?_alloc_past _ _ _ (by simp), World.frozen?_alloc_at _ _ _ _ (by simp)]
  · rw [h.frozen (by simp), World.frozen?_alloc_at _ _ _ _ (by simp)]


theorem sd_end {w w1 : World} {bs : List Bd} {s v s' v' : Int} {k k' : Fo} {t : Bool} {a : Option Addr} {c : Nat} {o o' : Obj} (hr : sdR bs s v k = (s', v', k', t)) (hb : Below (w.heap.size + 2) ((w.alloc o).alloc o') w1) (hl : Sl w1 (w.heap.size + 2) w1.heap.size a k') (x y z : Value) :
    SdPost bs s v k w (.returned (.tuple #[.agg #[.int .i64 s', .int .i64 v', .slice a (flen k') c], .bool t])) (((w1.setCell ⟨w.heap.size + 1, 0, none⟩ x).setCell ⟨w.heap.size + 1, 1, none⟩ y).setCell ⟨w.heap.size + 1, 2, none⟩ z) := by
  have h0 : Same (w.heap.size + 2) w1.heap.size w1 w1 := fun _ _ _ => rfl
  have hb' : Below w.heap.size w w1 := (((Below.refl _ _).alloc (Nat.le_refl _) o).alloc (by simp) o').trans (hb.mono (by omega))
  exact ⟨a, c, s', v', k', t, hr, rfl, ((hb'.setCell (by simp) _).setCell (by simp) _).setCell (by simp) _, (hl.same (((h0.setCell (.inl (by simp)) _).setCell (.inl (by simp)) _).setCell (.inl (by simp)) _)).mono (by omega) (by simp)⟩

set_option maxRecDepth 100000 in
set_option maxHeartbeats 2000000 in
theorem iSubstDo_any (bs : List Bd) (A : Option Addr) (C : Nat) (s v : Int) (a : Option Addr) (c : Nat) (k : Fo) (w : World) (hb : BSl w 0 w.heap.size A bs) (hbl : bs.length ≤ 9223372036854775807) (hl : Sl w 0 w.heap.size a k) :
    Calls Tryz.prog 6 #[.slice A bs.length C, .agg #[.int .i64 s, .int .i64 v, .slice a (flen k) c]] w (SdPost bs s v k w) := by
  have hb0 : Below w.heap.size w ((w.alloc (.cells #[.int .i64 s, .int .i64 v, .slice a (flen k) c] 26)).alloc (.cells #[.int .i64 0, .int .i64 0, .slice none 0 0] 26)) := ((Below.refl _ _).alloc (Nat.le_refl _) _).alloc (by simp) _
  have HBS := Lib.hid ((hb.below hb0).mono (Nat.le_refl _) hb0.size)
  have HL0 := Lib.hid ((hl.below hb0).mono (Nat.le_refl _) hb0.size)
  have HB0 : Hid (Below (w.heap.size + 2) ((w.alloc (.cells #[.int .i64 s, .int .i64 v, .slice a (flen k) c] 26)).alloc (.cells #[.int .i64 0, .int .i64 0, .slice none 0 0] 26)) ((w.alloc (.cells #[.int .i64 s, .int .i64 v, .slice a (flen k) c] 26)).alloc (.cells #[.int .i64 0, .int .i64 0, .slice none 0 0] 26))) := Below.refl _ _
  have hsz : w.heap.size + 2 ≤ ((w.alloc (.cells #[.int .i64 s, .int .i64 v, .slice a (flen k) c] 26)).alloc (.cells #[.int .i64 0, .int .i64 0, .slice none 0 0] 26)).heap.size := by simp
  clear hb0 hb hl
  go_enter Tryz.func6, Tryz.ntmps6
  go_wp2_with fail
  with_reducible refine (substOf_any bs A C 16 _ HBS.out hbl (by omega) (by omega)).mono ?_
  rintro e w1 ⟨hb1, hcase⟩
  have hs1 := hb1.size
  have hb1' := HB0.out.trans (hb1.mono hsz)
  obtain ⟨hc0, hc1, hc2, _, _, _⟩ := tb_cellsS hb1'
  have HB1 := Lib.hid hb1'
  have HL1 := Lib.hid ((HL0.out.below hb1).mono (Nat.le_refl _) hs1)
  clear hb1 hb1'
  rcases hcase with ⟨hsok, b, rfl, hbb, hmap⟩ | ⟨hsok, rfl⟩
  · have HM1 := Lib.hid hmap
    have HSOK := Lib.hid hsok
    clear hmap hsok
    go_wp2_with fail
    with_reducible refine (nodeOf_any s v a c k 16 _ HL1.out (by omega) (by omega)).mono ?_
    rintro e w2 ⟨nv, rfl, hb2, hyes⟩
    have hs2 := hb2.size
    have hb2' := HB1.out.trans (hb2.mono (by omega))
    have HB2 := Lib.hid hb2'
    have HM2 := Lib.hid (HM1.out.below hb2)
    have HY := Lib.hid hyes
    clear hb2 hyes hc0 hc1 hc2
    cases hok : okW s v k 16 with
    | false =>
      have HR : Hid (sdR bs s v k = (0, 0, .nil, false)) := by unfold Hid sdR; rw [if_neg (by rw [hok]; simp)]
      clear hok
      have HBE := Lib.hid hb2'
      obtain ⟨hr0, hr1, hr2, hr3, hr4, hr5⟩ := tb_cellsS hb2'
      obtain ⟨hf0, hf3⟩ := tb_freeS hb2' 0 rfl rfl
      obtain ⟨hf1, hf4⟩ := tb_freeS hb2' 1 rfl rfl
      obtain ⟨hf2, hf5⟩ := tb_freeS hb2' 2 rfl rfl
      clear hb2'
      go_wp2_with fail
      refine bodyPost_ret (v := .tuple #[.agg #[.int .i64 0, .int .i64 0, .slice none 0 0], .bool false]) ?_ rfl (sd_end (k' := .nil) HR.out HBE.out (.inl rfl) _ _ _)
      simp [results, Tryz.results6, go_sem, hr3, hr4, hr5]
    | true =>
      obtain ⟨t1, t2, t3⟩ := tsub_ok HSOK.out hok
      have HT1 := Lib.hid t1
      have HT2 := Lib.hid t2
      have HN2 : Hid (NodeIs w2 0 w2.heap.size nv s v k) := (HY.out hok).mono (Nat.zero_le _) (Nat.le_refl _)
      have HOK := Lib.hid hok
      obtain ⟨o1, o2, o3⟩ := (okW_iff _ _ _ _).1 hok
      have HO1 := Lib.hid o1
      have HO2 := Lib.hid o2
      have o4 : fsz k ≤ 1000 := by omega
      clear hok hb2' t1 t2 o1 o2 HY
      go_wp2_with fail
      with_reducible refine (apply_any bs b s v k nv _ HN2.out HM2.out HO1.out HO2.out o4).mono ?_
      have HRD : Hid (∀ s' v' k', tsub (sv bs) s v k = (s', v', k') → (1 + fsz k' ≤ 16 → sdR bs s v k = (s', v', k', true)) ∧ (¬ 1 + fsz k' ≤ 16 → sdR bs s v k = (0, 0, .nil, false))) := fun s' v' k' h => by
        unfold sdR
        rw [h]
        exact ⟨fun h1 => by rw [if_pos ⟨HSOK.out, HOK.out, h1⟩], fun h1 => by rw [if_neg fun h2 => h1 h2.2.2]⟩
      generalize htt : tsub (sv bs) s v k = tt at *
      obtain ⟨s', v', k'⟩ := tt
      dsimp only at HT1 HT2 t3
      have HR0 := Lib.hid (HRD.out s' v' k' rfl)
      clear htt HRD
      rintro e w4 ⟨nv', rfl, hb4, hn'⟩
      have hs4 := hb4.size
      have hb4' := HB2.out.trans (hb4.mono (by omega))
      dsimp only at hn'
      have HB4 := Lib.hid hb4'
      clear hb4 hb4'
      by_cases hbig : 1 + fsz k' ≤ 16
      · have e1 : decide ((16 : Int) < 1 + (fsz k' : Int)) = false := decide_eq_false (by omega)
        have HR := Lib.hid (HR0.out.1 hbig)
        rcases hn' with ⟨rfl, rfl, rfl⟩ | ⟨hs', a5, c5, rfl, hn2⟩
        · clear e1
          go_wp2_with fail
          refine upon_method 97 (by kernel_rfl) (by kernel_rfl) ?_
          go_simp
          with_reducible refine (varSize_any v' _).mono ?_
          rintro e w5 ⟨rfl, rfl⟩
          go_wp2_with fail
          refine upon_method 98 (by kernel_rfl) (by kernel_rfl) ?_
          go_simp
          with_reducible refine (varTerm_any v' _).mono ?_
          rintro e w6 ⟨a6, c6, rfl, hb6, hl6⟩
          have hs6 := hb6.size
          have hb6' := HB4.out.trans (hb6.mono (by omega))
          have HBE := Lib.hid hb6'
          obtain ⟨hr0, hr1, hr2, hr3, hr4, hr5⟩ := tb_cellsS hb6'
          obtain ⟨hf0, hf3⟩ := tb_freeS hb6' 0 rfl rfl
          obtain ⟨hf1, hf4⟩ := tb_freeS hb6' 1 rfl rfl
          obtain ⟨hf2, hf5⟩ := tb_freeS hb6' 2 rfl rfl
          have HL6 := Lib.hid (hl6.mono (lo' := w.heap.size + 2) (by omega) (Nat.le_refl _))
          clear hb6 hl6 hb6'
          go_wp2_with fail
          refine bodyPost_ret (v := .tuple #[.agg #[.int .i64 0, .int .i64 v', .slice a6 (flen .nil) c6], .bool true]) ?_ rfl (sd_end HR.out HBE.out HL6.out _ _ _)
          simp [results, Tryz.results6, go_sem, hr3, hr4, hr5]
        · have hv0 : v' = 0 := ((okN_iff _ _ _).1 HT1.out).2.2 hs'
          subst hv0
          have HNS := Lib.hid hn2
          clear hn2
          go_wp2_with fail
          refine upon_method 113 (by kernel_rfl) (by kernel_rfl) ?_
          go_simp
          with_reducible refine (symSize_any (fsz k') s' a5 c5 k' _ HNS.out (Nat.le_refl _) (by omega)).mono ?_
          rintro e w5 ⟨rfl, hb5⟩
          have hs5 := hb5.size
          have HNS5 := Lib.hid ((HNS.out.below hb5).mono (lo' := 0) (Nat.le_refl _) hs5)
          have HB5 := Lib.hid (HB4.out.trans (hb5.mono (by omega)))
          clear hb5
          go_wp2_with fail
          refine upon_method 114 (by kernel_rfl) (by kernel_rfl) ?_
          go_simp
          with_reducible refine (symTerm_any (fsz k') s' a5 c5 k' _ HNS5.out HT2.out (Nat.le_refl _) (by omega)).mono ?_
          rintro e w6 ⟨a6, c6, rfl, hb6, hl6⟩
          have hs6 := hb6.size
          have hb6' := HB5.out.trans (hb6.mono (by omega))
          have HBE := Lib.hid hb6'
          obtain ⟨hr0, hr1, hr2, hr3, hr4, hr5⟩ := tb_cellsS hb6'
          obtain ⟨hf0, hf3⟩ := tb_freeS hb6' 0 rfl rfl
          obtain ⟨hf1, hf4⟩ := tb_freeS hb6' 1 rfl rfl
          obtain ⟨hf2, hf5⟩ := tb_freeS hb6' 2 rfl rfl
          have HL6 := Lib.hid (hl6.mono (lo' := w.heap.size + 2) (by omega) (Nat.le_refl _))
          clear hb6 hl6 hb6'
          go_wp2_with fail
          refine bodyPost_ret (v := .tuple #[.agg #[.int .i64 s', .int .i64 0, .slice a6 (flen k') c6], .bool true]) ?_ rfl (sd_end HR.out HBE.out HL6.out _ _ _)
          simp [results, Tryz.results6, go_sem, hr3, hr4, hr5]
      · have e1 : decide ((16 : Int) < 1 + (fsz k' : Int)) = true := decide_eq_true (by omega)
        have HR := Lib.hid (HR0.out.2 hbig)
        rcases hn' with ⟨rfl, rfl, rfl⟩ | ⟨hs', a5, c5, rfl, hn2⟩
        · simp [fsz] at hbig
        · have HNS := Lib.hid hn2
          clear hn2
          go_wp2_with fail
          refine upon_method 113 (by kernel_rfl) (by kernel_rfl) ?_
          go_simp
          with_reducible refine (symSize_any (fsz k') s' a5 c5 k' _ HNS.out (Nat.le_refl _) (by omega)).mono ?_
          rintro e w5 ⟨rfl, hb5⟩
          have hs5 := hb5.size
          have hb5' := HB4.out.trans (hb5.mono (by omega))
          have HBE := Lib.hid hb5'
          obtain ⟨hr0, hr1, hr2, hr3, hr4, hr5⟩ := tb_cellsS hb5'
          obtain ⟨hf0, hf3⟩ := tb_freeS hb5' 0 rfl rfl
          obtain ⟨hf1, hf4⟩ := tb_freeS hb5' 1 rfl rfl
          obtain ⟨hf2, hf5⟩ := tb_freeS hb5' 2 rfl rfl
          clear hb5 hb5'
          go_wp2_with fail
          refine bodyPost_ret (v := .tuple #[.agg #[.int .i64 0, .int .i64 0, .slice none 0 0], .bool false]) ?_ rfl (sd_end (k' := .nil) HR.out HBE.out (.inl rfl) _ _ _)
          simp [results, Tryz.results6, go_sem, hr3, hr4, hr5]
  · have HR : Hid (sdR bs s v k = (0, 0, .nil, false)) := by unfold Hid sdR; rw [if_neg (by rw [hsok]; simp)]
    clear hsok
    go_wp2_with fail
    with_reducible refine (nodeOf_any s v a c k 16 _ HL1.out (by omega) (by omega)).mono ?_
    rintro e w2 ⟨nv, rfl, hb2, _⟩
    have hs2 := hb2.size
    have hb2' := HB1.out.trans (hb2.mono (by omega))
    have HBE := Lib.hid hb2'
    obtain ⟨hr0, hr1, hr2, hr3, hr4, hr5⟩ := tb_cellsS hb2'
    obtain ⟨hf0, hf3⟩ := tb_freeS hb2' 0 rfl rfl
    obtain ⟨hf1, hf4⟩ := tb_freeS hb2' 1 rfl rfl
    obtain ⟨hf2, hf5⟩ := tb_freeS hb2' 2 rfl rfl
    clear hb2 hb2' hc0 hc1 hc2
    generalize okW s v k 16 = okk
    cases okk with
    | false =>
      go_wp2_with fail
      refine bodyPost_ret (v := .tuple #[.agg #[.int .i64 0, .int .i64 0, .slice none 0 0], .bool false]) ?_ rfl (sd_end (k' := .nil) HR.out HBE.out (.inl rfl) _ _ _)
      simp [results, Tryz.results6, go_sem, hr3, hr4, hr5]
    | true =>
      go_wp2_with fail
      refine bodyPost_ret (v := .tuple #[.agg #[.int .i64 0, .int .i64 0, .slice none 0 0], .bool false]) ?_ rfl (sd_end (k' := .nil) HR.out HBE.out (.inl rfl) _ _ _)
      simp [results, Tryz.results6, go_sem, hr3, hr4, hr5]
end Go.Proofs.YtiinmlagcbjloaaGreat

/-! LO6: What a substitution makes of a term in memory, as a plain term; the order is closed under it. -/
namespace Go.Proofs.YtiinmlagcbjloaaGreat
open Go.RowKit Go.Deep

def sgOf (σ : Int → Option (Int × Int × Fo)) (v : Int) : Tm := match σ v with
  | some t => tmOf t.1 t.2.1 t.2.2
  | none => .var v

theorem tm1_subst (τ : Int → Tm) {s v : Int} (hs : s ≠ 0) : ∀ ks : List Tm, (tm1 s v ks).subst τ = tm1 s v (ks.map (Tm.subst τ))
  | [] => by simp [tm1, hs, Tm.subst]
  | [t] => by simp [tm1, hs, Tm.subst]
  | t :: u :: r => by simp [tm1, hs, Tm.subst]

theorem ftm_sub (σ : Int → Option (Int × Int × Fo)) : ∀ k : Fo, ftm (fsub σ k) = (ftm k).map (Tm.subst (sgOf σ))
  | .nil => rfl
  | .node x y p k r => by
    simp only [fsub]
    by_cases h0 : p.1 = 0
    · rw [if_pos h0]
      have hl : (tm1 p.1 p.2 (ftm k)).subst (sgOf σ) = sgOf σ p.2 := by simp [tm1, h0, Tm.subst]
      simp only [ftm, List.map_cons]
      rw [hl]
      cases hσ : σ p.2 with
      | none =>
        simp only [ftm, ftm_sub σ r]
        congr 1
        simp [tm1, h0, sgOf, hσ]
      | some t =>
        simp only [ftm, ftm_sub σ r]
        congr 1
        simp only [sgOf, hσ]
        rfl
    · rw [if_neg h0]
      simp only [ftm, List.map_cons, ftm_sub σ k, ftm_sub σ r]
      rw [tm1_subst _ h0]

theorem tm_sub (σ : Int → Option (Int × Int × Fo)) (s v : Int) (k : Fo) : tmOf (tsub σ s v k).1 (tsub σ s v k).2.1 (tsub σ s v k).2.2 = (tmOf s v k).subst (sgOf σ) := by
  unfold tsub
  by_cases h0 : s = 0
  · subst h0
    have hl : (tmOf 0 v k).subst (sgOf σ) = sgOf σ v := by simp [tmOf, tm1, Tm.subst]
    rw [hl, if_pos rfl]
    cases hσ : σ v with
    | none => simp [sgOf, hσ, tmOf, tm1]
    | some t => simp [sgOf, hσ]
  · rw [if_neg h0]
    show tm1 s v (ftm (fsub σ k)) = (tm1 s v (ftm k)).subst (sgOf σ)
    rw [ftm_sub, tm1_subst _ h0]

theorem sdR_ok {bs : List Bd} {s v : Int} {k : Fo} {s1 v1 : Int} {k1 : Fo} (h : sdR bs s v k = (s1, v1, k1, true)) : okW s1 v1 k1 16 = true ∧ tmOf s1 v1 k1 = (tmOf s v k).subst (sgOf (sv bs)) := by
  unfold sdR at h
  split at h
  · rename_i hc
    obtain ⟨hs, ho, hz⟩ := hc
    obtain ⟨o1, o2, _⟩ := tsub_ok hs ho
    have ht := tm_sub (sv bs) s v k
    simp only [Prod.mk.injEq, and_true] at h
    obtain ⟨rfl, rfl, rfl⟩ := h
    exact ⟨(okW_iff _ _ _ _).2 ⟨o1, o2, by omega⟩, ht⟩
  · simp at h

theorem more_sub {xs : List Int} {bs : List Bd} {s v : Int} {k : Fo} {s' v' : Int} {k' : Fo} {s1 v1 : Int} {k1 : Fo} {s2 v2 : Int} {k2 : Fo} (h : moreR xs s v k s' v' k' = true) (h1 : sdR bs s v k = (s1, v1, k1, true)) (h2 : sdR bs s' v' k' = (s2, v2, k2, true)) : moreR xs s1 v1 k1 s2 v2 k2 = true := by
  obtain ⟨hr, _, _, hg⟩ := moreR_iff.1 h
  obtain ⟨o1, e1⟩ := sdR_ok h1
  obtain ⟨o2, e2⟩ := sdR_ok h2
  exact moreR_iff.2 ⟨hr, o1, o2, by rw [e1, e2]; exact hg.subst _⟩
end Go.Proofs.YtiinmlagcbjloaaGreat

/-! LT: laTerm on any two terms. -/
namespace Go.Proofs.YtiinmlagcbjloaaGreat
open Go.RowKit Go.Deep

theorem boxes_LT {w wr : World} {x y z x' y' z' : Value} (h : Below (w.heap.size + 2) ((w.alloc (.cells #[x, y, z] 26)).alloc (.cells #[x', y', z'] 26)) wr) :
    wr.cell? ⟨w.heap.size, 2, none⟩ = some z ∧ wr.cell? ⟨w.heap.size + 1, 2, none⟩ = some z' := by
  refine ⟨?_, ?_⟩
  · rw [h.cell (by simp), World.cell?_alloc_lt _ _ _ (by simp), World.cell?_alloc_at _ _ _ _ (by simp)]; rfl
  · rw [h.cell (by simp), World.cell?_alloc_at _ _ _ _ (by simp)]; rfl

set_option maxRecDepth 100000 in
set_option maxHeartbeats 2000000 in
theorem laTerm_any (N : Nat) : ∀ (s v : Int) (a : Option Addr) (c : Nat) (k : Fo) (s' v' : Int) (a' : Option Addr) (c' : Nat) (k' : Fo) (w : World), Sl w 0 w.heap.size a k → Sl w 0 w.heap.size a' k' → fsz k ≤ N → N ≤ 1000000 →
    Calls Tryz.prog 10 #[.agg #[.int .i64 s, .int .i64 v, .slice a (flen k) c], .agg #[.int .i64 s', .int .i64 v', .slice a' (flen k') c']] w fun e w' => e = .returned (.bool (teq s v k s' v' k')) ∧ Below w.heap.size w w' := by
  induction N using Nat.strongRecOn with
  | _ N ih =>
    intro s v a c k s' v' a' c' k' w hl hl' hN hN2
    have hfl := flen_le_sz k
    have IH := Lib.hid ih
    clear ih
    have hb0 : Below w.heap.size w ((w.alloc (.cells #[.int .i64 s, .int .i64 v, .slice a (flen k) c] 26)).alloc (.cells #[.int .i64 s', .int .i64 v', .slice a' (flen k') c'] 26)) := ((Below.refl _ _).alloc (Nat.le_refl _) _).alloc (by simp) _
    have HB0 := Lib.hid hb0
    clear hb0
    by_cases hs : s = s'
    case neg =>
      have e0 : (s != s') = true := by simp [hs]
      have HF := Lib.hid (teq_sign (v := v) (k := k) (v' := v') (k' := k') hs)
      clear hs
      go_enter Tryz.func10, Tryz.ntmps10
      go_wp2_with fail
      go_ret
      exact ⟨by rw [HF.out]; rfl, HB0.out⟩
    subst hs
    have e0 : (s != s) = false := by simp
    by_cases hv : v = v'
    case neg =>
      have e1 : (v != v') = true := by simp [hv]
      have HF := Lib.hid (teq_var (s := s) (k := k) (s' := s) (k' := k') hv)
      clear hv
      go_enter Tryz.func10, Tryz.ntmps10
      go_wp2_with fail
      go_ret
      exact ⟨by rw [HF.out]; rfl, HB0.out⟩
    subst hv
    have e1 : (v != v) = false := by simp
    by_cases hk : flen k = flen k'
    case neg =>
      have e2 : ((flen k : Int) != (flen k' : Int)) = true := by simp; omega
      have HF := Lib.hid (teq_len (s := s) (v := v) (s' := s) (v' := v) hk)
      clear hk
      go_enter Tryz.func10, Tryz.ntmps10
      go_wp2_with fail
      go_ret
      exact ⟨by rw [HF.out]; rfl, HB0.out⟩
    have e2 : ((flen k : Int) != (flen k' : Int)) = false := by simp [hk]
    have hkl : flen k ≤ flen k' := by omega
    have hkg : flen k' ≤ flen k := by omega
    clear hk
    rw [teq_kids]
    go_enter Tryz.func10, Tryz.ntmps10
    go_wp2_with fail
    go_loopw [5] (fun i wr => ∃ j : Nat, j ≤ flen k ∧ i = .int .i64 j ∧ Hid (feq k k' = feq (fdrop j k) (fdrop j k')) ∧ Below (w.heap.size + 2) ((w.alloc (.cells #[.int .i64 s, .int .i64 v, .slice a (flen k) c] 26)).alloc (.cells #[.int .i64 s, .int .i64 v, .slice a' (flen k') c'] 26)) wr) (fun i _ => flen k - (intOf i).toNat)
    case atStart => exact ⟨0, by omega, rfl, rfl, Below.refl _ _⟩
    case round =>
      obtain ⟨j, hj, rfl, hfe, hbl⟩ := hrel
      have hsr := hbl.size
      simp at hsr
      obtain ⟨hx2, hy2⟩ := boxes_LT hbl
      have hbw := HB0.out.trans (hbl.mono (show w.heap.size ≤ w.heap.size + 2 by omega))
      by_cases hlt : j < flen k
      · rcases hl with rfl | ⟨b, o, rfl, hrow⟩
        · simp [flen] at hlt
        rcases hl' with rfl | ⟨b', o', rfl, hrow'⟩
        · simp [flen] at hkl; omega
        obtain ⟨s1, v1, kk, a1, c1, ⟨x, y, hd⟩, _, hbB, hk0, hk1, hk2, hsl⟩ := row_at (hrow.below hbw) hlt
        obtain ⟨s2, v2, kk2, a2, c2, ⟨x2, y2, hd2⟩, _, hbB', hk3, hk4, hk5, hsl2⟩ := row_at (hrow'.below hbw) (show j < flen k' by omega)
        have hfd := feq_drop hd hd2
        have hkN := fsz_kid hd
        have HS := Lib.hid hsl
        have HS2 := Lib.hid hsl2
        have HBL := Lib.hid hbl
        clear hd hd2 hsl hsl2 hrow hrow' hbl hbw
        have g1 : (0 : Int) ≤ (j : Int) := by omega
        have g2 : (j : Int) < (flen k : Int) := by omega
        have g3 : (j : Int) < (flen k' : Int) := by omega
        have hu0 : ∀ u : After wr.heap.size wr, u.world.cell? ⟨b, o + j * 3, none⟩ = some (.int .i64 s1) := fun u => u.cell (by simp; omega) hk0
        have hu1 : ∀ u : After wr.heap.size wr, u.world.cell? ⟨b, o + j * 3 + 1, none⟩ = some (.int .i64 v1) := fun u => u.cell (by simp; omega) hk1
        have hu2 : ∀ u : After wr.heap.size wr, u.world.cell? ⟨b, o + j * 3 + 2, none⟩ = some (.slice a1 (flen kk) c1) := fun u => u.cell (by simp; omega) hk2
        have hu3 : ∀ u : After wr.heap.size wr, u.world.cell? ⟨b', o' + j * 3, none⟩ = some (.int .i64 s2) := fun u => u.cell (by simp; omega) hk3
        have hu4 : ∀ u : After wr.heap.size wr, u.world.cell? ⟨b', o' + j * 3 + 1, none⟩ = some (.int .i64 v2) := fun u => u.cell (by simp; omega) hk4
        have hu5 : ∀ u : After wr.heap.size wr, u.world.cell? ⟨b', o' + j * 3 + 2, none⟩ = some (.slice a2 (flen kk2) c2) := fun u => u.cell (by simp; omega) hk5
        have hu6 : ∀ u : After wr.heap.size wr, u.world.cell? ⟨w.heap.size, 2, none⟩ = some (.slice (some ⟨b, o, none⟩) (flen k) c) := fun u => u.cell (by simp; omega) hx2
        have hu7 : ∀ u : After wr.heap.size wr, u.world.cell? ⟨w.heap.size + 1, 2, none⟩ = some (.slice (some ⟨b', o', none⟩) (flen k') c') := fun u => u.cell (by simp; omega) hy2
        have HCALL : Hid (∀ u : After wr.heap.size wr, Calls Tryz.prog 10 #[.agg #[.int .i64 s1, .int .i64 v1, .slice a1 (flen kk) c1], .agg #[.int .i64 s2, .int .i64 v2, .slice a2 (flen kk2) c2]] u.world fun e w' => e = .returned (.bool (teq s1 v1 kk s2 v2 kk2)) ∧ Below u.world.heap.size u.world w') := fun u => by
          have hu := u.below
          have hus := hu.size
          refine IH.out (fsz kk) (by omega) s1 v1 a1 c1 kk s2 v2 a2 c2 kk2 u.world ?_ ?_ (Nat.le_refl _) (by omega)
          · exact (HS.out.below (hu.mono (by omega))).mono (Nat.le_refl _) (by omega)
          · exact (HS2.out.below (hu.mono (by omega))).mono (Nat.le_refl _) (by omega)
        cases hte : teq s1 v1 kk s2 v2 kk2 with
        | true =>
          have HFE : Hid (feq k k' = feq (fdrop (j + 1) k) (fdrop (j + 1) k')) := by unfold Hid; rw [hfe.out, hfd, hte, Bool.true_and]
          rw [hte] at HCALL
          clear hfe hfd hte
          go_wp2_with fail
          refine wp_region_after wr.heap.size (by kernel_rfl) (by kernel_rfl) ?_
          repeat (go_big_quiet_step ((go_at_call 10; exact Calls.after (After.below ‹_›).size (HCALL.out _))))
          refine wpQuiet_nil ?_
          rintro u ⟨⟨_, hu⟩, rfl⟩
          clear hu0 hu1 hu2 hu3 hu4 hu5 hu6 hu7 hk0 hk1 hk2 hk3 hk4 hk5 hx2 hy2
          have HB2 := Lib.hid (HBL.out.trans (hu.mono hsr))
          clear hu
          go_wp2_with fail
          go_roundw
          case rel => exact ⟨j + 1, by omega, by go_num, HFE, HB2.out⟩
          case measure => simp [intOf]; omega
        | false =>
          have HFE : Hid (feq k k' = false) := by unfold Hid; rw [hfe.out, hfd, hte, Bool.false_and]
          rw [hte] at HCALL
          clear hfe hfd hte
          go_wp2_with fail
          refine wp_region_after wr.heap.size (by kernel_rfl) (by kernel_rfl) ?_
          repeat (go_big_quiet_step ((go_at_call 10; exact Calls.after (After.below ‹_›).size (HCALL.out _))))
          refine wpQuiet_nil ?_
          rintro u ⟨⟨_, hu⟩, rfl⟩
          clear hu0 hu1 hu2 hu3 hu4 hu5 hu6 hu7 hk0 hk1 hk2 hk3 hk4 hk5 hx2 hy2
          have HB2 := Lib.hid (HB0.out.trans ((HBL.out.trans (hu.mono hsr)).mono (by omega)))
          clear hu
          go_wp2_with fail
          go_ret
          exact ⟨by rw [HFE.out]; rfl, HB2.out⟩
      · have HBW := Lib.hid hbw
        have HFE : Hid (feq k k' = true) := by unfold Hid; rw [hfe.out, fdrop_all (by omega), fdrop_all (by omega)]; rfl
        clear hbw hbl hfe
        go_wp2_with fail
        go_ret
        exact ⟨by rw [HFE.out]; rfl, HBW.out⟩
end Go.Proofs.YtiinmlagcbjloaaGreat

/-! PS: What is put into terms, plain: parts, places, sizes, variables. -/
namespace Go.Proofs.YtiinmlagcbjloaaGreat
open Go.RowKit Go.Deep

theorem fsub_id {σ : Int → Option (Int × Int × Fo)} : ∀ k : Fo, (∀ x ∈ fvl k, σ x = none) → fsub σ k = k
  | .nil, _ => rfl
  | .node x y p k r, h => by
    simp only [fvl, List.mem_append] at h
    have hr := fsub_id r (fun z hz => h z (.inr hz))
    simp only [fsub]
    by_cases e : p.1 = 0
    · have h0 := h p.2 (.inl (by rw [if_pos e]; simp))
      rw [if_pos e, h0, hr]
    · rw [if_neg e, fsub_id k (fun z hz => h z (.inl (by rw [if_neg e]; exact hz))), hr]
theorem tsub_id {σ : Int → Option (Int × Int × Fo)} {s v : Int} {k : Fo} (h : ∀ x ∈ fvs s v k, σ x = none) : tsub σ s v k = (s, v, k) := by
  unfold tsub
  unfold fvs at h
  by_cases e : s = 0
  · rw [if_pos e] at h ⊢
    rw [h v (by simp)]; rfl
  · rw [if_neg e] at h ⊢
    rw [fsub_id k h]
theorem tsub_nil (s v : Int) (k : Fo) : tsub (sv []) s v k = (s, v, k) := tsub_id fun _ _ => rfl

theorem sdR_nil {s v : Int} {k : Fo} (h : okW s v k 16 = true) : sdR [] s v k = (s, v, k, true) := by
  unfold sdR
  rw [tsub_nil, if_pos ⟨rfl, h, by have := ((okW_iff _ _ _ _).1 h).2.2; dsimp only; omega⟩]
theorem sdR_cases {bs : List Bd} {s v : Int} {k : Fo} {s' v' : Int} {k' : Fo} {t : Bool} (h : sdR bs s v k = (s', v', k', t)) :
    (t = false ∧ s' = 0 ∧ v' = 0 ∧ k' = .nil) ∨ (t = true ∧ sok 16 bs = true ∧ okW s v k 16 = true ∧ tsub (sv bs) s v k = (s', v', k') ∧ okW s' v' k' 16 = true) := by
  unfold sdR at h
  split at h
  · rename_i hc
    simp only [Prod.mk.injEq] at h
    obtain ⟨rfl, rfl, rfl, rfl⟩ := h
    have ht := tsub_ok hc.1 hc.2.1
    exact .inr ⟨rfl, hc.1, hc.2.1, rfl, (okW_iff _ _ _ _).2 ⟨ht.1, ht.2.1, by have := hc.2.2; omega⟩⟩
  · simp only [Prod.mk.injEq] at h
    obtain ⟨rfl, rfl, rfl, rfl⟩ := h
    exact .inl ⟨rfl, rfl, rfl, rfl⟩
theorem sdR_sz {bs : List Bd} {s v : Int} {k : Fo} {s' v' : Int} {k' : Fo} {t : Bool} (h : sdR bs s v k = (s', v', k', t)) : fsz k' ≤ 15 := by
  rcases sdR_cases h with ⟨_, _, _, rfl⟩ | ⟨_, _, _, _, ho⟩
  · simp [fsz]
  · have := ((okW_iff _ _ _ _).1 ho).2.2; omega
theorem sdR_of {bs : List Bd} {s v : Int} {k : Fo} {s' v' : Int} {k' : Fo} (h1 : sok 16 bs = true) (h2 : okW s v k 16 = true) (h3 : tsub (sv bs) s v k = (s', v', k')) (h4 : 1 + fsz k' ≤ 16) : sdR bs s v k = (s', v', k', true) := by
  unfold sdR
  rw [h3, if_pos ⟨h1, h2, h4⟩]
theorem sdR_big {bs : List Bd} {s v : Int} {k : Fo} {s' v' : Int} {k' : Fo} (h3 : tsub (sv bs) s v k = (s', v', k')) (h4 : ¬ 1 + fsz k' ≤ 16) : sdR bs s v k = (0, 0, .nil, false) := by
  unfold sdR
  rw [h3, if_neg fun h => h4 h.2.2]

theorem kids_none {v : Int} {k : Fo} (h : okN 0 v (flen k) = true) : k = .nil := by
  have h1 := ((okN_iff _ _ _).1 h).1
  cases k with
  | nil => rfl
  | node _ _ _ _ r => simp [flen, ar] at h1; omega
theorem sign_of_kid {s v : Int} {k : Fo} {n : Nat} (h : okN s v (flen k) = true) (hn : n < flen k) : s ≠ 0 := by
  rintro rfl
  rw [kids_none h] at hn
  simp [flen] at hn

theorem fat_sub (σ : Int → Option (Int × Int × Fo)) : ∀ (p : List Int) (s v : Int) (k : Fo) {s' v' : Int} {k' : Fo}, okN s v (flen k) = true → fok k = true → fat s v k p = some (s', v', k') →
    fat (tsub σ s v k).1 (tsub σ s v k).2.1 (tsub σ s v k).2.2 p = some (tsub σ s' v' k')
  | [], s, v, k, s', v', k', _, _, h => by
    simp only [fat, Option.some.injEq, Prod.mk.injEq] at h
    obtain ⟨rfl, rfl, rfl⟩ := h
    rfl
  | i :: ps, s, v, k, s', v', k', ho, hk, h => by
    rw [fat] at h
    split at h
    · rename_i hi
      obtain ⟨x, y, s1, v1, kk, hd⟩ := fdrop_succ i.toNat k (by omega)
      rw [hd] at h
      dsimp only at h
      have hs := sign_of_kid ho (n := i.toNat) (by omega)
      have hkk := fok_kid hk hd
      have ih := fat_sub σ ps s1 v1 kk hkk.1 hkk.2 h
      rw [tsub, if_neg hs]
      dsimp only
      rw [fat, if_pos (by rw [fsub_len]; exact hi), fsub_at σ i.toNat k hd]
      exact ih
    · cases h

theorem fset_sub (σ : Int → Option (Int × Int × Fo)) : ∀ (k : Fo) (n : Nat) (y : Int × Int × Fo), fsub σ (fset k n y) = fset (fsub σ k) n (tsub σ y.1 y.2.1 y.2.2)
  | .nil, _, _ => rfl
  | .node a b p k r, 0, y => by
    simp only [fset, fsub, tsub]
    by_cases e : y.1 = 0
    · rw [if_pos e, if_pos e]
      by_cases e2 : p.1 = 0
      · rw [if_pos e2]
        cases σ y.2.1 <;> cases σ p.2 <;> simp [fset]
      · rw [if_neg e2]
        cases σ y.2.1 <;> simp [fset]
    · rw [if_neg e, if_neg e]
      by_cases e2 : p.1 = 0
      · rw [if_pos e2]
        cases σ p.2 <;> simp [fset]
      · rw [if_neg e2]; simp [fset]
  | .node a b p k r, n + 1, y => by
    have ih := fset_sub σ r n y
    simp only [fset, fsub]
    by_cases e2 : p.1 = 0
    · rw [if_pos e2, if_pos e2]
      cases σ p.2 <;> simp [fset, ih]
    · rw [if_neg e2, if_neg e2]; simp [fset, ih]

theorem fput_sub (σ : Int → Option (Int × Int × Fo)) : ∀ (p : List Int) (s v : Int) (k : Fo) (y : Int × Int × Fo) {z : Int × Int × Fo}, okN s v (flen k) = true → fok k = true → fput s v k p y = some z →
    fput (tsub σ s v k).1 (tsub σ s v k).2.1 (tsub σ s v k).2.2 p (tsub σ y.1 y.2.1 y.2.2) = some (tsub σ z.1 z.2.1 z.2.2)
  | [], s, v, k, y, z, _, _, h => by
    simp only [fput, Option.some.injEq] at h
    subst h
    rfl
  | i :: ps, s, v, k, y, z, ho, hk, h => by
    obtain ⟨n, b, o, s', v', kk, y', rfl, hn, hd, hy, rfl⟩ := fput_cons h
    have hs := sign_of_kid ho hn
    have hkk := fok_kid hk hd
    have ih := fput_sub σ ps s' v' kk y hkk.1 hkk.2 hy
    have h1 : tsub σ s v k = (s, v, fsub σ k) := by rw [tsub, if_neg hs]
    have h2 : tsub σ s v (fset k n y') = (s, v, fset (fsub σ k) n (tsub σ y'.1 y'.2.1 y'.2.2)) := by rw [tsub, if_neg hs, fset_sub]
    rw [h1, h2]
    exact fput_step (by rw [fsub_len]; exact hn) (fsub_at σ n k hd) ih

theorem fvl_sub (σ : Int → Option (Int × Int × Fo)) (x : Int) : ∀ k : Fo, x ∈ fvl (fsub σ k) ↔ ∃ y ∈ fvl k, x ∈ fvs (tsub σ 0 y .nil).1 (tsub σ 0 y .nil).2.1 (tsub σ 0 y .nil).2.2
  | .nil => by simp [fsub, fvl]
  | .node a b p k r => by
    have ihr := fvl_sub σ x r
    have ihk := fvl_sub σ x k
    simp only [fsub]
    by_cases e : p.1 = 0
    · rw [if_pos e]
      have ht : tsub σ 0 p.2 .nil = (σ p.2).getD (0, p.2, .nil) := by rw [tsub, if_pos rfl]
      have hR : (∃ y ∈ fvl (.node a b p k r), x ∈ fvs (tsub σ 0 y .nil).1 (tsub σ 0 y .nil).2.1 (tsub σ 0 y .nil).2.2) ↔ (x ∈ fvs (tsub σ 0 p.2 .nil).1 (tsub σ 0 p.2 .nil).2.1 (tsub σ 0 p.2 .nil).2.2) ∨ x ∈ fvl (fsub σ r) := by
        rw [ihr]
        simp only [fvl, if_pos e, List.mem_append, List.mem_singleton]
        constructor
        · rintro ⟨y, rfl | hy, h⟩
          · exact .inl h
          · exact .inr ⟨y, hy, h⟩
        · rintro (h | ⟨y, hy, h⟩)
          · exact ⟨_, .inl rfl, h⟩
          · exact ⟨y, .inr hy, h⟩
      rw [hR, ht]
      cases hσ : σ p.2 with
      | none =>
        simp only [Option.getD_none, fvl, if_pos e, List.mem_append, List.mem_singleton, fvs, if_true]
      | some t =>
        simp only [Option.getD_some, fvl, List.mem_append]
        rfl
    · rw [if_neg e]
      simp only [fvl, if_neg e, List.mem_append, ihk, ihr]
      constructor
      · rintro (⟨y, hy, h⟩ | ⟨y, hy, h⟩)
        · exact ⟨y, .inl hy, h⟩
        · exact ⟨y, .inr hy, h⟩
      · rintro ⟨y, hy | hy, h⟩
        · exact .inl ⟨y, hy, h⟩
        · exact .inr ⟨y, hy, h⟩
theorem fvs_sub (σ : Int → Option (Int × Int × Fo)) (x s v : Int) (k : Fo) (hk : s = 0 → k = .nil) : x ∈ fvs (tsub σ s v k).1 (tsub σ s v k).2.1 (tsub σ s v k).2.2 ↔ ∃ y ∈ fvs s v k, x ∈ fvs (tsub σ 0 y .nil).1 (tsub σ 0 y .nil).2.1 (tsub σ 0 y .nil).2.2 := by
  by_cases e : s = 0
  · subst e
    obtain rfl := hk rfl
    simp [fvs]
  · have h1 : tsub σ s v k = (s, v, fsub σ k) := by rw [tsub, if_neg e]
    rw [h1]
    simp only [fvs, if_neg e]
    exact fvl_sub σ x k

/-- How many signs come of what stands at a place. -/
def pcnt (σ : Int → Option (Int × Int × Fo)) : Option (Int × Int × Fo) → Nat
  | some (s, v, _) => if s = 0 then 1 + fsz (tsub σ 0 v .nil).2.2 else 1
  | none => 0
theorem fpl_sum (σ : Int → Option (Int × Int × Fo)) (s v : Int) (K : Fo) : ∀ (r : Fo) (i : Nat), fdrop i K = r → fok r = true → ((fpl r i).map fun p => pcnt σ (fat s v K p)).sum = fsz (fsub σ r)
  | .nil, _, _, _ => by simp [fpl, fsub, fsz]
  | .node a b (s', v') kk r, i, hd, hk => by
    have hi : i < flen K := by
      have := flen_drop i K
      rw [hd] at this
      simp [flen] at this
      omega
    have hr : fdrop (i + 1) K = r := by
      obtain ⟨_, _, _, _, _, e⟩ := fdrop_succ i K hi
      rw [hd] at e
      simp only [BT.node.injEq] at e
      exact e.2.2.2.2.symm
    simp only [fok, Bool.and_eq_true] at hk
    have ihr := fpl_sum σ s v K r (i + 1) hr hk.2
    have ihk := fpl_sum σ s' v' kk kk 0 rfl hk.1.2
    have hst : ∀ q, fat s v K ((i : Int) :: q) = fat s' v' kk q := fun q => fat_step hi hd
    simp only [fpl, List.map_append, List.map_map, List.sum_append, ihr, List.map_cons, List.sum_cons, Function.comp_def, hst, ihk]
    simp only [fat, pcnt, fsub]
    by_cases e : s' = 0
    · subst e
      have hn : kk = .nil := kids_none hk.1.1
      subst hn
      simp only [if_true]
      have ht : tsub σ 0 v' .nil = (σ v').getD (0, v', .nil) := by rw [tsub, if_pos rfl]
      rw [ht]
      cases σ v' with
      | none => simp [fsz, fsub]; omega
      | some t => simp [fsz, fsub]; omega
    · rw [if_neg e, if_neg e]
      simp only [fsz]
      omega
theorem places_sum (σ : Int → Option (Int × Int × Fo)) {s v : Int} {k : Fo} (ho : okN s v (flen k) = true) (hk : fok k = true) : ((places k).map fun p => pcnt σ (fat s v k p)).sum = 1 + fsz (tsub σ s v k).2.2 := by
  have h := fpl_sum σ s v k k 0 rfl hk
  simp only [places, List.map_cons, List.sum_cons]
  rw [h]
  simp only [fat, pcnt]
  by_cases e : s = 0
  · subst e
    obtain rfl := kids_none ho
    simp [fsub, fsz]
  · rw [if_neg e, tsub, if_neg e]
end Go.Proofs.YtiinmlagcbjloaaGreat

/-! FrameO: What every row's closing text needs. -/
namespace Go.Proofs.YtiinmlagcbjloaaGreat
theorem Tryz.own : ownKnob Tryz.prog.godebug = none := by kernel_rfl
theorem Tryz.laidOut : laidOutB Tryz.prog = true := by kernel_rfl
end Go.Proofs.YtiinmlagcbjloaaGreat

/-! Frame: A slice of bytes that came in, as the walks take it. -/
namespace Go.Proofs.YtiinmlagcbjloaaGreat
open Go.ChangeShapes Go.WideShapes Go.ChangeAt Go.RowKit

/-- A slice of bytes: it is nil; or it leads to a row of cap cells. -/
def IsRow (w : World) (a : Option Addr) (len cap : Nat) (zs : List Int) : Prop :=
  (a = none ∧ len = 0 ∧ cap = 0 ∧ zs = []) ∨
  ∃ x, a = some x ∧ len ≤ cap ∧ cap ≤ maxLen ∧ zs.length = cap ∧ (∀ i, i < zs.length → w.cell? (x.add i) = some (.int .u8 (zs.getD i 0))) ∧ ∀ n ∈ zs, (Lit.int .u8 n).wf = true

theorem bytes_of_row {w : World} {a : Option Addr} {len cap : Nat} {zs : List Int} (h : IsRow w a len cap zs) : Bytes w a len ∧ len ≤ cap := by
  rcases h with ⟨_, h1, h2, _⟩ | ⟨x, rfl, h1, _, h2, h3, h4⟩
  · exact ⟨.inl h1, by omega⟩
  · refine ⟨?_, h1⟩
    by_cases hl : len = 0
    · exact .inl hl
    · obtain ⟨b, o, spot⟩ := x
      have c0 := h3 0 (by omega)
      have hs : spot = none := by simpa [Addr.add] using World.cell?_spot c0
      subst hs
      have ha : ∀ n, (⟨b, o, none⟩ : Addr).add n = ⟨b, o + n, none⟩ := fun n => by unfold Addr.add; split <;> simp_all
      rw [ha] at c0
      refine .inr ⟨b, o, rfl, World.block_lt_of_cell? _ _ c0, fun i hi => ?_⟩
      have ci := h3 i (by omega)
      rw [ha] at ci
      have hm : zs.getD i 0 ∈ zs := by
        rw [List.getD_eq_getElem?_getD, List.getElem?_eq_getElem (by omega)]
        exact List.getElem_mem _
      have hb := bounds_u8 (h4 _ hm)
      obtain ⟨n, hn⟩ := Int.eq_ofNat_of_zero_le hb.1
      exact ⟨n, by omega, by rw [ci, hn]⟩

/-- Out of the reading of an argument. -/
theorem row_of_trod {H : Type} {enc : TypeId × Value → H} {W : World} {a : Option Addr} {len cap : Nat} {d : DataW H} {p : List MemPlace} (h : DataW.Trod enc Tryz.prog W 0 (fun _ => true) true 22 (.slice a len cap) d p) : ∃ zs, IsRow W a len cap zs := by
  obtain ⟨fuel, hf⟩ := h
  rcases open_ints Tryz.underlying22 Tryz.underlying5 (by kernel_rfl) hf with ⟨hcs, _⟩ | ⟨x, l, c, zs, hcs, _, hl, hm, hz, _, hcell, hwz⟩
  · simp [Value.cells] at hcs
    obtain ⟨rfl, rfl, rfl⟩ := hcs
    exact ⟨[], .inl ⟨rfl, rfl, rfl, rfl⟩⟩
  · simp [Value.cells] at hcs
    obtain ⟨rfl, rfl, rfl⟩ := hcs
    exact ⟨zs, .inr ⟨_, rfl, hl, hm, by simpa using hz, hcell, hwz⟩⟩

end Go.Proofs.YtiinmlagcbjloaaGreat
