/- Several texts in one: MOt, XMa. -/
import Derived.Test.YtlaaihnokoeliabKPla17
import Derived.Test.YtlaaihnokoeliabKPla24
import Derived.Test.YtlaaihnokoeliabKPla23
import Derived.Test.YtlaaihnokoeliabKPla11

/-! MOt: MatchOf of the program: its answer owns its memory. -/
namespace Go.Proofs.Ytlaaihnokoeliab
open Go.RowKit Go.Deep Go.Maps

def MaPostT (s v : Int) (k : Fo) (s' v' : Int) (k' : Fo) (w : World) (e : Ending) (w' : World) : Prop :=
  ∃ A C bs t, maR s v k s' v' k' = (bs, t) ∧ e = .returned (.tuple #[.slice A (List.length bs) C, .bool t]) ∧ Below w.heap.size w w' ∧ BX w' w.heap.size w'.heap.size bs A
theorem ma_noneT {s v : Int} {k : Fo} {s' v' : Int} {k' : Fo} {w w' : World} {A : Option Addr} {C : Nat} (h : maR s v k s' v' k' = ([], false)) (hb : Below w.heap.size w w') : MaPostT s v k s' v' k' w (.returned (.tuple #[.slice A 0 C, .bool false])) w' :=
  ⟨A, C, [], false, h, rfl, hb, .inl rfl⟩

set_option maxRecDepth 100000 in
set_option maxHeartbeats 2000000 in
theorem iMatchOfT_any (s v : Int) (a : Option Addr) (c : Nat) (k : Fo) (s' v' : Int) (a' : Option Addr) (c' : Nat) (k' : Fo) (w : World) (hl : Sl w 0 w.heap.size a k) (hl' : Sl w 0 w.heap.size a' k') :
    Calls Try.prog 16 #[.agg #[.int .i64 s, .int .i64 v, .slice a (flen k) c], .agg #[.int .i64 s', .int .i64 v', .slice a' (flen k') c']] w (MaPostT s v k s' v' k' w) := by
  have hb0 : Below w.heap.size w ((w.alloc (.cells #[.int .i64 s, .int .i64 v, .slice a (flen k) c] 25)).alloc (.cells #[.int .i64 s', .int .i64 v', .slice a' (flen k') c'] 25)) := ((Below.refl _ _).alloc (Nat.le_refl _) _).alloc (by simp) _
  have HL0 := Lib.hid (hl.next hb0)
  have HL0' := Lib.hid (hl'.next hb0)
  have HW0 := Lib.hid hb0
  have HB0 : Hid (Below (w.heap.size + 2) ((w.alloc (.cells #[.int .i64 s, .int .i64 v, .slice a (flen k) c] 25)).alloc (.cells #[.int .i64 s', .int .i64 v', .slice a' (flen k') c'] 25)) ((w.alloc (.cells #[.int .i64 s, .int .i64 v, .slice a (flen k) c] 25)).alloc (.cells #[.int .i64 s', .int .i64 v', .slice a' (flen k') c'] 25))) := Below.refl _ _
  have hsz : w.heap.size + 2 ≤ ((w.alloc (.cells #[.int .i64 s, .int .i64 v, .slice a (flen k) c] 25)).alloc (.cells #[.int .i64 s', .int .i64 v', .slice a' (flen k') c'] 25)).heap.size := by simp
  have hmm := @run_makeMap Try.prog
  clear hb0 hl hl'
  go_enter Try.func16, Try.ntmps16
  go_wp2_with fail
  with_reducible refine (nodeOf_any s v a c k 16 _ HL0.out (by omega) (by omega)).mono ?_
  rintro e w1 ⟨nv, rfl, hb1, hyes1⟩
  have hb1' := HB0.out.trans (hb1.mono hsz)
  obtain ⟨_, _, _, hr3, hr4, hr5⟩ := two_boxesM hb1'
  have HW1 := Lib.hid (below_next HW0.out hb1)
  have HL1' := Lib.hid (HL0'.out.next hb1)
  have HY1 := Lib.hid hyes1
  clear hb1 hb1' hyes1 HB0 hsz HL0 HL0' HW0
  go_wp2_with fail
  with_reducible refine (nodeOf_any s' v' a' c' k' 16 _ HL1'.out (by omega) (by omega)).mono ?_
  rintro e w2 ⟨nv', rfl, hb2, hyes2⟩
  have HW2 := Lib.hid (below_next HW1.out hb2)
  have HB2 := Lib.hid hb2
  have HY2 := Lib.hid hyes2
  clear hb2 hyes2 hr3 hr4 hr5
  by_cases hok : okW s v k 16 = true
  case neg =>
    have hf : okW s v k 16 = false := by simpa using hok
    have HP : Hid (MaPostT s v k s' v' k' w (.returned (.tuple #[.slice none 0 0, .bool false])) w2) := ma_noneT (maR_bad fun h => hok h.1) HW2.out
    rw [hf]
    clear hok hf
    generalize okW s' v' k' 16 = okk
    cases okk with
    | true =>
      go_wp2_with fail
      refine bodyPost_ret (v := .tuple #[.slice none 0 0, .bool false]) ?_ rfl HP.out
      simp [results, Try.results16, go_sem]
    | false =>
      go_wp2_with fail
      refine bodyPost_ret (v := .tuple #[.slice none 0 0, .bool false]) ?_ rfl HP.out
      simp [results, Try.results16, go_sem]
  by_cases hok' : okW s' v' k' 16 = true
  case neg =>
    have hf : okW s' v' k' 16 = false := by simpa using hok'
    have HP : Hid (MaPostT s v k s' v' k' w (.returned (.tuple #[.slice none 0 0, .bool false])) w2) := ma_noneT (maR_bad fun h => hok' h.2) HW2.out
    rw [hf, hok]
    clear hok hf hok'
    go_wp2_with fail
    refine bodyPost_ret (v := .tuple #[.slice none 0 0, .bool false]) ?_ rfl HP.out
    simp [results, Try.results16, go_sem]
  obtain ⟨o1, o2, o3⟩ := (okW_iff _ _ _ _).1 hok
  obtain ⟨p1, p2, p3⟩ := (okW_iff _ _ _ _).1 hok'
  have hbm : Below w2.heap.size w2 (w2.alloc (.map #[] 0)) := (Below.refl _ _).alloc (Nat.le_refl _) _
  have HN1 : Hid (Nj (w2.alloc (.map #[] 0)) nv s v k) := by
    have h1 := (HY1.out hok).mono (lo' := 0) (Nat.zero_le _) (Nat.le_refl _)
    have h2 := (h1.below HB2.out).mono (lo' := 0) (Nat.le_refl _) HB2.out.size
    exact ⟨(h2.below hbm).mono (Nat.le_refl _) hbm.size, o1, o2, by omega⟩
  have HN2 : Hid (Nj (w2.alloc (.map #[] 0)) nv' s' v' k') := by
    have h2 := (HY2.out hok').mono (lo' := 0) (Nat.zero_le _) (Nat.le_refl _)
    exact ⟨(h2.below hbm).mono (Nat.le_refl _) hbm.size, p1, p2, by omega⟩
  have HMS := Lib.hid (MapIs.start w2)
  have HOK := Lib.hid hok
  have HOK' := Lib.hid hok'
  have HO1 := Lib.hid p1
  have HO2 := Lib.hid p2
  have HWM := Lib.hid (below_next HW2.out hbm)
  have hws := HW2.out.size
  have HCM := Lib.hid (match_any (base := w2.heap.size) (b := w2.heap.size) (Nat.le_refl _) 1000 HMS.out (Bof.nil _) (by simp) HN1.out HN2.out (by simp; omega) (by omega))
  rw [hok, hok']
  clear hok hok' o1 o2 p1 p2 hbm HY1 HY2
  go_wp2_with fail
  with_reducible refine HCM.out.mono ?_
  rintro e w3 ⟨hkp, hcase⟩
  have HW3 := Lib.hid (HWM.out.trans (hkp.low.mono hws))
  clear hkp HN1 HN2 HMS HCM
  rcases hcase with ⟨bs, ht, rfl, hm3⟩ | ⟨ht, rfl⟩
  · have HR := Lib.hid (maR_of HOK.out HOK'.out ht)
    obtain ⟨i1, i2, i3, i4, i5⟩ := maR_in HR.out
    have HFIT := Lib.hid (fits_of i1 i2)
    have HC := Lib.hid (bindsT_any bs w2.heap.size 16 w3 hm3 i1 i4 (i2.mono (by omega)))
    clear ht hm3 i1 i2 i3 i4 i5
    go_wp2_with fail
    with_reducible refine HC.out.mono ?_
    rintro e w4 ⟨hb4, hc4⟩
    rcases hc4 with ⟨_, A, C, rfl, ho⟩ | ⟨hno, _⟩
    · have HP : Hid (MaPostT s v k s' v' k' w (.returned (.tuple #[.slice A bs.length C, .bool true])) w4) := ⟨A, C, bs, true, HR.out, rfl, below_next HW3.out hb4, ho.mono (by have := HW3.out.size; omega) (Nat.le_refl _)⟩
      clear hb4 ho
      go_wp2_with fail
      refine bodyPost_ret (v := .tuple #[.slice A bs.length C, .bool true]) ?_ rfl HP.out
      simp [results, Try.results16, go_sem]
    · rw [HFIT.out] at hno; cases hno
  · have HP : Hid (MaPostT s v k s' v' k' w (.returned (.tuple #[.slice none 0 0, .bool false])) w3) := ma_noneT (maR_no ht) HW3.out
    clear ht
    go_wp2_with fail
    refine bodyPost_ret (v := .tuple #[.slice none 0 0, .bool false]) ?_ rfl HP.out
    simp [results, Try.results16, go_sem]

end Go.Proofs.Ytlaaihnokoeliab

/-! XMa: For any two terms, laws.FnExactMatchOf answers true and writes nothing that was there. -/
namespace Go.Proofs.Ytlaaihnokoeliab
open Go.RowKit Go.Deep

theorem two_boxesX {w wr : World} {x y z x' y' z' : Value} {T T' : TypeId} (h : Below (w.heap.size + 2) ((w.alloc (.cells #[x, y, z] T)).alloc (.cells #[x', y', z'] T')) wr) :
    wr.cell? ⟨w.heap.size, 0, none⟩ = some x ∧ wr.cell? ⟨w.heap.size, 1, none⟩ = some y ∧ wr.cell? ⟨w.heap.size, 2, none⟩ = some z ∧ wr.cell? ⟨w.heap.size + 1, 0, none⟩ = some x' ∧ wr.cell? ⟨w.heap.size + 1, 1, none⟩ = some y' ∧ wr.cell? ⟨w.heap.size + 1, 2, none⟩ = some z' := by
  refine ⟨?_, ?_, ?_, ?_, ?_, ?_⟩
  · rw [h.cell (by simp), World.cell?_alloc_lt _ _ _ (by simp), World.cell?_alloc_at _ _ _ _ (by simp)]; rfl
  · rw [h.cell (by simp), World.cell?_alloc_lt _ _ _ (by simp), World.cell?_alloc_at _ _ _ _ (by simp)]; rfl
  · rw [h.cell (by simp), World.cell?_alloc_lt _ _ _ (by simp), World.cell?_alloc_at _ _ _ _ (by simp)]; rfl
  · rw [h.cell (by simp), World.cell?_alloc_at _ _ _ _ (by simp)]; rfl
  · rw [h.cell (by simp), World.cell?_alloc_at _ _ _ _ (by simp)]; rfl
  · rw [h.cell (by simp), World.cell?_alloc_at _ _ _ _ (by simp)]; rfl

theorem toTermT_anyM {s v : Int} {a : Option Addr} {c : Nat} {k : Fo} {w : World} (hl : Sl w 0 w.heap.size a k) (hN : fsz k ≤ 1048576) :
    Calls Try.prog 25 #[.agg #[.int .i64 s, .int .i64 v, .slice a (flen k) c]] w (ToPostT s v k w) :=
  toTerm_ofT s v a c k w fun w1 hb1 => toTermS_anyT (fsz k) a c k w1 ((hl.below hb1).mono (Nat.le_refl _) hb1.size) (Nat.le_refl _) hN
theorem ma_tiny {s v : Int} {k : Fo} {s' v' : Int} {k' : Fo} {bs : List Bd} {t : Bool} (h : maR s v k s' v' k' = (bs, t)) : bs.length ≤ 16 ∧ (∀ x ∈ bs, fsz x.2.2.2 ≤ 15) ∧ mcn bs ≤ 600 := by
  have hi := maR_in h
  have h2 : ∀ x ∈ bs, fsz x.2.2.2 ≤ 15 := fun x hx => (hi.2.1 x.1 x.2 (sv_mem hi.1 hx)).2.2
  have h3 := mcn_small (bs := bs) (by have := hi.2.2.1; omega) h2
  exact ⟨hi.2.2.1, h2, by have := hi.2.2.1; omega⟩

set_option maxRecDepth 100000 in
set_option maxHeartbeats 4000000 in
theorem exactMatch_walk (s v : Int) (a : Option Addr) (c : Nat) (k : Fo) (s2 v2 : Int) (a2 : Option Addr) (c2 : Nat) (k2 : Fo) (w : World) (hl : Sl w 0 w.heap.size a k) (hc : fcap k) (hm : flen k ≤ maxLen) (hl2 : Sl w 0 w.heap.size a2 k2) (hc2 : fcap k2) (hm2 : flen k2 ≤ maxLen) :
    Calls Try.prog 7 #[.agg #[.int .i64 s, .int .i64 v, .slice a (flen k) c], .agg #[.int .i64 s2, .int .i64 v2, .slice a2 (flen k2) c2]] w fun e w' => e = .returned (.bool true) ∧ Below w.heap.size w w' := by
  have hb0 : Below w.heap.size w ((w.alloc (.cells #[.int .i64 s, .int .i64 v, .slice a (flen k) c] 48)).alloc (.cells #[.int .i64 s2, .int .i64 v2, .slice a2 (flen k2) c2] 48)) := ((Below.refl _ _).alloc (Nat.le_refl _) _).alloc (by simp) _
  have hz0 : ((w.alloc (.cells #[.int .i64 s, .int .i64 v, .slice a (flen k) c] 48)).alloc (.cells #[.int .i64 s2, .int .i64 v2, .slice a2 (flen k2) c2] 48)).heap.size = w.heap.size + 2 := by simp
  obtain ⟨p0, p1, p2, p3, p4, p5⟩ := two_boxesX (Below.refl (w.heap.size + 2) ((w.alloc (.cells #[.int .i64 s, .int .i64 v, .slice a (flen k) c] 48)).alloc (.cells #[.int .i64 s2, .int .i64 v2, .slice a2 (flen k2) c2] 48)))
  have Hp : Hid (Tq (w.heap.size + 2) w.heap.size s v a c k ((w.alloc (.cells #[.int .i64 s, .int .i64 v, .slice a (flen k) c] 48)).alloc (.cells #[.int .i64 s2, .int .i64 v2, .slice a2 (flen k2) c2] 48))) := ⟨p0, p1, p2, by omega, (hl.below hb0).mono (Nat.le_refl _) (by omega), by omega⟩
  have Hq : Hid (Tq (w.heap.size + 2) (w.heap.size + 1) s2 v2 a2 c2 k2 ((w.alloc (.cells #[.int .i64 s, .int .i64 v, .slice a (flen k) c] 48)).alloc (.cells #[.int .i64 s2, .int .i64 v2, .slice a2 (flen k2) c2] 48))) := ⟨p3, p4, p5, by omega, (hl2.below hb0).mono (Nat.le_refl _) (by omega), by omega⟩
  have Hlow : Hid (Below w.heap.size w ((w.alloc (.cells #[.int .i64 s, .int .i64 v, .slice a (flen k) c] 48)).alloc (.cells #[.int .i64 s2, .int .i64 v2, .slice a2 (flen k2) c2] 48))) := hb0
  have HC := Lib.hid hc
  have HM := Lib.hid hm
  have HC2 := Lib.hid hc2
  have HM2 := Lib.hid hm2
  clear hl hc hm hl2 hc2 hm2 hb0 hz0 p0 p1 p2 p3 p4 p5
  go_enter Try.func7, Try.ntmps7
  have qp0 := Hp.out.c0
  have qp1 := Hp.out.c1
  have qp2 := Hp.out.c2
  go_wp2_with fail
  with_reducible refine (szTerm_any Hp.out.top HC.out HM.out (by omega) (by omega)).mono ?_
  rintro e w1 ⟨rfl, hb⟩
  clear qp0 qp1 qp2
  have Hlow' : Hid (Below w.heap.size w w1) := low_next Hlow.out hb
  have Hp' : Hid (Tq (w.heap.size + 2) w.heap.size s v a c k w1) := Hp.out.next hb
  have Hq' : Hid (Tq (w.heap.size + 2) (w.heap.size + 1) s2 v2 a2 c2 k2 w1) := Hq.out.next hb
  clear Hlow Hp Hq
  have Hlow := Hlow'
  clear Hlow'
  have Hp := Hp'
  clear Hp'
  have Hq := Hq'
  clear Hq'
  clear hb
  rcases szR_case k 1048576 with hz | hz
  · rw [hz]
    clear hz
    go_wp2_with fail
    go_ret
    exact ⟨rfl, Hlow.out⟩
  have hN := szR_fit hz
  have hzl : szR k 1048576 ≤ 1048576 := by unfold szR; split <;> omega
  generalize szR k 1048576 = z at *
  have qq0 := Hq.out.c0
  have qq1 := Hq.out.c1
  have qq2 := Hq.out.c2
  go_wp2_with fail
  with_reducible refine (szTerm_any Hq.out.top HC2.out HM2.out hz hzl).mono ?_
  rintro e w2 ⟨rfl, hb⟩
  clear qq0 qq1 qq2
  have Hlow' : Hid (Below w.heap.size w w2) := low_next Hlow.out hb
  have Hp' : Hid (Tq (w.heap.size + 2) w.heap.size s v a c k w2) := Hp.out.next hb
  have Hq' : Hid (Tq (w.heap.size + 2) (w.heap.size + 1) s2 v2 a2 c2 k2 w2) := Hq.out.next hb
  clear Hlow Hp Hq
  have Hlow := Hlow'
  clear Hlow'
  have Hp := Hp'
  clear Hp'
  have Hq := Hq'
  clear Hq'
  clear hb
  rcases szR_case k2 z with hz2 | hz2
  · rw [hz2]
    clear hz2
    go_wp2_with fail
    go_ret
    exact ⟨rfl, Hlow.out⟩
  have hN2 : fsz k2 ≤ 1048576 := by have h9 := hz2; unfold szR at h9; split at h9 <;> omega
  generalize szR k2 z = z2 at *
  clear hzl
  have hu0 : ∀ u : After w2.heap.size w2, u.world.cell? ⟨w.heap.size, 0, none⟩ = some (.int .i64 s) := fun u => cell_low u.below Hp.out.c0
  have hu1 : ∀ u : After w2.heap.size w2, u.world.cell? ⟨w.heap.size, 1, none⟩ = some (.int .i64 v) := fun u => cell_low u.below Hp.out.c1
  have hu2 : ∀ u : After w2.heap.size w2, u.world.cell? ⟨w.heap.size, 2, none⟩ = some (.slice a (flen k) c) := fun u => cell_low u.below Hp.out.c2
  have hu3 : ∀ u : After w2.heap.size w2, u.world.cell? ⟨w.heap.size + 1, 0, none⟩ = some (.int .i64 s2) := fun u => cell_low u.below Hq.out.c0
  have hu4 : ∀ u : After w2.heap.size w2, u.world.cell? ⟨w.heap.size + 1, 1, none⟩ = some (.int .i64 v2) := fun u => cell_low u.below Hq.out.c1
  have hu5 : ∀ u : After w2.heap.size w2, u.world.cell? ⟨w.heap.size + 1, 2, none⟩ = some (.slice a2 (flen k2) c2) := fun u => cell_low u.below Hq.out.c2
  go_wp2_with fail
  refine wp_region_mix (fun w' => ∃ u : After w2.heap.size w2, w' = u.world) [] [(0, 0), (2, 0), (1, 1), (3, 1), (4, 1), (5, 0), (6, 0), (7, 0), (8, 1), (9, 1)] (by kernel_rfl) (by kernel_rfl) ⟨⟨_, (Below.refl _ _).drew⟩, rfl⟩ ?_
  have HBD : Hid (Below w2.heap.size w2 w2.drew) := (Below.refl _ _).drew
  generalize w2.drew = wd at *
  refine mix_see rfl (fun K hK => ?_)
  go_simp
  refine hK _ ?_
  clear hK K
  refine mix_see rfl (fun K hK => ?_)
  go_simp
  refine hK _ ?_
  clear hK K
  refine mix_hold rfl (fun K hK => ?_)
  go_simp
  with_reducible refine (toTerm_any (Hp.out.next HBD.out).top hN).mono ?_
  rintro e w3 ⟨a5, c5, rfl, hb, hl5⟩
  have HT5 := Lib.hid (hl5.mono (lo' := 0) (Nat.zero_le _) (Nat.le_refl _))
  clear hl5
  replace HBD := Lib.hid (low_next HBD.out hb)
  refine hK _ _ ⟨⟨_, HBD.out⟩, rfl⟩ ?_
  clear hK K hb
  refine mix_hold rfl (fun K hK => ?_)
  go_simp
  with_reducible refine (toTerm_any (Hq.out.next HBD.out).top hN2).mono ?_
  rintro e w4 ⟨a6, c6, rfl, hb, hl6⟩
  have HT6 := Lib.hid (hl6.mono (lo' := 0) (Nat.zero_le _) (Nat.le_refl _))
  replace HT5 := Lib.hid ((HT5.out.below hb).mono (Nat.le_refl _) hb.size)
  clear hl6
  replace HBD := Lib.hid (low_next HBD.out hb)
  refine hK _ _ ⟨⟨_, HBD.out⟩, rfl⟩ ?_
  clear hK K hb
  refine mix_hold rfl (fun K hK => ?_)
  go_simp
  with_reducible refine (sMatchOf_any s v a5 c5 k s2 v2 a6 c6 k2 _ HT5.out HT6.out).mono ?_
  rintro e w5 ⟨Aw, Cw, bw, tw, hdw, rfl, hb, hsw⟩
  have HDw := Lib.hid hdw
  have Hsw := Lib.hid hsw
  clear hdw hsw HT5 HT6
  replace HBD := Lib.hid (low_next HBD.out hb)
  refine hK _ _ ⟨⟨_, HBD.out⟩, rfl⟩ ?_
  clear hK K hb
  refine mix_see rfl (fun K hK => ?_)
  go_simp
  refine hK _ ?_
  clear hK K
  refine mix_see rfl (fun K hK => ?_)
  go_simp
  refine hK _ ?_
  clear hK K
  refine mix_see rfl (fun K hK => ?_)
  go_simp
  refine hK _ ?_
  clear hK K
  refine mix_hold rfl (fun K hK => ?_)
  go_simp
  refine hK _ _ ⟨⟨_, HBD.out⟩, rfl⟩ ?_
  clear hK K
  refine mix_hold rfl (fun K hK => ?_)
  go_simp
  refine hK _ _ ⟨⟨_, HBD.out⟩, rfl⟩ ?_
  clear hK K
  refine mix_end ?_
  clear hu0 hu1 hu2 hu3 hu4 hu5
  have Hlow' : Hid (Below w.heap.size w w5) := low_next Hlow.out HBD.out
  have Hp' : Hid (Tq (w.heap.size + 2) w.heap.size s v a c k w5) := Hp.out.next HBD.out
  have Hq' : Hid (Tq (w.heap.size + 2) (w.heap.size + 1) s2 v2 a2 c2 k2 w5) := Hq.out.next HBD.out
  clear Hlow Hp Hq
  have Hlow := Hlow'
  clear Hlow'
  have Hp := Hp'
  clear Hp'
  have Hq := Hq'
  clear Hq'
  clear HBD
  clear hz hz2
  have hn1 := Hp.out.le
  have Hw : Hid (Rw w5.heap.size bw Aw w5) := ⟨Hsw.out, Nat.le_refl _⟩
  clear Hsw
  have HTY := Lib.hid (ma_tiny HDw.out)
  have qp0 := Hp.out.c0
  have qp1 := Hp.out.c1
  have qp2 := Hp.out.c2
  go_wp2_with fail
  with_reducible refine (toTermT_anyM Hp.out.top hN).mono ?_
  rintro e w6 ⟨ax, cx, rfl, hb, hlx⟩
  clear qp0 qp1 qp2
  have hs6 := hb.size
  have Hlow' : Hid (Below w.heap.size w w6) := low_next Hlow.out hb
  have Hp' : Hid (Tq (w.heap.size + 2) w.heap.size s v a c k w6) := Hp.out.next hb
  have Hq' : Hid (Tq (w.heap.size + 2) (w.heap.size + 1) s2 v2 a2 c2 k2 w6) := Hq.out.next hb
  have Hw' : Hid (Rw w5.heap.size bw Aw w6) := Hw.out.next hb
  clear Hlow Hp Hq Hw
  have Hlow := Hlow'
  clear Hlow'
  have Hp := Hp'
  clear Hp'
  have Hq := Hq'
  clear Hq'
  have Hw := Hw'
  clear Hw'
  clear hb
  have Hxn : Hid (Xb w5.heap.size w6.heap.size w6.heap.size s v ax cx k (w6.alloc (.cells #[.int .i64 s, .int .i64 v, .slice ax (flen k) cx] 25))) := Xb.new hlx hs6 _
  have hb : Below w6.heap.size w6 (w6.alloc (.cells #[.int .i64 s, .int .i64 v, .slice ax (flen k) cx] 25)) := (Below.refl _ _).alloc (Nat.le_refl _) _
  have hs6b : w6.heap.size + 1 = (w6.alloc (.cells #[.int .i64 s, .int .i64 v, .slice ax (flen k) cx] 25)).heap.size := by simp
  have hs6c : w6.heap.size + 1 ≤ (w6.alloc (.cells #[.int .i64 s, .int .i64 v, .slice ax (flen k) cx] 25)).heap.size := by simp
  clear hlx hs6b
  have Hlow' : Hid (Below w.heap.size w (w6.alloc (.cells #[.int .i64 s, .int .i64 v, .slice ax (flen k) cx] 25))) := low_next Hlow.out hb
  have Hp' : Hid (Tq (w.heap.size + 2) w.heap.size s v a c k (w6.alloc (.cells #[.int .i64 s, .int .i64 v, .slice ax (flen k) cx] 25))) := Hp.out.next hb
  have Hq' : Hid (Tq (w.heap.size + 2) (w.heap.size + 1) s2 v2 a2 c2 k2 (w6.alloc (.cells #[.int .i64 s, .int .i64 v, .slice ax (flen k) cx] 25))) := Hq.out.next hb
  have Hw' : Hid (Rw w5.heap.size bw Aw (w6.alloc (.cells #[.int .i64 s, .int .i64 v, .slice ax (flen k) cx] 25))) := Hw.out.next hb
  clear Hlow Hp Hq Hw
  have Hlow := Hlow'
  clear Hlow'
  have Hp := Hp'
  clear Hp'
  have Hq := Hq'
  clear Hq'
  have Hw := Hw'
  clear Hw'
  have Hx := Hxn
  clear Hxn hb
  have qq0 := Hq.out.c0
  have qq1 := Hq.out.c1
  have qq2 := Hq.out.c2
  go_wp2_with fail
  with_reducible refine (toTermT_anyM Hq.out.top hN2).mono ?_
  rintro e w7 ⟨ay, cy, rfl, hb, hly⟩
  clear qq0 qq1 qq2
  have hs7 := hb.size
  have Hlow' : Hid (Below w.heap.size w w7) := low_next Hlow.out hb
  have Hp' : Hid (Tq (w.heap.size + 2) w.heap.size s v a c k w7) := Hp.out.next hb
  have Hq' : Hid (Tq (w.heap.size + 2) (w.heap.size + 1) s2 v2 a2 c2 k2 w7) := Hq.out.next hb
  have Hw' : Hid (Rw w5.heap.size bw Aw w7) := Hw.out.next hb
  have Hx' : Hid (Xb w5.heap.size w6.heap.size w6.heap.size s v ax cx k w7) := Hx.out.next hb
  clear Hlow Hp Hq Hw Hx
  have Hlow := Hlow'
  clear Hlow'
  have Hp := Hp'
  clear Hp'
  have Hq := Hq'
  clear Hq'
  have Hw := Hw'
  clear Hw'
  have Hx := Hx'
  clear Hx'
  clear hb
  have Hyn : Hid (Xb (w6.alloc (.cells #[.int .i64 s, .int .i64 v, .slice ax (flen k) cx] 25)).heap.size w7.heap.size w7.heap.size s2 v2 ay cy k2 (w7.alloc (.cells #[.int .i64 s2, .int .i64 v2, .slice ay (flen k2) cy] 25))) := Xb.new hly hs7 _
  have hb : Below w7.heap.size w7 (w7.alloc (.cells #[.int .i64 s2, .int .i64 v2, .slice ay (flen k2) cy] 25)) := (Below.refl _ _).alloc (Nat.le_refl _) _
  have hs7b : w7.heap.size + 1 = (w7.alloc (.cells #[.int .i64 s2, .int .i64 v2, .slice ay (flen k2) cy] 25)).heap.size := by simp
  have hs7c : w7.heap.size + 1 ≤ (w7.alloc (.cells #[.int .i64 s2, .int .i64 v2, .slice ay (flen k2) cy] 25)).heap.size := by simp
  clear hly hs7b
  have Hlow' : Hid (Below w.heap.size w (w7.alloc (.cells #[.int .i64 s2, .int .i64 v2, .slice ay (flen k2) cy] 25))) := low_next Hlow.out hb
  have Hp' : Hid (Tq (w.heap.size + 2) w.heap.size s v a c k (w7.alloc (.cells #[.int .i64 s2, .int .i64 v2, .slice ay (flen k2) cy] 25))) := Hp.out.next hb
  have Hq' : Hid (Tq (w.heap.size + 2) (w.heap.size + 1) s2 v2 a2 c2 k2 (w7.alloc (.cells #[.int .i64 s2, .int .i64 v2, .slice ay (flen k2) cy] 25))) := Hq.out.next hb
  have Hw' : Hid (Rw w5.heap.size bw Aw (w7.alloc (.cells #[.int .i64 s2, .int .i64 v2, .slice ay (flen k2) cy] 25))) := Hw.out.next hb
  have Hx' : Hid (Xb w5.heap.size w6.heap.size w6.heap.size s v ax cx k (w7.alloc (.cells #[.int .i64 s2, .int .i64 v2, .slice ay (flen k2) cy] 25))) := Hx.out.next hb
  clear Hlow Hp Hq Hw Hx
  have Hlow := Hlow'
  clear Hlow'
  have Hp := Hp'
  clear Hp'
  have Hq := Hq'
  clear Hq'
  have Hw := Hw'
  clear Hw'
  have Hx := Hx'
  clear Hx'
  have Hy := Hyn
  clear Hyn hb
  have qx0 := Hx.out.c0
  have qx1 := Hx.out.c1
  have qx2 := Hx.out.c2
  have qy0 := Hy.out.c0
  have qy1 := Hy.out.c1
  have qy2 := Hy.out.c2
  go_wp2_with fail
  with_reducible refine (iMatchOfT_any s v ax cx k s2 v2 ay cy k2 _ Hx.out.top Hy.out.top).mono ?_
  rintro e w8 ⟨Ag, Cg, bg, tg, hdg, rfl, hb, hbx⟩
  rw [HDw.out] at hdg
  simp only [Prod.mk.injEq] at hdg
  obtain ⟨rfl, rfl⟩ := hdg
  clear qx0 qx1 qx2 qy0 qy1 qy2
  have hs8 := hb.size
  have Hlow' : Hid (Below w.heap.size w w8) := low_next Hlow.out hb
  have Hp' : Hid (Tq (w.heap.size + 2) w.heap.size s v a c k w8) := Hp.out.next hb
  have Hq' : Hid (Tq (w.heap.size + 2) (w.heap.size + 1) s2 v2 a2 c2 k2 w8) := Hq.out.next hb
  have Hw' : Hid (Rw w5.heap.size bw Aw w8) := Hw.out.next hb
  have Hx' : Hid (Xb w5.heap.size w6.heap.size w6.heap.size s v ax cx k w8) := Hx.out.next hb
  have Hy' : Hid (Xb (w6.alloc (.cells #[.int .i64 s, .int .i64 v, .slice ax (flen k) cx] 25)).heap.size w7.heap.size w7.heap.size s2 v2 ay cy k2 w8) := Hy.out.next hb
  clear Hlow Hp Hq Hw Hx Hy
  have Hlow := Hlow'
  clear Hlow'
  have Hp := Hp'
  clear Hp'
  have Hq := Hq'
  clear Hq'
  have Hw := Hw'
  clear Hw'
  have Hx := Hx'
  clear Hx'
  have Hy := Hy'
  clear Hy'
  clear hb
  have Hg : Hid (Gx (w7.alloc (.cells #[.int .i64 s2, .int .i64 v2, .slice ay (flen k2) cy] 25)).heap.size w8.heap.size bw Ag w8) := ⟨hbx, Nat.le_refl _⟩
  clear hbx
  have eb : (tw != tw) = false := by simp
  go_wp2_with fail
  with_reducible refine (eqBindS_same bw Ag Aw Cg Cw _ Hg.out.top Hw.out.top (by have := HTY.out.1; omega) (fun x hx => by have := HTY.out.2.1 x hx; omega)).mono ?_
  rintro e w9 ⟨rfl, hb⟩
  have Hlow' : Hid (Below w.heap.size w w9) := low_next Hlow.out hb
  have Hp' : Hid (Tq (w.heap.size + 2) w.heap.size s v a c k w9) := Hp.out.next hb
  have Hq' : Hid (Tq (w.heap.size + 2) (w.heap.size + 1) s2 v2 a2 c2 k2 w9) := Hq.out.next hb
  have Hw' : Hid (Rw w5.heap.size bw Aw w9) := Hw.out.next hb
  have Hx' : Hid (Xb w5.heap.size w6.heap.size w6.heap.size s v ax cx k w9) := Hx.out.next hb
  have Hy' : Hid (Xb (w6.alloc (.cells #[.int .i64 s, .int .i64 v, .slice ax (flen k) cx] 25)).heap.size w7.heap.size w7.heap.size s2 v2 ay cy k2 w9) := Hy.out.next hb
  have Hg' : Hid (Gx (w7.alloc (.cells #[.int .i64 s2, .int .i64 v2, .slice ay (flen k2) cy] 25)).heap.size w8.heap.size bw Ag w9) := Hg.out.next hb
  clear Hlow Hp Hq Hw Hx Hy Hg
  have Hlow := Hlow'
  clear Hlow'
  have Hp := Hp'
  clear Hp'
  have Hq := Hq'
  clear Hq'
  have Hw := Hw'
  clear Hw'
  have Hx := Hx'
  clear Hx'
  have Hy := Hy'
  clear Hy'
  have Hg := Hg'
  clear Hg'
  clear hb
  have hu0 : ∀ u : After w9.heap.size w9, u.world.cell? ⟨w6.heap.size, 0, none⟩ = some (.int .i64 s) := fun u => cell_low u.below Hx.out.c0
  have hu1 : ∀ u : After w9.heap.size w9, u.world.cell? ⟨w6.heap.size, 1, none⟩ = some (.int .i64 v) := fun u => cell_low u.below Hx.out.c1
  have hu2 : ∀ u : After w9.heap.size w9, u.world.cell? ⟨w6.heap.size, 2, none⟩ = some (.slice ax (flen k) cx) := fun u => cell_low u.below Hx.out.c2
  have hu3 : ∀ u : After w9.heap.size w9, u.world.cell? ⟨w.heap.size, 0, none⟩ = some (.int .i64 s) := fun u => cell_low u.below Hp.out.c0
  have hu4 : ∀ u : After w9.heap.size w9, u.world.cell? ⟨w.heap.size, 1, none⟩ = some (.int .i64 v) := fun u => cell_low u.below Hp.out.c1
  have hu5 : ∀ u : After w9.heap.size w9, u.world.cell? ⟨w.heap.size, 2, none⟩ = some (.slice a (flen k) c) := fun u => cell_low u.below Hp.out.c2
  go_wp2_with fail
  refine wp_region_mix (fun w' => ∃ u : After w9.heap.size w9, w' = u.world) [] [(0, 0), (1, 0), (2, 1), (3, 1), (4, 0)] (by kernel_rfl) (by kernel_rfl) ⟨⟨_, (Below.refl _ _).drew⟩, rfl⟩ ?_
  have HBD : Hid (Below w9.heap.size w9 w9.drew) := (Below.refl _ _).drew
  generalize w9.drew = wd at *
  refine mix_see rfl (fun K hK => ?_)
  go_simp
  refine hK _ ?_
  clear hK K
  refine mix_see rfl (fun K hK => ?_)
  go_simp
  refine hK _ ?_
  clear hK K
  refine mix_hold rfl (fun K hK => ?_)
  go_simp
  with_reducible refine (toTerm_any (Hp.out.next HBD.out).top hN).mono ?_
  rintro e w10 ⟨ap9, cp9, rfl, hb, hl9⟩
  have HT9 := Lib.hid (hl9.mono (lo' := 0) (Nat.zero_le _) (Nat.le_refl _))
  clear hl9
  replace HBD := Lib.hid (low_next HBD.out hb)
  refine hK _ _ ⟨⟨_, HBD.out⟩, rfl⟩ ?_
  clear hK K hb
  refine mix_hold rfl (fun K hK => ?_)
  go_simp
  with_reducible refine (eqTerm_any (k := k) (Hx.out.next HBD.out).top HT9.out hN).mono ?_
  rintro e w11 ⟨rfl, hb⟩
  clear HT9
  replace HBD := Lib.hid (low_next HBD.out hb)
  refine hK _ _ ⟨⟨_, HBD.out⟩, rfl⟩ ?_
  clear hK K hb
  refine mix_see rfl (fun K hK => ?_)
  go_simp
  refine hK _ ?_
  clear hK K
  refine mix_end ?_
  clear hu0 hu1 hu2 hu3 hu4 hu5
  have Hlow' : Hid (Below w.heap.size w w11) := low_next Hlow.out HBD.out
  have Hp' : Hid (Tq (w.heap.size + 2) w.heap.size s v a c k w11) := Hp.out.next HBD.out
  have Hq' : Hid (Tq (w.heap.size + 2) (w.heap.size + 1) s2 v2 a2 c2 k2 w11) := Hq.out.next HBD.out
  have Hw' : Hid (Rw w5.heap.size bw Aw w11) := Hw.out.next HBD.out
  have Hx' : Hid (Xb w5.heap.size w6.heap.size w6.heap.size s v ax cx k w11) := Hx.out.next HBD.out
  have Hy' : Hid (Xb (w6.alloc (.cells #[.int .i64 s, .int .i64 v, .slice ax (flen k) cx] 25)).heap.size w7.heap.size w7.heap.size s2 v2 ay cy k2 w11) := Hy.out.next HBD.out
  have Hg' : Hid (Gx (w7.alloc (.cells #[.int .i64 s2, .int .i64 v2, .slice ay (flen k2) cy] 25)).heap.size w8.heap.size bw Ag w11) := Hg.out.next HBD.out
  clear Hlow Hp Hq Hw Hx Hy Hg
  have Hlow := Hlow'
  clear Hlow'
  have Hp := Hp'
  clear Hp'
  have Hq := Hq'
  clear Hq'
  have Hw := Hw'
  clear Hw'
  have Hx := Hx'
  clear Hx'
  have Hy := Hy'
  clear Hy'
  have Hg := Hg'
  clear Hg'
  clear HBD
  have hu0 : ∀ u : After w11.heap.size w11, u.world.cell? ⟨w7.heap.size, 0, none⟩ = some (.int .i64 s2) := fun u => cell_low u.below Hy.out.c0
  have hu1 : ∀ u : After w11.heap.size w11, u.world.cell? ⟨w7.heap.size, 1, none⟩ = some (.int .i64 v2) := fun u => cell_low u.below Hy.out.c1
  have hu2 : ∀ u : After w11.heap.size w11, u.world.cell? ⟨w7.heap.size, 2, none⟩ = some (.slice ay (flen k2) cy) := fun u => cell_low u.below Hy.out.c2
  have hu3 : ∀ u : After w11.heap.size w11, u.world.cell? ⟨w.heap.size + 1, 0, none⟩ = some (.int .i64 s2) := fun u => cell_low u.below Hq.out.c0
  have hu4 : ∀ u : After w11.heap.size w11, u.world.cell? ⟨w.heap.size + 1, 1, none⟩ = some (.int .i64 v2) := fun u => cell_low u.below Hq.out.c1
  have hu5 : ∀ u : After w11.heap.size w11, u.world.cell? ⟨w.heap.size + 1, 2, none⟩ = some (.slice a2 (flen k2) c2) := fun u => cell_low u.below Hq.out.c2
  go_wp2_with fail
  refine wp_region_mix (fun w' => ∃ u : After w11.heap.size w11, w' = u.world) [] [(0, 0), (1, 0), (2, 1), (3, 1), (4, 0)] (by kernel_rfl) (by kernel_rfl) ⟨⟨_, (Below.refl _ _).drew⟩, rfl⟩ ?_
  have HBD : Hid (Below w11.heap.size w11 w11.drew) := (Below.refl _ _).drew
  generalize w11.drew = wd at *
  refine mix_see rfl (fun K hK => ?_)
  go_simp
  refine hK _ ?_
  clear hK K
  refine mix_see rfl (fun K hK => ?_)
  go_simp
  refine hK _ ?_
  clear hK K
  refine mix_hold rfl (fun K hK => ?_)
  go_simp
  with_reducible refine (toTerm_any (Hq.out.next HBD.out).top hN2).mono ?_
  rintro e w12 ⟨aq9, cq9, rfl, hb, hl9⟩
  have HT9 := Lib.hid (hl9.mono (lo' := 0) (Nat.zero_le _) (Nat.le_refl _))
  clear hl9
  replace HBD := Lib.hid (low_next HBD.out hb)
  refine hK _ _ ⟨⟨_, HBD.out⟩, rfl⟩ ?_
  clear hK K hb
  refine mix_hold rfl (fun K hK => ?_)
  go_simp
  with_reducible refine (eqTerm_any (k := k2) (Hy.out.next HBD.out).top HT9.out hN2).mono ?_
  rintro e w13 ⟨rfl, hb⟩
  clear HT9
  replace HBD := Lib.hid (low_next HBD.out hb)
  refine hK _ _ ⟨⟨_, HBD.out⟩, rfl⟩ ?_
  clear hK K hb
  refine mix_see rfl (fun K hK => ?_)
  go_simp
  refine hK _ ?_
  clear hK K
  refine mix_end ?_
  clear hu0 hu1 hu2 hu3 hu4 hu5
  have Hlow' : Hid (Below w.heap.size w w13) := low_next Hlow.out HBD.out
  have Hp' : Hid (Tq (w.heap.size + 2) w.heap.size s v a c k w13) := Hp.out.next HBD.out
  have Hq' : Hid (Tq (w.heap.size + 2) (w.heap.size + 1) s2 v2 a2 c2 k2 w13) := Hq.out.next HBD.out
  have Hw' : Hid (Rw w5.heap.size bw Aw w13) := Hw.out.next HBD.out
  have Hx' : Hid (Xb w5.heap.size w6.heap.size w6.heap.size s v ax cx k w13) := Hx.out.next HBD.out
  have Hy' : Hid (Xb (w6.alloc (.cells #[.int .i64 s, .int .i64 v, .slice ax (flen k) cx] 25)).heap.size w7.heap.size w7.heap.size s2 v2 ay cy k2 w13) := Hy.out.next HBD.out
  have Hg' : Hid (Gx (w7.alloc (.cells #[.int .i64 s2, .int .i64 v2, .slice ay (flen k2) cy] 25)).heap.size w8.heap.size bw Ag w13) := Hg.out.next HBD.out
  clear Hlow Hp Hq Hw Hx Hy Hg
  have Hlow := Hlow'
  clear Hlow'
  have Hp := Hp'
  clear Hp'
  have Hq := Hq'
  clear Hq'
  have Hw := Hw'
  clear Hw'
  have Hx := Hx'
  clear Hx'
  have Hy := Hy'
  clear Hy'
  have Hg := Hg'
  clear Hg'
  clear HBD
  have qx0 := Hx.out.c0
  have qx1 := Hx.out.c1
  have qx2 := Hx.out.c2
  have HSX := Lib.hid Hx.out.sx.2
  have hlx := Hx.out.lt
  have hbx := Hx.out.hb
  have hlh := Hx.out.lh
  have hgl := Hg.out.le
  have hwl := Hw.out.le
  go_wp2_with fail
  with_reducible refine (markTerm_any s v ax cx k w5.heap.size w6.heap.size 1 _ HSX.out hN (by omega) (by omega) (by omega) (by omega)).mono ?_
  rintro e w14 ⟨rfl, hmk⟩
  clear qx0 qx1 qx2
  have hslow := Hlow.out.size
  have hpn := Hp.out.le
  clear Hx
  have Hlow' : Hid (Below w.heap.size w w14) := Hlow.out.trans (hmk.below.mono (by omega))
  have Hp' : Hid (Tq (w.heap.size + 2) w.heap.size s v a c k w14) := Hp.out.go hmk.below (by omega)
  have Hq' : Hid (Tq (w.heap.size + 2) (w.heap.size + 1) s2 v2 a2 c2 k2 w14) := Hq.out.go hmk.below (by omega)
  have Hw' : Hid (Rw w5.heap.size bw Aw w14) := Hw.out.go hmk.below (by omega)
  have Hy' : Hid (Xb (w6.alloc (.cells #[.int .i64 s, .int .i64 v, .slice ax (flen k) cx] 25)).heap.size w7.heap.size w7.heap.size s2 v2 ay cy k2 w14) := Hy.out.far hmk (by omega)
  have Hg' : Hid (Gx (w7.alloc (.cells #[.int .i64 s2, .int .i64 v2, .slice ay (flen k2) cy] 25)).heap.size w8.heap.size bw Ag w14) := Hg.out.far hmk (by omega)
  clear Hlow Hp Hq Hw Hy Hg
  have Hlow := Hlow'
  clear Hlow'
  have Hp := Hp'
  clear Hp'
  have Hq := Hq'
  clear Hq'
  have Hw := Hw'
  clear Hw'
  have Hy := Hy'
  clear Hy'
  have Hg := Hg'
  clear Hg'
  clear hmk HSX hlx hbx hlh hslow hpn hgl hwl
  have qy0 := Hy.out.c0
  have qy1 := Hy.out.c1
  have qy2 := Hy.out.c2
  have HSX := Lib.hid Hy.out.sx.2
  have hlx := Hy.out.lt
  have hbx := Hy.out.hb
  have hlh := Hy.out.lh
  have hgl := Hg.out.le
  have hwl := Hw.out.le
  go_wp2_with fail
  with_reducible refine (markTerm_any s2 v2 ay cy k2 (w6.alloc (.cells #[.int .i64 s, .int .i64 v, .slice ax (flen k) cx] 25)).heap.size w7.heap.size (1 + 2 * (fsz k : Int)) _ HSX.out hN2 (by omega) (by omega) (by omega) (by omega)).mono ?_
  rintro e w15 ⟨rfl, hmk⟩
  clear qy0 qy1 qy2
  have hslow := Hlow.out.size
  have hpn := Hp.out.le
  clear Hy
  have Hlow' : Hid (Below w.heap.size w w15) := Hlow.out.trans (hmk.below.mono (by omega))
  have Hp' : Hid (Tq (w.heap.size + 2) w.heap.size s v a c k w15) := Hp.out.go hmk.below (by omega)
  have Hq' : Hid (Tq (w.heap.size + 2) (w.heap.size + 1) s2 v2 a2 c2 k2 w15) := Hq.out.go hmk.below (by omega)
  have Hw' : Hid (Rw w5.heap.size bw Aw w15) := Hw.out.go hmk.below (by omega)
  have Hg' : Hid (Gx (w7.alloc (.cells #[.int .i64 s2, .int .i64 v2, .slice ay (flen k2) cy] 25)).heap.size w8.heap.size bw Ag w15) := Hg.out.far hmk (by omega)
  clear Hlow Hp Hq Hw Hg
  have Hlow := Hlow'
  clear Hlow'
  have Hp := Hp'
  clear Hp'
  have Hq := Hq'
  clear Hq'
  have Hw := Hw'
  clear Hw'
  have Hg := Hg'
  clear Hg'
  clear hmk HSX hlx hbx hlh hslow hpn hgl hwl
  have e1 : decide (1 + 2 * (fsz k : Int) + 2 * (fsz k2 : Int) < 0) = false := decide_eq_false (by omega)
  go_wp2_with fail
  with_reducible refine (eqBindS_same bw Ag Aw Cg Cw _ Hg.out.top Hw.out.top (by have := HTY.out.1; omega) (fun x hx => by have := HTY.out.2.1 x hx; omega)).mono ?_
  rintro e w16 ⟨rfl, hb⟩
  have Hlow' : Hid (Below w.heap.size w w16) := low_next Hlow.out hb
  have Hp' : Hid (Tq (w.heap.size + 2) w.heap.size s v a c k w16) := Hp.out.next hb
  have Hq' : Hid (Tq (w.heap.size + 2) (w.heap.size + 1) s2 v2 a2 c2 k2 w16) := Hq.out.next hb
  have Hw' : Hid (Rw w5.heap.size bw Aw w16) := Hw.out.next hb
  have Hg' : Hid (Gx (w7.alloc (.cells #[.int .i64 s2, .int .i64 v2, .slice ay (flen k2) cy] 25)).heap.size w8.heap.size bw Ag w16) := Hg.out.next hb
  clear Hlow Hp Hq Hw Hg
  have Hlow := Hlow'
  clear Hlow'
  have Hp := Hp'
  clear Hp'
  have Hq := Hq'
  clear Hq'
  have Hw := Hw'
  clear Hw'
  have Hg := Hg'
  clear Hg'
  clear hb
  have hgl := Hg.out.le
  have HBXG := Lib.hid Hg.out.bx
  have hmc := HTY.out.2.2
  have hmp := mcn_pos bw
  have hty1 := HTY.out.1
  go_wp2_with fail
  with_reducible refine (markBindS_any bw Ag Cg (w7.alloc (.cells #[.int .i64 s2, .int .i64 v2, .slice ay (flen k2) cy] 25)).heap.size w8.heap.size 1 _ HBXG.out hgl (by omega) (fun x hx => by have := HTY.out.2.1 x hx; omega) (by omega) (by omega) (by omega)).mono ?_
  rintro e w17 ⟨rfl, hbm, hfar, hbh⟩
  have hslow := Hlow.out.size
  have hwl := Hw.out.le
  clear Hg
  have Hhn : Hid (Gh (w7.alloc (.cells #[.int .i64 s2, .int .i64 v2, .slice ay (flen k2) cy] 25)).heap.size w8.heap.size bw Ag 1 w17) := ⟨hbh, Nat.le_trans hgl hbm.size⟩
  have Hlow' : Hid (Below w.heap.size w w17) := Hlow.out.trans (hbm.mono (by omega))
  have Hp' : Hid (Tq (w.heap.size + 2) w.heap.size s v a c k w17) := Hp.out.go hbm (by have := Hp.out.le; omega)
  have Hq' : Hid (Tq (w.heap.size + 2) (w.heap.size + 1) s2 v2 a2 c2 k2 w17) := Hq.out.go hbm (by have := Hq.out.le; omega)
  have Hw' : Hid (Rw w5.heap.size bw Aw w17) := Hw.out.go hbm (by omega)
  clear Hlow Hp Hq Hw
  have Hlow := Hlow'
  clear Hlow'
  have Hp := Hp'
  clear Hp'
  have Hq := Hq'
  clear Hq'
  have Hw := Hw'
  clear Hw'
  have Hh := Hhn
  clear Hhn hbm hfar hbh hslow hwl hgl HBXG
  have e2 : decide (1 + mcn bw < 0) = false := decide_eq_false (by omega)
  have e3 : ((1 + mcn bw) != (1 + mcn bw)) = false := by simp
  go_wp2_with fail
  with_reducible refine (heldBindS_any bw Ag Cg (w7.alloc (.cells #[.int .i64 s2, .int .i64 v2, .slice ay (flen k2) cy] 25)).heap.size w8.heap.size 1 _ Hh.out.bh Hh.out.le (by omega) (fun x hx => by have := HTY.out.2.1 x hx; omega) (by omega) (by omega) (by omega)).mono ?_
  rintro e w18 ⟨rfl, hb⟩
  have Hlow' : Hid (Below w.heap.size w w18) := low_next Hlow.out hb
  have Hp' : Hid (Tq (w.heap.size + 2) w.heap.size s v a c k w18) := Hp.out.next hb
  have Hq' : Hid (Tq (w.heap.size + 2) (w.heap.size + 1) s2 v2 a2 c2 k2 w18) := Hq.out.next hb
  have Hw' : Hid (Rw w5.heap.size bw Aw w18) := Hw.out.next hb
  have Hh' : Hid (Gh (w7.alloc (.cells #[.int .i64 s2, .int .i64 v2, .slice ay (flen k2) cy] 25)).heap.size w8.heap.size bw Ag 1 w18) := Hh.out.next hb
  clear Hlow Hp Hq Hw Hh
  have Hlow := Hlow'
  clear Hlow'
  have Hp := Hp'
  clear Hp'
  have Hq := Hq'
  clear Hq'
  have Hw := Hw'
  clear Hw'
  have Hh := Hh'
  clear Hh'
  clear hb
  have hu0 : ∀ u : After w18.heap.size w18, u.world.cell? ⟨w.heap.size, 0, none⟩ = some (.int .i64 s) := fun u => cell_low u.below Hp.out.c0
  have hu1 : ∀ u : After w18.heap.size w18, u.world.cell? ⟨w.heap.size, 1, none⟩ = some (.int .i64 v) := fun u => cell_low u.below Hp.out.c1
  have hu2 : ∀ u : After w18.heap.size w18, u.world.cell? ⟨w.heap.size, 2, none⟩ = some (.slice a (flen k) c) := fun u => cell_low u.below Hp.out.c2
  have hu3 : ∀ u : After w18.heap.size w18, u.world.cell? ⟨w.heap.size + 1, 0, none⟩ = some (.int .i64 s2) := fun u => cell_low u.below Hq.out.c0
  have hu4 : ∀ u : After w18.heap.size w18, u.world.cell? ⟨w.heap.size + 1, 1, none⟩ = some (.int .i64 v2) := fun u => cell_low u.below Hq.out.c1
  have hu5 : ∀ u : After w18.heap.size w18, u.world.cell? ⟨w.heap.size + 1, 2, none⟩ = some (.slice a2 (flen k2) c2) := fun u => cell_low u.below Hq.out.c2
  go_wp2_with fail
  refine wp_region_mix (fun w' => ∃ u : After w18.heap.size w18, w' = u.world) [] [(0, 0), (2, 0), (1, 1), (3, 1), (4, 1), (5, 0), (6, 0), (7, 0), (8, 1), (9, 1)] (by kernel_rfl) (by kernel_rfl) ⟨⟨_, (Below.refl _ _).drew⟩, rfl⟩ ?_
  have HBD : Hid (Below w18.heap.size w18 w18.drew) := (Below.refl _ _).drew
  generalize w18.drew = wd at *
  refine mix_see rfl (fun K hK => ?_)
  go_simp
  refine hK _ ?_
  clear hK K
  refine mix_see rfl (fun K hK => ?_)
  go_simp
  refine hK _ ?_
  clear hK K
  refine mix_hold rfl (fun K hK => ?_)
  go_simp
  with_reducible refine (toTerm_any (Hp.out.next HBD.out).top hN).mono ?_
  rintro e w19 ⟨a15, c15, rfl, hb, hl5⟩
  have HT5 := Lib.hid (hl5.mono (lo' := 0) (Nat.zero_le _) (Nat.le_refl _))
  clear hl5
  replace HBD := Lib.hid (low_next HBD.out hb)
  refine hK _ _ ⟨⟨_, HBD.out⟩, rfl⟩ ?_
  clear hK K hb
  refine mix_hold rfl (fun K hK => ?_)
  go_simp
  with_reducible refine (toTerm_any (Hq.out.next HBD.out).top hN2).mono ?_
  rintro e w20 ⟨a16, c16, rfl, hb, hl6⟩
  have HT6 := Lib.hid (hl6.mono (lo' := 0) (Nat.zero_le _) (Nat.le_refl _))
  replace HT5 := Lib.hid ((HT5.out.below hb).mono (Nat.le_refl _) hb.size)
  clear hl6
  replace HBD := Lib.hid (low_next HBD.out hb)
  refine hK _ _ ⟨⟨_, HBD.out⟩, rfl⟩ ?_
  clear hK K hb
  refine mix_hold rfl (fun K hK => ?_)
  go_simp
  with_reducible refine (iMatchOf_any s v a15 c15 k s2 v2 a16 c16 k2 _ HT5.out HT6.out).mono ?_
  rintro e w21 ⟨Ah, Ch, bh, th, hdh, rfl, hb, hsh⟩
  rw [HDw.out] at hdh
  simp only [Prod.mk.injEq] at hdh
  obtain ⟨rfl, rfl⟩ := hdh
  have Hsh := Lib.hid hsh
  clear hsh HT5 HT6
  replace HBD := Lib.hid (low_next HBD.out hb)
  refine hK _ _ ⟨⟨_, HBD.out⟩, rfl⟩ ?_
  clear hK K hb
  refine mix_see rfl (fun K hK => ?_)
  go_simp
  refine hK _ ?_
  clear hK K
  refine mix_see rfl (fun K hK => ?_)
  go_simp
  refine hK _ ?_
  clear hK K
  refine mix_see rfl (fun K hK => ?_)
  go_simp
  refine hK _ ?_
  clear hK K
  refine mix_hold rfl (fun K hK => ?_)
  go_simp
  refine hK _ _ ⟨⟨_, HBD.out⟩, rfl⟩ ?_
  clear hK K
  refine mix_hold rfl (fun K hK => ?_)
  go_simp
  refine hK _ _ ⟨⟨_, HBD.out⟩, rfl⟩ ?_
  clear hK K
  refine mix_end ?_
  clear hu0 hu1 hu2 hu3 hu4 hu5
  have Hlow' : Hid (Below w.heap.size w w21) := low_next Hlow.out HBD.out
  have Hp' : Hid (Tq (w.heap.size + 2) w.heap.size s v a c k w21) := Hp.out.next HBD.out
  have Hq' : Hid (Tq (w.heap.size + 2) (w.heap.size + 1) s2 v2 a2 c2 k2 w21) := Hq.out.next HBD.out
  have Hw' : Hid (Rw w5.heap.size bw Aw w21) := Hw.out.next HBD.out
  have Hh' : Hid (Gh (w7.alloc (.cells #[.int .i64 s2, .int .i64 v2, .slice ay (flen k2) cy] 25)).heap.size w8.heap.size bw Ag 1 w21) := Hh.out.next HBD.out
  clear Hlow Hp Hq Hw Hh
  have Hlow := Hlow'
  clear Hlow'
  have Hp := Hp'
  clear Hp'
  have Hq := Hq'
  clear Hq'
  have Hw := Hw'
  clear Hw'
  have Hh := Hh'
  clear Hh'
  clear HBD
  go_wp2_with fail
  with_reducible refine (eqBindS_same bw Ah Aw Ch Cw _ Hsh.out Hw.out.top (by omega) (fun x hx => by have := HTY.out.2.1 x hx; omega)).mono ?_
  rintro e w22 ⟨rfl, hb⟩
  have Hlow' : Hid (Below w.heap.size w w22) := low_next Hlow.out hb
  have Hp' : Hid (Tq (w.heap.size + 2) w.heap.size s v a c k w22) := Hp.out.next hb
  have Hq' : Hid (Tq (w.heap.size + 2) (w.heap.size + 1) s2 v2 a2 c2 k2 w22) := Hq.out.next hb
  have Hw' : Hid (Rw w5.heap.size bw Aw w22) := Hw.out.next hb
  have Hh' : Hid (Gh (w7.alloc (.cells #[.int .i64 s2, .int .i64 v2, .slice ay (flen k2) cy] 25)).heap.size w8.heap.size bw Ag 1 w22) := Hh.out.next hb
  clear Hlow Hp Hq Hw Hh
  have Hlow := Hlow'
  clear Hlow'
  have Hp := Hp'
  clear Hp'
  have Hq := Hq'
  clear Hq'
  have Hw := Hw'
  clear Hw'
  have Hh := Hh'
  clear Hh'
  clear hb
  clear Hsh
  go_wp2_with fail
  with_reducible refine (heldBindS_any bw Ag Cg (w7.alloc (.cells #[.int .i64 s2, .int .i64 v2, .slice ay (flen k2) cy] 25)).heap.size w8.heap.size 1 _ Hh.out.bh Hh.out.le (by omega) (fun x hx => by have := HTY.out.2.1 x hx; omega) (by omega) (by omega) (by omega)).mono ?_
  rintro e w23 ⟨rfl, hb⟩
  have Hlow' : Hid (Below w.heap.size w w23) := low_next Hlow.out hb
  have Hp' : Hid (Tq (w.heap.size + 2) w.heap.size s v a c k w23) := Hp.out.next hb
  have Hq' : Hid (Tq (w.heap.size + 2) (w.heap.size + 1) s2 v2 a2 c2 k2 w23) := Hq.out.next hb
  have Hw' : Hid (Rw w5.heap.size bw Aw w23) := Hw.out.next hb
  have Hh' : Hid (Gh (w7.alloc (.cells #[.int .i64 s2, .int .i64 v2, .slice ay (flen k2) cy] 25)).heap.size w8.heap.size bw Ag 1 w23) := Hh.out.next hb
  clear Hlow Hp Hq Hw Hh
  have Hlow := Hlow'
  clear Hlow'
  have Hp := Hp'
  clear Hp'
  have Hq := Hq'
  clear Hq'
  have Hw := Hw'
  clear Hw'
  have Hh := Hh'
  clear Hh'
  clear hb
  go_wp2_with fail
  go_ret
  exact ⟨rfl, Hlow.out⟩
end Go.Proofs.Ytlaaihnokoeliab
