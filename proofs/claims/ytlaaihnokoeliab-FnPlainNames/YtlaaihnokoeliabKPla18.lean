/- Several texts in one: PLi, SP3. -/
import Derived.Test.YtlaaihnokoeliabKPla12
import Derived.Test.YtlaaihnokoeliabKPla17
import Derived.Test.YtlaaihnokoeliabKPla6
import Derived.Test.YtlaaihnokoeliabKPla8
import Derived.Test.YtlaaihnokoeliabKPla15

/-! PLi: The program's plainOf and TermPlain. -/
namespace Go.Proofs.Ytlaaihnokoeliab
open Go.RowKit Go.Deep Go.Maps

/-- A map in which the variables of bs have nodes of their terms, and no others. -/
def MapE (w : World) (b : Nat) (bs : List Bd) : Prop :=
  ∃ n D, w.ownsMap Try.prog 95 rdV b n D ∧ n ≤ bs.length ∧ Maps.size D = bs.length ∧ ∀ x : Int, (Lit.int .i64 x).wf = true →
    (sv bs x = none → Maps.has D (.int .i64 x) = false) ∧ ∀ s v k, sv bs x = some (s, v, k) → Maps.has D (.int .i64 x) = true ∧ ∃ nv, D.atKey (.int .i64 x) (.held .nilIface) = .held nv ∧ NodeIs w 0 w.heap.size nv s v k
theorem MapE.to {w : World} {b : Nat} {bs : List Bd} (h : MapE w b bs) : MapIs w b bs := by
  obtain ⟨n, D, h1, h2, _, h4⟩ := h
  exact ⟨n, D, h1, by omega, h4⟩
theorem MapE.start (w : World) : MapE (w.alloc (.map #[] 0)) w.heap.size [] :=
  ⟨0, .map [], World.ownsMap_made w Try.prog 95 rdV, Nat.le_refl _, rfl, fun x _ => ⟨fun _ => rfl, fun s v k h => by simp [sv] at h⟩⟩
theorem MapE.below {w w' : World} {b : Nat} {bs : List Bd} (h : MapE w b bs) (hb : Below w.heap.size w w') : MapE w' b bs := by
  obtain ⟨n, D, hm, hn, hz, hx⟩ := h
  have hlt := hm.lt
  refine ⟨n, D, ?_, hn, hz, fun x hw => ⟨(hx x hw).1, fun s v k hs => ?_⟩⟩
  · obtain ⟨es, clock, h1, h2⟩ := hm
    exact ⟨es, clock, by rw [hb.block b hlt]; exact h1, h2⟩
  · obtain ⟨h1, nv, h2, h3⟩ := (hx x hw).2 s v k hs
    exact ⟨h1, nv, h2, (h3.below hb).mono (Nat.le_refl _) hb.size⟩
/-- One more name. -/
theorem MapE.put {w w' : World} {b n : Nat} {D : DataW Value} {bs : List Bd} {x : Int} {nv : Value} {s v : Int} {k : Fo} (hn : n ≤ bs.length) (hz : Maps.size D = bs.length) (hx : ∀ x : Int, (Lit.int .i64 x).wf = true →
    (sv bs x = none → Maps.has D (.int .i64 x) = false) ∧ ∀ s v k, sv bs x = some (s, v, k) → Maps.has D (.int .i64 x) = true ∧ ∃ nv, D.atKey (.int .i64 x) (.held .nilIface) = .held nv ∧ NodeIs w 0 w.heap.size nv s v k)
    (hm : w.ownsMap Try.prog 95 rdV b n D) (hw : w'.ownsMap Try.prog 95 rdV b (n + 1) (D.put (.int .i64 x) (.held nv))) (hg : w.grownBy w' (some b)) (hwf : (Lit.int .i64 x).wf = true) (hv : sv bs x = none) (hnv : NodeIs w 0 w.heap.size nv s v k) : MapE w' b (ladd bs (x, s, v, k)) := by
  have hk := cells_keep hm hg
  have hD := (hm.tidy law).isMap
  refine ⟨n + 1, _, hw, by rw [ladd_len]; omega, ?_, fun y hy => ?_⟩
  · rw [size_put (hm.tidy law), (hx x hwf).1 hv, ladd_len, ← hz]; rfl
  rw [sv_ladd (b := (x, s, v, k)) hv]
  by_cases e : x = y
  · subst e
    rw [if_pos rfl]
    refine ⟨fun h => (by cases h), fun s' v' k' h => ?_⟩
    simp only [Option.some.injEq, Prod.mk.injEq] at h
    obtain ⟨rfl, rfl, rfl⟩ := h
    exact ⟨has_put_same hD (by trivial) _, nv, atKey_put_same hD (by trivial) _ _, (hnv.keep hk).mono (Nat.le_refl _) hg.size⟩
  · rw [if_neg (by exact e)]
    have hne : (Lit.int .i64 y) ≠ (Lit.int .i64 x) := by intro h; simp only [Lit.int.injEq, true_and] at h; exact e h.symm
    refine ⟨fun h => ?_, fun s' v' k' h => ?_⟩
    · rw [has_put_other hne]; exact (hx y hy).1 h
    · obtain ⟨h1, nv', h2, h3⟩ := (hx y hy).2 s' v' k' h
      exact ⟨by rw [has_put_other hne]; exact h1, nv', by rw [atKey_put_other hne]; exact h2, (h3.keep hk).mono (Nat.le_refl _) hg.size⟩
theorem take_nm {ys : List Int} {j : Nat} {y : Int} (h : ys[j]? = some y) (bs : List Bd) : nmL bs (ys.take (j + 1)) = nm1 (nmL bs (ys.take j)) y := by
  rw [List.take_add_one, h, nmL_app]; rfl

def PoPost (s v : Int) (k : Fo) (w : World) (e : Ending) (w' : World) : Prop := ∃ b, e = .returned (.map (some b)) ∧ Below w.heap.size w w' ∧ MapE w' b (nms s v k)

set_option maxRecDepth 100000 in
set_option maxHeartbeats 2000000 in
theorem plainOf_any (s v : Int) (k : Fo) (nv : Value) (w : World) (hn : NodeIs w 0 w.heap.size nv s v k) (hsz : fsz k ≤ 100) (hin : ∀ x ∈ fvs s v k, 0 ≤ x ∧ x ≤ 11) :
    Calls Try.prog 36 #[nv] w (PoPost s v k w) := by
  have hb0 : Below w.heap.size w (w.alloc (.map #[] 0)) := (Below.refl _ _).alloc (Nat.le_refl _) _
  have HW0 := Lib.hid hb0
  have HN0 : Hid (NodeIs (w.alloc (.map #[] 0)) 0 (w.alloc (.map #[] 0)).heap.size nv s v k) := (hn.below hb0).mono (Nat.le_refl _) hb0.size
  have HM0 := Lib.hid (MapE.start w)
  have HIN := Lib.hid hin
  have hmm := @run_makeMap Try.prog
  have hz := zeroE
  have hvz := fvs_sz s v k
  clear hb0 hn hin
  go_enter Try.func36, Try.ntmps36
  have HC : Hid (Calls Try.prog 42 #[.slice none 0 0, nv] (w.alloc (.map #[] 0)) (AvPost (w.alloc (.map #[] 0)).heap.size [] s v k (w.alloc (.map #[] 0)))) := addVars_any (w.alloc (.map #[] 0)).heap.size (fsz k) s v k nv [] none 0 _ (Nat.le_refl _) HN0.out (World.ownsRow_nil _ _ _ _) (Nat.le_refl _) (by omega) (by simp; omega)
  go_wp2_with fail
  with_reducible refine HC.out.mono ?_
  rintro e w1 ⟨ys, A, C, hys, rfl, hio, hb1⟩
  have HYS : Hid (ys = fvs s v k) := by rw [Hid, hys]; rfl
  have hyl : ys.length ≤ 101 := by rw [HYS.out]; omega
  have HI : Hid (ISl w1 0 w1.heap.size A ys) := hio.sl.mono (Nat.zero_le _) (Nat.le_refl _)
  have HW1 := Lib.hid (below_next HW0.out hb1)
  have HM1 := Lib.hid (HM0.out.below hb1)
  have hs1 := hb1.size
  simp at hs1
  clear hys hio hb1 HC HM0 HN0 HW0
  go_wp2_with fail
  go_loopw [12] (fun i wr => ∃ j : Nat, i = .int .i64 j ∧ j ≤ ys.length ∧ Hid (MapE wr w.heap.size (nmL [] (ys.take j))) ∧ Hid (Kp w.heap.size w1 wr)) (fun i _ => ys.length - (intOf i).toNat)
  case atStart => exact ⟨0, rfl, Nat.zero_le _, HM1, Kp.refl _ _⟩
  case round =>
    clear HM1
    obtain ⟨j, rfl, hj, HM, HK⟩ := hrel
    by_cases hlt : j < ys.length
    · obtain ⟨rb, ro, rfl, y, hy, hc⟩ : ∃ rb ro, A = some ⟨rb, ro, none⟩ ∧ ∃ y, ys[j]? = some y ∧ wr.cell? ⟨rb, ro + j, none⟩ = some (.int .i64 y) := by
        obtain ⟨y, hy⟩ : ∃ y, ys[j]? = some y := ⟨ys[j], List.getElem?_eq_getElem hlt⟩
        rcases HI.out with h | ⟨rb, ro, e, h⟩
        · rw [h] at hlt; simp at hlt
        · exact ⟨rb, ro, e, y, hy, HK.out.cell _ _ (h.2.2 j y hy)⟩
      have hyin := HIN.out y (by rw [← HYS.out]; exact List.mem_of_getElem? hy)
      have HWF : Hid ((Lit.int .i64 y).wf = true) := WalkArith.wf_i64 (by omega)
      have HT := Lib.hid (take_nm hy [])
      have hln : (nmL [] (ys.take j)).length ≤ 101 := by have h1 := (nmL_len (ys.take j) []).2; have h2 : (ys.take j).length ≤ j := List.length_take_le _ _; simp at h1; omega
      have HLN := Lib.hid hln
      obtain ⟨n, D, hown, hnl, hsd, hsv⟩ := HM.out
      have HOWN := Lib.hid hown
      have HKEY := Lib.hid (key_of HWF.out)
      have hx := hsv y HWF.out
      have HSV := Lib.hid hsv
      have HNL := Lib.hid hnl
      have HSD := Lib.hid hsd
      have g1 : (0 : Int) ≤ (j : Int) := by omega
      have g2 : (j : Int) < (ys.length : Int) := by omega
      clear hown hsv hy hln hnl hsd
      cases hs : sv (nmL [] (ys.take j)) y with
      | some u =>
        obtain ⟨s1, v1, k1⟩ := u
        obtain ⟨hh, nv0, hat, hnode⟩ := hx.2 s1 v1 k1 hs
        have HM2 : Hid (MapE wr w.heap.size (nmL [] (ys.take (j + 1)))) := by rw [Hid, HT.out, nm1_some hs]; exact HM.out
        clear hx hs hnode hat
        go_wp2_with (at_lookup; refine wpList_lookup_own_ok (H := Value) _ rfl _ _ 62 rfl 95 58 law underM rdV (zeroE _) (.held .nilIface) [] rfl w.heap.size n D rfl HOWN.out (.int .i64 y) (.int .i64 y) rfl HKEY.out ?_; intro nv9 ps hnv; rw [hh]; clear hnv)
        go_roundw
        case rel => exact ⟨j + 1, by go_num, by omega, HM2, HK⟩
        case measure => simp [intOf]; omega
      | none =>
        have hh := hx.1 hs
        have HS := Lib.hid hs
        have HT2 : Hid (nmL [] (ys.take (j + 1)) = ladd (nmL [] (ys.take j)) (y, 0, (Maps.size D : Int), .nil)) := by rw [Hid, HT.out, nm1_none hs, HSD.out]
        have hn12 : n < 1000 := by have h1 := HNL.out; have h2 := HLN.out; omega
        have hnm : n < maxLen := by unfold maxLen; omega
        have HBW : Hid (w.heap.size ≤ wr.heap.size) := by have := HK.out.low.size; show _ ≤ _; omega
        clear hx hs
        go_wp2_with (first | (at_lookup; refine wpList_lookup_own_ok (H := Value) _ rfl _ _ 62 rfl 95 58 law underM rdV (zeroE _) (.held .nilIface) [] rfl w.heap.size n D rfl HOWN.out (.int .i64 y) (.int .i64 y) rfl HKEY.out ?_; intro nv9 ps hnv; rw [hh]; clear hnv) | (at_len; refine wpList_len_own _ rfl _ 62 rfl 95 58 underM _ w.heap.size n D rfl HOWN.out ?_) | (at_mapUpdate; refine wpList_mapUpdate_own (H := Value) _ rfl _ _ _ 62 rfl 95 58 law underM rdV w.heap.size n D rfl HOWN.out hnm (.int .i64 y) (.iface 95 (.int .i64 (Maps.size D))) (.int .i64 y) rfl rfl HKEY.out (.held (.iface 95 (.int .i64 (Maps.size D)))) [] rfl ?_; intro w3 hown3 hgrow3; have HM3 := Lib.hid (MapE.put (s := 0) (v := (Maps.size D : Int)) (k := .nil) HNL.out HSD.out HSV.out HOWN.out hown3 hgrow3 HWF.out HS.out (.inl ⟨rfl, rfl, rfl⟩)); have HK3 : Hid (Kp w.heap.size w1 w3) := HK.out.trans ⟨(Below.refl _ _).grown hgrow3 HBW.out (fun g hg => by cases hg; exact Nat.le_refl _), cells_keep HOWN.out hgrow3⟩; clear hown3 hgrow3))
        go_roundw
        case rel => exact ⟨j + 1, by go_num, by omega, by rw [HT2.out]; exact HM3, HK3⟩
        case measure => simp [intOf]; omega
    · have HF : Hid (nmL [] (ys.take j) = nms s v k) := by rw [Hid, List.take_of_length_le (by omega), HYS.out]; rfl
      have HP : Hid (PoPost s v k w (.returned (.map (some w.heap.size))) wr) := ⟨w.heap.size, rfl, HW1.out.trans HK.out.low, by rw [← HF.out]; exact HM.out⟩
      go_wp2_with fail
      go_ret
      exact HP.out

def PlnPost (s v : Int) (k : Fo) (w : World) (e : Ending) (w' : World) : Prop :=
  ∃ a c A C s' v' k' bs, plR s v k = ((s', v', k'), bs) ∧ e = .returned (.tuple #[.agg #[.int .i64 s', .int .i64 v', .slice a (flen k') c], .slice A (List.length bs) C]) ∧ Below w.heap.size w w' ∧ Sl w' 0 w'.heap.size a k' ∧ BSl w' 0 w'.heap.size A bs
theorem pl_end {w w1 : World} {s v s' v' : Int} {k k' : Fo} {a A : Option Addr} {c C : Nat} {bs : List Bd} {o o' : Obj} (hr : plR s v k = ((s', v', k'), bs)) (hb : Below (w.heap.size + 2) ((w.alloc o).alloc o') w1) (hl : Sl w1 (w.heap.size + 2) w1.heap.size a k') (hi : BSl w1 (w.heap.size + 2) w1.heap.size A bs) (x y z : Value) :
    PlnPost s v k w (.returned (.tuple #[.agg #[.int .i64 s', .int .i64 v', .slice a (flen k') c], .slice A (List.length bs) C])) (((w1.setCell ⟨w.heap.size + 1, 0, none⟩ x).setCell ⟨w.heap.size + 1, 1, none⟩ y).setCell ⟨w.heap.size + 1, 2, none⟩ z) := by
  have h0 : Same (w.heap.size + 2) w1.heap.size w1 (((w1.setCell ⟨w.heap.size + 1, 0, none⟩ x).setCell ⟨w.heap.size + 1, 1, none⟩ y).setCell ⟨w.heap.size + 1, 2, none⟩ z) := ((Same.setCell (fun _ _ _ => rfl) (.inl (by simp)) _).setCell (.inl (by simp)) _).setCell (.inl (by simp)) _
  have hb' : Below w.heap.size w w1 := (((Below.refl _ _).alloc (Nat.le_refl _) o).alloc (by simp) o').trans (hb.mono (by omega))
  exact ⟨a, c, A, C, s', v', k', bs, hr, rfl, ((hb'.setCell (by simp) _).setCell (by simp) _).setCell (by simp) _, (hl.same h0).mono (by omega) (by simp), (hi.same h0).mono (by omega) (by simp)⟩
theorem plR_bad {s v : Int} {k : Fo} (h : okW s v k 16 = false) : plR s v k = ((0, 0, .nil), []) := by unfold plR; rw [if_neg (by rw [h]; simp)]
theorem plR_ok {s v : Int} {k : Fo} (h : okW s v k 16 = true) : plR s v k = (tsub (sv (nms s v k)) s v k, nms s v k) := by unfold plR; rw [if_pos h]

set_option maxRecDepth 100000 in
set_option maxHeartbeats 2000000 in
theorem iTermPlain_any (s v : Int) (a : Option Addr) (c : Nat) (k : Fo) (w : World) (hl : Sl w 0 w.heap.size a k) :
    Calls Try.prog 11 #[.agg #[.int .i64 s, .int .i64 v, .slice a (flen k) c]] w (PlnPost s v k w) := by
  have hb0 : Below w.heap.size w ((w.alloc (.cells #[.int .i64 s, .int .i64 v, .slice a (flen k) c] 25)).alloc (.cells #[.int .i64 0, .int .i64 0, .slice none 0 0] 25)) := ((Below.refl _ _).alloc (Nat.le_refl _) _).alloc (by simp) _
  have HL0 := Lib.hid (hl.next hb0)
  have HB0 : Hid (Below (w.heap.size + 2) ((w.alloc (.cells #[.int .i64 s, .int .i64 v, .slice a (flen k) c] 25)).alloc (.cells #[.int .i64 0, .int .i64 0, .slice none 0 0] 25)) ((w.alloc (.cells #[.int .i64 s, .int .i64 v, .slice a (flen k) c] 25)).alloc (.cells #[.int .i64 0, .int .i64 0, .slice none 0 0] 25))) := Below.refl _ _
  have hsz : w.heap.size + 2 ≤ ((w.alloc (.cells #[.int .i64 s, .int .i64 v, .slice a (flen k) c] 25)).alloc (.cells #[.int .i64 0, .int .i64 0, .slice none 0 0] 25)).heap.size := by simp
  clear hb0 hl
  go_enter Try.func11, Try.ntmps11
  go_wp2_with fail
  with_reducible refine (nodeOf_any s v a c k 16 _ HL0.out (by omega) (by omega)).mono ?_
  rintro e w1 ⟨nv, rfl, hb1, hyes⟩
  have hb1' := HB0.out.trans (hb1.mono hsz)
  have hs1 : w.heap.size + 2 ≤ w1.heap.size := Nat.le_trans hsz hb1.size
  have HB1 := Lib.hid hb1'
  have HY := Lib.hid hyes
  clear hb1 hyes HB0 hsz HL0
  cases hok : okW s v k 16 with
  | false =>
    obtain ⟨_, _, _, hr3, hr4, hr5⟩ := tb_cellsS hb1'
    obtain ⟨_, hf3⟩ := tb_freeS hb1' 0 rfl rfl
    obtain ⟨_, hf4⟩ := tb_freeS hb1' 1 rfl rfl
    obtain ⟨_, hf5⟩ := tb_freeS hb1' 2 rfl rfl
    have HR := Lib.hid (plR_bad hok)
    clear hok hb1'
    go_wp2_with fail
    refine bodyPost_ret (v := .tuple #[.agg #[.int .i64 0, .int .i64 0, .slice none 0 0], .slice none 0 0]) ?_ rfl (pl_end (k' := .nil) (bs := []) HR.out HB1.out (.inl rfl) (.inl rfl) _ _ _)
    simp [results, Try.results11, go_sem, hr3, hr4, hr5]
  | true =>
    have HOK := Lib.hid hok
    obtain ⟨o1, o2, o3⟩ := (okW_iff _ _ _ _).1 hok
    have HO1 := Lib.hid o1
    have HO2 := Lib.hid o2
    have HN1 : Hid (NodeIs w1 0 w1.heap.size nv s v k) := (HY.out hok).mono (Nat.zero_le _) (Nat.le_refl _)
    have HFI := Lib.hid (fvs_in hok)
    have HR := Lib.hid (plR_ok hok)
    clear hok o1 o2 hb1' HY
    go_wp2_with fail
    with_reducible refine (plainOf_any s v k nv _ HN1.out (by omega) HFI.out).mono ?_
    rintro e w2 ⟨b, rfl, hb2, hm2⟩
    have HB2 := Lib.hid (HB1.out.trans (hb2.mono hs1))
    have HN2 : Hid (NodeIs w2 0 w2.heap.size nv s v k) := (HN1.out.below hb2).mono (Nat.le_refl _) hb2.size
    have hs2 := hb2.size
    have HM2 := Lib.hid hm2.to
    clear hb2 hm2 HN1 HB1
    obtain ⟨i1, i2, i3, i4, i5⟩ := nms_in HOK.out
    have HBI := Lib.hid (binds_any (nms s v k) b 16 w2 HM2.out i1 (fun x hx => HFI.out x ((i3 x).1 hx)) ((nms_bof HOK.out).mono (by omega)))
    have HFIT := Lib.hid (fits_of i1 ((nms_bof HOK.out).mono (by omega)))
    clear i1 i2 i3 i4 i5
    go_wp2_with fail
    with_reducible refine HBI.out.mono ?_
    rintro e w3 ⟨hb3, hc3⟩
    rcases hc3 with ⟨_, A, C, rfl, ho⟩ | ⟨hno, _⟩
    case inr => rw [HFIT.out] at hno; cases hno
    have HB3 := Lib.hid (HB2.out.trans (hb3.mono (by omega)))
    have HN3 : Hid (NodeIs w3 0 w3.heap.size nv s v k) := (HN2.out.below hb3).mono (Nat.le_refl _) hb3.size
    have HM3 := Lib.hid (HM2.out.below hb3)
    have HS3 : Hid (BSl w3 (w.heap.size + 2) w3.heap.size A (nms s v k)) := ho.bsl.mono (by omega) (Nat.le_refl _)
    have hs3 := hb3.size
    clear hb3 ho HN2 HM2 HB2 HBI HFIT
    go_wp2_with fail
    with_reducible refine (apply_any (nms s v k) b s v k nv _ HN3.out HM3.out HO1.out HO2.out (by omega)).mono ?_
    obtain ⟨t1, t2, t3⟩ := tsub_ok (nms_sok HOK.out) HOK.out
    have HT1 := Lib.hid t1
    have HT2 := Lib.hid t2
    clear t1 t2
    generalize htt : tsub (sv (nms s v k)) s v k = tt at *
    obtain ⟨s', v', k'⟩ := tt
    dsimp only at HT1 HT2 t3
    rintro e w4 ⟨nv', rfl, hb4, hn'⟩
    dsimp only at hn'
    have hs4 := hb4.size
    have HB4 := Lib.hid (HB3.out.trans (hb4.mono (by omega)))
    have HS4 : Hid (BSl w4 (w.heap.size + 2) w4.heap.size A (nms s v k)) := (HS3.out.below hb4).mono (Nat.le_refl _) hs4
    clear hb4 HB3 HN3 HM3 HS3 htt
    rcases hn' with ⟨rfl, rfl, rfl⟩ | ⟨hs', a5, c5, rfl, hn2⟩
    · go_wp2_with fail
      refine upon_method 113 (by kernel_rfl) (by kernel_rfl) ?_
      go_simp
      with_reducible refine (varTerm_any v' _).mono ?_
      rintro e w6 ⟨a6, c6, rfl, hb6, hl6⟩
      have hs6 := hb6.size
      have hb6' := HB4.out.trans (hb6.mono (by omega))
      have HBE := Lib.hid hb6'
      have HSE : Hid (BSl w6 (w.heap.size + 2) w6.heap.size A (nms s v k)) := (HS4.out.below hb6).mono (Nat.le_refl _) hs6
      obtain ⟨_, _, _, hr3, hr4, hr5⟩ := tb_cellsS hb6'
      obtain ⟨_, hf3⟩ := tb_freeS hb6' 0 rfl rfl
      obtain ⟨_, hf4⟩ := tb_freeS hb6' 1 rfl rfl
      obtain ⟨_, hf5⟩ := tb_freeS hb6' 2 rfl rfl
      have HL6 := Lib.hid (hl6.mono (lo' := w.heap.size + 2) (by omega) (Nat.le_refl _))
      clear hb6 hl6 hb6'
      go_wp2_with fail
      refine bodyPost_ret (v := .tuple #[.agg #[.int .i64 0, .int .i64 v', .slice a6 (flen .nil) c6], .slice A (nms s v k).length C]) ?_ rfl (pl_end HR.out HBE.out HL6.out HSE.out _ _ _)
      simp [results, Try.results11, go_sem, hr3, hr4, hr5]
    · have hv0 : v' = 0 := ((okN_iff _ _ _).1 HT1.out).2.2 hs'
      subst hv0
      have HNS := Lib.hid hn2
      clear hn2
      go_wp2_with fail
      refine upon_method 129 (by kernel_rfl) (by kernel_rfl) ?_
      go_simp
      with_reducible refine (symTerm_any (fsz k') s' a5 c5 k' _ HNS.out HT2.out (Nat.le_refl _) (by omega)).mono ?_
      rintro e w6 ⟨a6, c6, rfl, hb6, hl6⟩
      have hs6 := hb6.size
      have hb6' := HB4.out.trans (hb6.mono (by omega))
      have HBE := Lib.hid hb6'
      have HSE : Hid (BSl w6 (w.heap.size + 2) w6.heap.size A (nms s v k)) := (HS4.out.below hb6).mono (Nat.le_refl _) hs6
      obtain ⟨_, _, _, hr3, hr4, hr5⟩ := tb_cellsS hb6'
      obtain ⟨_, hf3⟩ := tb_freeS hb6' 0 rfl rfl
      obtain ⟨_, hf4⟩ := tb_freeS hb6' 1 rfl rfl
      obtain ⟨_, hf5⟩ := tb_freeS hb6' 2 rfl rfl
      have HL6 := Lib.hid (hl6.mono (lo' := w.heap.size + 2) (by omega) (Nat.le_refl _))
      clear hb6 hl6 hb6'
      go_wp2_with fail
      refine bodyPost_ret (v := .tuple #[.agg #[.int .i64 s', .int .i64 0, .slice a6 (flen k') c6], .slice A (nms s v k).length C]) ?_ rfl (pl_end HR.out HBE.out HL6.out HSE.out _ _ _)
      simp [results, Try.results11, go_sem, hr3, hr4, hr5]
end Go.Proofs.Ytlaaihnokoeliab

/-! SP3: The specification's l2Put: what variables stand for put in. -/
namespace Go.Proofs.Ytlaaihnokoeliab
open Go.RowKit Go.Deep
attribute [local go_sem ↓] Go.wp_at_zero Go.wp_at_succ

theorem cpS_start (σ : Int → Option (Int × Int × Fo)) (w : World) (s : Int) (a : Option Addr) (c : Nat) (k : Fo) : CpAt w s 0 a c (fsub σ k) 0 none 0 (((w.alloc (.cells #[.int .i64 s, .int .i64 0, .slice a (flen k) c] 25)).alloc (.cells #[.int .i64 0, .int .i64 0, .slice none 0 0] 25)).alloc (.cells #[.int .i64 s, .int .i64 0, .slice none 0 0] 25)) := by
  have h := CpAt.start w s 0 a c (fsub σ k)
  rw [fsub_len] at h
  exact h

theorem put_end0 {w w1 w2 : World} {s' v' : Int} {k' : Fo} {a : Option Addr} {c : Nat} {Y Z : Obj} (hb1 : Below ((w.alloc Y).alloc Z).heap.size ((w.alloc Y).alloc Z) w1) (hb : Below w1.heap.size w1 w2) (ho : Own w2 w1.heap.size k' (flen k') a c) (p q r : Value) :
    CopyPost s' v' k' w (.returned (.agg #[.int .i64 s', .int .i64 v', .slice a (flen k') c])) (((w2.setCell ⟨w.heap.size + 1, 0, none⟩ p).setCell ⟨w.heap.size + 1, 1, none⟩ q).setCell ⟨w.heap.size + 1, 2, none⟩ r) := by
  have h1 := hb1.size
  simp at h1
  have h2 := hb.size
  have hb2 : Below w.heap.size w w2 := ((((Below.refl _ _).alloc (Nat.le_refl _) Y).alloc (by simp) Z).trans (hb1.mono (by simp; omega))).trans (hb.mono (by omega))
  refine ⟨a, c, rfl, ((hb2.setCell (by simp) _).setCell (by simp) _).setCell (by simp) _, ?_⟩
  exact (((ho.store (by simp; omega) p).store (by simp; omega) q).store (by simp; omega) r).low (Below.refl _ _) (by omega)

set_option maxRecDepth 100000 in
set_option maxHeartbeats 1000000 in
theorem l2Put_any (bs : List Bd) (A0 : Option Addr) (C0 : Nat) (hbl : bs.length ≤ 9223372036854775807) (hbz : ∀ x t, sv bs x = some t → fsz t.2.2 ≤ 1000000) (N : Nat) : ∀ (s v : Int) (a : Option Addr) (c : Nat) (k : Fo) (w : World), BSl w 0 w.heap.size A0 bs → Sl w 0 w.heap.size a k → okN s v (flen k) = true → fok k = true → fsz k ≤ N → N ≤ 1000 →
    Calls Try.prog 34 #[.slice A0 bs.length C0, .agg #[.int .i64 s, .int .i64 v, .slice a (flen k) c]] w (CopyPost (tsub (sv bs) s v k).1 (tsub (sv bs) s v k).2.1 (tsub (sv bs) s v k).2.2 w) := by
  induction N using Nat.strongRecOn with
  | _ N ih =>
    intro s v a c k w hbs hl hok hfk hN hN2
    have hfl := flen_le_sz k
    have IH := Lib.hid ih
    have HFK := Lib.hid hfk
    have HBS := Lib.hid hbs
    have HBZ := Lib.hid hbz
    clear ih hfk hbs hbz
    by_cases hs0 : s = 0
    · subst hs0
      have hk0 : k = .nil := by
        have h1 := ((okN_iff _ _ _).1 hok).1
        cases k with
        | nil => rfl
        | node _ _ _ _ r => simp [flen, ar] at h1; omega
      subst hk0
      have hb0 : Below w.heap.size w ((w.alloc (.cells #[.int .i64 0, .int .i64 v, .slice a (flen .nil) c] 25)).alloc (.cells #[.int .i64 0, .int .i64 0, .slice none 0 0] 25)) := ((Below.refl _ _).alloc (Nat.le_refl _) _).alloc (by simp) _
      have HB1 : Hid (BSl ((w.alloc (.cells #[.int .i64 0, .int .i64 v, .slice a (flen .nil) c] 25)).alloc (.cells #[.int .i64 0, .int .i64 0, .slice none 0 0] 25)) 0 ((w.alloc (.cells #[.int .i64 0, .int .i64 v, .slice a (flen .nil) c] 25)).alloc (.cells #[.int .i64 0, .int .i64 0, .slice none 0 0] 25)).heap.size A0 bs) := (HBS.out.below hb0).mono (Nat.le_refl _) hb0.size
      have HZ : Hid (fsz (tsub (sv bs) 0 v .nil).2.2 ≤ 1000000) := by
        rw [Hid, tsub, if_pos rfl]
        cases h : sv bs v with
        | none => simp [fsz]
        | some t => exact HBZ.out v t h
      clear hb0 hok hl
      go_enter Try.func34, Try.ntmps34
      go_wp2_with fail
      with_reducible refine (l2Of_any bs A0 C0 v _ HB1.out hbl).mono ?_
      rintro e w1 ⟨a1, c1, rfl, hb1, hl1⟩
      generalize tsub (sv bs) 0 v .nil = tt at *
      obtain ⟨s', v', k'⟩ := tt
      dsimp only at hl1 HZ ⊢
      have HB2 := Lib.hid hb1
      have HL1 := Lib.hid hl1
      clear hb1 hl1
      go_wp2_with fail
      with_reducible refine (l1Copy_any (fsz k') s' v' a1 c1 k' _ HL1.out (Nat.le_refl _) HZ.out).mono ?_
      rintro e w2 ⟨a2, c2, rfl, hb2, ho2⟩
      have hs1 := HB2.out.size
      simp at hs1
      have hbx := (HB2.out.mono (show w.heap.size + 2 ≤ _ by simp)).trans (hb2.mono (show w.heap.size + 2 ≤ w1.heap.size by omega))
      obtain ⟨_, _, _, hr0, hr1, hr2⟩ := tb_cellsS hbx
      obtain ⟨_, hf0⟩ := tb_freeS hbx 0 rfl rfl
      obtain ⟨_, hf1⟩ := tb_freeS hbx 1 rfl rfl
      obtain ⟨_, hf2⟩ := tb_freeS hbx 2 rfl rfl
      clear hbx
      have HE := Lib.hid (fun p q r => put_end0 (s' := s') (v' := v') (k' := k') (c := c2) HB2.out hb2 ho2 p q r)
      clear hb2 ho2
      go_wp2_with fail
      refine bodyPost_ret (v := .agg #[.int .i64 s', .int .i64 v', .slice a2 (flen k') c2]) ?_ rfl (HE.out _ _ _)
      simp [results, Try.results34, go_sem, hr0, hr1, hr2]
    have hv0 : v = 0 := ((okN_iff _ _ _).1 hok).2.2 hs0
    subst hv0
    have HTT : Hid (tsub (sv bs) s 0 k = (s, 0, fsub (sv bs) k)) := by unfold Hid tsub; rw [if_neg hs0]
    have hse : (s == 0) = false := by simpa using hs0
    have hfl2 := fsub_len (sv bs) k
    rw [HTT.out]
    dsimp only
    clear hok
    have HST := Lib.hid (cpS_start (sv bs) w s a c k)
    go_enter Try.func34, Try.ntmps34
    go_wp2_with fail
    go_loopw [6] (fun i wr => ∃ (j : Nat) (A : Option Addr) (C : Nat), j ≤ flen k ∧ i = .int .i64 j ∧ CpAt w s 0 a c (fsub (sv bs) k) j A C wr) (fun i _ => flen k - (intOf i).toNat)
    case atStart => exact ⟨0, none, 0, Nat.zero_le _, rfl, HST.out⟩
    case round =>
      clear HST
      obtain ⟨j, A, C, hj, rfl, hat⟩ := hrel
      obtain ⟨hr0, hr1, hr2, hq0, hq1, hq2, hb0⟩ := hat.res
      rw [hfl2] at hb0
      have ho0 := hat.out0
      have ho1 := hat.out1
      have ho2 := hat.out2
      have hof := hat.free
      have hsz := hat.size
      by_cases hlt : j < flen k
      · clear hr0 hr1 hr2 hq0 hq1 hq2
        rcases hl with rfl | ⟨b, o, rfl, hrow⟩
        · simp [flen] at hlt
        have hbw := hat.low
        obtain ⟨s', v', kk, a', c', ⟨x, y, hd⟩, _, hbB, hk0, hk1, hk2, hsl⟩ := row_at (hrow.below hbw) hlt
        have hkN := Lib.hid (fsz_kid hd)
        have HD := Lib.hid (fsub_at (sv bs) j k hd)
        have HKID := Lib.hid (fok_kid HFK.out hd)
        have HBR : Hid (BSl wr.drew 0 wr.drew.heap.size A0 bs) := (HBS.out.below hbw.drew).mono (Nat.le_refl _) hbw.drew.size
        have HS := Lib.hid hsl
        have HROW := Lib.hid hrow
        have HAT := Lib.hid hat
        clear hd hsl hrow hat hbw
        have g1 : (0 : Int) ≤ (j : Int) := by omega
        have g2 : (j : Int) < (flen k : Int) := by omega
        obtain ⟨ti, hti, htz, hts, htb⟩ := Try.infoTerm
        obtain ⟨xs, hown, hall⟩ := HAT.out.own
        have HTI := Lib.hid hti
        have HTZ := Lib.hid htz
        have HTS := Lib.hid hts
        have HTB := Lib.hid htb
        have HOWN := Lib.hid hown
        have HALL := Lib.hid hall
        have HLT : Hid (∀ g, (Value.slice A j C).ownBlock = some g → w.heap.size + 3 ≤ g) := fun g hg => (hown.lt g hg).1
        clear hti htz hts htb hown hall
        have hu0 : ∀ u : After (w.heap.size + 3) wr, u.world.cell? ⟨w.heap.size + 1 + 1, 2, none⟩ = some (.slice A j C) := fun u => u.cell (by simp) ho2
        have hu1 : ∀ u : After (w.heap.size + 3) wr, u.world.cell? ⟨w.heap.size, 2, none⟩ = some (.slice (some ⟨b, o, none⟩) (flen k) c) := fun u => u.cell (by simp) hb0
        have hu2 : ∀ u : After (w.heap.size + 3) wr, u.world.cell? ⟨b, o + j * 3, none⟩ = some (.int .i64 s') := fun u => u.cell (by simp; omega) hk0
        have hu3 : ∀ u : After (w.heap.size + 3) wr, u.world.cell? ⟨b, o + j * 3 + 1, none⟩ = some (.int .i64 v') := fun u => u.cell (by simp; omega) hk1
        have hu4 : ∀ u : After (w.heap.size + 3) wr, u.world.cell? ⟨b, o + j * 3 + 2, none⟩ = some (.slice a' (flen kk) c') := fun u => u.cell (by simp; omega) hk2
        go_wp2_with fail
        refine wp_region_mix (fun w' => ∃ u : After (w.heap.size + 3) wr, w' = u.world) [11, 12] [(0, 0), (1, 0), (2, 0), (3, 0), (4, 0), (5, 0), (6, 0), (7, 0), (8, 1), (9, 1), (10, 1), (11, 2), (12, 2)] (by kernel_rfl) (by kernel_rfl) ⟨⟨_, (Below.refl _ _).drew⟩, rfl⟩ ?_
        iterate 8
          refine mix_see rfl (fun K hK => ?_)
          go_simp
          refine hK _ ?_
          clear hK K
        clear hu0 hu1 hu2 hu3 hu4
        refine mix_hold rfl (fun K hK => ?_)
        go_simp
        with_reducible refine (IH.out (fsz kk) (by have := hkN.out; omega) s' v' a' c' kk _ HBR.out ?_ HKID.out.1 HKID.out.2 (Nat.le_refl _) ?_).mono ?_
        · exact (HS.out.below (Below.refl _ _).drew).mono (Nat.le_refl _) (by simp; omega)
        · have := hkN.out; omega
        generalize tsub (sv bs) s' v' kk = tt at *
        obtain ⟨s3, v3, k3⟩ := tt
        dsimp only at HD
        rintro e w2 ⟨a2, c2, rfl, hb2', hown2⟩
        dsimp only at hown2
        have hb2 : Below wr.heap.size wr w2 := bl_undrew hb2'
        have HL2 : Hid (Sl w2 wr.heap.size w2.heap.size a2 k3) := hown2.sl
        have hs2 := hb2.size
        refine hK _ _ ⟨⟨_, hb2.mono (by omega)⟩, rfl⟩ ?_
        clear hK K hb2' hown2
        refine mix_hold rfl (fun K hK => ?_)
        go_simp
        refine hK _ _ ⟨⟨_, (hb2.mono (by omega)).alloc (by omega) _⟩, rfl⟩ ?_
        clear hK K
        refine mix_hold rfl (fun K hK => ?_)
        refine step_append_lies _ (by rfl) _ _ _ (by rfl) (w.heap.size + 3) 25 ti _ 3 40 Try.underlying23 HTI.out HTZ.out HTS.out HTB.out rfl (by omega) (.slice A j C) j xs (by rfl) (own_low ((Below.refl _ _).alloc (Nat.le_refl _) _) (own_low hb2 HOWN.out)) ⟨w2.heap.size, 0, none⟩ 1 1 [.int .i64 s3, .int .i64 v3, .slice a2 (flen k3) c2] (by rfl) (by rfl) (World.news_of_block (heap_alloc_new _ _)) (by simp [Value.oneCell']) (by omega) (by unfold maxLen; omega) (by omega) (by simp; omega) (w2.heap.size + 1) (by simp) ?_
        intro g cap w3 hown3 hgrow hatg hg3
        have hlow : Below (w.heap.size + 3) wr w3 := ((hb2.mono (by omega)).alloc (by omega) _).grown hgrow (by simp; omega) HLT.out
        have hz2 : w3.cell? ⟨w.heap.size + 1 + 1, 2, none⟩ = some (.slice A j C) := by rw [hlow.cell (by simp)]; exact ho2
        have hz3 : w3.frozen? ⟨w.heap.size + 1 + 1, 2, none⟩ = false := by rw [hlow.frozen (by simp)]; exact hof
        have HSTEP := Lib.hid (HAT.out.step hb2 HL2.out HD.out HOWN.out HALL.out hown3 hgrow hatg)
        refine hK _ _ ⟨⟨_, hlow⟩, rfl⟩ ?_
        clear hK K hown3 hgrow hatg
        refine mix_late rfl (fun K hK => ?_)
        go_simp
        refine hK _ _ ?_
        clear hK K
        refine mix_late rfl (fun K hK => ?_)
        go_simp
        refine hK _ _ ?_
        clear hK K
        refine mix_end ?_
        clear hz2 hz3 hlow hb0 ho0 ho1 ho2 hof hk0 hk1 hk2
        go_wp2_with fail
        go_roundw
        case rel => exact ⟨j + 1, _, _, by omega, by go_num, HSTEP.out⟩
        case measure => simp [intOf]; omega
      · have hjk : j = flen k := by omega
        subst hjk
        have HDN : Hid (∀ x y z, CopyPost s 0 (fsub (sv bs) k) w (.returned (.agg #[.int .i64 s, .int .i64 0, .slice A (flen k) C])) (((wr.setCell ⟨w.heap.size + 1, 0, none⟩ x).setCell ⟨w.heap.size + 1, 1, none⟩ y).setCell ⟨w.heap.size + 1, 2, none⟩ z)) := fun x y z => by
          rw [← hfl2] at hat ⊢
          exact hat.done x y z
        clear hat
        go_wp2_with fail
        refine bodyPost_ret (v := .agg #[.int .i64 s, .int .i64 0, .slice A (flen k) C]) ?_ rfl (HDN.out _ _ _)
        simp [results, Try.results34, go_sem, hr0, hr1, hr2]
end Go.Proofs.Ytlaaihnokoeliab
