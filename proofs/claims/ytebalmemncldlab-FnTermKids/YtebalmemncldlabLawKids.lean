/- For every code, laws.FnTermKids answers true and writes nothing that was there. No condition. -/
import Derived.Test.YtebalmemncldlabP6
import Derived.Test.YtebalmemncldlabLS0
namespace Go.Proofs.Ytebalmemncldlab
open Go.RowKit Go.Deep

set_option maxRecDepth 100000 in
set_option maxHeartbeats 1000000 in
theorem lawKids_walk (a : Option Addr) (len cap : Nat) (w : World) (hby : Bytes w a len) (hlen : len ≤ cap) :
    Calls Try.prog 4 #[.slice a len cap] w fun e w' => e = .returned (.bool true) ∧ Below w.heap.size w w' := by
  have HBY := Lib.hid hby
  clear hby
  by_cases hbig : 1048576 < len
  · go_enter Try.func4, Try.ntmps4
    go_wp2_with fail
    go_ret
    exact ⟨rfl, Below.refl _ _⟩
  go_enter Try.func4, Try.ntmps4
  go_wp2_with fail
  with_reducible refine (DrawTermPlaces_any a len cap _ HBY.out hlen).mono ?_
  rintro e w1 ⟨s, v, a1, c1, k, rfl, hS, hb1, hl1⟩
  have hs1 := hb1.size
  have HB1 := Lib.hid (hb1.alloc hs1 (.cells #[.int .i64 s, .int .i64 v, .slice a1 (flen k) c1] 25))
  have HL1 := Lib.hid ((hl1.mono (Nat.zero_le _) (Nat.le_refl _)).low ((Below.refl _ _).alloc (Nat.le_refl _) (.cells #[.int .i64 s, .int .i64 v, .slice a1 (flen k) c1] 25)))
  clear hb1 hl1
  go_wp2_with fail
  with_reducible refine (iTermPlaces_any s v a1 c1 k _ HL1.out).mono ?_
  rintro e w2 ⟨A2, C2, rows, rfl, hrows, hb2, hr2⟩
  have hb2' : Below (w1.heap.size + 1) (w1.alloc (.cells #[.int .i64 s, .int .i64 v, .slice a1 (flen k) c1] 25)) w2 := by simpa using hb2
  obtain ⟨hc0, hc1, hc2⟩ := box_cells ⟨w2, hb2'⟩
  dsimp only at hc0 hc1 hc2
  have hs2 := hb2'.size
  simp at hs2
  have HL2 := Lib.hid (HL1.out.low hb2)
  have HB2 := Lib.hid hb2'
  have HR2 := Lib.hid hr2
  clear hb2 hb2' hr2
  have HD : Hid (∀ r ∈ rows, r.length ≤ 2000) := by
    intro r hr
    rw [hrows] at hr
    split at hr
    · rename_i hok
      have := places_deep hr
      have := ((okW_iff _ _ _ _).1 hok).2.2
      omega
    · simp at hr
  have hrl : rows.length ≤ 2000 := by
    rw [hrows]
    split
    · rename_i hok
      rw [places_len]
      have := ((okW_iff _ _ _ _).1 hok).2.2
      omega
    · simp
  have HROWS := Lib.hid hrows
  clear hrows
  go_wp2_with fail
  with_reducible refine (sTermPlaces_any s v a1 c1 k _ HL2.out).mono ?_
  rintro e w3 ⟨A3, C3, rows3, rfl, hrows3, hb3, hr3⟩
  have e3 : rows3 = rows := by rw [hrows3, HROWS.out]
  subst e3
  clear hrows3
  have hs3 := hb3.size
  have HR2' := Lib.hid ((HR2.out.below hb3).mono (lo' := 0) (Nat.zero_le _) hs3)
  have HR3 := Lib.hid (hr3.mono (lo' := 0) (Nat.zero_le _) (Nat.le_refl _))
  have HB3 := Lib.hid (HB2.out.trans (hb3.mono (by omega)))
  have HL3 := Lib.hid (HL2.out.low hb3)
  clear hb3 hr3 hc0 hc1 hc2
  go_wp2_with fail
  with_reducible refine (laRows_same rows3 A2 A3 C2 C3 _ _ _ HR2'.out HR3.out rfl rfl hrl HD.out).mono ?_
  rintro e w4 ⟨rfl, hb4⟩
  have hs4 := hb4.size
  obtain ⟨hd0, hd1, hd2⟩ := box_cells ⟨w4, HB3.out.trans (hb4.mono (by omega))⟩
  dsimp only at hd0 hd1 hd2
  have HB4 := Lib.hid (HB3.out.trans (hb4.mono (by omega)))
  have HL4 := Lib.hid (HL3.out.low hb4)
  have HR4 := Lib.hid ((HR2'.out.below hb4).mono (lo' := 0) (Nat.zero_le _) hs4)
  clear hb4
  cases hok : okW s v k 16 with
  | false =>
    have hok' : Hid (okW s v k 16 = false) := hok
    clear hok
    go_wp2_with fail
    with_reducible refine (sTermOk_any s v a1 c1 k _ HL4.out).mono ?_
    rw [hok'.out]
    rintro e w5 ⟨rfl, hb5⟩
    have hs5 := hb5.size
    obtain ⟨he0, he1, he2⟩ := box_cells ⟨w5, HB4.out.trans (hb5.mono (by omega))⟩
    dsimp only at he0 he1 he2
    have HB5 := Lib.hid (HB4.out.trans (hb5.mono (by omega)))
    have HL5 := Lib.hid (HL4.out.low hb5)
    have HR5 := Lib.hid ((HR4.out.below hb5).mono (lo' := 0) (Nat.zero_le _) hs5)
    clear hb5 hd0 hd1 hd2
    go_wp2_with fail
    with_reducible refine (sTermPlaces_any s v a1 c1 k _ HL5.out).mono ?_
    rintro e w6 ⟨A6, C6, rows6, rfl, hrows6, hb6, hr6⟩
    have e6 : rows6 = rows3 := by rw [hrows6, HROWS.out]
    subst e6
    clear hrows6
    have hs6 := hb6.size
    have HR6 := Lib.hid ((HR5.out.below hb6).mono (lo' := 0) (Nat.zero_le _) hs6)
    have HR7 := Lib.hid (hr6.mono (lo' := 0) (Nat.zero_le _) (Nat.le_refl _))
    have HB6 := Lib.hid (HB5.out.trans (hb6.mono (by omega)))
    clear hb6 hr6 he0 he1 he2
    go_wp2_with fail
    with_reducible refine (laRows_same rows6 A2 A6 C2 C6 _ _ _ HR6.out HR7.out rfl rfl hrl HD.out).mono ?_
    rintro e w7 ⟨rfl, hb7⟩
    have HB7 := Lib.hid (HB6.out.trans (hb7.mono (by omega)))
    clear hb7
    go_wp2_with fail
    go_ret
    exact ⟨rfl, (HB1.out.trans (HB7.out.mono (by omega)))⟩
  | true =>
    have hok' : Hid (okW s v k 16 = true) := hok
    have hk2 : flen k ≤ 2 := okN_le ((okW_iff _ _ _ _).1 hok).1
    have hk16 := ((okW_iff _ _ _ _).1 hok).2.2
    have hre : rows3 = places k := by rw [HROWS.out, hok]; rfl
    clear hok
    subst hre
    go_wp2_with fail
    with_reducible refine (sTermOk_any s v a1 c1 k _ HL4.out).mono ?_
    rw [hok'.out]
    rintro e w5 ⟨rfl, hb5⟩
    have hs5 := hb5.size
    have HB5 := Lib.hid (HB4.out.trans (hb5.mono (by omega)))
    have HR5 := Lib.hid ((HR4.out.below hb5).mono (lo' := 0) (Nat.zero_le _) hs5)
    clear hb5 hd0 hd1 hd2
    obtain ⟨ti, hti, htz, hts, htb⟩ := Try.infoI
    obtain ⟨tj, hji, hjz, hjs, hjb⟩ := Try.infoIS
    have HTI : Hid (Try.prog.info? 3 = some ti ∧ ti.zero = some (.int .i64 0) ∧ ti.size = 1 ∧ ti.bytes = 8) := ⟨hti, htz, hts, htb⟩
    have HTJ : Hid (Try.prog.info? 33 = some tj ∧ tj.zero = some (.slice none 0 0) ∧ tj.size = 1 ∧ tj.bytes = 24) := ⟨hji, hjz, hjs, hjb⟩
    clear hti htz hts htb hji hjz hjs hjb
    have HST : Hid (ROwn ((w5.alloc (.cells #[] 3)).alloc (.cells #[.slice (some ⟨w5.heap.size, 0, none⟩) 0 0] 33)) w5.heap.size [[]] (some ⟨w5.heap.size + 1, 0, none⟩) 1) := rown_start (Below.refl _ _)
    have HB6 : Hid (Below w5.heap.size w5 ((w5.alloc (.cells #[] 3)).alloc (.cells #[.slice (some ⟨w5.heap.size, 0, none⟩) 0 0] 33))) := ((Below.refl _ _).alloc (Nat.le_refl _) _).alloc (by simp) _
    go_wp2_with fail
    go_loopw [5, 6] (fun t i wr => ∃ (j C : Nat) (A : Option Addr) (rows : List (List Int)), j ≤ flen k ∧ i = .int .i64 j ∧ t = .slice A rows.length C ∧ rows.length ≤ 1 + fsz k ∧ Hid (places k = rows ++ fpl (fdrop j k) j) ∧ ROwn wr w5.heap.size rows A C ∧ Below w5.heap.size w5 wr ∧ w5.heap.size + 2 ≤ wr.heap.size) (fun _ i _ => flen k - (intOf i).toNat)
    case atStart => exact ⟨0, 1, _, [[]], by omega, rfl, rfl, by simp, rfl, HST.out, HB6.out, by simp⟩
    case round =>
      clear HST HB6
      obtain ⟨wo, hwo⟩ : ∃ wo, wo = wr := ⟨_, rfl⟩
      subst hwo
      obtain ⟨j, C, A, rows, hj, rfl, rfl, hrl', hpl, hro, hbl, hsz⟩ := hrel
      have hb7 := HB5.out.trans (hbl.mono (show w1.heap.size + 1 ≤ w5.heap.size by omega))
      obtain ⟨hd0, hd1, hd2⟩ := box_cells ⟨wo, hb7⟩
      dsimp only at hd0 hd1 hd2
      by_cases hlt : j < flen k
      · have hslr := HL1.out.below (Below.mono hb7 (by simp))
        rcases hslr with rfl | ⟨b, o, rfl, hrow⟩
        · simp [flen] at hlt
        obtain ⟨s', v', kk, a', c', ⟨x, y, hd⟩, _, hbB, hk0, hk1, hk2', hsl⟩ := row_at hrow hlt
        have hkid : Hid (okW s' v' kk 16 = true) := okW_kid2 hok'.out hd
        have hkN := fsz_kid hd
        have HPL : Hid (places k = rows ++ ((places kk).map (fun p => (j : Int) :: p) ++ fpl (fdrop (j + 1) k) (j + 1))) := by
          have := hpl.out
          rw [hd] at this
          unfold Hid
          simpa [fpl, places] using this
        have HS := Lib.hid (hsl.mono (Nat.le_refl _) (show _ ≤ wo.heap.size by simp; omega))
        have HRO := Lib.hid hro
        have HBL := Lib.hid hbl
        clear hd hrow hpl hsl hro hbl hb7
        go_wp2_with fail
        with_reducible refine (iTermPlaces_any s' v' a' c' kk _ HS.out).mono ?_
        rintro e w8 ⟨A5, C5, inn, rfl, hinn, hb8, hr8⟩
        rw [hkid.out] at hinn
        simp only [if_true] at hinn
        have hs8 := hb8.size
        have HIN : Hid (PlIn w5 w5.heap.size wo.heap.size w8.heap.size A5 inn rows A C w8) :=
          ⟨HBL.out.trans (hb8.mono (by omega)), HRO.out.low hb8 (Nat.le_refl _), hr8, Nat.le_refl _, fun g hg => .inl (by obtain ⟨xs, hown, _⟩ := HRO.out; exact (hown.lt g hg).2)⟩
        rw [← hinn] at HPL
        have hpn2 : inn.length ≤ 1001 := by rw [hinn, places_len]; omega
        have HDP : Hid (∀ p, p ∈ inn → p.length ≤ 1000) := fun p hp => by rw [hinn] at hp; have := places_deep hp; omega
        have HLEN : Hid (rows.length + inn.length ≤ 1 + fsz k) := by
          have h1 := congrArg List.length HPL.out
          rw [places_len, List.length_append, List.length_append, List.length_map] at h1
          unfold Hid
          omega
        clear hb8 hr8 HRO HBL hk0 hk1 hk2' hd0 hd1 hd2 hinn
        go_wp2_with fail
        go_loopw [5, 8] (fun t i w6 => ∃ (q C6 : Nat) (A6 : Option Addr) (r6 : List (List Int)), q ≤ inn.length ∧ i = .int .i64 q ∧ t = .slice A6 r6.length C6 ∧ Hid (r6 = rows ++ (inn.take q).map (fun p => (j : Int) :: p)) ∧ PlIn w5 w5.heap.size wo.heap.size w8.heap.size A5 inn r6 A6 C6 w6 ∧ w5.heap.size + 2 ≤ w6.heap.size) (fun _ i _ => inn.length - (intOf i).toNat)
        case atStart => exact ⟨0, C, A, rows, by omega, rfl, rfl, by simp [Hid], HIN.out, by omega⟩
        case round =>
          clear HIN
          obtain ⟨q, C6, A6, r6, hq, rfl, rfl, hr6, hin, hsz6⟩ := hrel
          by_cases hlt6 : q < inn.length
          · obtain ⟨b6, o6, a6, c6, p6, hA5, _, hb6, hp6, hcell6, hisl6⟩ := rsl_at hin.inn hlt6
            subst hA5
            have hpl6 : p6.length ≤ 1000 := HDP.out p6 (List.mem_of_getElem? hp6)
            have htop := hin.top
            obtain ⟨xs, hown, hall⟩ := hin.own
            have HR6 : Hid (r6 ++ [(j : Int) :: p6] = rows ++ (inn.take (q + 1)).map (fun p => (j : Int) :: p)) := by
              rw [Hid, hr6.out, List.take_add_one, hp6]
              simp
            have hrl6 : r6.length ≤ 2100 := by
              rw [hr6.out, List.length_append, List.length_map, List.length_take]
              omega
            have HIN := Lib.hid hin
            have HOWN := Lib.hid hown
            have HALL := Lib.hid hall
            have HISL := Lib.hid hisl6
            clear hin hown hall hisl6 hr6 hp6
            have HO1 : Hid ((wr.alloc (.cells #[.int .i64 (j : Int)] 3)).ownsRow wr.heap.size 3 1 (.slice (some ⟨wr.heap.size, 0, none⟩) 1 1) 1 [.int .i64 (j : Int)]) :=
              ⟨rfl, .inr ⟨wr.heap.size, 1, #[.int .i64 (j : Int)], rfl, Nat.le_refl _, heap_alloc_new _ _, Nat.le_refl _, by decide, rfl, rfl⟩⟩
            have HSRC : Hid (Src (wr.alloc (.cells #[.int .i64 (j : Int)] 3)) 1 a6 p6.length (p6.map (Value.int .i64))) :=
              src_of_isl (HISL.out.same (fun b _ hb => Below.heap_alloc _ _ _ (by omega))) (fun ha => by have := HISL.out; rw [ha] at this; exact isl_none this)
            have hcellA : (wr.alloc (.cells #[.int .i64 (j : Int)] 3)).cell? ⟨b6, o6 + q, none⟩ = some (.slice a6 p6.length c6) := by
              rw [((Below.refl wr.heap.size wr).alloc (Nat.le_refl _) (.cells #[.int .i64 (j : Int)] 3)).cell (by simp; omega)]
              exact hcell6
            go_wp2_with (at_builtin; first
              | (refine wpList_append_src _ rfl _ _ 33 rfl wr.heap.size 3 ti _ 1 8 Try.underlying33 HTI.out.1 HTI.out.2.1 HTI.out.2.2.1 HTI.out.2.2.2 rfl (by omega) (.slice (some ⟨wr.heap.size, 0, none⟩) 1 1) 1 [.int .i64 (j : Int)] rfl HO1.out a6 p6.length c6 (p6.map (Value.int .i64)) rfl HSRC.out (by simp [Value.oneCell']) (by unfold maxLen; omega) (by omega) (by simp) ?_; intro A7 C7 w7 hown7 hgrow7 hat7)
              | (refine wpList_append_src _ rfl _ _ 27 rfl w5.heap.size 33 tj _ 1 24 Try.underlying27 HTJ.out.1 HTJ.out.2.1 HTJ.out.2.2.1 HTJ.out.2.2.2 rfl (by omega) (.slice A6 r6.length C6) r6.length xs rfl (own_low ((Below.refl _ _).alloc (Nat.le_refl _) _) (own_low (pl_low hgrow7) HOWN.out)) (some ⟨w7.heap.size, 0, none⟩) 1 1 [.slice A7 (1 + p6.length) C7] rfl ⟨rfl, .inr ⟨_, rfl, World.news_of_block (heap_alloc_new _ _)⟩⟩ (by simp [Value.oneCell']) (by unfold maxLen; omega) (by omega) (by have := hgrow7.size; simp at this ⊢; omega) ?_; intro A8 C8 w9 hown8 hgrow8 hat8))
            have e7 : 1 + p6.length = ((j : Int) :: p6).length := by simp; omega
            have hi7 : ISc w7 wr.heap.size w7.heap.size A7 C7 ((j : Int) :: p6) := isc_of_own (n := 1 + p6.length) (by simpa using hown7)
            rw [e7] at hown8
            have hstep := HIN.out.step (r := (j : Int) :: p6) (Nat.le_refl _) (by omega) HOWN.out HALL.out (pl_low hgrow7) hi7 hown8 hgrow8 (by simpa using hat8)
            have hs7 := hgrow7.size
            have hs9 := hgrow8.size
            simp at hs7 hs9
            refine ⟨⟨q + 1, C8, A8, r6 ++ [(j : Int) :: p6], by omega, by go_num, by simp, HR6, hstep, by omega⟩, ?_⟩
            simp [intOf]; omega
          · have hqe : q = inn.length := by omega
            subst hqe
            have HR6 : Hid (places k = r6 ++ fpl (fdrop (j + 1) k) (j + 1)) := by
              rw [Hid, HPL.out, hr6.out, List.take_length]
              simp
            have hl6 : r6.length ≤ 1 + fsz k := by
              rw [hr6.out, List.take_length, List.length_append, List.length_map]
              exact HLEN.out
            have HIN := Lib.hid hin
            clear hin hr6
            go_wp2_with fail
            refine ⟨⟨j + 1, C6, A6, r6, by omega, by go_num, rfl, hl6, HR6, HIN.out.own, HIN.out.below, hsz6⟩, ?_⟩
            simp [intOf]; omega
      · have HE : Hid (places k = rows) := by
          have := hpl.out
          rw [fdrop_all (by omega)] at this
          unfold Hid
          simpa [fpl] using this
        have HRA := Lib.hid ((HR5.out.below hbl).mono (lo' := 0) (Nat.zero_le _) hbl.size)
        have HRB := Lib.hid (hro.sl.mono (lo' := 0) (Nat.zero_le _) (Nat.le_refl _))
        have HB8 := Lib.hid hb7
        clear hpl hro hbl hb7
        rw [← HE.out] at HRB ⊢
        clear HE
        go_wp2_with fail
        with_reducible refine (laRows_same (places k) A2 A C2 C _ _ _ HRA.out HRB.out rfl rfl hrl HD.out).mono ?_
        rintro e w9 ⟨rfl, hb9⟩
        have HB9 := Lib.hid (HB8.out.trans (hb9.mono (by omega)))
        clear hb9
        go_wp2_with fail
        go_ret
        exact ⟨rfl, HB1.out.trans (HB9.out.mono (by omega))⟩
end Go.Proofs.Ytebalmemncldlab
