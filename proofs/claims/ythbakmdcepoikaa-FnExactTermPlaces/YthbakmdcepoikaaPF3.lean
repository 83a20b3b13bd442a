/- placesOf: the positions of a node, each in blocks of its own. -/
import Derived.Test.YthbakmdcepoikaaPF2
namespace Go.Proofs.Ythbakmdcepoikaa
open Go.RowKit Go.Deep

def PlPostF (k : Fo) (w : World) (e : Ending) (w' : World) : Prop :=
  ∃ A C, e = .returned (.slice A (places k).length C) ∧ Below w.heap.size w w' ∧ ROwnF w' w.heap.size (places k) A C

/-- What holds at the head of the inner loop: the rows so far; the rows inn that are gone through, which nothing writes. -/
structure PlInF (w : World) (base : Nat) (L H : Nat) (Ain : Option Addr) (inn rows : List (List Int)) (A : Option Addr) (C : Nat) (wr : World) : Prop where
  below : Below w.heap.size w wr
  own : ROwnF wr base rows A C
  inn : RSl wr L H Ain inn
  top : H ≤ wr.heap.size
  apart : ∀ g, (Value.slice A rows.length C).ownBlock = some g → g < L ∨ H ≤ g

theorem PlInF.step {w wr w4 w5 : World} {base L H : Nat} {Ain : Option Addr} {inn rows : List (List Int)} {A A' A4 : Option Addr} {C C' C4 : Nat} {r : List Int} {blk : Obj} {xs : List Value} (h : PlInF w base L H Ain inn rows A C wr) (hw : w.heap.size ≤ base) (hbase : base ≤ wr.heap.size)
    {lo hi : Nat → Nat} (hrf : RF wr base rows A C xs lo hi)
    (hb4 : Below wr.heap.size wr w4) (hi4 : IOwn w4 wr.heap.size r A4 C4) (hown5 : w5.ownsRow base 53 1 (.slice A' (rows.length + 1) C') (rows.length + 1) (xs ++ [.slice A4 r.length C4]))
    (hgrow : (w4.alloc blk).grownBy w5 (Value.slice A rows.length C).ownBlock) (hat : (Value.slice A' (rows.length + 1) C').ownBlock = (Value.slice A rows.length C).ownBlock ∨ (Value.slice A' (rows.length + 1) C').ownBlock = some (w4.heap.size + 1)) :
    PlInF w base L H Ain inn (rows ++ [r]) A' C' w5 := by
  have hs4 := hb4.size
  have hs5 := hgrow.size
  simp at hs5
  have htop := h.top
  refine ⟨?_, hrf.append hown5 hb4 hi4 hbase hgrow hat, h.inn.same (fun b h1 h2 => ?_), by omega, fun g hg => ?_⟩
  · exact ((h.below.trans (hb4.mono (by omega))).alloc (by omega) _).grown hgrow (by simp; omega) (fun g hg => by have := (hrf.own.lt g hg).1; omega)
  · rw [hgrow.block b (by simp; omega) (fun e => by have := h.apart b e.symm; omega), Below.heap_alloc _ _ _ (by omega), hb4.block b (by omega)]
  · have hl : (rows ++ [r]).length = rows.length + 1 := by simp
    rw [hl] at hg
    rcases hat with h1 | h1
    · exact h.apart g (by rw [← h1]; exact hg)
    · rw [h1] at hg; simp at hg; omega

set_option maxRecDepth 100000 in
set_option maxHeartbeats 1000000 in
theorem placesOfF_any (N : Nat) : ∀ (s v : Int) (k : Fo) (nv : Value) (w : World), NodeIs w 0 w.heap.size nv s v k → fsz k ≤ N → N ≤ 1000 →
    Calls Try.prog 27 #[nv] w (PlPostF k w) := by
  induction N using Nat.strongRecOn with
  | _ N ih =>
    intro s v k nv w hn hN hN2
    have hfl := flen_le_sz k
    have IH := Lib.hid ih
    have HN := Lib.hid hn
    clear ih hn
    obtain ⟨ti, hti, htz, hts, htb⟩ := Try.infoI
    obtain ⟨tj, hji, hjz, hjs, hjb⟩ := Try.infoIS
    have HTI : Hid (Try.prog.info? 3 = some ti ∧ ti.zero = some (.int .i64 0) ∧ ti.size = 1 ∧ ti.bytes = 8) := ⟨hti, htz, hts, htb⟩
    have HTJ : Hid (Try.prog.info? 53 = some tj ∧ tj.zero = some (.slice none 0 0) ∧ tj.size = 1 ∧ tj.bytes = 24) := ⟨hji, hjz, hjs, hjb⟩
    clear hti htz hts htb hji hjz hjs hjb
    go_enter Try.func27, Try.ntmps27
    go_wp2_with fail
    with_reducible refine (kidsOf_any s v k nv w.heap.size _ ?_).mono ?_
    · exact HN.out.below (((Below.refl _ _).alloc (Nat.le_refl _) _).alloc (by simp) _)
    rintro e w3 ⟨a, c, rfl, hb3, hns⟩
    have HST : Hid (ROwnF w3 w.heap.size [[]] (some ⟨w.heap.size + 1, 0, none⟩) 1) := rownF_start hb3
    have HB3 : Hid (Below w.heap.size w w3) := (((Below.refl w.heap.size w).alloc (Nat.le_refl _) _).alloc (by simp) _).trans (hb3.mono (by simp; omega))
    have HNS : Hid (NSl w3 0 w.heap.size a k) := hns.below (hb3.mono (by simp; omega))
    have hs3 := hb3.size
    simp at hs3
    clear hb3 hns
    go_wp2_with fail
    go_loopw [3, 13] (fun t i wr => ∃ (j C : Nat) (A : Option Addr) (rows : List (List Int)), j ≤ flen k ∧ i = .int .i64 j ∧ t = .slice A rows.length C ∧ rows.length ≤ 1 + fsz k ∧ Hid (places k = rows ++ fpl (fdrop j k) j) ∧ ROwnF wr w.heap.size rows A C ∧ Below w.heap.size w wr ∧ w.heap.size + 2 ≤ wr.heap.size) (fun _ i _ => flen k - (intOf i).toNat)
    case atStart => exact ⟨0, 1, _, [[]], by omega, rfl, rfl, by simp, rfl, HST.out, HB3.out, by omega⟩
    case round =>
      clear HST
      obtain ⟨wo, hwo⟩ : ∃ wo, wo = wr := ⟨_, rfl⟩
      subst hwo
      obtain ⟨j, C, A, rows, hj, rfl, rfl, hrl, hpl, hro, hbl, hsz⟩ := hrel
      by_cases hlt : j < flen k
      · have hnsr : NSl wo 0 w.heap.size a k := HNS.out.same (fun b _ hb => by rw [hbl.block b hb, HB3.out.block b hb])
        rcases hnsr with rfl | ⟨b, o, rfl, hrow⟩
        · simp [flen] at hlt
        obtain ⟨s', v', kk, val, ⟨x, y, hd⟩, _, hbB, hk0, hnk⟩ := nrow_at hrow hlt
        have hkN := fsz_kid hd
        have HPL : Hid (places k = rows ++ ((places kk).map (fun p => (j : Int) :: p) ++ fpl (fdrop (j + 1) k) (j + 1))) := by
          have := hpl.out
          rw [hd] at this
          unfold Hid
          simpa [fpl, places] using this
        have HNK := Lib.hid (hnk.mono (Nat.le_refl _) (show w.heap.size ≤ wo.heap.size by omega))
        have HRO := Lib.hid hro
        have HBL := Lib.hid hbl
        clear hd hrow hpl hnk hro hbl
        obtain ⟨ty, vv, rfl⟩ : ∃ ty vv, val = .iface ty vv := by
          rcases HNK.out with ⟨_, _, rfl⟩ | ⟨_, _, _, rfl, _⟩
          · exact ⟨_, _, rfl⟩
          · exact ⟨_, _, rfl⟩
        go_wp2_with fail
        with_reducible refine (IH.out (fsz kk) (by omega) s' v' kk _ _ HNK.out (Nat.le_refl _) (by omega)).mono ?_
        rintro e w5 ⟨A5, C5, rfl, hb5, hr5⟩
        have hs5 := hb5.size
        have HIN : Hid (PlInF w w.heap.size wo.heap.size w5.heap.size A5 (places kk) rows A C w5) :=
          ⟨HBL.out.trans (hb5.mono (by omega)), HRO.out.low hb5 (Nat.le_refl _), hr5.to.sl, Nat.le_refl _, fun g hg => .inl (by obtain ⟨xs, lo, hi, hrf⟩ := HRO.out; exact (hrf.own.lt g hg).2)⟩
        have hpn := places_len kk
        have HPN := Lib.hid hpn
        have hpn2 : (places kk).length ≤ 1001 := by omega
        have HDP : Hid (∀ p, p ∈ places kk → p.length ≤ 1000) := fun p hp => by have := places_deep hp; omega
        have HLEN : Hid (rows.length + (places kk).length ≤ 1 + fsz k) := by
          have h1 := congrArg List.length HPL.out
          rw [places_len, List.length_append, List.length_append, List.length_map] at h1
          unfold Hid
          omega
        clear hb5 hr5 hpn HRO HBL HNK hk0
        generalize hinn : places kk = inn at *
        clear hinn
        go_wp2_with fail
        go_loopw [3, 21] (fun t i w6 => ∃ (q C6 : Nat) (A6 : Option Addr) (r6 : List (List Int)), q ≤ inn.length ∧ i = .int .i64 q ∧ t = .slice A6 r6.length C6 ∧ Hid (r6 = rows ++ (inn.take q).map (fun p => (j : Int) :: p)) ∧ PlInF w w.heap.size wo.heap.size w5.heap.size A5 inn r6 A6 C6 w6 ∧ w.heap.size + 2 ≤ w6.heap.size) (fun _ i _ => inn.length - (intOf i).toNat)
        case atStart => exact ⟨0, C, A, rows, by omega, rfl, rfl, by simp [Hid], HIN.out, by omega⟩
        case round =>
          clear HIN
          obtain ⟨q, C6, A6, r6, hq, rfl, rfl, hr6, hin, hsz6⟩ := hrel
          by_cases hlt6 : q < inn.length
          · obtain ⟨b6, o6, a6, c6, p6, hA5, _, hb6, hp6, hcell6, hisl6⟩ := rsl_at hin.inn hlt6
            subst hA5
            have hpl6 : p6.length ≤ 1000 := HDP.out p6 (List.mem_of_getElem? hp6)
            have htop := hin.top
            obtain ⟨xs, lo, hi, hrf⟩ := hin.own
            have HR6 : Hid (r6 ++ [(j : Int) :: p6] = rows ++ (inn.take (q + 1)).map (fun p => (j : Int) :: p)) := by
              rw [Hid, hr6.out, List.take_add_one, hp6]
              simp
            have hrl6 : r6.length ≤ 2100 := by
              rw [hr6.out, List.length_append, List.length_map, List.length_take]
              omega
            have HIN := Lib.hid hin
            have HOWN := Lib.hid hrf.own
            have HRF := Lib.hid hrf
            have HISL := Lib.hid hisl6
            clear hin hrf hisl6 hr6 hp6
            have HO1 : Hid ((wr.alloc (.cells #[.int .i64 (j : Int)] 3)).ownsRow wr.heap.size 3 1 (.slice (some ⟨wr.heap.size, 0, none⟩) 1 1) 1 [.int .i64 (j : Int)]) :=
              ⟨rfl, .inr ⟨wr.heap.size, 1, #[.int .i64 (j : Int)], rfl, Nat.le_refl _, heap_alloc_new _ _, Nat.le_refl _, by decide, rfl, rfl⟩⟩
            have HSRC : Hid (Src (wr.alloc (.cells #[.int .i64 (j : Int)] 3)) 1 a6 p6.length (p6.map (Value.int .i64))) :=
              src_of_isl (HISL.out.same (fun b _ hb => Below.heap_alloc _ _ _ (by omega))) (fun ha => by have := HISL.out; rw [ha] at this; exact isl_none this)
            go_wp2_with (at_builtin; first
              | (refine wpList_append_src _ rfl _ _ 53 rfl wr.heap.size 3 ti _ 1 8 Try.underlying53 HTI.out.1 HTI.out.2.1 HTI.out.2.2.1 HTI.out.2.2.2 rfl (by omega) (.slice (some ⟨wr.heap.size, 0, none⟩) 1 1) 1 [.int .i64 (j : Int)] rfl HO1.out a6 p6.length c6 (p6.map (Value.int .i64)) rfl HSRC.out (by simp [Value.oneCell']) (by unfold maxLen; omega) (by omega) (by simp) ?_; intro A7 C7 w7 hown7 hgrow7 hat7)
              | (refine wpList_append_src _ rfl _ _ 36 rfl w.heap.size 53 tj _ 1 24 Try.underlying36 HTJ.out.1 HTJ.out.2.1 HTJ.out.2.2.1 HTJ.out.2.2.2 rfl (by omega) (.slice A6 r6.length C6) r6.length xs rfl (own_low ((Below.refl _ _).alloc (Nat.le_refl _) _) (own_low (pl_low hgrow7) HOWN.out)) (some ⟨w7.heap.size, 0, none⟩) 1 1 [.slice A7 (1 + p6.length) C7] rfl ⟨rfl, .inr ⟨_, rfl, World.news_of_block (heap_alloc_new _ _)⟩⟩ (by simp [Value.oneCell']) (by unfold maxLen; omega) (by omega) (by have := hgrow7.size; simp at this ⊢; omega) ?_; intro A8 C8 w8 hown8 hgrow8 hat8))
            have e7 : 1 + p6.length = ((j : Int) :: p6).length := by simp; omega
            have hi7 : IOwn w7 wr.heap.size ((j : Int) :: p6) A7 C7 := by unfold IOwn; rw [← e7]; simpa using hown7
            rw [e7] at hown8
            have hstep := HIN.out.step (r := (j : Int) :: p6) (Nat.le_refl _) (by omega) HRF.out (pl_low hgrow7) hi7 hown8 hgrow8 (by simpa using hat8)
            have hs7 := hgrow7.size
            have hs8 := hgrow8.size
            simp at hs7 hs8
            refine ⟨⟨q + 1, C8, A8, r6 ++ [(j : Int) :: p6], by omega, by go_num, by simp, HR6, hstep, by omega⟩, ?_⟩
            simp [intOf]; omega
          · have hqe : q = inn.length := by omega
            subst hqe
            have HR6 : Hid (places k = r6 ++ fpl (fdrop (j + 1) k) (j + 1)) := by
              rw [Hid, HPL.out, hr6.out, List.take_length]
              simp
            have hl6 : r6.length ≤ 1 + fsz k := by
              rw [hr6.out, List.take_length, List.length_append, List.length_map]
              exact HLEN.out
            have HIN := Lib.hid hin
            clear hin hr6
            go_wp2_with fail
            refine ⟨⟨j + 1, C6, A6, r6, by omega, by go_num, rfl, hl6, HR6, HIN.out.own, HIN.out.below, hsz6⟩, ?_⟩
            simp [intOf]; omega
      · have HE : Hid (places k = rows) := by
          have := hpl.out
          rw [fdrop_all (by omega)] at this
          unfold Hid
          simpa [fpl] using this
        have HP : Hid (PlPostF k w (.returned (.slice A rows.length C)) wo) := by
          refine ⟨A, C, by rw [HE.out], hbl, ?_⟩
          rw [HE.out]
          exact hro
        clear hpl hro hbl
        go_wp2_with fail
        go_ret
        exact HP.out
end Go.Proofs.Ythbakmdcepoikaa
