/- Several texts in one: P3, P4. -/
import Derived.Test.YtdkcbbhkoibplaaKLk5
import Derived.Deep.RegionHeld3
import Derived.Deep.DrawnRows

/-! P3: placesOf: the positions of a node. -/
namespace Go.Proofs.Ytdkcbbhkoibplaa
open Go.RowKit Go.Deep

theorem fpl_len : ∀ (k : Fo) (i : Nat), (fpl k i).length = fsz k
  | .nil, _ => rfl
  | .node _ _ _ k r, i => by simp only [fpl, fsz, List.length_append, List.length_map, List.length_cons, fpl_len k 0, fpl_len r (i + 1)]; omega
theorem places_len (k : Fo) : (places k).length = 1 + fsz k := by simp [places, fpl_len]; omega
theorem fpl_deep : ∀ (k : Fo) (i : Nat) (p : List Int), p ∈ fpl k i → p.length ≤ fsz k
  | .nil, _, _, h => by simp [fpl] at h
  | .node _ _ _ k r, i, p, h => by
    simp only [fpl, List.map_cons, List.cons_append, List.mem_cons, List.mem_append, List.mem_map] at h
    rcases h with rfl | ⟨q, hq, rfl⟩ | h
    · simp [fsz]
    · have := fpl_deep k 0 q hq; simp only [fsz, List.length_cons]; omega
    · have := fpl_deep r (i + 1) p h; simp only [fsz]; omega
theorem places_deep {k : Fo} {p : List Int} (h : p ∈ places k) : p.length ≤ fsz k := by
  simp only [places, List.mem_cons] at h
  rcases h with rfl | h
  · exact Nat.zero_le _
  · exact fpl_deep k 0 p h

def PlPost (k : Fo) (w : World) (e : Ending) (w' : World) : Prop :=
  ∃ A C, e = .returned (.slice A (places k).length C) ∧ Below w.heap.size w w' ∧ RSl w' w.heap.size w'.heap.size A (places k)

/-- The first row: the root's own. -/
theorem rown_start {w w3 : World} (hb : Below ((w.alloc (.cells #[] 3)).alloc (.cells #[.slice (some ⟨w.heap.size, 0, none⟩) 0 0] 26)).heap.size ((w.alloc (.cells #[] 3)).alloc (.cells #[.slice (some ⟨w.heap.size, 0, none⟩) 0 0] 26)) w3) :
    ROwn w3 w.heap.size [[]] (some ⟨w.heap.size + 1, 0, none⟩) 1 := by
  refine ROwn.low (w := (w.alloc (.cells #[] 3)).alloc (.cells #[.slice (some ⟨w.heap.size, 0, none⟩) 0 0] 26)) ⟨[.slice (some ⟨w.heap.size, 0, none⟩) 0 0], ⟨rfl, .inr ⟨w.heap.size + 1, 1, #[.slice (some ⟨w.heap.size, 0, none⟩) 0 0], rfl, by omega, ?_, Nat.le_refl _, by decide, rfl, rfl⟩⟩, fun i r hr => ?_⟩ hb (Nat.le_refl _)
  · have := heap_alloc_new (w.alloc (.cells #[] 3)) (.cells #[.slice (some ⟨w.heap.size, 0, none⟩) 0 0] 26)
    simpa using this
  · have hi : i = 0 := by
      have := (List.getElem?_eq_some_iff.1 hr).1
      simp at this
      exact this
    subst hi
    simp at hr
    subst hr
    exact ⟨_, 0, w.heap.size, w.heap.size, rfl, ⟨.inl rfl, Nat.zero_le _⟩, Nat.le_refl _, by simp; omega, fun g hg => .inr (by simp [Value.ownBlock] at hg; omega)⟩

/-- What holds at the head of the inner loop: the rows so far; the rows inn that are gone through, which nothing writes. -/
structure PlIn (w : World) (base : Nat) (L H : Nat) (Ain : Option Addr) (inn rows : List (List Int)) (A : Option Addr) (C : Nat) (wr : World) : Prop where
  below : Below w.heap.size w wr
  own : ROwn wr base rows A C
  inn : RSl wr L H Ain inn
  top : H ≤ wr.heap.size
  apart : ∀ g, (Value.slice A rows.length C).ownBlock = some g → g < L ∨ H ≤ g

theorem PlIn.step {w wr w4 w5 : World} {base L H : Nat} {Ain : Option Addr} {inn rows : List (List Int)} {A A' A4 : Option Addr} {C C' C4 : Nat} {r : List Int} {blk : Obj} {xs : List Value} (h : PlIn w base L H Ain inn rows A C wr) (hw : w.heap.size ≤ base) (hbase : base ≤ wr.heap.size)
    (hown : wr.ownsRow base 26 1 (.slice A rows.length C) rows.length xs)
    (hall : ∀ (i : Nat) (r : List Int), rows[i]? = some r → ∃ a' c' L H, xs[i]? = some (Value.slice a' r.length c') ∧ ISc wr L H a' c' r ∧ base ≤ L ∧ H ≤ wr.heap.size ∧ (∀ g, (Value.slice A rows.length C).ownBlock = some g → g < L ∨ H ≤ g))
    (hb4 : Below wr.heap.size wr w4) (hi4 : ISc w4 wr.heap.size w4.heap.size A4 C4 r) (hown5 : w5.ownsRow base 26 1 (.slice A' (rows.length + 1) C') (rows.length + 1) (xs ++ [.slice A4 r.length C4]))
    (hgrow : (w4.alloc blk).grownBy w5 (Value.slice A rows.length C).ownBlock) (hat : (Value.slice A' (rows.length + 1) C').ownBlock = (Value.slice A rows.length C).ownBlock ∨ (Value.slice A' (rows.length + 1) C').ownBlock = some (w4.heap.size + 1)) :
    PlIn w base L H Ain inn (rows ++ [r]) A' C' w5 := by
  have hs4 := hb4.size
  have hs5 := hgrow.size
  simp at hs5
  have htop := h.top
  refine ⟨?_, ROwn.append hown hall hown5 hb4 hi4 hbase hgrow hat, h.inn.same (fun b h1 h2 => ?_), by omega, fun g hg => ?_⟩
  · exact ((h.below.trans (hb4.mono (by omega))).alloc (by omega) _).grown hgrow (by simp; omega) (fun g hg => by have := (hown.lt g hg).1; omega)
  · rw [hgrow.block b (by simp; omega) (fun e => by have := h.apart b e.symm; omega), Below.heap_alloc _ _ _ (by omega), hb4.block b (by omega)]
  · have hl : (rows ++ [r]).length = rows.length + 1 := by simp
    rw [hl] at hg
    rcases hat with h1 | h1
    · exact h.apart g (by rw [← h1]; exact hg)
    · rw [h1] at hg; simp at hg; omega

/-- A new row was made and appended to: nothing old has turned. -/
theorem pl_low {w w7 : World} {o : Obj} {n : Nat} {C : Nat} (h : (w.alloc o).grownBy w7 (Value.slice (some ⟨w.heap.size, 0, none⟩) n C).ownBlock) : Below w.heap.size w w7 :=
  ((Below.refl _ _).alloc (Nat.le_refl _) o).grown h (by simp) (fun g hg => by simp [Value.ownBlock] at hg; omega)

theorem rsl_at {w : World} {lo B : Nat} {a : Option Addr} {rows : List (List Int)} {i : Nat} (h : RSl w lo B a rows) (hi : i < rows.length) :
    ∃ b o a' c' r, a = some ⟨b, o, none⟩ ∧ lo ≤ b ∧ b < B ∧ rows[i]? = some r ∧ w.cell? ⟨b, o + i, none⟩ = some (.slice a' r.length c') ∧ ISl w lo B a' r := by
  rcases h with rfl | ⟨b, o, e, h1, h2, h3⟩
  · simp at hi
  · have hr : rows[i]? = some rows[i] := List.getElem?_eq_getElem hi
    obtain ⟨a', c', hc, hs⟩ := h3 i _ hr
    exact ⟨b, o, a', c', _, e, h1, h2, hr, hc, hs.1⟩
theorem rsl_at2 {w : World} {lo B : Nat} {a : Option Addr} {rows : List (List Int)} {i : Nat} (h : RSl w lo B a rows) (hi : i < rows.length) :
    ∃ b o a' c' r, a = some ⟨b, o, none⟩ ∧ lo ≤ b ∧ b < B ∧ rows[i]? = some r ∧ w.cell? ⟨b, o + i, none⟩ = some (.slice a' r.length c') ∧ ISc w lo B a' c' r := by
  rcases h with rfl | ⟨b, o, e, h1, h2, h3⟩
  · simp at hi
  · have hr : rows[i]? = some rows[i] := List.getElem?_eq_getElem hi
    obtain ⟨a', c', hc, hs⟩ := h3 i _ hr
    exact ⟨b, o, a', c', _, e, h1, h2, hr, hc, hs⟩

set_option maxRecDepth 100000 in
set_option maxHeartbeats 1000000 in
theorem placesOf_any (N : Nat) : ∀ (s v : Int) (k : Fo) (nv : Value) (w : World), NodeIs w 0 w.heap.size nv s v k → fsz k ≤ N → N ≤ 1000 →
    Calls Try.prog 72 #[nv] w (PlPost k w) := by
  induction N using Nat.strongRecOn with
  | _ N ih =>
    intro s v k nv w hn hN hN2
    have hfl := flen_le_sz k
    have IH := Lib.hid ih
    have HN := Lib.hid hn
    clear ih hn
    obtain ⟨ti, hti, htz, hts, htb⟩ := Try.infoI
    obtain ⟨tj, hji, hjz, hjs, hjb⟩ := Try.infoIS
    have HTI : Hid (Try.prog.info? 3 = some ti ∧ ti.zero = some (.int .i64 0) ∧ ti.size = 1 ∧ ti.bytes = 8) := ⟨hti, htz, hts, htb⟩
    have HTJ : Hid (Try.prog.info? 26 = some tj ∧ tj.zero = some (.slice none 0 0) ∧ tj.size = 1 ∧ tj.bytes = 24) := ⟨hji, hjz, hjs, hjb⟩
    clear hti htz hts htb hji hjz hjs hjb
    go_enter Try.func72, Try.ntmps72
    go_wp2_with fail
    with_reducible refine (kidsOf_any s v k nv w.heap.size _ ?_).mono ?_
    · exact HN.out.below (((Below.refl _ _).alloc (Nat.le_refl _) _).alloc (by simp) _)
    rintro e w3 ⟨a, c, rfl, hb3, hns⟩
    have HST : Hid (ROwn w3 w.heap.size [[]] (some ⟨w.heap.size + 1, 0, none⟩) 1) := rown_start hb3
    have HB3 : Hid (Below w.heap.size w w3) := (((Below.refl w.heap.size w).alloc (Nat.le_refl _) _).alloc (by simp) _).trans (hb3.mono (by simp; omega))
    have HNS : Hid (NSl w3 0 w.heap.size a k) := hns.below (hb3.mono (by simp; omega))
    have hs3 := hb3.size
    simp at hs3
    clear hb3 hns
    go_wp2_with fail
    go_loopw [3, 13] (fun t i wr => ∃ (j C : Nat) (A : Option Addr) (rows : List (List Int)), j ≤ flen k ∧ i = .int .i64 j ∧ t = .slice A rows.length C ∧ rows.length ≤ 1 + fsz k ∧ Hid (places k = rows ++ fpl (fdrop j k) j) ∧ ROwn wr w.heap.size rows A C ∧ Below w.heap.size w wr ∧ w.heap.size + 2 ≤ wr.heap.size) (fun _ i _ => flen k - (intOf i).toNat)
    case atStart => exact ⟨0, 1, _, [[]], by omega, rfl, rfl, by simp, rfl, HST.out, HB3.out, by omega⟩
    case round =>
      clear HST
      obtain ⟨wo, hwo⟩ : ∃ wo, wo = wr := ⟨_, rfl⟩
      subst hwo
      obtain ⟨j, C, A, rows, hj, rfl, rfl, hrl, hpl, hro, hbl, hsz⟩ := hrel
      by_cases hlt : j < flen k
      · have hnsr : NSl wo 0 w.heap.size a k := HNS.out.same (fun b _ hb => by rw [hbl.block b hb, HB3.out.block b hb])
        rcases hnsr with rfl | ⟨b, o, rfl, hrow⟩
        · simp [flen] at hlt
        obtain ⟨s', v', kk, val, ⟨x, y, hd⟩, _, hbB, hk0, hnk⟩ := nrow_at hrow hlt
        have hkN := fsz_kid hd
        have HPL : Hid (places k = rows ++ ((places kk).map (fun p => (j : Int) :: p) ++ fpl (fdrop (j + 1) k) (j + 1))) := by
          have := hpl.out
          rw [hd] at this
          unfold Hid
          simpa [fpl, places] using this
        have HNK := Lib.hid (hnk.mono (Nat.le_refl _) (show w.heap.size ≤ wo.heap.size by omega))
        have HRO := Lib.hid hro
        have HBL := Lib.hid hbl
        clear hd hrow hpl hnk hro hbl
        obtain ⟨ty, vv, rfl⟩ : ∃ ty vv, val = .iface ty vv := by
          rcases HNK.out with ⟨_, _, rfl⟩ | ⟨_, _, _, rfl, _⟩
          · exact ⟨_, _, rfl⟩
          · exact ⟨_, _, rfl⟩
        go_wp2_with fail
        with_reducible refine (IH.out (fsz kk) (by omega) s' v' kk _ _ HNK.out (Nat.le_refl _) (by omega)).mono ?_
        rintro e w5 ⟨A5, C5, rfl, hb5, hr5⟩
        have hs5 := hb5.size
        have HIN : Hid (PlIn w w.heap.size wo.heap.size w5.heap.size A5 (places kk) rows A C w5) :=
          ⟨HBL.out.trans (hb5.mono (by omega)), HRO.out.low hb5 (Nat.le_refl _), hr5, Nat.le_refl _, fun g hg => .inl (by obtain ⟨xs, hown, _⟩ := HRO.out; exact (hown.lt g hg).2)⟩
        have hpn := places_len kk
        have HPN := Lib.hid hpn
        have hpn2 : (places kk).length ≤ 1001 := by omega
        have HDP : Hid (∀ p, p ∈ places kk → p.length ≤ 1000) := fun p hp => by have := places_deep hp; omega
        have HLEN : Hid (rows.length + (places kk).length ≤ 1 + fsz k) := by
          have h1 := congrArg List.length HPL.out
          rw [places_len, List.length_append, List.length_append, List.length_map] at h1
          unfold Hid
          omega
        clear hb5 hr5 hpn HRO HBL HNK hk0
        generalize hinn : places kk = inn at *
        clear hinn
        go_wp2_with fail
        go_loopw [3, 21] (fun t i w6 => ∃ (q C6 : Nat) (A6 : Option Addr) (r6 : List (List Int)), q ≤ inn.length ∧ i = .int .i64 q ∧ t = .slice A6 r6.length C6 ∧ Hid (r6 = rows ++ (inn.take q).map (fun p => (j : Int) :: p)) ∧ PlIn w w.heap.size wo.heap.size w5.heap.size A5 inn r6 A6 C6 w6 ∧ w.heap.size + 2 ≤ w6.heap.size) (fun _ i _ => inn.length - (intOf i).toNat)
        case atStart => exact ⟨0, C, A, rows, by omega, rfl, rfl, by simp [Hid], HIN.out, by omega⟩
        case round =>
          clear HIN
          obtain ⟨q, C6, A6, r6, hq, rfl, rfl, hr6, hin, hsz6⟩ := hrel
          by_cases hlt6 : q < inn.length
          · obtain ⟨b6, o6, a6, c6, p6, hA5, _, hb6, hp6, hcell6, hisl6⟩ := rsl_at hin.inn hlt6
            subst hA5
            have hpl6 : p6.length ≤ 1000 := HDP.out p6 (List.mem_of_getElem? hp6)
            have htop := hin.top
            obtain ⟨xs, hown, hall⟩ := hin.own
            have HR6 : Hid (r6 ++ [(j : Int) :: p6] = rows ++ (inn.take (q + 1)).map (fun p => (j : Int) :: p)) := by
              rw [Hid, hr6.out, List.take_add_one, hp6]
              simp
            have hrl6 : r6.length ≤ 2100 := by
              rw [hr6.out, List.length_append, List.length_map, List.length_take]
              omega
            have HIN := Lib.hid hin
            have HOWN := Lib.hid hown
            have HALL := Lib.hid hall
            have HISL := Lib.hid hisl6
            clear hin hown hall hisl6 hr6 hp6
            have HO1 : Hid ((wr.alloc (.cells #[.int .i64 (j : Int)] 3)).ownsRow wr.heap.size 3 1 (.slice (some ⟨wr.heap.size, 0, none⟩) 1 1) 1 [.int .i64 (j : Int)]) :=
              ⟨rfl, .inr ⟨wr.heap.size, 1, #[.int .i64 (j : Int)], rfl, Nat.le_refl _, heap_alloc_new _ _, Nat.le_refl _, by decide, rfl, rfl⟩⟩
            have HSRC : Hid (Src (wr.alloc (.cells #[.int .i64 (j : Int)] 3)) 1 a6 p6.length (p6.map (Value.int .i64))) :=
              src_of_isl (HISL.out.same (fun b _ hb => Below.heap_alloc _ _ _ (by omega))) (fun ha => by have := HISL.out; rw [ha] at this; exact isl_none this)
            go_wp2_with (at_builtin; first
              | (refine wpList_append_src _ rfl _ _ 26 rfl wr.heap.size 3 ti _ 1 8 Try.underlying26 HTI.out.1 HTI.out.2.1 HTI.out.2.2.1 HTI.out.2.2.2 rfl (by omega) (.slice (some ⟨wr.heap.size, 0, none⟩) 1 1) 1 [.int .i64 (j : Int)] rfl HO1.out a6 p6.length c6 (p6.map (Value.int .i64)) rfl HSRC.out (by simp [Value.oneCell']) (by unfold maxLen; omega) (by omega) (by simp) ?_; intro A7 C7 w7 hown7 hgrow7 hat7)
              | (refine wpList_append_src _ rfl _ _ 57 rfl w.heap.size 26 tj _ 1 24 Try.underlying57 HTJ.out.1 HTJ.out.2.1 HTJ.out.2.2.1 HTJ.out.2.2.2 rfl (by omega) (.slice A6 r6.length C6) r6.length xs rfl (own_low ((Below.refl _ _).alloc (Nat.le_refl _) _) (own_low (pl_low hgrow7) HOWN.out)) (some ⟨w7.heap.size, 0, none⟩) 1 1 [.slice A7 (1 + p6.length) C7] rfl ⟨rfl, .inr ⟨_, rfl, World.news_of_block (heap_alloc_new _ _)⟩⟩ (by simp [Value.oneCell']) (by unfold maxLen; omega) (by omega) (by have := hgrow7.size; simp at this ⊢; omega) ?_; intro A8 C8 w8 hown8 hgrow8 hat8))
            have e7 : 1 + p6.length = ((j : Int) :: p6).length := by simp; omega
            have hi7 : ISc w7 wr.heap.size w7.heap.size A7 C7 ((j : Int) :: p6) := isc_of_own (n := 1 + p6.length) (by simpa using hown7)
            rw [e7] at hown8
            have hstep := HIN.out.step (r := (j : Int) :: p6) (Nat.le_refl _) (by omega) HOWN.out HALL.out (pl_low hgrow7) hi7 hown8 hgrow8 (by simpa using hat8)
            have hs7 := hgrow7.size
            have hs8 := hgrow8.size
            simp at hs7 hs8
            refine ⟨⟨q + 1, C8, A8, r6 ++ [(j : Int) :: p6], by omega, by go_num, by simp, HR6, hstep, by omega⟩, ?_⟩
            simp [intOf]; omega
          · have hqe : q = inn.length := by omega
            subst hqe
            have HR6 : Hid (places k = r6 ++ fpl (fdrop (j + 1) k) (j + 1)) := by
              rw [Hid, HPL.out, hr6.out, List.take_length]
              simp
            have hl6 : r6.length ≤ 1 + fsz k := by
              rw [hr6.out, List.take_length, List.length_append, List.length_map]
              exact HLEN.out
            have HIN := Lib.hid hin
            clear hin hr6
            go_wp2_with fail
            refine ⟨⟨j + 1, C6, A6, r6, by omega, by go_num, rfl, hl6, HR6, HIN.out.own, HIN.out.below, hsz6⟩, ?_⟩
            simp [intOf]; omega
      · have HE : Hid (places k = rows) := by
          have := hpl.out
          rw [fdrop_all (by omega)] at this
          unfold Hid
          simpa [fpl] using this
        have HP : Hid (PlPost k w (.returned (.slice A rows.length C)) wo) := by
          refine ⟨A, C, by rw [HE.out], hbl, ?_⟩
          rw [HE.out]
          exact hro.sl
        clear hpl hro hbl
        go_wp2_with fail
        go_ret
        exact HP.out
end Go.Proofs.Ytdkcbbhkoibplaa

/-! P4: l1Places: the positions of a term, each behind some. -/
namespace Go.Proofs.Ytdkcbbhkoibplaa
open Go.RowKit Go.Deep
attribute [local go_sem ↓] Go.wp_at_zero Go.wp_at_succ

def LpPost (k : Fo) (head : List Int) (w : World) (e : Ending) (w' : World) : Prop :=
  ∃ A C, e = .returned (.slice A (1 + fsz k) C) ∧ Below w.heap.size w w' ∧ RSl w' w.heap.size w'.heap.size A ((places k).map (head ++ ·))

theorem own_empty {W : World} {base g : Nat} (h : W.heap[g]? = some (.cells #[] 3 (0, 0))) (hb : base ≤ g) : W.ownsRow base 3 1 (.slice (some ⟨g, 0, none⟩) 0 0) 0 [] :=
  ⟨rfl, .inr ⟨g, 0, #[], rfl, hb, h, Nat.le_refl _, Nat.zero_le _, rfl, rfl⟩⟩

/-- The cells of a row of rows, as a list. -/
theorem rsl_news {w : World} {lo B : Nat} {a : Option Addr} {rows : List (List Int)} (h : RSl w lo B a rows) (hn : a = none → rows = []) :
    ∃ news : List Value, Src w 1 a rows.length news ∧ (∀ u ∈ news, u.oneCell' = true) ∧ ∀ (i : Nat) (r : List Int), rows[i]? = some r → ∃ a' c', news[i]? = some (Value.slice a' r.length c') ∧ ISc w lo B a' c' r := by
  rcases h with rfl | ⟨b, o, rfl, h1, h2, h3⟩
  · refine ⟨[], ⟨rfl, ?_⟩, by simp, by simp⟩
    cases a with
    | none => exact .inl ⟨rfl, rfl⟩
    | some ad => exact .inr ⟨ad, rfl, by simp⟩
  · refine ⟨(List.range rows.length).map fun i => (w.cell? ⟨b, o + i, none⟩).getD undef, ⟨by simp, .inr ⟨_, rfl, fun j u hu => ?_⟩⟩, fun u hu => ?_, fun i r hr => ?_⟩
    · rw [show (⟨b, o, none⟩ : Addr).add j = ⟨b, o + j, none⟩ from by unfold Addr.add; split <;> simp_all]
      rw [List.getElem?_map, Option.map_eq_some_iff] at hu
      obtain ⟨j', hj, rfl⟩ := hu
      have hj' := List.getElem?_eq_some_iff.1 hj
      obtain ⟨hlt, he⟩ := hj'
      simp at he hlt
      subst he
      obtain ⟨a', c', hc, _⟩ := h3 j rows[j] (List.getElem?_eq_getElem hlt)
      rw [hc]
      rfl
    · simp only [List.mem_map, List.mem_range] at hu
      obtain ⟨j, hj, rfl⟩ := hu
      obtain ⟨a', c', hc, _⟩ := h3 j rows[j] (List.getElem?_eq_getElem hj)
      rw [hc]
      rfl
    · obtain ⟨a', c', hc, hi⟩ := h3 i r hr
      have hlt := (List.getElem?_eq_some_iff.1 hr).1
      refine ⟨a', c', ?_, hi⟩
      rw [List.getElem?_map, List.getElem?_range hlt]
      simp [hc]

/-- Rows are appended, all that they lead to made since. -/
theorem ROwn.many {w w2 w3 : World} {base : Nat} {rows rows2 : List (List Int)} {A A' : Option Addr} {C C' : Nat} {xs news : List Value} (hown : w.ownsRow base 26 1 (.slice A rows.length C) rows.length xs)
    (hall : ∀ (i : Nat) (r : List Int), rows[i]? = some r → ∃ a' c' L H, xs[i]? = some (Value.slice a' r.length c') ∧ ISc w L H a' c' r ∧ base ≤ L ∧ H ≤ w.heap.size ∧ (∀ g, (Value.slice A rows.length C).ownBlock = some g → g < L ∨ H ≤ g))
    (hown3 : w3.ownsRow base 26 1 (.slice A' (rows.length + rows2.length) C') (rows.length + rows2.length) (xs ++ news)) (hb2 : Below w.heap.size w w2) (hbase : base ≤ w.heap.size)
    (hnews : ∀ (i : Nat) (r : List Int), rows2[i]? = some r → ∃ a' c', news[i]? = some (Value.slice a' r.length c') ∧ ISc w2 w.heap.size w2.heap.size a' c' r)
    (hgrow : w2.grownBy w3 (Value.slice A rows.length C).ownBlock) (hat : (Value.slice A' (rows.length + rows2.length) C').ownBlock = (Value.slice A rows.length C).ownBlock ∨ (Value.slice A' (rows.length + rows2.length) C').ownBlock = some w2.heap.size) : ROwn w3 base (rows ++ rows2) A' C' := by
  have hs2 := hb2.size
  have hs3 := hgrow.size
  have hxl : xs.length = rows.length := by have := hown.1; omega
  have hl : (rows ++ rows2).length = rows.length + rows2.length := by simp
  rw [ROwn, hl]
  refine ⟨_, hown3, fun i r' hr => ?_⟩
  have hcond : ∀ {L H : Nat}, (∀ g, (Value.slice A rows.length C).ownBlock = some g → g < L ∨ H ≤ g) → H ≤ w2.heap.size → ∀ g', (Value.slice A' (rows.length + rows2.length) C').ownBlock = some g' → g' < L ∨ H ≤ g' := fun hg hH g' hg' => by
    rcases hat with h1 | h1
    · exact hg g' (by rw [← h1]; exact hg')
    · rw [h1] at hg'; simp at hg'; omega
  by_cases hi : i < rows.length
  · rw [List.getElem?_append_left hi] at hr
    obtain ⟨a', c', L, H, hx, hsl, hL, hH, hg⟩ := hall i r' hr
    refine ⟨a', c', L, H, by rw [List.getElem?_append_left (by omega)]; exact hx, hsl.same (fun b h1 h2 => ?_), hL, by omega, hcond hg (by omega)⟩
    rw [hgrow.block b (by omega) (fun e => by have := hg b e.symm; omega), hb2.block b (by omega)]
  · rw [List.getElem?_append_right (by omega)] at hr
    obtain ⟨a', c', hx, hsl⟩ := hnews _ _ hr
    refine ⟨a', c', w.heap.size, w2.heap.size, by rw [List.getElem?_append_right (by omega), hxl]; exact hx, hsl.same (fun b h1 h2 => ?_), hbase, by omega, hcond (fun g hg => .inl (hown.lt _ hg).2) (Nat.le_refl _)⟩
    rw [hgrow.block b (by omega) (fun e => by have := (hown.lt b e.symm).2; omega)]

/-- The first row: the head's own copy. -/
theorem lp_start {w1 : World} {base : Nat} {A1 : Option Addr} {C1 : Nat} {head : List Int} (hown : w1.ownsRow base 3 1 (.slice A1 head.length C1) head.length (head.map (Value.int .i64))) (hb : base ≤ w1.heap.size) :
    ROwn (w1.alloc (.cells #[.slice A1 head.length C1] 26)) base [head] (some ⟨w1.heap.size, 0, none⟩) 1 := by
  refine ⟨[.slice A1 head.length C1], ⟨rfl, .inr ⟨w1.heap.size, 1, #[.slice A1 head.length C1], rfl, hb, heap_alloc_new _ _, Nat.le_refl _, by decide, rfl, rfl⟩⟩, fun i r hr => ?_⟩
  have hi : i = 0 := by
    have := (List.getElem?_eq_some_iff.1 hr).1
    simp at this
    exact this
  subst hi
  simp at hr
  subst hr
  exact ⟨A1, C1, base, w1.heap.size, rfl, (isc_of_own hown).same (fun b _ h2 => Below.heap_alloc _ _ _ h2), Nat.le_refl _, by simp, fun g hg => .inr (by simp [Value.ownBlock] at hg; omega)⟩

/-- step_append_src, the world read off the goal. -/
theorem step_src {P : Program} {w : World} {ops : Array Oper} {o : Oper} {a : Act} {K : Act → World → Prop} {Q : Exit → Act → World → Prop} {E : Prop} (hgd : o.guard = none) (s x : Operand) (t : TypeId) (ho : o.op = .call { callee := .builtin .append, args := #[s, x], argTypes := #[t, t] })
    (base : Nat) (e : TypeId) (i : TypeInfo) (z : Value) (size bytes : Nat) (ht : P.underlying t = some (.slice e)) (hi : P.info? e = some i) (hz : i.zero = some z)
    (hsize : i.size = size) (hby : i.bytes = bytes) (hzs : z.cells.size = size) (hsz : 0 < size)
    (v : Value) (n : Nat) (xs : List Value) (hs : a.eval s = v) (hown : w.ownsRow base e size v n xs) (A : Option Addr) (m c : Nat) (news : List Value) (hx : a.eval x = .slice A m c) (hsrc : Src w size A m news) (h1 : ∀ u ∈ news, u.oneCell' = true)
    (h63 : n + m ≤ maxLen) (hbytes : (n + m) * bytes ≤ 140737488355328) (hbase : base ≤ w.heap.size)
    (h : ∀ A' C' w', w'.ownsRow base e size (.slice A' (n + m) C') (n + m) (xs ++ news) → w.grownBy w' v.ownBlock → ((Value.slice A' (n + m) C').ownBlock = v.ownBlock ∨ (Value.slice A' (n + m) C').ownBlock = some w.heap.size) → K (a.put o.dst (.slice A' (n + m) C')) w') :
    if Region.wanted o (yielded ops a.tmps) = true then Oper.wp P o a w K Q else E :=
  step_append_src w hgd s x t ho base e i z size bytes ht hi hz hsize hby hzs hsz v n xs hs hown A m c news hx hsrc h1 h63 hbytes hbase h
theorem rsl_none {w : World} {lo B : Nat} {rows : List (List Int)} (h : RSl w lo B none rows) : rows = [] := by
  rcases h with h | ⟨b, o, e, _⟩
  · exact h
  · cases e
theorem heap_top (w : World) (E I : Obj) : ((w.alloc E).alloc I).drew.heap[w.heap.size + 1]? = some I := by
  have h := heap_alloc_new (w.alloc E) I
  rw [World.size_alloc] at h
  exact h
theorem keep4 {W w2 : World} {B : Nat} {b1 o1 b2 o2 : Nat} {x1 x2 x3 x4 : Value} (hb : Below B W w2) (h1 : W.cell? ⟨b1, o1, none⟩ = some x1) (h2 : W.cell? ⟨b2, o2, none⟩ = some x2) (h3 : W.cell? ⟨b2, o2 + 1, none⟩ = some x3) (h4 : W.cell? ⟨b2, o2 + 2, none⟩ = some x4)
    (g1 : b1 < B) (g2 : b2 < B) : w2.cell? ⟨b1, o1, none⟩ = some x1 ∧ w2.cell? ⟨b2, o2, none⟩ = some x2 ∧ w2.cell? ⟨b2, o2 + 1, none⟩ = some x3 ∧ w2.cell? ⟨b2, o2 + 2, none⟩ = some x4 :=
  ⟨by rw [hb.cell g1]; exact h1, by rw [hb.cell g2]; exact h2, by rw [hb.cell g2]; exact h3, by rw [hb.cell g2]; exact h4⟩
theorem lp_low8a {wr w8 : World} {E : Obj} (h : (wr.alloc E).drew.grownBy w8 (Value.slice (some ⟨wr.heap.size, 0, none⟩) 0 0).ownBlock) : Below wr.heap.size wr w8 :=
  ((Below.refl _ _).alloc (Nat.le_refl _) E).drew.grown h (by simp) (fun g hg => by simp [Value.ownBlock] at hg; omega)
theorem lp_low8b {wr w8 : World} {E I : Obj} (h : ((wr.alloc E).alloc I).drew.grownBy w8 (Value.slice (some ⟨wr.heap.size, 0, none⟩) 0 0).ownBlock) : Below wr.heap.size wr w8 :=
  (((Below.refl _ _).alloc (Nat.le_refl _) E).alloc (by simp) I).drew.grown h (by simp; omega) (fun g hg => by simp [Value.ownBlock] at hg; omega)
theorem lp_low8c {wr w8 : World} {E I : Obj} (h : ((wr.alloc I).alloc E).drew.grownBy w8 (Value.slice (some ⟨wr.heap.size + 1, 0, none⟩) 0 0).ownBlock) : Below wr.heap.size wr w8 :=
  (((Below.refl _ _).alloc (Nat.le_refl _) I).alloc (by simp) E).drew.grown h (by simp; omega) (fun g hg => by simp [Value.ownBlock] at hg; omega)
theorem lp_i8b {wr w8 : World} {E : Obj} {j : Int} (h : ((wr.alloc E).alloc (.cells #[.int .i64 j] 3)).drew.grownBy w8 (Value.slice (some ⟨wr.heap.size, 0, none⟩) 0 0).ownBlock) : Src w8 1 (some ⟨wr.heap.size + 1, 0, none⟩) 1 [.int .i64 j] := by
  refine ⟨rfl, .inr ⟨_, rfl, World.news_of_block (cs := #[.int .i64 j]) (t := 3) (fr := (0, 0)) ?_⟩⟩
  rw [h.block _ (by simp) (by simp [Value.ownBlock])]
  exact heap_top wr E _
theorem lp_i8c {wr w8 : World} {E : Obj} {j : Int} (h : ((wr.alloc (.cells #[.int .i64 j] 3)).alloc E).drew.grownBy w8 (Value.slice (some ⟨wr.heap.size + 1, 0, none⟩) 0 0).ownBlock) : Src w8 1 (some ⟨wr.heap.size, 0, none⟩) 1 [.int .i64 j] := by
  refine ⟨rfl, .inr ⟨_, rfl, World.news_of_block (cs := #[.int .i64 j]) (t := 3) (fr := (0, 0)) ?_⟩⟩
  rw [h.block _ (by simp; omega) (by simp [Value.ownBlock])]
  exact (Below.heap_alloc (wr.alloc (.cells #[.int .i64 j] 3)) E wr.heap.size (by simp)).trans (heap_alloc_new _ _)

theorem lp_many {wr w9 w12 w13 : World} {base : Nat} {rows : List (List Int)} {kk : Fo} {pre : List Int} {A A13 : Option Addr} {C C13 : Nat} {xs news : List Value} (hown : wr.ownsRow base 26 1 (.slice A rows.length C) rows.length xs)
    (hall : ∀ (i : Nat) (r : List Int), rows[i]? = some r → ∃ a' c' L H, xs[i]? = some (Value.slice a' r.length c') ∧ ISc wr L H a' c' r ∧ base ≤ L ∧ H ≤ wr.heap.size ∧ (∀ g, (Value.slice A rows.length C).ownBlock = some g → g < L ∨ H ≤ g))
    (hown13 : w13.ownsRow base 26 1 (.slice A13 (rows.length + (1 + fsz kk)) C13) (rows.length + (1 + fsz kk)) (xs ++ news)) (hlow12 : Below wr.heap.size wr w12) (_ : Below w9.heap.size w9 w12) (hs9 : wr.heap.size < w9.heap.size) (hbase : base ≤ wr.heap.size)
    (hnews : ∀ (i : Nat) (r : List Int), ((places kk).map (pre ++ ·))[i]? = some r → ∃ a' c', news[i]? = some (Value.slice a' r.length c') ∧ ISc w12 w9.heap.size w12.heap.size a' c' r)
    (hgrow : w12.grownBy w13 (Value.slice A rows.length C).ownBlock) (hat : (Value.slice A13 (rows.length + (1 + fsz kk)) C13).ownBlock = (Value.slice A rows.length C).ownBlock ∨ (Value.slice A13 (rows.length + (1 + fsz kk)) C13).ownBlock = some w12.heap.size) : ROwn w13 base (rows ++ (places kk).map (pre ++ ·)) A13 C13 := by
  have hl : ((places kk).map (pre ++ ·)).length = 1 + fsz kk := by rw [List.length_map, places_len]
  rw [← hl] at hown13 hat
  exact ROwn.many hown hall hown13 hlow12 hbase (fun i r hr => by obtain ⟨a', c', h1, h2⟩ := hnews i r hr; exact ⟨a', c', h1, h2.mono (by omega) (Nat.le_refl _)⟩) hgrow hat

set_option maxRecDepth 100000 in
set_option maxHeartbeats 1000000 in
theorem l1Places_any (N : Nat) : ∀ (s v : Int) (a : Option Addr) (c : Nat) (k : Fo) (hA : Option Addr) (hC hn : Nat) (head : List Int) (w : World), Sl w 0 w.heap.size a k → ISl w 0 w.heap.size hA head → hn = head.length → fsz k ≤ N → N ≤ 1000 → head.length + N ≤ 2000 →
    Calls Try.prog 92 #[.agg #[.int .i64 s, .int .i64 v, .slice a (flen k) c], .slice hA hn hC] w (LpPost k head w) := by
  induction N using Nat.strongRecOn with
  | _ N ih =>
    intro s v a c k hA hC hn head w hl hh hnn hN hN2 hN3
    subst hnn
    have hfl := flen_le_sz k
    have IH := Lib.hid ih
    have HHD := Lib.hid hh
    clear ih hh
    obtain ⟨ti, hti, htz, hts, htb⟩ := Try.infoI
    obtain ⟨tj, hji, hjz, hjs, hjb⟩ := Try.infoIS
    have HTI : Hid (Try.prog.info? 3 = some ti ∧ ti.zero = some (.int .i64 0) ∧ ti.size = 1 ∧ ti.bytes = 8) := ⟨hti, htz, hts, htb⟩
    have HTJ : Hid (Try.prog.info? 26 = some tj ∧ tj.zero = some (.slice none 0 0) ∧ tj.size = 1 ∧ tj.bytes = 24) := ⟨hji, hjz, hjs, hjb⟩
    clear hti htz hts htb hji hjz hjs hjb
    have HO1 : Hid (((w.alloc (.cells #[.int .i64 s, .int .i64 v, .slice a (flen k) c] 35)).alloc (.cells #[] 3)).ownsRow (w.heap.size + 1) 3 1 (.slice (some ⟨w.heap.size + 1, 0, none⟩) 0 0) 0 []) :=
      own_empty (by have := heap_alloc_new (w.alloc (.cells #[.int .i64 s, .int .i64 v, .slice a (flen k) c] 35)) (.cells #[] 3); simpa using this) (Nat.le_refl _)
    have HSRC : Hid (Src ((w.alloc (.cells #[.int .i64 s, .int .i64 v, .slice a (flen k) c] 35)).alloc (.cells #[] 3)) 1 hA head.length (head.map (Value.int .i64))) :=
      src_of_isl (HHD.out.below (((Below.refl _ _).alloc (Nat.le_refl _) _).alloc (by simp) _)) (fun ha => by have := HHD.out; rw [ha] at this; exact isl_none this)
    go_enter Try.func92, Try.ntmps92
    go_wp2_with (at_builtin; refine wpList_append_src _ rfl _ _ 26 rfl (w.heap.size + 1) 3 ti _ 1 8 Try.underlying26 HTI.out.1 HTI.out.2.1 HTI.out.2.2.1 HTI.out.2.2.2 rfl (by omega) (.slice (some ⟨w.heap.size + 1, 0, none⟩) 0 0) 0 [] rfl HO1.out hA head.length hC (head.map (Value.int .i64)) rfl HSRC.out (by simp [Value.oneCell']) (by unfold maxLen; omega) (by omega) (by simp) ?_; intro A1 C1 w1 hown1 hgrow1 hat1)
    have hown1' : w1.ownsRow (w.heap.size + 1) 3 1 (.slice A1 head.length C1) head.length (head.map (Value.int .i64)) := by simpa using hown1
    have hlow1 : Below (w.heap.size + 1) (w.alloc (.cells #[.int .i64 s, .int .i64 v, .slice a (flen k) c] 35)) w1 := ((Below.refl _ _).alloc (by simp) _).grown hgrow1 (by simp) (fun g hg => by simp [Value.ownBlock] at hg; omega)
    have hs1 := hlow1.size
    simp at hs1
    have HST := Lib.hid (lp_start hown1' hs1)
    have HB1 : Hid (Below (w.heap.size + 1) (w.alloc (.cells #[.int .i64 s, .int .i64 v, .slice a (flen k) c] 35)) (w1.alloc (.cells #[.slice A1 head.length C1] 26))) := hlow1.alloc (by omega) _
    clear hown1 hown1' hlow1 hgrow1 hat1 HO1 HSRC
    go_loopw [5, 6] (fun t i wr => ∃ (j C : Nat) (A : Option Addr) (rows : List (List Int)), j ≤ flen k ∧ i = .int .i64 j ∧ t = .slice A rows.length C ∧ rows.length ≤ 1 + fsz k ∧ Hid ((places k).map (head ++ ·) = rows ++ (fpl (fdrop j k) j).map (head ++ ·)) ∧ ROwn wr (w.heap.size + 1) rows A C ∧ Below (w.heap.size + 1) (w.alloc (.cells #[.int .i64 s, .int .i64 v, .slice a (flen k) c] 35)) wr) (fun _ i _ => flen k - (intOf i).toNat)
    case atStart => exact ⟨0, 1, _, [head], by omega, rfl, rfl, by simp, by simp [Hid, places, fdrop], HST.out, HB1.out⟩
    case round =>
      clear HST HB1
      obtain ⟨j, C, A, rows, hj, rfl, rfl, hrl, hpl, hro, hbl⟩ := hrel
      obtain ⟨hc0, hc1, hc2⟩ : wr.cell? ⟨w.heap.size, 0, none⟩ = some (.int .i64 s) ∧ wr.cell? ⟨w.heap.size, 1, none⟩ = some (.int .i64 v) ∧ wr.cell? ⟨w.heap.size, 2, none⟩ = some (.slice a (flen k) c) := box_cells ⟨wr, hbl⟩
      have hsr := hbl.size
      simp at hsr
      by_cases hlt : j < flen k
      · rcases hl with rfl | ⟨b, o, rfl, hrow⟩
        · simp [flen] at hlt
        obtain ⟨s', v', kk, a', c', ⟨x, y, hd⟩, _, hbB, hk0, hk1, hk2, hsl⟩ := row_at (hrow.below (after_top hbl)) hlt
        have hkN := fsz_kid hd
        have HPL : Hid ((places k).map (head ++ ·) = rows ++ ((places kk).map ((head ++ [(j : Int)]) ++ ·) ++ (fpl (fdrop (j + 1) k) (j + 1)).map (head ++ ·))) := by
          have := hpl.out
          rw [hd] at this
          unfold Hid
          simpa [fpl, places, Function.comp_def] using this
        have HLEN : Hid (rows.length + (1 + fsz kk) ≤ 1 + fsz k) := by
          have h1 := congrArg List.length HPL.out
          rw [List.length_map, places_len, List.length_append, List.length_append, List.length_map, places_len] at h1
          unfold Hid
          omega
        have HHR : Hid (ISl wr 0 w.heap.size hA head) := HHD.out.below (after_top hbl)
        have HS := Lib.hid hsl
        have HRO := Lib.hid hro
        have HBL := Lib.hid hbl
        have g1 : (0 : Int) ≤ (j : Int) := by omega
        have g2 : (j : Int) < (flen k : Int) := by omega
        clear hd hrow hpl hsl hro hbl hc0 hc1
        have HO8a : Hid ((wr.alloc (.cells #[] 3)).drew.ownsRow wr.heap.size 3 1 (.slice (some ⟨wr.heap.size, 0, none⟩) 0 0) 0 []) := own_empty (heap_alloc_new _ _) (Nat.le_refl _)
        have HO8b : Hid (((wr.alloc (.cells #[] 3)).alloc (.cells #[.int .i64 (j : Int)] 3)).drew.ownsRow wr.heap.size 3 1 (.slice (some ⟨wr.heap.size, 0, none⟩) 0 0) 0 []) := own_empty ((Below.heap_alloc (wr.alloc (.cells #[] 3)) (.cells #[.int .i64 (j : Int)] 3) wr.heap.size (by simp)).trans (heap_alloc_new _ _)) (Nat.le_refl _)
        have HO8c : Hid (((wr.alloc (.cells #[.int .i64 (j : Int)] 3)).alloc (.cells #[] 3)).drew.ownsRow wr.heap.size 3 1 (.slice (some ⟨wr.heap.size + 1, 0, none⟩) 0 0) 0 []) := own_empty (heap_top wr _ _) (by omega)
        have HS8a : Hid (Src (wr.alloc (.cells #[] 3)).drew 1 hA head.length (head.map (Value.int .i64))) := src_of_isl (HHR.out.below ((Below.refl _ _).alloc (by omega) _).drew) (fun ha => by have := HHR.out; rw [ha] at this; exact isl_none this)
        have HS8b : Hid (Src ((wr.alloc (.cells #[] 3)).alloc (.cells #[.int .i64 (j : Int)] 3)).drew 1 hA head.length (head.map (Value.int .i64))) := src_of_isl (HHR.out.below (((Below.refl _ _).alloc (by omega) _).alloc (by simp; omega) _).drew) (fun ha => by have := HHR.out; rw [ha] at this; exact isl_none this)
        have HS8c : Hid (Src ((wr.alloc (.cells #[.int .i64 (j : Int)] 3)).alloc (.cells #[] 3)).drew 1 hA head.length (head.map (Value.int .i64))) := src_of_isl (HHR.out.below (((Below.refl _ _).alloc (by omega) _).alloc (by simp; omega) _).drew) (fun ha => by have := HHR.out; rw [ha] at this; exact isl_none this)
        have HONE : Hid (∀ u ∈ head.map (Value.int .i64), u.oneCell' = true) := by unfold Hid; simp [Value.oneCell']
        have HMX : Hid (0 + head.length ≤ maxLen) := by unfold Hid maxLen; omega
        have HBY : Hid ((0 + head.length) * 8 ≤ 140737488355328) := by unfold Hid; omega
        have HONE1 : Hid (∀ u ∈ [Value.int .i64 (j : Int)], u.oneCell' = true) := by unfold Hid; simp [Value.oneCell']
        have HMX1 : Hid (head.length + 1 ≤ maxLen) := by unfold Hid maxLen; omega
        have HBY1 : Hid ((head.length + 1) * 8 ≤ 140737488355328) := by unfold Hid; omega
        have HB8a : Hid (wr.heap.size ≤ (wr.alloc (.cells #[] 3)).drew.heap.size) := by unfold Hid; simp
        have HB8b : Hid (wr.heap.size ≤ ((wr.alloc (.cells #[] 3)).alloc (.cells #[.int .i64 (j : Int)] 3)).drew.heap.size) := by unfold Hid; simp; omega
        have HB8c : Hid (wr.heap.size ≤ ((wr.alloc (.cells #[.int .i64 (j : Int)] 3)).alloc (.cells #[] 3)).drew.heap.size) := by unfold Hid; simp; omega
        obtain ⟨xs, hown, hall⟩ := HRO.out
        have HOWN := Lib.hid hown
        have HALL := Lib.hid hall
        clear hown hall
        go_wp2_with fail
        go_region_held3 (fun w' => w'.cell? ⟨w.heap.size, 2, none⟩ = some (.slice (some ⟨b, o, none⟩) (flen k) c) ∧ w'.cell? ⟨b, o + j * 3, none⟩ = some (.int .i64 s') ∧ w'.cell? ⟨b, o + j * 3 + 1, none⟩ = some (.int .i64 v') ∧ w'.cell? ⟨b, o + j * 3 + 2, none⟩ = some (.slice a' (flen kk) c'))
          (first
            | exact keep4 (B := w.heap.size + 1) hlow13 hc2 hk0 hk1 hk2 (by omega) (by omega)
            | exact keep4 (B := w.heap.size + 1) (hlow12.mono (by omega)) hc2 hk0 hk1 hk2 (by omega) (by omega)
            | exact keep4 (B := w.heap.size + 1) (hlow9.mono (by omega)) hc2 hk0 hk1 hk2 (by omega) (by omega)
            | exact keep4 (B := w.heap.size + 1) ((hlow8.mono (by omega)).alloc (by omega) _) hc2 hk0 hk1 hk2 (by omega) (by omega)
            | exact keep4 (B := w.heap.size + 1) (hlow8.mono (by omega)) hc2 hk0 hk1 hk2 (by omega) (by omega)
            | go_keep)
          (first
            | (refine step_src (by rfl) _ _ 26 (by rfl) wr.heap.size 3 ti _ 1 8 Try.underlying26 HTI.out.1 HTI.out.2.1 HTI.out.2.2.1 HTI.out.2.2.2 rfl Nat.one_pos (.slice (some ⟨wr.heap.size, 0, none⟩) 0 0) 0 [] (by rfl) HO8a.out hA head.length hC (head.map (Value.int .i64)) (by rfl) HS8a.out HONE.out HMX.out HBY.out HB8a.out ?_; intro A8 C8 w8 hown8 hgrow8 hat8; have hown8x : w8.ownsRow wr.heap.size 3 1 (.slice A8 head.length C8) head.length (head.map (Value.int .i64)) := (by simpa using hown8); have hlow8 : Below wr.heap.size wr w8 := lp_low8a hgrow8; have hs8 : wr.heap.size < w8.heap.size := (by have := hgrow8.size; simp at this; omega); have hI8 : Hid True := trivial)
            | (refine step_src (by rfl) _ _ 26 (by rfl) wr.heap.size 3 ti _ 1 8 Try.underlying26 HTI.out.1 HTI.out.2.1 HTI.out.2.2.1 HTI.out.2.2.2 rfl Nat.one_pos (.slice (some ⟨wr.heap.size, 0, none⟩) 0 0) 0 [] (by rfl) HO8b.out hA head.length hC (head.map (Value.int .i64)) (by rfl) HS8b.out HONE.out HMX.out HBY.out HB8b.out ?_; intro A8 C8 w8 hown8 hgrow8 hat8; have hown8x : w8.ownsRow wr.heap.size 3 1 (.slice A8 head.length C8) head.length (head.map (Value.int .i64)) := (by simpa using hown8); have hlow8 : Below wr.heap.size wr w8 := lp_low8b hgrow8; have hs8 : wr.heap.size < w8.heap.size := (by have := hgrow8.size; simp at this; omega); have hI8 : Hid (Src w8 1 (some ⟨wr.heap.size + 1, 0, none⟩) 1 [.int .i64 (j : Int)]) := lp_i8b hgrow8)
            | (refine step_src (by rfl) _ _ 26 (by rfl) wr.heap.size 3 ti _ 1 8 Try.underlying26 HTI.out.1 HTI.out.2.1 HTI.out.2.2.1 HTI.out.2.2.2 rfl Nat.one_pos (.slice (some ⟨wr.heap.size + 1, 0, none⟩) 0 0) 0 [] (by rfl) HO8c.out hA head.length hC (head.map (Value.int .i64)) (by rfl) HS8c.out HONE.out HMX.out HBY.out HB8c.out ?_; intro A8 C8 w8 hown8 hgrow8 hat8; have hown8x : w8.ownsRow wr.heap.size 3 1 (.slice A8 head.length C8) head.length (head.map (Value.int .i64)) := (by simpa using hown8); have hlow8 : Below wr.heap.size wr w8 := lp_low8c hgrow8; have hs8 : wr.heap.size < w8.heap.size := (by have := hgrow8.size; simp at this; omega); have hI8 : Hid (Src w8 1 (some ⟨wr.heap.size, 0, none⟩) 1 [.int .i64 (j : Int)]) := lp_i8c hgrow8)
            | (refine step_src (by rfl) _ _ 26 (by rfl) wr.heap.size 3 ti _ 1 8 Try.underlying26 HTI.out.1 HTI.out.2.1 HTI.out.2.2.1 HTI.out.2.2.2 rfl (by omega) (.slice A8 head.length C8) head.length (head.map (Value.int .i64)) (by rfl) (own_low ((Below.refl _ _).alloc (Nat.le_refl _) _) hown8x) (some ⟨w8.heap.size, 0, none⟩) 1 1 [.int .i64 (j : Int)] (by rfl) ⟨rfl, .inr ⟨_, rfl, World.news_of_block (heap_alloc_new _ _)⟩⟩ (by simp [Value.oneCell']) (by unfold maxLen; omega) (by omega) (by simp; omega) ?_; intro A9 C9 w9 hown9 hgrow9 hat9; have hlow9 : Below wr.heap.size wr w9 := (hlow8.alloc (by omega) _).grown hgrow9 (by simp; omega) (fun g hg => (hown8x.lt g hg).1); have hs9 : wr.heap.size < w9.heap.size := (by have := hgrow9.size; simp at this; omega))
            | ((go_at_call 92; refine (IH.out (fsz kk) (by omega) s' v' a' c' kk A9 C9 _ (head ++ [(j : Int)]) _ ?_ ?_ ?_ (Nat.le_refl _) (by omega) ?_).mono ?_); exact (HS.out.below (hlow9.mono (by omega))).mono (Nat.le_refl _) (by omega); exact (isl_of_own (n := head.length + 1) (xs := head ++ [(j : Int)]) (by simpa using hown9)).mono (Nat.zero_le _) (Nat.le_refl _); simp; (simp; omega); rintro e w12 ⟨A12, C12, rfl, hb12, hr12⟩; have hlow12 : Below wr.heap.size wr w12 := hlow9.trans (hb12.mono (by omega)); have hs12 := hb12.size; obtain ⟨news, hsrc, hone, hnews⟩ := rsl_news hr12 (fun ha => rsl_none (ha ▸ hr12)))
            | (refine step_src (by rfl) _ _ 57 (by rfl) (w.heap.size + 1) 26 tj _ 1 24 Try.underlying57 HTJ.out.1 HTJ.out.2.1 HTJ.out.2.2.1 HTJ.out.2.2.2 rfl (by omega) (.slice A rows.length C) rows.length xs (by rfl) (own_low hlow12 HOWN.out) A12 (1 + fsz kk) C12 news (by rfl) (by simpa [places_len] using hsrc) hone (by unfold maxLen; omega) (by omega) (by omega) ?_; intro A13 C13 w13 hown13 hgrow13 hat13; have hlow13 : Below (w.heap.size + 1) wr w13 := (hlow12.mono (by omega)).grown hgrow13 (by omega) (fun g hg => (HOWN.out.lt g hg).1))
            | (refine step_src (by rfl) _ _ 26 (by rfl) wr.heap.size 3 ti _ 1 8 Try.underlying26 HTI.out.1 HTI.out.2.1 HTI.out.2.2.1 HTI.out.2.2.2 rfl Nat.one_pos (.slice A8 head.length C8) head.length (head.map (Value.int .i64)) (by show Value.slice A8 (0 + head.length) C8 = _; rw [Nat.zero_add]) hown8x (some ⟨_, 0, none⟩) 1 1 [.int .i64 (j : Int)] ?_ hI8.out HONE1.out HMX1.out HBY1.out (Nat.le_of_lt hs8) ?_; rfl; intro A9 C9 w9 hown9 hgrow9 hat9; have hlow9 : Below wr.heap.size wr w9 := hlow8.grown hgrow9 (by omega) (fun g hg => (hown8x.lt g hg).1); have hs9 : wr.heap.size < w9.heap.size := (by have := hgrow9.size; omega)))
        all_goals
          go_wp2_with fail
          have hrow13 : ROwn w13 (w.heap.size + 1) (rows ++ (places kk).map ((head ++ [(j : Int)]) ++ ·)) A13 C13 :=
            lp_many HOWN.out HALL.out hown13 hlow12 hb12 hs9 (by omega) hnews hgrow13 hat13
          refine ⟨⟨j + 1, C13, A13, _, by omega, by go_num, by simp [places_len], ?_, by rw [Hid, HPL.out, List.append_assoc], hrow13, HBL.out.trans hlow13⟩, ?_⟩
          · rw [List.length_append, List.length_map, places_len]
            exact HLEN.out
          · simp [intOf]; omega
      · have HE : Hid ((places k).map (head ++ ·) = rows) := by
          have := hpl.out
          rw [fdrop_all (by omega)] at this
          unfold Hid
          simpa [fpl] using this
        have HP : Hid (LpPost k head w (.returned (.slice A rows.length C)) wr) := by
          have hle : rows.length = 1 + fsz k := by rw [← HE.out, List.length_map, places_len]
          refine ⟨A, C, by rw [hle], after_top hbl, ?_⟩
          rw [HE.out]
          exact hro.sl.mono (by omega) (Nat.le_refl _)
        clear hpl hro hbl hc0 hc1
        go_wp2_with fail
        go_ret
        exact HP.out
end Go.Proofs.Ytdkcbbhkoibplaa
