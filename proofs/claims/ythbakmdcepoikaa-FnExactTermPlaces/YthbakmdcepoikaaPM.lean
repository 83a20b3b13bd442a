/- eqIntSS, markIntSS, heldIntSS. -/
import Derived.Test.YthbakmdcepoikaaPF2
import Derived.Test.YthbakmdcepoikaaXI
namespace Go.Proofs.Ythbakmdcepoikaa
open Go.RowKit Go.Deep

set_option maxRecDepth 100000 in
set_option maxHeartbeats 1000000 in
theorem eqIntSS_same (rows : List (List Int)) (A B : Option Addr) (ca cb m n : Nat) (w : World) (hA : RSl w 0 w.heap.size A rows) (hB : RSl w 0 w.heap.size B rows) (hm : m = rows.length) (hn : n = rows.length) (hx : rows.length ≤ 2000) (hdeep : ∀ r ∈ rows, r.length ≤ 2000) :
    Calls Try.prog 15 #[.slice A m ca, .slice B n cb] w fun e w' => e = .returned (.bool true) ∧ Below w.heap.size w w' := by
  subst hm
  subst hn
  have HA := Lib.hid hA
  have HB := Lib.hid hB
  have HD := Lib.hid hdeep
  clear hA hB hdeep
  go_enter Try.func15, Try.ntmps15
  go_wp2_with fail
  go_loopw [5] (fun i wr => ∃ j : Nat, j ≤ rows.length ∧ i = .int .i64 j ∧ Below w.heap.size w wr) (fun i _ => rows.length - (intOf i).toNat)
  case atStart => exact ⟨0, by omega, rfl, Below.refl _ _⟩
  case round =>
    obtain ⟨j, hj, rfl, hbl⟩ := hrel
    have hbs := hbl.size
    by_cases hlt : j < rows.length
    · obtain ⟨b, o, a1, c1, r, rfl, _, _, hr, hc, hi1⟩ := rsl_at (HA.out.below hbl) hlt
      obtain ⟨b', o', a2, c2, r', rfl, _, _, hr', hc', hi2⟩ := rsl_at (HB.out.below hbl) hlt
      have e1 : r' = r := by rw [hr] at hr'; exact (Option.some.inj hr').symm
      subst e1
      have hrl : r'.length ≤ 2000 := HD.out r' (List.mem_of_getElem? hr)
      have HI1 := Lib.hid hi1
      have HI2 := Lib.hid hi2
      have hu0 : ∀ u : After wr.heap.size wr, u.world.cell? ⟨b, o + j, none⟩ = some (.slice a1 r'.length c1) := fun u => u.cell (by simp; omega) hc
      have hu1 : ∀ u : After wr.heap.size wr, u.world.cell? ⟨b', o' + j, none⟩ = some (.slice a2 r'.length c2) := fun u => u.cell (by simp; omega) hc'
      have g1 : (0 : Int) ≤ (j : Int) := by omega
      have g2 : (j : Int) < (rows.length : Int) := by omega
      have HBL := Lib.hid hbl
      have HCALL : Hid (∀ u : After wr.heap.size wr, Calls Try.prog 28 #[.slice a1 r'.length c1, .slice a2 r'.length c2] u.world fun e w' => e = .returned (.bool true) ∧ Below u.world.heap.size u.world w') := fun u => by
        have hu := u.below
        have hus := hu.size
        refine eqIntS_same r' a1 a2 c1 c2 _ _ u.world ?_ ?_ rfl rfl (by omega)
        · exact (HI1.out.below (hu.mono (by omega))).mono (Nat.le_refl _) (by omega)
        · exact (HI2.out.below (hu.mono (by omega))).mono (Nat.le_refl _) (by omega)
      clear hi1 hi2 hr hr' hbl
      go_wp2_with fail
      refine wp_region_after wr.heap.size (by kernel_rfl) (by kernel_rfl) ?_
      repeat (go_big_quiet_step ((go_at_call 28; exact Calls.after (After.below ‹_›).size (HCALL.out _))))
      refine wpQuiet_nil ?_
      rintro u ⟨⟨_, hu⟩, rfl⟩
      clear hu0 hu1 hc hc'
      have HB2 := Lib.hid (HBL.out.trans (hu.mono hbs))
      clear hu
      go_wp2_with fail
      go_roundw
      case rel => exact ⟨j + 1, by omega, by go_num, HB2.out⟩
      case measure => simp [intOf]; omega
    · go_wp2_with fail
      go_ret
      exact ⟨rfl, hbl⟩

def tot (rows : List (List Int)) : Nat := (rows.map List.length).sum
def mks : Int → List (List Int) → List (List Int)
  | _, [] => []
  | m, r :: rs => ups m r.length :: mks (m + r.length) rs
theorem mks_len : ∀ (m : Int) (rows : List (List Int)), (mks m rows).length = rows.length
  | _, [] => rfl
  | m, r :: rs => by simp [mks, mks_len _ rs]
theorem mks_at : ∀ (m : Int) (rows : List (List Int)) {i : Nat} {r : List Int}, rows[i]? = some r → (mks m rows)[i]? = some (ups (m + tot (rows.take i)) r.length)
  | _, [], _, _, h => by simp at h
  | m, r' :: rs, 0, r, h => by
    simp at h
    subst h
    simp [mks, tot]
  | m, r' :: rs, i + 1, r, h => by
    have := mks_at (m + r'.length) rs (i := i) (r := r) (by simpa using h)
    simp only [mks, List.getElem?_cons_succ, this, tot, List.take_succ_cons, List.map_cons, List.sum_cons, Option.some.injEq]
    congr 1
    omega
theorem tot_take {rows : List (List Int)} {i : Nat} {r : List Int} (h : rows[i]? = some r) : tot (rows.take (i + 1)) = tot (rows.take i) + r.length := by
  unfold tot
  rw [List.take_add_one, h]
  simp
theorem tot_le (rows : List (List Int)) (i : Nat) : tot (rows.take i) ≤ tot rows := by
  have := congrArg tot (List.take_append_drop i rows)
  unfold tot at this ⊢
  simp only [List.map_append, List.sum_append] at this
  omega
theorem tot_at : ∀ {rows : List (List Int)} {i : Nat} {r : List Int}, rows[i]? = some r → r.length ≤ tot rows
  | [], _, _, h => by simp at h
  | r' :: rs, 0, r, h => by simp at h; subst h; simp [tot]
  | r' :: rs, i + 1, r, h => by
    have := tot_at (rows := rs) (i := i) (r := r) (by simpa using h)
    simp only [tot, List.map_cons, List.sum_cons] at this ⊢
    omega

theorem own_block {W w2 : World} {base : Nat} {e : TypeId} {size : Nat} {v : Value} {n : Nat} {xs : List Value} (h : W.ownsRow base e size v n xs) (hs : ∀ g, v.ownBlock = some g → w2.heap[g]? = W.heap[g]?) : w2.ownsRow base e size v n xs := by
  refine ⟨h.1, ?_⟩
  rcases h.2 with h2 | ⟨g, cap, cur, h3, h4, h5, h6⟩
  · exact .inl h2
  · exact .inr ⟨g, cap, cur, h3, h4, by rw [hs g (by rw [h3]; rfl)]; exact h5, h6⟩

/-- Row j has been written over. -/
theorem RF.mark {w w2 : World} {base : Nat} {cur : List (List Int)} {A : Option Addr} {C : Nat} {xs : List Value} {lo hi : Nat → Nat} {j : Nat} {r r2 : List Int} {a : Option Addr} {c : Nat} (h : RF w base cur A C xs lo hi) (hr : cur[j]? = some r) (hx : xs[j]? = some (Value.slice a r.length c))
    (hl : r2.length = r.length) (hown : IOwn w2 (lo j) r2 a c) (hg : w.grownBy w2 (Value.slice a r.length c).ownBlock) : RF w2 base (cur.set j r2) A C xs lo hi := by
  have hj := (List.getElem?_eq_some_iff.1 hr).1
  obtain ⟨a', c', hx', hw, h1, h2, h3⟩ := h.at_ j r hr
  rw [hx] at hx'
  simp only [Option.some.injEq, Value.slice.injEq] at hx'
  obtain ⟨rfl, _, rfl⟩ := hx'
  have hs := hg.size
  have hb : ∀ g, (Value.slice a r.length c).ownBlock = some g → lo j ≤ g ∧ g < hi j := fun g hgg => ⟨(hw.own.lt g hgg).1, hw.hi g hgg⟩
  refine ⟨?_, fun i k hik hk => h.up i k hik (by rwa [List.length_set] at hk), fun i r' hr' => ?_⟩
  · rw [List.length_set]
    refine own_block h.own fun g hgg => hg.block g (h.own.lt g hgg).2 fun e => ?_
    have := h3 g hgg
    have := hb g e.symm
    omega
  · rw [List.length_set]
    by_cases e : i = j
    · subst e
      rw [List.getElem?_set_self hj] at hr'
      obtain rfl := Option.some.inj hr'
      exact ⟨a, c, by rw [hl]; exact hx, ⟨hown, by rw [hl]; exact hw.hi⟩, h1, by omega, h3⟩
    · rw [List.getElem?_set_ne (fun h => e h.symm)] at hr'
      obtain ⟨a', c', gx, gw, g1, g2, g3⟩ := h.at_ i r' hr'
      refine ⟨a', c', gx, gw.same (fun b hb1 hb2 => hg.block b (by omega) fun eb => ?_), g1, by omega, g3⟩
      have := hb b eb.symm
      have hi' := (List.getElem?_eq_some_iff.1 hr').1
      rcases Nat.lt_or_gt_of_ne e with hij | hij
      · have := h.up i j hij hj; omega
      · have := h.up j i hij hi'; omega

def MssPost (base : Nat) (rows : List (List Int)) (A : Option Addr) (C : Nat) (m : Int) (w : World) (e : Ending) (w' : World) : Prop :=
  e = .returned (.int .i64 (m + tot rows)) ∧ ROwnF w' base (mks m rows) A C ∧ Below base w w'

set_option maxRecDepth 100000 in
set_option maxHeartbeats 1000000 in
theorem markIntSS_any (base : Nat) (rows : List (List Int)) (A : Option Addr) (C : Nat) (m : Int) (w : World) (h : ROwnF w base rows A C) (hb : base ≤ w.heap.size) (hl : rows.length ≤ 2000) (ht : tot rows ≤ 1000000) (hm0 : 0 ≤ m) (hm1 : m ≤ 1000000) :
    Calls Try.prog 17 #[.slice A rows.length C, .int .i64 m] w (MssPost base rows A C m w) := by
  obtain ⟨xs, lo, hi, h⟩ := h
  have H := Lib.hid h
  have HB := Lib.hid hb
  clear h hb
  go_enter Try.func17, Try.ntmps17
  go_wp2_with fail
  go_loopw [1, 5] (fun t i wr => ∃ (j : Nat) (cur : List (List Int)), j ≤ rows.length ∧ i = .int .i64 j ∧ t = .int .i64 (m + tot (rows.take j)) ∧ Hid (cur.length = rows.length ∧ (∀ q, q < j → cur[q]? = (mks m rows)[q]?) ∧ ∀ q, j ≤ q → cur[q]? = rows[q]?) ∧ Hid (RF wr base cur A C xs lo hi) ∧ Hid (Below base w wr)) (fun _ i _ => rows.length - (intOf i).toNat)
  case atStart => exact ⟨0, rows, by omega, rfl, by simp [tot], ⟨rfl, fun q hq => by omega, fun _ _ => rfl⟩, H.out, Below.refl _ _⟩
  case round =>
    obtain ⟨j, cur, hj, rfl, rfl, hcur, hrf, hbl⟩ := hrel
    by_cases hlt : j < rows.length
    · have hr : rows[j]? = some rows[j] := List.getElem?_eq_getElem hlt
      generalize rows[j] = r at hr
      have hcr : cur[j]? = some r := by rw [hcur.out.2.2 j (Nat.le_refl _)]; exact hr
      obtain ⟨a, c, hx, hw, _, _, _⟩ := hrf.out.at_ j r hcr
      have hcl : cur.length = rows.length := hcur.out.1
      have hownr := hrf.out.own
      rw [hcl] at hownr
      obtain ⟨g, cap, hv, hbg, hgl⟩ := hownr.form (by omega)
      simp only [Value.slice.injEq] at hv
      obtain ⟨rfl, _, rfl⟩ := hv
      have hc : wr.cell? ⟨g, j, none⟩ = some (.slice a r.length c) := by rw [hownr.cellAt j (by omega)]; exact hx
      have htk := tot_take hr
      have hte := tot_le rows j
      have hte2 := tot_le rows (j + 1)
      have hrt := tot_at hr
      have HW := Lib.hid hw.own
      have HFIN : Hid (∀ w2 e2, MiPost (lo j) r a c (m + tot (rows.take j)) wr e2 w2 → Hid ((cur.set j (ups (m + tot (rows.take j)) r.length)).length = rows.length ∧ (∀ q, q < j + 1 → (cur.set j (ups (m + tot (rows.take j)) r.length))[q]? = (mks m rows)[q]?) ∧ ∀ q, j + 1 ≤ q → (cur.set j (ups (m + tot (rows.take j)) r.length))[q]? = rows[q]?) ∧ Hid (RF w2 base (cur.set j (ups (m + tot (rows.take j)) r.length)) (some ⟨g, 0, none⟩) C xs lo hi) ∧ Hid (Below base w w2)) := by
        rintro w2 e2 ⟨_, hown2, hgr2⟩
        refine ⟨⟨by rw [List.length_set]; exact hcl, fun q hq => ?_, fun q hq => ?_⟩, hrf.out.mark hcr hx (ups_len _ _) (by unfold IOwn; rw [ups_len]; exact hown2) hgr2, ?_⟩
        · by_cases e : q = j
          · subst e
            rw [List.getElem?_set_self (by omega), mks_at m rows hr]
          · rw [List.getElem?_set_ne (fun h => e h.symm)]
            exact hcur.out.2.1 q (by omega)
        · rw [List.getElem?_set_ne (by omega)]
          exact hcur.out.2.2 q (by omega)
        · obtain ⟨_, _, _, _, hlo, _, _⟩ := hrf.out.at_ j r hcr
          refine hbl.out.grown hgr2 ?_ fun g' hg' => ?_
          · exact Nat.le_trans HB.out hbl.out.size
          · have := (hw.own.lt g' hg').1
            omega
      have g1 : (0 : Int) ≤ (j : Int) := by omega
      have g2 : (j : Int) < (rows.length : Int) := by omega
      have e1 : m + tot (rows.take j) + (r.length : Int) = m + tot (rows.take (j + 1)) := by rw [htk]; push_cast; omega
      have HE1 := Lib.hid e1
      clear hrf hbl hcur hcr hx hw hownr hr e1 hcl
      go_wp2_with fail
      with_reducible refine (markIntS_any (lo j) r a c (m + tot (rows.take j)) _ HW.out (by omega) (by omega) (by omega)).mono ?_
      intro e2 w2 hmi
      obtain ⟨HC2, HR2, HB2⟩ := HFIN.out w2 e2 hmi
      obtain ⟨rfl, _, _⟩ := hmi
      clear HFIN
      go_wp2_with fail
      go_roundw
      case rel => exact ⟨j + 1, _, by omega, by go_num, by rw [HE1.out], HC2, HR2, HB2⟩
      case measure => simp [intOf]; omega
    · have hje : j = rows.length := by omega
      subst hje
      have HE : Hid (cur = mks m rows) := by
        refine List.ext_getElem? fun q => ?_
        by_cases hq : q < rows.length
        · exact hcur.out.2.1 q hq
        · rw [List.getElem?_eq_none (by rw [hcur.out.1]; omega), List.getElem?_eq_none (by rw [mks_len]; omega)]
      have HP : Hid (MssPost base rows A C m w (.returned (.int .i64 (m + tot (rows.take rows.length)))) wr) := by
        refine ⟨by rw [List.take_length], ⟨xs, lo, hi, ?_⟩, hbl.out⟩
        rw [← HE.out]
        exact hrf.out
      clear hcur hrf hbl
      go_wp2_with fail
      go_ret
      exact HP.out

set_option maxRecDepth 100000 in
set_option maxHeartbeats 1000000 in
theorem heldIntSS_any (rows : List (List Int)) (A : Option Addr) (C n : Nat) (m : Int) (w : World) (h : RSl w 0 w.heap.size A (mks m rows)) (hn : n = rows.length) (hl : rows.length ≤ 2000) (ht : tot rows ≤ 1000000) (hm0 : 0 ≤ m) (hm1 : m ≤ 1000000) :
    Calls Try.prog 18 #[.slice A n C, .int .i64 m] w fun e w' => e = .returned (.int .i64 (m + tot rows)) ∧ Below w.heap.size w w' := by
  subst hn
  have H := Lib.hid h
  clear h
  go_enter Try.func18, Try.ntmps18
  go_wp2_with fail
  go_loopw [1, 5] (fun t i wr => ∃ j : Nat, j ≤ rows.length ∧ i = .int .i64 j ∧ t = .int .i64 (m + tot (rows.take j)) ∧ Below w.heap.size w wr) (fun _ i _ => rows.length - (intOf i).toNat)
  case atStart => exact ⟨0, by omega, rfl, by simp [tot], Below.refl _ _⟩
  case round =>
    obtain ⟨j, hj, rfl, rfl, hbl⟩ := hrel
    have hbs := hbl.size
    by_cases hlt : j < rows.length
    · have hr : rows[j]? = some rows[j] := List.getElem?_eq_getElem hlt
      generalize rows[j] = r at hr
      obtain ⟨b, o, a', c', r', rfl, _, _, hr', hc, hisl⟩ := rsl_at (H.out.below hbl) (show j < (mks m rows).length by rw [mks_len]; exact hlt)
      obtain rfl : r' = ups (m + tot (rows.take j)) r.length := by rw [mks_at m rows hr] at hr'; exact (Option.some.inj hr').symm
      rw [ups_len] at hc
      have htk := tot_take hr
      have hte := tot_le rows j
      have hte2 := tot_le rows (j + 1)
      have hrt := tot_at hr
      have e1 : m + tot (rows.take j) + (r.length : Int) = m + tot (rows.take (j + 1)) := by rw [htk]; push_cast; omega
      have HE1 := Lib.hid e1
      have HI := Lib.hid (hisl.mono (lo' := 0) (Nat.zero_le _) hbs)
      have HBL := Lib.hid hbl
      have g1 : (0 : Int) ≤ (j : Int) := by omega
      have g2 : (j : Int) < (rows.length : Int) := by omega
      have e3 : decide (m + (tot (rows.take j) : Int) + (r.length : Int) < 0) = false := decide_eq_false (by omega)
      clear hr hr' hisl hbl e1
      go_wp2_with fail
      with_reducible refine (heldIntS_any r.length a' c' (m + tot (rows.take j)) _ HI.out (by omega) (by omega) (by omega)).mono ?_
      rintro e w2 ⟨rfl, hb2⟩
      have HB2 := Lib.hid (HBL.out.trans (hb2.mono hbs))
      clear hb2 hc
      go_wp2_with fail
      go_roundw
      case rel => exact ⟨j + 1, by omega, by go_num, by rw [HE1.out], HB2.out⟩
      case measure => simp [intOf]; omega
    · have hje : j = rows.length := by omega
      subst hje
      have HT : Hid (tot (rows.take rows.length) = tot rows) := by rw [List.take_length]; rfl
      go_wp2_with fail
      go_ret
      exact ⟨by rw [← HT.out]; rfl, hbl⟩
end Go.Proofs.Ythbakmdcepoikaa
