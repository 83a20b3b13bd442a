/- Several texts in one: P6a, P7a, LO3, LawOPart. -/
import Derived.Test.YtbgjdkpdjclagaaKOrd16
import Derived.Test.YtbgjdkpdjclagaaKOrd17
import Derived.Test.YtbgjdkpdjclagaaKOrd22

/-! P6a: impl.TermPlaces and spec.TermPlaces: of a term the places, of any other value none. -/
namespace Go.Proofs.Ytbgjdkpdjclagaa
open Go.RowKit Go.Deep

set_option maxRecDepth 100000 in
set_option maxHeartbeats 1000000 in
theorem iTermPlaces_any (s v : Int) (a : Option Addr) (c : Nat) (k : Fo) (w : World) (hl : Sl w 0 w.heap.size a k) :
    Calls Try.prog 14 #[.agg #[.int .i64 s, .int .i64 v, .slice a (flen k) c]] w (TpPost s v k w) := by
  cases hok : okW s v k 16 with
  | false =>
    have HOK := Lib.hid hok
    clear hok
    go_enter Try.func14, Try.ntmps14
    go_wp2_with fail
    with_reducible refine (nodeOf_any s v a c k 16 _ ?_ (by omega) (by omega)).mono ?_
    · exact (hl.below ((Below.refl _ _).alloc (Nat.le_refl _) _)).mono (Nat.le_refl _) (by simp)
    rintro e w2 ⟨nv, he, hb, hyes⟩
    rw [HOK.out] at he
    subst he
    clear hyes
    go_wp2_with fail
    go_ret
    exact ⟨none, 0, [], rfl, by rw [HOK.out]; rfl, ((Below.refl _ _).alloc (Nat.le_refl _) _).trans (hb.mono (by simp)), .inl rfl⟩
  | true =>
    have HOK := Lib.hid hok
    have hsz := ((okW_iff _ _ _ _).1 hok).2.2
    clear hok
    go_enter Try.func14, Try.ntmps14
    go_wp2_with fail
    with_reducible refine (nodeOf_any s v a c k 16 _ ?_ (by omega) (by omega)).mono ?_
    · exact (hl.below ((Below.refl _ _).alloc (Nat.le_refl _) _)).mono (Nat.le_refl _) (by simp)
    rintro e w2 ⟨nv, he, hb, hyes⟩
    rw [HOK.out] at he
    subst he
    have HN := Lib.hid (hyes HOK.out)
    have HB := Lib.hid (((Below.refl _ _).alloc (Nat.le_refl _) _).trans (hb.mono (by simp)))
    have hs2 := HB.out.size
    clear hyes hb
    obtain ⟨ty, vv, rfl⟩ : ∃ ty vv, nv = .iface ty vv := by
      rcases HN.out with ⟨_, _, rfl⟩ | ⟨_, _, _, rfl, _⟩
      · exact ⟨_, _, rfl⟩
      · exact ⟨_, _, rfl⟩
    go_wp2_with fail
    with_reducible refine (placesOf_any (fsz k) s v k _ _ ?_ (Nat.le_refl _) (by omega)).mono ?_
    · exact HN.out.mono (Nat.zero_le _) (Nat.le_refl _)
    rintro e w3 ⟨A, C, rfl, hb3, hr3⟩
    have HP : Hid (TpPost s v k w (.returned (.slice A (places k).length C)) w3) :=
      ⟨A, C, places k, rfl, by rw [HOK.out]; rfl, HB.out.trans (hb3.mono hs2), hr3.mono hs2 (Nat.le_refl _)⟩
    clear hb3 hr3
    go_wp2_with fail
    go_ret
    exact HP.out

end Go.Proofs.Ytbgjdkpdjclagaa

/-! P7a: Each place is there, none twice: plain. -/
namespace Go.Proofs.Ytbgjdkpdjclagaa
open Go.RowKit Go.Deep

mutual
theorem fpl_at : ∀ (r : Fo) (s v : Int) (k : Fo) (i : Nat) (p : List Int), fdrop i k = r → p ∈ fpl r i → ∃ x, fat s v k p = some x
  | .nil, _, _, _, _, _, _, hp => by simp [fpl] at hp
  | .node x y (s', v') kk r, s, v, k, i, p, hd, hp => by
    simp only [fpl, List.mem_append, List.mem_map] at hp
    rcases hp with ⟨q, hq, rfl⟩ | hp
    · have hi : i < flen k := by
        by_cases h : i < flen k
        · exact h
        · rw [fdrop_all (by omega)] at hd; cases hd
      obtain ⟨z, hz⟩ := places_at kk s' v' q hq
      refine ⟨z, ?_⟩
      simp only [fat]
      rw [if_pos (by omega)]
      simp only [Int.toNat_natCast, hd]
      exact hz
    · have hd' : fdrop (i + 1) k = r := by
        have hi : i < flen k := by
          by_cases h : i < flen k
          · exact h
          · rw [fdrop_all (by omega)] at hd; cases hd
        obtain ⟨x', y', s2, v2, kk2, e⟩ := fdrop_succ i k hi
        rw [hd] at e
        simp only [BT.node.injEq] at e
        exact e.2.2.2.2.symm
      exact fpl_at r s v k (i + 1) p hd' hp
  termination_by r => (SizeOf.sizeOf r, 0)
theorem places_at : ∀ (k : Fo) (s v : Int) (p : List Int), p ∈ [] :: fpl k 0 → ∃ x, fat s v k p = some x
  | k, s, v, p, hp => by
    rcases List.mem_cons.1 hp with rfl | hp
    · exact ⟨_, rfl⟩
    · exact fpl_at k s v k 0 p rfl hp
  termination_by k => (SizeOf.sizeOf k, 1)
end

theorem fpl_head : ∀ (k : Fo) (i : Nat) (p : List Int), p ∈ fpl k i → ∃ (j : Nat) (q : List Int), p = (j : Int) :: q ∧ i ≤ j
  | .nil, _, _, hp => by simp [fpl] at hp
  | .node _ _ _ kk r, i, p, hp => by
    simp only [fpl, List.mem_append, List.mem_map] at hp
    rcases hp with ⟨q, _, rfl⟩ | hp
    · exact ⟨i, q, rfl, Nat.le_refl _⟩
    · obtain ⟨j, q, e, h⟩ := fpl_head r (i + 1) p hp
      exact ⟨j, q, e, by omega⟩
theorem nil_fpl {k : Fo} {i : Nat} {b : List Int} (hb : b ∈ fpl k i) : [] ≠ b := by
  obtain ⟨j, q, e, _⟩ := fpl_head k i b hb
  intro e'
  rw [e] at e'
  cases e'
theorem fpl_apart : ∀ (k : Fo) (i : Nat), (fpl k i).Pairwise (· ≠ ·)
  | .nil, _ => List.Pairwise.nil
  | .node _ _ _ kk r, i => by
    simp only [fpl]
    rw [List.pairwise_append]
    refine ⟨?_, fpl_apart r (i + 1), fun a ha b hb => ?_⟩
    · rw [List.pairwise_map]
      have h : ([] :: fpl kk 0).Pairwise (· ≠ ·) := List.pairwise_cons.2 ⟨fun _ hb => nil_fpl hb, fpl_apart kk 0⟩
      exact h.imp fun hne e => hne (List.cons.inj e).2
    · obtain ⟨q, _, rfl⟩ := List.mem_map.1 ha
      obtain ⟨j, q', rfl, hj⟩ := fpl_head r (i + 1) b hb
      intro e
      have := (List.cons.inj e).1
      omega
theorem places_apart (k : Fo) : (places k).Pairwise (· ≠ ·) :=
  List.pairwise_cons.2 ⟨fun _ hb => nil_fpl hb, fpl_apart k 0⟩
theorem places_unlike {k : Fo} {i j : Nat} {p q : List Int} (hi : (places k)[i]? = some p) (hj : (places k)[j]? = some q) (hij : i < j) : p ≠ q := by
  obtain ⟨h1, rfl⟩ := List.getElem?_eq_some_iff.1 hi
  obtain ⟨h2, rfl⟩ := List.getElem?_eq_some_iff.1 hj
  exact List.pairwise_iff_getElem.1 (places_apart k) i j h1 h2 hij
end Go.Proofs.Ytbgjdkpdjclagaa

/-! LO3: A term is more than its parts: plain. -/
namespace Go.Proofs.Ytbgjdkpdjclagaa
open Go.RowKit Go.Deep

theorem gt_fat {rk : Int → Nat} : ∀ (p : List Int) (s v : Int) (k : Fo) {X : Int × Int × Fo}, okN s v (flen k) = true → fok k = true → p ≠ [] → fat s v k p = some X → Gt rk (tmOf s v k) (tmOf X.1 X.2.1 X.2.2)
  | [], _, _, _, _, _, _, h, _ => absurd rfl h
  | i :: ps, s, v, k, X, ho, hf, _, h => by
    simp only [fat] at h
    split at h
    · rename_i hi
      split at h
      · rename_i x y s1 v1 kk r hd
        have hk := fok_kid hf hd
        have hm : tmOf s1 v1 kk ∈ (tmOf s v k).kids := by
          rw [tm_kids (shape_of ho hf)]
          exact List.mem_of_getElem? (ftm_at _ _ hd)
        by_cases hp : ps = []
        · subst hp
          simp only [fat, Option.some.injEq] at h
          subst h
          exact .kid hm
        · exact .sub hm (gt_fat ps s1 v1 kk hk.1 hk.2 hp h)
      · cases h
    · cases h

/-- A part at a place behind the first. -/
theorem moreR_part {xs : List Int} {s v : Int} {k : Fo} {i : Nat} {p : List Int} (hr : rkOk xs = true) (ho : okW s v k 16 = true) (hp : (places k)[i]? = some p) (hi : 0 < i) :
    ∃ sx vx kx, atR s v k p = (sx, vx, kx, true) ∧ moreR xs s v k sx vx kx = true := by
  obtain ⟨o1, o2, o3⟩ := (okW_iff _ _ _ _).1 ho
  have hmem : p ∈ fpl k 0 := by
    unfold places at hp
    cases i with
    | zero => omega
    | succ n =>
      rw [List.getElem?_cons_succ] at hp
      exact List.mem_of_getElem? hp
  obtain ⟨⟨sx, vx, kx⟩, hx⟩ := places_at k s v p (List.mem_cons_of_mem _ hmem)
  obtain ⟨q1, q2, q3⟩ := fat_ok p s v k o1 o2 hx
  refine ⟨sx, vx, kx, by unfold atR; rw [if_pos ho, hx], ?_⟩
  refine moreR_iff.2 ⟨hr, ho, (okW_iff _ _ _ _).2 ⟨q1, q2, by omega⟩, gt_fat p s v k o1 o2 (fun e => nil_fpl hmem e.symm) hx⟩
end Go.Proofs.Ytbgjdkpdjclagaa

/-! LawOPart: laws.FnOrderPart answers true at every code. -/
namespace Go.Proofs.Ytbgjdkpdjclagaa
open Go.RowKit Go.Deep

set_option maxRecDepth 100000 in
set_option maxHeartbeats 3000000 in
theorem orderPart_walk (a0 : Option Addr) (len cap : Nat) (w : World) (hby : Bytes w a0 len) (hlen : len ≤ cap) :
    Calls Try.prog 3 #[.slice a0 len cap] w fun e w' => e = .returned (.bool true) ∧ Below w.heap.size w w' := by
  have HBY := Lib.hid hby
  clear hby
  by_cases hbig : 1048576 < len
  · go_enter Try.func3, Try.ntmps3
    go_wp2_with fail
    go_ret
    exact ⟨rfl, Below.refl _ _⟩
  go_enter Try.func3, Try.ntmps3
  go_wp2_with fail
  with_reducible refine (DrawOrderMore_any a0 len cap _ HBY.out hlen).mono ?_
  rintro e w0 ⟨xs, A, C, s, v, a, c, k, s', v', a', c', k', rfl, hx4, hS, hS', hb1, hi1, hl1, hl1'⟩
  have HO1 := Lib.hid (ob_start (C := C) (s := s) (v := v) (c := c) (s' := s') (v' := v') (c' := c') hb1 hi1 hl1 hl1')
  have HX4 := Lib.hid hx4
  clear hb1 hi1 hl1 hl1' hx4
  generalize hm : moreR xs s v k s' v' k' = mm
  cases hrk : rkOk xs with
  | false =>
    have HRK := Lib.hid hrk
    clear hrk
    have HM := Lib.hid hm
    clear hm
    have e1 : (mm != mm) = false := by simp
    have e2 : (mm == mm) = true := by simp
    have qs0 := HO1.out.s0
    have qs1 := HO1.out.s1
    have qs2 := HO1.out.s2
    have qt0 := HO1.out.t0
    have qt1 := HO1.out.t1
    have qt2 := HO1.out.t2
    go_wp2_with fail
    with_reducible refine (iOrderMore_any xs A C s v a c k s' v' a' c' k' _ HO1.out.ints HO1.out.one HO1.out.two).mono ?_
    rw [HM.out]
    rintro e w2 ⟨rfl, hb⟩
    have HO2 := Lib.hid (HO1.out.next hb)
    clear qs0 qs1 qs2 qt0 qt1 qt2
    clear hb HO1
    have qs0 := HO2.out.s0
    have qs1 := HO2.out.s1
    have qs2 := HO2.out.s2
    have qt0 := HO2.out.t0
    have qt1 := HO2.out.t1
    have qt2 := HO2.out.t2
    go_wp2_with fail
    with_reducible refine (sOrderMore_any xs A C s v a c k s' v' a' c' k' _ HO2.out.ints HO2.out.one HO2.out.two).mono ?_
    rw [HM.out]
    rintro e w3 ⟨rfl, hb⟩
    have HO3 := Lib.hid (HO2.out.next hb)
    clear qs0 qs1 qs2 qt0 qt1 qt2
    clear hb HO2
    have qs0 := HO3.out.s0
    have qs1 := HO3.out.s1
    have qs2 := HO3.out.s2
    have qt0 := HO3.out.t0
    have qt1 := HO3.out.t1
    have qt2 := HO3.out.t2
    go_wp2_with fail
    with_reducible refine (sOrderOk_any xs A C _ HO3.out.ints).mono ?_
    rw [HRK.out]
    rintro e w4 ⟨rfl, hb⟩
    have HO4 := Lib.hid (HO3.out.next hb)
    clear qs0 qs1 qs2 qt0 qt1 qt2
    clear hb HO3
    have qs0 := HO4.out.s0
    have qs1 := HO4.out.s1
    have qs2 := HO4.out.s2
    have qt0 := HO4.out.t0
    have qt1 := HO4.out.t1
    have qt2 := HO4.out.t2
    go_wp2_with fail
    with_reducible refine (sOrderMore_any xs A C s v a c k s' v' a' c' k' _ HO4.out.ints HO4.out.one HO4.out.two).mono ?_
    rw [HM.out]
    rintro e w5 ⟨rfl, hb⟩
    have HO5 := Lib.hid (HO4.out.next hb)
    clear qs0 qs1 qs2 qt0 qt1 qt2
    clear hb HO4
    go_wp2_with fail
    go_ret
    exact ⟨rfl, HO5.out.low⟩
  | true =>
    have HRK := Lib.hid hrk
    clear hrk
    cases hok : okW s v k 16 with
    | false =>
      have HOK := Lib.hid hok
      clear hok
      have HM := Lib.hid hm
      clear hm
      have e1 : (mm != mm) = false := by simp
      have e2 : (mm == mm) = true := by simp
      have qs0 := HO1.out.s0
      have qs1 := HO1.out.s1
      have qs2 := HO1.out.s2
      have qt0 := HO1.out.t0
      have qt1 := HO1.out.t1
      have qt2 := HO1.out.t2
      go_wp2_with fail
      with_reducible refine (iOrderMore_any xs A C s v a c k s' v' a' c' k' _ HO1.out.ints HO1.out.one HO1.out.two).mono ?_
      rw [HM.out]
      rintro e w2 ⟨rfl, hb⟩
      have HO2 := Lib.hid (HO1.out.next hb)
      clear qs0 qs1 qs2 qt0 qt1 qt2
      clear hb HO1
      have qs0 := HO2.out.s0
      have qs1 := HO2.out.s1
      have qs2 := HO2.out.s2
      have qt0 := HO2.out.t0
      have qt1 := HO2.out.t1
      have qt2 := HO2.out.t2
      go_wp2_with fail
      with_reducible refine (sOrderMore_any xs A C s v a c k s' v' a' c' k' _ HO2.out.ints HO2.out.one HO2.out.two).mono ?_
      rw [HM.out]
      rintro e w3 ⟨rfl, hb⟩
      have HO3 := Lib.hid (HO2.out.next hb)
      clear qs0 qs1 qs2 qt0 qt1 qt2
      clear hb HO2
      have qs0 := HO3.out.s0
      have qs1 := HO3.out.s1
      have qs2 := HO3.out.s2
      have qt0 := HO3.out.t0
      have qt1 := HO3.out.t1
      have qt2 := HO3.out.t2
      go_wp2_with fail
      with_reducible refine (sOrderOk_any xs A C _ HO3.out.ints).mono ?_
      rw [HRK.out]
      rintro e w4 ⟨rfl, hb⟩
      have HO4 := Lib.hid (HO3.out.next hb)
      clear qs0 qs1 qs2 qt0 qt1 qt2
      clear hb HO3
      have qs0 := HO4.out.s0
      have qs1 := HO4.out.s1
      have qs2 := HO4.out.s2
      have qt0 := HO4.out.t0
      have qt1 := HO4.out.t1
      have qt2 := HO4.out.t2
      go_wp2_with fail
      with_reducible refine (sTermOk_any s v a c k _ HO4.out.one).mono ?_
      rw [HOK.out]
      rintro e w5 ⟨rfl, hb⟩
      have HO5 := Lib.hid (HO4.out.next hb)
      clear qs0 qs1 qs2 qt0 qt1 qt2
      clear hb HO4
      have qs0 := HO5.out.s0
      have qs1 := HO5.out.s1
      have qs2 := HO5.out.s2
      have qt0 := HO5.out.t0
      have qt1 := HO5.out.t1
      have qt2 := HO5.out.t2
      go_wp2_with fail
      with_reducible refine (sOrderMore_any xs A C s v a c k s' v' a' c' k' _ HO5.out.ints HO5.out.one HO5.out.two).mono ?_
      rw [HM.out]
      rintro e w6 ⟨rfl, hb⟩
      have HO6 := Lib.hid (HO5.out.next hb)
      clear qs0 qs1 qs2 qt0 qt1 qt2
      clear hb HO5
      go_wp2_with fail
      go_ret
      exact ⟨rfl, HO6.out.low⟩
    | true =>
      have HOK := Lib.hid hok
      clear hok
      have HM := Lib.hid hm
      clear hm
      have e1 : (mm != mm) = false := by simp
      have e2 : (mm == mm) = true := by simp
      have qs0 := HO1.out.s0
      have qs1 := HO1.out.s1
      have qs2 := HO1.out.s2
      have qt0 := HO1.out.t0
      have qt1 := HO1.out.t1
      have qt2 := HO1.out.t2
      go_wp2_with fail
      with_reducible refine (iOrderMore_any xs A C s v a c k s' v' a' c' k' _ HO1.out.ints HO1.out.one HO1.out.two).mono ?_
      rw [HM.out]
      rintro e w2 ⟨rfl, hb⟩
      have HO2 := Lib.hid (HO1.out.next hb)
      clear qs0 qs1 qs2 qt0 qt1 qt2
      clear hb HO1
      have qs0 := HO2.out.s0
      have qs1 := HO2.out.s1
      have qs2 := HO2.out.s2
      have qt0 := HO2.out.t0
      have qt1 := HO2.out.t1
      have qt2 := HO2.out.t2
      go_wp2_with fail
      with_reducible refine (sOrderMore_any xs A C s v a c k s' v' a' c' k' _ HO2.out.ints HO2.out.one HO2.out.two).mono ?_
      rw [HM.out]
      rintro e w3 ⟨rfl, hb⟩
      have HO3 := Lib.hid (HO2.out.next hb)
      clear qs0 qs1 qs2 qt0 qt1 qt2
      clear hb HO2
      have qs0 := HO3.out.s0
      have qs1 := HO3.out.s1
      have qs2 := HO3.out.s2
      have qt0 := HO3.out.t0
      have qt1 := HO3.out.t1
      have qt2 := HO3.out.t2
      go_wp2_with fail
      with_reducible refine (sOrderOk_any xs A C _ HO3.out.ints).mono ?_
      rw [HRK.out]
      rintro e w4 ⟨rfl, hb⟩
      have HO4 := Lib.hid (HO3.out.next hb)
      clear qs0 qs1 qs2 qt0 qt1 qt2
      clear hb HO3
      have qs0 := HO4.out.s0
      have qs1 := HO4.out.s1
      have qs2 := HO4.out.s2
      have qt0 := HO4.out.t0
      have qt1 := HO4.out.t1
      have qt2 := HO4.out.t2
      go_wp2_with fail
      with_reducible refine (sTermOk_any s v a c k _ HO4.out.one).mono ?_
      rw [HOK.out]
      rintro e w5 ⟨rfl, hb⟩
      have HO5 := Lib.hid (HO4.out.next hb)
      clear qs0 qs1 qs2 qt0 qt1 qt2
      clear hb HO4
      have qs0 := HO5.out.s0
      have qs1 := HO5.out.s1
      have qs2 := HO5.out.s2
      have qt0 := HO5.out.t0
      have qt1 := HO5.out.t1
      have qt2 := HO5.out.t2
      go_wp2_with fail
      with_reducible refine (iTermPlaces_any s v a c k _ HO5.out.one).mono ?_
      rintro e w6 ⟨AL, CL, rows, rfl, hrows, hb, hrs⟩
      rw [if_pos HOK.out] at hrows
      subst hrows
      have HRS := Lib.hid (hrs.mono (lo' := 0) (Nat.zero_le _) (Nat.le_refl _))
      have hpk : (places k).length ≤ 16 := by rw [places_len]; have := ((okW_iff _ _ _ _).1 HOK.out).2.2; omega
      have hpk1 : 1 ≤ (places k).length := by rw [places_len]; omega
      clear hrs
      have HO6 := Lib.hid (HO5.out.next hb)
      clear qs0 qs1 qs2 qt0 qt1 qt2
      clear hb HO5
      go_wp2_with fail
      go_loopw [8] (fun i wr => ∃ j : Nat, i = .int .i64 j ∧ j ≤ (places k).length ∧ 1 ≤ j ∧ Hid (Ob A xs s v a c k s' v' a' c' k' w0.heap.size (w0.heap.size + 1) w wr) ∧ Hid (RSl wr 0 wr.heap.size AL (places k))) (fun i _ => (places k).length - (intOf i).toNat)
      case atStart => exact ⟨1, rfl, hpk1, Nat.le_refl _, HO6, HRS⟩
      case round =>
        clear HO6 HRS
        obtain ⟨j, rfl, hj, hj1, HO, HRS⟩ := hrel
        by_cases hlt : j < (places k).length
        · obtain ⟨rb, ro, pA, pC, pl, hAL, _, hrb, hrp, hrc, hpl⟩ := rsl_at HRS.out hlt
          subst hAL
          obtain ⟨sx, vx, kx, hat, hmx⟩ := moreR_part HRK.out HOK.out hrp (by omega)
          have HAT := Lib.hid hat
          have HMX := Lib.hid hmx
          have HPL := Lib.hid hpl
          have hpll : pl.length ≤ 16 := by have h1 := places_deep (List.mem_of_getElem? hrp); have h2 := ((okW_iff _ _ _ _).1 HOK.out).2.2; omega
          clear hat hmx hpl hrp
          have g1 : (0 : Int) ≤ (j : Int) := by omega
          have g2 : (j : Int) < ((places k).length : Int) := by omega
          have hu0 : ∀ u : After wr.heap.size wr, u.world.cell? ⟨w0.heap.size, 0, none⟩ = some (.int .i64 s) := fun u => cell_low u.below HO.out.s0
          have hu1 : ∀ u : After wr.heap.size wr, u.world.cell? ⟨w0.heap.size, 1, none⟩ = some (.int .i64 v) := fun u => cell_low u.below HO.out.s1
          have hu2 : ∀ u : After wr.heap.size wr, u.world.cell? ⟨w0.heap.size, 2, none⟩ = some (.slice a (flen k) c) := fun u => cell_low u.below HO.out.s2
          have hu3 : ∀ u : After wr.heap.size wr, u.world.cell? ⟨rb, ro + j, none⟩ = some (.slice pA pl.length pC) := fun u => cell_low u.below hrc
          clear hrc
          go_wp2_with fail
          refine wp_region_anyT (fun w' => ∃ u : After wr.heap.size wr, w' = u.world) (by kernel_rfl) ?_
          have HBD : Hid (Below wr.heap.size wr wr.drew) := (Below.refl _ _).drew
          generalize wr.drew = wd at *
          refine anyT_look (i := 0) rfl (by kernel_rfl) ⟨⟨_, HBD.out⟩, rfl⟩ (fun K hK => ?_)
          go_simp
          refine hK _ ?_
          clear hK K
          refine anyT_look (i := 1) rfl (by kernel_rfl) ⟨⟨_, HBD.out⟩, rfl⟩ (fun K hK => ?_)
          go_simp
          refine hK _ ?_
          clear hK K
          refine anyT_look (i := 2) rfl (by kernel_rfl) ⟨⟨_, HBD.out⟩, rfl⟩ (fun K hK => ?_)
          go_simp
          refine hK _ ?_
          clear hK K
          refine anyT_look (i := 3) rfl (by kernel_rfl) ⟨⟨_, HBD.out⟩, rfl⟩ (fun K hK => ?_)
          go_simp
          refine hK _ ?_
          clear hK K
          refine anyT_look (i := 4) rfl (by kernel_rfl) ⟨⟨_, HBD.out⟩, rfl⟩ (fun K hK => ?_)
          go_simp
          refine hK _ ?_
          clear hK K
          clear hu0 hu1 hu2 hu3
          refine anyT_two (i := 5) (j := 9) (by kernel_rfl) rfl rfl (fun K hK => ?_) (fun K hK => ?_)
          · go_simp
            with_reducible refine (iTermAt_any s v a c k pA pC pl _ ((HO.out.next HBD.out).one) ((HPL.out.below HBD.out).mono (Nat.le_refl _) HBD.out.size) (by omega)).mono ?_
            rintro e wp ⟨ax, cx, sx', vx', kx', tx, hR, rfl, hbp, hlx⟩
            rw [HAT.out] at hR
            simp only [Prod.mk.injEq] at hR
            obtain ⟨rfl, rfl, rfl, rfl⟩ := hR
            have HLX := Lib.hid hlx
            have hlo : wr.heap.size ≤ wd.heap.size := HBD.out.size
            replace HBD := Lib.hid (HBD.out.trans (hbp.mono hlo))
            refine hK _ _ ⟨⟨_, HBD.out⟩, rfl⟩ ?_
            clear hK K hbp hlx
            refine anyT_look (i := 6) rfl (by kernel_rfl) ⟨⟨_, HBD.out⟩, rfl⟩ (fun K hK => ?_)
            go_simp
            refine hK _ ?_
            clear hK K
            refine anyT_look (i := 7) rfl (by kernel_rfl) ⟨⟨_, HBD.out⟩, rfl⟩ (fun K hK => ?_)
            go_simp
            refine hK _ ?_
            clear hK K
            refine anyT_look (i := 8) rfl (by kernel_rfl) ⟨⟨_, HBD.out⟩, rfl⟩ (fun K hK => ?_)
            go_simp
            refine hK _ ?_
            clear hK K
            refine anyT_one (i := 9) (by kernel_rfl) rfl (fun K hK => ?_)
            go_simp
            have HZ := Lib.hid (zb_new wp)
            have hbz : wr.heap.size ≤ wp.heap.size := HBD.out.size
            have hbe : Below wp.heap.size wp (wp.alloc (.cells #[.int .i64 0, .int .i64 0, .slice none 0 0] 26)) := (Below.refl _ _).alloc (Nat.le_refl _) _
            replace HLX := Lib.hid (HLX.out.below hbe)
            replace HBD := Lib.hid (HBD.out.trans (hbe.mono hbz))
            refine hK _ _ ⟨⟨_, HBD.out⟩, rfl⟩ ?_
            clear hK K hbe
            generalize wp.alloc (.cells #[.int .i64 0, .int .i64 0, .slice none 0 0] 26) = wz at *
            have hzz0 := HZ.out.z0
            have hzz1 := HZ.out.z1
            have hzz2 := HZ.out.z2
            have hzf0 := HZ.out.f 0
            have hzf1 := HZ.out.f 1
            have hzf2 := HZ.out.f 2
            have HBE : Hid (Below wr.heap.size wr (((wz.setCell ⟨wp.heap.size, 0, none⟩ (.int .i64 sx)).setCell ⟨wp.heap.size, 1, none⟩ (.int .i64 vx)).setCell ⟨wp.heap.size, 2, none⟩ (.slice ax (flen kx) cx))) := ((HBD.out.setCell hbz _).setCell hbz _).setCell hbz _
            have HBX := Lib.hid (box_set HZ.out (.int .i64 sx) (.int .i64 vx) (.slice ax (flen kx) cx))
            have HLF : Hid (Sl (((wz.setCell ⟨wp.heap.size, 0, none⟩ (.int .i64 sx)).setCell ⟨wp.heap.size, 1, none⟩ (.int .i64 vx)).setCell ⟨wp.heap.size, 2, none⟩ (.slice ax (flen kx) cx)) 0 (((wz.setCell ⟨wp.heap.size, 0, none⟩ (.int .i64 sx)).setCell ⟨wp.heap.size, 1, none⟩ (.int .i64 vx)).setCell ⟨wp.heap.size, 2, none⟩ (.slice ax (flen kx) cx)).heap.size ax kx) := (HLX.out.set3 (.inr (Nat.le_refl _)) _ _ _).mono (by omega) (by have := HZ.out.lt; simp <;> omega)
            refine anyT_one (i := 10) (by kernel_rfl) rfl (fun K hK => ?_)
            go_simp
            refine hK _ _ ⟨⟨_, HBE.out⟩, rfl⟩ ?_
            clear hK K hzz0 hzz1 hzz2 hzf0 hzf1 hzf2
            refine anyT_one (i := 11) (by kernel_rfl) rfl (fun K hK => ?_)
            go_simp
            refine hK _ _ ⟨⟨_, HBE.out⟩, rfl⟩ ?_
            clear hK K
            refine anyT_done (by kernel_rfl) ?_
            have HO2 := Lib.hid (HO.out.next HBE.out)
            have HRS2 := Lib.hid ((HRS.out.below HBE.out).mono (Nat.le_refl _) HBE.out.size)
            obtain ⟨y0, y1, y2⟩ := HBX.out
            clear HZ HLX HBD HBE HBX HO HRS HPL
            generalize (((wz.setCell ⟨wp.heap.size, 0, none⟩ (.int .i64 sx)).setCell ⟨wp.heap.size, 1, none⟩ (.int .i64 vx)).setCell ⟨wp.heap.size, 2, none⟩ (.slice ax (flen kx) cx)) = we at *
            have q0 := HO2.out.s0
            have q1 := HO2.out.s1
            have q2 := HO2.out.s2
            go_wp2_with fail
            with_reducible refine (iOrderMore_any xs A C s v a c k sx vx ax cx kx _ HO2.out.ints HO2.out.one HLF.out).mono ?_
            rw [HMX.out]
            rintro e wf ⟨rfl, hbf⟩
            have HO3 := Lib.hid (HO2.out.next hbf)
            have HRS3 := Lib.hid ((HRS2.out.below hbf).mono (Nat.le_refl _) hbf.size)
            clear hbf q0 q1 q2 y0 y1 y2 HO2 HRS2
            go_wp2_with fail
            go_roundw
            case rel => exact ⟨j + 1, by go_num, by omega, by omega, HO3, HRS3⟩
            case measure => simp [intOf]; omega
          · go_simp
            have HZ := Lib.hid (zb_new wd)
            have hbz : wr.heap.size ≤ wd.heap.size := HBD.out.size
            have hbe : Below wd.heap.size wd (wd.alloc (.cells #[.int .i64 0, .int .i64 0, .slice none 0 0] 26)) := (Below.refl _ _).alloc (Nat.le_refl _) _
            replace HBD := Lib.hid (HBD.out.trans (hbe.mono hbz))
            refine hK _ _ ⟨⟨_, HBD.out⟩, rfl⟩ ?_
            clear hK K hbe
            generalize wd.alloc (.cells #[.int .i64 0, .int .i64 0, .slice none 0 0] 26) = wz at *
            refine anyT_one (i := 5) (by kernel_rfl) rfl (fun K hK => ?_)
            go_simp
            with_reducible refine (iTermAt_any s v a c k pA pC pl _ ((HO.out.next HBD.out).one) ((HPL.out.below HBD.out).mono (Nat.le_refl _) HBD.out.size) (by omega)).mono ?_
            rintro e wp ⟨ax, cx, sx', vx', kx', tx, hR, rfl, hbp, hlx⟩
            rw [HAT.out] at hR
            simp only [Prod.mk.injEq] at hR
            obtain ⟨rfl, rfl, rfl, rfl⟩ := hR
            have HLX := Lib.hid hlx
            have hlo : wr.heap.size ≤ wz.heap.size := HBD.out.size
            have hzl := HZ.out.lt
            replace HZ := Lib.hid (HZ.out.low hbp)
            replace HBD := Lib.hid (HBD.out.trans (hbp.mono hlo))
            refine hK _ _ ⟨⟨_, HBD.out⟩, rfl⟩ ?_
            clear hK K hbp hlx
            refine anyT_look (i := 6) rfl (by kernel_rfl) ⟨⟨_, HBD.out⟩, rfl⟩ (fun K hK => ?_)
            go_simp
            refine hK _ ?_
            clear hK K
            refine anyT_look (i := 7) rfl (by kernel_rfl) ⟨⟨_, HBD.out⟩, rfl⟩ (fun K hK => ?_)
            go_simp
            refine hK _ ?_
            clear hK K
            refine anyT_look (i := 8) rfl (by kernel_rfl) ⟨⟨_, HBD.out⟩, rfl⟩ (fun K hK => ?_)
            go_simp
            refine hK _ ?_
            clear hK K
            have hzz0 := HZ.out.z0
            have hzz1 := HZ.out.z1
            have hzz2 := HZ.out.z2
            have hzf0 := HZ.out.f 0
            have hzf1 := HZ.out.f 1
            have hzf2 := HZ.out.f 2
            have HBE : Hid (Below wr.heap.size wr (((wp.setCell ⟨wd.heap.size, 0, none⟩ (.int .i64 sx)).setCell ⟨wd.heap.size, 1, none⟩ (.int .i64 vx)).setCell ⟨wd.heap.size, 2, none⟩ (.slice ax (flen kx) cx))) := ((HBD.out.setCell hbz _).setCell hbz _).setCell hbz _
            have HBX := Lib.hid (box_set HZ.out (.int .i64 sx) (.int .i64 vx) (.slice ax (flen kx) cx))
            have HLF : Hid (Sl (((wp.setCell ⟨wd.heap.size, 0, none⟩ (.int .i64 sx)).setCell ⟨wd.heap.size, 1, none⟩ (.int .i64 vx)).setCell ⟨wd.heap.size, 2, none⟩ (.slice ax (flen kx) cx)) 0 (((wp.setCell ⟨wd.heap.size, 0, none⟩ (.int .i64 sx)).setCell ⟨wd.heap.size, 1, none⟩ (.int .i64 vx)).setCell ⟨wd.heap.size, 2, none⟩ (.slice ax (flen kx) cx)).heap.size ax kx) := (HLX.out.set3 (.inl hzl) _ _ _).mono (by omega) (by have := HZ.out.lt; simp <;> omega)
            refine anyT_one (i := 10) (by kernel_rfl) rfl (fun K hK => ?_)
            go_simp
            refine hK _ _ ⟨⟨_, HBE.out⟩, rfl⟩ ?_
            clear hK K hzz0 hzz1 hzz2 hzf0 hzf1 hzf2
            refine anyT_one (i := 11) (by kernel_rfl) rfl (fun K hK => ?_)
            go_simp
            refine hK _ _ ⟨⟨_, HBE.out⟩, rfl⟩ ?_
            clear hK K
            refine anyT_done (by kernel_rfl) ?_
            have HO2 := Lib.hid (HO.out.next HBE.out)
            have HRS2 := Lib.hid ((HRS.out.below HBE.out).mono (Nat.le_refl _) HBE.out.size)
            obtain ⟨y0, y1, y2⟩ := HBX.out
            clear HZ HLX HBD HBE HBX HO HRS HPL
            generalize (((wp.setCell ⟨wd.heap.size, 0, none⟩ (.int .i64 sx)).setCell ⟨wd.heap.size, 1, none⟩ (.int .i64 vx)).setCell ⟨wd.heap.size, 2, none⟩ (.slice ax (flen kx) cx)) = we at *
            have q0 := HO2.out.s0
            have q1 := HO2.out.s1
            have q2 := HO2.out.s2
            go_wp2_with fail
            with_reducible refine (iOrderMore_any xs A C s v a c k sx vx ax cx kx _ HO2.out.ints HO2.out.one HLF.out).mono ?_
            rw [HMX.out]
            rintro e wf ⟨rfl, hbf⟩
            have HO3 := Lib.hid (HO2.out.next hbf)
            have HRS3 := Lib.hid ((HRS2.out.below hbf).mono (Nat.le_refl _) hbf.size)
            clear hbf q0 q1 q2 y0 y1 y2 HO2 HRS2
            go_wp2_with fail
            go_roundw
            case rel => exact ⟨j + 1, by go_num, by omega, by omega, HO3, HRS3⟩
            case measure => simp [intOf]; omega
        · go_wp2_with fail
          go_ret
          exact ⟨rfl, HO.out.low⟩
end Go.Proofs.Ytbgjdkpdjclagaa
