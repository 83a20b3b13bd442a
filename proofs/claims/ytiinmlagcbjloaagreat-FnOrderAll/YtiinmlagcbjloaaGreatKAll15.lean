/- Several texts in one: H4, J1, Mix3, S0, LB, ZB. -/
import Derived.Test.YtiinmlagcbjloaaGreatKAll12
import Derived.Test.YtiinmlagcbjloaaGreatKAll14
import Derived.Test.YtiinmlagcbjloaaGreatKAll7
import Derived.Test.YtiinmlagcbjloaaGreatKAll8
import Derived.Test.YtiinmlagcbjloaaGreatKAll3
import Derived.Test.YtiinmlagcbjloaaGreatKAll5
import Derived.Maps.Own
import Derived.Maps.OwnSet
import Derived.Test.YtiinmlagcbjloaaGreatKAll6

/-! H4: OrderMore of the specification. -/
namespace Go.Proofs.YtiinmlagcbjloaaGreat
open Go.RowKit Go.Deep

set_option maxRecDepth 100000 in
set_option maxHeartbeats 2000000 in
theorem sOrderMore_any (xs : List Int) (A : Option Addr) (C : Nat) (s v : Int) (a : Option Addr) (c : Nat) (k : Fo) (s' v' : Int) (a' : Option Addr) (c' : Nat) (k' : Fo) (w : World) (hr : ISl w 0 w.heap.size A xs) (hl : Sl w 0 w.heap.size a k) (hl' : Sl w 0 w.heap.size a' k') :
    Calls Tryz.prog 7 #[.slice A xs.length C, .agg #[.int .i64 s, .int .i64 v, .slice a (flen k) c], .agg #[.int .i64 s', .int .i64 v', .slice a' (flen k') c']] w fun e w' => e = .returned (.bool (moreR xs s v k s' v' k')) ∧ Below w.heap.size w w' := by
  have hb0 : Below w.heap.size w ((w.alloc (.cells #[.int .i64 s, .int .i64 v, .slice a (flen k) c] 26)).alloc (.cells #[.int .i64 s', .int .i64 v', .slice a' (flen k') c'] 26)) := ((Below.refl _ _).alloc (Nat.le_refl _) _).alloc (by simp) _
  have HB0 := Lib.hid hb0
  have HR0 := Lib.hid ((hr.below hb0).mono (Nat.le_refl _) hb0.size)
  have HL0 := Lib.hid ((hl.below hb0).mono (Nat.le_refl _) hb0.size)
  have HM0 := Lib.hid ((hl'.below hb0).mono (Nat.le_refl _) hb0.size)
  have hbx0 : ((w.alloc (.cells #[.int .i64 s, .int .i64 v, .slice a (flen k) c] 26)).alloc (.cells #[.int .i64 s', .int .i64 v', .slice a' (flen k') c'] 26)).cell? ⟨w.heap.size, 0, none⟩ = some (.int .i64 s) := by rw [World.cell?_alloc_lt _ _ _ (by simp), World.cell?_alloc_at _ _ _ _ rfl]; rfl
  have hbx1 : ((w.alloc (.cells #[.int .i64 s, .int .i64 v, .slice a (flen k) c] 26)).alloc (.cells #[.int .i64 s', .int .i64 v', .slice a' (flen k') c'] 26)).cell? ⟨w.heap.size, 1, none⟩ = some (.int .i64 v) := by rw [World.cell?_alloc_lt _ _ _ (by simp), World.cell?_alloc_at _ _ _ _ rfl]; rfl
  have hbx2 : ((w.alloc (.cells #[.int .i64 s, .int .i64 v, .slice a (flen k) c] 26)).alloc (.cells #[.int .i64 s', .int .i64 v', .slice a' (flen k') c'] 26)).cell? ⟨w.heap.size, 2, none⟩ = some (.slice a (flen k) c) := by rw [World.cell?_alloc_lt _ _ _ (by simp), World.cell?_alloc_at _ _ _ _ rfl]; rfl
  obtain ⟨hby0, hby1, hby2⟩ := two_box (Below.refl ((w.alloc (.cells #[.int .i64 s, .int .i64 v, .slice a (flen k) c] 26)).alloc (.cells #[.int .i64 s', .int .i64 v', .slice a' (flen k') c'] 26)).heap.size ((w.alloc (.cells #[.int .i64 s, .int .i64 v, .slice a (flen k) c] 26)).alloc (.cells #[.int .i64 s', .int .i64 v', .slice a' (flen k') c'] 26)))
  clear hb0 hr hl hl'
  have HC1 : Hid (∀ w1 : World, Below ((w.alloc (.cells #[.int .i64 s, .int .i64 v, .slice a (flen k) c] 26)).alloc (.cells #[.int .i64 s', .int .i64 v', .slice a' (flen k') c'] 26)).heap.size ((w.alloc (.cells #[.int .i64 s, .int .i64 v, .slice a (flen k) c] 26)).alloc (.cells #[.int .i64 s', .int .i64 v', .slice a' (flen k') c'] 26)) w1 →
      (ISl w1 0 w1.heap.size A xs ∧ Sl w1 0 w1.heap.size a k ∧ Sl w1 0 w1.heap.size a' k') ∧ Below w.heap.size w w1) := fun w1 hb => ⟨⟨(HR0.out.below hb).mono (Nat.le_refl _) hb.size, (HL0.out.below hb).mono (Nat.le_refl _) hb.size, (HM0.out.below hb).mono (Nat.le_refl _) hb.size⟩, HB0.out.trans (hb.mono (by simp; omega))⟩
  clear HB0 HR0 HL0 HM0
  cases hrk : rkOk xs with
  | false =>
    have HRK := Lib.hid hrk
    have HE : Hid (moreR xs s v k s' v' k' = false) := by unfold Hid moreR; rw [hrk]; simp
    clear hrk
    go_enter Tryz.func7, Tryz.ntmps7
    go_wp2_with fail
    with_reducible refine (sOrderOk_any xs A C _ (HC1.out _ (Below.refl _ _)).1.1).mono ?_
    rintro e w1 ⟨rfl, hb1⟩
    rw [HRK.out]
    have hd0 := cell_low hb1 hbx0
    have hd1 := cell_low hb1 hbx1
    have hd2 := cell_low hb1 hbx2
    have hf0 := cell_low hb1 hby0
    have hf1 := cell_low hb1 hby1
    have hf2 := cell_low hb1 hby2
    have HB1 := Lib.hid hb1
    clear hb1 hbx0 hbx1 hbx2 hby0 hby1 hby2
    go_wp2_with fail
    go_ret
    exact ⟨by rw [HE.out]; rfl, (HC1.out _ HB1.out).2⟩
  | true =>
    have HRK := Lib.hid hrk
    cases hok : okW s v k 16 with
    | false =>
      have HOK := Lib.hid hok
      have HE : Hid (moreR xs s v k s' v' k' = false) := by unfold Hid moreR; rw [hrk, hok]; simp
      clear hrk hok
      go_enter Tryz.func7, Tryz.ntmps7
      go_wp2_with fail
      with_reducible refine (sOrderOk_any xs A C _ (HC1.out _ (Below.refl _ _)).1.1).mono ?_
      rintro e w1 ⟨rfl, hb1⟩
      rw [HRK.out]
      have hd0 := cell_low hb1 hbx0
      have hd1 := cell_low hb1 hbx1
      have hd2 := cell_low hb1 hbx2
      have hf0 := cell_low hb1 hby0
      have hf1 := cell_low hb1 hby1
      have hf2 := cell_low hb1 hby2
      have HB1 := Lib.hid hb1
      clear hb1 hbx0 hbx1 hbx2 hby0 hby1 hby2
      go_wp2_with fail
      with_reducible refine (sTermOk_any s v a c k _ (HC1.out _ HB1.out).1.2.1).mono ?_
      rintro e w2 ⟨rfl, hb2⟩
      rw [HOK.out]
      have he0 := cell_low hb2 hd0
      have he1 := cell_low hb2 hd1
      have he2 := cell_low hb2 hd2
      have hg0 := cell_low hb2 hf0
      have hg1 := cell_low hb2 hf1
      have hg2 := cell_low hb2 hf2
      have HB2 := Lib.hid (HB1.out.trans (hb2.mono HB1.out.size))
      clear hb2 hd0 hd1 hd2 hf0 hf1 hf2 HB1
      go_wp2_with fail
      go_ret
      exact ⟨by rw [HE.out]; rfl, (HC1.out _ HB2.out).2⟩
    | true =>
      have HOK := Lib.hid hok
      cases hok' : okW s' v' k' 16 with
      | false =>
        have HOK' := Lib.hid hok'
        have HE : Hid (moreR xs s v k s' v' k' = false) := by unfold Hid moreR; rw [hrk, hok, hok']; simp
        clear hrk hok hok'
        go_enter Tryz.func7, Tryz.ntmps7
        go_wp2_with fail
        with_reducible refine (sOrderOk_any xs A C _ (HC1.out _ (Below.refl _ _)).1.1).mono ?_
        rintro e w1 ⟨rfl, hb1⟩
        rw [HRK.out]
        have hd0 := cell_low hb1 hbx0
        have hd1 := cell_low hb1 hbx1
        have hd2 := cell_low hb1 hbx2
        have hf0 := cell_low hb1 hby0
        have hf1 := cell_low hb1 hby1
        have hf2 := cell_low hb1 hby2
        have HB1 := Lib.hid hb1
        clear hb1 hbx0 hbx1 hbx2 hby0 hby1 hby2
        go_wp2_with fail
        with_reducible refine (sTermOk_any s v a c k _ (HC1.out _ HB1.out).1.2.1).mono ?_
        rintro e w2 ⟨rfl, hb2⟩
        rw [HOK.out]
        have he0 := cell_low hb2 hd0
        have he1 := cell_low hb2 hd1
        have he2 := cell_low hb2 hd2
        have hg0 := cell_low hb2 hf0
        have hg1 := cell_low hb2 hf1
        have hg2 := cell_low hb2 hf2
        have HB2 := Lib.hid (HB1.out.trans (hb2.mono HB1.out.size))
        clear hb2 hd0 hd1 hd2 hf0 hf1 hf2 HB1
        go_wp2_with fail
        with_reducible refine (sTermOk_any s' v' a' c' k' _ (HC1.out _ HB2.out).1.2.2).mono ?_
        rintro e w3 ⟨rfl, hb3⟩
        rw [HOK'.out]
        have hd0 := cell_low hb3 he0
        have hd1 := cell_low hb3 he1
        have hd2 := cell_low hb3 he2
        have hf0 := cell_low hb3 hg0
        have hf1 := cell_low hb3 hg1
        have hf2 := cell_low hb3 hg2
        have HB3 := Lib.hid (HB2.out.trans (hb3.mono HB2.out.size))
        clear hb3 he0 he1 he2 hg0 hg1 hg2 HB2
        go_wp2_with fail
        go_ret
        exact ⟨by rw [HE.out]; rfl, (HC1.out _ HB3.out).2⟩
      | true =>
        have HOK' := Lib.hid hok'
        have HE : Hid (moreR xs s v k s' v' k' = pB (Gt (rkN xs) (tmOf s v k) (tmOf s' v' k'))) := by unfold Hid moreR; rw [hrk, hok, hok']; simp
        clear hrk hok hok'
        go_enter Tryz.func7, Tryz.ntmps7
        go_wp2_with fail
        with_reducible refine (sOrderOk_any xs A C _ (HC1.out _ (Below.refl _ _)).1.1).mono ?_
        rintro e w1 ⟨rfl, hb1⟩
        rw [HRK.out]
        have hd0 := cell_low hb1 hbx0
        have hd1 := cell_low hb1 hbx1
        have hd2 := cell_low hb1 hbx2
        have hf0 := cell_low hb1 hby0
        have hf1 := cell_low hb1 hby1
        have hf2 := cell_low hb1 hby2
        have HB1 := Lib.hid hb1
        clear hb1 hbx0 hbx1 hbx2 hby0 hby1 hby2
        go_wp2_with fail
        with_reducible refine (sTermOk_any s v a c k _ (HC1.out _ HB1.out).1.2.1).mono ?_
        rintro e w2 ⟨rfl, hb2⟩
        rw [HOK.out]
        have he0 := cell_low hb2 hd0
        have he1 := cell_low hb2 hd1
        have he2 := cell_low hb2 hd2
        have hg0 := cell_low hb2 hf0
        have hg1 := cell_low hb2 hf1
        have hg2 := cell_low hb2 hf2
        have HB2 := Lib.hid (HB1.out.trans (hb2.mono HB1.out.size))
        clear hb2 hd0 hd1 hd2 hf0 hf1 hf2 HB1
        go_wp2_with fail
        with_reducible refine (sTermOk_any s' v' a' c' k' _ (HC1.out _ HB2.out).1.2.2).mono ?_
        rintro e w3 ⟨rfl, hb3⟩
        rw [HOK'.out]
        have hd0 := cell_low hb3 he0
        have hd1 := cell_low hb3 he1
        have hd2 := cell_low hb3 he2
        have hf0 := cell_low hb3 hg0
        have hf1 := cell_low hb3 hg1
        have hf2 := cell_low hb3 hg2
        have HB3 := Lib.hid (HB2.out.trans (hb3.mono HB2.out.size))
        clear hb3 he0 he1 he2 hg0 hg1 hg2 HB2
        go_wp2_with fail
        with_reducible refine (l3More_any xs A C s v a c k s' v' a' c' k' _ (HC1.out _ HB3.out).1.1 (HC1.out _ HB3.out).1.2.1 (HC1.out _ HB3.out).1.2.2 HRK.out HOK.out HOK'.out).mono ?_
        rintro e w4 ⟨rfl, hb4⟩
        have HB4 := Lib.hid (HB3.out.trans (hb4.mono HB3.out.size))
        clear hb4 hd0 hd1 hd2 hf0 hf1 hf2 HB3
        go_wp2_with fail
        go_ret
        exact ⟨by rw [HE.out]; rfl, (HC1.out _ HB4.out).2⟩
end Go.Proofs.YtiinmlagcbjloaaGreat

/-! J1: l71Rank. -/
namespace Go.Proofs.YtiinmlagcbjloaaGreat
open Go.RowKit Go.Deep

def RankPost (br p : Nat) (w : World) (e : Ending) (w' : World) : Prop :=
  ∃ xs A C p', e = .returned (.slice A xs.length C) ∧ xs.length = 4 ∧ p ≤ p' ∧ p' ≤ p + 100 ∧ Adv w br p' w' ∧ IOwn w' w.heap.size xs A C

/-- Behind round 20 each sign comes up in turn. -/
def RkSeen (xs : List Int) (n : Nat) : Prop := ∀ m : Nat, 21 ≤ m → m < n → (1 + ((m % 4 : Nat) : Int)) ∈ xs
theorem RkSeen.all {xs : List Int} {n : Nat} (h : RkSeen xs n) (hn : 25 ≤ n) : 4 ≤ xs.length := by
  have h1 : (2 : Int) ∈ xs := h 21 (by omega) (by omega)
  have h2 : (3 : Int) ∈ xs := h 22 (by omega) (by omega)
  have h3 : (4 : Int) ∈ xs := h 23 (by omega) (by omega)
  have h4 : (1 : Int) ∈ xs := h 24 (by omega) (by omega)
  rcases xs with _ | ⟨a, _ | ⟨b, _ | ⟨c, _ | ⟨d, r⟩⟩⟩⟩
  · simp at h1
  · simp at h1 h2; omega
  · simp at h1 h2 h3; omega
  · simp at h1 h2 h3 h4; omega
  · simp
theorem RkSeen.found {xs : List Int} {n : Nat} {k : Int} (h : RkSeen xs n) (hk : 20 < n → k = 1 + ((n % 4 : Nat) : Int)) (hm : k ∈ xs) : RkSeen xs (n + 1) := fun m h1 h2 => by
  by_cases e : m = n
  · subst e; rw [← hk (by omega)]; exact hm
  · exact h m h1 (by omega)
theorem RkSeen.added {xs : List Int} {n : Nat} {k : Int} (h : RkSeen xs n) (hk : 20 < n → k = 1 + ((n % 4 : Nat) : Int)) : RkSeen (xs ++ [k]) (n + 1) := fun m h1 h2 => by
  by_cases e : m = n
  · subst e; rw [← hk (by omega)]; simp
  · exact List.mem_append_left _ (h m h1 (by omega))
theorem rank_append {w w1 w2 : World} {br p : Nat} {xs : List Int} {A A2 : Option Addr} {C C2 : Nat} {k : Int} {o : Obj} (h : IOwn w1 w.heap.size xs A C) (ha : Adv w br p w1) (hown : w2.ownsRow w.heap.size 3 1 (.slice A2 (xs.length + 1) C2) (xs.length + 1) (xs.map (Value.int .i64) ++ [.int .i64 k])) (hgrow : (w1.alloc o).grownBy w2 (Value.slice A xs.length C).ownBlock) :
    Hid (IOwn w2 w.heap.size (xs ++ [k]) A2 C2) ∧ Hid (Adv w br p w2) := by
  have hl2 : (xs ++ [k]).length = xs.length + 1 := by simp
  refine ⟨?_, ?_⟩
  · unfold Hid IOwn
    rw [hl2, List.map_append]
    exact hown
  · have h1 : Below w.heap.size (w.setCell ⟨br, 1, none⟩ (.int .i64 p)) (w1.alloc o) := (ha.alloc o)
    exact Below.grown h1 hgrow (by have := ha.size; simp; omega) (fun g hg => (h.lt g hg).1)

set_option maxRecDepth 100000 in
set_option maxHeartbeats 2000000 in
theorem l71Rank_any (br p : Nat) (w : World) (hr : Rd w br p) (hp : p ≤ 10000000) :
    Calls Tryz.prog 12 #[.pointer (some ⟨br, 0, none⟩)] w (RankPost br p w) := by
  have hlt := hr.lt
  obtain ⟨ti, hti, htz, hts, htb⟩ := Tryz.infoI
  have HTI : Hid (Tryz.prog.info? 3 = some ti ∧ ti.zero = some (.int .i64 0) ∧ ti.size = 1 ∧ ti.bytes = 8) := ⟨hti, htz, hts, htb⟩
  have HA0 : Hid (Adv w br p (w.alloc (.cells #[] 3))) := Adv.start hr ((Below.refl _ _).alloc (Nat.le_refl _) _)
  have HO0 : Hid (IOwn (w.alloc (.cells #[] 3)) w.heap.size [] (some ⟨w.heap.size, 0, none⟩) 0) := ⟨rfl, .inr ⟨w.heap.size, 0, #[], rfl, Nat.le_refl _, heap_alloc_new _ _, Nat.le_refl _, by decide, rfl, rfl⟩⟩
  have HR := Lib.hid hr
  clear hr hti htz hts htb
  go_enter Tryz.func12, Tryz.ntmps12
  go_wp2_with fail
  go_loopw [3, 4] (fun t i wr => ∃ (n : Nat) (xs : List Int) (A : Option Addr) (C p' : Nat), t = .slice A xs.length C ∧ i = .int .i64 n ∧ n ≤ 25 ∧ xs.length ≤ 4 ∧ Hid (IOwn wr w.heap.size xs A C) ∧ Hid (Adv w br p' wr) ∧ p ≤ p' ∧ p' ≤ p + n ∧ Hid (RkSeen xs n)) (fun _ i _ => 25 - (intOf i).toNat)
  case atStart => exact ⟨0, [], _, _, p, rfl, rfl, by omega, by simp, HO0, HA0, Nat.le_refl _, by omega, fun m h1 h2 => by omega⟩
  case round =>
    obtain ⟨n, xs, A, C, p', rfl, rfl, hn, hx4, HOWN, HA, hp1, hp2, HUP⟩ := hrel
    by_cases hlen : xs.length < 4
    · have hn25 : n < 25 := by
        rcases Nat.lt_or_ge n 25 with h | h
        · exact h
        · have := HUP.out.all h; omega
      have g4 : (xs.length : Int) < 4 := by omega
      go_wp2_with fail
      with_reducible refine (pick_any 4 br p' _ (HA.out.rd HR.out) (by omega) (by omega) (by omega)).mono ?_
      rintro e w1 ⟨x, rfl, hx, hb1⟩
      have hxn : x < 4 := by omega
      have HA1 : Hid (Adv w br (p' + 1) w1) := HA.out.trans hb1
      have hs1 := HA1.out.size
      have HOWN1 : Hid (IOwn w1 w.heap.size xs A C) := own_block HOWN.out fun g hg => by
        have h1 := HOWN.out.lt g hg
        have h2 : Adv wr br (p' + 1) w1 := hb1
        exact h2.same (lo := g) (B := g + 1) (by omega) (by omega) g (Nat.le_refl _) (by omega)
      have HI := Lib.hid HOWN1.out.sl
      clear hb1 hx HOWN HA
      by_cases h20 : 20 < n
      · have g20 : (20 : Int) < (n : Int) := by omega
        have hrem : (n : Int).tmod 4 = ((n % 4 : Nat) : Int) := by rw [Int.tmod_eq_emod_of_nonneg (by omega)]; omega
        have HKK : Hid (∀ z : Int, 1 + (n : Int) % 4 = z → (20 < n → z = 1 + ((n % 4 : Nat) : Int))) := fun z hz _ => by omega
        have hm4 : n % 4 < 4 := Nat.mod_lt _ (by omega)
        go_wp2_with fail
        generalize hkz : 1 + (n : Int) % 4 = kz
        have HKZ := Lib.hid (HKK.out kz hkz)
        clear hkz HKK
        go_loopw [6, 7] (fun f i wr' => ∃ (j : Nat) (b : Bool), f = .bool b ∧ i = .int .i64 j ∧ j ≤ xs.length ∧ Hid (b = (xs.take j).contains kz) ∧ wr' = w1) (fun _ i _ => xs.length - (intOf i).toNat)
        case atStart => exact ⟨0, false, rfl, rfl, Nat.zero_le _, by simp [Hid], rfl⟩
        case round =>
          obtain ⟨j, b, rfl, rfl, hj, hb, rfl⟩ := hrel
          by_cases hlt : j < xs.length
          · obtain ⟨bx, o, hA, _, _, hc⟩ := isl_at HI.out hlt
            subst hA
            have HTK : Hid ((xs.take (j + 1)).contains kz = ((xs.take j).contains kz || (xs[j] == kz))) := by
              have ht : xs.take (j + 1) = xs.take j ++ [xs[j]] := by rw [List.take_add_one, List.getElem?_eq_getElem hlt]; rfl
              rw [Hid, ht, Bool.eq_iff_iff]
              simp only [List.contains_eq_mem, decide_eq_true_eq, List.mem_append, List.mem_singleton, Bool.or_eq_true, beq_iff_eq]
              exact ⟨fun h => h.imp id Eq.symm, fun h => h.imp id Eq.symm⟩
            generalize xs[j] = z at hc HTK
            have g1 : (0 : Int) ≤ (j : Int) := by omega
            have g2 : (j : Int) < (xs.length : Int) := by omega
            cases hbv : b with
            | true =>
              have HB : Hid (true = (xs.take (j + 1)).contains kz) := by rw [Hid, HTK.out, ← hb.out, hbv]; rfl
              subst hbv
              clear hb
              go_wp2_with fail
              go_roundw
              case rel => exact ⟨j + 1, true, rfl, by go_num, by omega, HB, by first | trivial | rfl⟩
              case measure => simp [intOf]; omega
            | false =>
              have HB : Hid ((z == kz) = (xs.take (j + 1)).contains kz) := by rw [Hid, HTK.out, ← hb.out, hbv]; rfl
              subst hbv
              clear hb
              go_wp2_with fail
              go_roundw
              case rel => exact ⟨j + 1, (z == kz), rfl, by go_num, by omega, HB, by first | trivial | rfl⟩
              case measure => simp [intOf]; omega
          · have HB : Hid (b = xs.contains kz) := by rw [Hid, hb.out, List.take_of_length_le (by omega)]
            clear hb
            cases hbv : b with
            | true =>
              have hin : kz ∈ xs := by have := HB.out; rw [hbv] at this; simpa using this.symm
              have HIN := Lib.hid hin
              clear hin
              subst hbv
              have HUP1 := Lib.hid (HUP.out.found HKZ.out HIN.out)
              clear HB HIN
              go_wp2_with fail
              go_roundw
              case rel => exact ⟨n + 1, xs, A, C, p' + 1, rfl, by go_num, by omega, by omega, HOWN1, HA1, by omega, by omega, HUP1⟩
              case measure => simp [intOf]; omega
            | false =>
              subst hbv
              have HUP1 := Lib.hid (HUP.out.added HKZ.out)
              clear HB
              go_wp2_with (at_builtin; refine wpList_append_src _ rfl _ _ 23 rfl w.heap.size 3 ti _ 1 8 Tryz.underlying23 HTI.out.1 HTI.out.2.1 HTI.out.2.2.1 HTI.out.2.2.2 rfl (by omega) (.slice A xs.length C) xs.length (xs.map (Value.int .i64)) rfl (HOWN1.out.alloc _) (some ⟨wr.heap.size, 0, none⟩) 1 1 [.int .i64 kz] rfl ⟨rfl, .inr ⟨_, rfl, World.news_of_block (heap_alloc_new _ _)⟩⟩ (by simp [Value.oneCell']) (by unfold maxLen; omega) (by omega) (by simp; omega) ?_; intro A2 C2 w2 hown2 hgrow2 hat2; have HX2 := Lib.hid (rank_append HOWN1.out HA1.out hown2 hgrow2); clear hown2 hgrow2 hat2)
              go_roundw
              case rel =>
                have hl2 : (xs ++ [kz]).length = xs.length + 1 := by simp
                exact ⟨n + 1, xs ++ [kz], A2, C2, p' + 1, by rw [hl2], by go_num, by omega, by omega, HX2.out.1, HX2.out.2, by omega, by omega, HUP1⟩
              case measure => simp [intOf]; omega
      · have g20 : (n : Int) ≤ 20 := by omega
        have HKK : Hid (∀ z : Int, 1 + (x : Int) = z → (20 < n → z = 1 + ((n % 4 : Nat) : Int))) := fun z hz h => absurd h h20
        go_wp2_with fail
        generalize hkz : 1 + (x : Int) = kz
        have HKZ := Lib.hid (HKK.out kz hkz)
        clear hkz HKK
        go_loopw [6, 7] (fun f i wr' => ∃ (j : Nat) (b : Bool), f = .bool b ∧ i = .int .i64 j ∧ j ≤ xs.length ∧ Hid (b = (xs.take j).contains kz) ∧ wr' = w1) (fun _ i _ => xs.length - (intOf i).toNat)
        case atStart => exact ⟨0, false, rfl, rfl, Nat.zero_le _, by simp [Hid], rfl⟩
        case round =>
          obtain ⟨j, b, rfl, rfl, hj, hb, rfl⟩ := hrel
          by_cases hlt : j < xs.length
          · obtain ⟨bx, o, hA, _, _, hc⟩ := isl_at HI.out hlt
            subst hA
            have HTK : Hid ((xs.take (j + 1)).contains kz = ((xs.take j).contains kz || (xs[j] == kz))) := by
              have ht : xs.take (j + 1) = xs.take j ++ [xs[j]] := by rw [List.take_add_one, List.getElem?_eq_getElem hlt]; rfl
              rw [Hid, ht, Bool.eq_iff_iff]
              simp only [List.contains_eq_mem, decide_eq_true_eq, List.mem_append, List.mem_singleton, Bool.or_eq_true, beq_iff_eq]
              exact ⟨fun h => h.imp id Eq.symm, fun h => h.imp id Eq.symm⟩
            generalize xs[j] = z at hc HTK
            have g1 : (0 : Int) ≤ (j : Int) := by omega
            have g2 : (j : Int) < (xs.length : Int) := by omega
            cases hbv : b with
            | true =>
              have HB : Hid (true = (xs.take (j + 1)).contains kz) := by rw [Hid, HTK.out, ← hb.out, hbv]; rfl
              subst hbv
              clear hb
              go_wp2_with fail
              go_roundw
              case rel => exact ⟨j + 1, true, rfl, by go_num, by omega, HB, by first | trivial | rfl⟩
              case measure => simp [intOf]; omega
            | false =>
              have HB : Hid ((z == kz) = (xs.take (j + 1)).contains kz) := by rw [Hid, HTK.out, ← hb.out, hbv]; rfl
              subst hbv
              clear hb
              go_wp2_with fail
              go_roundw
              case rel => exact ⟨j + 1, (z == kz), rfl, by go_num, by omega, HB, by first | trivial | rfl⟩
              case measure => simp [intOf]; omega
          · have HB : Hid (b = xs.contains kz) := by rw [Hid, hb.out, List.take_of_length_le (by omega)]
            clear hb
            cases hbv : b with
            | true =>
              have hin : kz ∈ xs := by have := HB.out; rw [hbv] at this; simpa using this.symm
              have HIN := Lib.hid hin
              clear hin
              subst hbv
              have HUP1 := Lib.hid (HUP.out.found HKZ.out HIN.out)
              clear HB HIN
              go_wp2_with fail
              go_roundw
              case rel => exact ⟨n + 1, xs, A, C, p' + 1, rfl, by go_num, by omega, by omega, HOWN1, HA1, by omega, by omega, HUP1⟩
              case measure => simp [intOf]; omega
            | false =>
              subst hbv
              have HUP1 := Lib.hid (HUP.out.added HKZ.out)
              clear HB
              go_wp2_with (at_builtin; refine wpList_append_src _ rfl _ _ 23 rfl w.heap.size 3 ti _ 1 8 Tryz.underlying23 HTI.out.1 HTI.out.2.1 HTI.out.2.2.1 HTI.out.2.2.2 rfl (by omega) (.slice A xs.length C) xs.length (xs.map (Value.int .i64)) rfl (HOWN1.out.alloc _) (some ⟨wr.heap.size, 0, none⟩) 1 1 [.int .i64 kz] rfl ⟨rfl, .inr ⟨_, rfl, World.news_of_block (heap_alloc_new _ _)⟩⟩ (by simp [Value.oneCell']) (by unfold maxLen; omega) (by omega) (by simp; omega) ?_; intro A2 C2 w2 hown2 hgrow2 hat2; have HX2 := Lib.hid (rank_append HOWN1.out HA1.out hown2 hgrow2); clear hown2 hgrow2 hat2)
              go_roundw
              case rel =>
                have hl2 : (xs ++ [kz]).length = xs.length + 1 := by simp
                exact ⟨n + 1, xs ++ [kz], A2, C2, p' + 1, by rw [hl2], by go_num, by omega, by omega, HX2.out.1, HX2.out.2, by omega, by omega, HUP1⟩
              case measure => simp [intOf]; omega
    · have hl4 : xs.length = 4 := by omega
      have HL4 := Lib.hid hl4
      have g4 : (4 : Int) ≤ (xs.length : Int) := by omega
      have g0 : (0 : Int) < (xs.length : Int) := by omega
      clear hl4
      go_wp2_with fail
      with_reducible refine (pick_any 30 br p' _ (HA.out.rd HR.out) (by omega) (by omega) (by omega)).mono ?_
      rintro e w1 ⟨x, rfl, hx, hb1⟩
      have HA1 : Hid (Adv w br (p' + 1) w1) := HA.out.trans hb1
      have hs1 := HA1.out.size
      have HOWN1 : Hid (IOwn w1 w.heap.size xs A C) := own_block HOWN.out fun g hg => by
        have h1 := HOWN.out.lt g hg
        have h2 : Adv wr br (p' + 1) w1 := hb1
        exact h2.same (lo := g) (B := g + 1) (by omega) (by omega) g (Nat.le_refl _) (by omega)
      clear hb1 hx HOWN HA HUP
      by_cases hx0 : x = 0
      · subst hx0
        obtain ⟨g, cap, hv, hgb, hgl⟩ := HOWN1.out.form (by omega)
        simp only [Value.slice.injEq] at hv
        obtain ⟨rfl, _, rfl⟩ := hv
        go_wp2_with fail
        with_reducible refine (pick_any 6 br (p' + 1) _ (HA1.out.rd HR.out) (by omega) (by omega) (by omega)).mono ?_
        rintro e w2 ⟨y, rfl, hy, hb2⟩
        have HA2 : Hid (Adv w br (p' + 1 + 1) w2) := HA1.out.trans hb2
        have hs2 : w1.heap.size ≤ w2.heap.size := Adv.size (w := w1) (br := br) (p := p' + 1 + 1) hb2
        have HOWN2 : Hid (IOwn w2 w.heap.size xs (some ⟨g, 0, none⟩) C) := own_block HOWN1.out fun q hq => by
          have h1 := HOWN1.out.lt q hq
          have h2 : Adv w1 br (p' + 1 + 1) w2 := hb2
          exact h2.same (lo := q) (B := q + 1) (by omega) (by omega) q (Nat.le_refl _) (by omega)
        have hz : w2.cell? ⟨g, 0, none⟩ = some (.int .i64 (xs[0]'(by omega))) := by
          rw [HOWN2.out.cellAt 0 (by omega), List.getElem?_map, List.getElem?_eq_getElem (by omega)]; rfl
        have hf : w2.frozen? ⟨g, 0, none⟩ = false := HOWN2.out.frozenAt 0
        have HF : Hid (IOwn (w2.setCell ⟨g, 0, none⟩ (.int .i64 y)) w.heap.size (xs.set 0 (y : Int)) (some ⟨g, 0, none⟩) C) := by
          unfold Hid IOwn
          rw [List.length_set, List.map_set]
          exact (HOWN2.out.stored 0 (.int .i64 y)).1
        have HAF : Hid (Adv w br (p' + 1 + 1) (w2.setCell ⟨g, 0, none⟩ (.int .i64 y))) := HA2.out.store hgb _
        clear hb2 hy
        go_wp2_with fail
        go_ret
        exact ⟨xs.set 0 (y : Int), some ⟨g, 0, none⟩, C, p' + 1 + 1, by rw [List.length_set]; rfl, by rw [List.length_set]; exact HL4.out, by omega, by omega, HAF.out, HF.out⟩
      · have hx0' : ((x : Int) == 0) = false := by simpa using hx0
        go_wp2_with fail
        go_ret
        exact ⟨xs, A, C, p' + 1, rfl, HL4.out, by omega, by omega, HA1.out, HOWN1.out⟩
end Go.Proofs.YtiinmlagcbjloaaGreat

/-! Mix3: Regions that draw their order, walked order by order; what only looks is taken first. No condition. -/
namespace Go.Proofs.YtiinmlagcbjloaaGreat

section
variable {P : Program} {ops : Array Oper} {Q : Exit → Act → World → Prop} {S : World → Prop}

theorem wp_region_anyT {id : Nat} {a : Act} {w : World} (S : World → Prop) (hm : P.follows .mixedOrders = true) (h : wpAnyT P .any ops (QN Q) S [] ops.size (Array.replicate ops.size false) a w.drew) : (Code.region id ops true).wp P Q a w := by
  refine Code.wp_mono (Q := QN Q) (fun e a w h => by cases e <;> first | exact h | exact h.elim) ?_
  exact wp_region_any hm (wpAny_of_T (S := S) (late := []) _ _ _ _ h)

theorem anyT_look {fuel : Nat} {listed : Array Bool} {i : Nat} {a : Act} {w : World} {o : Oper} (ho : ops[i]? = some o) (hB : (Region.noSelect ops && (Region.ready .any ops listed).contains i && Region.free .any ops listed i) = true) (hS : S w)
    (h : ∀ K : Act → Prop, (∀ a', wpAnyT P .any ops (QN Q) S [] fuel (listed.setIfInBounds i true) a' w → K a') → if Region.wanted o (yielded ops a.tmps) = true then ∃ v, (∀ w, S w → (execOp a.eval o).run P w = .ok (.value v) w) ∧ K (a.put o.dst v) else K (a.put o.dst undef)) :
    wpAnyT P .any ops (QN Q) S [] (fuel + 1) listed a w := by
  simp only [Bool.and_eq_true] at hB
  obtain ⟨⟨h1, h2⟩, h3⟩ := hB
  have := h (fun a' => wpAnyT P .any ops (QN Q) S [] fuel (listed.setIfInBounds i true) a' w) (fun _ h => h)
  split at this
  · rename_i hw
    obtain ⟨v, h4, h5⟩ := this
    exact wpAnyT_first ho (Region.noSelect_spec h1) (fun c a w h => h.elim) (fun j hj => by cases hj) fuel listed a w (Region.free_spec ho h3) (by simpa using h2) (.inl ⟨hw, h4⟩) hS (fun j hj => by cases hj) h5
  · rename_i hw
    exact wpAnyT_first (v := undef) ho (Region.noSelect_spec h1) (fun c a w h => h.elim) (fun j hj => by cases hj) fuel listed a w (Region.free_spec ho h3) (by simpa using h2) (.inr ⟨by simpa using hw, rfl⟩) hS (fun j hj => by cases hj) this

theorem anyT_op {fuel : Nat} {listed : Array Bool} {i : Nat} {a : Act} {w : World} {o : Oper} (ho : ops[i]? = some o)
    (h : ∀ K : Act → World → Prop, (∀ a' w', S w' → wpAnyT P .any ops Q S [] fuel (listed.setIfInBounds i true) a' w' → K a' w') → if Region.wanted o (yielded ops a.tmps) = true then o.wp P a w K Q else K (a.put o.dst undef) w) :
    wpOp P ops Q i (fun a' w' => ((∃ j ∈ ([] : List Nat), (listed.setIfInBounds i true).getD j false = true) ∨ S w') ∧ wpAnyT P .any ops Q S [] fuel (listed.setIfInBounds i true) a' w') a w := by
  have := h (fun a' w' => ((∃ j ∈ ([] : List Nat), (listed.setIfInBounds i true).getD j false = true) ∨ S w') ∧ wpAnyT P .any ops Q S [] fuel (listed.setIfInBounds i true) a' w') (fun _ _ h1 h2 => ⟨.inr h1, h2⟩)
  unfold wpOp
  simp only [ho]
  split at this
  · rename_i hw; rw [if_pos hw]; exact .inl this
  · rename_i hw; rw [if_neg hw]; exact this

/-- One operation may come up. -/
theorem anyT_one {fuel : Nat} {listed : Array Bool} {i : Nat} {a : Act} {w : World} {o : Oper} (hB : Region.ready .any ops listed = [i]) (ho : ops[i]? = some o)
    (h : ∀ K : Act → World → Prop, (∀ a' w', S w' → wpAnyT P .any ops (QN Q) S [] fuel (listed.setIfInBounds i true) a' w' → K a' w') → if Region.wanted o (yielded ops a.tmps) = true then o.wp P a w K (QN Q) else K (a.put o.dst undef) w) :
    wpAnyT P .any ops (QN Q) S [] (fuel + 1) listed a w := by
  refine ⟨fun h0 => (by rw [hB] at h0; cases h0), fun k hk => ?_⟩
  rw [hB] at hk
  simp only [List.mem_singleton] at hk
  subst hk
  exact anyT_op ho h
/-- One of two may come up. -/
theorem anyT_two {fuel : Nat} {listed : Array Bool} {i j : Nat} {a : Act} {w : World} {o o' : Oper} (hB : Region.ready .any ops listed = [i, j]) (ho : ops[i]? = some o) (ho' : ops[j]? = some o')
    (h : ∀ K : Act → World → Prop, (∀ a' w', S w' → wpAnyT P .any ops (QN Q) S [] fuel (listed.setIfInBounds i true) a' w' → K a' w') → if Region.wanted o (yielded ops a.tmps) = true then o.wp P a w K (QN Q) else K (a.put o.dst undef) w)
    (h' : ∀ K : Act → World → Prop, (∀ a' w', S w' → wpAnyT P .any ops (QN Q) S [] fuel (listed.setIfInBounds j true) a' w' → K a' w') → if Region.wanted o' (yielded ops a.tmps) = true then o'.wp P a w K (QN Q) else K (a.put o'.dst undef) w) :
    wpAnyT P .any ops (QN Q) S [] (fuel + 1) listed a w := by
  refine ⟨fun h0 => (by rw [hB] at h0; cases h0), fun k hk => ?_⟩
  rw [hB] at hk
  simp only [List.mem_cons, List.not_mem_nil, or_false] at hk
  rcases hk with rfl | rfl
  · exact anyT_op ho h
  · exact anyT_op ho' h'
theorem anyT_done {listed : Array Bool} {a : Act} {w : World} (hB : Region.ready .any ops listed = []) (h : Q .normal a w) : wpAnyT P .any ops (QN Q) S [] 0 listed a w := ⟨hB, h⟩
end

/-- Cells that a store elsewhere leaves. -/
theorem seen_set {l : List (Addr × Value)} {w : World} (h : ∀ p, p ∈ l → w.cell? p.1 = some p.2) {n : Nat} (hn : ∀ p, p ∈ l → p.1.block ≠ n) (i : Nat) (x : Value) : ∀ p, p ∈ l → (w.setCell ⟨n, i, none⟩ x).cell? p.1 = some p.2 := fun p hp => by
  rw [World.cell?_setCell_other _ _ _ _ (by intro e; exact hn p hp (congrArg Addr.block e).symm)]
  exact h p hp
end Go.Proofs.YtiinmlagcbjloaaGreat

/-! S0: Substitutions as plain data, in memory as rows of binds, and as a map of nodes. Definitions and plain lemmas. -/
namespace Go.Proofs.YtiinmlagcbjloaaGreat
open Go.RowKit Go.Deep Go.Maps

/-- A variable and the term that it stands for. -/
abbrev Bd := Int × Int × Int × Fo

/-- A slice's address at which the binds bs lie. -/
def BSl (w : World) (lo B : Nat) (a : Option Addr) (bs : List Bd) : Prop :=
  bs = [] ∨ ∃ b o, a = some ⟨b, o, none⟩ ∧ lo ≤ b ∧ b < B ∧ ∀ (i : Nat) (x : Bd), bs[i]? = some x → ∃ a' c', w.cell? ⟨b, o + i * 4, none⟩ = some (.int .i64 x.1) ∧ w.cell? ⟨b, o + i * 4 + 1, none⟩ = some (.int .i64 x.2.1) ∧ w.cell? ⟨b, o + i * 4 + 1 + 1, none⟩ = some (.int .i64 x.2.2.1) ∧ w.cell? ⟨b, o + i * 4 + 1 + 2, none⟩ = some (.slice a' (flen x.2.2.2) c') ∧ Sl w lo B a' x.2.2.2
theorem BSl.same {w w' : World} {lo B : Nat} {a : Option Addr} {bs : List Bd} (hb : Same lo B w w') (h : BSl w lo B a bs) : BSl w' lo B a bs := by
  rcases h with h | ⟨b, o, e, h1, h2, h3⟩
  · exact .inl h
  · refine .inr ⟨b, o, e, h1, h2, fun i x hx => ?_⟩
    obtain ⟨a', c', c0, c1, c2, c3, hl⟩ := h3 i x hx
    exact ⟨a', c', by rw [hb.cell h1 h2]; exact c0, by rw [hb.cell h1 h2]; exact c1, by rw [hb.cell h1 h2]; exact c2, by rw [hb.cell h1 h2]; exact c3, hl.same hb⟩
theorem BSl.mono {w : World} {lo lo' B B' : Nat} {a : Option Addr} {bs : List Bd} (hlo : lo' ≤ lo) (hB : B ≤ B') (h : BSl w lo B a bs) : BSl w lo' B' a bs := by
  rcases h with h | ⟨b, o, e, h1, h2, h3⟩
  · exact .inl h
  · refine .inr ⟨b, o, e, by omega, by omega, fun i x hx => ?_⟩
    obtain ⟨a', c', c0, c1, c2, c3, hl⟩ := h3 i x hx
    exact ⟨a', c', c0, c1, c2, c3, hl.mono hlo hB⟩
theorem BSl.below {w w' : World} {lo B : Nat} {a : Option Addr} {bs : List Bd} (hb : Below B w w') (h : BSl w lo B a bs) : BSl w' lo B a bs := h.same (Same.of_below hb)

/-- In form: ascending behind last, below 12, of terms of so many signs. -/
def sokFrom (room : Int) : Int → List Bd → Bool
  | _, [] => true
  | last, x :: r => okW x.2.1 x.2.2.1 x.2.2.2 room && (decide (last < x.1) && (decide (x.1 < 12) && sokFrom room x.1 r))
def sok (room : Int) (bs : List Bd) : Bool := sokFrom room (-1) bs
/-- What a variable stands for. -/
def sv : List Bd → Int → Option (Int × Int × Fo)
  | [], _ => none
  | x :: r, v => if x.1 = v then some x.2 else sv r v

theorem sv_snoc {bs : List Bd} {x : Bd} (h : sv bs x.1 = none) (v : Int) : sv (bs ++ [x]) v = if x.1 = v then some x.2 else sv bs v := by
  induction bs with
  | nil => rfl
  | cons y r ih =>
    simp only [sv] at h
    by_cases e : y.1 = x.1
    · rw [if_pos e] at h; cases h
    · rw [if_neg e] at h
      simp only [List.cons_append, sv]
      by_cases e2 : y.1 = v
      · rw [if_pos e2, if_pos e2, if_neg (by rw [← e2]; exact fun e' => e e'.symm)]
      · rw [if_neg e2, if_neg e2]; exact ih h

/-- A value reads as itself. -/
def rdV (v : Value) : Option (DataW Value × List MemPlace) := some (.held v, [])

/-- Block b is a map in which the variables of bs have nodes of their terms. -/
def MapIs (w : World) (b : Nat) (bs : List Bd) : Prop :=
  ∃ n D, w.ownsMap Tryz.prog 87 rdV b n D ∧ n ≤ 12 + bs.length ∧ ∀ x : Int, (Lit.int .i64 x).wf = true →
    (sv bs x = none → Maps.has D (.int .i64 x) = false) ∧ ∀ s v k, sv bs x = some (s, v, k) → Maps.has D (.int .i64 x) = true ∧ ∃ nv, D.atKey (.int .i64 x) (.held .nilIface) = .held nv ∧ NodeIs w 0 w.heap.size nv s v k
end Go.Proofs.YtiinmlagcbjloaaGreat

/-! LB: What the walks of laws hold on to: boxes of terms, and what stays when memory is added. Plain lemmas. -/
namespace Go.Proofs.YtiinmlagcbjloaaGreat
open Go.RowKit Go.Deep

/-- Block b is a box that holds the term s v k; what it leads to lies in memory. -/
structure Tb (b : Nat) (s v : Int) (a : Option Addr) (c : Nat) (k : Fo) (w : World) : Prop where
  c0 : w.cell? ⟨b, 0, none⟩ = some (.int .i64 s)
  c1 : w.cell? ⟨b, 1, none⟩ = some (.int .i64 v)
  c2 : w.cell? ⟨b, 2, none⟩ = some (.slice a (flen k) c)
  sl : Sl w 0 w.heap.size a k
theorem Tb.next {b : Nat} {s v : Int} {a : Option Addr} {c : Nat} {k : Fo} {w w2 : World} (h : Tb b s v a c k w) (hb : Below w.heap.size w w2) : Tb b s v a c k w2 :=
  ⟨cell_low hb h.c0, cell_low hb h.c1, cell_low hb h.c2, (h.sl.below hb).mono (Nat.le_refl _) hb.size⟩
theorem Tb.new {s v : Int} {a : Option Addr} {c : Nat} {k : Fo} {w : World} {lo : Nat} (h : Sl w lo w.heap.size a k) : Tb w.heap.size s v a c k (w.alloc (.cells #[.int .i64 s, .int .i64 v, .slice a (flen k) c] 26)) := by
  have hb : Below w.heap.size w (w.alloc (.cells #[.int .i64 s, .int .i64 v, .slice a (flen k) c] 26)) := (Below.refl _ _).alloc (Nat.le_refl _) _
  refine ⟨?_, ?_, ?_, ((h.mono (Nat.zero_le _) (Nat.le_refl _)).below hb).mono (Nat.le_refl _) hb.size⟩
  · rw [World.cell?_alloc_at _ _ _ _ (by simp)]; rfl
  · rw [World.cell?_alloc_at _ _ _ _ (by simp)]; rfl
  · rw [World.cell?_alloc_at _ _ _ _ (by simp)]; rfl
theorem box_low (w : World) (o : Obj) : Below w.heap.size w (w.alloc o) := (Below.refl _ _).alloc (Nat.le_refl _) o
theorem Sl.next {w w2 : World} {lo : Nat} {a : Option Addr} {k : Fo} (h : Sl w lo w.heap.size a k) (hb : Below w.heap.size w w2) : Sl w2 0 w2.heap.size a k := ((h.mono (Nat.zero_le _) (Nat.le_refl _)).below hb).mono (Nat.le_refl _) hb.size
theorem BSl.next {w w2 : World} {lo : Nat} {a : Option Addr} {bs : List Bd} (h : BSl w lo w.heap.size a bs) (hb : Below w.heap.size w w2) : BSl w2 0 w2.heap.size a bs := ((h.mono (Nat.zero_le _) (Nat.le_refl _)).below hb).mono (Nat.le_refl _) hb.size
theorem ISl.next {w w2 : World} {lo : Nat} {a : Option Addr} {xs : List Int} (h : ISl w lo w.heap.size a xs) (hb : Below w.heap.size w w2) : ISl w2 0 w2.heap.size a xs := ((h.mono (Nat.zero_le _) (Nat.le_refl _)).below hb).mono (Nat.le_refl _) hb.size
theorem ISc.next {w w2 : World} {lo : Nat} {a : Option Addr} {c : Nat} {xs : List Int} (h : ISc w lo w.heap.size a c xs) (hb : Below w.heap.size w w2) : ISc w2 0 w2.heap.size a c xs := ⟨h.1.next hb, h.2⟩
theorem RSl.next {w w2 : World} {lo : Nat} {a : Option Addr} {rows : List (List Int)} (h : RSl w lo w.heap.size a rows) (hb : Below w.heap.size w w2) : RSl w2 0 w2.heap.size a rows := ((h.mono (Nat.zero_le _) (Nat.le_refl _)).below hb).mono (Nat.le_refl _) hb.size
theorem below_next {w0 w w2 : World} (h : Below w0.heap.size w0 w) (hb : Below w.heap.size w w2) : Below w0.heap.size w0 w2 := h.trans (hb.mono h.size)
theorem Bytes.next {w wn : World} {a : Option Addr} {len : Nat} (h : Bytes w a len) (hb : Below w.heap.size w wn) : Bytes wn a len := by
  rcases h with h | ⟨b, o, e, h1, h2⟩
  · exact .inl h
  · refine .inr ⟨b, o, e, Nat.lt_of_lt_of_le h1 hb.size, fun i hi => ?_⟩
    obtain ⟨x, hx, hc⟩ := h2 i hi
    exact ⟨x, hx, cell_low hb hc⟩
end Go.Proofs.YtiinmlagcbjloaaGreat

/-! ZB: A fresh box of a term, and what is stored into it. Plain lemmas. -/
namespace Go.Proofs.YtiinmlagcbjloaaGreat
open Go.RowKit Go.Deep

/-- A fresh box. -/
structure Zb (b : Nat) (wn : World) : Prop where
  lt : b < wn.heap.size
  z0 : wn.cell? ⟨b, 0, none⟩ = some (.int .i64 0)
  z1 : wn.cell? ⟨b, 1, none⟩ = some (.int .i64 0)
  z2 : wn.cell? ⟨b, 2, none⟩ = some (.slice none 0 0)
  f : ∀ o, wn.frozen? ⟨b, o, none⟩ = false
theorem zb_new (X : World) : Zb X.heap.size (X.alloc (.cells #[.int .i64 0, .int .i64 0, .slice none 0 0] 26)) := by
  refine ⟨by simp, ?_, ?_, ?_, fun o => ?_⟩
  iterate 3
    rw [World.cell?_alloc_at _ _ _ _ rfl]; rfl
  rw [World.frozen?_alloc_at _ _ _ _ rfl]
theorem Zb.low {b : Nat} {wn wm : World} (h : Zb b wn) (hb : Below wn.heap.size wn wm) : Zb b wm :=
  ⟨Nat.lt_of_lt_of_le h.lt hb.size, cell_low hb h.z0, cell_low hb h.z1, cell_low hb h.z2, fun o => (hb.frozen h.lt).trans (h.f o)⟩
theorem box_set {b : Nat} {wn : World} (h : Zb b wn) (x y z : Value) : (((wn.setCell ⟨b, 0, none⟩ x).setCell ⟨b, 1, none⟩ y).setCell ⟨b, 2, none⟩ z).cell? ⟨b, 0, none⟩ = some x ∧ (((wn.setCell ⟨b, 0, none⟩ x).setCell ⟨b, 1, none⟩ y).setCell ⟨b, 2, none⟩ z).cell? ⟨b, 1, none⟩ = some y ∧ (((wn.setCell ⟨b, 0, none⟩ x).setCell ⟨b, 1, none⟩ y).setCell ⟨b, 2, none⟩ z).cell? ⟨b, 2, none⟩ = some z := by
  have d01 : (⟨b, 0, none⟩ : Addr) ≠ ⟨b, 1, none⟩ := by intro e; have := congrArg Addr.off e; simp at this
  have d02 : (⟨b, 0, none⟩ : Addr) ≠ ⟨b, 2, none⟩ := by intro e; have := congrArg Addr.off e; simp at this
  have d12 : (⟨b, 1, none⟩ : Addr) ≠ ⟨b, 2, none⟩ := by intro e; have := congrArg Addr.off e; simp at this
  refine ⟨?_, ?_, ?_⟩
  · rw [World.cell?_setCell_other _ _ _ _ d02.symm, World.cell?_setCell_other _ _ _ _ d01.symm]
    exact World.cell?_setCell_same _ _ _ h.z0
  · rw [World.cell?_setCell_other _ _ _ _ d12.symm]
    refine World.cell?_setCell_same _ _ _ (?_ : _ = some (.int .i64 0))
    rw [World.cell?_setCell_other _ _ _ _ d01]
    exact h.z1
  · refine World.cell?_setCell_same _ _ _ (?_ : _ = some (.slice none 0 0))
    rw [World.cell?_setCell_other _ _ _ _ d12, World.cell?_setCell_other _ _ _ _ d02]
    exact h.z2
theorem Sl.set3 {wn : World} {lo hi b : Nat} {a : Option Addr} {k : Fo} (h : Sl wn lo hi a k) (hb : b < lo ∨ hi ≤ b) (x y z : Value) : Sl (((wn.setCell ⟨b, 0, none⟩ x).setCell ⟨b, 1, none⟩ y).setCell ⟨b, 2, none⟩ z) lo hi a k := by
  have h0 : Same lo hi wn wn := fun _ _ _ => rfl
  exact h.same (((h0.setCell hb _).setCell hb _).setCell hb _)
/-- What is stored into a fresh box stands there; the rest is as it was. -/
theorem zb_fin {wr wz : World} {b lo hi : Nat} {s v : Int} {a : Option Addr} {c : Nat} {k : Fo} (hz : Zb b wz) (hb : Below wr.heap.size wr wz) (hlo : wr.heap.size ≤ b) (hl : Sl wz lo hi a k) (hh : hi ≤ wz.heap.size) (hd : b < lo ∨ hi ≤ b) :
    Below wr.heap.size wr (((wz.setCell ⟨b, 0, none⟩ (.int .i64 s)).setCell ⟨b, 1, none⟩ (.int .i64 v)).setCell ⟨b, 2, none⟩ (.slice a (flen k) c)) ∧ Tb b s v a c k (((wz.setCell ⟨b, 0, none⟩ (.int .i64 s)).setCell ⟨b, 1, none⟩ (.int .i64 v)).setCell ⟨b, 2, none⟩ (.slice a (flen k) c)) := by
  obtain ⟨h0, h1, h2⟩ := box_set hz (.int .i64 s) (.int .i64 v) (.slice a (flen k) c)
  exact ⟨((hb.setCell hlo _).setCell hlo _).setCell hlo _, h0, h1, h2, (hl.set3 hd _ _ _).mono (Nat.zero_le _) (by simpa using hh)⟩
end Go.Proofs.YtiinmlagcbjloaaGreat
