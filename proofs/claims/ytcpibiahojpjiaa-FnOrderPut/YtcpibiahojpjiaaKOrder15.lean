/- Several texts in one: H4, J1, Mix3. -/
import Derived.Test.YtcpibiahojpjiaaKOrder12
import Derived.Test.YtcpibiahojpjiaaKOrder14
import Derived.Test.YtcpibiahojpjiaaKOrder7
import Derived.Test.YtcpibiahojpjiaaKOrder8

/-! H4: OrderMore of the specification. -/
namespace Go.Proofs.Ytcpibiahojpjiaa
open Go.RowKit Go.Deep

set_option maxRecDepth 100000 in
set_option maxHeartbeats 2000000 in
theorem sOrderMore_any (xs : List Int) (A : Option Addr) (C : Nat) (s v : Int) (a : Option Addr) (c : Nat) (k : Fo) (s' v' : Int) (a' : Option Addr) (c' : Nat) (k' : Fo) (w : World) (hr : ISl w 0 w.heap.size A xs) (hl : Sl w 0 w.heap.size a k) (hl' : Sl w 0 w.heap.size a' k') :
    Calls Try.prog 14 #[.slice A xs.length C, .agg #[.int .i64 s, .int .i64 v, .slice a (flen k) c], .agg #[.int .i64 s', .int .i64 v', .slice a' (flen k') c']] w fun e w' => e = .returned (.bool (moreR xs s v k s' v' k')) ∧ Below w.heap.size w w' := by
  have hb0 : Below w.heap.size w ((w.alloc (.cells #[.int .i64 s, .int .i64 v, .slice a (flen k) c] 26)).alloc (.cells #[.int .i64 s', .int .i64 v', .slice a' (flen k') c'] 26)) := ((Below.refl _ _).alloc (Nat.le_refl _) _).alloc (by simp) _
  have HB0 := Lib.hid hb0
  have HR0 := Lib.hid ((hr.below hb0).mono (Nat.le_refl _) hb0.size)
  have HL0 := Lib.hid ((hl.below hb0).mono (Nat.le_refl _) hb0.size)
  have HM0 := Lib.hid ((hl'.below hb0).mono (Nat.le_refl _) hb0.size)
  have hbx0 : ((w.alloc (.cells #[.int .i64 s, .int .i64 v, .slice a (flen k) c] 26)).alloc (.cells #[.int .i64 s', .int .i64 v', .slice a' (flen k') c'] 26)).cell? ⟨w.heap.size, 0, none⟩ = some (.int .i64 s) := by rw [World.cell?_alloc_lt _ _ _ (by simp), World.cell?_alloc_at _ _ _ _ rfl]; rfl
  have hbx1 : ((w.alloc (.cells #[.int .i64 s, .int .i64 v, .slice a (flen k) c] 26)).alloc (.cells #[.int .i64 s', .int .i64 v', .slice a' (flen k') c'] 26)).cell? ⟨w.heap.size, 1, none⟩ = some (.int .i64 v) := by rw [World.cell?_alloc_lt _ _ _ (by simp), World.cell?_alloc_at _ _ _ _ rfl]; rfl
  have hbx2 : ((w.alloc (.cells #[.int .i64 s, .int .i64 v, .slice a (flen k) c] 26)).alloc (.cells #[.int .i64 s', .int .i64 v', .slice a' (flen k') c'] 26)).cell? ⟨w.heap.size, 2, none⟩ = some (.slice a (flen k) c) := by rw [World.cell?_alloc_lt _ _ _ (by simp), World.cell?_alloc_at _ _ _ _ rfl]; rfl
  obtain ⟨hby0, hby1, hby2⟩ := two_box (Below.refl ((w.alloc (.cells #[.int .i64 s, .int .i64 v, .slice a (flen k) c] 26)).alloc (.cells #[.int .i64 s', .int .i64 v', .slice a' (flen k') c'] 26)).heap.size ((w.alloc (.cells #[.int .i64 s, .int .i64 v, .slice a (flen k) c] 26)).alloc (.cells #[.int .i64 s', .int .i64 v', .slice a' (flen k') c'] 26)))
  clear hb0 hr hl hl'
  have HC1 : Hid (∀ w1 : World, Below ((w.alloc (.cells #[.int .i64 s, .int .i64 v, .slice a (flen k) c] 26)).alloc (.cells #[.int .i64 s', .int .i64 v', .slice a' (flen k') c'] 26)).heap.size ((w.alloc (.cells #[.int .i64 s, .int .i64 v, .slice a (flen k) c] 26)).alloc (.cells #[.int .i64 s', .int .i64 v', .slice a' (flen k') c'] 26)) w1 →
      (ISl w1 0 w1.heap.size A xs ∧ Sl w1 0 w1.heap.size a k ∧ Sl w1 0 w1.heap.size a' k') ∧ Below w.heap.size w w1) := fun w1 hb => ⟨⟨(HR0.out.below hb).mono (Nat.le_refl _) hb.size, (HL0.out.below hb).mono (Nat.le_refl _) hb.size, (HM0.out.below hb).mono (Nat.le_refl _) hb.size⟩, HB0.out.trans (hb.mono (by simp; omega))⟩
  clear HB0 HR0 HL0 HM0
  cases hrk : rkOk xs with
  | false =>
    have HRK := Lib.hid hrk
    have HE : Hid (moreR xs s v k s' v' k' = false) := by unfold Hid moreR; rw [hrk]; simp
    clear hrk
    go_enter Try.func14, Try.ntmps14
    go_wp2_with fail
    with_reducible refine (sOrderOk_any xs A C _ (HC1.out _ (Below.refl _ _)).1.1).mono ?_
    rintro e w1 ⟨rfl, hb1⟩
    rw [HRK.out]
    have hd0 := cell_low hb1 hbx0
    have hd1 := cell_low hb1 hbx1
    have hd2 := cell_low hb1 hbx2
    have hf0 := cell_low hb1 hby0
    have hf1 := cell_low hb1 hby1
    have hf2 := cell_low hb1 hby2
    have HB1 := Lib.hid hb1
    clear hb1 hbx0 hbx1 hbx2 hby0 hby1 hby2
    go_wp2_with fail
    go_ret
    exact ⟨by rw [HE.out]; rfl, (HC1.out _ HB1.out).2⟩
  | true =>
    have HRK := Lib.hid hrk
    cases hok : okW s v k 16 with
    | false =>
      have HOK := Lib.hid hok
      have HE : Hid (moreR xs s v k s' v' k' = false) := by unfold Hid moreR; rw [hrk, hok]; simp
      clear hrk hok
      go_enter Try.func14, Try.ntmps14
      go_wp2_with fail
      with_reducible refine (sOrderOk_any xs A C _ (HC1.out _ (Below.refl _ _)).1.1).mono ?_
      rintro e w1 ⟨rfl, hb1⟩
      rw [HRK.out]
      have hd0 := cell_low hb1 hbx0
      have hd1 := cell_low hb1 hbx1
      have hd2 := cell_low hb1 hbx2
      have hf0 := cell_low hb1 hby0
      have hf1 := cell_low hb1 hby1
      have hf2 := cell_low hb1 hby2
      have HB1 := Lib.hid hb1
      clear hb1 hbx0 hbx1 hbx2 hby0 hby1 hby2
      go_wp2_with fail
      with_reducible refine (sTermOk_any s v a c k _ (HC1.out _ HB1.out).1.2.1).mono ?_
      rintro e w2 ⟨rfl, hb2⟩
      rw [HOK.out]
      have he0 := cell_low hb2 hd0
      have he1 := cell_low hb2 hd1
      have he2 := cell_low hb2 hd2
      have hg0 := cell_low hb2 hf0
      have hg1 := cell_low hb2 hf1
      have hg2 := cell_low hb2 hf2
      have HB2 := Lib.hid (HB1.out.trans (hb2.mono HB1.out.size))
      clear hb2 hd0 hd1 hd2 hf0 hf1 hf2 HB1
      go_wp2_with fail
      go_ret
      exact ⟨by rw [HE.out]; rfl, (HC1.out _ HB2.out).2⟩
    | true =>
      have HOK := Lib.hid hok
      cases hok' : okW s' v' k' 16 with
      | false =>
        have HOK' := Lib.hid hok'
        have HE : Hid (moreR xs s v k s' v' k' = false) := by unfold Hid moreR; rw [hrk, hok, hok']; simp
        clear hrk hok hok'
        go_enter Try.func14, Try.ntmps14
        go_wp2_with fail
        with_reducible refine (sOrderOk_any xs A C _ (HC1.out _ (Below.refl _ _)).1.1).mono ?_
        rintro e w1 ⟨rfl, hb1⟩
        rw [HRK.out]
        have hd0 := cell_low hb1 hbx0
        have hd1 := cell_low hb1 hbx1
        have hd2 := cell_low hb1 hbx2
        have hf0 := cell_low hb1 hby0
        have hf1 := cell_low hb1 hby1
        have hf2 := cell_low hb1 hby2
        have HB1 := Lib.hid hb1
        clear hb1 hbx0 hbx1 hbx2 hby0 hby1 hby2
        go_wp2_with fail
        with_reducible refine (sTermOk_any s v a c k _ (HC1.out _ HB1.out).1.2.1).mono ?_
        rintro e w2 ⟨rfl, hb2⟩
        rw [HOK.out]
        have he0 := cell_low hb2 hd0
        have he1 := cell_low hb2 hd1
        have he2 := cell_low hb2 hd2
        have hg0 := cell_low hb2 hf0
        have hg1 := cell_low hb2 hf1
        have hg2 := cell_low hb2 hf2
        have HB2 := Lib.hid (HB1.out.trans (hb2.mono HB1.out.size))
        clear hb2 hd0 hd1 hd2 hf0 hf1 hf2 HB1
        go_wp2_with fail
        with_reducible refine (sTermOk_any s' v' a' c' k' _ (HC1.out _ HB2.out).1.2.2).mono ?_
        rintro e w3 ⟨rfl, hb3⟩
        rw [HOK'.out]
        have hd0 := cell_low hb3 he0
        have hd1 := cell_low hb3 he1
        have hd2 := cell_low hb3 he2
        have hf0 := cell_low hb3 hg0
        have hf1 := cell_low hb3 hg1
        have hf2 := cell_low hb3 hg2
        have HB3 := Lib.hid (HB2.out.trans (hb3.mono HB2.out.size))
        clear hb3 he0 he1 he2 hg0 hg1 hg2 HB2
        go_wp2_with fail
        go_ret
        exact ⟨by rw [HE.out]; rfl, (HC1.out _ HB3.out).2⟩
      | true =>
        have HOK' := Lib.hid hok'
        have HE : Hid (moreR xs s v k s' v' k' = pB (Gt (rkN xs) (tmOf s v k) (tmOf s' v' k'))) := by unfold Hid moreR; rw [hrk, hok, hok']; simp
        clear hrk hok hok'
        go_enter Try.func14, Try.ntmps14
        go_wp2_with fail
        with_reducible refine (sOrderOk_any xs A C _ (HC1.out _ (Below.refl _ _)).1.1).mono ?_
        rintro e w1 ⟨rfl, hb1⟩
        rw [HRK.out]
        have hd0 := cell_low hb1 hbx0
        have hd1 := cell_low hb1 hbx1
        have hd2 := cell_low hb1 hbx2
        have hf0 := cell_low hb1 hby0
        have hf1 := cell_low hb1 hby1
        have hf2 := cell_low hb1 hby2
        have HB1 := Lib.hid hb1
        clear hb1 hbx0 hbx1 hbx2 hby0 hby1 hby2
        go_wp2_with fail
        with_reducible refine (sTermOk_any s v a c k _ (HC1.out _ HB1.out).1.2.1).mono ?_
        rintro e w2 ⟨rfl, hb2⟩
        rw [HOK.out]
        have he0 := cell_low hb2 hd0
        have he1 := cell_low hb2 hd1
        have he2 := cell_low hb2 hd2
        have hg0 := cell_low hb2 hf0
        have hg1 := cell_low hb2 hf1
        have hg2 := cell_low hb2 hf2
        have HB2 := Lib.hid (HB1.out.trans (hb2.mono HB1.out.size))
        clear hb2 hd0 hd1 hd2 hf0 hf1 hf2 HB1
        go_wp2_with fail
        with_reducible refine (sTermOk_any s' v' a' c' k' _ (HC1.out _ HB2.out).1.2.2).mono ?_
        rintro e w3 ⟨rfl, hb3⟩
        rw [HOK'.out]
        have hd0 := cell_low hb3 he0
        have hd1 := cell_low hb3 he1
        have hd2 := cell_low hb3 he2
        have hf0 := cell_low hb3 hg0
        have hf1 := cell_low hb3 hg1
        have hf2 := cell_low hb3 hg2
        have HB3 := Lib.hid (HB2.out.trans (hb3.mono HB2.out.size))
        clear hb3 he0 he1 he2 hg0 hg1 hg2 HB2
        go_wp2_with fail
        with_reducible refine (l3More_any xs A C s v a c k s' v' a' c' k' _ (HC1.out _ HB3.out).1.1 (HC1.out _ HB3.out).1.2.1 (HC1.out _ HB3.out).1.2.2 HRK.out HOK.out HOK'.out).mono ?_
        rintro e w4 ⟨rfl, hb4⟩
        have HB4 := Lib.hid (HB3.out.trans (hb4.mono HB3.out.size))
        clear hb4 hd0 hd1 hd2 hf0 hf1 hf2 HB3
        go_wp2_with fail
        go_ret
        exact ⟨by rw [HE.out]; rfl, (HC1.out _ HB4.out).2⟩
end Go.Proofs.Ytcpibiahojpjiaa

/-! J1: l71Rank. -/
namespace Go.Proofs.Ytcpibiahojpjiaa
open Go.RowKit Go.Deep

def RankPost (br p : Nat) (w : World) (e : Ending) (w' : World) : Prop :=
  ∃ xs A C p', e = .returned (.slice A xs.length C) ∧ xs.length = 4 ∧ p ≤ p' ∧ p' ≤ p + 100 ∧ Adv w br p' w' ∧ IOwn w' w.heap.size xs A C

/-- Behind round 20 each sign comes up in turn. -/
def RkSeen (xs : List Int) (n : Nat) : Prop := ∀ m : Nat, 21 ≤ m → m < n → (1 + ((m % 4 : Nat) : Int)) ∈ xs
theorem RkSeen.all {xs : List Int} {n : Nat} (h : RkSeen xs n) (hn : 25 ≤ n) : 4 ≤ xs.length := by
  have h1 : (2 : Int) ∈ xs := h 21 (by omega) (by omega)
  have h2 : (3 : Int) ∈ xs := h 22 (by omega) (by omega)
  have h3 : (4 : Int) ∈ xs := h 23 (by omega) (by omega)
  have h4 : (1 : Int) ∈ xs := h 24 (by omega) (by omega)
  rcases xs with _ | ⟨a, _ | ⟨b, _ | ⟨c, _ | ⟨d, r⟩⟩⟩⟩
  · simp at h1
  · simp at h1 h2; omega
  · simp at h1 h2 h3; omega
  · simp at h1 h2 h3 h4; omega
  · simp
theorem RkSeen.found {xs : List Int} {n : Nat} {k : Int} (h : RkSeen xs n) (hk : 20 < n → k = 1 + ((n % 4 : Nat) : Int)) (hm : k ∈ xs) : RkSeen xs (n + 1) := fun m h1 h2 => by
  by_cases e : m = n
  · subst e; rw [← hk (by omega)]; exact hm
  · exact h m h1 (by omega)
theorem RkSeen.added {xs : List Int} {n : Nat} {k : Int} (h : RkSeen xs n) (hk : 20 < n → k = 1 + ((n % 4 : Nat) : Int)) : RkSeen (xs ++ [k]) (n + 1) := fun m h1 h2 => by
  by_cases e : m = n
  · subst e; rw [← hk (by omega)]; simp
  · exact List.mem_append_left _ (h m h1 (by omega))
theorem rank_append {w w1 w2 : World} {br p : Nat} {xs : List Int} {A A2 : Option Addr} {C C2 : Nat} {k : Int} {o : Obj} (h : IOwn w1 w.heap.size xs A C) (ha : Adv w br p w1) (hown : w2.ownsRow w.heap.size 3 1 (.slice A2 (xs.length + 1) C2) (xs.length + 1) (xs.map (Value.int .i64) ++ [.int .i64 k])) (hgrow : (w1.alloc o).grownBy w2 (Value.slice A xs.length C).ownBlock) :
    Hid (IOwn w2 w.heap.size (xs ++ [k]) A2 C2) ∧ Hid (Adv w br p w2) := by
  have hl2 : (xs ++ [k]).length = xs.length + 1 := by simp
  refine ⟨?_, ?_⟩
  · unfold Hid IOwn
    rw [hl2, List.map_append]
    exact hown
  · have h1 : Below w.heap.size (w.setCell ⟨br, 1, none⟩ (.int .i64 p)) (w1.alloc o) := (ha.alloc o)
    exact Below.grown h1 hgrow (by have := ha.size; simp; omega) (fun g hg => (h.lt g hg).1)

set_option maxRecDepth 100000 in
set_option maxHeartbeats 2000000 in
theorem l71Rank_any (br p : Nat) (w : World) (hr : Rd w br p) (hp : p ≤ 10000000) :
    Calls Try.prog 33 #[.pointer (some ⟨br, 0, none⟩)] w (RankPost br p w) := by
  have hlt := hr.lt
  obtain ⟨ti, hti, htz, hts, htb⟩ := Try.infoI
  have HTI : Hid (Try.prog.info? 3 = some ti ∧ ti.zero = some (.int .i64 0) ∧ ti.size = 1 ∧ ti.bytes = 8) := ⟨hti, htz, hts, htb⟩
  have HA0 : Hid (Adv w br p (w.alloc (.cells #[] 3))) := Adv.start hr ((Below.refl _ _).alloc (Nat.le_refl _) _)
  have HO0 : Hid (IOwn (w.alloc (.cells #[] 3)) w.heap.size [] (some ⟨w.heap.size, 0, none⟩) 0) := ⟨rfl, .inr ⟨w.heap.size, 0, #[], rfl, Nat.le_refl _, heap_alloc_new _ _, Nat.le_refl _, by decide, rfl, rfl⟩⟩
  have HR := Lib.hid hr
  clear hr hti htz hts htb
  go_enter Try.func33, Try.ntmps33
  go_wp2_with fail
  go_loopw [3, 4] (fun t i wr => ∃ (n : Nat) (xs : List Int) (A : Option Addr) (C p' : Nat), t = .slice A xs.length C ∧ i = .int .i64 n ∧ n ≤ 25 ∧ xs.length ≤ 4 ∧ Hid (IOwn wr w.heap.size xs A C) ∧ Hid (Adv w br p' wr) ∧ p ≤ p' ∧ p' ≤ p + n ∧ Hid (RkSeen xs n)) (fun _ i _ => 25 - (intOf i).toNat)
  case atStart => exact ⟨0, [], _, _, p, rfl, rfl, by omega, by simp, HO0, HA0, Nat.le_refl _, by omega, fun m h1 h2 => by omega⟩
  case round =>
    obtain ⟨n, xs, A, C, p', rfl, rfl, hn, hx4, HOWN, HA, hp1, hp2, HUP⟩ := hrel
    by_cases hlen : xs.length < 4
    · have hn25 : n < 25 := by
        rcases Nat.lt_or_ge n 25 with h | h
        · exact h
        · have := HUP.out.all h; omega
      have g4 : (xs.length : Int) < 4 := by omega
      go_wp2_with fail
      with_reducible refine (pick_any 4 br p' _ (HA.out.rd HR.out) (by omega) (by omega) (by omega)).mono ?_
      rintro e w1 ⟨x, rfl, hx, hb1⟩
      have hxn : x < 4 := by omega
      have HA1 : Hid (Adv w br (p' + 1) w1) := HA.out.trans hb1
      have hs1 := HA1.out.size
      have HOWN1 : Hid (IOwn w1 w.heap.size xs A C) := own_block HOWN.out fun g hg => by
        have h1 := HOWN.out.lt g hg
        have h2 : Adv wr br (p' + 1) w1 := hb1
        exact h2.same (lo := g) (B := g + 1) (by omega) (by omega) g (Nat.le_refl _) (by omega)
      have HI := Lib.hid HOWN1.out.sl
      clear hb1 hx HOWN HA
      by_cases h20 : 20 < n
      · have g20 : (20 : Int) < (n : Int) := by omega
        have hrem : (n : Int).tmod 4 = ((n % 4 : Nat) : Int) := by rw [Int.tmod_eq_emod_of_nonneg (by omega)]; omega
        have HKK : Hid (∀ z : Int, 1 + (n : Int) % 4 = z → (20 < n → z = 1 + ((n % 4 : Nat) : Int))) := fun z hz _ => by omega
        have hm4 : n % 4 < 4 := Nat.mod_lt _ (by omega)
        go_wp2_with fail
        generalize hkz : 1 + (n : Int) % 4 = kz
        have HKZ := Lib.hid (HKK.out kz hkz)
        clear hkz HKK
        go_loopw [6, 7] (fun f i wr' => ∃ (j : Nat) (b : Bool), f = .bool b ∧ i = .int .i64 j ∧ j ≤ xs.length ∧ Hid (b = (xs.take j).contains kz) ∧ wr' = w1) (fun _ i _ => xs.length - (intOf i).toNat)
        case atStart => exact ⟨0, false, rfl, rfl, Nat.zero_le _, by simp [Hid], rfl⟩
        case round =>
          obtain ⟨j, b, rfl, rfl, hj, hb, rfl⟩ := hrel
          by_cases hlt : j < xs.length
          · obtain ⟨bx, o, hA, _, _, hc⟩ := isl_at HI.out hlt
            subst hA
            have HTK : Hid ((xs.take (j + 1)).contains kz = ((xs.take j).contains kz || (xs[j] == kz))) := by
              have ht : xs.take (j + 1) = xs.take j ++ [xs[j]] := by rw [List.take_add_one, List.getElem?_eq_getElem hlt]; rfl
              rw [Hid, ht, Bool.eq_iff_iff]
              simp only [List.contains_eq_mem, decide_eq_true_eq, List.mem_append, List.mem_singleton, Bool.or_eq_true, beq_iff_eq]
              exact ⟨fun h => h.imp id Eq.symm, fun h => h.imp id Eq.symm⟩
            generalize xs[j] = z at hc HTK
            have g1 : (0 : Int) ≤ (j : Int) := by omega
            have g2 : (j : Int) < (xs.length : Int) := by omega
            cases hbv : b with
            | true =>
              have HB : Hid (true = (xs.take (j + 1)).contains kz) := by rw [Hid, HTK.out, ← hb.out, hbv]; rfl
              subst hbv
              clear hb
              go_wp2_with fail
              go_roundw
              case rel => exact ⟨j + 1, true, rfl, by go_num, by omega, HB, by first | trivial | rfl⟩
              case measure => simp [intOf]; omega
            | false =>
              have HB : Hid ((z == kz) = (xs.take (j + 1)).contains kz) := by rw [Hid, HTK.out, ← hb.out, hbv]; rfl
              subst hbv
              clear hb
              go_wp2_with fail
              go_roundw
              case rel => exact ⟨j + 1, (z == kz), rfl, by go_num, by omega, HB, by first | trivial | rfl⟩
              case measure => simp [intOf]; omega
          · have HB : Hid (b = xs.contains kz) := by rw [Hid, hb.out, List.take_of_length_le (by omega)]
            clear hb
            cases hbv : b with
            | true =>
              have hin : kz ∈ xs := by have := HB.out; rw [hbv] at this; simpa using this.symm
              have HIN := Lib.hid hin
              clear hin
              subst hbv
              have HUP1 := Lib.hid (HUP.out.found HKZ.out HIN.out)
              clear HB HIN
              go_wp2_with fail
              go_roundw
              case rel => exact ⟨n + 1, xs, A, C, p' + 1, rfl, by go_num, by omega, by omega, HOWN1, HA1, by omega, by omega, HUP1⟩
              case measure => simp [intOf]; omega
            | false =>
              subst hbv
              have HUP1 := Lib.hid (HUP.out.added HKZ.out)
              clear HB
              go_wp2_with (at_builtin; refine wpList_append_src _ rfl _ _ 23 rfl w.heap.size 3 ti _ 1 8 Try.underlying23 HTI.out.1 HTI.out.2.1 HTI.out.2.2.1 HTI.out.2.2.2 rfl (by omega) (.slice A xs.length C) xs.length (xs.map (Value.int .i64)) rfl (HOWN1.out.alloc _) (some ⟨wr.heap.size, 0, none⟩) 1 1 [.int .i64 kz] rfl ⟨rfl, .inr ⟨_, rfl, World.news_of_block (heap_alloc_new _ _)⟩⟩ (by simp [Value.oneCell']) (by unfold maxLen; omega) (by omega) (by simp; omega) ?_; intro A2 C2 w2 hown2 hgrow2 hat2; have HX2 := Lib.hid (rank_append HOWN1.out HA1.out hown2 hgrow2); clear hown2 hgrow2 hat2)
              go_roundw
              case rel =>
                have hl2 : (xs ++ [kz]).length = xs.length + 1 := by simp
                exact ⟨n + 1, xs ++ [kz], A2, C2, p' + 1, by rw [hl2], by go_num, by omega, by omega, HX2.out.1, HX2.out.2, by omega, by omega, HUP1⟩
              case measure => simp [intOf]; omega
      · have g20 : (n : Int) ≤ 20 := by omega
        have HKK : Hid (∀ z : Int, 1 + (x : Int) = z → (20 < n → z = 1 + ((n % 4 : Nat) : Int))) := fun z hz h => absurd h h20
        go_wp2_with fail
        generalize hkz : 1 + (x : Int) = kz
        have HKZ := Lib.hid (HKK.out kz hkz)
        clear hkz HKK
        go_loopw [6, 7] (fun f i wr' => ∃ (j : Nat) (b : Bool), f = .bool b ∧ i = .int .i64 j ∧ j ≤ xs.length ∧ Hid (b = (xs.take j).contains kz) ∧ wr' = w1) (fun _ i _ => xs.length - (intOf i).toNat)
        case atStart => exact ⟨0, false, rfl, rfl, Nat.zero_le _, by simp [Hid], rfl⟩
        case round =>
          obtain ⟨j, b, rfl, rfl, hj, hb, rfl⟩ := hrel
          by_cases hlt : j < xs.length
          · obtain ⟨bx, o, hA, _, _, hc⟩ := isl_at HI.out hlt
            subst hA
            have HTK : Hid ((xs.take (j + 1)).contains kz = ((xs.take j).contains kz || (xs[j] == kz))) := by
              have ht : xs.take (j + 1) = xs.take j ++ [xs[j]] := by rw [List.take_add_one, List.getElem?_eq_getElem hlt]; rfl
              rw [Hid, ht, Bool.eq_iff_iff]
              simp only [List.contains_eq_mem, decide_eq_true_eq, List.mem_append, List.mem_singleton, Bool.or_eq_true, beq_iff_eq]
              exact ⟨fun h => h.imp id Eq.symm, fun h => h.imp id Eq.symm⟩
            generalize xs[j] = z at hc HTK
            have g1 : (0 : Int) ≤ (j : Int) := by omega
            have g2 : (j : Int) < (xs.length : Int) := by omega
            cases hbv : b with
            | true =>
              have HB : Hid (true = (xs.take (j + 1)).contains kz) := by rw [Hid, HTK.out, ← hb.out, hbv]; rfl
              subst hbv
              clear hb
              go_wp2_with fail
              go_roundw
              case rel => exact ⟨j + 1, true, rfl, by go_num, by omega, HB, by first | trivial | rfl⟩
              case measure => simp [intOf]; omega
            | false =>
              have HB : Hid ((z == kz) = (xs.take (j + 1)).contains kz) := by rw [Hid, HTK.out, ← hb.out, hbv]; rfl
              subst hbv
              clear hb
              go_wp2_with fail
              go_roundw
              case rel => exact ⟨j + 1, (z == kz), rfl, by go_num, by omega, HB, by first | trivial | rfl⟩
              case measure => simp [intOf]; omega
          · have HB : Hid (b = xs.contains kz) := by rw [Hid, hb.out, List.take_of_length_le (by omega)]
            clear hb
            cases hbv : b with
            | true =>
              have hin : kz ∈ xs := by have := HB.out; rw [hbv] at this; simpa using this.symm
              have HIN := Lib.hid hin
              clear hin
              subst hbv
              have HUP1 := Lib.hid (HUP.out.found HKZ.out HIN.out)
              clear HB HIN
              go_wp2_with fail
              go_roundw
              case rel => exact ⟨n + 1, xs, A, C, p' + 1, rfl, by go_num, by omega, by omega, HOWN1, HA1, by omega, by omega, HUP1⟩
              case measure => simp [intOf]; omega
            | false =>
              subst hbv
              have HUP1 := Lib.hid (HUP.out.added HKZ.out)
              clear HB
              go_wp2_with (at_builtin; refine wpList_append_src _ rfl _ _ 23 rfl w.heap.size 3 ti _ 1 8 Try.underlying23 HTI.out.1 HTI.out.2.1 HTI.out.2.2.1 HTI.out.2.2.2 rfl (by omega) (.slice A xs.length C) xs.length (xs.map (Value.int .i64)) rfl (HOWN1.out.alloc _) (some ⟨wr.heap.size, 0, none⟩) 1 1 [.int .i64 kz] rfl ⟨rfl, .inr ⟨_, rfl, World.news_of_block (heap_alloc_new _ _)⟩⟩ (by simp [Value.oneCell']) (by unfold maxLen; omega) (by omega) (by simp; omega) ?_; intro A2 C2 w2 hown2 hgrow2 hat2; have HX2 := Lib.hid (rank_append HOWN1.out HA1.out hown2 hgrow2); clear hown2 hgrow2 hat2)
              go_roundw
              case rel =>
                have hl2 : (xs ++ [kz]).length = xs.length + 1 := by simp
                exact ⟨n + 1, xs ++ [kz], A2, C2, p' + 1, by rw [hl2], by go_num, by omega, by omega, HX2.out.1, HX2.out.2, by omega, by omega, HUP1⟩
              case measure => simp [intOf]; omega
    · have hl4 : xs.length = 4 := by omega
      have HL4 := Lib.hid hl4
      have g4 : (4 : Int) ≤ (xs.length : Int) := by omega
      have g0 : (0 : Int) < (xs.length : Int) := by omega
      clear hl4
      go_wp2_with fail
      with_reducible refine (pick_any 30 br p' _ (HA.out.rd HR.out) (by omega) (by omega) (by omega)).mono ?_
      rintro e w1 ⟨x, rfl, hx, hb1⟩
      have HA1 : Hid (Adv w br (p' + 1) w1) := HA.out.trans hb1
      have hs1 := HA1.out.size
      have HOWN1 : Hid (IOwn w1 w.heap.size xs A C) := own_block HOWN.out fun g hg => by
        have h1 := HOWN.out.lt g hg
        have h2 : Adv wr br (p' + 1) w1 := hb1
        exact h2.same (lo := g) (B := g + 1) (by omega) (by omega) g (Nat.le_refl _) (by omega)
      clear hb1 hx HOWN HA HUP
      by_cases hx0 : x = 0
      · subst hx0
        obtain ⟨g, cap, hv, hgb, hgl⟩ := HOWN1.out.form (by omega)
        simp only [Value.slice.injEq] at hv
        obtain ⟨rfl, _, rfl⟩ := hv
        go_wp2_with fail
        with_reducible refine (pick_any 6 br (p' + 1) _ (HA1.out.rd HR.out) (by omega) (by omega) (by omega)).mono ?_
        rintro e w2 ⟨y, rfl, hy, hb2⟩
        have HA2 : Hid (Adv w br (p' + 1 + 1) w2) := HA1.out.trans hb2
        have hs2 : w1.heap.size ≤ w2.heap.size := Adv.size (w := w1) (br := br) (p := p' + 1 + 1) hb2
        have HOWN2 : Hid (IOwn w2 w.heap.size xs (some ⟨g, 0, none⟩) C) := own_block HOWN1.out fun q hq => by
          have h1 := HOWN1.out.lt q hq
          have h2 : Adv w1 br (p' + 1 + 1) w2 := hb2
          exact h2.same (lo := q) (B := q + 1) (by omega) (by omega) q (Nat.le_refl _) (by omega)
        have hz : w2.cell? ⟨g, 0, none⟩ = some (.int .i64 (xs[0]'(by omega))) := by
          rw [HOWN2.out.cellAt 0 (by omega), List.getElem?_map, List.getElem?_eq_getElem (by omega)]; rfl
        have hf : w2.frozen? ⟨g, 0, none⟩ = false := HOWN2.out.frozenAt 0
        have HF : Hid (IOwn (w2.setCell ⟨g, 0, none⟩ (.int .i64 y)) w.heap.size (xs.set 0 (y : Int)) (some ⟨g, 0, none⟩) C) := by
          unfold Hid IOwn
          rw [List.length_set, List.map_set]
          exact (HOWN2.out.stored 0 (.int .i64 y)).1
        have HAF : Hid (Adv w br (p' + 1 + 1) (w2.setCell ⟨g, 0, none⟩ (.int .i64 y))) := HA2.out.store hgb _
        clear hb2 hy
        go_wp2_with fail
        go_ret
        exact ⟨xs.set 0 (y : Int), some ⟨g, 0, none⟩, C, p' + 1 + 1, by rw [List.length_set]; rfl, by rw [List.length_set]; exact HL4.out, by omega, by omega, HAF.out, HF.out⟩
      · have hx0' : ((x : Int) == 0) = false := by simpa using hx0
        go_wp2_with fail
        go_ret
        exact ⟨xs, A, C, p' + 1, rfl, HL4.out, by omega, by omega, HA1.out, HOWN1.out⟩
end Go.Proofs.Ytcpibiahojpjiaa

/-! Mix3: Regions that draw their order, walked order by order; what only looks is taken first. No condition. -/
namespace Go.Proofs.Ytcpibiahojpjiaa

section
variable {P : Program} {ops : Array Oper} {Q : Exit → Act → World → Prop} {S : World → Prop}

theorem wp_region_anyT {id : Nat} {a : Act} {w : World} (S : World → Prop) (hm : P.follows .mixedOrders = true) (h : wpAnyT P .any ops (QN Q) S [] ops.size (Array.replicate ops.size false) a w.drew) : (Code.region id ops true).wp P Q a w := by
  refine Code.wp_mono (Q := QN Q) (fun e a w h => by cases e <;> first | exact h | exact h.elim) ?_
  exact wp_region_any hm (wpAny_of_T (S := S) (late := []) _ _ _ _ h)

theorem anyT_look {fuel : Nat} {listed : Array Bool} {i : Nat} {a : Act} {w : World} {o : Oper} (ho : ops[i]? = some o) (hB : (Region.noSelect ops && (Region.ready .any ops listed).contains i && Region.free .any ops listed i) = true) (hS : S w)
    (h : ∀ K : Act → Prop, (∀ a', wpAnyT P .any ops (QN Q) S [] fuel (listed.setIfInBounds i true) a' w → K a') → if Region.wanted o (yielded ops a.tmps) = true then ∃ v, (∀ w, S w → (execOp a.eval o).run P w = .ok (.value v) w) ∧ K (a.put o.dst v) else K (a.put o.dst undef)) :
    wpAnyT P .any ops (QN Q) S [] (fuel + 1) listed a w := by
  simp only [Bool.and_eq_true] at hB
  obtain ⟨⟨h1, h2⟩, h3⟩ := hB
  have := h (fun a' => wpAnyT P .any ops (QN Q) S [] fuel (listed.setIfInBounds i true) a' w) (fun _ h => h)
  split at this
  · rename_i hw
    obtain ⟨v, h4, h5⟩ := this
    exact wpAnyT_first ho (Region.noSelect_spec h1) (fun c a w h => h.elim) (fun j hj => by cases hj) fuel listed a w (Region.free_spec ho h3) (by simpa using h2) (.inl ⟨hw, h4⟩) hS (fun j hj => by cases hj) h5
  · rename_i hw
    exact wpAnyT_first (v := undef) ho (Region.noSelect_spec h1) (fun c a w h => h.elim) (fun j hj => by cases hj) fuel listed a w (Region.free_spec ho h3) (by simpa using h2) (.inr ⟨by simpa using hw, rfl⟩) hS (fun j hj => by cases hj) this

theorem anyT_op {fuel : Nat} {listed : Array Bool} {i : Nat} {a : Act} {w : World} {o : Oper} (ho : ops[i]? = some o)
    (h : ∀ K : Act → World → Prop, (∀ a' w', S w' → wpAnyT P .any ops Q S [] fuel (listed.setIfInBounds i true) a' w' → K a' w') → if Region.wanted o (yielded ops a.tmps) = true then o.wp P a w K Q else K (a.put o.dst undef) w) :
    wpOp P ops Q i (fun a' w' => ((∃ j ∈ ([] : List Nat), (listed.setIfInBounds i true).getD j false = true) ∨ S w') ∧ wpAnyT P .any ops Q S [] fuel (listed.setIfInBounds i true) a' w') a w := by
  have := h (fun a' w' => ((∃ j ∈ ([] : List Nat), (listed.setIfInBounds i true).getD j false = true) ∨ S w') ∧ wpAnyT P .any ops Q S [] fuel (listed.setIfInBounds i true) a' w') (fun _ _ h1 h2 => ⟨.inr h1, h2⟩)
  unfold wpOp
  simp only [ho]
  split at this
  · rename_i hw; rw [if_pos hw]; exact .inl this
  · rename_i hw; rw [if_neg hw]; exact this

/-- One operation may come up. -/
theorem anyT_one {fuel : Nat} {listed : Array Bool} {i : Nat} {a : Act} {w : World} {o : Oper} (hB : Region.ready .any ops listed = [i]) (ho : ops[i]? = some o)
    (h : ∀ K : Act → World → Prop, (∀ a' w', S w' → wpAnyT P .any ops (QN Q) S [] fuel (listed.setIfInBounds i true) a' w' → K a' w') → if Region.wanted o (yielded ops a.tmps) = true then o.wp P a w K (QN Q) else K (a.put o.dst undef) w) :
    wpAnyT P .any ops (QN Q) S [] (fuel + 1) listed a w := by
  refine ⟨fun h0 => (by rw [hB] at h0; cases h0), fun k hk => ?_⟩
  rw [hB] at hk
  simp only [List.mem_singleton] at hk
  subst hk
  exact anyT_op ho h
/-- One of two may come up. -/
theorem anyT_two {fuel : Nat} {listed : Array Bool} {i j : Nat} {a : Act} {w : World} {o o' : Oper} (hB : Region.ready .any ops listed = [i, j]) (ho : ops[i]? = some o) (ho' : ops[j]? = some o')
    (h : ∀ K : Act → World → Prop, (∀ a' w', S w' → wpAnyT P .any ops (QN Q) S [] fuel (listed.setIfInBounds i true) a' w' → K a' w') → if Region.wanted o (yielded ops a.tmps) = true then o.wp P a w K (QN Q) else K (a.put o.dst undef) w)
    (h' : ∀ K : Act → World → Prop, (∀ a' w', S w' → wpAnyT P .any ops (QN Q) S [] fuel (listed.setIfInBounds j true) a' w' → K a' w') → if Region.wanted o' (yielded ops a.tmps) = true then o'.wp P a w K (QN Q) else K (a.put o'.dst undef) w) :
    wpAnyT P .any ops (QN Q) S [] (fuel + 1) listed a w := by
  refine ⟨fun h0 => (by rw [hB] at h0; cases h0), fun k hk => ?_⟩
  rw [hB] at hk
  simp only [List.mem_cons, List.not_mem_nil, or_false] at hk
  rcases hk with rfl | rfl
  · exact anyT_op ho h
  · exact anyT_op ho' h'
theorem anyT_done {listed : Array Bool} {a : Act} {w : World} (hB : Region.ready .any ops listed = []) (h : Q .normal a w) : wpAnyT P .any ops (QN Q) S [] 0 listed a w := ⟨hB, h⟩
end

/-- Cells that a store elsewhere leaves. -/
theorem seen_set {l : List (Addr × Value)} {w : World} (h : ∀ p, p ∈ l → w.cell? p.1 = some p.2) {n : Nat} (hn : ∀ p, p ∈ l → p.1.block ≠ n) (i : Nat) (x : Value) : ∀ p, p ∈ l → (w.setCell ⟨n, i, none⟩ x).cell? p.1 = some p.2 := fun p hp => by
  rw [World.cell?_setCell_other _ _ _ _ (by intro e; exact hn p hp (congrArg Addr.block e).symm)]
  exact h p hp
end Go.Proofs.Ytcpibiahojpjiaa
