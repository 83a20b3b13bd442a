/- Several texts in one: J1, Mix3, P4, TP. -/
import Derived.Test.YtcpibiahojpjiaaKOrderPart5
import Derived.Test.YtcpibiahojpjiaaKOrderPart6
import Derived.Deep.RegionHeld3
import Derived.Deep.DrawnRows
import Derived.Test.YtcpibiahojpjiaaKOrderPart2

/-! J1: l71Rank. -/
namespace Go.Proofs.Ytcpibiahojpjiaa
open Go.RowKit Go.Deep

def RankPost (br p : Nat) (w : World) (e : Ending) (w' : World) : Prop :=
  ∃ xs A C p', e = .returned (.slice A xs.length C) ∧ xs.length = 4 ∧ p ≤ p' ∧ p' ≤ p + 100 ∧ Adv w br p' w' ∧ IOwn w' w.heap.size xs A C

/-- Behind round 20 each sign comes up in turn. -/
def RkSeen (xs : List Int) (n : Nat) : Prop := ∀ m : Nat, 21 ≤ m → m < n → (1 + ((m % 4 : Nat) : Int)) ∈ xs
theorem RkSeen.all {xs : List Int} {n : Nat} (h : RkSeen xs n) (hn : 25 ≤ n) : 4 ≤ xs.length := by
  have h1 : (2 : Int) ∈ xs := h 21 (by omega) (by omega)
  have h2 : (3 : Int) ∈ xs := h 22 (by omega) (by omega)
  have h3 : (4 : Int) ∈ xs := h 23 (by omega) (by omega)
  have h4 : (1 : Int) ∈ xs := h 24 (by omega) (by omega)
  rcases xs with _ | ⟨a, _ | ⟨b, _ | ⟨c, _ | ⟨d, r⟩⟩⟩⟩
  · simp at h1
  · simp at h1 h2; omega
  · simp at h1 h2 h3; omega
  · simp at h1 h2 h3 h4; omega
  · simp
theorem RkSeen.found {xs : List Int} {n : Nat} {k : Int} (h : RkSeen xs n) (hk : 20 < n → k = 1 + ((n % 4 : Nat) : Int)) (hm : k ∈ xs) : RkSeen xs (n + 1) := fun m h1 h2 => by
  by_cases e : m = n
  · subst e; rw [← hk (by omega)]; exact hm
  · exact h m h1 (by omega)
theorem RkSeen.added {xs : List Int} {n : Nat} {k : Int} (h : RkSeen xs n) (hk : 20 < n → k = 1 + ((n % 4 : Nat) : Int)) : RkSeen (xs ++ [k]) (n + 1) := fun m h1 h2 => by
  by_cases e : m = n
  · subst e; rw [← hk (by omega)]; simp
  · exact List.mem_append_left _ (h m h1 (by omega))
theorem rank_append {w w1 w2 : World} {br p : Nat} {xs : List Int} {A A2 : Option Addr} {C C2 : Nat} {k : Int} {o : Obj} (h : IOwn w1 w.heap.size xs A C) (ha : Adv w br p w1) (hown : w2.ownsRow w.heap.size 3 1 (.slice A2 (xs.length + 1) C2) (xs.length + 1) (xs.map (Value.int .i64) ++ [.int .i64 k])) (hgrow : (w1.alloc o).grownBy w2 (Value.slice A xs.length C).ownBlock) :
    Hid (IOwn w2 w.heap.size (xs ++ [k]) A2 C2) ∧ Hid (Adv w br p w2) := by
  have hl2 : (xs ++ [k]).length = xs.length + 1 := by simp
  refine ⟨?_, ?_⟩
  · unfold Hid IOwn
    rw [hl2, List.map_append]
    exact hown
  · have h1 : Below w.heap.size (w.setCell ⟨br, 1, none⟩ (.int .i64 p)) (w1.alloc o) := (ha.alloc o)
    exact Below.grown h1 hgrow (by have := ha.size; simp; omega) (fun g hg => (h.lt g hg).1)

set_option maxRecDepth 100000 in
set_option maxHeartbeats 2000000 in
theorem l71Rank_any (br p : Nat) (w : World) (hr : Rd w br p) (hp : p ≤ 10000000) :
    Calls Try.prog 33 #[.pointer (some ⟨br, 0, none⟩)] w (RankPost br p w) := by
  have hlt := hr.lt
  obtain ⟨ti, hti, htz, hts, htb⟩ := Try.infoI
  have HTI : Hid (Try.prog.info? 3 = some ti ∧ ti.zero = some (.int .i64 0) ∧ ti.size = 1 ∧ ti.bytes = 8) := ⟨hti, htz, hts, htb⟩
  have HA0 : Hid (Adv w br p (w.alloc (.cells #[] 3))) := Adv.start hr ((Below.refl _ _).alloc (Nat.le_refl _) _)
  have HO0 : Hid (IOwn (w.alloc (.cells #[] 3)) w.heap.size [] (some ⟨w.heap.size, 0, none⟩) 0) := ⟨rfl, .inr ⟨w.heap.size, 0, #[], rfl, Nat.le_refl _, heap_alloc_new _ _, Nat.le_refl _, by decide, rfl, rfl⟩⟩
  have HR := Lib.hid hr
  clear hr hti htz hts htb
  go_enter Try.func33, Try.ntmps33
  go_wp2_with fail
  go_loopw [3, 4] (fun t i wr => ∃ (n : Nat) (xs : List Int) (A : Option Addr) (C p' : Nat), t = .slice A xs.length C ∧ i = .int .i64 n ∧ n ≤ 25 ∧ xs.length ≤ 4 ∧ Hid (IOwn wr w.heap.size xs A C) ∧ Hid (Adv w br p' wr) ∧ p ≤ p' ∧ p' ≤ p + n ∧ Hid (RkSeen xs n)) (fun _ i _ => 25 - (intOf i).toNat)
  case atStart => exact ⟨0, [], _, _, p, rfl, rfl, by omega, by simp, HO0, HA0, Nat.le_refl _, by omega, fun m h1 h2 => by omega⟩
  case round =>
    obtain ⟨n, xs, A, C, p', rfl, rfl, hn, hx4, HOWN, HA, hp1, hp2, HUP⟩ := hrel
    by_cases hlen : xs.length < 4
    · have hn25 : n < 25 := by
        rcases Nat.lt_or_ge n 25 with h | h
        · exact h
        · have := HUP.out.all h; omega
      have g4 : (xs.length : Int) < 4 := by omega
      go_wp2_with fail
      with_reducible refine (pick_any 4 br p' _ (HA.out.rd HR.out) (by omega) (by omega) (by omega)).mono ?_
      rintro e w1 ⟨x, rfl, hx, hb1⟩
      have hxn : x < 4 := by omega
      have HA1 : Hid (Adv w br (p' + 1) w1) := HA.out.trans hb1
      have hs1 := HA1.out.size
      have HOWN1 : Hid (IOwn w1 w.heap.size xs A C) := own_block HOWN.out fun g hg => by
        have h1 := HOWN.out.lt g hg
        have h2 : Adv wr br (p' + 1) w1 := hb1
        exact h2.same (lo := g) (B := g + 1) (by omega) (by omega) g (Nat.le_refl _) (by omega)
      have HI := Lib.hid HOWN1.out.sl
      clear hb1 hx HOWN HA
      by_cases h20 : 20 < n
      · have g20 : (20 : Int) < (n : Int) := by omega
        have hrem : (n : Int).tmod 4 = ((n % 4 : Nat) : Int) := by rw [Int.tmod_eq_emod_of_nonneg (by omega)]; omega
        have HKK : Hid (∀ z : Int, 1 + (n : Int) % 4 = z → (20 < n → z = 1 + ((n % 4 : Nat) : Int))) := fun z hz _ => by omega
        have hm4 : n % 4 < 4 := Nat.mod_lt _ (by omega)
        go_wp2_with fail
        generalize hkz : 1 + (n : Int) % 4 = kz
        have HKZ := Lib.hid (HKK.out kz hkz)
        clear hkz HKK
        go_loopw [6, 7] (fun f i wr' => ∃ (j : Nat) (b : Bool), f = .bool b ∧ i = .int .i64 j ∧ j ≤ xs.length ∧ Hid (b = (xs.take j).contains kz) ∧ wr' = w1) (fun _ i _ => xs.length - (intOf i).toNat)
        case atStart => exact ⟨0, false, rfl, rfl, Nat.zero_le _, by simp [Hid], rfl⟩
        case round =>
          obtain ⟨j, b, rfl, rfl, hj, hb, rfl⟩ := hrel
          by_cases hlt : j < xs.length
          · obtain ⟨bx, o, hA, _, _, hc⟩ := isl_at HI.out hlt
            subst hA
            have HTK : Hid ((xs.take (j + 1)).contains kz = ((xs.take j).contains kz || (xs[j] == kz))) := by
              have ht : xs.take (j + 1) = xs.take j ++ [xs[j]] := by rw [List.take_add_one, List.getElem?_eq_getElem hlt]; rfl
              rw [Hid, ht, Bool.eq_iff_iff]
              simp only [List.contains_eq_mem, decide_eq_true_eq, List.mem_append, List.mem_singleton, Bool.or_eq_true, beq_iff_eq]
              exact ⟨fun h => h.imp id Eq.symm, fun h => h.imp id Eq.symm⟩
            generalize xs[j] = z at hc HTK
            have g1 : (0 : Int) ≤ (j : Int) := by omega
            have g2 : (j : Int) < (xs.length : Int) := by omega
            cases hbv : b with
            | true =>
              have HB : Hid (true = (xs.take (j + 1)).contains kz) := by rw [Hid, HTK.out, ← hb.out, hbv]; rfl
              subst hbv
              clear hb
              go_wp2_with fail
              go_roundw
              case rel => exact ⟨j + 1, true, rfl, by go_num, by omega, HB, by first | trivial | rfl⟩
              case measure => simp [intOf]; omega
            | false =>
              have HB : Hid ((z == kz) = (xs.take (j + 1)).contains kz) := by rw [Hid, HTK.out, ← hb.out, hbv]; rfl
              subst hbv
              clear hb
              go_wp2_with fail
              go_roundw
              case rel => exact ⟨j + 1, (z == kz), rfl, by go_num, by omega, HB, by first | trivial | rfl⟩
              case measure => simp [intOf]; omega
          · have HB : Hid (b = xs.contains kz) := by rw [Hid, hb.out, List.take_of_length_le (by omega)]
            clear hb
            cases hbv : b with
            | true =>
              have hin : kz ∈ xs := by have := HB.out; rw [hbv] at this; simpa using this.symm
              have HIN := Lib.hid hin
              clear hin
              subst hbv
              have HUP1 := Lib.hid (HUP.out.found HKZ.out HIN.out)
              clear HB HIN
              go_wp2_with fail
              go_roundw
              case rel => exact ⟨n + 1, xs, A, C, p' + 1, rfl, by go_num, by omega, by omega, HOWN1, HA1, by omega, by omega, HUP1⟩
              case measure => simp [intOf]; omega
            | false =>
              subst hbv
              have HUP1 := Lib.hid (HUP.out.added HKZ.out)
              clear HB
              go_wp2_with (at_builtin; refine wpList_append_src _ rfl _ _ 23 rfl w.heap.size 3 ti _ 1 8 Try.underlying23 HTI.out.1 HTI.out.2.1 HTI.out.2.2.1 HTI.out.2.2.2 rfl (by omega) (.slice A xs.length C) xs.length (xs.map (Value.int .i64)) rfl (HOWN1.out.alloc _) (some ⟨wr.heap.size, 0, none⟩) 1 1 [.int .i64 kz] rfl ⟨rfl, .inr ⟨_, rfl, World.news_of_block (heap_alloc_new _ _)⟩⟩ (by simp [Value.oneCell']) (by unfold maxLen; omega) (by omega) (by simp; omega) ?_; intro A2 C2 w2 hown2 hgrow2 hat2; have HX2 := Lib.hid (rank_append HOWN1.out HA1.out hown2 hgrow2); clear hown2 hgrow2 hat2)
              go_roundw
              case rel =>
                have hl2 : (xs ++ [kz]).length = xs.length + 1 := by simp
                exact ⟨n + 1, xs ++ [kz], A2, C2, p' + 1, by rw [hl2], by go_num, by omega, by omega, HX2.out.1, HX2.out.2, by omega, by omega, HUP1⟩
              case measure => simp [intOf]; omega
      · have g20 : (n : Int) ≤ 20 := by omega
        have HKK : Hid (∀ z : Int, 1 + (x : Int) = z → (20 < n → z = 1 + ((n % 4 : Nat) : Int))) := fun z hz h => absurd h h20
        go_wp2_with fail
        generalize hkz : 1 + (x : Int) = kz
        have HKZ := Lib.hid (HKK.out kz hkz)
        clear hkz HKK
        go_loopw [6, 7] (fun f i wr' => ∃ (j : Nat) (b : Bool), f = .bool b ∧ i = .int .i64 j ∧ j ≤ xs.length ∧ Hid (b = (xs.take j).contains kz) ∧ wr' = w1) (fun _ i _ => xs.length - (intOf i).toNat)
        case atStart => exact ⟨0, false, rfl, rfl, Nat.zero_le _, by simp [Hid], rfl⟩
        case round =>
          obtain ⟨j, b, rfl, rfl, hj, hb, rfl⟩ := hrel
          by_cases hlt : j < xs.length
          · obtain ⟨bx, o, hA, _, _, hc⟩ := isl_at HI.out hlt
            subst hA
            have HTK : Hid ((xs.take (j + 1)).contains kz = ((xs.take j).contains kz || (xs[j] == kz))) := by
              have ht : xs.take (j + 1) = xs.take j ++ [xs[j]] := by rw [List.take_add_one, List.getElem?_eq_getElem hlt]; rfl
              rw [Hid, ht, Bool.eq_iff_iff]
              simp only [List.contains_eq_mem, decide_eq_true_eq, List.mem_append, List.mem_singleton, Bool.or_eq_true, beq_iff_eq]
              exact ⟨fun h => h.imp id Eq.symm, fun h => h.imp id Eq.symm⟩
            generalize xs[j] = z at hc HTK
            have g1 : (0 : Int) ≤ (j : Int) := by omega
            have g2 : (j : Int) < (xs.length : Int) := by omega
            cases hbv : b with
            | true =>
              have HB : Hid (true = (xs.take (j + 1)).contains kz) := by rw [Hid, HTK.out, ← hb.out, hbv]; rfl
              subst hbv
              clear hb
              go_wp2_with fail
              go_roundw
              case rel => exact ⟨j + 1, true, rfl, by go_num, by omega, HB, by first | trivial | rfl⟩
              case measure => simp [intOf]; omega
            | false =>
              have HB : Hid ((z == kz) = (xs.take (j + 1)).contains kz) := by rw [Hid, HTK.out, ← hb.out, hbv]; rfl
              subst hbv
              clear hb
              go_wp2_with fail
              go_roundw
              case rel => exact ⟨j + 1, (z == kz), rfl, by go_num, by omega, HB, by first | trivial | rfl⟩
              case measure => simp [intOf]; omega
          · have HB : Hid (b = xs.contains kz) := by rw [Hid, hb.out, List.take_of_length_le (by omega)]
            clear hb
            cases hbv : b with
            | true =>
              have hin : kz ∈ xs := by have := HB.out; rw [hbv] at this; simpa using this.symm
              have HIN := Lib.hid hin
              clear hin
              subst hbv
              have HUP1 := Lib.hid (HUP.out.found HKZ.out HIN.out)
              clear HB HIN
              go_wp2_with fail
              go_roundw
              case rel => exact ⟨n + 1, xs, A, C, p' + 1, rfl, by go_num, by omega, by omega, HOWN1, HA1, by omega, by omega, HUP1⟩
              case measure => simp [intOf]; omega
            | false =>
              subst hbv
              have HUP1 := Lib.hid (HUP.out.added HKZ.out)
              clear HB
              go_wp2_with (at_builtin; refine wpList_append_src _ rfl _ _ 23 rfl w.heap.size 3 ti _ 1 8 Try.underlying23 HTI.out.1 HTI.out.2.1 HTI.out.2.2.1 HTI.out.2.2.2 rfl (by omega) (.slice A xs.length C) xs.length (xs.map (Value.int .i64)) rfl (HOWN1.out.alloc _) (some ⟨wr.heap.size, 0, none⟩) 1 1 [.int .i64 kz] rfl ⟨rfl, .inr ⟨_, rfl, World.news_of_block (heap_alloc_new _ _)⟩⟩ (by simp [Value.oneCell']) (by unfold maxLen; omega) (by omega) (by simp; omega) ?_; intro A2 C2 w2 hown2 hgrow2 hat2; have HX2 := Lib.hid (rank_append HOWN1.out HA1.out hown2 hgrow2); clear hown2 hgrow2 hat2)
              go_roundw
              case rel =>
                have hl2 : (xs ++ [kz]).length = xs.length + 1 := by simp
                exact ⟨n + 1, xs ++ [kz], A2, C2, p' + 1, by rw [hl2], by go_num, by omega, by omega, HX2.out.1, HX2.out.2, by omega, by omega, HUP1⟩
              case measure => simp [intOf]; omega
    · have hl4 : xs.length = 4 := by omega
      have HL4 := Lib.hid hl4
      have g4 : (4 : Int) ≤ (xs.length : Int) := by omega
      have g0 : (0 : Int) < (xs.length : Int) := by omega
      clear hl4
      go_wp2_with fail
      with_reducible refine (pick_any 30 br p' _ (HA.out.rd HR.out) (by omega) (by omega) (by omega)).mono ?_
      rintro e w1 ⟨x, rfl, hx, hb1⟩
      have HA1 : Hid (Adv w br (p' + 1) w1) := HA.out.trans hb1
      have hs1 := HA1.out.size
      have HOWN1 : Hid (IOwn w1 w.heap.size xs A C) := own_block HOWN.out fun g hg => by
        have h1 := HOWN.out.lt g hg
        have h2 : Adv wr br (p' + 1) w1 := hb1
        exact h2.same (lo := g) (B := g + 1) (by omega) (by omega) g (Nat.le_refl _) (by omega)
      clear hb1 hx HOWN HA HUP
      by_cases hx0 : x = 0
      · subst hx0
        obtain ⟨g, cap, hv, hgb, hgl⟩ := HOWN1.out.form (by omega)
        simp only [Value.slice.injEq] at hv
        obtain ⟨rfl, _, rfl⟩ := hv
        go_wp2_with fail
        with_reducible refine (pick_any 6 br (p' + 1) _ (HA1.out.rd HR.out) (by omega) (by omega) (by omega)).mono ?_
        rintro e w2 ⟨y, rfl, hy, hb2⟩
        have HA2 : Hid (Adv w br (p' + 1 + 1) w2) := HA1.out.trans hb2
        have hs2 : w1.heap.size ≤ w2.heap.size := Adv.size (w := w1) (br := br) (p := p' + 1 + 1) hb2
        have HOWN2 : Hid (IOwn w2 w.heap.size xs (some ⟨g, 0, none⟩) C) := own_block HOWN1.out fun q hq => by
          have h1 := HOWN1.out.lt q hq
          have h2 : Adv w1 br (p' + 1 + 1) w2 := hb2
          exact h2.same (lo := q) (B := q + 1) (by omega) (by omega) q (Nat.le_refl _) (by omega)
        have hz : w2.cell? ⟨g, 0, none⟩ = some (.int .i64 (xs[0]'(by omega))) := by
          rw [HOWN2.out.cellAt 0 (by omega), List.getElem?_map, List.getElem?_eq_getElem (by omega)]; rfl
        have hf : w2.frozen? ⟨g, 0, none⟩ = false := HOWN2.out.frozenAt 0
        have HF : Hid (IOwn (w2.setCell ⟨g, 0, none⟩ (.int .i64 y)) w.heap.size (xs.set 0 (y : Int)) (some ⟨g, 0, none⟩) C) := by
          unfold Hid IOwn
          rw [List.length_set, List.map_set]
          exact (HOWN2.out.stored 0 (.int .i64 y)).1
        have HAF : Hid (Adv w br (p' + 1 + 1) (w2.setCell ⟨g, 0, none⟩ (.int .i64 y))) := HA2.out.store hgb _
        clear hb2 hy
        go_wp2_with fail
        go_ret
        exact ⟨xs.set 0 (y : Int), some ⟨g, 0, none⟩, C, p' + 1 + 1, by rw [List.length_set]; rfl, by rw [List.length_set]; exact HL4.out, by omega, by omega, HAF.out, HF.out⟩
      · have hx0' : ((x : Int) == 0) = false := by simpa using hx0
        go_wp2_with fail
        go_ret
        exact ⟨xs, A, C, p' + 1, rfl, HL4.out, by omega, by omega, HA1.out, HOWN1.out⟩
end Go.Proofs.Ytcpibiahojpjiaa

/-! Mix3: Regions that draw their order, walked order by order; what only looks is taken first. No condition. -/
namespace Go.Proofs.Ytcpibiahojpjiaa

section
variable {P : Program} {ops : Array Oper} {Q : Exit → Act → World → Prop} {S : World → Prop}

theorem wp_region_anyT {id : Nat} {a : Act} {w : World} (S : World → Prop) (hm : P.follows .mixedOrders = true) (h : wpAnyT P .any ops (QN Q) S [] ops.size (Array.replicate ops.size false) a w.drew) : (Code.region id ops true).wp P Q a w := by
  refine Code.wp_mono (Q := QN Q) (fun e a w h => by cases e <;> first | exact h | exact h.elim) ?_
  exact wp_region_any hm (wpAny_of_T (S := S) (late := []) _ _ _ _ h)

theorem anyT_look {fuel : Nat} {listed : Array Bool} {i : Nat} {a : Act} {w : World} {o : Oper} (ho : ops[i]? = some o) (hB : (Region.noSelect ops && (Region.ready .any ops listed).contains i && Region.free .any ops listed i) = true) (hS : S w)
    (h : ∀ K : Act → Prop, (∀ a', wpAnyT P .any ops (QN Q) S [] fuel (listed.setIfInBounds i true) a' w → K a') → if Region.wanted o (yielded ops a.tmps) = true then ∃ v, (∀ w, S w → (execOp a.eval o).run P w = .ok (.value v) w) ∧ K (a.put o.dst v) else K (a.put o.dst undef)) :
    wpAnyT P .any ops (QN Q) S [] (fuel + 1) listed a w := by
  simp only [Bool.and_eq_true] at hB
  obtain ⟨⟨h1, h2⟩, h3⟩ := hB
  have := h (fun a' => wpAnyT P .any ops (QN Q) S [] fuel (listed.setIfInBounds i true) a' w) (fun _ h => h)
  split at this
  · rename_i hw
    obtain ⟨v, h4, h5⟩ := this
    exact wpAnyT_first ho (Region.noSelect_spec h1) (fun c a w h => h.elim) (fun j hj => by cases hj) fuel listed a w (Region.free_spec ho h3) (by simpa using h2) (.inl ⟨hw, h4⟩) hS (fun j hj => by cases hj) h5
  · rename_i hw
    exact wpAnyT_first (v := undef) ho (Region.noSelect_spec h1) (fun c a w h => h.elim) (fun j hj => by cases hj) fuel listed a w (Region.free_spec ho h3) (by simpa using h2) (.inr ⟨by simpa using hw, rfl⟩) hS (fun j hj => by cases hj) this

theorem anyT_op {fuel : Nat} {listed : Array Bool} {i : Nat} {a : Act} {w : World} {o : Oper} (ho : ops[i]? = some o)
    (h : ∀ K : Act → World → Prop, (∀ a' w', S w' → wpAnyT P .any ops Q S [] fuel (listed.setIfInBounds i true) a' w' → K a' w') → if Region.wanted o (yielded ops a.tmps) = true then o.wp P a w K Q else K (a.put o.dst undef) w) :
    wpOp P ops Q i (fun a' w' => ((∃ j ∈ ([] : List Nat), (listed.setIfInBounds i true).getD j false = true) ∨ S w') ∧ wpAnyT P .any ops Q S [] fuel (listed.setIfInBounds i true) a' w') a w := by
  have := h (fun a' w' => ((∃ j ∈ ([] : List Nat), (listed.setIfInBounds i true).getD j false = true) ∨ S w') ∧ wpAnyT P .any ops Q S [] fuel (listed.setIfInBounds i true) a' w') (fun _ _ h1 h2 => ⟨.inr h1, h2⟩)
  unfold wpOp
  simp only [ho]
  split at this
  · rename_i hw; rw [if_pos hw]; exact .inl this
  · rename_i hw; rw [if_neg hw]; exact this

/-- One operation may come up. -/
theorem anyT_one {fuel : Nat} {listed : Array Bool} {i : Nat} {a : Act} {w : World} {o : Oper} (hB : Region.ready .any ops listed = [i]) (ho : ops[i]? = some o)
    (h : ∀ K : Act → World → Prop, (∀ a' w', S w' → wpAnyT P .any ops (QN Q) S [] fuel (listed.setIfInBounds i true) a' w' → K a' w') → if Region.wanted o (yielded ops a.tmps) = true then o.wp P a w K (QN Q) else K (a.put o.dst undef) w) :
    wpAnyT P .any ops (QN Q) S [] (fuel + 1) listed a w := by
  refine ⟨fun h0 => (by rw [hB] at h0; cases h0), fun k hk => ?_⟩
  rw [hB] at hk
  simp only [List.mem_singleton] at hk
  subst hk
  exact anyT_op ho h
/-- One of two may come up. -/
theorem anyT_two {fuel : Nat} {listed : Array Bool} {i j : Nat} {a : Act} {w : World} {o o' : Oper} (hB : Region.ready .any ops listed = [i, j]) (ho : ops[i]? = some o) (ho' : ops[j]? = some o')
    (h : ∀ K : Act → World → Prop, (∀ a' w', S w' → wpAnyT P .any ops (QN Q) S [] fuel (listed.setIfInBounds i true) a' w' → K a' w') → if Region.wanted o (yielded ops a.tmps) = true then o.wp P a w K (QN Q) else K (a.put o.dst undef) w)
    (h' : ∀ K : Act → World → Prop, (∀ a' w', S w' → wpAnyT P .any ops (QN Q) S [] fuel (listed.setIfInBounds j true) a' w' → K a' w') → if Region.wanted o' (yielded ops a.tmps) = true then o'.wp P a w K (QN Q) else K (a.put o'.dst undef) w) :
    wpAnyT P .any ops (QN Q) S [] (fuel + 1) listed a w := by
  refine ⟨fun h0 => (by rw [hB] at h0; cases h0), fun k hk => ?_⟩
  rw [hB] at hk
  simp only [List.mem_cons, List.not_mem_nil, or_false] at hk
  rcases hk with rfl | rfl
  · exact anyT_op ho h
  · exact anyT_op ho' h'
theorem anyT_done {listed : Array Bool} {a : Act} {w : World} (hB : Region.ready .any ops listed = []) (h : Q .normal a w) : wpAnyT P .any ops (QN Q) S [] 0 listed a w := ⟨hB, h⟩
end

/-- Cells that a store elsewhere leaves. -/
theorem seen_set {l : List (Addr × Value)} {w : World} (h : ∀ p, p ∈ l → w.cell? p.1 = some p.2) {n : Nat} (hn : ∀ p, p ∈ l → p.1.block ≠ n) (i : Nat) (x : Value) : ∀ p, p ∈ l → (w.setCell ⟨n, i, none⟩ x).cell? p.1 = some p.2 := fun p hp => by
  rw [World.cell?_setCell_other _ _ _ _ (by intro e; exact hn p hp (congrArg Addr.block e).symm)]
  exact h p hp
end Go.Proofs.Ytcpibiahojpjiaa

/-! P4: l1Places: the positions of a term, each behind some. -/
namespace Go.Proofs.Ytcpibiahojpjiaa
open Go.RowKit Go.Deep
attribute [local go_sem ↓] Go.wp_at_zero Go.wp_at_succ

def LpPost (k : Fo) (head : List Int) (w : World) (e : Ending) (w' : World) : Prop :=
  ∃ A C, e = .returned (.slice A (1 + fsz k) C) ∧ Below w.heap.size w w' ∧ RSl w' w.heap.size w'.heap.size A ((places k).map (head ++ ·))

theorem own_empty {W : World} {base g : Nat} (h : W.heap[g]? = some (.cells #[] 3 (0, 0))) (hb : base ≤ g) : W.ownsRow base 3 1 (.slice (some ⟨g, 0, none⟩) 0 0) 0 [] :=
  ⟨rfl, .inr ⟨g, 0, #[], rfl, hb, h, Nat.le_refl _, Nat.zero_le _, rfl, rfl⟩⟩

/-- The cells of a row of rows, as a list. -/
theorem rsl_news {w : World} {lo B : Nat} {a : Option Addr} {rows : List (List Int)} (h : RSl w lo B a rows) (hn : a = none → rows = []) :
    ∃ news : List Value, Src w 1 a rows.length news ∧ (∀ u ∈ news, u.oneCell' = true) ∧ ∀ (i : Nat) (r : List Int), rows[i]? = some r → ∃ a' c', news[i]? = some (Value.slice a' r.length c') ∧ ISc w lo B a' c' r := by
  rcases h with rfl | ⟨b, o, rfl, h1, h2, h3⟩
  · refine ⟨[], ⟨rfl, ?_⟩, by simp, by simp⟩
    cases a with
    | none => exact .inl ⟨rfl, rfl⟩
    | some ad => exact .inr ⟨ad, rfl, by simp⟩
  · refine ⟨(List.range rows.length).map fun i => (w.cell? ⟨b, o + i, none⟩).getD undef, ⟨by simp, .inr ⟨_, rfl, fun j u hu => ?_⟩⟩, fun u hu => ?_, fun i r hr => ?_⟩
    · rw [show (⟨b, o, none⟩ : Addr).add j = ⟨b, o + j, none⟩ from by unfold Addr.add; split <;> simp_all]
      rw [List.getElem?_map, Option.map_eq_some_iff] at hu
      obtain ⟨j', hj, rfl⟩ := hu
      have hj' := List.getElem?_eq_some_iff.1 hj
      obtain ⟨hlt, he⟩ := hj'
      simp at he hlt
      subst he
      obtain ⟨a', c', hc, _⟩ := h3 j rows[j] (List.getElem?_eq_getElem hlt)
      rw [hc]
      rfl
    · simp only [List.mem_map, List.mem_range] at hu
      obtain ⟨j, hj, rfl⟩ := hu
      obtain ⟨a', c', hc, _⟩ := h3 j rows[j] (List.getElem?_eq_getElem hj)
      rw [hc]
      rfl
    · obtain ⟨a', c', hc, hi⟩ := h3 i r hr
      have hlt := (List.getElem?_eq_some_iff.1 hr).1
      refine ⟨a', c', ?_, hi⟩
      rw [List.getElem?_map, List.getElem?_range hlt]
      simp [hc]

/-- Rows are appended, all that they lead to made since. -/
theorem ROwn.many {w w2 w3 : World} {base : Nat} {rows rows2 : List (List Int)} {A A' : Option Addr} {C C' : Nat} {xs news : List Value} (hown : w.ownsRow base 23 1 (.slice A rows.length C) rows.length xs)
    (hall : ∀ (i : Nat) (r : List Int), rows[i]? = some r → ∃ a' c' L H, xs[i]? = some (Value.slice a' r.length c') ∧ ISc w L H a' c' r ∧ base ≤ L ∧ H ≤ w.heap.size ∧ (∀ g, (Value.slice A rows.length C).ownBlock = some g → g < L ∨ H ≤ g))
    (hown3 : w3.ownsRow base 23 1 (.slice A' (rows.length + rows2.length) C') (rows.length + rows2.length) (xs ++ news)) (hb2 : Below w.heap.size w w2) (hbase : base ≤ w.heap.size)
    (hnews : ∀ (i : Nat) (r : List Int), rows2[i]? = some r → ∃ a' c', news[i]? = some (Value.slice a' r.length c') ∧ ISc w2 w.heap.size w2.heap.size a' c' r)
    (hgrow : w2.grownBy w3 (Value.slice A rows.length C).ownBlock) (hat : (Value.slice A' (rows.length + rows2.length) C').ownBlock = (Value.slice A rows.length C).ownBlock ∨ (Value.slice A' (rows.length + rows2.length) C').ownBlock = some w2.heap.size) : ROwn w3 base (rows ++ rows2) A' C' := by
  have hs2 := hb2.size
  have hs3 := hgrow.size
  have hxl : xs.length = rows.length := by have := hown.1; omega
  have hl : (rows ++ rows2).length = rows.length + rows2.length := by simp
  rw [ROwn, hl]
  refine ⟨_, hown3, fun i r' hr => ?_⟩
  have hcond : ∀ {L H : Nat}, (∀ g, (Value.slice A rows.length C).ownBlock = some g → g < L ∨ H ≤ g) → H ≤ w2.heap.size → ∀ g', (Value.slice A' (rows.length + rows2.length) C').ownBlock = some g' → g' < L ∨ H ≤ g' := fun hg hH g' hg' => by
    rcases hat with h1 | h1
    · exact hg g' (by rw [← h1]; exact hg')
    · rw [h1] at hg'; simp at hg'; omega
  by_cases hi : i < rows.length
  · rw [List.getElem?_append_left hi] at hr
    obtain ⟨a', c', L, H, hx, hsl, hL, hH, hg⟩ := hall i r' hr
    refine ⟨a', c', L, H, by rw [List.getElem?_append_left (by omega)]; exact hx, hsl.same (fun b h1 h2 => ?_), hL, by omega, hcond hg (by omega)⟩
    rw [hgrow.block b (by omega) (fun e => by have := hg b e.symm; omega), hb2.block b (by omega)]
  · rw [List.getElem?_append_right (by omega)] at hr
    obtain ⟨a', c', hx, hsl⟩ := hnews _ _ hr
    refine ⟨a', c', w.heap.size, w2.heap.size, by rw [List.getElem?_append_right (by omega), hxl]; exact hx, hsl.same (fun b h1 h2 => ?_), hbase, by omega, hcond (fun g hg => .inl (hown.lt _ hg).2) (Nat.le_refl _)⟩
    rw [hgrow.block b (by omega) (fun e => by have := (hown.lt b e.symm).2; omega)]

/-- The first row: the head's own copy. -/
theorem lp_start {w1 : World} {base : Nat} {A1 : Option Addr} {C1 : Nat} {head : List Int} (hown : w1.ownsRow base 3 1 (.slice A1 head.length C1) head.length (head.map (Value.int .i64))) (hb : base ≤ w1.heap.size) :
    ROwn (w1.alloc (.cells #[.slice A1 head.length C1] 23)) base [head] (some ⟨w1.heap.size, 0, none⟩) 1 := by
  refine ⟨[.slice A1 head.length C1], ⟨rfl, .inr ⟨w1.heap.size, 1, #[.slice A1 head.length C1], rfl, hb, heap_alloc_new _ _, Nat.le_refl _, by decide, rfl, rfl⟩⟩, fun i r hr => ?_⟩
  have hi : i = 0 := by
    have := (List.getElem?_eq_some_iff.1 hr).1
    simp at this
    exact this
  subst hi
  simp at hr
  subst hr
  exact ⟨A1, C1, base, w1.heap.size, rfl, (isc_of_own hown).same (fun b _ h2 => Below.heap_alloc _ _ _ h2), Nat.le_refl _, by simp, fun g hg => .inr (by simp [Value.ownBlock] at hg; omega)⟩

/-- step_append_src, the world read off the goal. -/
theorem step_src {P : Program} {w : World} {ops : Array Oper} {o : Oper} {a : Act} {K : Act → World → Prop} {Q : Exit → Act → World → Prop} {E : Prop} (hgd : o.guard = none) (s x : Operand) (t : TypeId) (ho : o.op = .call { callee := .builtin .append, args := #[s, x], argTypes := #[t, t] })
    (base : Nat) (e : TypeId) (i : TypeInfo) (z : Value) (size bytes : Nat) (ht : P.underlying t = some (.slice e)) (hi : P.info? e = some i) (hz : i.zero = some z)
    (hsize : i.size = size) (hby : i.bytes = bytes) (hzs : z.cells.size = size) (hsz : 0 < size)
    (v : Value) (n : Nat) (xs : List Value) (hs : a.eval s = v) (hown : w.ownsRow base e size v n xs) (A : Option Addr) (m c : Nat) (news : List Value) (hx : a.eval x = .slice A m c) (hsrc : Src w size A m news) (h1 : ∀ u ∈ news, u.oneCell' = true)
    (h63 : n + m ≤ maxLen) (hbytes : (n + m) * bytes ≤ 140737488355328) (hbase : base ≤ w.heap.size)
    (h : ∀ A' C' w', w'.ownsRow base e size (.slice A' (n + m) C') (n + m) (xs ++ news) → w.grownBy w' v.ownBlock → ((Value.slice A' (n + m) C').ownBlock = v.ownBlock ∨ (Value.slice A' (n + m) C').ownBlock = some w.heap.size) → K (a.put o.dst (.slice A' (n + m) C')) w') :
    if Region.wanted o (yielded ops a.tmps) = true then Oper.wp P o a w K Q else E :=
  step_append_src w hgd s x t ho base e i z size bytes ht hi hz hsize hby hzs hsz v n xs hs hown A m c news hx hsrc h1 h63 hbytes hbase h
theorem rsl_none {w : World} {lo B : Nat} {rows : List (List Int)} (h : RSl w lo B none rows) : rows = [] := by
  rcases h with h | ⟨b, o, e, _⟩
  · exact h
  · cases e
theorem heap_top (w : World) (E I : Obj) : ((w.alloc E).alloc I).drew.heap[w.heap.size + 1]? = some I := by
  have h := heap_alloc_new (w.alloc E) I
  rw [World.size_alloc] at h
  exact h
theorem keep4 {W w2 : World} {B : Nat} {b1 o1 b2 o2 : Nat} {x1 x2 x3 x4 : Value} (hb : Below B W w2) (h1 : W.cell? ⟨b1, o1, none⟩ = some x1) (h2 : W.cell? ⟨b2, o2, none⟩ = some x2) (h3 : W.cell? ⟨b2, o2 + 1, none⟩ = some x3) (h4 : W.cell? ⟨b2, o2 + 2, none⟩ = some x4)
    (g1 : b1 < B) (g2 : b2 < B) : w2.cell? ⟨b1, o1, none⟩ = some x1 ∧ w2.cell? ⟨b2, o2, none⟩ = some x2 ∧ w2.cell? ⟨b2, o2 + 1, none⟩ = some x3 ∧ w2.cell? ⟨b2, o2 + 2, none⟩ = some x4 :=
  ⟨by rw [hb.cell g1]; exact h1, by rw [hb.cell g2]; exact h2, by rw [hb.cell g2]; exact h3, by rw [hb.cell g2]; exact h4⟩
theorem lp_low8a {wr w8 : World} {E : Obj} (h : (wr.alloc E).drew.grownBy w8 (Value.slice (some ⟨wr.heap.size, 0, none⟩) 0 0).ownBlock) : Below wr.heap.size wr w8 :=
  ((Below.refl _ _).alloc (Nat.le_refl _) E).drew.grown h (by simp) (fun g hg => by simp [Value.ownBlock] at hg; omega)
theorem lp_low8b {wr w8 : World} {E I : Obj} (h : ((wr.alloc E).alloc I).drew.grownBy w8 (Value.slice (some ⟨wr.heap.size, 0, none⟩) 0 0).ownBlock) : Below wr.heap.size wr w8 :=
  (((Below.refl _ _).alloc (Nat.le_refl _) E).alloc (by simp) I).drew.grown h (by simp; omega) (fun g hg => by simp [Value.ownBlock] at hg; omega)
theorem lp_low8c {wr w8 : World} {E I : Obj} (h : ((wr.alloc I).alloc E).drew.grownBy w8 (Value.slice (some ⟨wr.heap.size + 1, 0, none⟩) 0 0).ownBlock) : Below wr.heap.size wr w8 :=
  (((Below.refl _ _).alloc (Nat.le_refl _) I).alloc (by simp) E).drew.grown h (by simp; omega) (fun g hg => by simp [Value.ownBlock] at hg; omega)
theorem lp_i8b {wr w8 : World} {E : Obj} {j : Int} (h : ((wr.alloc E).alloc (.cells #[.int .i64 j] 3)).drew.grownBy w8 (Value.slice (some ⟨wr.heap.size, 0, none⟩) 0 0).ownBlock) : Src w8 1 (some ⟨wr.heap.size + 1, 0, none⟩) 1 [.int .i64 j] := by
  refine ⟨rfl, .inr ⟨_, rfl, World.news_of_block (cs := #[.int .i64 j]) (t := 3) (fr := (0, 0)) ?_⟩⟩
  rw [h.block _ (by simp) (by simp [Value.ownBlock])]
  exact heap_top wr E _
theorem lp_i8c {wr w8 : World} {E : Obj} {j : Int} (h : ((wr.alloc (.cells #[.int .i64 j] 3)).alloc E).drew.grownBy w8 (Value.slice (some ⟨wr.heap.size + 1, 0, none⟩) 0 0).ownBlock) : Src w8 1 (some ⟨wr.heap.size, 0, none⟩) 1 [.int .i64 j] := by
  refine ⟨rfl, .inr ⟨_, rfl, World.news_of_block (cs := #[.int .i64 j]) (t := 3) (fr := (0, 0)) ?_⟩⟩
  rw [h.block _ (by simp; omega) (by simp [Value.ownBlock])]
  exact (Below.heap_alloc (wr.alloc (.cells #[.int .i64 j] 3)) E wr.heap.size (by simp)).trans (heap_alloc_new _ _)

theorem lp_many {wr w9 w12 w13 : World} {base : Nat} {rows : List (List Int)} {kk : Fo} {pre : List Int} {A A13 : Option Addr} {C C13 : Nat} {xs news : List Value} (hown : wr.ownsRow base 23 1 (.slice A rows.length C) rows.length xs)
    (hall : ∀ (i : Nat) (r : List Int), rows[i]? = some r → ∃ a' c' L H, xs[i]? = some (Value.slice a' r.length c') ∧ ISc wr L H a' c' r ∧ base ≤ L ∧ H ≤ wr.heap.size ∧ (∀ g, (Value.slice A rows.length C).ownBlock = some g → g < L ∨ H ≤ g))
    (hown13 : w13.ownsRow base 23 1 (.slice A13 (rows.length + (1 + fsz kk)) C13) (rows.length + (1 + fsz kk)) (xs ++ news)) (hlow12 : Below wr.heap.size wr w12) (_ : Below w9.heap.size w9 w12) (hs9 : wr.heap.size < w9.heap.size) (hbase : base ≤ wr.heap.size)
    (hnews : ∀ (i : Nat) (r : List Int), ((places kk).map (pre ++ ·))[i]? = some r → ∃ a' c', news[i]? = some (Value.slice a' r.length c') ∧ ISc w12 w9.heap.size w12.heap.size a' c' r)
    (hgrow : w12.grownBy w13 (Value.slice A rows.length C).ownBlock) (hat : (Value.slice A13 (rows.length + (1 + fsz kk)) C13).ownBlock = (Value.slice A rows.length C).ownBlock ∨ (Value.slice A13 (rows.length + (1 + fsz kk)) C13).ownBlock = some w12.heap.size) : ROwn w13 base (rows ++ (places kk).map (pre ++ ·)) A13 C13 := by
  have hl : ((places kk).map (pre ++ ·)).length = 1 + fsz kk := by rw [List.length_map, places_len]
  rw [← hl] at hown13 hat
  exact ROwn.many hown hall hown13 hlow12 hbase (fun i r hr => by obtain ⟨a', c', h1, h2⟩ := hnews i r hr; exact ⟨a', c', h1, h2.mono (by omega) (Nat.le_refl _)⟩) hgrow hat

set_option maxRecDepth 100000 in
set_option maxHeartbeats 1000000 in
theorem l1Places_any (N : Nat) : ∀ (s v : Int) (a : Option Addr) (c : Nat) (k : Fo) (hA : Option Addr) (hC hn : Nat) (head : List Int) (w : World), Sl w 0 w.heap.size a k → ISl w 0 w.heap.size hA head → hn = head.length → fsz k ≤ N → N ≤ 1000 → head.length + N ≤ 2000 →
    Calls Try.prog 59 #[.agg #[.int .i64 s, .int .i64 v, .slice a (flen k) c], .slice hA hn hC] w (LpPost k head w) := by
  induction N using Nat.strongRecOn with
  | _ N ih =>
    intro s v a c k hA hC hn head w hl hh hnn hN hN2 hN3
    subst hnn
    have hfl := flen_le_sz k
    have IH := Lib.hid ih
    have HHD := Lib.hid hh
    clear ih hh
    obtain ⟨ti, hti, htz, hts, htb⟩ := Try.infoI
    obtain ⟨tj, hji, hjz, hjs, hjb⟩ := Try.infoIS
    have HTI : Hid (Try.prog.info? 3 = some ti ∧ ti.zero = some (.int .i64 0) ∧ ti.size = 1 ∧ ti.bytes = 8) := ⟨hti, htz, hts, htb⟩
    have HTJ : Hid (Try.prog.info? 23 = some tj ∧ tj.zero = some (.slice none 0 0) ∧ tj.size = 1 ∧ tj.bytes = 24) := ⟨hji, hjz, hjs, hjb⟩
    clear hti htz hts htb hji hjz hjs hjb
    have HO1 : Hid (((w.alloc (.cells #[.int .i64 s, .int .i64 v, .slice a (flen k) c] 26)).alloc (.cells #[] 3)).ownsRow (w.heap.size + 1) 3 1 (.slice (some ⟨w.heap.size + 1, 0, none⟩) 0 0) 0 []) :=
      own_empty (by have := heap_alloc_new (w.alloc (.cells #[.int .i64 s, .int .i64 v, .slice a (flen k) c] 26)) (.cells #[] 3); simpa using this) (Nat.le_refl _)
    have HSRC : Hid (Src ((w.alloc (.cells #[.int .i64 s, .int .i64 v, .slice a (flen k) c] 26)).alloc (.cells #[] 3)) 1 hA head.length (head.map (Value.int .i64))) :=
      src_of_isl (HHD.out.below (((Below.refl _ _).alloc (Nat.le_refl _) _).alloc (by simp) _)) (fun ha => by have := HHD.out; rw [ha] at this; exact isl_none this)
    go_enter Try.func59, Try.ntmps59
    go_wp2_with (at_builtin; refine wpList_append_src _ rfl _ _ 23 rfl (w.heap.size + 1) 3 ti _ 1 8 Try.underlying23 HTI.out.1 HTI.out.2.1 HTI.out.2.2.1 HTI.out.2.2.2 rfl (by omega) (.slice (some ⟨w.heap.size + 1, 0, none⟩) 0 0) 0 [] rfl HO1.out hA head.length hC (head.map (Value.int .i64)) rfl HSRC.out (by simp [Value.oneCell']) (by unfold maxLen; omega) (by omega) (by simp) ?_; intro A1 C1 w1 hown1 hgrow1 hat1)
    have hown1' : w1.ownsRow (w.heap.size + 1) 3 1 (.slice A1 head.length C1) head.length (head.map (Value.int .i64)) := by simpa using hown1
    have hlow1 : Below (w.heap.size + 1) (w.alloc (.cells #[.int .i64 s, .int .i64 v, .slice a (flen k) c] 26)) w1 := ((Below.refl _ _).alloc (by simp) _).grown hgrow1 (by simp) (fun g hg => by simp [Value.ownBlock] at hg; omega)
    have hs1 := hlow1.size
    simp at hs1
    have HST := Lib.hid (lp_start hown1' hs1)
    have HB1 : Hid (Below (w.heap.size + 1) (w.alloc (.cells #[.int .i64 s, .int .i64 v, .slice a (flen k) c] 26)) (w1.alloc (.cells #[.slice A1 head.length C1] 23))) := hlow1.alloc (by omega) _
    clear hown1 hown1' hlow1 hgrow1 hat1 HO1 HSRC
    go_loopw [5, 6] (fun t i wr => ∃ (j C : Nat) (A : Option Addr) (rows : List (List Int)), j ≤ flen k ∧ i = .int .i64 j ∧ t = .slice A rows.length C ∧ rows.length ≤ 1 + fsz k ∧ Hid ((places k).map (head ++ ·) = rows ++ (fpl (fdrop j k) j).map (head ++ ·)) ∧ ROwn wr (w.heap.size + 1) rows A C ∧ Below (w.heap.size + 1) (w.alloc (.cells #[.int .i64 s, .int .i64 v, .slice a (flen k) c] 26)) wr) (fun _ i _ => flen k - (intOf i).toNat)
    case atStart => exact ⟨0, 1, _, [head], by omega, rfl, rfl, by simp, by simp [Hid, places, fdrop], HST.out, HB1.out⟩
    case round =>
      clear HST HB1
      obtain ⟨j, C, A, rows, hj, rfl, rfl, hrl, hpl, hro, hbl⟩ := hrel
      obtain ⟨hc0, hc1, hc2⟩ : wr.cell? ⟨w.heap.size, 0, none⟩ = some (.int .i64 s) ∧ wr.cell? ⟨w.heap.size, 1, none⟩ = some (.int .i64 v) ∧ wr.cell? ⟨w.heap.size, 2, none⟩ = some (.slice a (flen k) c) := box_cells ⟨wr, hbl⟩
      have hsr := hbl.size
      simp at hsr
      by_cases hlt : j < flen k
      · rcases hl with rfl | ⟨b, o, rfl, hrow⟩
        · simp [flen] at hlt
        obtain ⟨s', v', kk, a', c', ⟨x, y, hd⟩, _, hbB, hk0, hk1, hk2, hsl⟩ := row_at (hrow.below (after_top hbl)) hlt
        have hkN := fsz_kid hd
        have HPL : Hid ((places k).map (head ++ ·) = rows ++ ((places kk).map ((head ++ [(j : Int)]) ++ ·) ++ (fpl (fdrop (j + 1) k) (j + 1)).map (head ++ ·))) := by
          have := hpl.out
          rw [hd] at this
          unfold Hid
          simpa [fpl, places, Function.comp_def] using this
        have HLEN : Hid (rows.length + (1 + fsz kk) ≤ 1 + fsz k) := by
          have h1 := congrArg List.length HPL.out
          rw [List.length_map, places_len, List.length_append, List.length_append, List.length_map, places_len] at h1
          unfold Hid
          omega
        have HHR : Hid (ISl wr 0 w.heap.size hA head) := HHD.out.below (after_top hbl)
        have HS := Lib.hid hsl
        have HRO := Lib.hid hro
        have HBL := Lib.hid hbl
        have g1 : (0 : Int) ≤ (j : Int) := by omega
        have g2 : (j : Int) < (flen k : Int) := by omega
        clear hd hrow hpl hsl hro hbl hc0 hc1
        have HO8a : Hid ((wr.alloc (.cells #[] 3)).drew.ownsRow wr.heap.size 3 1 (.slice (some ⟨wr.heap.size, 0, none⟩) 0 0) 0 []) := own_empty (heap_alloc_new _ _) (Nat.le_refl _)
        have HO8b : Hid (((wr.alloc (.cells #[] 3)).alloc (.cells #[.int .i64 (j : Int)] 3)).drew.ownsRow wr.heap.size 3 1 (.slice (some ⟨wr.heap.size, 0, none⟩) 0 0) 0 []) := own_empty ((Below.heap_alloc (wr.alloc (.cells #[] 3)) (.cells #[.int .i64 (j : Int)] 3) wr.heap.size (by simp)).trans (heap_alloc_new _ _)) (Nat.le_refl _)
        have HO8c : Hid (((wr.alloc (.cells #[.int .i64 (j : Int)] 3)).alloc (.cells #[] 3)).drew.ownsRow wr.heap.size 3 1 (.slice (some ⟨wr.heap.size + 1, 0, none⟩) 0 0) 0 []) := own_empty (heap_top wr _ _) (by omega)
        have HS8a : Hid (Src (wr.alloc (.cells #[] 3)).drew 1 hA head.length (head.map (Value.int .i64))) := src_of_isl (HHR.out.below ((Below.refl _ _).alloc (by omega) _).drew) (fun ha => by have := HHR.out; rw [ha] at this; exact isl_none this)
        have HS8b : Hid (Src ((wr.alloc (.cells #[] 3)).alloc (.cells #[.int .i64 (j : Int)] 3)).drew 1 hA head.length (head.map (Value.int .i64))) := src_of_isl (HHR.out.below (((Below.refl _ _).alloc (by omega) _).alloc (by simp; omega) _).drew) (fun ha => by have := HHR.out; rw [ha] at this; exact isl_none this)
        have HS8c : Hid (Src ((wr.alloc (.cells #[.int .i64 (j : Int)] 3)).alloc (.cells #[] 3)).drew 1 hA head.length (head.map (Value.int .i64))) := src_of_isl (HHR.out.below (((Below.refl _ _).alloc (by omega) _).alloc (by simp; omega) _).drew) (fun ha => by have := HHR.out; rw [ha] at this; exact isl_none this)
        have HONE : Hid (∀ u ∈ head.map (Value.int .i64), u.oneCell' = true) := by unfold Hid; simp [Value.oneCell']
        have HMX : Hid (0 + head.length ≤ maxLen) := by unfold Hid maxLen; omega
        have HBY : Hid ((0 + head.length) * 8 ≤ 140737488355328) := by unfold Hid; omega
        have HONE1 : Hid (∀ u ∈ [Value.int .i64 (j : Int)], u.oneCell' = true) := by unfold Hid; simp [Value.oneCell']
        have HMX1 : Hid (head.length + 1 ≤ maxLen) := by unfold Hid maxLen; omega
        have HBY1 : Hid ((head.length + 1) * 8 ≤ 140737488355328) := by unfold Hid; omega
        have HB8a : Hid (wr.heap.size ≤ (wr.alloc (.cells #[] 3)).drew.heap.size) := by unfold Hid; simp
        have HB8b : Hid (wr.heap.size ≤ ((wr.alloc (.cells #[] 3)).alloc (.cells #[.int .i64 (j : Int)] 3)).drew.heap.size) := by unfold Hid; simp; omega
        have HB8c : Hid (wr.heap.size ≤ ((wr.alloc (.cells #[.int .i64 (j : Int)] 3)).alloc (.cells #[] 3)).drew.heap.size) := by unfold Hid; simp; omega
        obtain ⟨xs, hown, hall⟩ := HRO.out
        have HOWN := Lib.hid hown
        have HALL := Lib.hid hall
        clear hown hall
        go_wp2_with fail
        go_region_held3 (fun w' => w'.cell? ⟨w.heap.size, 2, none⟩ = some (.slice (some ⟨b, o, none⟩) (flen k) c) ∧ w'.cell? ⟨b, o + j * 3, none⟩ = some (.int .i64 s') ∧ w'.cell? ⟨b, o + j * 3 + 1, none⟩ = some (.int .i64 v') ∧ w'.cell? ⟨b, o + j * 3 + 2, none⟩ = some (.slice a' (flen kk) c'))
          (first
            | exact keep4 (B := w.heap.size + 1) hlow13 hc2 hk0 hk1 hk2 (by omega) (by omega)
            | exact keep4 (B := w.heap.size + 1) (hlow12.mono (by omega)) hc2 hk0 hk1 hk2 (by omega) (by omega)
            | exact keep4 (B := w.heap.size + 1) (hlow9.mono (by omega)) hc2 hk0 hk1 hk2 (by omega) (by omega)
            | exact keep4 (B := w.heap.size + 1) ((hlow8.mono (by omega)).alloc (by omega) _) hc2 hk0 hk1 hk2 (by omega) (by omega)
            | exact keep4 (B := w.heap.size + 1) (hlow8.mono (by omega)) hc2 hk0 hk1 hk2 (by omega) (by omega)
            | go_keep)
          (first
            | (refine step_src (by rfl) _ _ 23 (by rfl) wr.heap.size 3 ti _ 1 8 Try.underlying23 HTI.out.1 HTI.out.2.1 HTI.out.2.2.1 HTI.out.2.2.2 rfl Nat.one_pos (.slice (some ⟨wr.heap.size, 0, none⟩) 0 0) 0 [] (by rfl) HO8a.out hA head.length hC (head.map (Value.int .i64)) (by rfl) HS8a.out HONE.out HMX.out HBY.out HB8a.out ?_; intro A8 C8 w8 hown8 hgrow8 hat8; have hown8x : w8.ownsRow wr.heap.size 3 1 (.slice A8 head.length C8) head.length (head.map (Value.int .i64)) := (by simpa using hown8); have hlow8 : Below wr.heap.size wr w8 := lp_low8a hgrow8; have hs8 : wr.heap.size < w8.heap.size := (by have := hgrow8.size; simp at this; omega); have hI8 : Hid True := trivial)
            | (refine step_src (by rfl) _ _ 23 (by rfl) wr.heap.size 3 ti _ 1 8 Try.underlying23 HTI.out.1 HTI.out.2.1 HTI.out.2.2.1 HTI.out.2.2.2 rfl Nat.one_pos (.slice (some ⟨wr.heap.size, 0, none⟩) 0 0) 0 [] (by rfl) HO8b.out hA head.length hC (head.map (Value.int .i64)) (by rfl) HS8b.out HONE.out HMX.out HBY.out HB8b.out ?_; intro A8 C8 w8 hown8 hgrow8 hat8; have hown8x : w8.ownsRow wr.heap.size 3 1 (.slice A8 head.length C8) head.length (head.map (Value.int .i64)) := (by simpa using hown8); have hlow8 : Below wr.heap.size wr w8 := lp_low8b hgrow8; have hs8 : wr.heap.size < w8.heap.size := (by have := hgrow8.size; simp at this; omega); have hI8 : Hid (Src w8 1 (some ⟨wr.heap.size + 1, 0, none⟩) 1 [.int .i64 (j : Int)]) := lp_i8b hgrow8)
            | (refine step_src (by rfl) _ _ 23 (by rfl) wr.heap.size 3 ti _ 1 8 Try.underlying23 HTI.out.1 HTI.out.2.1 HTI.out.2.2.1 HTI.out.2.2.2 rfl Nat.one_pos (.slice (some ⟨wr.heap.size + 1, 0, none⟩) 0 0) 0 [] (by rfl) HO8c.out hA head.length hC (head.map (Value.int .i64)) (by rfl) HS8c.out HONE.out HMX.out HBY.out HB8c.out ?_; intro A8 C8 w8 hown8 hgrow8 hat8; have hown8x : w8.ownsRow wr.heap.size 3 1 (.slice A8 head.length C8) head.length (head.map (Value.int .i64)) := (by simpa using hown8); have hlow8 : Below wr.heap.size wr w8 := lp_low8c hgrow8; have hs8 : wr.heap.size < w8.heap.size := (by have := hgrow8.size; simp at this; omega); have hI8 : Hid (Src w8 1 (some ⟨wr.heap.size, 0, none⟩) 1 [.int .i64 (j : Int)]) := lp_i8c hgrow8)
            | (refine step_src (by rfl) _ _ 23 (by rfl) wr.heap.size 3 ti _ 1 8 Try.underlying23 HTI.out.1 HTI.out.2.1 HTI.out.2.2.1 HTI.out.2.2.2 rfl (by omega) (.slice A8 head.length C8) head.length (head.map (Value.int .i64)) (by rfl) (own_low ((Below.refl _ _).alloc (Nat.le_refl _) _) hown8x) (some ⟨w8.heap.size, 0, none⟩) 1 1 [.int .i64 (j : Int)] (by rfl) ⟨rfl, .inr ⟨_, rfl, World.news_of_block (heap_alloc_new _ _)⟩⟩ (by simp [Value.oneCell']) (by unfold maxLen; omega) (by omega) (by simp; omega) ?_; intro A9 C9 w9 hown9 hgrow9 hat9; have hlow9 : Below wr.heap.size wr w9 := (hlow8.alloc (by omega) _).grown hgrow9 (by simp; omega) (fun g hg => (hown8x.lt g hg).1); have hs9 : wr.heap.size < w9.heap.size := (by have := hgrow9.size; simp at this; omega))
            | ((go_at_call 59; refine (IH.out (fsz kk) (by omega) s' v' a' c' kk A9 C9 _ (head ++ [(j : Int)]) _ ?_ ?_ ?_ (Nat.le_refl _) (by omega) ?_).mono ?_); exact (HS.out.below (hlow9.mono (by omega))).mono (Nat.le_refl _) (by omega); exact (isl_of_own (n := head.length + 1) (xs := head ++ [(j : Int)]) (by simpa using hown9)).mono (Nat.zero_le _) (Nat.le_refl _); simp; (simp; omega); rintro e w12 ⟨A12, C12, rfl, hb12, hr12⟩; have hlow12 : Below wr.heap.size wr w12 := hlow9.trans (hb12.mono (by omega)); have hs12 := hb12.size; obtain ⟨news, hsrc, hone, hnews⟩ := rsl_news hr12 (fun ha => rsl_none (ha ▸ hr12)))
            | (refine step_src (by rfl) _ _ 42 (by rfl) (w.heap.size + 1) 23 tj _ 1 24 Try.underlying42 HTJ.out.1 HTJ.out.2.1 HTJ.out.2.2.1 HTJ.out.2.2.2 rfl (by omega) (.slice A rows.length C) rows.length xs (by rfl) (own_low hlow12 HOWN.out) A12 (1 + fsz kk) C12 news (by rfl) (by simpa [places_len] using hsrc) hone (by unfold maxLen; omega) (by omega) (by omega) ?_; intro A13 C13 w13 hown13 hgrow13 hat13; have hlow13 : Below (w.heap.size + 1) wr w13 := (hlow12.mono (by omega)).grown hgrow13 (by omega) (fun g hg => (HOWN.out.lt g hg).1))
            | (refine step_src (by rfl) _ _ 23 (by rfl) wr.heap.size 3 ti _ 1 8 Try.underlying23 HTI.out.1 HTI.out.2.1 HTI.out.2.2.1 HTI.out.2.2.2 rfl Nat.one_pos (.slice A8 head.length C8) head.length (head.map (Value.int .i64)) (by show Value.slice A8 (0 + head.length) C8 = _; rw [Nat.zero_add]) hown8x (some ⟨_, 0, none⟩) 1 1 [.int .i64 (j : Int)] ?_ hI8.out HONE1.out HMX1.out HBY1.out (Nat.le_of_lt hs8) ?_; rfl; intro A9 C9 w9 hown9 hgrow9 hat9; have hlow9 : Below wr.heap.size wr w9 := hlow8.grown hgrow9 (by omega) (fun g hg => (hown8x.lt g hg).1); have hs9 : wr.heap.size < w9.heap.size := (by have := hgrow9.size; omega)))
        all_goals
          go_wp2_with fail
          have hrow13 : ROwn w13 (w.heap.size + 1) (rows ++ (places kk).map ((head ++ [(j : Int)]) ++ ·)) A13 C13 :=
            lp_many HOWN.out HALL.out hown13 hlow12 hb12 hs9 (by omega) hnews hgrow13 hat13
          refine ⟨⟨j + 1, C13, A13, _, by omega, by go_num, by simp [places_len], ?_, by rw [Hid, HPL.out, List.append_assoc], hrow13, HBL.out.trans hlow13⟩, ?_⟩
          · rw [List.length_append, List.length_map, places_len]
            exact HLEN.out
          · simp [intOf]; omega
      · have HE : Hid ((places k).map (head ++ ·) = rows) := by
          have := hpl.out
          rw [fdrop_all (by omega)] at this
          unfold Hid
          simpa [fpl] using this
        have HP : Hid (LpPost k head w (.returned (.slice A rows.length C)) wr) := by
          have hle : rows.length = 1 + fsz k := by rw [← HE.out, List.length_map, places_len]
          refine ⟨A, C, by rw [hle], after_top hbl, ?_⟩
          rw [HE.out]
          exact hro.sl.mono (by omega) (Nat.le_refl _)
        clear hpl hro hbl hc0 hc1
        go_wp2_with fail
        go_ret
        exact HP.out
end Go.Proofs.Ytcpibiahojpjiaa

/-! TP: What TermPlaces answers. -/
namespace Go.Proofs.Ytcpibiahojpjiaa
open Go.RowKit Go.Deep

theorem isl_nil {w : World} {lo B : Nat} {a : Option Addr} : ISl w lo B a [] := Or.inl rfl

def TpPost (s v : Int) (k : Fo) (w : World) (e : Ending) (w' : World) : Prop :=
  ∃ A C rows, e = .returned (.slice A rows.length C) ∧ rows = (if okW s v k 16 = true then places k else []) ∧ Below w.heap.size w w' ∧ RSl w' w.heap.size w'.heap.size A rows
end Go.Proofs.Ytcpibiahojpjiaa
