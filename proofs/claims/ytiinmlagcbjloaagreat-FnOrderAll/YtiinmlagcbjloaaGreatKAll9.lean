/- Several texts in one: G8, G9, G4s. -/
import Derived.Test.YtiinmlagcbjloaaGreatKAll7
import Derived.Test.YtiinmlagcbjloaaGreatKAll8
import Derived.Test.YtiinmlagcbjloaaGreatKAll1
import Derived.Test.YtiinmlagcbjloaaGreatKAll6
import Derived.Test.YtiinmlagcbjloaaGreatKAll2

/-! G8: l3Rank; the specification's all, and its more by its find. -/
namespace Go.Proofs.YtiinmlagcbjloaaGreat
open Go.RowKit Go.Deep

set_option maxRecDepth 100000 in
set_option maxHeartbeats 1000000 in
theorem l3Rank_any (xs : List Int) (A : Option Addr) (C : Nat) (x : Int) (w : World) (h : ISl w 0 w.heap.size A xs) (h4 : xs.length = 4) (hx : x ∈ xs) :
    Calls Tryz.prog 72 #[.slice A xs.length C, .int .i64 x] w fun e w' => e = .returned (.int .i64 (rkN xs x)) ∧ w' = w := by
  have HI := Lib.hid h
  have HX := Lib.hid hx
  have h4' : xs.length ≤ 4 := by omega
  clear h hx h4
  go_enter Tryz.func72, Tryz.ntmps72
  go_wp2_with fail
  go_loopw [5] (fun i wr => ∃ j : Nat, i = .int .i64 j ∧ j ≤ xs.length ∧ Hid (NotTo xs x j) ∧ wr = w) (fun i _ => xs.length - (intOf i).toNat)
  case atStart => exact ⟨0, rfl, by omega, fun q y hq => by omega, rfl⟩
  case round =>
    obtain ⟨j, rfl, hj, hne, rfl⟩ := hrel
    by_cases hlt : j < xs.length
    · obtain ⟨b, o, rfl, _, hb1, hc⟩ := isl_at HI.out hlt
      have HZ : Hid (xs[j]? = some xs[j]) := List.getElem?_eq_getElem hlt
      generalize xs[j] = z at hc HZ
      have g1 : (0 : Int) ≤ (j : Int) := by omega
      have g2 : (j : Int) < (xs.length : Int) := by omega
      by_cases hxz : z = x
      · have ex : (z == x) = true := by simp [hxz]
        have HR : Hid (rkN xs x = j) := idx_hit hne.out (by rw [HZ.out, hxz])
        clear hxz hne
        go_wp2_with fail
        go_ret
        exact ⟨by rw [HR.out]; rfl, rfl⟩
      · have ex : (z == x) = false := by simp [hxz]
        have HN : Hid (NotTo xs x (j + 1)) := fun q y hq hy => by
          by_cases e : q = j
          · subst e; rw [HZ.out] at hy; obtain rfl := Option.some.inj hy; exact hxz
          · exact hne.out q y (by omega) hy
        clear hxz hne
        go_wp2_with fail
        go_roundw
        case rel => exact ⟨j + 1, by go_num, by omega, HN, by first | trivial | rfl⟩
        case measure => simp [intOf]; omega
    · exfalso
      obtain ⟨q, hq, he⟩ := List.getElem_of_mem HX.out
      exact hne.out q x (by omega) (by rw [List.getElem?_eq_getElem hq, he]) rfl

/-- find, at all pairs smaller than M. -/
def FindTo (L : Look) (M : Nat) : Prop := ∀ (a b : Nat) (rows : List (List Int)) (w : World), a < L.n → b < L.m → L.sz a b < M → LookAt L w → Kn L (L.sz a b) rows w →
  Calls Tryz.prog 59 #[.pointer (some ⟨L.g, 0, none⟩), .int .i64 a, .int .i64 b] w (LkPost L (L.sz a b) rows (L.gt a b) w)
/-- more, at all pairs smaller than M. -/
def MoreS (L : Look) (M : Nat) : Prop := ∀ (a b : Nat) (rows : List (List Int)) (w : World), a < L.n → b < L.m → L.sz a b < M → LookAt L w → Kn L (L.sz a b + 1) rows w →
  Calls Tryz.prog 50 #[.pointer (some ⟨L.g, 0, none⟩), .int .i64 a, .int .i64 b] w (LkPost L (L.sz a b + 1) rows (L.gt a b) w)

set_option maxRecDepth 100000 in
set_option maxHeartbeats 2000000 in
theorem moreS_any {L : Look} {M : Nat} (H : FindTo L M) : MoreS L M := by
  intro a b rows w ha hb hM hlk hkn
  have HL := Lib.hid hlk
  have HK := Lib.hid hkn
  have hns := hlk.small
  obtain ⟨g, r, u, c, hA, hcg, hcu, hfu, hr, hrl, hBu, hul, hput⟩ := hkn.cell ha hb
  have hud : u < L.D := Nat.lt_of_lt_of_le hul (hlk.hid a ha)
  have HD := Lib.hid hlk.hid
  have hc5 := hlk.c5
  rw [hA] at hc5
  have hsay := hkn.say a b ha hb (by omega)
  have g1 : (0 : Int) ≤ (a : Int) := by omega
  have g2 : (a : Int) < (L.n : Int) := by omega
  have g3 : (0 : Int) ≤ (b : Int) := by omega
  have g4 : (b : Int) < (L.m : Int) := by omega
  have HPUT := Lib.hid hput
  have HRR := Lib.hid hr
  have HH : Hid (FindTo L M) := H
  have hbl : b < r.length := by omega
  clear hlk hkn hput hr H
  by_cases h0 : kv rows a b = 0
  · rw [h0] at hcu
    have HW1 : Hid (LookAt L (w.setCell ⟨u, b, none⟩ (.int .i64 2))) := HL.out.next (Far.store _ hBu hud).low
    have HK1 : Hid (Kn L (L.sz a b) (rows.set a (r.set b 2)) (w.setCell ⟨u, b, none⟩ (.int .i64 2))) := (HK.out.less (Nat.le_succ _)).put (Nat.le_refl _) HRR.out (HPUT.out 2)
    have HC := Lib.hid (HH.out a b (rows.set a (r.set b 2)) _ ha hb hM HW1.out HK1.out)
    clear hsay
    go_enter Tryz.func50, Tryz.ntmps50
    go_wp2_with fail
    with_reducible refine HC.out.mono ?_
    rintro e w2 ⟨rows2, rfl, hb2, hk2, hsame2⟩
    have HB2 : Hid (Far L w w2) := (Far.store (.int .i64 2) hBu hud).trans hb2
    have HLK2 := Lib.hid (HL.out.next HB2.out.low)
    have hkv2 : kv rows2 a b = 2 := by rw [hsame2 a b ha hb (Nat.le_refl _)]; exact kv_set_same HRR.out hbl
    obtain ⟨g', r', u', c', hA', hcg', hcu', hfu', hr', hrl', hBu', hul', hput'⟩ := hk2.cell ha hb
    obtain rfl : g' = g := by rw [hA] at hA'; simpa using hA'.symm
    rw [hkv2] at hcu'
    have hc5' := HLK2.out.c5
    rw [hA] at hc5'
    have HS2 : Hid (∀ a' b', a' < L.n → b' < L.m → L.sz a b ≤ L.sz a' b' → ¬ (a' = a ∧ b' = b) → kv rows2 a' b' = kv rows a' b') := fun a' b' h1 h2 h3 h4 => by rw [hsame2 a' b' h1 h2 h3, kv_set_other HRR.out h4]
    have hbl' : b < r'.length := by omega
    have hud' : u' < L.D := Nat.lt_of_lt_of_le hul' (HD.out a ha)
    clear hb2 hsame2 hkv2 hcg hcu hfu hc5
    cases hg : L.gt a b with
    | true =>
      have HF : Hid (LkPost L (L.sz a b + 1) rows true w (.returned (.bool true)) (w2.setCell ⟨u', b, none⟩ (.int .i64 1))) := by
        refine ⟨rows2.set a (r'.set b 1), rfl, HB2.out.trans (Far.store _ hBu' hud'), ⟨hput' 1, by rw [List.length_set]; exact hk2.len, (hk2.put (Nat.le_refl _) hr' (hput' 1)).wide, fun a' b' h1 h2 h3 => ?_⟩, fun a' b' h1 h2 h3 => ?_⟩
        · by_cases e : a' = a ∧ b' = b
          · obtain ⟨rfl, rfl⟩ := e
            rw [kv_set_same hr' hbl', hg]
            exact .inr rfl
          · rw [kv_set_other hr' e]
            by_cases hlt : L.sz a' b' < L.sz a b
            · exact hk2.say a' b' h1 h2 hlt
            · rw [HS2.out a' b' h1 h2 (by omega) e]
              exact HK.out.say a' b' h1 h2 h3
        · have e : ¬ (a' = a ∧ b' = b) := fun h => by obtain ⟨rfl, rfl⟩ := h; omega
          rw [kv_set_other hr' e, HS2.out a' b' h1 h2 (by omega) e]
      obtain ⟨g3, _, u3, c3, hA3, hcg3, hcu3, _, _, _, _, _, _⟩ := (show Kn L (L.sz a b) (rows2.set a (r'.set b 1)) (w2.setCell ⟨u', b, none⟩ (.int .i64 1)) from hk2.put (Nat.le_refl _) hr' (hput' 1)).cell ha hb
      rw [kv_set_same hr' hbl'] at hcu3
      have eg : g3 = g' := by rw [hA] at hA3; simpa using hA3.symm
      subst eg
      have hc53 := (HLK2.out.next (Far.store (b := b) (.int .i64 1) hBu' hud').low).c5
      rw [hA] at hc53
      have HF2 : Hid (LkPost L (L.sz a b + 1) rows (L.gt a b) w (.returned (.bool true)) (w2.setCell ⟨u', b, none⟩ (.int .i64 1))) := by rw [hg]; exact HF
      clear hg hput' hk2 HC HPUT HF
      go_wp2_with fail
      go_ret
      exact HF2.out
    | false =>
      have HF : Hid (LkPost L (L.sz a b + 1) rows false w (.returned (.bool false)) w2) := by
        refine ⟨rows2, rfl, HB2.out, ⟨hk2.rf, hk2.len, hk2.wide, fun a' b' h1 h2 h3 => ?_⟩, fun a' b' h1 h2 h3 => ?_⟩
        · by_cases e : a' = a ∧ b' = b
          · obtain ⟨rfl, rfl⟩ := e
            rw [hg]
            have : kv rows2 a' b' = 2 := by
              have h := (hk2.cell ha hb)
              obtain ⟨g4', _, u4, _, hA4, hcg4, hcu4, _⟩ := h
              have eg : g4' = g' := by rw [hA] at hA4; simpa using hA4.symm
              subst eg
              rw [hcg'] at hcg4
              simp only [Option.some.injEq, Value.slice.injEq, Addr.mk.injEq] at hcg4
              obtain ⟨⟨rfl, _⟩, _⟩ := hcg4
              rw [hcu'] at hcu4
              simpa using hcu4.symm
            exact .inr (by rw [this]; simp)
          · by_cases hlt : L.sz a' b' < L.sz a b
            · exact hk2.say a' b' h1 h2 hlt
            · rw [HS2.out a' b' h1 h2 (by omega) e]
              exact HK.out.say a' b' h1 h2 h3
        · have e : ¬ (a' = a ∧ b' = b) := fun h => by obtain ⟨rfl, rfl⟩ := h; omega
          rw [HS2.out a' b' h1 h2 (by omega) e]
      have HF2 : Hid (LkPost L (L.sz a b + 1) rows (L.gt a b) w (.returned (.bool false)) w2) := by rw [hg]; exact HF
      clear hg hput' hk2 HC HPUT HF
      go_wp2_with fail
      go_ret
      exact HF2.out
  · have hval := hsay.resolve_left h0
    have HF : Hid (LkPost L (L.sz a b + 1) rows (L.gt a b) w (.returned (.bool (L.gt a b))) w) := ⟨rows, rfl, Far.refl, HK.out, fun _ _ _ _ _ => rfl⟩
    rw [hval] at hcu
    clear HPUT h0 hsay hval
    cases hg : L.gt a b with
    | true =>
      have HF2 : Hid (LkPost L (L.sz a b + 1) rows true w (.returned (.bool true)) w) := by have := HF.out; rw [hg] at this; exact this
      rw [hg] at hcu
      simp only [if_true] at hcu
      clear hg HF
      go_enter Tryz.func50, Tryz.ntmps50
      go_wp2_with fail
      go_ret
      exact HF2.out
    | false =>
      have HF2 : Hid (LkPost L (L.sz a b + 1) rows false w (.returned (.bool false)) w) := by have := HF.out; rw [hg] at this; exact this
      rw [hg] at hcu
      simp only [Bool.false_eq_true, if_false] at hcu
      clear hg HF
      go_enter Tryz.func50, Tryz.ntmps50
      go_wp2_with fail
      go_ret
      exact HF2.out

/-- Behind calls on smaller pairs: what is known, and what stayed. -/
structure Still (L : Look) (z : Nat) (rows rows' : List (List Int)) (w w' : World) : Prop where
  low : Far L w w'
  kn : Kn L z rows' w'
  same : ∀ a b, a < L.n → b < L.m → z ≤ L.sz a b → kv rows' a b = kv rows a b
theorem Still.refl {L : Look} {z : Nat} {rows : List (List Int)} {w : World} (h : Kn L z rows w) : Still L z rows rows w w := ⟨Far.refl, h, fun _ _ _ _ _ => rfl⟩
theorem Still.step {L : Look} {z z' : Nat} {rows rows1 rows2 : List (List Int)} {w w1 w2 : World} (h : Still L z rows rows1 w w1) (hz : z' ≤ z) (hb : Far L w1 w2) (hk : Kn L z' rows2 w2) (hs : ∀ a b, a < L.n → b < L.m → z' ≤ L.sz a b → kv rows2 a b = kv rows1 a b) : Still L z rows rows2 w w2 :=
  ⟨h.low.trans hb, h.kn.more hk hz hs, fun a b ha hb' hzz => by rw [hs a b ha hb' (by omega), h.same a b ha hb' hzz]⟩
theorem Still.new {L : Look} {z : Nat} {rows rows1 : List (List Int)} {w w1 w2 : World} (h : Still L z rows rows1 w w1) (hL : L.B ≤ w1.heap.size) (hb : Below w1.heap.size w1 w2) : Still L z rows rows1 w w2 := ⟨h.low.trans (Far.new hL hb), h.kn.low hb, h.same⟩
theorem Still.post {L : Look} {z : Nat} {rows rows1 : List (List Int)} {w w1 : World} {res : Bool} (h : Still L z rows rows1 w w1) : LkPost L z rows res w (.returned (.bool res)) w1 := ⟨rows1, rfl, h.low, h.kn, h.same⟩

/-- The kids' numbers of term b of the second. -/
structure KidsOf (L : Look) (b : Nat) (r : List Int) : Prop where
  len : r.length = flen (L.T b).2.2
  at_ : ∀ j : Nat, j < r.length → ∃ q : Nat, r[j]? = some (q : Int) ∧ q < L.m ∧ (ftm (L.T b).2.2)[j]? = some (tmS (L.T q)) ∧ fsz (L.T q).2.2 < fsz (L.T b).2.2

set_option maxRecDepth 100000 in
set_option maxHeartbeats 1000000 in
theorem allS_any {L : Look} {M : Nat} (H : MoreS L M) {a b : Nat} {r : List Int} {A : Option Addr} {C : Nat} {rows : List (List Int)} {w : World} (ha : a < L.n) (hM : L.sz a b ≤ M) (hlk : LookAt L w) (hr : KidsOf L b r) (hi : ISl w 0 L.B A r) (hrl : r.length ≤ 100) (hkn : Kn L (L.sz a b) rows w) :
    Calls Tryz.prog 73 #[.pointer (some ⟨L.g, 0, none⟩), .int .i64 a, .slice A r.length C] w (LkPost L (L.sz a b) rows (pB (All (rkN L.xs) (tmS (L.S a)) (ftm (L.T b).2.2))) w) := by
  have HL := Lib.hid hlk
  have HK := Lib.hid hkn
  have HI := Lib.hid hi
  have HR := Lib.hid hr
  have HH : Hid (MoreS L M) := H
  have hftl : (ftm (L.T b).2.2).length = r.length := by rw [ftm_len, hr.len]
  have HFT := Lib.hid hftl
  clear hlk hkn hi hr H hftl
  go_enter Tryz.func73, Tryz.ntmps73
  go_wp2_with fail
  go_loopw [7] (fun i wr => ∃ (j : Nat) (rows1 : List (List Int)), i = .int .i64 j ∧ j ≤ r.length ∧ Hid (pB (All (rkN L.xs) (tmS (L.S a)) (ftm (L.T b).2.2)) = pB (All (rkN L.xs) (tmS (L.S a)) ((ftm (L.T b).2.2).drop j))) ∧ Hid (Still L (L.sz a b) rows rows1 w wr)) (fun i _ => r.length - (intOf i).toNat)
  case atStart => exact ⟨0, rows, rfl, by omega, by simp [Hid], Still.refl HK.out⟩
  case round =>
    obtain ⟨j, rows1, rfl, hj, hal, hst⟩ := hrel
    by_cases hlt : j < r.length
    · obtain ⟨q, hq, hqm, hft, hsz⟩ := HR.out.at_ j hlt
      obtain ⟨b', o, hA, _, hb1, hc⟩ := isl_at (HI.out.below hst.out.low.low) hlt
      subst hA
      have hqe : r[j] = (q : Int) := by rw [List.getElem?_eq_getElem hlt] at hq; exact Option.some.inj hq
      rw [hqe] at hc
      have HAT := Lib.hid (drop_at hft)
      have g1 : (0 : Int) ≤ (j : Int) := by omega
      have g2 : (j : Int) < (r.length : Int) := by omega
      have hszq : L.sz a q < L.sz a b := by unfold Look.sz; omega
      have HCALL := Lib.hid (HH.out a q rows1 wr ha hqm (by omega) (HL.out.next hst.out.low.low) (hst.out.kn.less (by omega)))
      clear hq hft hqe
      cases hg : L.gt a q with
      | true =>
        have HAL : Hid (pB (All (rkN L.xs) (tmS (L.S a)) (ftm (L.T b).2.2)) = pB (All (rkN L.xs) (tmS (L.S a)) ((ftm (L.T b).2.2).drop (j + 1)))) := by
          unfold Hid
          rw [hal.out, HAT.out]
          exact pB_congr (all_cons.trans ⟨fun h => h.2, fun h => ⟨pB_t.1 hg, h⟩⟩)
        rw [hg] at HCALL
        clear hg hal
        go_wp2_with fail
        with_reducible refine HCALL.out.mono ?_
        rintro e w2 ⟨rows2, rfl, hb2, hk2, hs2⟩
        have HST2 := Lib.hid (hst.out.step (by omega) hb2 hk2 hs2)
        clear hb2 hk2 hs2 hc hst
        go_wp2_with fail
        go_roundw
        case rel => exact ⟨j + 1, rows2, by go_num, by omega, HAL, HST2⟩
        case measure => simp [intOf]; omega
      | false =>
        have HAL : Hid (pB (All (rkN L.xs) (tmS (L.S a)) (ftm (L.T b).2.2)) = false) := by
          unfold Hid
          rw [hal.out, HAT.out]
          exact pB_false fun h => pB_f.1 hg (all_cons.1 h).1
        rw [hg] at HCALL
        clear hg hal
        go_wp2_with fail
        with_reducible refine HCALL.out.mono ?_
        rintro e w2 ⟨rows2, rfl, hb2, hk2, hs2⟩
        have HST2 := Lib.hid (hst.out.step (by omega) hb2 hk2 hs2)
        clear hb2 hk2 hs2 hc hst
        go_wp2_with fail
        go_ret
        rw [HAL.out]
        exact HST2.out.post
    · have HAL : Hid (pB (All (rkN L.xs) (tmS (L.S a)) (ftm (L.T b).2.2)) = true) := by
        unfold Hid
        rw [hal.out, List.drop_eq_nil_of_le (by rw [HFT.out]; omega)]
        exact pB_true all_nil
      clear hal
      go_wp2_with fail
      go_ret
      rw [HAL.out]
      exact hst.out.post
end Go.Proofs.YtiinmlagcbjloaaGreat

/-! G9: What holds in the midst of the specification's find. -/
namespace Go.Proofs.YtiinmlagcbjloaaGreat
open Go.RowKit Go.Deep

/-- A world in the midst of find: what is known, and the boxes of the two terms at p and p + 1. -/
structure FC (L : Look) (z : Nat) (rows : List (List Int)) (w : World) (p : Nat) (s v : Int) (A : Option Addr) (c : Nat) (k : Fo) (s' v' : Int) (A' : Option Addr) (c' : Nat) (k' : Fo) where
  world : World
  rows' : List (List Int)
  still : Still L z rows rows' w world
  look : LookAt L world
  big : p + 2 ≤ world.heap.size
  far : L.D ≤ p
  c0 : world.cell? ⟨p, 0, none⟩ = some (.int .i64 s)
  c1 : world.cell? ⟨p, 1, none⟩ = some (.int .i64 v)
  c2 : world.cell? ⟨p, 2, none⟩ = some (.slice A (flen k) c)
  d0 : world.cell? ⟨p + 1, 0, none⟩ = some (.int .i64 s')
  d1 : world.cell? ⟨p + 1, 1, none⟩ = some (.int .i64 v')
  d2 : world.cell? ⟨p + 1, 2, none⟩ = some (.slice A' (flen k') c')

section
variable {L : Look} {z : Nat} {rows : List (List Int)} {w : World} {p : Nat} {s v : Int} {A : Option Addr} {c : Nat} {k : Fo} {s' v' : Int} {A' : Option Addr} {c' : Nat} {k' : Fo}
theorem FC.go (u : FC L z rows w p s v A c k s' v' A' c' k') {w2 : World} {rows2 : List (List Int)} (hf : Far L u.world w2) (hst : Still L z rows rows2 w w2) : ∃ u' : FC L z rows w p s v A c k s' v' A' c' k', w2 = u'.world := by
  have hb := u.big
  have hd := u.far
  have hs := hf.low.size
  have hc : ∀ (o i : Nat) (x : Value), o < 2 → u.world.cell? ⟨p + o, i, none⟩ = some x → w2.cell? ⟨p + o, i, none⟩ = some x := fun o i x ho h => by
    rw [hf.far.cell (p := ⟨p + o, i, none⟩) (by simp; omega) (by simp; omega)]; exact h
  exact ⟨⟨w2, rows2, hst, u.look.next hf.low, by omega, hd, hc 0 0 _ (by omega) u.c0, hc 0 1 _ (by omega) u.c1, hc 0 2 _ (by omega) u.c2, hc 1 0 _ (by omega) u.d0, hc 1 1 _ (by omega) u.d1, hc 1 2 _ (by omega) u.d2⟩, rfl⟩
theorem FC.new (u : FC L z rows w p s v A c k s' v' A' c' k') {w2 : World} (hb : Below u.world.heap.size u.world w2) : ∃ u' : FC L z rows w p s v A c k s' v' A' c' k', w2 = u'.world :=
  u.go (Far.new u.look.big hb) (u.still.new u.look.big hb)
theorem FC.step (u : FC L z rows w p s v A c k s' v' A' c' k') {w2 : World} {rows2 : List (List Int)} {z' : Nat} (hz : z' ≤ z) (hf : Far L u.world w2) (hk : Kn L z' rows2 w2) (hs : ∀ a b, a < L.n → b < L.m → z' ≤ L.sz a b → kv rows2 a b = kv u.rows' a b) : ∃ u' : FC L z rows w p s v A c k s' v' A' c' k', w2 = u'.world :=
  u.go hf (u.still.step hz hf hk hs)

theorem wp_region_fc {P : Program} {id : Nat} {Q : Exit → Act → World → Prop} {a : Act} {l : List Oper} (u : FC L z rows w p s v A c k s' v' A' c' k') (hm : P.follows .mixedOrders = true) (hB : Region.lexB .any l.toArray = true)
    (h : wpQuiet P l.toArray (fun w' => ∃ u : FC L z rows w p s v A c k s' v' A' c' k', w' = u.world) (fun a' => ∀ w', (∃ u : FC L z rows w p s v A c k s' v' A' c' k', w' = u.world) → Q .normal a' w') l a) : (Code.region id l.toArray true).wp P Q a u.world :=
  wp_region_quiet (C := fun w' => ∃ u : FC L z rows w p s v A c k s' v' A' c' k', w' = u.world) hm hB (u.new (Below.refl _ _).drew) (by simpa using h)
theorem Calls.fc {P : Program} {f : FuncId} {args : Array Value} {u : FC L z rows w p s v A c k s' v' A' c' k'} {x : Value} (h : Calls P f args u.world fun e w' => e = .returned x ∧ Below u.world.heap.size u.world w') : Calls P f args u.world fun e w' => e = .returned x ∧ ∃ u' : FC L z rows w p s v A c k s' v' A' c' k', w' = u'.world :=
  h.mono fun _ _ ⟨he, hb⟩ => ⟨he, u.new hb⟩
theorem Calls.fcm {P : Program} {f : FuncId} {args : Array Value} {u : FC L z rows w p s v A c k s' v' A' c' k'} {res : Bool} {z' : Nat} (hz : z' ≤ z) (h : Calls P f args u.world (LkPost L z' u.rows' res u.world)) : Calls P f args u.world fun e w' => e = .returned (.bool res) ∧ ∃ u' : FC L z rows w p s v A c k s' v' A' c' k', w' = u'.world :=
  h.mono fun _ _ ⟨_, he, hf, hk, hs⟩ => ⟨he, u.step hz hf hk hs⟩
theorem FC.post (u : FC L z rows w p s v A c k s' v' A' c' k') {res : Bool} : LkPost L z rows res w (.returned (.bool res)) u.world := u.still.post
end

/-- The number of a kid of a term laid flat. -/
theorem Tab.kidAt {w : World} {B : Nat} {A K : Option Addr} {n : Nat} {S : Nat → Int × Int × Fo} {I : List (List Int)} (h : Tab w B A K n S I) {i j : Nat} (hi : i < n) (hj : j < flen (S i).2.2) :
    ∃ (b o b' o' : Nat) (r : List Int) (x y : Nat) (s v : Int) (kk : Fo) (c' q : Nat), K = some ⟨b, o, none⟩ ∧ b < B ∧ w.cell? ⟨b, o + i, none⟩ = some (.slice (some ⟨b', o', none⟩) (flen (S i).2.2) c') ∧ b' < B ∧ w.cell? ⟨b', o' + j, none⟩ = some (.int .i64 (q : Int)) ∧ (q : Nat) < n ∧ S q = (s, v, kk) ∧
      fdrop j (S i).2.2 = .node x y (s, v) kk (fdrop (j + 1) (S i).2.2) ∧ fsz kk < fsz (S i).2.2 ∧ (ftm (S i).2.2)[j]? = some (tmS (S q)) ∧ I[i]? = some r := by
  obtain ⟨r, hr, hrl, hk⟩ := h.kid i hi
  obtain ⟨x, y, s, v, kk, hd⟩ := fdrop_succ j _ hj
  obtain ⟨q, hq, hqn, hS⟩ := hk j s v kk x y _ hd
  obtain ⟨b, o, a', c', r', rfl, _, hb, hr', hc, hisl⟩ := rsl_at h.rows (show i < I.length by rw [h.len]; exact hi)
  obtain rfl : r' = r := by rw [hr] at hr'; exact (Option.some.inj hr').symm
  obtain ⟨b', o', rfl, _, hb', hc'⟩ := isl_at hisl (show j < r'.length by omega)
  have hqe : r'[j]'(by omega) = (q : Int) := by rw [List.getElem?_eq_getElem (by omega)] at hq; exact Option.some.inj hq
  rw [hqe] at hc'
  rw [hrl] at hc
  exact ⟨b, o, b', o', r', x, y, s, v, kk, c', q, rfl, hb, hc, hb', hc', hqn, hS, hd, by have := fsz_kid hd; omega, by rw [ftm_at j _ hd, hS]; rfl, hr⟩
theorem Tab.kidsOf {L : Look} {w : World} (h : Tab w L.B L.tA L.tK L.m L.T L.J) {b : Nat} (hb : b < L.m) :
    ∃ g o a' c' r, L.tK = some ⟨g, o, none⟩ ∧ g < L.B ∧ w.cell? ⟨g, o + b, none⟩ = some (.slice a' r.length c') ∧ ISl w 0 L.B a' r ∧ KidsOf L b r := by
  obtain ⟨r, hr, hrl, hk⟩ := h.kid b hb
  obtain ⟨g, o, a', c', r', hK, _, hg, hr', hc, hisl⟩ := rsl_at h.rows (show b < L.J.length by rw [h.len]; exact hb)
  obtain rfl : r' = r := by rw [hr] at hr'; exact (Option.some.inj hr').symm
  refine ⟨g, o, a', c', r', hK, hg, hc, hisl, hrl, fun j hj => ?_⟩
  obtain ⟨x, y, s, v, kk, hd⟩ := fdrop_succ j (L.T b).2.2 (by omega)
  obtain ⟨q, hq, hqn, hS⟩ := hk j s v kk x y _ hd
  exact ⟨q, hq, hqn, by rw [ftm_at j _ hd, hS]; rfl, by rw [hS]; have := fsz_kid hd; simp only; omega⟩
end Go.Proofs.YtiinmlagcbjloaaGreat

/-! G4s: Signs and rankings. -/
namespace Go.Proofs.YtiinmlagcbjloaaGreat
open Go.RowKit Go.Deep

/-- Signs that a ranking has. -/
theorem rk_mem {xs : List Int} (h : rkOk xs = true) {s : Int} (h0 : 1 ≤ s) (h1 : s ≤ 4) : s ∈ xs := by
  simp only [rkOk, Bool.and_eq_true, List.contains_iff_mem] at h
  have : s = 1 ∨ s = 2 ∨ s = 3 ∨ s = 4 := by omega
  rcases this with rfl | rfl | rfl | rfl
  · exact h.2.1
  · exact h.2.2.1
  · exact h.2.2.2.1
  · exact h.2.2.2.2
theorem rk_len {xs : List Int} (h : rkOk xs = true) : xs.length = 4 := by
  simp only [rkOk, Bool.and_eq_true, decide_eq_true_eq] at h
  exact h.1
theorem shape_sign {s v : Int} {k : Fo} (h : Shape s v k) (hs : s ≠ 0) : 1 ≤ s ∧ s ≤ 4 := by
  cases h with
  | var => exact absurd rfl hs
  | leaf _ h => omega
  | one => omega
  | two => omega
end Go.Proofs.YtiinmlagcbjloaaGreat
