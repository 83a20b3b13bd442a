/- Several texts in one: UR, V2, SB, BG, SP5, SD0. -/
import Derived.Test.YtoafleckcjanaaaKLk29
import Derived.Test.YtoafleckcjanaaaKLk10
import Derived.Test.YtoafleckcjanaaaKLk28
import Derived.Test.YtoafleckcjanaaaKLk4
import Derived.Test.YtoafleckcjanaaaKLk19
import Derived.Test.YtoafleckcjanaaaKLk20
import Derived.Test.YtoafleckcjanaaaKLk22

/-! UR: What UnifyOf answers: plain. -/
namespace Go.Proofs.Ytoafleckcjanaaa
open Go.RowKit Go.Deep

/-- What makes two terms the same, all terms of so many signs at most. -/
def uniR (lim : Nat) (a b : T3) : Option (List Bd) := (unT lim 600 [] a b).bind fun bs => if sz (ap (sv bs) a) ≤ lim then some bs else none
theorem uniR_some {lim : Nat} {a b : T3} {bs : List Bd} : uniR lim a b = some bs ↔ unT lim 600 [] a b = some bs ∧ sz (ap (sv bs) a) ≤ lim := by
  unfold uniR
  rw [Option.bind_eq_some_iff]
  constructor
  · rintro ⟨x, h1, h2⟩
    split at h2
    · obtain rfl := Option.some.inj h2; exact ⟨h1, by assumption⟩
    · cases h2
  · rintro ⟨h1, h2⟩
    exact ⟨bs, h1, by rw [if_pos h2]⟩
theorem uniR_none {lim : Nat} {a b : T3} : uniR lim a b = none ↔ ∀ bs, unT lim 600 [] a b = some bs → ¬ sz (ap (sv bs) a) ≤ lim := by
  constructor
  · intro h bs h1 h2
    rw [uniR_some.2 ⟨h1, h2⟩] at h; cases h
  · intro h
    cases hu : uniR lim a b with
    | none => rfl
    | some bs => obtain ⟨h1, h2⟩ := uniR_some.1 hu; exact absurd h2 (h bs h1)
/-- The answer of UnifyOf. -/
def unR (s v : Int) (k : Fo) (s' v' : Int) (k' : Fo) : List Bd × Bool :=
  if okW s v k 16 = true ∧ okW s' v' k' 16 = true then match uniR 16 (s, v, k) (s', v', k') with
    | some bs => (bs, true)
    | none => ([], false)
  else ([], false)
theorem unR_bad {s v : Int} {k : Fo} {s' v' : Int} {k' : Fo} (h : ¬ (okW s v k 16 = true ∧ okW s' v' k' 16 = true)) : unR s v k s' v' k' = ([], false) := by unfold unR; rw [if_neg h]
theorem unR_some {s v : Int} {k : Fo} {s' v' : Int} {k' : Fo} {bs : List Bd} (h1 : okW s v k 16 = true) (h2 : okW s' v' k' 16 = true) (h : uniR 16 (s, v, k) (s', v', k') = some bs) : unR s v k s' v' k' = (bs, true) := by unfold unR; rw [if_pos ⟨h1, h2⟩, h]
theorem unR_none {s v : Int} {k : Fo} {s' v' : Int} {k' : Fo} (h : uniR 16 (s, v, k) (s', v', k') = none) : unR s v k s' v' k' = ([], false) := by
  unfold unR
  split
  · rw [h]
  · rfl
theorem unR_cases {s v : Int} {k : Fo} {s' v' : Int} {k' : Fo} {bs : List Bd} {t : Bool} (h : unR s v k s' v' k' = (bs, t)) : (t = false ∧ bs = []) ∨ (t = true ∧ okW s v k 16 = true ∧ okW s' v' k' 16 = true ∧ uniR 16 (s, v, k) (s', v', k') = some bs) := by
  unfold unR at h
  split at h
  · rename_i hc
    split at h
    · rename_i b1 hu
      simp only [Prod.mk.injEq] at h
      obtain ⟨rfl, rfl⟩ := h
      exact .inr ⟨rfl, hc.1, hc.2, hu⟩
    · simp only [Prod.mk.injEq] at h
      exact .inl ⟨h.2.symm, h.1.symm⟩
  · simp only [Prod.mk.injEq] at h
    exact .inl ⟨h.2.symm, h.1.symm⟩
theorem okT_w {s v : Int} {k : Fo} {room : Int} (h : okW s v k room = true) : okT (s, v, k) := by
  have := (okW_iff _ _ _ _).1 h; exact ⟨this.1, this.2.1⟩
theorem sz_w {s v : Int} {k : Fo} (h : okW s v k 16 = true) : sz (s, v, k) ≤ 16 := by
  have := (okW_iff _ _ _ _).1 h; simp only [sz]; omega
theorem w_sz {t : T3} (h : okT t) {room : Nat} (hz : sz t ≤ room) : okW t.1 t.2.1 t.2.2 room = true := (okW_iff _ _ _ _).2 ⟨h.1, h.2, by simp only [sz] at hz; omega⟩
theorem Wb.sok {bs : List Bd} (h : Wb 16 bs) : sok 16 bs = true := sok_iff.2 ⟨h.asc, fun x hx => by
  have hs := sv_mem h.asc hx
  have hr := h.rng _ _ hs
  exact ⟨by omega, by omega, w_sz (h.ok _ _ hs) (h.small _ _ hs)⟩⟩
theorem Wb.bof {lim : Nat} {bs : List Bd} (h : Wb lim bs) : Bof bs lim := fun x t ht => by
  have h1 := h.ok x t ht
  have h2 := h.small x t ht
  simp only [sz] at h2
  exact ⟨h1.1, h1.2, by omega⟩
theorem uniR_wb {lim : Nat} {a b : T3} {bs : List Bd} (ha : okT a) (hb : okT b) (h : uniR lim a b = some bs) : Wb lim bs := (unT_wb _ _ _ _ _ (Wb.nil lim) ha hb (uniR_some.1 h).1).1
/-- The specification looks at the terms' sizes behind it. -/
theorem uniR_spec {a b : T3} (ha : okT a) (hb : okT b) {bs : List Bd} : uniR 16 a b = some bs ↔ unT 64 600 [] a b = some bs ∧ sok 16 bs = true ∧ sz (ap (sv bs) a) ≤ 16 := by
  constructor
  · intro h
    have hw := uniR_wb ha hb h
    obtain ⟨h1, h2⟩ := uniR_some.1 h
    refine ⟨unT_lim (by omega) _ _ _ _ _ (Wb.nil 16) ha hb h1 fun x hx => ?_, hw.sok, h2⟩
    have := hw.small _ _ (sv_mem hw.asc hx)
    omega
  · rintro ⟨h1, h2, h3⟩
    refine uniR_some.2 ⟨unT_lim (by omega) _ _ _ _ _ (Wb.nil 64) ha hb h1 fun x hx => ?_, h3⟩
    have := (okW_iff _ _ _ _).1 ((sok_in h2).2 x hx).2.2
    simp only [sz]; omega
end Go.Proofs.Ytoafleckcjanaaa

/-! V2: l1Has: whether a variable is in a term. -/
namespace Go.Proofs.Ytoafleckcjanaaa
open Go.RowKit Go.Deep

theorem one_box {w wr : World} {x y z : Value} (h : Below (w.heap.size + 1) (w.alloc (.cells #[x, y, z] 35)) wr) : wr.cell? ⟨w.heap.size, 2, none⟩ = some z := by
  rw [h.cell (by simp), World.cell?_alloc_at _ _ _ _ (by simp)]; rfl

theorem fvl_drop {x : Int} {j : Nat} {k : Fo} {a b : Nat} {s v : Int} {kk r : Fo} (h : fdrop j k = .node a b (s, v) kk r) : x ∈ fvl (fdrop j k) ↔ x ∈ fvs s v kk ∨ x ∈ fvl r := by
  rw [h]
  simp only [fvl, fvs, List.mem_append]

set_option maxRecDepth 100000 in
set_option maxHeartbeats 1000000 in
theorem l1Has_any (N : Nat) : ∀ (s v : Int) (a : Option Addr) (c : Nat) (k : Fo) (x : Int) (w : World), Sl w 0 w.heap.size a k → fsz k ≤ N → N ≤ 1000000 →
    Calls Try.prog 109 #[.agg #[.int .i64 s, .int .i64 v, .slice a (flen k) c], .int .i64 x] w fun e w' => e = .returned (.bool (decide (x ∈ fvs s v k))) ∧ Below w.heap.size w w' := by
  induction N using Nat.strongRecOn with
  | _ N ih =>
    intro s v a c k x w hl hN hN2
    have hfl := flen_le_sz k
    have IH := Lib.hid ih
    clear ih
    by_cases hs : s = 0
    · subst hs
      have HE : Hid ((v == x) = decide (x ∈ fvs 0 v k)) := by
        unfold Hid
        by_cases h : v = x
        · subst h; simp [fvs]
        · have : x ≠ v := fun e => h e.symm
          simp [fvs, h, this]
      go_enter Try.func109, Try.ntmps109
      go_wp2_with fail
      go_ret
      exact ⟨by rw [← HE.out]; rfl, (Below.refl _ _).alloc (Nat.le_refl _) _⟩
    · have gs : (s == 0) = false := by simpa using hs
      have hb0 : Below w.heap.size w (w.alloc (.cells #[.int .i64 s, .int .i64 v, .slice a (flen k) c] 35)) := (Below.refl _ _).alloc (Nat.le_refl _) _
      have HB0 := Lib.hid hb0
      have HV : Hid (fvs s v k = fvl k) := by unfold Hid fvs; rw [if_neg hs]
      clear hb0
      go_enter Try.func109, Try.ntmps109
      go_wp2_with fail
      go_loopw [5] (fun i wr => ∃ j : Nat, j ≤ flen k ∧ i = .int .i64 j ∧ Hid (x ∈ fvl k ↔ x ∈ fvl (fdrop j k)) ∧ Below (w.heap.size + 1) (w.alloc (.cells #[.int .i64 s, .int .i64 v, .slice a (flen k) c] 35)) wr) (fun i _ => flen k - (intOf i).toNat)
      case atStart => exact ⟨0, by omega, rfl, Iff.rfl, Below.refl _ _⟩
      case round =>
        obtain ⟨j, hj, rfl, hq, hbl⟩ := hrel
        have hsr := hbl.size
        simp at hsr
        have hx2 := one_box hbl
        have hbw := HB0.out.trans (hbl.mono (show w.heap.size ≤ w.heap.size + 1 by omega))
        by_cases hlt : j < flen k
        · rcases hl with rfl | ⟨b, o, rfl, hrow⟩
          · simp [flen] at hlt
          obtain ⟨s1, v1, kk, a1, c1, ⟨x1, y1, hd⟩, _, hbB, hk0, hk1, hk2, hsl⟩ := row_at (hrow.below hbw) hlt
          have hkN := fsz_kid hd
          have HQ : Hid (x ∈ fvl k ↔ x ∈ fvs s1 v1 kk ∨ x ∈ fvl (fdrop (j + 1) k)) := hq.out.trans (fvl_drop hd)
          have HS := Lib.hid hsl
          have HBL := Lib.hid hbl
          clear hd hsl hrow hbl hbw hq
          have g1 : (0 : Int) ≤ (j : Int) := by omega
          have g2 : (j : Int) < (flen k : Int) := by omega
          have HS1 := Lib.hid (HS.out.mono (lo' := 0) (Nat.le_refl _) (show w.heap.size ≤ wr.heap.size by omega))
          cases hin : decide (x ∈ fvs s1 v1 kk) with
          | true =>
            have HE : Hid (decide (x ∈ fvs s v k) = true) := by
              unfold Hid
              rw [HV.out]
              exact decide_eq_true (HQ.out.2 (.inl (of_decide_eq_true hin)))
            have HIN := Lib.hid hin
            clear hin
            go_wp2_with fail
            with_reducible refine (IH.out (fsz kk) (by omega) s1 v1 a1 c1 kk x _ HS1.out (Nat.le_refl _) (by omega)).mono ?_
            rw [HIN.out]
            rintro e u ⟨rfl, hu⟩
            clear hk0 hk1 hk2 hx2
            have HB2 := Lib.hid (HBL.out.trans (hu.mono hsr))
            clear hu
            go_wp2_with fail
            go_ret
            exact ⟨by rw [HE.out]; rfl, HB0.out.trans (HB2.out.mono (by omega))⟩
          | false =>
            have HE : Hid (x ∈ fvl k ↔ x ∈ fvl (fdrop (j + 1) k)) := by
              have := of_decide_eq_false hin
              unfold Hid
              rw [HQ.out]
              simp [this]
            have HIN := Lib.hid hin
            clear hin
            go_wp2_with fail
            with_reducible refine (IH.out (fsz kk) (by omega) s1 v1 a1 c1 kk x _ HS1.out (Nat.le_refl _) (by omega)).mono ?_
            rw [HIN.out]
            rintro e u ⟨rfl, hu⟩
            clear hk0 hk1 hk2 hx2
            have HB2 := Lib.hid (HBL.out.trans (hu.mono hsr))
            clear hu
            go_wp2_with fail
            go_roundw
            case rel => exact ⟨j + 1, by omega, by go_num, HE, HB2.out⟩
            case measure => simp [intOf]; omega
        · have HE : Hid (decide (x ∈ fvs s v k) = false) := by
            unfold Hid
            rw [HV.out]
            refine decide_eq_false fun h => ?_
            have := hq.out.1 h
            rw [fdrop_all (by omega)] at this
            simp [fvl] at this
          have HBW := Lib.hid hbw
          clear hbw hbl hq
          go_wp2_with fail
          go_ret
          exact ⟨by rw [HE.out]; rfl, HBW.out⟩
end Go.Proofs.Ytoafleckcjanaaa

/-! SB: - The specification's l2Big and l2Bind. -/
namespace Go.Proofs.Ytoafleckcjanaaa
open Go.RowKit Go.Deep

set_option maxRecDepth 100000 in
set_option maxHeartbeats 400000 in
theorem l2Big_any (s v : Int) (a : Option Addr) (c : Nat) (k : Fo) (w : World) (hl : Sl w 0 w.heap.size a k) (ho : okT (s, v, k)) (r : Bool) (hr : decide (64 < sz (s, v, k)) = r) :
    Calls Try.prog 46 #[.agg #[.int .i64 s, .int .i64 v, .slice a (flen k) c]] w fun e w' => e = .returned (.bool r) ∧ Below w.heap.size w w' := by
  have hb : Below w.heap.size w (w.alloc (.cells #[.int .i64 s, .int .i64 v, .slice a (flen k) c] 35)) := box_low _ _
  have HB := Lib.hid hb
  have HC := Lib.hid (l1Count_any 64 s v a c k 64 (w.alloc (.cells #[.int .i64 s, .int .i64 v, .slice a (flen k) c] 35)) (hl.next hb) (by omega) (by omega) (by omega))
  have HE : Hid (decide (cntT s v k 64 > 64) = r) := by
    have h1 := cntT_okW s v k 64
    have h2 : okW s v k 64 = decide (sz (s, v, k) ≤ 64) := by
      rw [Bool.eq_iff_iff, okW_iff, decide_eq_true_eq]
      constructor
      · intro h; simp only [sz]; omega
      · intro h; exact ⟨ho.1, ho.2, by simp only [sz] at h; omega⟩
    rw [Hid, ← hr, Bool.eq_iff_iff]
    rw [h2, Bool.eq_iff_iff] at h1
    simp only [decide_eq_true_eq] at h1 ⊢
    omega
  have hc0 : (w.alloc (.cells #[.int .i64 s, .int .i64 v, .slice a (flen k) c] 35)).cell? ⟨w.heap.size, 0, none⟩ = some (.int .i64 s) := by rw [World.cell?_alloc_at _ _ _ _ (by simp)]; rfl
  have hc1 : (w.alloc (.cells #[.int .i64 s, .int .i64 v, .slice a (flen k) c] 35)).cell? ⟨w.heap.size, 1, none⟩ = some (.int .i64 v) := by rw [World.cell?_alloc_at _ _ _ _ (by simp)]; rfl
  have hc2 : (w.alloc (.cells #[.int .i64 s, .int .i64 v, .slice a (flen k) c] 35)).cell? ⟨w.heap.size, 2, none⟩ = some (.slice a (flen k) c) := by rw [World.cell?_alloc_at _ _ _ _ (by simp)]; rfl
  clear hl hb ho hr
  go_enter Try.func46, Try.ntmps46
  go_wp2_with fail
  with_reducible refine HC.out.mono ?_
  rintro e w1 ⟨rfl, hb1⟩
  have HB1 := Lib.hid (below_next HB.out hb1)
  have he := HE.out
  clear hb1 HC hc0 hc1 hc2
  generalize cntT s v k 64 = n at *
  go_wp2_with fail
  go_ret
  exact ⟨rfl, HB1.out⟩

def LbPost (r : Option (List Bd)) (w : World) (e : Ending) (w' : World) : Prop :=
  ∃ A C l cd, e = .returned (.tuple #[.slice A (List.length l) C, .int .i64 cd]) ∧ Below w.heap.size w w' ∧ BSl w' 0 w'.heap.size A l ∧ ((cd = 0 ∧ r = some l) ∨ (0 < cd ∧ r = none))
theorem bsl_one {w : World} {x s v : Int} {a : Option Addr} {c : Nat} {k : Fo} (hl : Sl w 0 w.heap.size a k) : BSl (w.alloc (.cells #[.int .i64 x, .int .i64 s, .int .i64 v, .slice a (flen k) c] 124)) 0 (w.alloc (.cells #[.int .i64 x, .int .i64 s, .int .i64 v, .slice a (flen k) c] 124)).heap.size (some ⟨w.heap.size, 0, none⟩) [(x, s, v, k)] := by
  refine .inr ⟨w.heap.size, 0, rfl, Nat.zero_le _, by simp, fun i y hy => ?_⟩
  cases i with
  | succ i => simp at hy
  | zero =>
    simp only [List.getElem?_cons_zero, Option.some.injEq] at hy
    subst hy
    refine ⟨a, c, ?_, ?_, ?_, ?_, hl.next (box_low _ _)⟩
    · rw [World.cell?_alloc_at _ _ _ _ (by simp)]; rfl
    · rw [World.cell?_alloc_at _ _ _ _ (by simp)]; rfl
    · rw [World.cell?_alloc_at _ _ _ _ (by simp)]; rfl
    · rw [World.cell?_alloc_at _ _ _ _ (by simp)]; rfl
theorem unB_ok {lim : Nat} {bs : List Bd} {v : Int} {t : T3} (hw : Wb lim bs) (ht : okT t) : ∀ x ∈ thL bs [(v, t)], okT x.2 := fun x hx => by
  have hs := sv_mem (thL_asc hw.asc (asc_one v t)) hx
  rw [thL_sv hw.asc (asc_one v t)] at hs
  have hone : ∀ x u, sv [(v, t)] x = some u → okT u := fun x u hu => by
    rw [sv_one] at hu
    split at hu
    · obtain rfl := Option.some.inj hu; exact ht
    · cases hu
  cases hb : sv bs x.1 with
  | some u => rw [thS_some hb] at hs; rw [← Option.some.inj hs]; exact ap_ok hone (hw.ok _ _ hb)
  | none => rw [thS_none hb] at hs; exact hone _ _ hs

end Go.Proofs.Ytoafleckcjanaaa

/-! BG: l2Big at any term. -/
namespace Go.Proofs.Ytoafleckcjanaaa
open Go.RowKit Go.Deep

set_option maxRecDepth 100000 in
set_option maxHeartbeats 400000 in
theorem l2BigG_any (s v : Int) (a : Option Addr) (c : Nat) (k : Fo) (w : World) (hl : Sl w 0 w.heap.size a k) :
    Calls Try.prog 46 #[.agg #[.int .i64 s, .int .i64 v, .slice a (flen k) c]] w fun e w' => e = .returned (.bool (!okW s v k 64)) ∧ Below w.heap.size w w' := by
  have hb : Below w.heap.size w (w.alloc (.cells #[.int .i64 s, .int .i64 v, .slice a (flen k) c] 35)) := box_low _ _
  have HB := Lib.hid hb
  have HC := Lib.hid (l1Count_any 64 s v a c k 64 (w.alloc (.cells #[.int .i64 s, .int .i64 v, .slice a (flen k) c] 35)) (hl.next hb) (by omega) (by omega) (by omega))
  have HE : Hid (decide (cntT s v k 64 > 64) = !okW s v k 64) := by
    have h1 := cntT_okW s v k 64
    rw [Hid, ← h1]
    by_cases h : cntT s v k 64 ≤ 64
    · rw [decide_eq_true h, decide_eq_false (by omega)]; rfl
    · rw [decide_eq_false h, decide_eq_true (by omega)]; rfl
  have hc0 : (w.alloc (.cells #[.int .i64 s, .int .i64 v, .slice a (flen k) c] 35)).cell? ⟨w.heap.size, 0, none⟩ = some (.int .i64 s) := by rw [World.cell?_alloc_at _ _ _ _ (by simp)]; rfl
  have hc1 : (w.alloc (.cells #[.int .i64 s, .int .i64 v, .slice a (flen k) c] 35)).cell? ⟨w.heap.size, 1, none⟩ = some (.int .i64 v) := by rw [World.cell?_alloc_at _ _ _ _ (by simp)]; rfl
  have hc2 : (w.alloc (.cells #[.int .i64 s, .int .i64 v, .slice a (flen k) c] 35)).cell? ⟨w.heap.size, 2, none⟩ = some (.slice a (flen k) c) := by rw [World.cell?_alloc_at _ _ _ _ (by simp)]; rfl
  clear hl hb
  go_enter Try.func46, Try.ntmps46
  go_wp2_with fail
  with_reducible refine HC.out.mono ?_
  rintro e w1 ⟨rfl, hb1⟩
  have HB1 := Lib.hid (below_next HB.out hb1)
  have he := HE.out
  clear hb1 HC hc0 hc1 hc2
  generalize cntT s v k 64 = n at *
  go_wp2_with fail
  go_ret
  exact ⟨rfl, HB1.out⟩
end Go.Proofs.Ytoafleckcjanaaa

/-! SP5: l11Subst. -/
namespace Go.Proofs.Ytoafleckcjanaaa
open Go.RowKit Go.Deep

set_option maxRecDepth 100000 in
set_option maxHeartbeats 2000000 in
theorem l11Subst_any (bs : List Bd) (A : Option Addr) (C : Nat) (w : World) (hb : BSl w 0 w.heap.size A bs) (hl : bs.length ≤ 9223372036854775807) :
    Calls Try.prog 48 #[.slice A bs.length C] w fun e w' => e = .returned (.bool (sok 64 bs)) ∧ Below w.heap.size w w' := by
  have HB := Lib.hid hb
  clear hb
  by_cases hbig : 12 < bs.length
  · have HF : Hid (sok 64 bs = false) := by
      cases h : sok 64 bs with
      | false => exact rfl
      | true => have := sok_len bs (-1) (by omega) h; omega
    go_enter Try.func48, Try.ntmps48
    go_wp2_with fail
    go_ret
    exact ⟨by rw [HF.out]; rfl, Below.refl _ _⟩
  go_enter Try.func48, Try.ntmps48
  go_wp2_with fail
  go_loopw [3] (fun i wr => ∃ (j : Nat) (last : Int), i = .int .i64 j ∧ j ≤ bs.length ∧ Hid (j = 0 → last = -1) ∧ Hid (∀ n, j = n + 1 → ∃ y, bs[n]? = some y ∧ y.1 = last ∧ 0 ≤ last) ∧ Hid (sok 64 bs = sokFrom 64 last (bs.drop j)) ∧ Hid (Below w.heap.size w wr)) (fun i _ => bs.length - (intOf i).toNat)
  case atStart => exact ⟨0, -1, rfl, Nat.zero_le _, fun _ => rfl, fun n hn => by omega, rfl, Below.refl _ _⟩
  case round =>
    obtain ⟨j, last, rfl, hj, HJ0, HJ1, HS, HLW⟩ := hrel
    have hws := HLW.out.size
    by_cases hlt : j < bs.length
    · obtain ⟨x, hx⟩ : ∃ x, bs[j]? = some x := ⟨bs[j], List.getElem?_eq_getElem hlt⟩
      obtain ⟨xv, s, v, k⟩ := x
      have hbr := HB.out.below HLW.out
      rcases hbr with hbr | ⟨b, o, rfl, _, hbB, hcells⟩
      · subst hbr; simp at hx
      obtain ⟨a', c', c0, c1, c2, c3, hsl⟩ := hcells j _ hx
      dsimp only at c0 c1 c2 c3 hsl
      have HD := Lib.hid (drop_bd2 hx)
      have HX := Lib.hid hx
      have g1 : (0 : Int) ≤ (j : Int) := by omega
      have g2 : (j : Int) < (bs.length : Int) := by omega
      have hu0 : ∀ u : After wr.heap.size wr, u.world.cell? ⟨b, o + j * 4, none⟩ = some (.int .i64 xv) := fun u => u.cell (by simp; omega) c0
      have hu1 : ∀ u : After wr.heap.size wr, u.world.cell? ⟨b, o + j * 4 + 1, none⟩ = some (.int .i64 s) := fun u => u.cell (by simp; omega) c1
      have hu2 : ∀ u : After wr.heap.size wr, u.world.cell? ⟨b, o + j * 4 + 1 + 1, none⟩ = some (.int .i64 v) := fun u => u.cell (by simp; omega) c2
      have hu3 : ∀ u : After wr.heap.size wr, u.world.cell? ⟨b, o + j * 4 + 1 + 2, none⟩ = some (.slice a' (flen k) c') := fun u => u.cell (by simp; omega) c3
      have HCALL : Hid (∀ u : After wr.heap.size wr, Calls Try.prog 46 #[.agg #[.int .i64 s, .int .i64 v, .slice a' (flen k) c']] u.world fun e w' => e = .returned (.bool (!okW s v k 64)) ∧ Below u.world.heap.size u.world w') := fun u => by
        have hu := u.below
        exact l2BigG_any s v a' c' k u.world ((hsl.below (hu.mono hws)).mono (Nat.le_refl _) (Nat.le_trans hws hu.size))
      by_cases hin : 0 ≤ xv ∧ xv ≤ 11
      · have hid : decide (0 ≤ xv ∧ xv ≤ (11 : Int)) = true := by simpa using hin
        cases hok : okW s v k 64 with
        | false =>
          rw [hok, Bool.not_false] at HCALL
          have HF : Hid (sok 64 bs = false) := by rw [Hid, HS.out, HD.out]; simp only [sokFrom, hok, Bool.false_and]
          clear hok hcells hx c0 c1 c2 c3 hsl HJ0 HJ1 HD HX hin
          go_wp2_with fail
          refine wp_region_after wr.heap.size (by kernel_rfl) (by kernel_rfl) ?_
          repeat (go_big_quiet_step ((first | (go_at_call 47; exact Calls.after_same (l6In_is hid)) | (go_at_call 46; exact Calls.after (After.below ‹_›).size (HCALL.out _)))))
          refine wpQuiet_nil ?_
          rintro w3 ⟨⟨_, hu⟩, rfl⟩
          have HL3 := Lib.hid (HLW.out.trans (hu.mono hws))
          clear hu0 hu1 hu2 hu3 hu
          go_wp2_with fail
          go_ret
          exact ⟨by rw [HF.out]; rfl, HL3.out⟩
        | true =>
          rw [hok, Bool.not_true] at HCALL
          by_cases hj0 : j = 0
          · subst hj0
            obtain rfl := HJ0.out rfl
            have k0 : ∀ u : After wr.heap.size wr, u.world.cell? ⟨b, o, none⟩ = some (.int .i64 xv) := fun u => hu0 u
            have k1 : ∀ u : After wr.heap.size wr, u.world.cell? ⟨b, o + 1, none⟩ = some (.int .i64 s) := fun u => hu1 u
            have k2 : ∀ u : After wr.heap.size wr, u.world.cell? ⟨b, o + 2, none⟩ = some (.int .i64 v) := fun u => hu2 u
            have k3 : ∀ u : After wr.heap.size wr, u.world.cell? ⟨b, o + 3, none⟩ = some (.slice a' (flen k) c') := fun u => hu3 u
            have k4 : ∀ u : After wr.heap.size wr, u.world.cell? ⟨b, o + 1 + 1, none⟩ = some (.int .i64 v) := fun u => hu2 u
            have k5 : ∀ u : After wr.heap.size wr, u.world.cell? ⟨b, o + 1 + 2, none⟩ = some (.slice a' (flen k) c') := fun u => hu3 u
            have hl0 : 0 < bs.length := hlt
            have HT : Hid (sok 64 bs = sokFrom 64 xv (bs.drop (0 + 1))) := by
              rw [Hid, HS.out, HD.out]
              simp only [sokFrom, hok]
              rw [decide_eq_true (show (-1 : Int) < xv by omega), decide_eq_true (show xv < 12 by omega)]; simp
            clear hok hcells hx c0 c1 c2 c3 hsl HJ0 HJ1 HD hu0 hu1 hu2 hu3
            go_wp2_with fail
            refine wp_region_after wr.heap.size (by kernel_rfl) (by kernel_rfl) ?_
            repeat (go_big_quiet_step ((first | (go_at_call 47; exact Calls.after_same (l6In_is hid)) | (go_at_call 46; exact Calls.after (After.below ‹_›).size (HCALL.out _)))))
            refine wpQuiet_nil ?_
            rintro w3 ⟨⟨_, hu⟩, rfl⟩
            have HL3 := Lib.hid (HLW.out.trans (hu.mono hws))
            clear k0 k1 k2 k3 k4 k5 hu
            go_wp2_with fail
            go_roundw
            case rel => exact ⟨0 + 1, xv, by go_num, by omega, fun h => by omega, fun n hn => ⟨(xv, s, v, k), (by rw [show n = 0 from by omega]; exact HX.out), rfl, hin.1⟩, HT, HL3⟩
            case measure => simp [intOf]; omega
          · obtain ⟨n, rfl⟩ : ∃ n, j = n + 1 := ⟨j - 1, by omega⟩
            obtain ⟨⟨yv, ys, yt, yk⟩, hy, rfl, hl0⟩ := HJ1.out n rfl
            obtain ⟨_, _, p0, _, _, _, _⟩ := hcells n _ hy
            dsimp only at p0 hl0
            have hu4 : ∀ u : After wr.heap.size wr, u.world.cell? ⟨b, o + n * 4, none⟩ = some (.int .i64 yv) := fun u => u.cell (by simp; omega) p0
            have g3 : (0 : Int) ≤ (n : Int) := by omega
            have g4 : (n : Int) < (bs.length : Int) := by omega
            have gi : ((n + 1 : Nat) : Int) - 1 = (n : Int) := by omega
            by_cases hge : xv ≤ yv
            · have HF : Hid (sok 64 bs = false) := by
                rw [Hid, HS.out, HD.out]; simp only [sokFrom]; rw [decide_eq_false (show ¬ yv < xv by omega)]; simp
              clear hok hcells hx c0 c1 c2 c3 hsl HJ0 HJ1 HD p0 hy
              go_wp2_with fail
              refine wp_region_after wr.heap.size (by kernel_rfl) (by kernel_rfl) ?_
              repeat (go_big_quiet_step ((first | (go_at_call 47; exact Calls.after_same (l6In_is hid)) | (go_at_call 46; exact Calls.after (After.below ‹_›).size (HCALL.out _)))))
              refine wpQuiet_nil ?_
              rintro w3 ⟨⟨_, hu⟩, rfl⟩
              have HL3 := Lib.hid (HLW.out.trans (hu.mono hws))
              clear hu0 hu1 hu2 hu3 hu4 hu
              go_wp2_with fail
              go_ret
              exact ⟨by rw [HF.out]; rfl, HL3.out⟩
            · have HT : Hid (sok 64 bs = sokFrom 64 xv (bs.drop (n + 1 + 1))) := by
                rw [Hid, HS.out, HD.out]
                simp only [sokFrom, hok]
                rw [decide_eq_true (show yv < xv by omega), decide_eq_true (show xv < 12 by omega)]; simp
              clear hok hcells hx c0 c1 c2 c3 hsl HJ0 HJ1 HD p0 hy
              go_wp2_with fail
              refine wp_region_after wr.heap.size (by kernel_rfl) (by kernel_rfl) ?_
              repeat (go_big_quiet_step ((first | (go_at_call 47; exact Calls.after_same (l6In_is hid)) | (go_at_call 46; exact Calls.after (After.below ‹_›).size (HCALL.out _)))))
              refine wpQuiet_nil ?_
              rintro w3 ⟨⟨_, hu⟩, rfl⟩
              have HL3 := Lib.hid (HLW.out.trans (hu.mono hws))
              clear hu0 hu1 hu2 hu3 hu4 hu
              go_wp2_with fail
              go_roundw
              case rel => exact ⟨n + 1 + 1, xv, by go_num, by omega, fun h => by omega, fun m hm => ⟨(xv, s, v, k), (by rw [show m = n + 1 from by omega]; exact HX.out), rfl, hin.1⟩, HT, HL3⟩
              case measure => simp [intOf]; omega
      · have hid : decide (0 ≤ xv ∧ xv ≤ (11 : Int)) = false := by simpa using hin
        have HF : Hid (sok 64 bs = false) := by
          rw [Hid, HS.out, HD.out]
          simp only [sokFrom]
          by_cases hx0 : 0 ≤ xv
          · rw [decide_eq_false (show ¬ xv < 12 by omega)]; simp
          · have : ¬ last < xv := by
              rcases j with _ | n
              · have := HJ0.out rfl; omega
              · obtain ⟨_, _, _, h0⟩ := HJ1.out n rfl; omega
            rw [decide_eq_false this]; simp
        clear hcells hx c0 c1 c2 c3 hsl HJ0 HJ1 HD HX hin
        go_wp2_with fail
        refine wp_region_after wr.heap.size (by kernel_rfl) (by kernel_rfl) ?_
        repeat (go_big_quiet_step ((first | (go_at_call 47; exact Calls.after_same (l6In_is hid)) | (go_at_call 46; exact Calls.after (After.below ‹_›).size (HCALL.out _)))))
        refine wpQuiet_nil ?_
        rintro w3 ⟨⟨_, hu⟩, rfl⟩
        have HL3 := Lib.hid (HLW.out.trans (hu.mono hws))
        clear hu0 hu1 hu2 hu3 hu
        go_wp2_with fail
        go_ret
        exact ⟨by rw [HF.out]; rfl, HL3.out⟩
    · have HE : Hid (sok 64 bs = true) := by rw [Hid, HS.out, List.drop_eq_nil_of_le (by omega)]; rfl
      go_wp2_with fail
      go_ret
      exact ⟨by rw [HE.out]; rfl, HLW.out⟩
end Go.Proofs.Ytoafleckcjanaaa

/-! SD0: l11Sides. -/
namespace Go.Proofs.Ytoafleckcjanaaa
open Go.RowKit Go.Deep

def v3 (t : Tm3) (a : Option Addr) (c : Nat) : Value := .agg #[.int .i64 t.1, .int .i64 t.2.1, .slice a (flen t.2.2) c]
/-- In the midst of it: the equation's box; the two results' boxes. -/
structure SdS (w : World) (s v : Int) (A : Value) (s' v' : Int) (A' : Value) (u : World) : Prop where
  low : Below w.heap.size w u
  e0 : u.cell? ⟨w.heap.size, 0, none⟩ = some (.int .i64 s)
  e1 : u.cell? ⟨w.heap.size, 1, none⟩ = some (.int .i64 v)
  e2 : u.cell? ⟨w.heap.size, 2, none⟩ = some A
  e3 : u.cell? ⟨w.heap.size, 3, none⟩ = some (.int .i64 s')
  e4 : u.cell? ⟨w.heap.size, 4, none⟩ = some (.int .i64 v')
  e5 : u.cell? ⟨w.heap.size, 5, none⟩ = some A'
  q : ∀ j i, j ≤ 1 → i < 3 → (∃ x, u.cell? ⟨w.heap.size + 1 + j, i, none⟩ = some x) ∧ u.frozen? ⟨w.heap.size + 1 + j, i, none⟩ = false
theorem SdS.start {w : World} {s v : Int} {A : Value} {s' v' : Int} {A' : Value} {T T' : TypeId} : SdS w s v A s' v' A' ((((w.alloc (.cells #[.int .i64 s, .int .i64 v, A, .int .i64 s', .int .i64 v', A'] T)).alloc (.cells #[.int .i64 0, .int .i64 0, .slice none 0 0] T')).alloc (.cells #[.int .i64 0, .int .i64 0, .slice none 0 0] T')).drew) := by
  have c : ∀ i, i < 6 → ((((w.alloc (.cells #[.int .i64 s, .int .i64 v, A, .int .i64 s', .int .i64 v', A'] T)).alloc (.cells #[.int .i64 0, .int .i64 0, .slice none 0 0] T')).alloc (.cells #[.int .i64 0, .int .i64 0, .slice none 0 0] T')).drew).cell? ⟨w.heap.size, i, none⟩ = #[Value.int .i64 s, .int .i64 v, A, .int .i64 s', .int .i64 v', A'][i]? := fun i hi => by
    show ((((w.alloc (.cells #[.int .i64 s, .int .i64 v, A, .int .i64 s', .int .i64 v', A'] T)).alloc (.cells #[.int .i64 0, .int .i64 0, .slice none 0 0] T')).alloc (.cells #[.int .i64 0, .int .i64 0, .slice none 0 0] T'))).cell? ⟨w.heap.size, i, none⟩ = _
    rw [World.cell?_alloc_lt _ _ _ (by simp; omega), World.cell?_alloc_lt _ _ _ (by simp), World.cell?_alloc_at _ _ _ _ (by simp)]
  refine ⟨((((Below.refl _ _).alloc (Nat.le_refl _) _).alloc (by simp) _).alloc (by simp; omega) _).drew, c 0 (by omega), c 1 (by omega), c 2 (by omega), c 3 (by omega), c 4 (by omega), c 5 (by omega), fun j i hj hi => ?_⟩
  have h2 : j = 0 ∨ j = 1 := by omega
  have h3 : i = 0 ∨ i = 1 ∨ i = 2 := by omega
  constructor
  · show ∃ x, ((((w.alloc (.cells #[.int .i64 s, .int .i64 v, A, .int .i64 s', .int .i64 v', A'] T)).alloc (.cells #[.int .i64 0, .int .i64 0, .slice none 0 0] T')).alloc (.cells #[.int .i64 0, .int .i64 0, .slice none 0 0] T'))).cell? ⟨w.heap.size + 1 + j, i, none⟩ = some x
    rcases h2 with rfl | rfl
    · rw [World.cell?_alloc_lt _ _ _ (by simp), World.cell?_alloc_at _ _ _ _ (by simp)]
      rcases h3 with rfl | rfl | rfl <;> exact ⟨_, rfl⟩
    · rw [World.cell?_alloc_at _ _ _ _ (by simp)]
      rcases h3 with rfl | rfl | rfl <;> exact ⟨_, rfl⟩
  · show ((((w.alloc (.cells #[.int .i64 s, .int .i64 v, A, .int .i64 s', .int .i64 v', A'] T)).alloc (.cells #[.int .i64 0, .int .i64 0, .slice none 0 0] T')).alloc (.cells #[.int .i64 0, .int .i64 0, .slice none 0 0] T'))).frozen? ⟨w.heap.size + 1 + j, i, none⟩ = false
    rcases h2 with rfl | rfl
    · rw [World.frozen?_alloc_past _ _ _ (by simp), World.frozen?_alloc_at _ _ _ _ (by simp)]
    · rw [World.frozen?_alloc_at _ _ _ _ (by simp)]
/-- A result's box is filled. -/
theorem SdS.fill {w : World} {s v : Int} {A : Value} {s' v' : Int} {A' : Value} {u : World} (h : SdS w s v A s' v' A' u) {j : Nat} (hj : j ≤ 1) (x y z : Value) : SdS w s v A s' v' A' (s3 u (w.heap.size + 1 + j) x y z) ∧ (s3 u (w.heap.size + 1 + j) x y z).cell? ⟨w.heap.size + 1 + j, 0, none⟩ = some x ∧ (s3 u (w.heap.size + 1 + j) x y z).cell? ⟨w.heap.size + 1 + j, 1, none⟩ = some y ∧ (s3 u (w.heap.size + 1 + j) x y z).cell? ⟨w.heap.size + 1 + j, 2, none⟩ = some z := by
  obtain ⟨⟨p0, h0⟩, _⟩ := h.q j 0 hj (by omega)
  obtain ⟨⟨p1, h1⟩, _⟩ := h.q j 1 hj (by omega)
  obtain ⟨⟨p2, h2⟩, _⟩ := h.q j 2 hj (by omega)
  have hc := s3_in (x := x) (y := y) (z := z) h0 h1 h2
  have hf : ∀ {b i : Nat}, b ≠ w.heap.size + 1 + j → (s3 u (w.heap.size + 1 + j) x y z).cell? ⟨b, i, none⟩ = u.cell? ⟨b, i, none⟩ := fun hb => (s3_far (q := ⟨_, _, none⟩) hb).1
  refine ⟨⟨?_, by rw [hf (by omega)]; exact h.e0, by rw [hf (by omega)]; exact h.e1, by rw [hf (by omega)]; exact h.e2, by rw [hf (by omega)]; exact h.e3, by rw [hf (by omega)]; exact h.e4, by rw [hf (by omega)]; exact h.e5, fun j' i hj' hi => ?_⟩, hc⟩
  · unfold s3
    exact ((h.low.setCell (by simp; omega) _).setCell (by simp; omega) _).setCell (by simp; omega) _
  · refine ⟨?_, by rw [s3_fr]; exact (h.q j' i hj' hi).2⟩
    by_cases e : j' = j
    · subst e
      have h3 : i = 0 ∨ i = 1 ∨ i = 2 := by omega
      rcases h3 with rfl | rfl | rfl
      · exact ⟨_, hc.1⟩
      · exact ⟨_, hc.2.1⟩
      · exact ⟨_, hc.2.2⟩
    · rw [hf (by omega)]
      exact (h.q j' i hj' hi).1
set_option maxRecDepth 100000 in
set_option maxHeartbeats 2000000 in
theorem l11Sides_any (s v s' v' : Int) (a1 a2 : Option Addr) (n1 c1 n2 c2 : Nat) (back : Bool) (w : World) :
    Calls Try.prog 49 #[.agg #[.int .i64 s, .int .i64 v, .slice a1 n1 c1, .int .i64 s', .int .i64 v', .slice a2 n2 c2], .bool back] w fun e w' =>
      e = .returned (.tuple (if back = true then #[.agg #[.int .i64 s', .int .i64 v', .slice a2 n2 c2], .agg #[.int .i64 s, .int .i64 v, .slice a1 n1 c1]] else #[.agg #[.int .i64 s, .int .i64 v, .slice a1 n1 c1], .agg #[.int .i64 s', .int .i64 v', .slice a2 n2 c2]])) ∧ Below w.heap.size w w' := by
  go_enter Try.func49, Try.ntmps49
  cases back with
  | true =>
    go_wp2_with fail
    refine wp_region_typed (fun i x _ => x = ([.pointer (some ⟨w.heap.size, 3, none⟩), .agg #[.int .i64 s', .int .i64 v', .slice a2 n2 c2], .pointer (some ⟨w.heap.size, 0, none⟩), .agg #[.int .i64 s, .int .i64 v, .slice a1 n1 c1], undef, undef] : List Value).getD i undef) (fun listed _ u => SdS w s v (.slice a1 n1 c1) s' v' (.slice a2 n2 c2) u ∧ (listed.getD 4 false = true → u.cell? ⟨w.heap.size + 1, 0, none⟩ = some (.int .i64 s') ∧ u.cell? ⟨w.heap.size + 1, 1, none⟩ = some (.int .i64 v') ∧ u.cell? ⟨w.heap.size + 1, 2, none⟩ = some (.slice a2 n2 c2)) ∧ (listed.getD 5 false = true → u.cell? ⟨w.heap.size + 1 + 1, 0, none⟩ = some (.int .i64 s) ∧ u.cell? ⟨w.heap.size + 1 + 1, 1, none⟩ = some (.int .i64 v) ∧ u.cell? ⟨w.heap.size + 1 + 1, 2, none⟩ = some (.slice a1 n1 c1))) (fun _ _ => True) (by kernel_rfl) (by kernel_rfl) (fun i x u u' h _ => h) ⟨SdS.start, fun h => by simp at h, fun h => by simp at h⟩ ?_ ?_
    · intro i o hi listed a u hst hun hdep
      have hin : i < 6 := (Array.getElem?_eq_some_iff.1 hi).1
      obtain ⟨hS, h4, h5⟩ := hst.s
      obtain ⟨hlow, e0, e1, e2, e3, e4, e5, hq⟩ := hS
      have hS : SdS w s v (.slice a1 n1 c1) s' v' (.slice a2 n2 c2) u := ⟨hlow, e0, e1, e2, e3, e4, e5, hq⟩
      have h16 : i = 0 ∨ i = 1 ∨ i = 2 ∨ i = 3 ∨ i = 4 ∨ i = 5 := by omega
      rcases h16 with rfl | rfl | rfl | rfl | rfl | rfl
      · obtain rfl := Option.some.inj hi
        have ht : (a.tmps[2]?).getD undef = .pointer (some ⟨w.heap.size, 0, none⟩) := hst.old 2 (by kernel_rfl)
        refine wpOp_of rfl rfl (fun K hK => ?_)
        go_simp
        refine hK _ _ ⟨_, rfl, ⟨hS, fun h => h4 (set_was (i := 0) (by decide) h), fun h => h5 (set_was (i := 0) (by decide) h)⟩, trivial, fun d hd => rfl⟩
      · obtain rfl := Option.some.inj hi
        have ht : (a.tmps[7]?).getD undef = .pointer (some ⟨w.heap.size, 3, none⟩) := hst.at hdep 0 7 (by kernel_rfl) (by kernel_rfl)
        refine wpOp_of rfl rfl (fun K hK => ?_)
        go_simp
        refine hK _ _ ⟨_, rfl, ⟨hS, fun h => h4 (set_was (i := 1) (by decide) h), fun h => h5 (set_was (i := 1) (by decide) h)⟩, trivial, fun d hd => rfl⟩
      · obtain rfl := Option.some.inj hi
        have ht : (a.tmps[2]?).getD undef = .pointer (some ⟨w.heap.size, 0, none⟩) := hst.old 2 (by kernel_rfl)
        refine wpOp_of rfl rfl (fun K hK => ?_)
        go_simp
        refine hK _ _ ⟨_, rfl, ⟨hS, fun h => h4 (set_was (i := 2) (by decide) h), fun h => h5 (set_was (i := 2) (by decide) h)⟩, trivial, fun d hd => rfl⟩
      · obtain rfl := Option.some.inj hi
        have ht : (a.tmps[9]?).getD undef = .pointer (some ⟨w.heap.size, 0, none⟩) := hst.at hdep 2 9 (by kernel_rfl) (by kernel_rfl)
        refine wpOp_of rfl rfl (fun K hK => ?_)
        go_simp
        refine hK _ _ ⟨_, rfl, ⟨hS, fun h => h4 (set_was (i := 3) (by decide) h), fun h => h5 (set_was (i := 3) (by decide) h)⟩, trivial, fun d hd => rfl⟩
      · obtain rfl := Option.some.inj hi
        have hv : (a.tmps[8]?).getD undef = .agg #[.int .i64 s', .int .i64 v', .slice a2 n2 c2] := hst.at hdep 1 8 (by kernel_rfl) (by kernel_rfl)
        have ht : (a.tmps[4]?).getD undef = .pointer (some ⟨w.heap.size + 1, 0, none⟩) := hst.old 4 (by kernel_rfl)
        obtain ⟨⟨p0, e0_⟩, f0⟩ := hq 0 0 (by omega) (by omega)
        obtain ⟨⟨p1, e1_⟩, f1⟩ := hq 0 1 (by omega) (by omega)
        obtain ⟨⟨p2, e2_⟩, f2⟩ := hq 0 2 (by omega) (by omega)
        obtain ⟨hF, d0, d1, d2⟩ := hS.fill (j := 0) (by omega) (.int .i64 s') (.int .i64 v') (.slice a2 n2 c2)
        refine wpOp_of rfl rfl (fun K hK => ?_)
        simp only [Nat.add_zero] at e0_ e1_ e2_ f0 f1 f2
        go_simp
        refine hK _ _ ⟨undef, rfl, ⟨hF, fun _ => ⟨d0, d1, d2⟩, fun h => by
        obtain ⟨r0, r1, r2⟩ := h5 (set_was (i := 4) (by decide) h)
        refine ⟨?_, ?_, ?_⟩
        · exact (s3_far (q := ⟨_, _, none⟩) (by simp)).1.trans r0
        · exact (s3_far (q := ⟨_, _, none⟩) (by simp)).1.trans r1
        · exact (s3_far (q := ⟨_, _, none⟩) (by simp)).1.trans r2⟩, trivial, fun d hd => by cases hd⟩
      · obtain rfl := Option.some.inj hi
        have hv : (a.tmps[10]?).getD undef = .agg #[.int .i64 s, .int .i64 v, .slice a1 n1 c1] := hst.at hdep 3 10 (by kernel_rfl) (by kernel_rfl)
        have ht : (a.tmps[5]?).getD undef = .pointer (some ⟨w.heap.size + 1 + 1, 0, none⟩) := hst.old 5 (by kernel_rfl)
        obtain ⟨⟨p0, e0_⟩, f0⟩ := hq 1 0 (by omega) (by omega)
        obtain ⟨⟨p1, e1_⟩, f1⟩ := hq 1 1 (by omega) (by omega)
        obtain ⟨⟨p2, e2_⟩, f2⟩ := hq 1 2 (by omega) (by omega)
        obtain ⟨hF, d0, d1, d2⟩ := hS.fill (j := 1) (by omega) (.int .i64 s) (.int .i64 v) (.slice a1 n1 c1)
        refine wpOp_of rfl rfl (fun K hK => ?_)
        go_simp
        refine hK _ _ ⟨undef, rfl, ⟨hF, fun h => by
        obtain ⟨r0, r1, r2⟩ := h4 (set_was (i := 5) (by decide) h)
        refine ⟨?_, ?_, ?_⟩
        · exact (s3_far (q := ⟨_, _, none⟩) (by simp)).1.trans r0
        · exact (s3_far (q := ⟨_, _, none⟩) (by simp)).1.trans r1
        · exact (s3_far (q := ⟨_, _, none⟩) (by simp)).1.trans r2, fun _ => ⟨d0, d1, d2⟩⟩, trivial, fun d hd => by cases hd⟩
    · intro listed a u hst hall
      obtain ⟨hS, h4, h5⟩ := hst.s
      obtain ⟨k0, k1, k2⟩ := h4 (hall 4 (by decide))
      obtain ⟨d0, d1, d2⟩ := h5 (hall 5 (by decide))
      have ht : (a.tmps[4]?).getD undef = .pointer (some ⟨w.heap.size + 1, 0, none⟩) := hst.old 4 (by kernel_rfl)
      have ht2 : (a.tmps[5]?).getD undef = .pointer (some ⟨w.heap.size + 1 + 1, 0, none⟩) := hst.old 5 (by kernel_rfl)
      have hdf : a.defers = [] := hst.defers
      clear hst
      obtain ⟨tm, df⟩ := a
      dsimp only at hdf ht ht2
      subst hdf
      go_wp2_with fail
      refine bodyPost_ret (v := .tuple #[.agg #[.int .i64 s', .int .i64 v', .slice a2 n2 c2], .agg #[.int .i64 s, .int .i64 v, .slice a1 n1 c1]]) ?_ rfl ⟨rfl, hS.low⟩
      simp [results, Try.results49, go_sem, ht, ht2, k0, k1, k2, d0, d1, d2]
  | false =>
    go_wp2_with fail
    refine wp_region_typed (fun i x _ => x = ([.pointer (some ⟨w.heap.size, 0, none⟩), .agg #[.int .i64 s, .int .i64 v, .slice a1 n1 c1], .pointer (some ⟨w.heap.size, 3, none⟩), .agg #[.int .i64 s', .int .i64 v', .slice a2 n2 c2], undef, undef] : List Value).getD i undef) (fun listed _ u => SdS w s v (.slice a1 n1 c1) s' v' (.slice a2 n2 c2) u ∧ (listed.getD 4 false = true → u.cell? ⟨w.heap.size + 1, 0, none⟩ = some (.int .i64 s) ∧ u.cell? ⟨w.heap.size + 1, 1, none⟩ = some (.int .i64 v) ∧ u.cell? ⟨w.heap.size + 1, 2, none⟩ = some (.slice a1 n1 c1)) ∧ (listed.getD 5 false = true → u.cell? ⟨w.heap.size + 1 + 1, 0, none⟩ = some (.int .i64 s') ∧ u.cell? ⟨w.heap.size + 1 + 1, 1, none⟩ = some (.int .i64 v') ∧ u.cell? ⟨w.heap.size + 1 + 1, 2, none⟩ = some (.slice a2 n2 c2))) (fun _ _ => True) (by kernel_rfl) (by kernel_rfl) (fun i x u u' h _ => h) ⟨SdS.start, fun h => by simp at h, fun h => by simp at h⟩ ?_ ?_
    · intro i o hi listed a u hst hun hdep
      have hin : i < 6 := (Array.getElem?_eq_some_iff.1 hi).1
      obtain ⟨hS, h4, h5⟩ := hst.s
      obtain ⟨hlow, e0, e1, e2, e3, e4, e5, hq⟩ := hS
      have hS : SdS w s v (.slice a1 n1 c1) s' v' (.slice a2 n2 c2) u := ⟨hlow, e0, e1, e2, e3, e4, e5, hq⟩
      have h16 : i = 0 ∨ i = 1 ∨ i = 2 ∨ i = 3 ∨ i = 4 ∨ i = 5 := by omega
      rcases h16 with rfl | rfl | rfl | rfl | rfl | rfl
      · obtain rfl := Option.some.inj hi
        have ht : (a.tmps[2]?).getD undef = .pointer (some ⟨w.heap.size, 0, none⟩) := hst.old 2 (by kernel_rfl)
        refine wpOp_of rfl rfl (fun K hK => ?_)
        go_simp
        refine hK _ _ ⟨_, rfl, ⟨hS, fun h => h4 (set_was (i := 0) (by decide) h), fun h => h5 (set_was (i := 0) (by decide) h)⟩, trivial, fun d hd => rfl⟩
      · obtain rfl := Option.some.inj hi
        have ht : (a.tmps[11]?).getD undef = .pointer (some ⟨w.heap.size, 0, none⟩) := hst.at hdep 0 11 (by kernel_rfl) (by kernel_rfl)
        refine wpOp_of rfl rfl (fun K hK => ?_)
        go_simp
        refine hK _ _ ⟨_, rfl, ⟨hS, fun h => h4 (set_was (i := 1) (by decide) h), fun h => h5 (set_was (i := 1) (by decide) h)⟩, trivial, fun d hd => rfl⟩
      · obtain rfl := Option.some.inj hi
        have ht : (a.tmps[2]?).getD undef = .pointer (some ⟨w.heap.size, 0, none⟩) := hst.old 2 (by kernel_rfl)
        refine wpOp_of rfl rfl (fun K hK => ?_)
        go_simp
        refine hK _ _ ⟨_, rfl, ⟨hS, fun h => h4 (set_was (i := 2) (by decide) h), fun h => h5 (set_was (i := 2) (by decide) h)⟩, trivial, fun d hd => rfl⟩
      · obtain rfl := Option.some.inj hi
        have ht : (a.tmps[13]?).getD undef = .pointer (some ⟨w.heap.size, 3, none⟩) := hst.at hdep 2 13 (by kernel_rfl) (by kernel_rfl)
        refine wpOp_of rfl rfl (fun K hK => ?_)
        go_simp
        refine hK _ _ ⟨_, rfl, ⟨hS, fun h => h4 (set_was (i := 3) (by decide) h), fun h => h5 (set_was (i := 3) (by decide) h)⟩, trivial, fun d hd => rfl⟩
      · obtain rfl := Option.some.inj hi
        have hv : (a.tmps[12]?).getD undef = .agg #[.int .i64 s, .int .i64 v, .slice a1 n1 c1] := hst.at hdep 1 12 (by kernel_rfl) (by kernel_rfl)
        have ht : (a.tmps[4]?).getD undef = .pointer (some ⟨w.heap.size + 1, 0, none⟩) := hst.old 4 (by kernel_rfl)
        obtain ⟨⟨p0, e0_⟩, f0⟩ := hq 0 0 (by omega) (by omega)
        obtain ⟨⟨p1, e1_⟩, f1⟩ := hq 0 1 (by omega) (by omega)
        obtain ⟨⟨p2, e2_⟩, f2⟩ := hq 0 2 (by omega) (by omega)
        obtain ⟨hF, d0, d1, d2⟩ := hS.fill (j := 0) (by omega) (.int .i64 s) (.int .i64 v) (.slice a1 n1 c1)
        refine wpOp_of rfl rfl (fun K hK => ?_)
        simp only [Nat.add_zero] at e0_ e1_ e2_ f0 f1 f2
        go_simp
        refine hK _ _ ⟨undef, rfl, ⟨hF, fun _ => ⟨d0, d1, d2⟩, fun h => by
        obtain ⟨r0, r1, r2⟩ := h5 (set_was (i := 4) (by decide) h)
        refine ⟨?_, ?_, ?_⟩
        · exact (s3_far (q := ⟨_, _, none⟩) (by simp)).1.trans r0
        · exact (s3_far (q := ⟨_, _, none⟩) (by simp)).1.trans r1
        · exact (s3_far (q := ⟨_, _, none⟩) (by simp)).1.trans r2⟩, trivial, fun d hd => by cases hd⟩
      · obtain rfl := Option.some.inj hi
        have hv : (a.tmps[14]?).getD undef = .agg #[.int .i64 s', .int .i64 v', .slice a2 n2 c2] := hst.at hdep 3 14 (by kernel_rfl) (by kernel_rfl)
        have ht : (a.tmps[5]?).getD undef = .pointer (some ⟨w.heap.size + 1 + 1, 0, none⟩) := hst.old 5 (by kernel_rfl)
        obtain ⟨⟨p0, e0_⟩, f0⟩ := hq 1 0 (by omega) (by omega)
        obtain ⟨⟨p1, e1_⟩, f1⟩ := hq 1 1 (by omega) (by omega)
        obtain ⟨⟨p2, e2_⟩, f2⟩ := hq 1 2 (by omega) (by omega)
        obtain ⟨hF, d0, d1, d2⟩ := hS.fill (j := 1) (by omega) (.int .i64 s') (.int .i64 v') (.slice a2 n2 c2)
        refine wpOp_of rfl rfl (fun K hK => ?_)
        go_simp
        refine hK _ _ ⟨undef, rfl, ⟨hF, fun h => by
        obtain ⟨r0, r1, r2⟩ := h4 (set_was (i := 5) (by decide) h)
        refine ⟨?_, ?_, ?_⟩
        · exact (s3_far (q := ⟨_, _, none⟩) (by simp)).1.trans r0
        · exact (s3_far (q := ⟨_, _, none⟩) (by simp)).1.trans r1
        · exact (s3_far (q := ⟨_, _, none⟩) (by simp)).1.trans r2, fun _ => ⟨d0, d1, d2⟩⟩, trivial, fun d hd => by cases hd⟩
    · intro listed a u hst hall
      obtain ⟨hS, h4, h5⟩ := hst.s
      obtain ⟨k0, k1, k2⟩ := h4 (hall 4 (by decide))
      obtain ⟨d0, d1, d2⟩ := h5 (hall 5 (by decide))
      have ht : (a.tmps[4]?).getD undef = .pointer (some ⟨w.heap.size + 1, 0, none⟩) := hst.old 4 (by kernel_rfl)
      have ht2 : (a.tmps[5]?).getD undef = .pointer (some ⟨w.heap.size + 1 + 1, 0, none⟩) := hst.old 5 (by kernel_rfl)
      have hdf : a.defers = [] := hst.defers
      clear hst
      obtain ⟨tm, df⟩ := a
      dsimp only at hdf ht ht2
      subst hdf
      go_wp2_with fail
      refine bodyPost_ret (v := .tuple #[.agg #[.int .i64 s, .int .i64 v, .slice a1 n1 c1], .agg #[.int .i64 s', .int .i64 v', .slice a2 n2 c2]]) ?_ rfl ⟨rfl, hS.low⟩
      simp [results, Try.results49, go_sem, ht, ht2, k0, k1, k2, d0, d1, d2]
end Go.Proofs.Ytoafleckcjanaaa
