/- Several texts in one: UI, V2, SB, Mix2. -/
import Derived.Test.YtpfkhgiiojikbaaKUnify5
import Derived.Test.YtpfkhgiiojikbaaKThen13
import Derived.Test.YtpfkhgiiojikbaaKThen2
import Derived.Test.YtpfkhgiiojikbaaKThen7
import Derived.Test.YtpfkhgiiojikbaaKThen15
import Derived.Test.YtpfkhgiiojikbaaKThen3

/-! UI: UnifyOf of the program. -/
namespace Go.Proofs.Ytpfkhgiiojikbaa
open Go.RowKit Go.Deep Go.Maps

def UoPost (lim : Nat) (a b : T3) (w : World) (e : Ending) (w' : World) : Prop :=
  Below w.heap.size w w' ∧ ((∃ g bs, uniR lim a b = some bs ∧ e = .returned (.tuple #[.map (some g), .bool true]) ∧ MapIs w' g bs ∧ w.heap.size ≤ g) ∨ (uniR lim a b = none ∧ e = .returned (.tuple #[.map none, .bool false])))
set_option maxRecDepth 100000 in
set_option maxHeartbeats 2000000 in
theorem unifierOf_any (lim : Nat) (hlim : lim ≤ 64) (s v : Int) (k : Fo) (nv : Value) (s' v' : Int) (k' : Fo) (nv' : Value) (w : World) (hn : NodeIs w 0 w.heap.size nv s v k) (hn' : NodeIs w 0 w.heap.size nv' s' v' k') (h1 : okT (s, v, k)) (h2 : okT (s', v', k')) (hz : sz (s, v, k) ≤ 16) (hz' : sz (s', v', k') ≤ 16) :
    Calls Try.prog 63 #[nv, nv', .int .i64 (lim : Int)] w (UoPost lim (s, v, k) (s', v', k') w) := by
  have hbm : Below w.heap.size w (w.alloc (.map #[] 0)) := (Below.refl _ _).alloc (Nat.le_refl _) _
  have HN1 : Hid (NodeIs (w.alloc (.map #[] 0)) 0 (w.alloc (.map #[] 0)).heap.size nv s v k) := (hn.below hbm).mono (Nat.le_refl _) hbm.size
  have HN2 : Hid (NodeIs (w.alloc (.map #[] 0)) 0 (w.alloc (.map #[] 0)).heap.size nv' s' v' k') := (hn'.below hbm).mono (Nat.le_refl _) hbm.size
  have hmm := @run_makeMap Try.prog
  have HC := Lib.hid (unify_any (base := w.heap.size) (b := w.heap.size) (Nat.le_refl _) hlim 600 (Nat.le_refl _) (MapIs.start w) (Wb.nil lim) (by simp) HN1.out HN2.out h1 h2 (Un.start hlim h1 hz) (Un.start hlim h2 hz'))
  have HWB : Hid (∀ bs, unT lim 600 [] (s, v, k) (s', v', k') = some bs → Wb lim bs) := fun bs h => (unT_wb _ _ _ _ _ (Wb.nil lim) h1 h2 h).1
  have HO := Lib.hid h1.1
  have HO2 := Lib.hid h1.2
  have HOT := Lib.hid (show okN s v (flen k) = true ∧ fok k = true from h1)
  dsimp only at HO HO2
  simp only [sz] at hz hz'
  have HUR : Hid (∀ bs, unT lim 600 [] (s, v, k) (s', v', k') = some bs → sz (ap (sv bs) (s, v, k)) ≤ lim → uniR lim (s, v, k) (s', v', k') = some bs) := fun bs h1 h2 => uniR_some.2 ⟨h1, h2⟩
  have HUN : Hid ((∀ bs, unT lim 600 [] (s, v, k) (s', v', k') = some bs → ¬ sz (ap (sv bs) (s, v, k)) ≤ lim) → uniR lim (s, v, k) (s', v', k') = none) := uniR_none.2
  have HBM := Lib.hid hbm
  clear hn hn' hbm h1 h2
  go_enter Try.func63, Try.ntmps63
  go_wp2_with fail
  with_reducible refine HC.out.mono ?_
  rintro e w1 ⟨hk1, hcase⟩
  have HK1 := Lib.hid hk1
  have HW1 : Hid (Below w.heap.size w w1) := HBM.out.trans hk1.low
  have hs1 := hk1.low.size
  simp at hs1
  clear hk1 HC
  rcases hcase with ⟨bs, hu, rfl, hm⟩ | ⟨hu, rfl⟩
  · have HU := Lib.hid hu
    have HM := Lib.hid hm
    have hwb := HWB.out bs hu
    have HN1b : Hid (NodeIs w1 0 w1.heap.size nv s v k) := (HN1.out.keep HK1.out.cell).mono (Nat.le_refl _) (by simp; omega)
    have HCA := Lib.hid (apply_any bs w.heap.size s v k nv w1 HN1b.out HM.out HO.out HO2.out (by omega))
    have HRS := Lib.hid (HUR.out bs hu)
    have HRN : Hid (¬ sz (ap (sv bs) (s, v, k)) ≤ lim → uniR lim (s, v, k) (s', v', k') = none) := fun h => HUN.out fun b2 hb2 => by rw [hu] at hb2; obtain rfl := Option.some.inj hb2; exact h
    have hzz := ap_szB (fun x u hu => Nat.le_trans (hwb.small x u hu) hlim) (a := (s, v, k)) HOT.out
    have hEA : tsub (sv bs) s v k = ap (sv bs) (s, v, k) := rfl
    have HEA := Lib.hid hEA
    clear hEA hu hm HUR HUN HWB hwb HN1 HN2
    generalize ap (sv bs) (s, v, k) = q at *
    go_wp2_with fail
    with_reducible refine HCA.out.mono ?_
    rw [HEA.out]
    rintro e w2 ⟨n2, rfl, hb2, hn2⟩
    have HN2 := Lib.hid hn2
    have HW2 := Lib.hid (HW1.out.trans (hb2.mono (by omega)))
    have HM2 := Lib.hid (HM.out.below hb2)
    have hqz : fsz q.2.2 ≤ 100000 := by simp only [sz] at hzz; omega
    clear hb2 hn2 HCA HM HN1b
    by_cases hbig : sz q ≤ lim
    · have eb : decide ((lim : Int) < 1 + ((fsz q.2.2 : Nat) : Int)) = false := decide_eq_false (by simp only [sz] at hbig; omega)
      have HR := Lib.hid (HRS.out hbig)
      clear hbig HRS HRN hzz
      go_wp2_with (refine wpList_size _ rfl _ rfl n2 q.1 q.2.1 q.2.2 rfl HN2.out hqz ?_; intro w3 hb3; have HB3 := Lib.hid hb3; clear hb3)
      refine bodyPost_ret (v := .tuple #[.map (some w.heap.size), .bool true]) ?_ rfl ⟨HW2.out.trans (HB3.out.mono HW2.out.size), .inl ⟨_, bs, HR.out, rfl, HM2.out.below HB3.out, Nat.le_refl _⟩⟩
      simp [results, Try.results63, go_sem]
    · have eb : decide ((lim : Int) < 1 + ((fsz q.2.2 : Nat) : Int)) = true := decide_eq_true (by simp only [sz] at hbig; omega)
      have HR := Lib.hid (HRN.out hbig)
      clear hbig HRS HRN hzz
      go_wp2_with (refine wpList_size _ rfl _ rfl n2 q.1 q.2.1 q.2.2 rfl HN2.out hqz ?_; intro w3 hb3; have HB3 := Lib.hid hb3; clear hb3)
      refine bodyPost_ret (v := .tuple #[.map none, .bool false]) ?_ rfl ⟨HW2.out.trans (HB3.out.mono HW2.out.size), .inr ⟨HR.out, rfl⟩⟩
      simp [results, Try.results63, go_sem]
  · have HR := Lib.hid (HUN.out fun bs h => by rw [hu] at h; cases h)
    clear hu
    go_wp2_with fail
    refine bodyPost_ret (v := .tuple #[.map none, .bool false]) ?_ rfl ⟨HW1.out, .inr ⟨HR.out, rfl⟩⟩
    simp [results, Try.results63, go_sem]

def UfPost (s v : Int) (k : Fo) (s' v' : Int) (k' : Fo) (w : World) (e : Ending) (w' : World) : Prop :=
  ∃ A C bs t, unR s v k s' v' k' = (bs, t) ∧ e = .returned (.tuple #[.slice A (List.length bs) C, .bool t]) ∧ Below w.heap.size w w' ∧ BSl w' 0 w'.heap.size A bs
theorem uf_none {s v : Int} {k : Fo} {s' v' : Int} {k' : Fo} {w w' : World} {A : Option Addr} {C : Nat} (h : unR s v k s' v' k' = ([], false)) (hb : Below w.heap.size w w') : UfPost s v k s' v' k' w (.returned (.tuple #[.slice A 0 C, .bool false])) w' :=
  ⟨A, C, [], false, h, rfl, hb, .inl rfl⟩
theorem Wb.fits {bs : List Bd} (h : Wb 16 bs) : fits 16 bs = true := by
  unfold Proofs.Ytpfkhgiiojikbaa.fits
  rw [List.all_eq_true]
  intro x hx
  have := h.small _ _ (sv_mem h.asc hx)
  simp only [sz] at this
  simp only [decide_eq_true_eq]
  omega

set_option maxRecDepth 100000 in
set_option maxHeartbeats 2000000 in
theorem iUnifyOf_any (s v : Int) (a : Option Addr) (c : Nat) (k : Fo) (s' v' : Int) (a' : Option Addr) (c' : Nat) (k' : Fo) (w : World) (hl : Sl w 0 w.heap.size a k) (hl' : Sl w 0 w.heap.size a' k') :
    Calls Try.prog 28 #[.agg #[.int .i64 s, .int .i64 v, .slice a (flen k) c], .agg #[.int .i64 s', .int .i64 v', .slice a' (flen k') c']] w (UfPost s v k s' v' k' w) := by
  have hb0 : Below w.heap.size w ((w.alloc (.cells #[.int .i64 s, .int .i64 v, .slice a (flen k) c] 28)).alloc (.cells #[.int .i64 s', .int .i64 v', .slice a' (flen k') c'] 28)) := ((Below.refl _ _).alloc (Nat.le_refl _) _).alloc (by simp) _
  have HL0 := Lib.hid (hl.next hb0)
  have HL0' := Lib.hid (hl'.next hb0)
  have HW0 := Lib.hid hb0
  have HB0 : Hid (Below (w.heap.size + 2) ((w.alloc (.cells #[.int .i64 s, .int .i64 v, .slice a (flen k) c] 28)).alloc (.cells #[.int .i64 s', .int .i64 v', .slice a' (flen k') c'] 28)) ((w.alloc (.cells #[.int .i64 s, .int .i64 v, .slice a (flen k) c] 28)).alloc (.cells #[.int .i64 s', .int .i64 v', .slice a' (flen k') c'] 28))) := Below.refl _ _
  have hsz : w.heap.size + 2 ≤ ((w.alloc (.cells #[.int .i64 s, .int .i64 v, .slice a (flen k) c] 28)).alloc (.cells #[.int .i64 s', .int .i64 v', .slice a' (flen k') c'] 28)).heap.size := by simp
  clear hb0 hl hl'
  go_enter Try.func28, Try.ntmps28
  go_wp2_with fail
  with_reducible refine (nodeOf_any s v a c k 16 _ HL0.out (by omega) (by omega)).mono ?_
  rintro e w1 ⟨nv, rfl, hb1, hyes1⟩
  have hb1' := HB0.out.trans (hb1.mono hsz)
  obtain ⟨_, _, _, hr3, hr4, hr5⟩ := two_boxesM hb1'
  have HW1 := Lib.hid (below_next HW0.out hb1)
  have HL1' := Lib.hid (HL0'.out.next hb1)
  have HY1 := Lib.hid hyes1
  clear hb1 hb1' hyes1 HB0 hsz HL0 HL0' HW0
  go_wp2_with fail
  with_reducible refine (nodeOf_any s' v' a' c' k' 16 _ HL1'.out (by omega) (by omega)).mono ?_
  rintro e w2 ⟨nv', rfl, hb2, hyes2⟩
  have HW2 := Lib.hid (below_next HW1.out hb2)
  have HB2 := Lib.hid hb2
  have HY2 := Lib.hid hyes2
  clear hb2 hyes2 hr3 hr4 hr5
  by_cases hok : okW s v k 16 = true
  case neg =>
    have hf : okW s v k 16 = false := by simpa using hok
    have HP : Hid (UfPost s v k s' v' k' w (.returned (.tuple #[.slice none 0 0, .bool false])) w2) := uf_none (unR_bad fun h => hok h.1) HW2.out
    rw [hf]
    clear hok hf
    generalize okW s' v' k' 16 = okk
    cases okk with
    | true =>
      go_wp2_with fail
      refine bodyPost_ret (v := .tuple #[.slice none 0 0, .bool false]) ?_ rfl HP.out
      simp [results, Try.results28, go_sem]
    | false =>
      go_wp2_with fail
      refine bodyPost_ret (v := .tuple #[.slice none 0 0, .bool false]) ?_ rfl HP.out
      simp [results, Try.results28, go_sem]
  by_cases hok' : okW s' v' k' 16 = true
  case neg =>
    have hf : okW s' v' k' 16 = false := by simpa using hok'
    have HP : Hid (UfPost s v k s' v' k' w (.returned (.tuple #[.slice none 0 0, .bool false])) w2) := uf_none (unR_bad fun h => hok' h.2) HW2.out
    rw [hf, hok]
    clear hok hf hok'
    go_wp2_with fail
    refine bodyPost_ret (v := .tuple #[.slice none 0 0, .bool false]) ?_ rfl HP.out
    simp [results, Try.results28, go_sem]
  have HN1 : Hid (NodeIs w2 0 w2.heap.size nv s v k) := by
    have h1 := (HY1.out hok).mono (lo' := 0) (Nat.zero_le _) (Nat.le_refl _)
    exact (h1.below HB2.out).mono (lo' := 0) (Nat.le_refl _) HB2.out.size
  have HN2 : Hid (NodeIs w2 0 w2.heap.size nv' s' v' k') := (HY2.out hok').mono (lo' := 0) (Nat.zero_le _) (Nat.le_refl _)
  have HOK := Lib.hid hok
  have HOK' := Lib.hid hok'
  have HCM : Hid (Calls Try.prog 63 #[nv, nv', .int .i64 16] w2 (UoPost 16 (s, v, k) (s', v', k') w2)) := unifierOf_any 16 (by omega) s v k nv s' v' k' nv' w2 HN1.out HN2.out (okT_w hok) (okT_w hok') (sz_w hok) (sz_w hok')
  rw [hok, hok']
  clear hok hok' HY1 HY2
  go_wp2_with fail
  with_reducible refine HCM.out.mono ?_
  rintro e w3 ⟨hb3, hcase⟩
  have HW3 := Lib.hid (below_next HW2.out hb3)
  clear hb3 HN1 HN2 HCM
  rcases hcase with ⟨g, bs, hu, rfl, hm3, _⟩ | ⟨hu, rfl⟩
  · have HR := Lib.hid (unR_some HOK.out HOK'.out hu)
    have hwb := uniR_wb (okT_w HOK.out) (okT_w HOK'.out) hu
    have HFIT := Lib.hid hwb.fits
    have HC := Lib.hid (binds_any bs g 16 w3 hm3 hwb.asc (fun x hx => by
      obtain ⟨t, ht⟩ := Option.isSome_iff_exists.1 hx
      exact hwb.rng x t ht) (fun x t ht => by have := hwb.bof x t ht; exact ⟨this.1, this.2.1, by omega⟩))
    clear hu hm3 hwb
    go_wp2_with fail
    with_reducible refine HC.out.mono ?_
    rintro e w4 ⟨hb4, hc4⟩
    rcases hc4 with ⟨_, A, C, rfl, ho⟩ | ⟨hno, _⟩
    · have HP : Hid (UfPost s v k s' v' k' w (.returned (.tuple #[.slice A bs.length C, .bool true])) w4) := ⟨A, C, bs, true, HR.out, rfl, below_next HW3.out hb4, ho.bsl.mono (Nat.zero_le _) (Nat.le_refl _)⟩
      clear hb4 ho
      go_wp2_with fail
      refine bodyPost_ret (v := .tuple #[.slice A bs.length C, .bool true]) ?_ rfl HP.out
      simp [results, Try.results28, go_sem]
    · rw [HFIT.out] at hno; cases hno
  · have HP : Hid (UfPost s v k s' v' k' w (.returned (.tuple #[.slice none 0 0, .bool false])) w3) := uf_none (unR_none hu) HW3.out
    clear hu
    go_wp2_with fail
    refine bodyPost_ret (v := .tuple #[.slice none 0 0, .bool false]) ?_ rfl HP.out
    simp [results, Try.results28, go_sem]
end Go.Proofs.Ytpfkhgiiojikbaa

/-! V2: l1Has: whether a variable is in a term. -/
namespace Go.Proofs.Ytpfkhgiiojikbaa
open Go.RowKit Go.Deep

theorem one_box {w wr : World} {x y z : Value} (h : Below (w.heap.size + 1) (w.alloc (.cells #[x, y, z] 28)) wr) : wr.cell? ⟨w.heap.size, 2, none⟩ = some z := by
  rw [h.cell (by simp), World.cell?_alloc_at _ _ _ _ (by simp)]; rfl

theorem fvl_drop {x : Int} {j : Nat} {k : Fo} {a b : Nat} {s v : Int} {kk r : Fo} (h : fdrop j k = .node a b (s, v) kk r) : x ∈ fvl (fdrop j k) ↔ x ∈ fvs s v kk ∨ x ∈ fvl r := by
  rw [h]
  simp only [fvl, fvs, List.mem_append]

set_option maxRecDepth 100000 in
set_option maxHeartbeats 1000000 in
theorem l1Has_any (N : Nat) : ∀ (s v : Int) (a : Option Addr) (c : Nat) (k : Fo) (x : Int) (w : World), Sl w 0 w.heap.size a k → fsz k ≤ N → N ≤ 1000000 →
    Calls Try.prog 71 #[.agg #[.int .i64 s, .int .i64 v, .slice a (flen k) c], .int .i64 x] w fun e w' => e = .returned (.bool (decide (x ∈ fvs s v k))) ∧ Below w.heap.size w w' := by
  induction N using Nat.strongRecOn with
  | _ N ih =>
    intro s v a c k x w hl hN hN2
    have hfl := flen_le_sz k
    have IH := Lib.hid ih
    clear ih
    by_cases hs : s = 0
    · subst hs
      have HE : Hid ((v == x) = decide (x ∈ fvs 0 v k)) := by
        unfold Hid
        by_cases h : v = x
        · subst h; simp [fvs]
        · have : x ≠ v := fun e => h e.symm
          simp [fvs, h, this]
      go_enter Try.func71, Try.ntmps71
      go_wp2_with fail
      go_ret
      exact ⟨by rw [← HE.out]; rfl, (Below.refl _ _).alloc (Nat.le_refl _) _⟩
    · have gs : (s == 0) = false := by simpa using hs
      have hb0 : Below w.heap.size w (w.alloc (.cells #[.int .i64 s, .int .i64 v, .slice a (flen k) c] 28)) := (Below.refl _ _).alloc (Nat.le_refl _) _
      have HB0 := Lib.hid hb0
      have HV : Hid (fvs s v k = fvl k) := by unfold Hid fvs; rw [if_neg hs]
      clear hb0
      go_enter Try.func71, Try.ntmps71
      go_wp2_with fail
      go_loopw [5] (fun i wr => ∃ j : Nat, j ≤ flen k ∧ i = .int .i64 j ∧ Hid (x ∈ fvl k ↔ x ∈ fvl (fdrop j k)) ∧ Below (w.heap.size + 1) (w.alloc (.cells #[.int .i64 s, .int .i64 v, .slice a (flen k) c] 28)) wr) (fun i _ => flen k - (intOf i).toNat)
      case atStart => exact ⟨0, by omega, rfl, Iff.rfl, Below.refl _ _⟩
      case round =>
        obtain ⟨j, hj, rfl, hq, hbl⟩ := hrel
        have hsr := hbl.size
        simp at hsr
        have hx2 := one_box hbl
        have hbw := HB0.out.trans (hbl.mono (show w.heap.size ≤ w.heap.size + 1 by omega))
        by_cases hlt : j < flen k
        · rcases hl with rfl | ⟨b, o, rfl, hrow⟩
          · simp [flen] at hlt
          obtain ⟨s1, v1, kk, a1, c1, ⟨x1, y1, hd⟩, _, hbB, hk0, hk1, hk2, hsl⟩ := row_at (hrow.below hbw) hlt
          have hkN := fsz_kid hd
          have HQ : Hid (x ∈ fvl k ↔ x ∈ fvs s1 v1 kk ∨ x ∈ fvl (fdrop (j + 1) k)) := hq.out.trans (fvl_drop hd)
          have HS := Lib.hid hsl
          have HBL := Lib.hid hbl
          clear hd hsl hrow hbl hbw hq
          have g1 : (0 : Int) ≤ (j : Int) := by omega
          have g2 : (j : Int) < (flen k : Int) := by omega
          have HS1 := Lib.hid (HS.out.mono (lo' := 0) (Nat.le_refl _) (show w.heap.size ≤ wr.heap.size by omega))
          cases hin : decide (x ∈ fvs s1 v1 kk) with
          | true =>
            have HE : Hid (decide (x ∈ fvs s v k) = true) := by
              unfold Hid
              rw [HV.out]
              exact decide_eq_true (HQ.out.2 (.inl (of_decide_eq_true hin)))
            have HIN := Lib.hid hin
            clear hin
            go_wp2_with fail
            with_reducible refine (IH.out (fsz kk) (by omega) s1 v1 a1 c1 kk x _ HS1.out (Nat.le_refl _) (by omega)).mono ?_
            rw [HIN.out]
            rintro e u ⟨rfl, hu⟩
            clear hk0 hk1 hk2 hx2
            have HB2 := Lib.hid (HBL.out.trans (hu.mono hsr))
            clear hu
            go_wp2_with fail
            go_ret
            exact ⟨by rw [HE.out]; rfl, HB0.out.trans (HB2.out.mono (by omega))⟩
          | false =>
            have HE : Hid (x ∈ fvl k ↔ x ∈ fvl (fdrop (j + 1) k)) := by
              have := of_decide_eq_false hin
              unfold Hid
              rw [HQ.out]
              simp [this]
            have HIN := Lib.hid hin
            clear hin
            go_wp2_with fail
            with_reducible refine (IH.out (fsz kk) (by omega) s1 v1 a1 c1 kk x _ HS1.out (Nat.le_refl _) (by omega)).mono ?_
            rw [HIN.out]
            rintro e u ⟨rfl, hu⟩
            clear hk0 hk1 hk2 hx2
            have HB2 := Lib.hid (HBL.out.trans (hu.mono hsr))
            clear hu
            go_wp2_with fail
            go_roundw
            case rel => exact ⟨j + 1, by omega, by go_num, HE, HB2.out⟩
            case measure => simp [intOf]; omega
        · have HE : Hid (decide (x ∈ fvs s v k) = false) := by
            unfold Hid
            rw [HV.out]
            refine decide_eq_false fun h => ?_
            have := hq.out.1 h
            rw [fdrop_all (by omega)] at this
            simp [fvl] at this
          have HBW := Lib.hid hbw
          clear hbw hbl hq
          go_wp2_with fail
          go_ret
          exact ⟨by rw [HE.out]; rfl, HBW.out⟩
end Go.Proofs.Ytpfkhgiiojikbaa

/-! SB: The specification's l2Big and l2Bind. -/
namespace Go.Proofs.Ytpfkhgiiojikbaa
open Go.RowKit Go.Deep

set_option maxRecDepth 100000 in
set_option maxHeartbeats 400000 in
theorem l2Big_any (s v : Int) (a : Option Addr) (c : Nat) (k : Fo) (w : World) (hl : Sl w 0 w.heap.size a k) (ho : okT (s, v, k)) (r : Bool) (hr : decide (64 < sz (s, v, k)) = r) :
    Calls Try.prog 100 #[.agg #[.int .i64 s, .int .i64 v, .slice a (flen k) c]] w fun e w' => e = .returned (.bool r) ∧ Below w.heap.size w w' := by
  have hb : Below w.heap.size w (w.alloc (.cells #[.int .i64 s, .int .i64 v, .slice a (flen k) c] 28)) := box_low _ _
  have HB := Lib.hid hb
  have HC := Lib.hid (l1Count_any 64 s v a c k 64 (w.alloc (.cells #[.int .i64 s, .int .i64 v, .slice a (flen k) c] 28)) (hl.next hb) (by omega) (by omega) (by omega))
  have HE : Hid (decide (cntT s v k 64 > 64) = r) := by
    have h1 := cntT_okW s v k 64
    have h2 : okW s v k 64 = decide (sz (s, v, k) ≤ 64) := by
      rw [Bool.eq_iff_iff, okW_iff, decide_eq_true_eq]
      constructor
      · intro h; simp only [sz]; omega
      · intro h; exact ⟨ho.1, ho.2, by simp only [sz] at h; omega⟩
    rw [Hid, ← hr, Bool.eq_iff_iff]
    rw [h2, Bool.eq_iff_iff] at h1
    simp only [decide_eq_true_eq] at h1 ⊢
    omega
  have hc0 : (w.alloc (.cells #[.int .i64 s, .int .i64 v, .slice a (flen k) c] 28)).cell? ⟨w.heap.size, 0, none⟩ = some (.int .i64 s) := by rw [World.cell?_alloc_at _ _ _ _ (by simp)]; rfl
  have hc1 : (w.alloc (.cells #[.int .i64 s, .int .i64 v, .slice a (flen k) c] 28)).cell? ⟨w.heap.size, 1, none⟩ = some (.int .i64 v) := by rw [World.cell?_alloc_at _ _ _ _ (by simp)]; rfl
  have hc2 : (w.alloc (.cells #[.int .i64 s, .int .i64 v, .slice a (flen k) c] 28)).cell? ⟨w.heap.size, 2, none⟩ = some (.slice a (flen k) c) := by rw [World.cell?_alloc_at _ _ _ _ (by simp)]; rfl
  clear hl hb ho hr
  go_enter Try.func100, Try.ntmps100
  go_wp2_with fail
  with_reducible refine HC.out.mono ?_
  rintro e w1 ⟨rfl, hb1⟩
  have HB1 := Lib.hid (below_next HB.out hb1)
  have he := HE.out
  clear hb1 HC hc0 hc1 hc2
  generalize cntT s v k 64 = n at *
  go_wp2_with fail
  go_ret
  exact ⟨rfl, HB1.out⟩

def LbPost (r : Option (List Bd)) (w : World) (e : Ending) (w' : World) : Prop :=
  ∃ A C l cd, e = .returned (.tuple #[.slice A (List.length l) C, .int .i64 cd]) ∧ Below w.heap.size w w' ∧ BSl w' 0 w'.heap.size A l ∧ ((cd = 0 ∧ r = some l) ∨ (0 < cd ∧ r = none))
theorem bsl_one {w : World} {x s v : Int} {a : Option Addr} {c : Nat} {k : Fo} (hl : Sl w 0 w.heap.size a k) : BSl (w.alloc (.cells #[.int .i64 x, .int .i64 s, .int .i64 v, .slice a (flen k) c] 75)) 0 (w.alloc (.cells #[.int .i64 x, .int .i64 s, .int .i64 v, .slice a (flen k) c] 75)).heap.size (some ⟨w.heap.size, 0, none⟩) [(x, s, v, k)] := by
  refine .inr ⟨w.heap.size, 0, rfl, Nat.zero_le _, by simp, fun i y hy => ?_⟩
  cases i with
  | succ i => simp at hy
  | zero =>
    simp only [List.getElem?_cons_zero, Option.some.injEq] at hy
    subst hy
    refine ⟨a, c, ?_, ?_, ?_, ?_, hl.next (box_low _ _)⟩
    · rw [World.cell?_alloc_at _ _ _ _ (by simp)]; rfl
    · rw [World.cell?_alloc_at _ _ _ _ (by simp)]; rfl
    · rw [World.cell?_alloc_at _ _ _ _ (by simp)]; rfl
    · rw [World.cell?_alloc_at _ _ _ _ (by simp)]; rfl
theorem unB_ok {lim : Nat} {bs : List Bd} {v : Int} {t : T3} (hw : Wb lim bs) (ht : okT t) : ∀ x ∈ thL bs [(v, t)], okT x.2 := fun x hx => by
  have hs := sv_mem (thL_asc hw.asc (asc_one v t)) hx
  rw [thL_sv hw.asc (asc_one v t)] at hs
  have hone : ∀ x u, sv [(v, t)] x = some u → okT u := fun x u hu => by
    rw [sv_one] at hu
    split at hu
    · obtain rfl := Option.some.inj hu; exact ht
    · cases hu
  cases hb : sv bs x.1 with
  | some u => rw [thS_some hb] at hs; rw [← Option.some.inj hs]; exact ap_ok hone (hw.ok _ _ hb)
  | none => rw [thS_none hb] at hs; exact hone _ _ hs

set_option maxRecDepth 100000 in
set_option maxHeartbeats 2000000 in
theorem l2Bind_any (bs : List Bd) (A : Option Addr) (C : Nat) (x s v : Int) (a : Option Addr) (c : Nat) (k : Fo) (w : World) (hb : BSl w 0 w.heap.size A bs) (hw : Wb 64 bs) (hl : Sl w 0 w.heap.size a k) (ht : okT (s, v, k)) (hz : sz (s, v, k) ≤ 1000) :
    Calls Try.prog 88 #[.slice A bs.length C, .int .i64 x, .agg #[.int .i64 s, .int .i64 v, .slice a (flen k) c]] w (LbPost (unB 64 bs x (s, v, k)) w) := by
  have hbx : Below w.heap.size w (w.alloc (.cells #[.int .i64 s, .int .i64 v, .slice a (flen k) c] 28)) := box_low _ _
  have HB := Lib.hid (hb.next hbx)
  have HL := Lib.hid (hl.next hbx)
  have HBX := Lib.hid hbx
  have HT : Hid (Tb w.heap.size s v a c k (w.alloc (.cells #[.int .i64 s, .int .i64 v, .slice a (flen k) c] 28))) := Tb.new hl
  have HW := Lib.hid hw
  have HOT : Hid (okT (s, v, k)) := ht
  have hlen := hw.len
  have hkz : fsz k ≤ 1000 := by simp only [sz] at hz; omega
  have HTH := Lib.hid (unB_ok (v := x) hw ht)
  have HTL : Hid ((thL bs [(x, s, v, k)]).length ≤ 20) := by have := thL_len bs [(x, s, v, k)]; simp only [List.length_cons, List.length_nil] at this; show _ ≤ _; omega
  have HBO : Hid (∀ y ∈ bs, okN y.2.1 y.2.2.1 (flen y.2.2.2) = true ∧ fok y.2.2.2 = true ∧ fsz y.2.2.2 ≤ 1000) := fun y hy => by
    have hs := sv_mem hw.asc hy
    have h1 := hw.ok _ _ hs
    have h2 := hw.small _ _ hs
    simp only [sz] at h2
    exact ⟨h1.1, h1.2, by omega⟩
  have HOC : Hid (x ∈ vr (s, v, k) → unB 64 bs x (s, v, k) = none) := unB_occ
  have HBG : Hid (64 < sz (s, v, k) → unB 64 bs x (s, v, k) = none) := unB_big
  have HFT : Hid (x ∉ vr (s, v, k) → ¬ 64 < sz (s, v, k) → (∀ y ∈ thL bs [(x, s, v, k)], ¬ 64 < sz y.2) → unB 64 bs x (s, v, k) = some (thL bs [(x, s, v, k)])) := fun h1 h2 h3 => by
    unfold unB
    rw [if_neg (fun hc => hc.elim h1 h2), if_pos fun y hy => Nat.le_of_not_lt (h3 y hy)]
  have HOV : Hid (∀ y ∈ thL bs [(x, s, v, k)], 64 < sz y.2 → unB 64 bs x (s, v, k) = none) := fun y hy hz => by
    unfold unB
    split
    · rfl
    · rw [if_neg fun hall => by have := hall y hy; omega]
  clear hb hw hl hbx ht
  generalize unB 64 bs x (s, v, k) = R at *
  go_enter Try.func88, Try.ntmps88
  obtain ⟨q0, q1, q2⟩ : (w.alloc (.cells #[.int .i64 s, .int .i64 v, .slice a (flen k) c] 28)).cell? ⟨w.heap.size, 0, none⟩ = some (.int .i64 s) ∧ (w.alloc (.cells #[.int .i64 s, .int .i64 v, .slice a (flen k) c] 28)).cell? ⟨w.heap.size, 1, none⟩ = some (.int .i64 v) ∧ (w.alloc (.cells #[.int .i64 s, .int .i64 v, .slice a (flen k) c] 28)).cell? ⟨w.heap.size, 2, none⟩ = some (.slice a (flen k) c) := ⟨HT.out.c0, HT.out.c1, HT.out.c2⟩
  go_wp2_with fail
  generalize hg : decide (64 < sz (s, v, k)) = rb
  with_reducible refine (l2Big_any s v a c k _ HL.out HOT.out rb hg).mono ?_
  rintro e w1 ⟨rfl, hb1⟩
  have HB1 := Lib.hid (HB.out.next hb1)
  have HT1 := Lib.hid (HT.out.next hb1)
  have HBW1 := Lib.hid (below_next HBX.out hb1)
  clear hb1 q0 q1 q2 HB HL HT HBX
  cases rb with
  | true =>
    have HR := Lib.hid (HBG.out (of_decide_eq_true hg))
    clear hg HBG HOC HFT HOV
    go_wp2_with fail
    refine bodyPost_ret (v := .tuple #[.slice A bs.length C, .int .i64 2]) ?_ rfl ⟨A, C, bs, 2, rfl, HBW1.out, HB1.out, .inr ⟨by omega, HR.out⟩⟩
    simp [results, Try.results88, go_sem]
  | false =>
    have HNB := Lib.hid (of_decide_eq_false hg)
    clear hg HBG
    obtain ⟨q0, q1, q2⟩ : w1.cell? ⟨w.heap.size, 0, none⟩ = some (.int .i64 s) ∧ w1.cell? ⟨w.heap.size, 1, none⟩ = some (.int .i64 v) ∧ w1.cell? ⟨w.heap.size, 2, none⟩ = some (.slice a (flen k) c) := ⟨HT1.out.c0, HT1.out.c1, HT1.out.c2⟩
    go_wp2_with fail
    with_reducible refine (l1Has_any (fsz k) s v a c k x _ HT1.out.sl (Nat.le_refl _) (by omega)).mono ?_
    rintro e w2 ⟨rfl, hb2⟩
    have HB2 := Lib.hid (HB1.out.next hb2)
    have HT2 := Lib.hid (HT1.out.next hb2)
    have HBW2 := Lib.hid (below_next HBW1.out hb2)
    clear hb2 q0 q1 q2 HB1 HT1 HBW1
    by_cases hocc : x ∈ fvs s v k
    · have ho : decide (x ∈ fvs s v k) = true := decide_eq_true hocc
      have HR := Lib.hid (HOC.out hocc)
      rw [ho]
      clear hocc ho HOC HFT HOV
      go_wp2_with fail
      refine bodyPost_ret (v := .tuple #[.slice A bs.length C, .int .i64 1]) ?_ rfl ⟨A, C, bs, 1, rfl, HBW2.out, HB2.out, .inr ⟨by omega, HR.out⟩⟩
      simp [results, Try.results88, go_sem]
    have ho : decide (x ∈ fvs s v k) = false := decide_eq_false hocc
    have HNO : Hid (x ∉ vr (s, v, k)) := hocc
    rw [ho]
    clear hocc ho HOC
    obtain ⟨q0, q1, q2⟩ : w2.cell? ⟨w.heap.size, 0, none⟩ = some (.int .i64 s) ∧ w2.cell? ⟨w.heap.size, 1, none⟩ = some (.int .i64 v) ∧ w2.cell? ⟨w.heap.size, 2, none⟩ = some (.slice a (flen k) c) := ⟨HT2.out.c0, HT2.out.c1, HT2.out.c2⟩
    have HB3 := Lib.hid (HB2.out.next (box_low w2 (.cells #[.int .i64 x, .int .i64 s, .int .i64 v, .slice a (flen k) c] 75)))
    have HU3 := Lib.hid (bsl_one (x := x) (s := s) (v := v) (c := c) HT2.out.sl)
    have HBW3 := Lib.hid (below_next HBW2.out (box_low w2 (.cells #[.int .i64 x, .int .i64 s, .int .i64 v, .slice a (flen k) c] 75)))
    have HC : Hid (Calls Try.prog 45 #[.slice A bs.length C, .slice (some ⟨w2.heap.size, 0, none⟩) 1 1] (w2.alloc (.cells #[.int .i64 x, .int .i64 s, .int .i64 v, .slice a (flen k) c] 75)) (LtPost bs [(x, s, v, k)] (w2.alloc (.cells #[.int .i64 x, .int .i64 s, .int .i64 v, .slice a (flen k) c] 75)))) :=
      l2Then_any bs [(x, s, v, k)] A (some ⟨w2.heap.size, 0, none⟩) C 1 _ HB3.out HU3.out (by omega) (by simp) HBO.out (fun y hy => by simp only [List.mem_singleton] at hy; subst hy; dsimp only; omega) (fun y t ht => by
        rw [sv_one] at ht
        split at ht
        · obtain rfl := Option.some.inj ht; dsimp only; omega
        · cases ht)
    go_wp2_with fail
    with_reducible refine HC.out.mono ?_
    rintro e w4 ⟨A4, C4, rfl, hb4, hs4⟩
    have HB4 := Lib.hid (HB3.out.next hb4)
    have HS4 := Lib.hid hs4
    have HBW4 := Lib.hid (below_next HBW3.out hb4)
    clear hb4 hs4 HC q0 q1 q2 HB2 HT2 HBW2 HB3 HU3 HBW3
    generalize thL bs [(x, s, v, k)] = out at *
    go_wp2_with fail
    go_loopw [9] (fun i wr => ∃ j : Nat, i = .int .i64 j ∧ j ≤ out.length ∧ Hid (∀ y ∈ out.take j, ¬ 64 < sz y.2) ∧ Hid (Below w4.heap.size w4 wr)) (fun i _ => out.length - (intOf i).toNat)
    case atStart => exact ⟨0, rfl, Nat.zero_le _, fun y hy => by simp at hy, Below.refl _ _⟩
    case round =>
      obtain ⟨j, rfl, hj, HS, HWR⟩ := hrel
      have htl : out.length ≤ 20 := HTL.out
      by_cases hlt : j < out.length
      · obtain ⟨rb, ro, y, s1, v1, k1, a1, c1, hA, hy, d0, d1, d2, d3, hsl⟩ := bsl_at (HS4.out.next HWR.out) hlt
        subst hA
        have hm := List.mem_of_getElem? hy
        have hoy := HTH.out _ hm
        have g1 : (0 : Int) ≤ (j : Int) := by omega
        have g2 : (j : Int) < (out.length : Int) := by omega
        have HTK : Hid (out.take (j + 1) = out.take j ++ [(y, s1, v1, k1)]) := by rw [Hid, List.take_add_one, hy]; rfl
        have HM := Lib.hid hm
        generalize hg : decide (64 < sz (s1, v1, k1)) = rc
        have HCB := Lib.hid (l2Big_any s1 v1 a1 c1 k1 _ hsl hoy rc hg)
        clear hsl hy hm hoy
        go_wp2_with fail
        with_reducible refine HCB.out.mono ?_
        rintro e w5 ⟨rfl, hb5⟩
        have HW5 := Lib.hid (below_next HWR.out hb5)
        clear hb5 HCB d0 d1 d2 d3
        cases rc with
        | true =>
          have HR := Lib.hid (HOV.out _ HM.out (of_decide_eq_true hg))
          clear hg HFT HOV
          go_wp2_with fail
          refine bodyPost_ret (v := .tuple #[.slice A bs.length C, .int .i64 2]) ?_ rfl ⟨A, C, bs, 2, rfl, below_next HBW4.out HW5.out, HB4.out.next HW5.out, .inr ⟨by omega, HR.out⟩⟩
          simp [results, Try.results88, go_sem]
        | false =>
          have HN : Hid (∀ y ∈ out.take (j + 1), ¬ 64 < sz y.2) := fun z hz => by
            rw [HTK.out, List.mem_append, List.mem_singleton] at hz
            rcases hz with hz | rfl
            · exact HS.out z hz
            · exact of_decide_eq_false hg
          clear hg
          go_wp2_with fail
          go_roundw
          case rel => exact ⟨j + 1, by go_num, by omega, HN, HW5⟩
          case measure => simp [intOf]; omega
      · have HR : Hid (R = some out) := HFT.out HNO.out HNB.out (by have := HS.out; rw [List.take_of_length_le (by omega)] at this; exact this)
        go_wp2_with fail
        refine bodyPost_ret (v := .tuple #[.slice A4 out.length C4, .int .i64 0]) ?_ rfl ⟨A4, C4, out, 0, rfl, below_next HBW4.out HWR.out, HS4.out.next HWR.out, .inl ⟨rfl, HR.out⟩⟩
        simp [results, Try.results88, go_sem]
end Go.Proofs.Ytpfkhgiiojikbaa

/-! Mix2: Regions that draw their order and end in two stores, either of which may come first. No condition. -/
namespace Go.Proofs.Ytpfkhgiiojikbaa

section
variable {P : Program} {ops : Array Oper} {Q : Exit → Act → World → Prop} {md : Region.Mode} {S : World → Prop} {late : List Nat}

/-- What reads no memory may be taken first, whatever has come up. -/
theorem wpAnyT_look {i : Nat} {oi : Oper} {v : Value} (hi : ops[i]? = some oi) (hsel : ∀ (j : Nat) (o : Oper) cs b, ops[j]? = some o → o.op ≠ .select cs b)
    (hQ : ∀ c a w, Q (.panic c) (a.put oi.dst v) w → Q (.panic c) a w) (hil : i ∉ late) :
    ∀ (fuel : Nat) (listed : Array Bool) (a : Act) (w : World),
      (∀ j oj, ops[j]? = some oj → j ≠ i → listed.getD j true = false → (∀ e ∈ oj.after, Region.binds md e = true → e.on ≠ i) → oi.apart ops oj = true) →
      i ∈ Region.ready md ops listed → YieldsIf P ops (fun _ => True) oi v a → ((∃ j ∈ late, listed.getD j false = true) ∨ S w) →
      wpAnyT P md ops Q S late fuel (listed.setIfInBounds i true) (a.put oi.dst v) w → wpAnyT P md ops Q S late (fuel + 1) listed a w := by
  have cur : ∀ (listed : Array Bool) (w : World), ((∃ j ∈ late, listed.getD j false = true) ∨ S w) → (∃ j ∈ late, (listed.setIfInBounds i true).getD j false = true) ∨ S w := fun listed w h => h.imp (fun ⟨k, hk, hl⟩ => ⟨k, hk, by
    have hne : i ≠ k := fun e => hil (by rw [e]; exact hk)
    rw [getD_set_ne false hne]; exact hl⟩) id
  intro fuel
  induction fuel with
  | zero =>
    intro listed a w _ hr hy hS H
    refine ⟨fun h => (by rw [h] at hr; cases hr), fun j hj => ?_⟩
    by_cases hji : j = i
    · subst hji; exact hy.wpOp hi trivial ⟨cur _ _ hS, H⟩
    · have := ready_mono hj hji
      rw [H.1] at this
      cases this
  | succ fuel ih =>
    intro listed a w hfree hr hy hS H
    refine ⟨fun h => (by rw [h] at hr; cases hr), fun j hj => ?_⟩
    by_cases hji : j = i
    · subst hji; exact hy.wpOp hi trivial ⟨cur _ _ hS, H⟩
    · have h1 := H.2 j (ready_mono hj hji)
      obtain ⟨hjun, oj, hoj, hall⟩ := mem_ready.1 hj
      have hiun := listed_no (mem_ready.1 hr).1
      have hnot : ∀ e ∈ oj.after, Region.binds md e = true → e.on ≠ i := fun e he hb heq => by
        have h1 := hall e he hb
        rw [heq, hiun] at h1
        cases h1
      have h2 := wpOp_putIf hoj (hfree j oj hoj hji hjun hnot) (fun cs b => hsel i oi cs b hi) (fun cs b => hsel j oj cs b hoj) hQ hy h1
      have hfree' : ∀ k ok, ops[k]? = some ok → k ≠ i → (listed.setIfInBounds j true).getD k true = false →
          (∀ e ∈ ok.after, Region.binds md e = true → e.on ≠ i) → oi.apart ops ok = true := fun k ok hk hki hun hno => by
        refine hfree k ok hk hki ?_ hno
        by_cases hjk : j = k
        · subst hjk; exact hjun
        · rw [getD_set_ne true hjk] at hun; exact hun
      refine wpOp_mono (fun a' w' h3 => ?_) h2
      have hS' : (∃ k ∈ late, (listed.setIfInBounds j true).getD k false = true) ∨ S w' := h3.2.1.imp (fun ⟨k, hk, hl⟩ => ⟨k, hk, by
        have hne2 : i ≠ k := fun e => hil (by rw [e]; exact hk)
        rw [Array.setIfInBounds_comm _ _ (Ne.symm hji), getD_set_ne false hne2] at hl
        exact hl⟩) id
      refine ⟨hS', ih (listed.setIfInBounds j true) a' w' hfree' (ready_mono hr (Ne.symm hji)) h3.1 hS' ?_⟩
      rw [Array.setIfInBounds_comm _ _ hji]
      exact h3.2.2

/-- A step of the walk: an operation that only looks (0), one behind which S is shown anew (1), one that reads no memory (2); in the end the two last ones, in either order. -/
def wpMixP (P : Program) (ops : Array Oper) (Q : Exit → Act → World → Prop) (S : World → Prop) (p q : Nat) : List (Nat × Nat) → Act → World → Prop
  | [], a, w => wpOp P ops Q p (fun a w => wpOp P ops Q q (fun a w => Q .normal a w) a w) a w ∧ wpOp P ops Q q (fun a w => wpOp P ops Q p (fun a w => Q .normal a w) a w) a w
  | (i, 0) :: rest, a, w => ∃ o v, ops[i]? = some o ∧ YieldsIf P ops S o v a ∧ wpMixP P ops Q S p q rest (a.put o.dst v) w
  | (i, 1) :: rest, a, w => wpOp P ops Q i (fun a' w' => S w' ∧ wpMixP P ops Q S p q rest a' w') a w
  | (i, _ + 2) :: rest, a, w => ∃ o v, ops[i]? = some o ∧ YieldsIf P ops (fun _ => True) o v a ∧ wpMixP P ops Q S p q rest (a.put o.dst v) w

def mixP (md : Region.Mode) (ops : Array Oper) (p q : Nat) : List (Nat × Nat) → Array Bool → Bool
  | [], listed => (Region.ready md ops listed == [p, q]) && (Region.ready md ops (listed.setIfInBounds p true) == [q]) && (Region.ready md ops (listed.setIfInBounds q true) == [p]) && (Region.ready md ops ((listed.setIfInBounds p true).setIfInBounds q true)).isEmpty &&
      (Region.ready md ops ((listed.setIfInBounds q true).setIfInBounds p true)).isEmpty && decide (p < listed.size) && decide (q < listed.size)
  | (i, 0) :: rest, listed => (Region.ready md ops listed).contains i && Region.free md ops listed i &&
      [p, q].all (fun j => match ops[j]? with | some oj => oj.after.any (fun e => Region.binds md e && e.on == i) | none => false) && [p, q].all (fun j => !(listed.getD j false)) && mixP md ops p q rest (listed.setIfInBounds i true)
  | (i, 1) :: rest, listed => (Region.ready md ops listed == [i]) && mixP md ops p q rest (listed.setIfInBounds i true)
  | (i, _ + 2) :: rest, listed => (Region.ready md ops listed).contains i && Region.free md ops listed i && !([p, q].contains i) && mixP md ops p q rest (listed.setIfInBounds i true)

theorem wpAnyT_mixP {p q : Nat} (hs : Region.noSelect ops = true) (hQ : ∀ c a w, ¬ Q (.panic c) a w) : ∀ (l : List (Nat × Nat)) (listed : Array Bool) (a : Act) (w : World), mixP md ops p q l listed = true → S w →
    wpMixP P ops Q S p q l a w → wpAnyT P md ops Q S [p, q] (l.length + 2) listed a w
  | [], listed, a, w, hB, hS, h => by
    simp only [mixP, Bool.and_eq_true, beq_iff_eq, decide_eq_true_eq, List.isEmpty_iff] at hB
    obtain ⟨⟨⟨⟨⟨⟨h1, h2⟩, h3⟩, h4⟩, h5⟩, h6⟩, h7⟩ := hB
    have lp : ∀ (l' : Array Bool) (r : Nat), r < l'.size → (l'.setIfInBounds r true).getD r false = true := fun l' r hr => by simp [hr]
    refine ⟨fun h0 => (by rw [h1] at h0; cases h0), fun j hj => ?_⟩
    rw [h1] at hj
    simp only [List.mem_cons, List.not_mem_nil, or_false] at hj
    rcases hj with rfl | rfl
    · refine wpOp_mono (fun a' w' h' => ⟨.inl ⟨j, by simp, lp _ _ h6⟩, ⟨fun h0 => (by rw [h2] at h0; cases h0), fun k hk => ?_⟩⟩) h.1
      rw [h2] at hk
      simp only [List.mem_singleton] at hk
      subst hk
      exact wpOp_mono (fun a' w' h' => ⟨.inl ⟨k, by simp, lp _ _ (by simpa using h7)⟩, ⟨h4, h'⟩⟩) h'
    · refine wpOp_mono (fun a' w' h' => ⟨.inl ⟨j, by simp, lp _ _ h7⟩, ⟨fun h0 => (by rw [h3] at h0; cases h0), fun k hk => ?_⟩⟩) h.2
      rw [h3] at hk
      simp only [List.mem_singleton] at hk
      subst hk
      exact wpOp_mono (fun a' w' h' => ⟨.inl ⟨k, by simp, lp _ _ (by simpa using h6)⟩, ⟨h5, h'⟩⟩) h'
  | (i, 0) :: rest, listed, a, w, hB, hS, ⟨o, v, ho, hy, h⟩ => by
    simp only [mixP, Bool.and_eq_true] at hB
    obtain ⟨⟨⟨⟨h2, h3⟩, h4⟩, h5⟩, h6⟩ := hB
    refine wpAnyT_first ho (Region.noSelect_spec hs) (fun c a w h => absurd h (hQ c _ w)) (fun j hj => ?_) (rest.length + 2) listed a w (Region.free_spec ho h3) (by simpa using h2) hy hS (fun j hj => ?_) (wpAnyT_mixP hs hQ rest _ _ w h6 hS h)
    · have := List.all_eq_true.1 h4 j hj
      split at this
      · rename_i oj hoj
        obtain ⟨e, he, hb⟩ := Array.any_eq_true'.1 this
        simp only [Bool.and_eq_true, beq_iff_eq] at hb
        exact ⟨oj, hoj, e, he, hb⟩
      · cases this
    · have := List.all_eq_true.1 h5 j hj
      simpa using this
  | (i, 1) :: rest, listed, a, w, hB, hS, h => by
    simp only [mixP, Bool.and_eq_true, beq_iff_eq] at hB
    refine ⟨fun h0 => (by rw [hB.1] at h0; cases h0), fun j hj => ?_⟩
    rw [hB.1] at hj
    simp only [List.mem_singleton] at hj
    subst hj
    exact wpOp_mono (fun a' w' h' => ⟨.inr h'.1, wpAnyT_mixP hs hQ rest _ a' w' hB.2 h'.1 h'.2⟩) h
  | (i, _ + 2) :: rest, listed, a, w, hB, hS, ⟨o, v, ho, hy, h⟩ => by
    simp only [mixP, Bool.and_eq_true] at hB
    obtain ⟨⟨⟨h2, h3⟩, h4⟩, h6⟩ := hB
    exact wpAnyT_look ho (Region.noSelect_spec hs) (fun c a w h => absurd h (hQ c _ w)) (by simpa using h4) (rest.length + 2) listed a w (Region.free_spec ho h3) (by simpa using h2) hy (.inr hS) (wpAnyT_mixP hs hQ rest _ _ w h6 hS h)

/-- The region, walked in one order but for its two last stores. -/
theorem wp_region_mixP {id : Nat} {a : Act} {w : World} (S : World → Prop) (p q : Nat) (l : List (Nat × Nat)) (hm : P.follows .mixedOrders = true) (hB : (Region.noSelect ops && (l.length + 2 == ops.size) && mixP .any ops p q l (Array.replicate ops.size false)) = true)
    (hS : S w.drew) (h : wpMixP P ops (QN Q) S p q l a w.drew) : (Code.region id ops true).wp P Q a w := by
  simp only [Bool.and_eq_true, beq_iff_eq] at hB
  obtain ⟨⟨h1, h2⟩, h3⟩ := hB
  refine Code.wp_mono (Q := QN Q) (fun e a w h => by cases e <;> first | exact h | exact h.elim) ?_
  refine wp_region_any hm (wpAny_of_T (S := S) (late := [p, q]) _ _ _ _ ?_)
  rw [← h2]
  exact wpAnyT_mixP h1 (fun c a w h => h) l _ a _ (by rw [h2]; exact h3) hS h

theorem mixp_see {p q i : Nat} {rest : List (Nat × Nat)} {a : Act} {w : World} {o : Oper} (ho : ops[i]? = some o)
    (h : ∀ K : Act → Prop, (∀ a', wpMixP P ops Q S p q rest a' w → K a') → if Region.wanted o (yielded ops a.tmps) = true then ∃ v, (∀ w, S w → (execOp a.eval o).run P w = .ok (.value v) w) ∧ K (a.put o.dst v) else K (a.put o.dst undef)) : wpMixP P ops Q S p q ((i, 0) :: rest) a w := by
  have := h (fun a' => wpMixP P ops Q S p q rest a' w) (fun _ h => h)
  split at this
  · rename_i hw
    obtain ⟨v, h1, h2⟩ := this
    exact ⟨o, v, ho, .inl ⟨hw, h1⟩, h2⟩
  · rename_i hw
    exact ⟨o, undef, ho, .inr ⟨by simpa using hw, rfl⟩, this⟩
theorem mixp_any {p q i : Nat} {rest : List (Nat × Nat)} {a : Act} {w : World} {o : Oper} (ho : ops[i]? = some o)
    (h : ∀ K : Act → Prop, (∀ a', wpMixP P ops Q S p q rest a' w → K a') → if Region.wanted o (yielded ops a.tmps) = true then ∃ v, (∀ w, True → (execOp a.eval o).run P w = .ok (.value v) w) ∧ K (a.put o.dst v) else K (a.put o.dst undef)) : wpMixP P ops Q S p q ((i, 2) :: rest) a w := by
  have := h (fun a' => wpMixP P ops Q S p q rest a' w) (fun _ h => h)
  split at this
  · rename_i hw
    obtain ⟨v, h1, h2⟩ := this
    exact ⟨o, v, ho, .inl ⟨hw, h1⟩, h2⟩
  · rename_i hw
    exact ⟨o, undef, ho, .inr ⟨by simpa using hw, rfl⟩, this⟩
theorem mixp_hold {p q i : Nat} {rest : List (Nat × Nat)} {a : Act} {w : World} {o : Oper} (ho : ops[i]? = some o)
    (h : ∀ K : Act → World → Prop, (∀ a' w', S w' → wpMixP P ops Q S p q rest a' w' → K a' w') → if Region.wanted o (yielded ops a.tmps) = true then o.wp P a w K Q else K (a.put o.dst undef) w) : wpMixP P ops Q S p q ((i, 1) :: rest) a w := by
  have := h (fun a' w' => S w' ∧ wpMixP P ops Q S p q rest a' w') (fun _ _ h1 h2 => ⟨h1, h2⟩)
  show wpOp P ops Q i _ a w
  unfold wpOp
  simp only [ho]
  split at this
  · rename_i hw; rw [if_pos hw]; exact .inl this
  · rename_i hw; rw [if_neg hw]; exact this
/-- One of the two last ones. -/
theorem mixp_op {i : Nat} {a : Act} {w : World} {o : Oper} {R : Act → World → Prop} (ho : ops[i]? = some o)
    (h : ∀ K : Act → World → Prop, (∀ a' w', R a' w' → K a' w') → if Region.wanted o (yielded ops a.tmps) = true then o.wp P a w K Q else K (a.put o.dst undef) w) : wpOp P ops Q i R a w := by
  have := h R (fun _ _ h => h)
  unfold wpOp
  simp only [ho]
  split at this
  · rename_i hw; rw [if_pos hw]; exact .inl this
  · rename_i hw; rw [if_neg hw]; exact this
theorem mixp_end {p q : Nat} {a : Act} {w : World} (h1 : wpOp P ops (QN Q) p (fun a w => wpOp P ops (QN Q) q (fun a w => Q .normal a w) a w) a w) (h2 : wpOp P ops (QN Q) q (fun a w => wpOp P ops (QN Q) p (fun a w => Q .normal a w) a w) a w) : wpMixP P ops (QN Q) S p q [] a w := ⟨h1, h2⟩
end
end Go.Proofs.Ytpfkhgiiojikbaa
