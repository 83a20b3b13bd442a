/- Several texts in one: V4b, V4, P5a, V5d, V5, LawUIn. -/
import Derived.Test.YtpfkhgiiojikbaaKThen7
import Derived.Test.YtpfkhgiiojikbaaKThen1
import Derived.Test.YtpfkhgiiojikbaaKUnify6
import Derived.Test.YtpfkhgiiojikbaaKUnify11
import Derived.Test.YtpfkhgiiojikbaaKThen11
import Derived.Test.YtpfkhgiiojikbaaKThen9
import Derived.Test.YtpfkhgiiojikbaaKUnify7
import Derived.Test.YtpfkhgiiojikbaaKUnify10
import Derived.Test.YtpfkhgiiojikbaaKUnify12
import Derived.Test.YtpfkhgiiojikbaaKThen16
import Derived.Test.YtpfkhgiiojikbaaKThen14
import Derived.Test.YtpfkhgiiojikbaaKThen2
import Derived.Test.YtpfkhgiiojikbaaKThen10

/-! V4b: laIn: whether a number is among such. -/
namespace Go.Proofs.Ytpfkhgiiojikbaa
open Go.RowKit Go.Deep

set_option maxRecDepth 100000 in
set_option maxHeartbeats 1000000 in
theorem laIn_any (xs : List Int) (A : Option Addr) (ca : Nat) (n : Int) (w : World) (hA : ISl w 0 w.heap.size A xs) (hx : xs.length ≤ 2000) :
    Calls Try.prog 36 #[.slice A xs.length ca, .int .i64 n] w fun e w' => e = .returned (.bool (decide (n ∈ xs))) ∧ Below w.heap.size w w' := by
  have HA := Lib.hid hA
  clear hA
  go_enter Try.func36, Try.ntmps36
  go_wp2_with fail
  go_loopw [5] (fun i wr => ∃ j : Nat, j ≤ xs.length ∧ i = .int .i64 j ∧ Hid (n ∈ xs ↔ n ∈ xs.drop j) ∧ Below w.heap.size w wr) (fun i _ => xs.length - (intOf i).toNat)
  case atStart => exact ⟨0, by omega, rfl, by simp [Hid], Below.refl _ _⟩
  case round =>
    obtain ⟨j, hj, rfl, hq, hbl⟩ := hrel
    have hbs := hbl.size
    by_cases hlt : j < xs.length
    · obtain ⟨b, o, rfl, _, hb1, hc⟩ := isl_at (HA.out.below hbl) hlt
      have hq1 := hq.out
      rw [List.drop_eq_getElem_cons hlt] at hq1
      have HQ := Lib.hid hq1
      clear hq hq1
      generalize xs[j] = x at hc HQ
      have g1 : (0 : Int) ≤ (j : Int) := by omega
      have g2 : (j : Int) < (xs.length : Int) := by omega
      by_cases hxn : x = n
      · subst hxn
        have ex : (x == x) = true := by simp
        have HE : Hid (decide (x ∈ xs) = true) := decide_eq_true (HQ.out.2 (by simp))
        go_wp2_with fail
        go_ret
        exact ⟨by rw [HE.out]; rfl, hbl⟩
      · have ex : (x == n) = false := by simpa using hxn
        have HE : Hid (n ∈ xs ↔ n ∈ xs.drop (j + 1)) := by
          have : n ≠ x := fun e => hxn e.symm
          rw [Hid, HQ.out]
          simp [this]
        go_wp2_with fail
        go_roundw
        case rel => exact ⟨j + 1, by omega, by go_num, HE, hbl⟩
        case measure => simp [intOf]; omega
    · have HE : Hid (decide (n ∈ xs) = false) := by
        refine decide_eq_false fun h => ?_
        have := hq.out.1 h
        rw [List.drop_eq_nil_of_le (by omega)] at this
        simp at this
      clear hq
      go_wp2_with fail
      go_ret
      exact ⟨by rw [HE.out]; rfl, hbl⟩
end Go.Proofs.Ytpfkhgiiojikbaa

/-! V4: spec.TermVars. -/
namespace Go.Proofs.Ytpfkhgiiojikbaa
open Go.RowKit Go.Deep

theorem one_box3 {w wr : World} {x y z : Value} (h : Below (w.heap.size + 1) (w.alloc (.cells #[x, y, z] 28)) wr) :
    wr.cell? ⟨w.heap.size, 0, none⟩ = some x ∧ wr.cell? ⟨w.heap.size, 1, none⟩ = some y ∧ wr.cell? ⟨w.heap.size, 2, none⟩ = some z := by
  refine ⟨?_, ?_, ?_⟩
  · rw [h.cell (by simp), World.cell?_alloc_at _ _ _ _ (by simp)]; rfl
  · rw [h.cell (by simp), World.cell?_alloc_at _ _ _ _ (by simp)]; rfl
  · rw [h.cell (by simp), World.cell?_alloc_at _ _ _ _ (by simp)]; rfl

set_option maxRecDepth 100000 in
set_option maxHeartbeats 1000000 in
theorem sTermVars_any (s v : Int) (a : Option Addr) (c : Nat) (k : Fo) (w : World) (hl : Sl w 0 w.heap.size a k) :
    Calls Try.prog 35 #[.agg #[.int .i64 s, .int .i64 v, .slice a (flen k) c]] w (TvPost s v k w) := by
  have HL := Lib.hid hl
  clear hl
  obtain ⟨ti, hti, htz, hts, htb'⟩ := Try.infoI
  have HTI : Hid (Try.prog.info? 3 = some ti ∧ ti.zero = some (.int .i64 0) ∧ ti.size = 1 ∧ ti.bytes = 8) := ⟨hti, htz, hts, htb'⟩
  clear hti htz hts htb'
  have HB0 : Hid (Below w.heap.size w (w.alloc (.cells #[.int .i64 s, .int .i64 v, .slice a (flen k) c] 28))) := (Below.refl _ _).alloc (Nat.le_refl _) _
  have HST : Hid (IOwn ((w.alloc (.cells #[.int .i64 s, .int .i64 v, .slice a (flen k) c] 28)).alloc (.cells #[] 3)) (w.heap.size + 1) [] (some ⟨w.heap.size + 1, 0, none⟩) 0) := by
    have h := heap_alloc_new (w.alloc (.cells #[.int .i64 s, .int .i64 v, .slice a (flen k) c] 28)) (.cells #[] 3)
    rw [World.size_alloc] at h
    exact own_empty h (Nat.le_refl _)
  go_enter Try.func35, Try.ntmps35
  go_wp2_with fail
  go_loopw [3, 4] (fun t i wr => ∃ (j : Nat) (ys : List Int) (A' : Option Addr) (C' : Nat), j ≤ 12 ∧ i = .int .i64 j ∧ t = .slice A' ys.length C' ∧ Hid (ys = (if okW s v k 16 = true then among (fvs s v k) j else [])) ∧ IOwn wr (w.heap.size + 1) ys A' C' ∧ Below (w.heap.size + 1) (w.alloc (.cells #[.int .i64 s, .int .i64 v, .slice a (flen k) c] 28)) wr) (fun _ i _ => 12 - (intOf i).toNat)
  case atStart => exact ⟨0, [], _, 0, by omega, rfl, rfl, by unfold Hid; split <;> simp [among], HST.out, (Below.refl _ _).alloc (by simp) _⟩
  case round =>
    clear HST
    obtain ⟨j, ys, A', C', hj, rfl, rfl, hq, hio, hbl⟩ := hrel
    have hbs := hbl.size
    simp at hbs
    have hbw := HB0.out.trans (hbl.mono (by omega))
    by_cases hlt : j < 12
    · obtain ⟨hc0, hc1, hc2⟩ := one_box3 hbl
      have HSL := Lib.hid ((HL.out.below hbw).mono (lo' := 0) (Nat.le_refl _) hbw.size)
      have HQ := Lib.hid hq.out
      have HIO := Lib.hid hio
      have HBL := Lib.hid hbl
      clear hq hio hbl hbw
      go_wp2_with fail
      with_reducible refine (sTermOk_any s v a c k _ HSL.out).mono ?_
      rintro e w2 ⟨rfl, hb2⟩
      have hs2 := hb2.size
      have HBL2 := Lib.hid (HBL.out.trans (hb2.mono (by omega)))
      have HIO2 := Lib.hid (HIO.out.low hb2)
      have HSL2 := Lib.hid (HSL.out.low hb2)
      clear hb2 hc0 hc1 hc2
      cases hok : okW s v k 16 with
      | false =>
        have HE : Hid (ys = tvR s v k) := by rw [Hid, HQ.out, tvR, hok]; rfl
        clear hok
        go_wp2_with fail
        go_ret
        exact ⟨A', C', ys, HE.out, rfl, HB0.out.trans (HBL2.out.mono (by omega)), HIO2.out.base (by omega)⟩
      | true =>
        have hsz := ((okW_iff _ _ _ _).1 hok).2.2
        have HY : Hid (ys = among (fvs s v k) j) := by rw [Hid, HQ.out, hok]; rfl
        have HOK := Lib.hid hok
        have hyl : ys.length ≤ 12 := by rw [HY.out]; have := among_len (fvs s v k) j; omega
        clear hok
        obtain ⟨hc0, hc1, hc2⟩ := one_box3 HBL2.out
        go_wp2_with fail
        with_reducible refine (l1Has_any (fsz k) s v a c k (j : Int) _ HSL2.out (Nat.le_refl _) (by omega)).mono ?_
        rintro e w3 ⟨rfl, hb3⟩
        have hs3 := hb3.size
        have HBL3 := Lib.hid (HBL2.out.trans (hb3.mono (by omega)))
        have HIO3 := Lib.hid (HIO2.out.low hb3)
        clear hb3 hc0 hc1 hc2
        cases hin : decide ((j : Int) ∈ fvs s v k) with
        | true =>
          have HE : Hid (ys ++ [(j : Int)] = (if okW s v k 16 = true then among (fvs s v k) (j + 1) else [])) := by
            unfold Hid
            rw [HY.out, HOK.out, among_succ, if_pos (of_decide_eq_true hin)]
            rfl
          have HLT : Hid (∀ g, (Value.slice A' ys.length C').ownBlock = some g → w.heap.size + 1 ≤ g) := fun g hg => (HIO3.out.lt g hg).1
          have HO1 : Hid ((w3.alloc (.cells #[.int .i64 (j : Int)] 3)).ownsRow (w.heap.size + 1) 3 1 (.slice A' ys.length C') ys.length (ys.map (Value.int .i64))) := HIO3.out.alloc _
          clear hin
          go_wp2_with (at_builtin; refine wpList_append_src _ rfl _ _ 52 rfl (w.heap.size + 1) 3 ti _ 1 8 Try.underlying52 HTI.out.1 HTI.out.2.1 HTI.out.2.2.1 HTI.out.2.2.2 rfl (by omega) (.slice A' ys.length C') ys.length (ys.map (Value.int .i64)) rfl HO1.out (some ⟨w3.heap.size, 0, none⟩) 1 1 [.int .i64 (j : Int)] rfl ⟨rfl, .inr ⟨_, rfl, World.news_of_block (heap_alloc_new _ _)⟩⟩ (by simp [Value.oneCell']) (by unfold maxLen; omega) (by omega) (by simp; omega) ?_; intro A1 C1 w1 hown1 hgrow1 hat1)
          have hlen' : (ys ++ [(j : Int)]).length = ys.length + 1 := by simp
          have HIO1 : Hid (IOwn w1 (w.heap.size + 1) (ys ++ [(j : Int)]) A1 C1) := by
            unfold Hid IOwn
            rw [hlen', List.map_append]
            exact hown1
          have HB1 := Lib.hid ((HBL3.out.alloc (by omega) _).grown hgrow1 (by simp; omega) HLT.out)
          clear hown1 hgrow1 hat1
          first
            | (refine ⟨⟨j + 1, ys ++ [(j : Int)], A1, C1, by omega, by go_num, by rw [hlen'], HE, HIO1.out, HB1.out⟩, ?_⟩; simp [intOf]; omega)
            | (go_wp2_with fail
               go_roundw
               case rel => exact ⟨j + 1, ys ++ [(j : Int)], A1, C1, by omega, by go_num, by rw [hlen'], HE, HIO1.out, HB1.out⟩
               case measure => simp [intOf]; omega)
        | false =>
          have HE : Hid (ys = (if okW s v k 16 = true then among (fvs s v k) (j + 1) else [])) := by
            unfold Hid
            rw [HY.out, HOK.out, among_succ, if_neg (of_decide_eq_false hin), List.append_nil]
            rfl
          clear hin
          go_wp2_with fail
          go_roundw
          case rel => exact ⟨j + 1, ys, A', C', by omega, by go_num, rfl, HE, HIO3.out, HBL3.out⟩
          case measure => simp [intOf]; omega
    · have hj12 : j = 12 := by omega
      subst hj12
      have HE : Hid (ys = tvR s v k) := hq.out
      clear hq
      go_wp2_with fail
      go_ret
      exact ⟨A', C', ys, HE.out, rfl, hbw, hio.base (by omega)⟩

end Go.Proofs.Ytpfkhgiiojikbaa

/-! P5a: laInts: what is the same comes out the same. -/
namespace Go.Proofs.Ytpfkhgiiojikbaa
open Go.RowKit Go.Deep

set_option maxRecDepth 100000 in
set_option maxHeartbeats 1000000 in
theorem laInts_same (xs : List Int) (A B : Option Addr) (ca cb m n : Nat) (w : World) (hA : ISl w 0 w.heap.size A xs) (hB : ISl w 0 w.heap.size B xs) (hm : m = xs.length) (hn : n = xs.length) (hx : xs.length ≤ 2000) :
    Calls Try.prog 34 #[.slice A m ca, .slice B n cb] w fun e w' => e = .returned (.bool true) ∧ Below w.heap.size w w' := by
  subst hm
  subst hn
  have HA := Lib.hid hA
  have HB := Lib.hid hB
  clear hA hB
  go_enter Try.func34, Try.ntmps34
  go_wp2_with fail
  go_loopw [5] (fun i wr => ∃ j : Nat, j ≤ xs.length ∧ i = .int .i64 j ∧ Below w.heap.size w wr) (fun i _ => xs.length - (intOf i).toNat)
  case atStart => exact ⟨0, by omega, rfl, Below.refl _ _⟩
  case round =>
    obtain ⟨j, hj, rfl, hbl⟩ := hrel
    have hbs := hbl.size
    by_cases hlt : j < xs.length
    · obtain ⟨b, o, rfl, _, hb1, hc⟩ := isl_at (HA.out.below hbl) hlt
      obtain ⟨b', o', rfl, _, hb2, hc'⟩ := isl_at (HB.out.below hbl) hlt
      generalize xs[j] = x at hc hc'
      have hu0 : ∀ u : After wr.heap.size wr, u.world.cell? ⟨b, o + j, none⟩ = some (.int .i64 x) := fun u => u.cell (by simp; omega) hc
      have hu1 : ∀ u : After wr.heap.size wr, u.world.cell? ⟨b', o' + j, none⟩ = some (.int .i64 x) := fun u => u.cell (by simp; omega) hc'
      have g1 : (0 : Int) ≤ (j : Int) := by omega
      have g2 : (j : Int) < (xs.length : Int) := by omega
      have HBL := Lib.hid hbl
      clear hbl
      go_wp2_with fail
      refine wp_region_after wr.heap.size (by kernel_rfl) (by kernel_rfl) ?_
      repeat (go_big_quiet_step (fail))
      refine wpQuiet_nil ?_
      rintro u ⟨⟨_, hu⟩, rfl⟩
      clear hu0 hu1 hc hc'
      have HB2 := Lib.hid (HBL.out.trans (hu.mono hbs))
      clear hu
      have ex : (x != x) = false := by simp
      go_wp2_with fail
      go_roundw
      case rel => exact ⟨j + 1, by omega, by go_num, HB2.out⟩
      case measure => simp [intOf]; omega
    · go_wp2_with fail
      go_ret
      exact ⟨rfl, hbl⟩

end Go.Proofs.Ytpfkhgiiojikbaa

/-! V5d: DrawTermVars. -/
namespace Go.Proofs.Ytpfkhgiiojikbaa
open Go.RowKit Go.Deep

set_option maxRecDepth 100000 in
set_option maxHeartbeats 1000000 in
theorem DrawTermVars_any (a : Option Addr) (len cap : Nat) (w : World) (hby : Bytes w a len) (hlen : len ≤ cap) :
    Calls Try.prog 32 #[.slice a len cap] w (TermPost 31000 w) := by
  have HBY := Lib.hid hby
  clear hby
  go_enter Try.func32, Try.ntmps32
  go_wp2_with fail
  with_reducible refine (l6Open_any a len cap _ (HBY.out.alloc _) hlen).mono ?_
  rintro e w1 ⟨rfl, hb1, hrd⟩
  have hb1' : Below (w.heap.size + 1) (w.alloc (.cells #[.int .i64 0, .int .i64 0, .slice none 0 0] 28)) w1 := hb1.mono (by simp)
  have hs1 := hb1.size
  simp at hs1
  simp only [World.size_alloc] at hrd
  have hlt1 := hrd.lt
  have HRD := Lib.hid hrd
  have HB1 := Lib.hid hb1'
  clear hb1 hb1' hrd
  simp only [World.size_alloc]
  go_wp2_with fail
  with_reducible refine (pick_any 4 (w.heap.size + 1) 0 _ HRD.out (by omega) (by omega) (by omega)).mono ?_
  rintro e w2 ⟨x, rfl, hx, hb2⟩
  have ha2 : Adv w1 (w.heap.size + 1) (0 + 1) w2 := hb2
  have hs2 := ha2.size
  have HB2 := Lib.hid (adv_low HB1.out (by omega) (by omega) ha2)
  have HRD2 := Lib.hid (ha2.rd HRD.out)
  clear ha2 hb2
  by_cases hx0 : x = 0
  · subst hx0
    go_wp2_with fail
    with_reducible refine (l71Some_any (w.heap.size + 1) (0 + 1) _ HRD2.out (by omega)).mono ?_
    rintro e w4 ⟨s4, v4, a4, c4, k4, p4, rfl, _, hp4, hS4, ha4, hl4⟩
    have hb4 := adv_low HB2.out (by omega) (by omega) ha4
    have HB4 := Lib.hid hb4
    obtain ⟨hr0, hr1, hr2, hf0, hf1, hf2⟩ := res_low hb4
    have HL4 := Lib.hid (hl4.mono (lo' := w.heap.size + 1) (by omega) (Nat.le_refl _))
    clear ha4 hl4 hb4
    go_wp2_with fail
    refine bodyPost_ret (v := .agg #[.int .i64 s4, .int .i64 v4, .slice a4 (flen k4) c4]) ?_ rfl (term_end HB4.out (by omega) HL4.out)
    simp [results, Try.results32, go_sem, hr0, hr1, hr2]
  · have x0 : ((x : Int) == 0) = false := by simpa using hx0
    go_wp2_with fail
    with_reducible refine (l71Term_any 4 4 12 (w.heap.size + 1) (0 + 1) _ (by omega) (by omega) (by omega) (by omega) (by omega) HRD2.out (by decide)).mono ?_
    rintro e w4 ⟨s4, v4, a4, c4, k4, p4, rfl, _, hp4, hS4, ha4, hl4⟩
    have hS4' : 1 + fsz k4 ≤ 31 := by simpa [szN] using hS4
    have hb4 := adv_low HB2.out (by omega) (by omega) ha4
    have HB4 := Lib.hid hb4
    obtain ⟨hr0, hr1, hr2, hf0, hf1, hf2⟩ := res_low hb4
    have HL4 := Lib.hid (hl4.mono (lo' := w.heap.size + 1) (by omega) (Nat.le_refl _))
    clear ha4 hl4 hb4
    go_wp2_with fail
    refine bodyPost_ret (v := .agg #[.int .i64 s4, .int .i64 v4, .slice a4 (flen k4) c4]) ?_ rfl (term_end HB4.out (by omega) HL4.out)
    simp [results, Try.results32, go_sem, hr0, hr1, hr2]
end Go.Proofs.Ytpfkhgiiojikbaa

/-! V5: DrawTermVars; the variables of a term with another put to a place. -/
namespace Go.Proofs.Ytpfkhgiiojikbaa
open Go.RowKit Go.Deep

theorem fvl_at : ∀ (n : Nat) (k : Fo) {a b : Nat} {s v : Int} {kk r : Fo} {x : Int}, fdrop n k = .node a b (s, v) kk r → x ∈ fvs s v kk → x ∈ fvl k
  | 0, .nil, _, _, _, _, _, _, _, h, _ => by simp [fdrop] at h
  | 0, .node _ _ _ _ _, _, _, _, _, _, _, _, h, hx => by
    simp only [fdrop, BT.node.injEq] at h
    obtain ⟨_, _, rfl, rfl, _⟩ := h
    simp only [fvl, List.mem_append]
    exact .inl hx
  | _ + 1, .nil, _, _, _, _, _, _, _, h, _ => by simp [fdrop] at h
  | n + 1, .node _ _ _ _ r, _, _, _, _, _, _, _, h, hx => by
    simp only [fvl, List.mem_append]
    exact .inr (fvl_at n r (by simpa [fdrop] using h) hx)
theorem fvl_set : ∀ (k : Fo) (n : Nat) (y : Int × Int × Fo) {x : Int}, x ∈ fvl (fset k n y) → x ∈ fvl k ∨ x ∈ fvs y.1 y.2.1 y.2.2
  | .nil, _, _, _, h => .inl h
  | .node _ _ _ _ r, 0, y, x, h => by
    simp only [fset, fvl, List.mem_append] at h ⊢
    rcases h with h | h
    · exact .inr h
    · exact .inl (.inr h)
  | .node _ _ _ _ r, n + 1, y, x, h => by
    simp only [fset, fvl, List.mem_append] at h ⊢
    rcases h with h | h
    · exact .inl (.inl h)
    · rcases fvl_set r n y h with h | h
      · exact .inl (.inr h)
      · exact .inr h
/-- What is put brings its variables alone. -/
theorem fput_vars : ∀ (p : List Int) (s v : Int) (k : Fo) (y : Int × Int × Fo) {s' v' : Int} {k' : Fo} {x : Int}, okN s v (flen k) = true → fok k = true → fput s v k p y = some (s', v', k') → x ∈ fvs s' v' k' → x ∈ fvs s v k ∨ x ∈ fvs y.1 y.2.1 y.2.2
  | [], _, _, _, _, _, _, _, _, _, _, h, hx => by simp only [fput, Option.some.injEq] at h; subst h; exact .inr hx
  | i :: ps, s, v, k, y, s', v', k', x, hok, hfo, h, hx => by
    obtain ⟨n, b, o, s1, v1, kk, ⟨z1, z2, z3⟩, rfl, hn, hd, hz, e⟩ := fput_cons h
    simp only [Prod.mk.injEq] at e
    obtain ⟨rfl, rfl, rfl⟩ := e
    have hs0 : s' ≠ 0 := fun e => by
      subst e
      have := ((okN_iff _ _ _).1 hok).1
      simp [ar] at this
      omega
    have hkid := fok_kid hfo hd
    unfold fvs at hx ⊢
    rw [if_neg hs0] at hx ⊢
    rcases fvl_set k n (z1, z2, z3) hx with h1 | h1
    · exact .inl h1
    · rcases fput_vars ps s1 v1 kk y hkid.1 hkid.2 hz h1 with h2 | h2
      · exact .inl (fvl_at n k hd h2)
      · exact .inr h2
/-- .. and all of them. -/
theorem fput_mine : ∀ (p : List Int) (s v : Int) (k : Fo) (y : Int × Int × Fo) {s' v' : Int} {k' : Fo} {x : Int}, okN s v (flen k) = true → fok k = true → fput s v k p y = some (s', v', k') → x ∈ fvs y.1 y.2.1 y.2.2 → x ∈ fvs s' v' k'
  | [], _, _, _, _, _, _, _, _, _, _, h, hx => by simp only [fput, Option.some.injEq] at h; subst h; exact hx
  | i :: ps, s, v, k, y, s', v', k', x, hok, hfo, h, hx => by
    obtain ⟨n, b, o, s1, v1, kk, ⟨z1, z2, z3⟩, rfl, hn, hd, hz, e⟩ := fput_cons h
    simp only [Prod.mk.injEq] at e
    obtain ⟨rfl, rfl, rfl⟩ := e
    have hs0 : s' ≠ 0 := fun e => by
      subst e
      have := ((okN_iff _ _ _).1 hok).1
      simp [ar] at this
      omega
    have hkid := fok_kid hfo hd
    have h1 := fput_mine ps s1 v1 kk y hkid.1 hkid.2 hz hx
    obtain ⟨b', o', e'⟩ := fset_at k n (z1, z2, z3) hn
    unfold fvs
    rw [if_neg hs0]
    exact fvl_at n _ e' h1

theorem tvR_mem {s v : Int} {k : Fo} (h : okW s v k 16 = true) (x : Int) : x ∈ tvR s v k ↔ x ∈ fvs s v k := by
  unfold tvR
  rw [if_pos h, among_mem]
  constructor
  · exact fun h => h.1
  · intro hx
    have := fvs_in h x hx
    exact ⟨hx, by omega, by omega⟩
end Go.Proofs.Ytpfkhgiiojikbaa

/-! LawUIn: laws.FnUnifyIn answers true at every code. -/
namespace Go.Proofs.Ytpfkhgiiojikbaa
open Go.RowKit Go.Deep
attribute [local go_sem ↓] Go.wp_at_zero Go.wp_at_succ

theorem DrawTermVars_z (a0 : Option Addr) (len cap : Nat) (w : World) (hby : Bytes w a0 len) (hlen : len ≤ cap) :
    Calls Try.prog 32 #[.slice a0 len cap] w fun e w' => ∃ s v a c k, e = .returned (.agg #[.int .i64 s, .int .i64 v, .slice a (flen k) c]) ∧ (1 + fsz k ≤ 31000 ∧ Zf k) ∧ Below w.heap.size w w' ∧ Sl w' w.heap.size w'.heap.size a k := by
  refine (DrawTermVars_any a0 len cap w hby hlen).mono ?_
  rintro e w' ⟨s, v, a, c, k, rfl, h1, hb, hl⟩
  exact ⟨s, v, a, c, fer k, by rw [fer_len], ⟨by rw [fer_sz]; exact h1, zf_fer k⟩, hb, hl.fer⟩

set_option maxRecDepth 100000 in
set_option maxHeartbeats 4000000 in
theorem unifyIn_walk (a0 : Option Addr) (len cap : Nat) (w : World) (hby : Bytes w a0 len) (hlen : len ≤ cap) :
    Calls Try.prog 10 #[.slice a0 len cap] w fun e w' => e = .returned (.bool true) ∧ Below w.heap.size w w' := by
  have HBY := Lib.hid hby
  clear hby
  by_cases hbiglen : 1048576 < len
  · go_enter Try.func10, Try.ntmps10
    go_wp2_with fail
    go_ret
    exact ⟨rfl, Below.refl _ _⟩
  go_enter Try.func10, Try.ntmps10
  go_wp2_with fail
  with_reducible refine (DrawTermVars_z a0 len cap _ HBY.out hlen).mono ?_
  rintro e wa ⟨s, v, a, c, k, rfl, ⟨hSk, hZ⟩, hb, hl⟩
  have Hlow := Lib.hid hb
  have HZ := Lib.hid hZ
  have HL : Hid (Sl wa 0 wa.heap.size a k) := hl.mono (Nat.zero_le _) (Nat.le_refl _)
  clear hb hl HBY hZ
  have hbx : Below wa.heap.size wa (wa.alloc (.cells #[.int .i64 s, .int .i64 v, .slice a (flen k) c] 28)) := box_low _ _
  have Hn : Hid (Tb wa.heap.size s v a c k (wa.alloc (.cells #[.int .i64 s, .int .i64 v, .slice a (flen k) c] 28))) := Tb.new HL.out
  have Hlow' : Hid (Below w.heap.size w (wa.alloc (.cells #[.int .i64 s, .int .i64 v, .slice a (flen k) c] 28))) := below_next Hlow.out hbx
  clear Hlow
  have Hlow := Hlow'
  clear Hlow'
  have Ht := Hn
  clear Hn hbx
  clear HL
  have qt0 := Ht.out.c0
  have qt1 := Ht.out.c1
  have qt2 := Ht.out.c2
  go_wp2_with fail
  with_reducible refine (iTermVars_any s v a c k _ Ht.out.sl).mono ?_
  rintro e wx1 ⟨AI, CI, xI, hxI, rfl, hb, hio⟩
  clear qt0 qt1 qt2
  have Hlow' : Hid (Below w.heap.size w wx1) := below_next Hlow.out hb
  have Ht' : Hid (Tb wa.heap.size s v a c k wx1) := Ht.out.next hb
  clear Hlow Ht
  have Hlow := Hlow'
  clear Hlow'
  have Ht := Ht'
  clear Ht'
  have HXS := Lib.hid hxI
  have hvl := tvR_len s v k
  rw [← hxI] at hvl
  clear hxI
  have HI : Hid (ISl wx1 0 wx1.heap.size AI xI) := hio.sl.mono (Nat.zero_le _) (Nat.le_refl _)
  clear hb hio
  have qt0 := Ht.out.c0
  have qt1 := Ht.out.c1
  have qt2 := Ht.out.c2
  go_wp2_with fail
  with_reducible refine (sTermVars_any s v a c k _ Ht.out.sl).mono ?_
  rintro e wx2 ⟨AJ, CJ, xJ, hxJ, rfl, hb, hio⟩
  clear qt0 qt1 qt2
  have Hlow' : Hid (Below w.heap.size w wx2) := below_next Hlow.out hb
  have Ht' : Hid (Tb wa.heap.size s v a c k wx2) := Ht.out.next hb
  have HI' : Hid (ISl wx2 0 wx2.heap.size AI xI) := HI.out.next hb
  clear Hlow Ht HI
  have Hlow := Hlow'
  clear Hlow'
  have Ht := Ht'
  clear Ht'
  have HI := HI'
  clear HI'
  obtain rfl : xI = xJ := by rw [hxJ, HXS.out]
  clear hxJ
  have HJ : Hid (ISl wx2 0 wx2.heap.size AJ xI) := hio.sl.mono (Nat.zero_le _) (Nat.le_refl _)
  clear hb hio
  go_wp2_with fail
  with_reducible refine (laInts_same xI AI AJ CI CJ _ _ _ HI.out HJ.out rfl rfl (by omega)).mono ?_
  rintro e wx3 ⟨rfl, hb⟩
  have Hlow' : Hid (Below w.heap.size w wx3) := below_next Hlow.out hb
  have Ht' : Hid (Tb wa.heap.size s v a c k wx3) := Ht.out.next hb
  have HI' : Hid (ISl wx3 0 wx3.heap.size AI xI) := HI.out.next hb
  have HJ' : Hid (ISl wx3 0 wx3.heap.size AJ xI) := HJ.out.next hb
  clear Hlow Ht HI HJ
  have Hlow := Hlow'
  clear Hlow'
  have Ht := Ht'
  clear Ht'
  have HI := HI'
  clear HI'
  have HJ := HJ'
  clear HJ'
  clear hb
  clear HJ
  have qt0 := Ht.out.c0
  have qt1 := Ht.out.c1
  have qt2 := Ht.out.c2
  go_wp2_with fail
  with_reducible refine (sTermOk_any s v a c k _ Ht.out.sl).mono ?_
  rintro e wx4 ⟨rfl, hb⟩
  clear qt0 qt1 qt2
  have Hlow' : Hid (Below w.heap.size w wx4) := below_next Hlow.out hb
  have Ht' : Hid (Tb wa.heap.size s v a c k wx4) := Ht.out.next hb
  have HI' : Hid (ISl wx4 0 wx4.heap.size AI xI) := HI.out.next hb
  clear Hlow Ht HI
  have Hlow := Hlow'
  clear Hlow'
  have Ht := Ht'
  clear Ht'
  have HI := HI'
  clear HI'
  clear hb
  cases hok : okW s v k 16 with
  | false =>
    clear hok
    have qt0 := Ht.out.c0
    have qt1 := Ht.out.c1
    have qt2 := Ht.out.c2
    go_wp2_with fail
    with_reducible refine (sTermVars_any s v a c k _ Ht.out.sl).mono ?_
    rintro e wx5 ⟨AK, CK, xK, hxK, rfl, hb, hio⟩
    clear qt0 qt1 qt2
    have Hlow' : Hid (Below w.heap.size w wx5) := below_next Hlow.out hb
    have Ht' : Hid (Tb wa.heap.size s v a c k wx5) := Ht.out.next hb
    have HI' : Hid (ISl wx5 0 wx5.heap.size AI xI) := HI.out.next hb
    clear Hlow Ht HI
    have Hlow := Hlow'
    clear Hlow'
    have Ht := Ht'
    clear Ht'
    have HI := HI'
    clear HI'
    obtain rfl : xI = xK := by rw [hxK, HXS.out]
    clear hxK
    have HK : Hid (ISl wx5 0 wx5.heap.size AK xI) := hio.sl.mono (Nat.zero_le _) (Nat.le_refl _)
    clear hb hio
    go_wp2_with fail
    with_reducible refine (laInts_same xI AI AK CI CK _ _ _ HI.out HK.out rfl rfl (by omega)).mono ?_
    rintro e wx6 ⟨rfl, hb⟩
    have Hlow' : Hid (Below w.heap.size w wx6) := below_next Hlow.out hb
    have Ht' : Hid (Tb wa.heap.size s v a c k wx6) := Ht.out.next hb
    have HI' : Hid (ISl wx6 0 wx6.heap.size AI xI) := HI.out.next hb
    have HK' : Hid (ISl wx6 0 wx6.heap.size AK xI) := HK.out.next hb
    clear Hlow Ht HI HK
    have Hlow := Hlow'
    clear Hlow'
    have Ht := Ht'
    clear Ht'
    have HI := HI'
    clear HI'
    have HK := HK'
    clear HK'
    clear hb
    go_wp2_with fail
    go_ret
    exact ⟨rfl, Hlow.out⟩
  | true =>
    have HOK := Lib.hid hok
    clear hok
    by_cases hs0 : s = 0
    · subst hs0
      have qt0 := Ht.out.c0
      have qt1 := Ht.out.c1
      have qt2 := Ht.out.c2
      go_wp2_with fail
      with_reducible refine (sTermVars_any 0 v a c k _ Ht.out.sl).mono ?_
      rintro e wx5 ⟨AK, CK, xK, hxK, rfl, hb, hio⟩
      clear qt0 qt1 qt2
      have Hlow' : Hid (Below w.heap.size w wx5) := below_next Hlow.out hb
      have Ht' : Hid (Tb wa.heap.size 0 v a c k wx5) := Ht.out.next hb
      have HI' : Hid (ISl wx5 0 wx5.heap.size AI xI) := HI.out.next hb
      clear Hlow Ht HI
      have Hlow := Hlow'
      clear Hlow'
      have Ht := Ht'
      clear Ht'
      have HI := HI'
      clear HI'
      obtain rfl : xI = xK := by rw [hxK, HXS.out]
      clear hxK
      have HK : Hid (ISl wx5 0 wx5.heap.size AK xI) := hio.sl.mono (Nat.zero_le _) (Nat.le_refl _)
      clear hb hio
      go_wp2_with fail
      with_reducible refine (laInts_same xI AI AK CI CK _ _ _ HI.out HK.out rfl rfl (by omega)).mono ?_
      rintro e wx6 ⟨rfl, hb⟩
      have Hlow' : Hid (Below w.heap.size w wx6) := below_next Hlow.out hb
      have Ht' : Hid (Tb wa.heap.size 0 v a c k wx6) := Ht.out.next hb
      have HI' : Hid (ISl wx6 0 wx6.heap.size AI xI) := HI.out.next hb
      have HK' : Hid (ISl wx6 0 wx6.heap.size AK xI) := HK.out.next hb
      clear Hlow Ht HI HK
      have Hlow := Hlow'
      clear Hlow'
      have Ht := Ht'
      clear Ht'
      have HI := HI'
      clear HI'
      have HK := HK'
      clear HK'
      clear hb
      go_wp2_with fail
      go_ret
      exact ⟨rfl, Hlow.out⟩
    · have HS0 := Lib.hid hs0
      have es : (s == 0) = false := by simpa using hs0
      clear hs0
      have qt0 := Ht.out.c0
      have qt1 := Ht.out.c1
      have qt2 := Ht.out.c2
      go_wp2_with fail
      go_loopw [5] (fun i wr => ∃ j : Nat, j ≤ 12 ∧ i = .int .i64 j ∧ Below wx4.heap.size wx4 wr) (fun i _ => 12 - (intOf i).toNat)
      case atStart => exact ⟨0, by omega, rfl, Below.refl _ _⟩
      case round =>
        obtain ⟨wq, hwq⟩ : ∃ z, z = wr := ⟨_, rfl⟩
        subst hwq
        obtain ⟨j, hj, rfl, hbl⟩ := hrel
        clear qt0 qt1 qt2
        have Hlow' : Hid (Below w.heap.size w wq) := below_next Hlow.out hbl
        have Ht' : Hid (Tb wa.heap.size s v a c k wq) := Ht.out.next hbl
        have HI' : Hid (ISl wq 0 wq.heap.size AI xI) := HI.out.next hbl
        clear Hlow Ht HI
        have Hlow := Hlow'
        clear Hlow'
        have Ht := Ht'
        clear Ht'
        have HI := HI'
        clear HI'
        have Hlp := Lib.hid hbl
        clear hbl
        by_cases hlt : j < 12
        · have hcall := iUnifyOf_any 0 (j : Int) none 0 .nil s v a c k wq (Or.inl rfl) Ht.out.sl
          simp only [flen] at hcall
          have qt0 := Ht.out.c0
          have qt1 := Ht.out.c1
          have qt2 := Ht.out.c2
          go_wp2_with fail
          with_reducible refine hcall.mono ?_
          rintro e wu ⟨Au, Cu, bu, tu, hdu, rfl, hb, hsu⟩
          clear hcall hsu
          clear qt0 qt1 qt2
          have Hlow' : Hid (Below w.heap.size w wu) := below_next Hlow.out hb
          have Ht' : Hid (Tb wa.heap.size s v a c k wu) := Ht.out.next hb
          have HI' : Hid (ISl wu 0 wu.heap.size AI xI) := HI.out.next hb
          have Hlp' : Hid (Below wx4.heap.size wx4 wu) := below_next Hlp.out hb
          clear Hlow Ht HI Hlp
          have Hlow := Hlow'
          clear Hlow'
          have Ht := Ht'
          clear Ht'
          have HI := HI'
          clear HI'
          have Hlp := Hlp'
          clear Hlp'
          clear hb
          have hoc := un_occ hdu (by omega) HOK.out HS0.out HZ.out
          have hm : ((j : Int) ∈ fvs s v k) = ((j : Int) ∈ xI) := by rw [HXS.out]; exact propext (tvR_mem HOK.out _).symm
          have HOC : Hid (tu = !decide ((j : Int) ∈ xI)) := by unfold Hid; rw [hoc]; simp only [hm]
          clear hdu hoc hm
          go_wp2_with fail
          with_reducible refine (laIn_any xI AI CI (j : Int) _ HI.out (by omega)).mono ?_
          rintro e wx5 ⟨rfl, hb⟩
          have Hlow' : Hid (Below w.heap.size w wx5) := below_next Hlow.out hb
          have Ht' : Hid (Tb wa.heap.size s v a c k wx5) := Ht.out.next hb
          have HI' : Hid (ISl wx5 0 wx5.heap.size AI xI) := HI.out.next hb
          have Hlp' : Hid (Below wx4.heap.size wx4 wx5) := below_next Hlp.out hb
          clear Hlow Ht HI Hlp
          have Hlow := Hlow'
          clear Hlow'
          have Ht := Ht'
          clear Ht'
          have HI := HI'
          clear HI'
          have Hlp := Hlp'
          clear Hlp'
          clear hb
          have hoc := HOC.out
          clear HOC
          cases hin : decide ((j : Int) ∈ xI) with
          | false =>
            rw [hin] at hoc
            simp only [Bool.not_false] at hoc
            subst hoc
            clear hin
            go_wp2_with fail
            go_roundw
            case rel => exact ⟨j + 1, by omega, by go_num, Hlp.out⟩
            case measure => simp [intOf]; omega
          | true =>
            rw [hin] at hoc
            simp only [Bool.not_true] at hoc
            subst hoc
            clear hin
            go_wp2_with fail
            go_roundw
            case rel => exact ⟨j + 1, by omega, by go_num, Hlp.out⟩
            case measure => simp [intOf]; omega
        · have hj12 : j = 12 := by omega
          subst hj12
          go_wp2_with fail
          go_ret
          exact ⟨rfl, Hlow.out⟩
end Go.Proofs.Ytpfkhgiiojikbaa
