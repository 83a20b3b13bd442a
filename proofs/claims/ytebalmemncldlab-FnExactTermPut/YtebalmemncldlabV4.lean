/- spec.TermVars. -/
import Derived.Test.YtebalmemncldlabV3
namespace Go.Proofs.Ytebalmemncldlab
open Go.RowKit Go.Deep

theorem one_box3 {w wr : World} {x y z : Value} (h : Below (w.heap.size + 1) (w.alloc (.cells #[x, y, z] 25)) wr) :
    wr.cell? ⟨w.heap.size, 0, none⟩ = some x ∧ wr.cell? ⟨w.heap.size, 1, none⟩ = some y ∧ wr.cell? ⟨w.heap.size, 2, none⟩ = some z := by
  refine ⟨?_, ?_, ?_⟩
  · rw [h.cell (by simp), World.cell?_alloc_at _ _ _ _ (by simp)]; rfl
  · rw [h.cell (by simp), World.cell?_alloc_at _ _ _ _ (by simp)]; rfl
  · rw [h.cell (by simp), World.cell?_alloc_at _ _ _ _ (by simp)]; rfl

set_option maxRecDepth 100000 in
set_option maxHeartbeats 1000000 in
theorem sTermVars_any (s v : Int) (a : Option Addr) (c : Nat) (k : Fo) (w : World) (hl : Sl w 0 w.heap.size a k) :
    Calls Try.prog 27 #[.agg #[.int .i64 s, .int .i64 v, .slice a (flen k) c]] w (TvPost s v k w) := by
  have HL := Lib.hid hl
  clear hl
  obtain ⟨ti, hti, htz, hts, htb'⟩ := Try.infoI
  have HTI : Hid (Try.prog.info? 3 = some ti ∧ ti.zero = some (.int .i64 0) ∧ ti.size = 1 ∧ ti.bytes = 8) := ⟨hti, htz, hts, htb'⟩
  clear hti htz hts htb'
  have HB0 : Hid (Below w.heap.size w (w.alloc (.cells #[.int .i64 s, .int .i64 v, .slice a (flen k) c] 25))) := (Below.refl _ _).alloc (Nat.le_refl _) _
  have HST : Hid (IOwn ((w.alloc (.cells #[.int .i64 s, .int .i64 v, .slice a (flen k) c] 25)).alloc (.cells #[] 3)) (w.heap.size + 1) [] (some ⟨w.heap.size + 1, 0, none⟩) 0) := by
    have h := heap_alloc_new (w.alloc (.cells #[.int .i64 s, .int .i64 v, .slice a (flen k) c] 25)) (.cells #[] 3)
    rw [World.size_alloc] at h
    exact own_empty h (Nat.le_refl _)
  go_enter Try.func27, Try.ntmps27
  go_wp2_with fail
  go_loopw [3, 4] (fun t i wr => ∃ (j : Nat) (ys : List Int) (A' : Option Addr) (C' : Nat), j ≤ 12 ∧ i = .int .i64 j ∧ t = .slice A' ys.length C' ∧ Hid (ys = (if okW s v k 16 = true then among (fvs s v k) j else [])) ∧ IOwn wr (w.heap.size + 1) ys A' C' ∧ Below (w.heap.size + 1) (w.alloc (.cells #[.int .i64 s, .int .i64 v, .slice a (flen k) c] 25)) wr) (fun _ i _ => 12 - (intOf i).toNat)
  case atStart => exact ⟨0, [], _, 0, by omega, rfl, rfl, by unfold Hid; split <;> simp [among], HST.out, (Below.refl _ _).alloc (by simp) _⟩
  case round =>
    clear HST
    obtain ⟨j, ys, A', C', hj, rfl, rfl, hq, hio, hbl⟩ := hrel
    have hbs := hbl.size
    simp at hbs
    have hbw := HB0.out.trans (hbl.mono (by omega))
    by_cases hlt : j < 12
    · obtain ⟨hc0, hc1, hc2⟩ := one_box3 hbl
      have HSL := Lib.hid ((HL.out.below hbw).mono (lo' := 0) (Nat.le_refl _) hbw.size)
      have HQ := Lib.hid hq.out
      have HIO := Lib.hid hio
      have HBL := Lib.hid hbl
      clear hq hio hbl hbw
      go_wp2_with fail
      with_reducible refine (sTermOk_any s v a c k _ HSL.out).mono ?_
      rintro e w2 ⟨rfl, hb2⟩
      have hs2 := hb2.size
      have HBL2 := Lib.hid (HBL.out.trans (hb2.mono (by omega)))
      have HIO2 := Lib.hid (HIO.out.low hb2)
      have HSL2 := Lib.hid (HSL.out.low hb2)
      clear hb2 hc0 hc1 hc2
      cases hok : okW s v k 16 with
      | false =>
        have HE : Hid (ys = tvR s v k) := by rw [Hid, HQ.out, tvR, hok]; rfl
        clear hok
        go_wp2_with fail
        go_ret
        exact ⟨A', C', ys, HE.out, rfl, HB0.out.trans (HBL2.out.mono (by omega)), HIO2.out.base (by omega)⟩
      | true =>
        have hsz := ((okW_iff _ _ _ _).1 hok).2.2
        have HY : Hid (ys = among (fvs s v k) j) := by rw [Hid, HQ.out, hok]; rfl
        have HOK := Lib.hid hok
        have hyl : ys.length ≤ 12 := by rw [HY.out]; have := among_len (fvs s v k) j; omega
        clear hok
        obtain ⟨hc0, hc1, hc2⟩ := one_box3 HBL2.out
        go_wp2_with fail
        with_reducible refine (l1Has_any (fsz k) s v a c k (j : Int) _ HSL2.out (Nat.le_refl _) (by omega)).mono ?_
        rintro e w3 ⟨rfl, hb3⟩
        have hs3 := hb3.size
        have HBL3 := Lib.hid (HBL2.out.trans (hb3.mono (by omega)))
        have HIO3 := Lib.hid (HIO2.out.low hb3)
        clear hb3 hc0 hc1 hc2
        cases hin : decide ((j : Int) ∈ fvs s v k) with
        | true =>
          have HE : Hid (ys ++ [(j : Int)] = (if okW s v k 16 = true then among (fvs s v k) (j + 1) else [])) := by
            unfold Hid
            rw [HY.out, HOK.out, among_succ, if_pos (of_decide_eq_true hin)]
            rfl
          have HLT : Hid (∀ g, (Value.slice A' ys.length C').ownBlock = some g → w.heap.size + 1 ≤ g) := fun g hg => (HIO3.out.lt g hg).1
          have HO1 : Hid ((w3.alloc (.cells #[.int .i64 (j : Int)] 3)).ownsRow (w.heap.size + 1) 3 1 (.slice A' ys.length C') ys.length (ys.map (Value.int .i64))) := HIO3.out.alloc _
          clear hin
          go_wp2_with (at_builtin; refine wpList_append_src _ rfl _ _ 33 rfl (w.heap.size + 1) 3 ti _ 1 8 Try.underlying33 HTI.out.1 HTI.out.2.1 HTI.out.2.2.1 HTI.out.2.2.2 rfl (by omega) (.slice A' ys.length C') ys.length (ys.map (Value.int .i64)) rfl HO1.out (some ⟨w3.heap.size, 0, none⟩) 1 1 [.int .i64 (j : Int)] rfl ⟨rfl, .inr ⟨_, rfl, World.news_of_block (heap_alloc_new _ _)⟩⟩ (by simp [Value.oneCell']) (by unfold maxLen; omega) (by omega) (by simp; omega) ?_; intro A1 C1 w1 hown1 hgrow1 hat1)
          have hlen' : (ys ++ [(j : Int)]).length = ys.length + 1 := by simp
          have HIO1 : Hid (IOwn w1 (w.heap.size + 1) (ys ++ [(j : Int)]) A1 C1) := by
            unfold Hid IOwn
            rw [hlen', List.map_append]
            exact hown1
          have HB1 := Lib.hid ((HBL3.out.alloc (by omega) _).grown hgrow1 (by simp; omega) HLT.out)
          clear hown1 hgrow1 hat1
          first
            | (refine ⟨⟨j + 1, ys ++ [(j : Int)], A1, C1, by omega, by go_num, by rw [hlen'], HE, HIO1.out, HB1.out⟩, ?_⟩; simp [intOf]; omega)
            | (go_wp2_with fail
               go_roundw
               case rel => exact ⟨j + 1, ys ++ [(j : Int)], A1, C1, by omega, by go_num, by rw [hlen'], HE, HIO1.out, HB1.out⟩
               case measure => simp [intOf]; omega)
        | false =>
          have HE : Hid (ys = (if okW s v k 16 = true then among (fvs s v k) (j + 1) else [])) := by
            unfold Hid
            rw [HY.out, HOK.out, among_succ, if_neg (of_decide_eq_false hin), List.append_nil]
            rfl
          clear hin
          go_wp2_with fail
          go_roundw
          case rel => exact ⟨j + 1, ys, A', C', by omega, by go_num, rfl, HE, HIO3.out, HBL3.out⟩
          case measure => simp [intOf]; omega
    · have hj12 : j = 12 := by omega
      subst hj12
      have HE : Hid (ys = tvR s v k) := hq.out
      clear hq
      go_wp2_with fail
      go_ret
      exact ⟨A', C', ys, HE.out, rfl, hbw, hio.base (by omega)⟩

end Go.Proofs.Ytebalmemncldlab
