/- addVars: the variables of a node, appended as they come. -/
import Derived.Test.YtebalmemncldlabV0
namespace Go.Proofs.Ytebalmemncldlab
open Go.RowKit Go.Deep

theorem assert_varV (v : Int) (w : World) : (Instr.typeAssert (.iface 107 (.int .i64 v)) 66 107 true).run Try.prog w = .ok (.tuple #[.int .i64 v, .bool true]) w := by kernel_rfl
theorem assert_symV (s : Int) (a : Option Addr) (n c : Nat) (w : World) : (Instr.typeAssert (.iface 109 (.agg #[.int .i64 s, .slice a n c])) 66 107 true).run Try.prog w = .ok (.tuple #[.int .i64 0, .bool false]) w := by kernel_rfl

/-- A row of numbers of the call's own. -/
def IOwn (w : World) (base : Nat) (xs : List Int) (A : Option Addr) (C : Nat) : Prop := w.ownsRow base 3 1 (.slice A xs.length C) xs.length (xs.map (Value.int .i64))

def AvPost (base : Nat) (xs : List Int) (s v : Int) (k : Fo) (w : World) (e : Ending) (w' : World) : Prop :=
  ∃ ys A C, ys = xs ++ fvs s v k ∧ e = .returned (.slice A ys.length C) ∧ IOwn w' base ys A C ∧ Below base w w'

set_option maxRecDepth 100000 in
set_option maxHeartbeats 1000000 in
theorem addVars_any (base N : Nat) : ∀ (s v : Int) (k : Fo) (nv : Value) (xs : List Int) (A : Option Addr) (C : Nat) (w : World), base ≤ w.heap.size → NodeIs w 0 base nv s v k → IOwn w base xs A C → fsz k ≤ N → N ≤ 1000 → xs.length + fsz k ≤ 2000 →
    Calls Try.prog 60 #[.slice A xs.length C, nv] w (AvPost base xs s v k w) := by
  induction N using Nat.strongRecOn with
  | _ N ih =>
    intro s v k nv xs A C w hbase hn hown hN hN2 hlen
    have hfl := flen_le_sz k
    have IH := Lib.hid ih
    clear ih
    have hta := assert_varV
    have htb := assert_symV
    have htc := assert_sym
    obtain ⟨ti, hti, htz, hts, htb'⟩ := Try.infoI
    have HTI : Hid (Try.prog.info? 3 = some ti ∧ ti.zero = some (.int .i64 0) ∧ ti.size = 1 ∧ ti.bytes = 8) := ⟨hti, htz, hts, htb'⟩
    have HOWN := Lib.hid hown
    have HLT : Hid (∀ g, (Value.slice A xs.length C).ownBlock = some g → base ≤ g) := fun g hg => (hown.lt g hg).1
    clear hti htz hts htb' hown
    rcases hn with ⟨rfl, rfl, rfl⟩ | ⟨hs, a, c, rfl, hn⟩
    · have HO1 : Hid ((w.alloc (.cells #[.int .i64 v] 3)).ownsRow base 3 1 (.slice A xs.length C) xs.length (xs.map (Value.int .i64))) := HOWN.out.alloc _
      go_enter Try.func60, Try.ntmps60
      go_wp2_with (at_builtin; refine wpList_append_src _ rfl _ _ 33 rfl base 3 ti _ 1 8 Try.underlying33 HTI.out.1 HTI.out.2.1 HTI.out.2.2.1 HTI.out.2.2.2 rfl (by omega) (.slice A xs.length C) xs.length (xs.map (Value.int .i64)) rfl HO1.out (some ⟨w.heap.size, 0, none⟩) 1 1 [.int .i64 v] rfl ⟨rfl, .inr ⟨_, rfl, World.news_of_block (heap_alloc_new _ _)⟩⟩ (by simp [Value.oneCell']) (by unfold maxLen; omega) (by omega) (by simp; omega) ?_; intro A1 C1 w1 hown1 hgrow1 hat1)
      go_wp2_with fail
      go_ret
      have hlen' : (xs ++ [v]).length = xs.length + 1 := by simp
      refine ⟨xs ++ [v], A1, C1, by simp [fvs], by rw [hlen']; rfl, ?_, ((Below.refl _ _).alloc hbase _).grown hgrow1 (by simp; omega) HLT.out⟩
      unfold IOwn
      rw [hlen', List.map_append]
      exact hown1
    · have HN := Lib.hid hn
      have HV : Hid (fvs s v k = fvl k) := by unfold Hid fvs; rw [if_neg hs]
      have HST : Hid (IOwn (w.alloc (.cells #[.int .i64 s, .slice a (flen k) c] 109)) base xs A C) := HOWN.out.alloc _
      clear hn
      go_enter Try.func60, Try.ntmps60
      go_wp2_with fail
      go_loopw [0, 23] (fun t i wr => ∃ (j : Nat) (ys : List Int) (A' : Option Addr) (C' : Nat), j ≤ flen k ∧ i = .int .i64 j ∧ t = .slice A' ys.length C' ∧ Hid (xs ++ fvl k = ys ++ fvl (fdrop j k)) ∧ IOwn wr base ys A' C' ∧ Below base w wr) (fun _ i _ => flen k - (intOf i).toNat)
      case atStart => exact ⟨0, xs, A, C, by omega, rfl, rfl, rfl, HST.out, (Below.refl _ _).alloc hbase _⟩
      case round =>
        clear HST
        obtain ⟨j, ys, A', C', hj, rfl, rfl, hq, hio, hbl⟩ := hrel
        have hbs := hbl.size
        by_cases hlt : j < flen k
        · have hnr := HN.out.below hbl
          rcases hnr with rfl | ⟨b, o, rfl, hrow⟩
          · simp [flen] at hlt
          obtain ⟨s', v', kk, val, ⟨x, y, hd⟩, _, hbB, hk0, hnk⟩ := nrow_at hrow hlt
          obtain ⟨ty2, vv2, rfl⟩ : ∃ ty vv, val = .iface ty vv := by
            rcases hnk with ⟨_, _, rfl⟩ | ⟨_, _, _, rfl, _⟩
            · exact ⟨_, _, rfl⟩
            · exact ⟨_, _, rfl⟩
          have hkN := fsz_kid hd
          have hdl := fsz_drop j k
          have hq1 := hq.out
          have hlq := congrArg List.length hq1
          have hfv := fvl_sz k
          rw [hd] at hdl hq1 hlq
          have HQ : Hid (xs ++ fvl k = (ys ++ fvs s' v' kk) ++ fvl (fdrop (j + 1) k)) := by
            unfold Hid
            rw [hq1]
            simp [fvl, fvs]
          simp only [List.length_append] at hlq
          have hyl : ys.length + fsz kk ≤ 2000 := by
            have h2 := fvl_ge j k
            rw [hd] at h2
            simp only [fsz] at h2
            omega
          have HNK := Lib.hid hnk
          have HIO := Lib.hid hio
          have HBL := Lib.hid hbl
          clear hd hrow hq hq1 hnk hio hbl hlq
          go_wp2_with fail
          with_reducible refine (IH.out (fsz kk) (by omega) s' v' kk _ ys A' C' _ (by omega) HNK.out HIO.out (Nat.le_refl _) (by omega) hyl).mono ?_
          rintro e w2 ⟨zs, A2, C2, rfl, rfl, hio2, hb2⟩
          have HB2 := Lib.hid (HBL.out.trans hb2)
          have HIO2 := Lib.hid hio2
          clear hb2 hio2 hk0
          go_wp2_with fail
          go_roundw
          case rel => exact ⟨j + 1, ys ++ fvs s' v' kk, A2, C2, by omega, by go_num, by rw [List.length_append], HQ, HIO2.out, HB2.out⟩
          case measure => simp [intOf]; omega
        · have HE : Hid (ys = xs ++ fvs s v k) := by
            have h := hq.out
            rw [fdrop_all (by omega)] at h
            rw [Hid, HV.out, h]
            simp [fvl]
          clear hq
          go_wp2_with fail
          go_ret
          exact ⟨ys, A', C', HE.out, rfl, hio, hbl⟩
end Go.Proofs.Ytebalmemncldlab
