/- Several texts in one: V1, SHv, V3, V4, V4b, V5d, V5, FrameO, Frame, XJ, XIe. -/
import Derived.Test.YtkmfnhoeigoajabKVar10
import Derived.Test.YtkmfnhoeigoajabProg
import Derived.Shelf.Sort.Plain
import Derived.Shelf.Slices.CompactI
import Derived.Shelf.Slices.In.SortNone
import Derived.Ground.NamesProg
import Derived.Ground.Names2Prog
import Derived.Sort.OwnSortedInts
import Derived.Lib.OwnBridge
import Derived.Test.YtkmfnhoeigoajabKVar1
import Derived.Test.YtkmfnhoeigoajabKVar6
import Derived.Test.YtkmfnhoeigoajabRows
import Derived.WalkKit
import Derived.ProofKit
import Derived.OpenShut
import Derived.ShutString
import Derived.ChangeOld
import Derived.Below
import Derived.Test.YtkmfnhoeigoajabKVar2
import Derived.Deep.OwnRows

/-! V1: addVars: the variables of a node, appended as they come. -/
namespace Go.Proofs.Ytkmfnhoeigoajab
open Go.RowKit Go.Deep

theorem assert_varV (v : Int) (w : World) : (Instr.typeAssert (.iface 90 (.int .i64 v)) 60 90 true).run Try.prog w = .ok (.tuple #[.int .i64 v, .bool true]) w := by kernel_rfl
theorem assert_symV (s : Int) (a : Option Addr) (n c : Nat) (w : World) : (Instr.typeAssert (.iface 88 (.agg #[.int .i64 s, .slice a n c])) 60 90 true).run Try.prog w = .ok (.tuple #[.int .i64 0, .bool false]) w := by kernel_rfl

/-- A row of numbers of the call's own. -/
def AvPost (base : Nat) (xs : List Int) (s v : Int) (k : Fo) (w : World) (e : Ending) (w' : World) : Prop :=
  ∃ ys A C, ys = xs ++ fvs s v k ∧ e = .returned (.slice A ys.length C) ∧ IOwn w' base ys A C ∧ Below base w w'

set_option maxRecDepth 100000 in
set_option maxHeartbeats 1000000 in
theorem addVars_any (base N : Nat) : ∀ (s v : Int) (k : Fo) (nv : Value) (xs : List Int) (A : Option Addr) (C : Nat) (w : World), base ≤ w.heap.size → NodeIs w 0 base nv s v k → IOwn w base xs A C → fsz k ≤ N → N ≤ 1000 → xs.length + fsz k ≤ 2000 →
    Calls Try.prog 41 #[.slice A xs.length C, nv] w (AvPost base xs s v k w) := by
  induction N using Nat.strongRecOn with
  | _ N ih =>
    intro s v k nv xs A C w hbase hn hown hN hN2 hlen
    have hfl := flen_le_sz k
    have IH := Lib.hid ih
    clear ih
    have hta := assert_varV
    have htb := assert_symV
    have htc := assert_sym
    obtain ⟨ti, hti, htz, hts, htb'⟩ := Try.infoI
    have HTI : Hid (Try.prog.info? 3 = some ti ∧ ti.zero = some (.int .i64 0) ∧ ti.size = 1 ∧ ti.bytes = 8) := ⟨hti, htz, hts, htb'⟩
    have HOWN := Lib.hid hown
    have HLT : Hid (∀ g, (Value.slice A xs.length C).ownBlock = some g → base ≤ g) := fun g hg => (hown.lt g hg).1
    clear hti htz hts htb' hown
    rcases hn with ⟨rfl, rfl, rfl⟩ | ⟨hs, a, c, rfl, hn⟩
    · have HO1 : Hid ((w.alloc (.cells #[.int .i64 v] 3)).ownsRow base 3 1 (.slice A xs.length C) xs.length (xs.map (Value.int .i64))) := HOWN.out.alloc _
      go_enter Try.func41, Try.ntmps41
      go_wp2_with (at_builtin; refine wpList_append_src _ rfl _ _ 26 rfl base 3 ti _ 1 8 Try.underlying26 HTI.out.1 HTI.out.2.1 HTI.out.2.2.1 HTI.out.2.2.2 rfl (by omega) (.slice A xs.length C) xs.length (xs.map (Value.int .i64)) rfl HO1.out (some ⟨w.heap.size, 0, none⟩) 1 1 [.int .i64 v] rfl ⟨rfl, .inr ⟨_, rfl, World.news_of_block (heap_alloc_new _ _)⟩⟩ (by simp [Value.oneCell']) (by unfold maxLen; omega) (by omega) (by simp; omega) ?_; intro A1 C1 w1 hown1 hgrow1 hat1)
      go_wp2_with fail
      go_ret
      have hlen' : (xs ++ [v]).length = xs.length + 1 := by simp
      refine ⟨xs ++ [v], A1, C1, by simp [fvs], by rw [hlen']; rfl, ?_, ((Below.refl _ _).alloc hbase _).grown hgrow1 (by simp; omega) HLT.out⟩
      unfold IOwn
      rw [hlen', List.map_append]
      exact hown1
    · have HN := Lib.hid hn
      have HV : Hid (fvs s v k = fvl k) := by unfold Hid fvs; rw [if_neg hs]
      have HST : Hid (IOwn (w.alloc (.cells #[.int .i64 s, .slice a (flen k) c] 88)) base xs A C) := HOWN.out.alloc _
      clear hn
      go_enter Try.func41, Try.ntmps41
      go_wp2_with fail
      go_loopw [0, 23] (fun t i wr => ∃ (j : Nat) (ys : List Int) (A' : Option Addr) (C' : Nat), j ≤ flen k ∧ i = .int .i64 j ∧ t = .slice A' ys.length C' ∧ Hid (xs ++ fvl k = ys ++ fvl (fdrop j k)) ∧ IOwn wr base ys A' C' ∧ Below base w wr) (fun _ i _ => flen k - (intOf i).toNat)
      case atStart => exact ⟨0, xs, A, C, by omega, rfl, rfl, rfl, HST.out, (Below.refl _ _).alloc hbase _⟩
      case round =>
        clear HST
        obtain ⟨j, ys, A', C', hj, rfl, rfl, hq, hio, hbl⟩ := hrel
        have hbs := hbl.size
        by_cases hlt : j < flen k
        · have hnr := HN.out.below hbl
          rcases hnr with rfl | ⟨b, o, rfl, hrow⟩
          · simp [flen] at hlt
          obtain ⟨s', v', kk, val, ⟨x, y, hd⟩, _, hbB, hk0, hnk⟩ := nrow_at hrow hlt
          obtain ⟨ty2, vv2, rfl⟩ : ∃ ty vv, val = .iface ty vv := by
            rcases hnk with ⟨_, _, rfl⟩ | ⟨_, _, _, rfl, _⟩
            · exact ⟨_, _, rfl⟩
            · exact ⟨_, _, rfl⟩
          have hkN := fsz_kid hd
          have hdl := fsz_drop j k
          have hq1 := hq.out
          have hlq := congrArg List.length hq1
          have hfv := fvl_sz k
          rw [hd] at hdl hq1 hlq
          have HQ : Hid (xs ++ fvl k = (ys ++ fvs s' v' kk) ++ fvl (fdrop (j + 1) k)) := by
            unfold Hid
            rw [hq1]
            simp [fvl, fvs]
          simp only [List.length_append] at hlq
          have hyl : ys.length + fsz kk ≤ 2000 := by
            have h2 := fvl_ge j k
            rw [hd] at h2
            simp only [fsz] at h2
            omega
          have HNK := Lib.hid hnk
          have HIO := Lib.hid hio
          have HBL := Lib.hid hbl
          clear hd hrow hq hq1 hnk hio hbl hlq
          go_wp2_with fail
          with_reducible refine (IH.out (fsz kk) (by omega) s' v' kk _ ys A' C' _ (by omega) HNK.out HIO.out (Nat.le_refl _) (by omega) hyl).mono ?_
          rintro e w2 ⟨zs, A2, C2, rfl, rfl, hio2, hb2⟩
          have HB2 := Lib.hid (HBL.out.trans hb2)
          have HIO2 := Lib.hid hio2
          clear hb2 hio2 hk0
          go_wp2_with fail
          go_roundw
          case rel => exact ⟨j + 1, ys ++ fvs s' v' kk, A2, C2, by omega, by go_num, by rw [List.length_append], HQ, HIO2.out, HB2.out⟩
          case measure => simp [intOf]; omega
        · have HE : Hid (ys = xs ++ fvs s v k) := by
            have h := hq.out
            rw [fdrop_all (by omega)] at h
            rw [Hid, HV.out, h]
            simp [fvl]
          clear hq
          go_wp2_with fail
          go_ret
          exact ⟨ys, A', C', HE.out, rfl, hio, hbl⟩
end Go.Proofs.Ytkmfnhoeigoajab

/-! SHv: The contracts of slices.Sort and slices.Compact at this program. -/
namespace Go.Proofs
open Go.Shelf
def Try.lays189_ren : Go.Shelf.Ren := ⟨fun | 189 => 42 | 125 => 63 | 257 => 62 | 128 => 79 | 129 => 80 | 294 => 70 | 295 => 71 | 296 => 72 | 297 => 73 | 298 => 74 | 299 => 75 | 216 => 76 | 300 => 77 | 301 => 78 | 328 => 81 | 329 => 82 | 330 => 83 | 331 => 84 | 332 => 85 | 215 => 86 | 343 => 87 | n => n, fun | 28 => 26 | 3 => 3 | 46 => 93 | 0 => 0 | 51 => 109 | 53 => 111 | 4 => 4 | 183 => 101 | 182 => 100 | 131 => 106 | 5 => 5 | 9 => 9 | 218 => 112 | 222 => 85 | 228 => 118 | 229 => 119 | n => n, fun | n => n⟩
theorem Try.lays189 : Go.Proofs.Lays.n189 Try.prog Try.lays189_ren := {
  mixed := by kernel_rfl
  f125 := Try.func63.trans (congrArg some (by kernel_rfl))
  f128 := Try.func79.trans (congrArg some (by kernel_rfl))
  f129 := Try.func80.trans (congrArg some (by kernel_rfl))
  f189 := Try.func42.trans (congrArg some (by kernel_rfl))
  f215 := Try.func86.trans (congrArg some (by kernel_rfl))
  f216 := Try.func76.trans (congrArg some (by kernel_rfl))
  f257 := Try.func62.trans (congrArg some (by kernel_rfl))
  f294 := Try.func70.trans (congrArg some (by kernel_rfl))
  f295 := Try.func71.trans (congrArg some (by kernel_rfl))
  f296 := Try.func72.trans (congrArg some (by kernel_rfl))
  f297 := Try.func73.trans (congrArg some (by kernel_rfl))
  f298 := Try.func74.trans (congrArg some (by kernel_rfl))
  f299 := Try.func75.trans (congrArg some (by kernel_rfl))
  f300 := Try.func77.trans (congrArg some (by kernel_rfl))
  f301 := Try.func78.trans (congrArg some (by kernel_rfl))
  f328 := Try.func81.trans (congrArg some (by kernel_rfl))
  f329 := Try.func82.trans (congrArg some (by kernel_rfl))
  f330 := Try.func83.trans (congrArg some (by kernel_rfl))
  f331 := Try.func84.trans (congrArg some (by kernel_rfl))
  f332 := Try.func85.trans (congrArg some (by kernel_rfl))
  f343 := Try.func87.trans (congrArg some (by kernel_rfl))
  t0 := Try.underlying0
  a0 := Try.isAgg0
  z0 := Try.sizeOf0
  v0 := Try.zeroValue0
  t3 := Try.underlying3
  a3 := Try.isAgg3
  z3 := Try.sizeOf3
  v3 := Try.zeroValue3
  t4 := Try.underlying4
  a4 := Try.isAgg4
  z4 := Try.sizeOf4
  v4 := Try.zeroValue4
  t5 := Try.underlying5
  a5 := Try.isAgg5
  z5 := Try.sizeOf5
  v5 := Try.zeroValue5
  t9 := Try.underlying9
  a9 := Try.isAgg9
  z9 := Try.sizeOf9
  v9 := Try.zeroValue9
  t28 := Try.underlying26
  a28 := Try.isAgg26
  z28 := Try.sizeOf26
  v28 := Try.zeroValue26
  t46 := Try.underlying93
  a46 := Try.isAgg93
  z46 := Try.sizeOf93
  v46 := Try.zeroValue93
  t51 := Try.underlying109
  a51 := Try.isAgg109
  z51 := Try.sizeOf109
  v51 := Try.zeroValue109
  t53 := Try.underlying111
  a53 := Try.isAgg111
  z53 := Try.sizeOf111
  v53 := Try.zeroValue111
  t131 := Try.underlying106
  a131 := Try.isAgg106
  z131 := Try.sizeOf106
  v131 := Try.zeroValue106
  t182 := Try.underlying100
  a182 := Try.isAgg100
  z182 := Try.sizeOf100
  v182 := Try.zeroValue100
  t183 := Try.underlying101
  a183 := Try.isAgg101
  z183 := Try.sizeOf101
  v183 := Try.zeroValue101
  t218 := Try.underlying112
  a218 := Try.isAgg112
  z218 := Try.sizeOf112
  v218 := Try.zeroValue112
  t222 := Try.underlying85
  a222 := Try.isAgg85
  z222 := Try.sizeOf85
  v222 := Try.zeroValue85
  t228 := Try.underlying118
  a228 := Try.isAgg118
  z228 := Try.sizeOf118
  v228 := Try.zeroValue118
  t229 := Try.underlying119
  a229 := Try.isAgg119
  z229 := Try.sizeOf119
  v229 := Try.zeroValue119 }
def Try.laysNm220_ren : Go.Shelf.Ren := ⟨fun | 20 => 43 | n => n, fun | 22 => 26 | 3 => 3 | 4 => 4 | 0 => 0 | n => n, fun | n => n⟩
theorem Try.laysNm220 : Go.Proofs.Lays2.n20 Try.prog Try.laysNm220_ren := {
  mixed := by kernel_rfl
  f20 := Try.func43.trans (congrArg some (by kernel_rfl))
  t0 := Try.underlying0
  a0 := Try.isAgg0
  z0 := Try.sizeOf0
  v0 := Try.zeroValue0
  t3 := Try.underlying3
  a3 := Try.isAgg3
  z3 := Try.sizeOf3
  v3 := Try.zeroValue3
  t4 := Try.underlying4
  a4 := Try.isAgg4
  z4 := Try.sizeOf4
  v4 := Try.zeroValue4
  t22 := Try.underlying26
  a22 := Try.isAgg26
  z22 := Try.sizeOf26
  v22 := Try.zeroValue26
  i3 := by kernel_rfl }
end Go.Proofs

/-! V3: slices.Sort and slices.Compact on numbers of the call's own; impl.TermVars. -/
namespace Go.Proofs.Ytkmfnhoeigoajab
open Go.RowKit Go.Deep Go.Sort

/-- Sorted. -/
def srt (xs : List Int) : List Int := xs.mergeSort fun x y => decide (x ≤ y)
theorem srt_len (xs : List Int) : (srt xs).length = xs.length := List.length_mergeSort _

theorem iown_some {w : World} {base : Nat} {xs : List Int} {A : Option Addr} {C : Nat} (h : IOwn w base xs A C) (hx : 0 < xs.length) :
    ∃ g cur, A = some ⟨g, 0, none⟩ ∧ base ≤ g ∧ g < w.heap.size ∧ xs.length ≤ C ∧ C ≤ maxLen ∧ cur.size = C * 1 ∧ w.heap[g]? = some (.cells cur 3 (0, 0)) ∧ Holds (Value.int .i64) w g 0 xs.toArray := by
  rcases h.2 with ⟨_, h0⟩ | ⟨g, cap, cur, hv, hb, hg, hn, hm, hs, ht⟩
  · omega
  · simp only [Value.slice.injEq] at hv
    obtain ⟨rfl, _, rfl⟩ := hv
    have hlt : g < w.heap.size := by
      rcases Nat.lt_or_ge g w.heap.size with h' | h'
      · exact h'
      · rw [Array.getElem?_eq_none h'] at hg; cases hg
    exact ⟨g, cur, rfl, hb, hlt, hn, hm, hs, hg, holds_of_blockI hg (by rw [Nat.mul_one] at ht; exact ht)⟩

theorem sort_any (base : Nat) (xs : List Int) (A : Option Addr) (C : Nat) (w : World) (h : IOwn w base xs A C) (hl : xs.length ≤ 2000) (hb : base ≤ w.heap.size) :
    Calls Try.prog 42 #[.slice A xs.length C] w fun e w' => e = .returned (.tuple #[]) ∧ w'.ownsRow base 3 1 (.slice A xs.length C) xs.length ((srt xs).map (Value.int .i64)) ∧ Below base w w' := by
  rcases Nat.eq_zero_or_pos xs.length with h0 | h0
  · have hx := List.eq_nil_of_length_eq_zero h0
    subst hx
    refine (Any.slices_Sort_int_none Try.lays189 A C w).mono ?_
    rintro e w' ⟨rfl, rfl⟩
    exact ⟨rfl, by simpa [srt, IOwn] using h, Below.refl _ _⟩
  · obtain ⟨g, cur, rfl, hbg, hgl, hc, hm, hs, hg, hH⟩ := iown_some h h0
    refine (Any.slices_Sort_int Try.lays189 g 0 C xs w hH hgl (by omega)).mono ?_
    rintro e w' ⟨rfl, n, os, rfl⟩
    exact ⟨rfl, ownsRow_sortedI (ss := xs) (ts := srt xs) (srt_len xs) hbg hg hc hm hs, (Below.refl _ _).grown (grownBy_sortedI _) hb (fun k hk => by simp at hk; omega)⟩

theorem compact_any (base : Nat) (zs : List Int) (A : Option Addr) (C : Nat) (w : World) (h : IOwn w base zs A C) (hl : zs.length ≤ 2000) (hb : base ≤ w.heap.size) :
    Calls Try.prog 43 #[.slice A zs.length C] w fun e w' => ∃ A' C', e = .returned (.slice A' (Lib.compact zs).length C') ∧ IOwn w' base (Lib.compact zs) A' C' ∧ Below base w w' := by
  rcases Nat.eq_zero_or_pos zs.length with h0 | h0
  · have hx := List.eq_nil_of_length_eq_zero h0
    subst hx
    refine (Any.slices_Compact_int_empty Try.laysNm220 A C w).mono ?_
    rintro e w' ⟨rfl, rfl⟩
    exact ⟨A, C, by simp [Lib.compact, Lib.compactUpTo], by simpa [Lib.compact, Lib.compactUpTo, IOwn] using h, Below.refl _ _⟩
  · obtain ⟨g, cur, rfl, hbg, hgl, hc, hm, hs, hg, hH⟩ := iown_some h h0
    refine (Any.slices_Compact_int Try.laysNm220 g 0 C zs w hH (by omega) hc).mono ?_
    rintro e w' ⟨rfl, q, rfl⟩
    have hle := Lib.compact_length_le zs
    have h1 := Lib.ownsRow_putRow (q := q) (ys := Lib.compact zs ++ List.replicate (zs.length - (Lib.compact zs).length) 0) (k := (Lib.compact zs).length) h (by simp; omega) hle
    refine ⟨_, _, rfl, ?_, Lib.below_putRow (Below.refl _ _) hbg⟩
    unfold IOwn
    rw [List.take_left' rfl] at h1
    exact h1

def tvR (s v : Int) (k : Fo) : List Int := if okW s v k 16 = true then among (fvs s v k) 12 else []
theorem among_len (xs : List Int) (n : Nat) : (among xs n).length ≤ n := by
  refine Nat.le_trans (List.length_filter_le _ _) ?_
  simp
theorem tvR_len (s v : Int) (k : Fo) : (tvR s v k).length ≤ 12 := by
  unfold tvR
  split
  · exact among_len _ _
  · simp
def TvPost (s v : Int) (k : Fo) (w : World) (e : Ending) (w' : World) : Prop :=
  ∃ A C xs, xs = tvR s v k ∧ e = .returned (.slice A (List.length xs) C) ∧ Below w.heap.size w w' ∧ IOwn w' w.heap.size xs A C

set_option maxRecDepth 100000 in
set_option maxHeartbeats 1000000 in
theorem iTermVars_any (s v : Int) (a : Option Addr) (c : Nat) (k : Fo) (w : World) (hl : Sl w 0 w.heap.size a k) :
    Calls Try.prog 13 #[.agg #[.int .i64 s, .int .i64 v, .slice a (flen k) c]] w (TvPost s v k w) := by
  have HL := Lib.hid hl
  clear hl
  have hb0 : Below w.heap.size w (w.alloc (.cells #[.int .i64 s, .int .i64 v, .slice a (flen k) c] 25)) := (Below.refl _ _).alloc (Nat.le_refl _) _
  have HB0 := Lib.hid hb0
  clear hb0
  go_enter Try.func13, Try.ntmps13
  go_wp2_with fail
  with_reducible refine (nodeOf_any s v a c k 16 _ ?_ (by omega) (by omega)).mono ?_
  · exact (HL.out.below HB0.out).mono (Nat.le_refl _) HB0.out.size
  rintro e w2 ⟨nv, rfl, hb, hyes⟩
  have hs2 := hb.size
  simp at hs2
  have HB2 := Lib.hid (HB0.out.trans (hb.mono HB0.out.size))
  clear hb
  cases hok : okW s v k 16 with
  | false =>
    have HR : Hid (tvR s v k = []) := by unfold Hid tvR; rw [hok]; rfl
    clear hok hyes
    go_wp2_with fail
    go_ret
    exact ⟨none, 0, [], HR.out.symm, rfl, HB2.out, World.ownsRow_nil _ _ _ _⟩
  | true =>
    have hsz := ((okW_iff _ _ _ _).1 hok).2.2
    have HN := Lib.hid ((hyes hok).mono (lo' := 0) (Nat.zero_le _) (Nat.le_refl _))
    have HR : Hid (tvR s v k = Lib.compact (srt (fvs s v k))) := by unfold Hid tvR srt; rw [hok, compact_among _ (fvs_in hok)]; rfl
    have HNIL : Hid (IOwn w2 w2.heap.size [] none 0) := World.ownsRow_nil _ _ _ _
    clear hok hyes
    obtain ⟨ty, vv, rfl⟩ : ∃ ty vv, nv = .iface ty vv := by
      rcases HN.out with ⟨_, _, rfl⟩ | ⟨_, _, _, rfl, _⟩
      · exact ⟨_, _, rfl⟩
      · exact ⟨_, _, rfl⟩
    have hfs := fvs_sz s v k
    have HCV : Hid (Calls Try.prog 41 #[.slice none 0 0, .iface ty vv] w2 (AvPost w2.heap.size [] s v k w2)) := addVars_any w2.heap.size (fsz k) s v k _ [] none 0 _ (Nat.le_refl _) HN.out HNIL.out (Nat.le_refl _) (by omega) (by simp; omega)
    go_wp2_with fail
    with_reducible refine HCV.out.mono ?_
    rintro e w3 ⟨ys, A3, C3, hys, rfl, hio3, hb3⟩
    rw [List.nil_append] at hys
    subst hys
    have hs3 := hb3.size
    have HIO3 := Lib.hid hio3
    have HB3 := Lib.hid (HB2.out.trans (hb3.mono (by omega)))
    clear hio3 hb3
    go_wp2_with fail
    with_reducible refine (sort_any w2.heap.size (fvs s v k) A3 C3 _ HIO3.out (by omega) (by omega)).mono ?_
    rintro e w4 ⟨rfl, hown4, hb4⟩
    have hs4 := hb4.size
    have HIO4 : Hid (IOwn w4 w2.heap.size (srt (fvs s v k)) A3 C3) := by unfold Hid IOwn; rw [srt_len]; exact hown4
    have HB4 := Lib.hid (HB3.out.trans (hb4.mono (by omega)))
    have HCALL := Lib.hid (compact_any w2.heap.size (srt (fvs s v k)) A3 C3 w4 HIO4.out (by rw [srt_len]; omega) (by omega))
    rw [srt_len] at HCALL
    clear hown4 hb4
    go_wp2_with fail
    with_reducible refine HCALL.out.mono ?_
    rintro e w5 ⟨A5, C5, rfl, hio5, hb5⟩
    have HIO5 := Lib.hid hio5
    have HB5 := Lib.hid (HB4.out.trans (hb5.mono (by omega)))
    clear hio5 hb5
    go_wp2_with fail
    go_ret
    exact ⟨A5, C5, _, HR.out.symm, rfl, HB5.out, HIO5.out.base (by omega)⟩
end Go.Proofs.Ytkmfnhoeigoajab

/-! V4: spec.TermVars. -/
namespace Go.Proofs.Ytkmfnhoeigoajab
open Go.RowKit Go.Deep

theorem one_box3 {w wr : World} {x y z : Value} (h : Below (w.heap.size + 1) (w.alloc (.cells #[x, y, z] 25)) wr) :
    wr.cell? ⟨w.heap.size, 0, none⟩ = some x ∧ wr.cell? ⟨w.heap.size, 1, none⟩ = some y ∧ wr.cell? ⟨w.heap.size, 2, none⟩ = some z := by
  refine ⟨?_, ?_, ?_⟩
  · rw [h.cell (by simp), World.cell?_alloc_at _ _ _ _ (by simp)]; rfl
  · rw [h.cell (by simp), World.cell?_alloc_at _ _ _ _ (by simp)]; rfl
  · rw [h.cell (by simp), World.cell?_alloc_at _ _ _ _ (by simp)]; rfl

set_option maxRecDepth 100000 in
set_option maxHeartbeats 1000000 in
theorem sTermVars_any (s v : Int) (a : Option Addr) (c : Nat) (k : Fo) (w : World) (hl : Sl w 0 w.heap.size a k) :
    Calls Try.prog 17 #[.agg #[.int .i64 s, .int .i64 v, .slice a (flen k) c]] w (TvPost s v k w) := by
  have HL := Lib.hid hl
  clear hl
  obtain ⟨ti, hti, htz, hts, htb'⟩ := Try.infoI
  have HTI : Hid (Try.prog.info? 3 = some ti ∧ ti.zero = some (.int .i64 0) ∧ ti.size = 1 ∧ ti.bytes = 8) := ⟨hti, htz, hts, htb'⟩
  clear hti htz hts htb'
  have HB0 : Hid (Below w.heap.size w (w.alloc (.cells #[.int .i64 s, .int .i64 v, .slice a (flen k) c] 25))) := (Below.refl _ _).alloc (Nat.le_refl _) _
  have HST : Hid (IOwn ((w.alloc (.cells #[.int .i64 s, .int .i64 v, .slice a (flen k) c] 25)).alloc (.cells #[] 3)) (w.heap.size + 1) [] (some ⟨w.heap.size + 1, 0, none⟩) 0) := by
    have h := heap_alloc_new (w.alloc (.cells #[.int .i64 s, .int .i64 v, .slice a (flen k) c] 25)) (.cells #[] 3)
    rw [World.size_alloc] at h
    exact own_empty h (Nat.le_refl _)
  go_enter Try.func17, Try.ntmps17
  go_wp2_with fail
  go_loopw [3, 4] (fun t i wr => ∃ (j : Nat) (ys : List Int) (A' : Option Addr) (C' : Nat), j ≤ 12 ∧ i = .int .i64 j ∧ t = .slice A' ys.length C' ∧ Hid (ys = (if okW s v k 16 = true then among (fvs s v k) j else [])) ∧ IOwn wr (w.heap.size + 1) ys A' C' ∧ Below (w.heap.size + 1) (w.alloc (.cells #[.int .i64 s, .int .i64 v, .slice a (flen k) c] 25)) wr) (fun _ i _ => 12 - (intOf i).toNat)
  case atStart => exact ⟨0, [], _, 0, by omega, rfl, rfl, by unfold Hid; split <;> simp [among], HST.out, (Below.refl _ _).alloc (by simp) _⟩
  case round =>
    clear HST
    obtain ⟨j, ys, A', C', hj, rfl, rfl, hq, hio, hbl⟩ := hrel
    have hbs := hbl.size
    simp at hbs
    have hbw := HB0.out.trans (hbl.mono (by omega))
    by_cases hlt : j < 12
    · obtain ⟨hc0, hc1, hc2⟩ := one_box3 hbl
      have HSL := Lib.hid ((HL.out.below hbw).mono (lo' := 0) (Nat.le_refl _) hbw.size)
      have HQ := Lib.hid hq.out
      have HIO := Lib.hid hio
      have HBL := Lib.hid hbl
      clear hq hio hbl hbw
      go_wp2_with fail
      with_reducible refine (sTermOk_any s v a c k _ HSL.out).mono ?_
      rintro e w2 ⟨rfl, hb2⟩
      have hs2 := hb2.size
      have HBL2 := Lib.hid (HBL.out.trans (hb2.mono (by omega)))
      have HIO2 := Lib.hid (HIO.out.low hb2)
      have HSL2 := Lib.hid (HSL.out.low hb2)
      clear hb2 hc0 hc1 hc2
      cases hok : okW s v k 16 with
      | false =>
        have HE : Hid (ys = tvR s v k) := by rw [Hid, HQ.out, tvR, hok]; rfl
        clear hok
        go_wp2_with fail
        go_ret
        exact ⟨A', C', ys, HE.out, rfl, HB0.out.trans (HBL2.out.mono (by omega)), HIO2.out.base (by omega)⟩
      | true =>
        have hsz := ((okW_iff _ _ _ _).1 hok).2.2
        have HY : Hid (ys = among (fvs s v k) j) := by rw [Hid, HQ.out, hok]; rfl
        have HOK := Lib.hid hok
        have hyl : ys.length ≤ 12 := by rw [HY.out]; have := among_len (fvs s v k) j; omega
        clear hok
        obtain ⟨hc0, hc1, hc2⟩ := one_box3 HBL2.out
        go_wp2_with fail
        with_reducible refine (l1Has_any (fsz k) s v a c k (j : Int) _ HSL2.out (Nat.le_refl _) (by omega)).mono ?_
        rintro e w3 ⟨rfl, hb3⟩
        have hs3 := hb3.size
        have HBL3 := Lib.hid (HBL2.out.trans (hb3.mono (by omega)))
        have HIO3 := Lib.hid (HIO2.out.low hb3)
        clear hb3 hc0 hc1 hc2
        cases hin : decide ((j : Int) ∈ fvs s v k) with
        | true =>
          have HE : Hid (ys ++ [(j : Int)] = (if okW s v k 16 = true then among (fvs s v k) (j + 1) else [])) := by
            unfold Hid
            rw [HY.out, HOK.out, among_succ, if_pos (of_decide_eq_true hin)]
            rfl
          have HLT : Hid (∀ g, (Value.slice A' ys.length C').ownBlock = some g → w.heap.size + 1 ≤ g) := fun g hg => (HIO3.out.lt g hg).1
          have HO1 : Hid ((w3.alloc (.cells #[.int .i64 (j : Int)] 3)).ownsRow (w.heap.size + 1) 3 1 (.slice A' ys.length C') ys.length (ys.map (Value.int .i64))) := HIO3.out.alloc _
          clear hin
          go_wp2_with (at_builtin; refine wpList_append_src _ rfl _ _ 26 rfl (w.heap.size + 1) 3 ti _ 1 8 Try.underlying26 HTI.out.1 HTI.out.2.1 HTI.out.2.2.1 HTI.out.2.2.2 rfl (by omega) (.slice A' ys.length C') ys.length (ys.map (Value.int .i64)) rfl HO1.out (some ⟨w3.heap.size, 0, none⟩) 1 1 [.int .i64 (j : Int)] rfl ⟨rfl, .inr ⟨_, rfl, World.news_of_block (heap_alloc_new _ _)⟩⟩ (by simp [Value.oneCell']) (by unfold maxLen; omega) (by omega) (by simp; omega) ?_; intro A1 C1 w1 hown1 hgrow1 hat1)
          have hlen' : (ys ++ [(j : Int)]).length = ys.length + 1 := by simp
          have HIO1 : Hid (IOwn w1 (w.heap.size + 1) (ys ++ [(j : Int)]) A1 C1) := by
            unfold Hid IOwn
            rw [hlen', List.map_append]
            exact hown1
          have HB1 := Lib.hid ((HBL3.out.alloc (by omega) _).grown hgrow1 (by simp; omega) HLT.out)
          clear hown1 hgrow1 hat1
          first
            | (refine ⟨⟨j + 1, ys ++ [(j : Int)], A1, C1, by omega, by go_num, by rw [hlen'], HE, HIO1.out, HB1.out⟩, ?_⟩; simp [intOf]; omega)
            | (go_wp2_with fail
               go_roundw
               case rel => exact ⟨j + 1, ys ++ [(j : Int)], A1, C1, by omega, by go_num, by rw [hlen'], HE, HIO1.out, HB1.out⟩
               case measure => simp [intOf]; omega)
        | false =>
          have HE : Hid (ys = (if okW s v k 16 = true then among (fvs s v k) (j + 1) else [])) := by
            unfold Hid
            rw [HY.out, HOK.out, among_succ, if_neg (of_decide_eq_false hin), List.append_nil]
            rfl
          clear hin
          go_wp2_with fail
          go_roundw
          case rel => exact ⟨j + 1, ys, A', C', by omega, by go_num, rfl, HE, HIO3.out, HBL3.out⟩
          case measure => simp [intOf]; omega
    · have hj12 : j = 12 := by omega
      subst hj12
      have HE : Hid (ys = tvR s v k) := hq.out
      clear hq
      go_wp2_with fail
      go_ret
      exact ⟨A', C', ys, HE.out, rfl, hbw, hio.base (by omega)⟩

end Go.Proofs.Ytkmfnhoeigoajab

/-! V4b: laIn: whether a number is among such. -/
namespace Go.Proofs.Ytkmfnhoeigoajab
open Go.RowKit Go.Deep

set_option maxRecDepth 100000 in
set_option maxHeartbeats 1000000 in
theorem laIn_any (xs : List Int) (A : Option Addr) (ca : Nat) (n : Int) (w : World) (hA : ISl w 0 w.heap.size A xs) (hx : xs.length ≤ 2000) :
    Calls Try.prog 14 #[.slice A xs.length ca, .int .i64 n] w fun e w' => e = .returned (.bool (decide (n ∈ xs))) ∧ Below w.heap.size w w' := by
  have HA := Lib.hid hA
  clear hA
  go_enter Try.func14, Try.ntmps14
  go_wp2_with fail
  go_loopw [5] (fun i wr => ∃ j : Nat, j ≤ xs.length ∧ i = .int .i64 j ∧ Hid (n ∈ xs ↔ n ∈ xs.drop j) ∧ Below w.heap.size w wr) (fun i _ => xs.length - (intOf i).toNat)
  case atStart => exact ⟨0, by omega, rfl, by simp [Hid], Below.refl _ _⟩
  case round =>
    obtain ⟨j, hj, rfl, hq, hbl⟩ := hrel
    have hbs := hbl.size
    by_cases hlt : j < xs.length
    · obtain ⟨b, o, rfl, _, hb1, hc⟩ := isl_at (HA.out.below hbl) hlt
      have hq1 := hq.out
      rw [List.drop_eq_getElem_cons hlt] at hq1
      have HQ := Lib.hid hq1
      clear hq hq1
      generalize xs[j] = x at hc HQ
      have g1 : (0 : Int) ≤ (j : Int) := by omega
      have g2 : (j : Int) < (xs.length : Int) := by omega
      by_cases hxn : x = n
      · subst hxn
        have ex : (x == x) = true := by simp
        have HE : Hid (decide (x ∈ xs) = true) := decide_eq_true (HQ.out.2 (by simp))
        go_wp2_with fail
        go_ret
        exact ⟨by rw [HE.out]; rfl, hbl⟩
      · have ex : (x == n) = false := by simpa using hxn
        have HE : Hid (n ∈ xs ↔ n ∈ xs.drop (j + 1)) := by
          have : n ≠ x := fun e => hxn e.symm
          rw [Hid, HQ.out]
          simp [this]
        go_wp2_with fail
        go_roundw
        case rel => exact ⟨j + 1, by omega, by go_num, HE, hbl⟩
        case measure => simp [intOf]; omega
    · have HE : Hid (decide (n ∈ xs) = false) := by
        refine decide_eq_false fun h => ?_
        have := hq.out.1 h
        rw [List.drop_eq_nil_of_le (by omega)] at this
        simp at this
      clear hq
      go_wp2_with fail
      go_ret
      exact ⟨by rw [HE.out]; rfl, hbl⟩
end Go.Proofs.Ytkmfnhoeigoajab

/-! V5d: DrawTermVars. -/
namespace Go.Proofs.Ytkmfnhoeigoajab
open Go.RowKit Go.Deep

set_option maxRecDepth 100000 in
set_option maxHeartbeats 1000000 in
theorem DrawTermVars_any (a : Option Addr) (len cap : Nat) (w : World) (hby : Bytes w a len) (hlen : len ≤ cap) :
    Calls Try.prog 15 #[.slice a len cap] w (TermPost 31000 w) := by
  have HBY := Lib.hid hby
  clear hby
  go_enter Try.func15, Try.ntmps15
  go_wp2_with fail
  with_reducible refine (l6Open_any a len cap _ (HBY.out.alloc _) hlen).mono ?_
  rintro e w1 ⟨rfl, hb1, hrd⟩
  have hb1' : Below (w.heap.size + 1) (w.alloc (.cells #[.int .i64 0, .int .i64 0, .slice none 0 0] 25)) w1 := hb1.mono (by simp)
  have hs1 := hb1.size
  simp at hs1
  simp only [World.size_alloc] at hrd
  have hlt1 := hrd.lt
  have HRD := Lib.hid hrd
  have HB1 := Lib.hid hb1'
  clear hb1 hb1' hrd
  simp only [World.size_alloc]
  go_wp2_with fail
  with_reducible refine (pick_any 4 (w.heap.size + 1) 0 _ HRD.out (by omega) (by omega) (by omega)).mono ?_
  rintro e w2 ⟨x, rfl, hx, hb2⟩
  have ha2 : Adv w1 (w.heap.size + 1) (0 + 1) w2 := hb2
  have hs2 := ha2.size
  have HB2 := Lib.hid (adv_low HB1.out (by omega) (by omega) ha2)
  have HRD2 := Lib.hid (ha2.rd HRD.out)
  clear ha2 hb2
  by_cases hx0 : x = 0
  · subst hx0
    go_wp2_with fail
    with_reducible refine (l71Some_any (w.heap.size + 1) (0 + 1) _ HRD2.out (by omega)).mono ?_
    rintro e w4 ⟨s4, v4, a4, c4, k4, p4, rfl, _, hp4, hS4, ha4, hl4⟩
    have hb4 := adv_low HB2.out (by omega) (by omega) ha4
    have HB4 := Lib.hid hb4
    obtain ⟨hr0, hr1, hr2, hf0, hf1, hf2⟩ := res_low hb4
    have HL4 := Lib.hid (hl4.mono (lo' := w.heap.size + 1) (by omega) (Nat.le_refl _))
    clear ha4 hl4 hb4
    go_wp2_with fail
    refine bodyPost_ret (v := .agg #[.int .i64 s4, .int .i64 v4, .slice a4 (flen k4) c4]) ?_ rfl (term_end HB4.out (by omega) HL4.out)
    simp [results, Try.results15, go_sem, hr0, hr1, hr2]
  · have x0 : ((x : Int) == 0) = false := by simpa using hx0
    go_wp2_with fail
    with_reducible refine (l71Term_any 4 4 12 (w.heap.size + 1) (0 + 1) _ (by omega) (by omega) (by omega) (by omega) (by omega) HRD2.out (by decide)).mono ?_
    rintro e w4 ⟨s4, v4, a4, c4, k4, p4, rfl, _, hp4, hS4, ha4, hl4⟩
    have hS4' : 1 + fsz k4 ≤ 31 := by simpa [szN] using hS4
    have hb4 := adv_low HB2.out (by omega) (by omega) ha4
    have HB4 := Lib.hid hb4
    obtain ⟨hr0, hr1, hr2, hf0, hf1, hf2⟩ := res_low hb4
    have HL4 := Lib.hid (hl4.mono (lo' := w.heap.size + 1) (by omega) (Nat.le_refl _))
    clear ha4 hl4 hb4
    go_wp2_with fail
    refine bodyPost_ret (v := .agg #[.int .i64 s4, .int .i64 v4, .slice a4 (flen k4) c4]) ?_ rfl (term_end HB4.out (by omega) HL4.out)
    simp [results, Try.results15, go_sem, hr0, hr1, hr2]
end Go.Proofs.Ytkmfnhoeigoajab

/-! V5: DrawTermVars; the variables of a term with another put to a place. -/
namespace Go.Proofs.Ytkmfnhoeigoajab
open Go.RowKit Go.Deep

theorem fvl_at : ∀ (n : Nat) (k : Fo) {a b : Nat} {s v : Int} {kk r : Fo} {x : Int}, fdrop n k = .node a b (s, v) kk r → x ∈ fvs s v kk → x ∈ fvl k
  | 0, .nil, _, _, _, _, _, _, _, h, _ => by simp [fdrop] at h
  | 0, .node _ _ _ _ _, _, _, _, _, _, _, _, h, hx => by
    simp only [fdrop, BT.node.injEq] at h
    obtain ⟨_, _, rfl, rfl, _⟩ := h
    simp only [fvl, List.mem_append]
    exact .inl hx
  | _ + 1, .nil, _, _, _, _, _, _, _, h, _ => by simp [fdrop] at h
  | n + 1, .node _ _ _ _ r, _, _, _, _, _, _, _, h, hx => by
    simp only [fvl, List.mem_append]
    exact .inr (fvl_at n r (by simpa [fdrop] using h) hx)
theorem fvl_set : ∀ (k : Fo) (n : Nat) (y : Int × Int × Fo) {x : Int}, x ∈ fvl (fset k n y) → x ∈ fvl k ∨ x ∈ fvs y.1 y.2.1 y.2.2
  | .nil, _, _, _, h => .inl h
  | .node _ _ _ _ r, 0, y, x, h => by
    simp only [fset, fvl, List.mem_append] at h ⊢
    rcases h with h | h
    · exact .inr h
    · exact .inl (.inr h)
  | .node _ _ _ _ r, n + 1, y, x, h => by
    simp only [fset, fvl, List.mem_append] at h ⊢
    rcases h with h | h
    · exact .inl (.inl h)
    · rcases fvl_set r n y h with h | h
      · exact .inl (.inr h)
      · exact .inr h
/-- What is put brings its variables alone. -/
theorem fput_vars : ∀ (p : List Int) (s v : Int) (k : Fo) (y : Int × Int × Fo) {s' v' : Int} {k' : Fo} {x : Int}, okN s v (flen k) = true → fok k = true → fput s v k p y = some (s', v', k') → x ∈ fvs s' v' k' → x ∈ fvs s v k ∨ x ∈ fvs y.1 y.2.1 y.2.2
  | [], _, _, _, _, _, _, _, _, _, _, h, hx => by simp only [fput, Option.some.injEq] at h; subst h; exact .inr hx
  | i :: ps, s, v, k, y, s', v', k', x, hok, hfo, h, hx => by
    obtain ⟨n, b, o, s1, v1, kk, ⟨z1, z2, z3⟩, rfl, hn, hd, hz, e⟩ := fput_cons h
    simp only [Prod.mk.injEq] at e
    obtain ⟨rfl, rfl, rfl⟩ := e
    have hs0 : s' ≠ 0 := fun e => by
      subst e
      have := ((okN_iff _ _ _).1 hok).1
      simp [ar] at this
      omega
    have hkid := fok_kid hfo hd
    unfold fvs at hx ⊢
    rw [if_neg hs0] at hx ⊢
    rcases fvl_set k n (z1, z2, z3) hx with h1 | h1
    · exact .inl h1
    · rcases fput_vars ps s1 v1 kk y hkid.1 hkid.2 hz h1 with h2 | h2
      · exact .inl (fvl_at n k hd h2)
      · exact .inr h2
/-- .. and all of them. -/
theorem fput_mine : ∀ (p : List Int) (s v : Int) (k : Fo) (y : Int × Int × Fo) {s' v' : Int} {k' : Fo} {x : Int}, okN s v (flen k) = true → fok k = true → fput s v k p y = some (s', v', k') → x ∈ fvs y.1 y.2.1 y.2.2 → x ∈ fvs s' v' k'
  | [], _, _, _, _, _, _, _, _, _, _, h, hx => by simp only [fput, Option.some.injEq] at h; subst h; exact hx
  | i :: ps, s, v, k, y, s', v', k', x, hok, hfo, h, hx => by
    obtain ⟨n, b, o, s1, v1, kk, ⟨z1, z2, z3⟩, rfl, hn, hd, hz, e⟩ := fput_cons h
    simp only [Prod.mk.injEq] at e
    obtain ⟨rfl, rfl, rfl⟩ := e
    have hs0 : s' ≠ 0 := fun e => by
      subst e
      have := ((okN_iff _ _ _).1 hok).1
      simp [ar] at this
      omega
    have hkid := fok_kid hfo hd
    have h1 := fput_mine ps s1 v1 kk y hkid.1 hkid.2 hz hx
    obtain ⟨b', o', e'⟩ := fset_at k n (z1, z2, z3) hn
    unfold fvs
    rw [if_neg hs0]
    exact fvl_at n _ e' h1

theorem tvR_mem {s v : Int} {k : Fo} (h : okW s v k 16 = true) (x : Int) : x ∈ tvR s v k ↔ x ∈ fvs s v k := by
  unfold tvR
  rw [if_pos h, among_mem]
  constructor
  · exact fun h => h.1
  · intro hx
    have := fvs_in h x hx
    exact ⟨hx, by omega, by omega⟩
end Go.Proofs.Ytkmfnhoeigoajab

/-! FrameO: What every row's closing text needs. -/
namespace Go.Proofs.Ytkmfnhoeigoajab
theorem Try.own : ownKnob Try.prog.godebug = none := by kernel_rfl
theorem Try.laidOut : laidOutB Try.prog = true := by kernel_rfl
end Go.Proofs.Ytkmfnhoeigoajab

/-! Frame: A slice of bytes that came in, as the walks take it. -/
namespace Go.Proofs.Ytkmfnhoeigoajab
open Go.ChangeShapes Go.WideShapes Go.ChangeAt Go.RowKit

/-- A slice of bytes: it is nil; or it leads to a row of cap cells. -/
def IsRow (w : World) (a : Option Addr) (len cap : Nat) (zs : List Int) : Prop :=
  (a = none ∧ len = 0 ∧ cap = 0 ∧ zs = []) ∨
  ∃ x, a = some x ∧ len ≤ cap ∧ cap ≤ maxLen ∧ zs.length = cap ∧ (∀ i, i < zs.length → w.cell? (x.add i) = some (.int .u8 (zs.getD i 0))) ∧ ∀ n ∈ zs, (Lit.int .u8 n).wf = true

theorem bytes_of_row {w : World} {a : Option Addr} {len cap : Nat} {zs : List Int} (h : IsRow w a len cap zs) : Bytes w a len ∧ len ≤ cap := by
  rcases h with ⟨_, h1, h2, _⟩ | ⟨x, rfl, h1, _, h2, h3, h4⟩
  · exact ⟨.inl h1, by omega⟩
  · refine ⟨?_, h1⟩
    by_cases hl : len = 0
    · exact .inl hl
    · obtain ⟨b, o, spot⟩ := x
      have c0 := h3 0 (by omega)
      have hs : spot = none := by simpa [Addr.add] using World.cell?_spot c0
      subst hs
      have ha : ∀ n, (⟨b, o, none⟩ : Addr).add n = ⟨b, o + n, none⟩ := fun n => by unfold Addr.add; split <;> simp_all
      rw [ha] at c0
      refine .inr ⟨b, o, rfl, World.block_lt_of_cell? _ _ c0, fun i hi => ?_⟩
      have ci := h3 i (by omega)
      rw [ha] at ci
      have hm : zs.getD i 0 ∈ zs := by
        rw [List.getD_eq_getElem?_getD, List.getElem?_eq_getElem (by omega)]
        exact List.getElem_mem _
      have hb := bounds_u8 (h4 _ hm)
      obtain ⟨n, hn⟩ := Int.eq_ofNat_of_zero_le hb.1
      exact ⟨n, by omega, by rw [ci, hn]⟩

/-- Out of the reading of an argument. -/
theorem row_of_trod {H : Type} {enc : TypeId × Value → H} {W : World} {a : Option Addr} {len cap : Nat} {d : DataW H} {p : List MemPlace} (h : DataW.Trod enc Try.prog W 0 (fun _ => true) true 22 (.slice a len cap) d p) : ∃ zs, IsRow W a len cap zs := by
  obtain ⟨fuel, hf⟩ := h
  rcases open_ints Try.underlying22 Try.underlying5 (by kernel_rfl) hf with ⟨hcs, _⟩ | ⟨x, l, c, zs, hcs, _, hl, hm, hz, _, hcell, hwz⟩
  · simp [Value.cells] at hcs
    obtain ⟨rfl, rfl, rfl⟩ := hcs
    exact ⟨[], .inl ⟨rfl, rfl, rfl, rfl⟩⟩
  · simp [Value.cells] at hcs
    obtain ⟨rfl, rfl, rfl⟩ := hcs
    exact ⟨zs, .inr ⟨_, rfl, hl, hm, by simpa using hz, hcell, hwz⟩⟩

end Go.Proofs.Ytkmfnhoeigoajab

/-! XJ: toIntS: numbers copied. -/
namespace Go.Proofs.Ytkmfnhoeigoajab
open Go.RowKit Go.Deep

theorem make_ints (n : Nat) (hn : n ≤ 1048576) (w : World) :
    (Instr.makeSlice 26 (.int .i64 (n : Int)) (.int .i64 (n : Int))).run Try.prog w = .ok (.slice (some ⟨w.heap.size, 0, none⟩) n n) (w.alloc (.cells (madeCells #[.int .i64 0] n) 3)) := by
  obtain ⟨i, hi, hz, hs, hb⟩ := Try.infoI
  have := run_make (P := Try.prog) w 26 3 i _ Try.underlying26 hi hz .i64 .i64 (n : Int) (n : Int) (by omega) (by omega) (by rw [hb]; omega) (by omega)
  rw [hs] at this
  simpa [Value.cells] using this
theorem ints_made (w : World) (n : Nat) (hn : n ≤ 1048576) : (w.alloc (.cells (madeCells #[.int .i64 0] n) 3)).ownsRow w.heap.size 3 1 (.slice (some ⟨w.heap.size, 0, none⟩) n n) n ((List.replicate n 0).map (Value.int .i64)) := by
  refine ⟨by simp, .inr ⟨w.heap.size, n, madeCells #[.int .i64 0] n, rfl, Nat.le_refl _, heap_alloc_new _ _, Nat.le_refl _, by unfold maxLen; omega, by simp [size_madeCells], ?_⟩⟩
  rw [toList_madeCells_one, List.map_replicate, List.take_of_length_le (by simp)]

set_option maxRecDepth 100000 in
set_option maxHeartbeats 1000000 in
theorem toIntS_any (xs : List Int) (A : Option Addr) (C : Nat) (w : World) (h : ISl w 0 w.heap.size A xs) (hl : xs.length ≤ 1048576) :
    Calls Try.prog 27 #[.slice A xs.length C] w fun e w' => ∃ A' C', e = .returned (.slice A' xs.length C') ∧ IOwn w' w.heap.size xs A' C' ∧ Below w.heap.size w w' := by
  have H := Lib.hid h
  have hmk := make_ints xs.length hl
  have HST := Lib.hid (ints_made w xs.length hl)
  clear h
  go_enter Try.func27, Try.ntmps27
  go_wp2_with fail
  clear hmk
  go_loopw [4] (fun i wr => ∃ (j : Nat) (ys : List Int), j ≤ xs.length ∧ i = .int .i64 j ∧ Hid (ys.length = xs.length ∧ ∀ q, q < j → ys[q]? = xs[q]?) ∧ Hid (wr.ownsRow w.heap.size 3 1 (.slice (some ⟨w.heap.size, 0, none⟩) xs.length xs.length) xs.length (ys.map (Value.int .i64))) ∧ Below w.heap.size w wr) (fun i _ => xs.length - (intOf i).toNat)
  case atStart => exact ⟨0, List.replicate xs.length 0, by omega, rfl, ⟨by simp, fun q hq => by omega⟩, HST, (Below.refl _ _).alloc (Nat.le_refl _) _⟩
  case round =>
    clear HST
    obtain ⟨j, ys, hj, rfl, hys, hown, hbl⟩ := hrel
    by_cases hlt : j < xs.length
    · obtain ⟨b, o, rfl, _, hb1, hcx⟩ := isl_at (H.out.below hbl) hlt
      have HXJ : Hid (xs[j]? = some xs[j]) := List.getElem?_eq_getElem hlt
      generalize xs[j] = x at hcx HXJ
      have hc : ∃ u, wr.cell? ⟨w.heap.size, j, none⟩ = some u := by
        rw [hown.out.cellAt j (by omega)]
        exact ⟨_, List.getElem?_eq_getElem (by simp [hys.out.1, hlt])⟩
      obtain ⟨u, hc⟩ := hc
      have hf := hown.out.frozenAt j
      obtain ⟨hst, _⟩ := hown.out.stored j (.int .i64 x)
      have HST : Hid ((wr.setCell ⟨w.heap.size, j, none⟩ (.int .i64 x)).ownsRow w.heap.size 3 1 (.slice (some ⟨w.heap.size, 0, none⟩) xs.length xs.length) xs.length ((ys.set j x).map (Value.int .i64))) := by
        rw [List.map_set]; exact hst
      have HYS : Hid ((ys.set j x).length = xs.length ∧ ∀ q, q < j + 1 → (ys.set j x)[q]? = xs[q]?) := by
        refine ⟨by rw [List.length_set]; exact hys.out.1, fun q hq => ?_⟩
        by_cases e : q = j
        · subst e
          rw [List.getElem?_set_self (by rw [hys.out.1]; exact hlt), HXJ.out]
        · rw [List.getElem?_set_ne (fun h => e h.symm)]
          exact hys.out.2 q (by omega)
      have HBL : Hid (Below w.heap.size w (wr.setCell ⟨w.heap.size, j, none⟩ (.int .i64 x))) := hbl.setCell (by simp) _
      have g1 : (0 : Int) ≤ (j : Int) := by omega
      have g2 : (j : Int) < (xs.length : Int) := by omega
      clear hst hys hown hbl
      go_wp2_with fail
      go_roundw
      case rel => exact ⟨j + 1, _, by omega, by go_num, HYS, HST, HBL.out⟩
      case measure => simp [intOf]; omega
    · have hje : j = xs.length := by omega
      subst hje
      have HE : Hid (ys = xs) := by
        refine List.ext_getElem? fun q => ?_
        by_cases hq : q < xs.length
        · exact hys.out.2 q hq
        · rw [List.getElem?_eq_none (by rw [hys.out.1]; omega), List.getElem?_eq_none (by omega)]
      clear hys
      go_wp2_with fail
      go_ret
      exact ⟨_, _, rfl, by have h := hown.out; rw [HE.out] at h; exact h, hbl⟩
end Go.Proofs.Ytkmfnhoeigoajab

/-! XIe: eqIntS on equal rows. -/
namespace Go.Proofs.Ytkmfnhoeigoajab
open Go.RowKit Go.Deep

set_option maxRecDepth 100000 in
set_option maxHeartbeats 1000000 in
theorem eqIntS_same (xs : List Int) (A B : Option Addr) (ca cb m n : Nat) (w : World) (hA : ISl w 0 w.heap.size A xs) (hB : ISl w 0 w.heap.size B xs) (hm : m = xs.length) (hn : n = xs.length) (hx : xs.length ≤ 1048576) :
    Calls Try.prog 29 #[.slice A m ca, .slice B n cb] w fun e w' => e = .returned (.bool true) ∧ Below w.heap.size w w' := by
  subst hm
  subst hn
  have HA := Lib.hid hA
  have HB := Lib.hid hB
  clear hA hB
  go_enter Try.func29, Try.ntmps29
  go_wp2_with fail
  go_loopw [5] (fun i wr => ∃ j : Nat, j ≤ xs.length ∧ i = .int .i64 j ∧ Below w.heap.size w wr) (fun i _ => xs.length - (intOf i).toNat)
  case atStart => exact ⟨0, by omega, rfl, Below.refl _ _⟩
  case round =>
    obtain ⟨j, hj, rfl, hbl⟩ := hrel
    have hbs := hbl.size
    by_cases hlt : j < xs.length
    · obtain ⟨b, o, rfl, _, hb1, hc⟩ := isl_at (HA.out.below hbl) hlt
      obtain ⟨b', o', rfl, _, hb2, hc'⟩ := isl_at (HB.out.below hbl) hlt
      generalize xs[j] = x at hc hc'
      have hu0 : ∀ u : After wr.heap.size wr, u.world.cell? ⟨b, o + j, none⟩ = some (.int .i64 x) := fun u => u.cell (by simp; omega) hc
      have hu1 : ∀ u : After wr.heap.size wr, u.world.cell? ⟨b', o' + j, none⟩ = some (.int .i64 x) := fun u => u.cell (by simp; omega) hc'
      have g1 : (0 : Int) ≤ (j : Int) := by omega
      have g2 : (j : Int) < (xs.length : Int) := by omega
      have HBL := Lib.hid hbl
      clear hbl
      go_wp2_with fail
      refine wp_region_after wr.heap.size (by kernel_rfl) (by kernel_rfl) ?_
      repeat (go_big_quiet_step (fail))
      refine wpQuiet_nil ?_
      rintro u ⟨⟨_, hu⟩, rfl⟩
      clear hu0 hu1 hc hc'
      have HB2 := Lib.hid (HBL.out.trans (hu.mono hbs))
      clear hu
      have ex : (x != x) = false := by simp
      go_wp2_with fail
      go_roundw
      case rel => exact ⟨j + 1, by omega, by go_num, HB2.out⟩
      case measure => simp [intOf]; omega
    · go_wp2_with fail
      go_ret
      exact ⟨rfl, hbl⟩
end Go.Proofs.Ytkmfnhoeigoajab
