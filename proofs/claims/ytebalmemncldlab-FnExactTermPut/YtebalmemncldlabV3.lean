/- slices.Sort and slices.Compact on numbers of the call's own; impl.TermVars. -/
import Derived.Test.YtebalmemncldlabV1
import Derived.Test.YtebalmemncldlabV2
import Derived.Shelf.Lay
import Derived.Shelf.Sort.Plain
import Derived.Shelf.Slices.CompactI
import Derived.Shelf.Slices.In.SortNone
import Derived.Ground.NamesProg
import Derived.Ground.Names2Prog
import Derived.Sort.OwnSortedInts
import Derived.Lib.OwnBridge
namespace Go.Proofs
open Go.Shelf
shelf_lay Lays.n189 Nm 189 at Try as Try.lays189
shelf_lay Lays2.n20 Nm2 20 at Try as Try.laysNm220
end Go.Proofs

namespace Go.Proofs.Ytebalmemncldlab
open Go.RowKit Go.Deep Go.Sort

/-- Sorted. -/
def srt (xs : List Int) : List Int := xs.mergeSort fun x y => decide (x ≤ y)
theorem srt_len (xs : List Int) : (srt xs).length = xs.length := List.length_mergeSort _

theorem iown_some {w : World} {base : Nat} {xs : List Int} {A : Option Addr} {C : Nat} (h : IOwn w base xs A C) (hx : 0 < xs.length) :
    ∃ g cur, A = some ⟨g, 0, none⟩ ∧ base ≤ g ∧ g < w.heap.size ∧ xs.length ≤ C ∧ C ≤ maxLen ∧ cur.size = C * 1 ∧ w.heap[g]? = some (.cells cur 3 (0, 0)) ∧ Holds (Value.int .i64) w g 0 xs.toArray := by
  rcases h.2 with ⟨_, h0⟩ | ⟨g, cap, cur, hv, hb, hg, hn, hm, hs, ht⟩
  · omega
  · simp only [Value.slice.injEq] at hv
    obtain ⟨rfl, _, rfl⟩ := hv
    have hlt : g < w.heap.size := by
      rcases Nat.lt_or_ge g w.heap.size with h' | h'
      · exact h'
      · rw [Array.getElem?_eq_none h'] at hg; cases hg
    exact ⟨g, cur, rfl, hb, hlt, hn, hm, hs, hg, holds_of_blockI hg (by rw [Nat.mul_one] at ht; exact ht)⟩

theorem sort_any (base : Nat) (xs : List Int) (A : Option Addr) (C : Nat) (w : World) (h : IOwn w base xs A C) (hl : xs.length ≤ 2000) (hb : base ≤ w.heap.size) :
    Calls Try.prog 61 #[.slice A xs.length C] w fun e w' => e = .returned (.tuple #[]) ∧ w'.ownsRow base 3 1 (.slice A xs.length C) xs.length ((srt xs).map (Value.int .i64)) ∧ Below base w w' := by
  rcases Nat.eq_zero_or_pos xs.length with h0 | h0
  · have hx := List.eq_nil_of_length_eq_zero h0
    subst hx
    refine (Any.slices_Sort_int_none Try.lays189 A C w).mono ?_
    rintro e w' ⟨rfl, rfl⟩
    exact ⟨rfl, by simpa [srt, IOwn] using h, Below.refl _ _⟩
  · obtain ⟨g, cur, rfl, hbg, hgl, hc, hm, hs, hg, hH⟩ := iown_some h h0
    refine (Any.slices_Sort_int Try.lays189 g 0 C xs w hH hgl (by omega)).mono ?_
    rintro e w' ⟨rfl, n, os, rfl⟩
    exact ⟨rfl, ownsRow_sortedI (ss := xs) (ts := srt xs) (srt_len xs) hbg hg hc hm hs, (Below.refl _ _).grown (grownBy_sortedI _) hb (fun k hk => by simp at hk; omega)⟩

theorem compact_any (base : Nat) (zs : List Int) (A : Option Addr) (C : Nat) (w : World) (h : IOwn w base zs A C) (hl : zs.length ≤ 2000) (hb : base ≤ w.heap.size) :
    Calls Try.prog 62 #[.slice A zs.length C] w fun e w' => ∃ A' C', e = .returned (.slice A' (Lib.compact zs).length C') ∧ IOwn w' base (Lib.compact zs) A' C' ∧ Below base w w' := by
  rcases Nat.eq_zero_or_pos zs.length with h0 | h0
  · have hx := List.eq_nil_of_length_eq_zero h0
    subst hx
    refine (Any.slices_Compact_int_empty Try.laysNm220 A C w).mono ?_
    rintro e w' ⟨rfl, rfl⟩
    exact ⟨A, C, by simp [Lib.compact, Lib.compactUpTo], by simpa [Lib.compact, Lib.compactUpTo, IOwn] using h, Below.refl _ _⟩
  · obtain ⟨g, cur, rfl, hbg, hgl, hc, hm, hs, hg, hH⟩ := iown_some h h0
    refine (Any.slices_Compact_int Try.laysNm220 g 0 C zs w hH (by omega) hc).mono ?_
    rintro e w' ⟨rfl, q, rfl⟩
    have hle := Lib.compact_length_le zs
    have h1 := Lib.ownsRow_putRow (q := q) (ys := Lib.compact zs ++ List.replicate (zs.length - (Lib.compact zs).length) 0) (k := (Lib.compact zs).length) h (by simp; omega) hle
    refine ⟨_, _, rfl, ?_, Lib.below_putRow (Below.refl _ _) hbg⟩
    unfold IOwn
    rw [List.take_left' rfl] at h1
    exact h1

def tvR (s v : Int) (k : Fo) : List Int := if okW s v k 16 = true then among (fvs s v k) 12 else []
theorem among_len (xs : List Int) (n : Nat) : (among xs n).length ≤ n := by
  refine Nat.le_trans (List.length_filter_le _ _) ?_
  simp
theorem tvR_len (s v : Int) (k : Fo) : (tvR s v k).length ≤ 12 := by
  unfold tvR
  split
  · exact among_len _ _
  · simp
def TvPost (s v : Int) (k : Fo) (w : World) (e : Ending) (w' : World) : Prop :=
  ∃ A C xs, xs = tvR s v k ∧ e = .returned (.slice A (List.length xs) C) ∧ Below w.heap.size w w' ∧ IOwn w' w.heap.size xs A C

theorem IOwn.base {w : World} {base base' : Nat} {xs : List Int} {A : Option Addr} {C : Nat} (h : IOwn w base xs A C) (hb : base' ≤ base) : IOwn w base' xs A C := own_base hb h
theorem IOwn.sl {w : World} {base : Nat} {xs : List Int} {A : Option Addr} {C : Nat} (h : IOwn w base xs A C) : ISl w base w.heap.size A xs := isl_of_own h
theorem IOwn.low {w w2 : World} {base : Nat} {xs : List Int} {A : Option Addr} {C : Nat} (h : IOwn w base xs A C) (hb : Below w.heap.size w w2) : IOwn w2 base xs A C := own_low hb h

set_option maxRecDepth 100000 in
set_option maxHeartbeats 1000000 in
theorem iTermVars_any (s v : Int) (a : Option Addr) (c : Nat) (k : Fo) (w : World) (hl : Sl w 0 w.heap.size a k) :
    Calls Try.prog 28 #[.agg #[.int .i64 s, .int .i64 v, .slice a (flen k) c]] w (TvPost s v k w) := by
  have HL := Lib.hid hl
  clear hl
  have hb0 : Below w.heap.size w (w.alloc (.cells #[.int .i64 s, .int .i64 v, .slice a (flen k) c] 25)) := (Below.refl _ _).alloc (Nat.le_refl _) _
  have HB0 := Lib.hid hb0
  clear hb0
  go_enter Try.func28, Try.ntmps28
  go_wp2_with fail
  with_reducible refine (nodeOf_any s v a c k 16 _ ?_ (by omega) (by omega)).mono ?_
  · exact (HL.out.below HB0.out).mono (Nat.le_refl _) HB0.out.size
  rintro e w2 ⟨nv, rfl, hb, hyes⟩
  have hs2 := hb.size
  simp at hs2
  have HB2 := Lib.hid (HB0.out.trans (hb.mono HB0.out.size))
  clear hb
  cases hok : okW s v k 16 with
  | false =>
    have HR : Hid (tvR s v k = []) := by unfold Hid tvR; rw [hok]; rfl
    clear hok hyes
    go_wp2_with fail
    go_ret
    exact ⟨none, 0, [], HR.out.symm, rfl, HB2.out, World.ownsRow_nil _ _ _ _⟩
  | true =>
    have hsz := ((okW_iff _ _ _ _).1 hok).2.2
    have HN := Lib.hid ((hyes hok).mono (lo' := 0) (Nat.zero_le _) (Nat.le_refl _))
    have HR : Hid (tvR s v k = Lib.compact (srt (fvs s v k))) := by unfold Hid tvR srt; rw [hok, compact_among _ (fvs_in hok)]; rfl
    have HNIL : Hid (IOwn w2 w2.heap.size [] none 0) := World.ownsRow_nil _ _ _ _
    clear hok hyes
    obtain ⟨ty, vv, rfl⟩ : ∃ ty vv, nv = .iface ty vv := by
      rcases HN.out with ⟨_, _, rfl⟩ | ⟨_, _, _, rfl, _⟩
      · exact ⟨_, _, rfl⟩
      · exact ⟨_, _, rfl⟩
    have hfs := fvs_sz s v k
    have HCV : Hid (Calls Try.prog 60 #[.slice none 0 0, .iface ty vv] w2 (AvPost w2.heap.size [] s v k w2)) := addVars_any w2.heap.size (fsz k) s v k _ [] none 0 _ (Nat.le_refl _) HN.out HNIL.out (Nat.le_refl _) (by omega) (by simp; omega)
    go_wp2_with fail
    with_reducible refine HCV.out.mono ?_
    rintro e w3 ⟨ys, A3, C3, hys, rfl, hio3, hb3⟩
    rw [List.nil_append] at hys
    subst hys
    have hs3 := hb3.size
    have HIO3 := Lib.hid hio3
    have HB3 := Lib.hid (HB2.out.trans (hb3.mono (by omega)))
    clear hio3 hb3
    go_wp2_with fail
    with_reducible refine (sort_any w2.heap.size (fvs s v k) A3 C3 _ HIO3.out (by omega) (by omega)).mono ?_
    rintro e w4 ⟨rfl, hown4, hb4⟩
    have hs4 := hb4.size
    have HIO4 : Hid (IOwn w4 w2.heap.size (srt (fvs s v k)) A3 C3) := by unfold Hid IOwn; rw [srt_len]; exact hown4
    have HB4 := Lib.hid (HB3.out.trans (hb4.mono (by omega)))
    have HCALL := Lib.hid (compact_any w2.heap.size (srt (fvs s v k)) A3 C3 w4 HIO4.out (by rw [srt_len]; omega) (by omega))
    rw [srt_len] at HCALL
    clear hown4 hb4
    go_wp2_with fail
    with_reducible refine HCALL.out.mono ?_
    rintro e w5 ⟨A5, C5, rfl, hio5, hb5⟩
    have HIO5 := Lib.hid hio5
    have HB5 := Lib.hid (HB4.out.trans (hb5.mono (by omega)))
    clear hio5 hb5
    go_wp2_with fail
    go_ret
    exact ⟨A5, C5, _, HR.out.symm, rfl, HB5.out, HIO5.out.base (by omega)⟩
end Go.Proofs.Ytebalmemncldlab
