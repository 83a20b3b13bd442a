/- Several texts in one: SHv, V3, ML, PL0. -/
import Derived.Test.YtpfkhgiiojikbaaProg
import Derived.Shelf.Sort.Plain
import Derived.Shelf.Slices.CompactI
import Derived.Shelf.Slices.In.SortNone
import Derived.Ground.NamesProg
import Derived.Ground.Names2Prog
import Derived.Test.YtpfkhgiiojikbaaKThen7
import Derived.Sort.OwnSortedInts
import Derived.Lib.OwnBridge
import Derived.Test.YtpfkhgiiojikbaaKThen10
import Derived.Test.YtpfkhgiiojikbaaKThen11

/-! SHv: The contracts of slices.Sort and slices.Compact at this program. -/
namespace Go.Proofs
open Go.Shelf
def Try.lays189_ren : Go.Shelf.Ren := ⟨fun | 189 => 69 | 125 => 95 | 257 => 94 | 128 => 112 | 129 => 113 | 294 => 103 | 295 => 104 | 296 => 105 | 297 => 106 | 298 => 107 | 299 => 108 | 216 => 109 | 300 => 110 | 301 => 111 | 328 => 115 | 329 => 116 | 330 => 117 | 331 => 118 | 332 => 119 | 215 => 120 | 343 => 124 | n => n, fun | 28 => 52 | 3 => 3 | 46 => 134 | 0 => 0 | 51 => 150 | 53 => 152 | 4 => 4 | 183 => 142 | 182 => 141 | 131 => 147 | 5 => 5 | 9 => 9 | 218 => 154 | 222 => 116 | 228 => 163 | 229 => 164 | n => n, fun | n => n⟩
theorem Try.lays189 : Go.Proofs.Lays.n189 Try.prog Try.lays189_ren := {
  mixed := by kernel_rfl
  f125 := Try.func95.trans (congrArg some (by kernel_rfl))
  f128 := Try.func112.trans (congrArg some (by kernel_rfl))
  f129 := Try.func113.trans (congrArg some (by kernel_rfl))
  f189 := Try.func69.trans (congrArg some (by kernel_rfl))
  f215 := Try.func120.trans (congrArg some (by kernel_rfl))
  f216 := Try.func109.trans (congrArg some (by kernel_rfl))
  f257 := Try.func94.trans (congrArg some (by kernel_rfl))
  f294 := Try.func103.trans (congrArg some (by kernel_rfl))
  f295 := Try.func104.trans (congrArg some (by kernel_rfl))
  f296 := Try.func105.trans (congrArg some (by kernel_rfl))
  f297 := Try.func106.trans (congrArg some (by kernel_rfl))
  f298 := Try.func107.trans (congrArg some (by kernel_rfl))
  f299 := Try.func108.trans (congrArg some (by kernel_rfl))
  f300 := Try.func110.trans (congrArg some (by kernel_rfl))
  f301 := Try.func111.trans (congrArg some (by kernel_rfl))
  f328 := Try.func115.trans (congrArg some (by kernel_rfl))
  f329 := Try.func116.trans (congrArg some (by kernel_rfl))
  f330 := Try.func117.trans (congrArg some (by kernel_rfl))
  f331 := Try.func118.trans (congrArg some (by kernel_rfl))
  f332 := Try.func119.trans (congrArg some (by kernel_rfl))
  f343 := Try.func124.trans (congrArg some (by kernel_rfl))
  t0 := Try.underlying0
  a0 := Try.isAgg0
  z0 := Try.sizeOf0
  v0 := Try.zeroValue0
  t3 := Try.underlying3
  a3 := Try.isAgg3
  z3 := Try.sizeOf3
  v3 := Try.zeroValue3
  t4 := Try.underlying4
  a4 := Try.isAgg4
  z4 := Try.sizeOf4
  v4 := Try.zeroValue4
  t5 := Try.underlying5
  a5 := Try.isAgg5
  z5 := Try.sizeOf5
  v5 := Try.zeroValue5
  t9 := Try.underlying9
  a9 := Try.isAgg9
  z9 := Try.sizeOf9
  v9 := Try.zeroValue9
  t28 := Try.underlying52
  a28 := Try.isAgg52
  z28 := Try.sizeOf52
  v28 := Try.zeroValue52
  t46 := Try.underlying134
  a46 := Try.isAgg134
  z46 := Try.sizeOf134
  v46 := Try.zeroValue134
  t51 := Try.underlying150
  a51 := Try.isAgg150
  z51 := Try.sizeOf150
  v51 := Try.zeroValue150
  t53 := Try.underlying152
  a53 := Try.isAgg152
  z53 := Try.sizeOf152
  v53 := Try.zeroValue152
  t131 := Try.underlying147
  a131 := Try.isAgg147
  z131 := Try.sizeOf147
  v131 := Try.zeroValue147
  t182 := Try.underlying141
  a182 := Try.isAgg141
  z182 := Try.sizeOf141
  v182 := Try.zeroValue141
  t183 := Try.underlying142
  a183 := Try.isAgg142
  z183 := Try.sizeOf142
  v183 := Try.zeroValue142
  t218 := Try.underlying154
  a218 := Try.isAgg154
  z218 := Try.sizeOf154
  v218 := Try.zeroValue154
  t222 := Try.underlying116
  a222 := Try.isAgg116
  z222 := Try.sizeOf116
  v222 := Try.zeroValue116
  t228 := Try.underlying163
  a228 := Try.isAgg163
  z228 := Try.sizeOf163
  v228 := Try.zeroValue163
  t229 := Try.underlying164
  a229 := Try.isAgg164
  z229 := Try.sizeOf164
  v229 := Try.zeroValue164 }
def Try.laysNm220_ren : Go.Shelf.Ren := ⟨fun | 20 => 70 | n => n, fun | 22 => 52 | 3 => 3 | 4 => 4 | 0 => 0 | n => n, fun | n => n⟩
theorem Try.laysNm220 : Go.Proofs.Lays2.n20 Try.prog Try.laysNm220_ren := {
  mixed := by kernel_rfl
  f20 := Try.func70.trans (congrArg some (by kernel_rfl))
  t0 := Try.underlying0
  a0 := Try.isAgg0
  z0 := Try.sizeOf0
  v0 := Try.zeroValue0
  t3 := Try.underlying3
  a3 := Try.isAgg3
  z3 := Try.sizeOf3
  v3 := Try.zeroValue3
  t4 := Try.underlying4
  a4 := Try.isAgg4
  z4 := Try.sizeOf4
  v4 := Try.zeroValue4
  t22 := Try.underlying52
  a22 := Try.isAgg52
  z22 := Try.sizeOf52
  v22 := Try.zeroValue52
  i3 := by kernel_rfl }
end Go.Proofs

/-! V3: slices.Sort and slices.Compact on numbers of the call's own; impl.TermVars. -/
namespace Go.Proofs.Ytpfkhgiiojikbaa
open Go.RowKit Go.Deep Go.Sort

/-- Sorted. -/
def srt (xs : List Int) : List Int := xs.mergeSort fun x y => decide (x ≤ y)
theorem srt_len (xs : List Int) : (srt xs).length = xs.length := List.length_mergeSort _

theorem iown_some {w : World} {base : Nat} {xs : List Int} {A : Option Addr} {C : Nat} (h : IOwn w base xs A C) (hx : 0 < xs.length) :
    ∃ g cur, A = some ⟨g, 0, none⟩ ∧ base ≤ g ∧ g < w.heap.size ∧ xs.length ≤ C ∧ C ≤ maxLen ∧ cur.size = C * 1 ∧ w.heap[g]? = some (.cells cur 3 (0, 0)) ∧ Holds (Value.int .i64) w g 0 xs.toArray := by
  rcases h.2 with ⟨_, h0⟩ | ⟨g, cap, cur, hv, hb, hg, hn, hm, hs, ht⟩
  · omega
  · simp only [Value.slice.injEq] at hv
    obtain ⟨rfl, _, rfl⟩ := hv
    have hlt : g < w.heap.size := by
      rcases Nat.lt_or_ge g w.heap.size with h' | h'
      · exact h'
      · rw [Array.getElem?_eq_none h'] at hg; cases hg
    exact ⟨g, cur, rfl, hb, hlt, hn, hm, hs, hg, holds_of_blockI hg (by rw [Nat.mul_one] at ht; exact ht)⟩

theorem sort_any (base : Nat) (xs : List Int) (A : Option Addr) (C : Nat) (w : World) (h : IOwn w base xs A C) (hl : xs.length ≤ 2000) (hb : base ≤ w.heap.size) :
    Calls Try.prog 69 #[.slice A xs.length C] w fun e w' => e = .returned (.tuple #[]) ∧ w'.ownsRow base 3 1 (.slice A xs.length C) xs.length ((srt xs).map (Value.int .i64)) ∧ Below base w w' := by
  rcases Nat.eq_zero_or_pos xs.length with h0 | h0
  · have hx := List.eq_nil_of_length_eq_zero h0
    subst hx
    refine (Any.slices_Sort_int_none Try.lays189 A C w).mono ?_
    rintro e w' ⟨rfl, rfl⟩
    exact ⟨rfl, by simpa [srt, IOwn] using h, Below.refl _ _⟩
  · obtain ⟨g, cur, rfl, hbg, hgl, hc, hm, hs, hg, hH⟩ := iown_some h h0
    refine (Any.slices_Sort_int Try.lays189 g 0 C xs w hH hgl (by omega)).mono ?_
    rintro e w' ⟨rfl, n, os, rfl⟩
    exact ⟨rfl, ownsRow_sortedI (ss := xs) (ts := srt xs) (srt_len xs) hbg hg hc hm hs, (Below.refl _ _).grown (grownBy_sortedI _) hb (fun k hk => by simp at hk; omega)⟩

theorem compact_any (base : Nat) (zs : List Int) (A : Option Addr) (C : Nat) (w : World) (h : IOwn w base zs A C) (hl : zs.length ≤ 2000) (hb : base ≤ w.heap.size) :
    Calls Try.prog 70 #[.slice A zs.length C] w fun e w' => ∃ A' C', e = .returned (.slice A' (Lib.compact zs).length C') ∧ IOwn w' base (Lib.compact zs) A' C' ∧ Below base w w' := by
  rcases Nat.eq_zero_or_pos zs.length with h0 | h0
  · have hx := List.eq_nil_of_length_eq_zero h0
    subst hx
    refine (Any.slices_Compact_int_empty Try.laysNm220 A C w).mono ?_
    rintro e w' ⟨rfl, rfl⟩
    exact ⟨A, C, by simp [Lib.compact, Lib.compactUpTo], by simpa [Lib.compact, Lib.compactUpTo, IOwn] using h, Below.refl _ _⟩
  · obtain ⟨g, cur, rfl, hbg, hgl, hc, hm, hs, hg, hH⟩ := iown_some h h0
    refine (Any.slices_Compact_int Try.laysNm220 g 0 C zs w hH (by omega) hc).mono ?_
    rintro e w' ⟨rfl, q, rfl⟩
    have hle := Lib.compact_length_le zs
    have h1 := Lib.ownsRow_putRow (q := q) (ys := Lib.compact zs ++ List.replicate (zs.length - (Lib.compact zs).length) 0) (k := (Lib.compact zs).length) h (by simp; omega) hle
    refine ⟨_, _, rfl, ?_, Lib.below_putRow (Below.refl _ _) hbg⟩
    unfold IOwn
    rw [List.take_left' rfl] at h1
    exact h1

def tvR (s v : Int) (k : Fo) : List Int := if okW s v k 16 = true then among (fvs s v k) 12 else []
theorem among_len (xs : List Int) (n : Nat) : (among xs n).length ≤ n := by
  refine Nat.le_trans (List.length_filter_le _ _) ?_
  simp
theorem tvR_len (s v : Int) (k : Fo) : (tvR s v k).length ≤ 12 := by
  unfold tvR
  split
  · exact among_len _ _
  · simp
def TvPost (s v : Int) (k : Fo) (w : World) (e : Ending) (w' : World) : Prop :=
  ∃ A C xs, xs = tvR s v k ∧ e = .returned (.slice A (List.length xs) C) ∧ Below w.heap.size w w' ∧ IOwn w' w.heap.size xs A C

set_option maxRecDepth 100000 in
set_option maxHeartbeats 1000000 in
theorem iTermVars_any (s v : Int) (a : Option Addr) (c : Nat) (k : Fo) (w : World) (hl : Sl w 0 w.heap.size a k) :
    Calls Try.prog 33 #[.agg #[.int .i64 s, .int .i64 v, .slice a (flen k) c]] w (TvPost s v k w) := by
  have HL := Lib.hid hl
  clear hl
  have hb0 : Below w.heap.size w (w.alloc (.cells #[.int .i64 s, .int .i64 v, .slice a (flen k) c] 28)) := (Below.refl _ _).alloc (Nat.le_refl _) _
  have HB0 := Lib.hid hb0
  clear hb0
  go_enter Try.func33, Try.ntmps33
  go_wp2_with fail
  with_reducible refine (nodeOf_any s v a c k 16 _ ?_ (by omega) (by omega)).mono ?_
  · exact (HL.out.below HB0.out).mono (Nat.le_refl _) HB0.out.size
  rintro e w2 ⟨nv, rfl, hb, hyes⟩
  have hs2 := hb.size
  simp at hs2
  have HB2 := Lib.hid (HB0.out.trans (hb.mono HB0.out.size))
  clear hb
  cases hok : okW s v k 16 with
  | false =>
    have HR : Hid (tvR s v k = []) := by unfold Hid tvR; rw [hok]; rfl
    clear hok hyes
    go_wp2_with fail
    go_ret
    exact ⟨none, 0, [], HR.out.symm, rfl, HB2.out, World.ownsRow_nil _ _ _ _⟩
  | true =>
    have hsz := ((okW_iff _ _ _ _).1 hok).2.2
    have HN := Lib.hid ((hyes hok).mono (lo' := 0) (Nat.zero_le _) (Nat.le_refl _))
    have HR : Hid (tvR s v k = Lib.compact (srt (fvs s v k))) := by unfold Hid tvR srt; rw [hok, compact_among _ (fvs_in hok)]; rfl
    have HNIL : Hid (IOwn w2 w2.heap.size [] none 0) := World.ownsRow_nil _ _ _ _
    clear hok hyes
    obtain ⟨ty, vv, rfl⟩ : ∃ ty vv, nv = .iface ty vv := by
      rcases HN.out with ⟨_, _, rfl⟩ | ⟨_, _, _, rfl, _⟩
      · exact ⟨_, _, rfl⟩
      · exact ⟨_, _, rfl⟩
    have hfs := fvs_sz s v k
    have HCV : Hid (Calls Try.prog 68 #[.slice none 0 0, .iface ty vv] w2 (AvPost w2.heap.size [] s v k w2)) := addVars_any w2.heap.size (fsz k) s v k _ [] none 0 _ (Nat.le_refl _) HN.out HNIL.out (Nat.le_refl _) (by omega) (by simp; omega)
    go_wp2_with fail
    with_reducible refine HCV.out.mono ?_
    rintro e w3 ⟨ys, A3, C3, hys, rfl, hio3, hb3⟩
    rw [List.nil_append] at hys
    subst hys
    have hs3 := hb3.size
    have HIO3 := Lib.hid hio3
    have HB3 := Lib.hid (HB2.out.trans (hb3.mono (by omega)))
    clear hio3 hb3
    go_wp2_with fail
    with_reducible refine (sort_any w2.heap.size (fvs s v k) A3 C3 _ HIO3.out (by omega) (by omega)).mono ?_
    rintro e w4 ⟨rfl, hown4, hb4⟩
    have hs4 := hb4.size
    have HIO4 : Hid (IOwn w4 w2.heap.size (srt (fvs s v k)) A3 C3) := by unfold Hid IOwn; rw [srt_len]; exact hown4
    have HB4 := Lib.hid (HB3.out.trans (hb4.mono (by omega)))
    have HCALL := Lib.hid (compact_any w2.heap.size (srt (fvs s v k)) A3 C3 w4 HIO4.out (by rw [srt_len]; omega) (by omega))
    rw [srt_len] at HCALL
    clear hown4 hb4
    go_wp2_with fail
    with_reducible refine HCALL.out.mono ?_
    rintro e w5 ⟨A5, C5, rfl, hio5, hb5⟩
    have HIO5 := Lib.hid hio5
    have HB5 := Lib.hid (HB4.out.trans (hb5.mono (by omega)))
    clear hio5 hb5
    go_wp2_with fail
    go_ret
    exact ⟨A5, C5, _, HR.out.symm, rfl, HB5.out, HIO5.out.base (by omega)⟩
end Go.Proofs.Ytpfkhgiiojikbaa

/-! ML: What the laws of matching want of the answers. Plain lemmas. -/
namespace Go.Proofs.Ytpfkhgiiojikbaa
open Go.RowKit Go.Deep

/-- The pattern becomes the term. -/
theorem ma_sub {s v : Int} {k : Fo} {s' v' : Int} {k' : Fo} {bs : List Bd} (h : maR s v k s' v' k' = (bs, true)) (hz : Zf k) (hz' : Zf k') : sdR bs s v k = (s', v', k', true) ∧ tsub (sv bs) s v k = (s', v', k') := by
  rcases maR_cases h with ⟨h, _⟩ | ⟨_, h1, h2, h3⟩
  · cases h
  obtain ⟨o1, o2, _⟩ := (okW_iff _ _ _ _).1 h1
  obtain ⟨p1, p2, p3⟩ := (okW_iff _ _ _ _).1 h2
  obtain ⟨_, _, _, hs⟩ := tmt_sound h3 hz hz' o1 o2 p1 p2 BZ.nil
  exact ⟨sdR_of (maR_in h).2.2.2.2 h1 hs (by omega), hs⟩
theorem map_asc {bs : List Bd} (h : Asc bs) : (bs.map (·.1)).Pairwise (· < ·) := List.pairwise_map.2 h
theorem sv_some : ∀ {bs : List Bd} {x : Int}, (sv bs x).isSome = true ↔ x ∈ bs.map (·.1)
  | [], x => by simp [sv]
  | y :: r, x => by
    simp only [sv, List.map_cons, List.mem_cons]
    split
    · rename_i e; simp [e]
    · rename_i e
      rw [sv_some (bs := r)]
      exact ⟨fun h => .inr h, fun h => h.elim (fun h => absurd h.symm e) id⟩
/-- It binds the pattern's variables. -/
theorem ma_vars {s v : Int} {k : Fo} {s' v' : Int} {k' : Fo} {bs : List Bd} (h : maR s v k s' v' k' = (bs, true)) : bs.map (·.1) = tvR s v k := by
  have hin := maR_in h
  rcases maR_cases h with ⟨h, _⟩ | ⟨_, h1, h2, h3⟩
  · cases h
  unfold tvR
  rw [if_pos h1]
  refine strict_ext _ _ (map_asc hin.1) (among_strict _ _) fun x => ?_
  rw [← sv_some, tmt_dom h3 x, among_mem]
  constructor
  · rintro (h | h)
    · simp [sv] at h
    · have := fvs_in h1 x h; exact ⟨h, by omega, by omega⟩
  · exact fun h => .inr h.1
/-- A pattern of what is made of it. -/
theorem ma_made {σ : Int → Option (Int × Int × Fo)} {s v : Int} {k : Fo} {s' v' : Int} {k' : Fo} (h1 : okW s v k 16 = true) (h2 : okW s' v' k' 16 = true) (ht : tsub σ s v k = (s', v', k')) : ∃ bs, maR s v k s' v' k' = (bs, true) ∧ ∀ x ∈ bs, tsub σ 0 x.1 .nil = x.2 := by
  obtain ⟨o1, o2, _⟩ := (okW_iff _ _ _ _).1 h1
  obtain ⟨bs, hb, ha⟩ := tmt_made σ o1 o2 (Agrees.nil σ) ht
  have hm := maR_of h1 h2 hb
  exact ⟨bs, hm, fun x hx => ha x.1 x.2 (sv_mem (maR_in hm).1 hx)⟩
theorem ma_self {s v : Int} {k : Fo} (h1 : okW s v k 16 = true) : ∃ bs, maR s v k s v k = (bs, true) ∧ ∀ x ∈ bs, x = (x.1, 0, x.1, .nil) := by
  obtain ⟨bs, hb, ha⟩ := ma_made (σ := fun _ => none) h1 h1 (tsub_id fun _ _ => rfl)
  refine ⟨bs, hb, fun x hx => ?_⟩
  have := ha x hx
  rw [tsub0] at this
  obtain ⟨x1, x2⟩ := x
  dsimp only at this ⊢
  rw [← this]; rfl
theorem ma_through {s v : Int} {k : Fo} {s' v' : Int} {k' : Fo} {bs us : List Bd} {sx vx : Int} {kx : Fo} (h : maR s v k s' v' k' = (bs, true)) (hz : Zf k) (hz' : Zf k') (hd : sdR us s' v' k' = (sx, vx, kx, true)) : ∃ b2, maR s v k sx vx kx = (b2, true) := by
  have hs := (ma_sub h hz hz').2
  rcases maR_cases h with ⟨h, _⟩ | ⟨_, h1, h2, h3⟩
  · cases h
  rcases sdR_cases hd with ⟨h, _⟩ | ⟨_, _, _, ht, ho⟩
  · cases h
  have hc := tsub_comp (σ := sv bs) (τ := sv us) (s := s) (v := v) (k := k) fun x hx => (tmt_dom h3 x).2 (.inr hx)
  rw [hs] at hc
  dsimp only at hc
  rw [ht] at hc
  obtain ⟨b2, hb, _⟩ := ma_made h1 ho hc.symm
  exact ⟨b2, hb⟩
theorem ma_less {s v : Int} {k : Fo} {s' v' : Int} {k' : Fo} {bs : List Bd} (h : maR s v k s' v' k' = (bs, true)) (hz : Zf k) (hz' : Zf k') : fsz k ≤ fsz k' := by
  have hs := (ma_sub h hz hz').2
  rcases maR_cases h with ⟨h, _⟩ | ⟨_, h1, h2, h3⟩
  · cases h
  obtain ⟨o1, o2, _⟩ := (okW_iff _ _ _ _).1 h1
  unfold tsub at hs
  by_cases e : s = 0
  · subst e
    rw [kids_none o1]; simp [fsz]
  · rw [if_neg e] at hs
    simp only [Prod.mk.injEq] at hs
    rw [← hs.2.2]
    exact fsub_more k o2
/-- Parts. -/
theorem ma_parts {s v : Int} {k : Fo} {s' v' : Int} {k' : Fo} {bs : List Bd} {pl : List Int} (h : maR s v k s' v' k' = (bs, true)) (hz : Zf k) (hz' : Zf k') (hp : pl ∈ places k) :
    ∃ s1 v1 k1 s3 v3 k3 b2, atR s v k pl = (s1, v1, k1, true) ∧ atR s' v' k' pl = (s3, v3, k3, true) ∧ maR s1 v1 k1 s3 v3 k3 = (b2, true) := by
  obtain ⟨s1, v1, k1, s3, v3, k3, ha, hd, hb⟩ := sub_parts (ma_sub h hz hz').1 hp
  rcases sdR_cases hd with ⟨h, _⟩ | ⟨_, _, o1, ht, o2⟩
  · cases h
  obtain ⟨b2, hm, _⟩ := ma_made o1 o2 ht
  exact ⟨s1, v1, k1, s3, v3, k3, b2, ha, hb, hm⟩
/-- Sizes of what is bound. -/
theorem ma_small {s v : Int} {k : Fo} {s' v' : Int} {k' : Fo} {bs : List Bd} {t : Bool} (h : maR s v k s' v' k' = (bs, t)) : bs.length ≤ 16 ∧ ∀ x ∈ bs, fsz x.2.2.2 ≤ 1000000 := by
  have hi := maR_in h
  exact ⟨hi.2.2.1, fun x hx => by have := (hi.2.1 x.1 x.2 (sv_mem hi.1 hx)).2.2; omega⟩
end Go.Proofs.Ytpfkhgiiojikbaa

/-! PL0: Variables named in the order in which they come, as plain data. -/
namespace Go.Proofs.Ytpfkhgiiojikbaa
open Go.RowKit Go.Deep

/-- One more variable named. -/
def nm1 (bs : List Bd) (x : Int) : List Bd := match sv bs x with
  | some _ => bs
  | none => ladd bs (x, 0, (bs.length : Int), .nil)
/-- Variables named in the order in which they come. -/
def nmL : List Bd → List Int → List Bd
  | bs, [] => bs
  | bs, x :: r => nmL (nm1 bs x) r
theorem nmL_app : ∀ (xs ys : List Int) (bs : List Bd), nmL bs (xs ++ ys) = nmL (nmL bs xs) ys
  | [], _, _ => rfl
  | x :: r, ys, bs => by simp only [List.cons_append, nmL]; exact nmL_app r ys _
theorem nm1_some {bs : List Bd} {x : Int} {t : Int × Int × Fo} (h : sv bs x = some t) : nm1 bs x = bs := by unfold nm1; rw [h]
theorem nm1_none {bs : List Bd} {x : Int} (h : sv bs x = none) : nm1 bs x = ladd bs (x, 0, (bs.length : Int), .nil) := by unfold nm1; rw [h]
theorem nm1_ext (bs : List Bd) (x : Int) : Ext bs (nm1 bs x) := by
  cases h : sv bs x with
  | some t => rw [nm1_some h]; exact fun _ _ h => h
  | none => rw [nm1_none h]; exact ext_ladd (b := (x, 0, (bs.length : Int), .nil)) h
theorem nmL_ext : ∀ (xs : List Int) (bs : List Bd), Ext bs (nmL bs xs)
  | [], _ => fun _ _ h => h
  | x :: r, bs => fun y t h => nmL_ext r _ y t (nm1_ext bs x y t h)
theorem nm1_dom (bs : List Bd) (x y : Int) : (sv (nm1 bs x) y).isSome = true ↔ (sv bs y).isSome = true ∨ y = x := by
  cases h : sv bs x with
  | some t =>
    rw [nm1_some h]
    exact ⟨.inl, fun h2 => h2.elim id fun e => by rw [e, h]; rfl⟩
  | none =>
    rw [nm1_none h, sv_ladd (b := (x, 0, (bs.length : Int), .nil)) h]
    dsimp only
    split
    · rename_i e; simp [e]
    · rename_i e; exact ⟨.inl, fun h2 => h2.elim id fun e2 => absurd e2.symm e⟩
theorem nmL_dom : ∀ (xs : List Int) (bs : List Bd) (y : Int), (sv (nmL bs xs) y).isSome = true ↔ (sv bs y).isSome = true ∨ y ∈ xs
  | [], bs, y => by simp [nmL]
  | x :: r, bs, y => by simp only [nmL]; rw [nmL_dom r, nm1_dom, List.mem_cons, or_assoc]
theorem nm1_asc {bs : List Bd} (x : Int) (h : Asc bs) : Asc (nm1 bs x) := by
  cases hs : sv bs x with
  | some t => rw [nm1_some hs]; exact h
  | none => rw [nm1_none hs]; exact asc_ladd h hs
theorem nmL_asc : ∀ (xs : List Int) (bs : List Bd), Asc bs → Asc (nmL bs xs)
  | [], _, h => h
  | x :: r, _, h => nmL_asc r _ (nm1_asc x h)
theorem nm1_len (bs : List Bd) (x : Int) : bs.length ≤ (nm1 bs x).length ∧ (nm1 bs x).length ≤ bs.length + 1 := by
  cases hs : sv bs x with
  | some t => rw [nm1_some hs]; omega
  | none => rw [nm1_none hs, ladd_len]; omega
theorem nmL_len : ∀ (xs : List Int) (bs : List Bd), bs.length ≤ (nmL bs xs).length ∧ (nmL bs xs).length ≤ bs.length + xs.length
  | [], bs => by simp [nmL]
  | x :: r, bs => by
    have h1 := nm1_len bs x
    have h2 := nmL_len r (nm1 bs x)
    simp only [nmL, List.length_cons]; omega
/-- Each name is a number below how many there are; no two are the same. -/
def Nmd (bs : List Bd) : Prop := (∀ x t, sv bs x = some t → t.1 = 0 ∧ t.2.2 = .nil ∧ 0 ≤ t.2.1 ∧ t.2.1 < bs.length) ∧ ∀ x y t u, sv bs x = some t → sv bs y = some u → t.2.1 = u.2.1 → x = y
theorem Nmd.nil : Nmd [] := ⟨fun _ _ h => by simp [sv] at h, fun _ _ _ _ h => by simp [sv] at h⟩
theorem nm1_nmd {bs : List Bd} (x : Int) (h : Nmd bs) : Nmd (nm1 bs x) := by
  cases hs : sv bs x with
  | some t => rw [nm1_some hs]; exact h
  | none =>
    rw [nm1_none hs]
    refine ⟨fun y t ht => ?_, fun y z t u ht hu he => ?_⟩
    · rw [sv_ladd (b := (x, 0, (bs.length : Int), .nil)) hs] at ht
      rw [ladd_len]
      split at ht
      · obtain rfl := Option.some.inj ht; exact ⟨rfl, rfl, by simp, by dsimp only; omega⟩
      · obtain ⟨a1, a2, a3, a4⟩ := h.1 y t ht; exact ⟨a1, a2, a3, by omega⟩
    · rw [sv_ladd (b := (x, 0, (bs.length : Int), .nil)) hs] at ht hu
      split at ht
      · rename_i e1
        obtain rfl := Option.some.inj ht
        split at hu
        · rename_i e2; exact e1.symm.trans e2
        · have := (h.1 z u hu).2.2.2; dsimp only at he; omega
      · split at hu
        · obtain rfl := Option.some.inj hu
          have := (h.1 y t ht).2.2.2; dsimp only at he; omega
        · exact h.2 y z t u ht hu he
theorem nmL_nmd : ∀ (xs : List Int) (bs : List Bd), Nmd bs → Nmd (nmL bs xs)
  | [], _, h => h
  | x :: r, _, h => nmL_nmd r _ (nm1_nmd x h)
/-- How a variable is named. -/
def nmOf (bs : List Bd) (x : Int) : Int := (tsub (sv bs) 0 x .nil).2.1
theorem nmOf_some {bs : List Bd} {x : Int} {t : Int × Int × Fo} (h : sv bs x = some t) : nmOf bs x = t.2.1 := by unfold nmOf; rw [tsub_var rfl h]

/-- The names of a term. -/
def nms (s v : Int) (k : Fo) : List Bd := nmL [] (fvs s v k)
theorem nms_in {s v : Int} {k : Fo} (h : okW s v k 16 = true) : Asc (nms s v k) ∧ Nmd (nms s v k) ∧ (∀ x, (sv (nms s v k) x).isSome = true ↔ x ∈ fvs s v k) ∧ (nms s v k).map (·.1) = tvR s v k ∧ (nms s v k).length ≤ 12 := by
  have h1 : Asc (nms s v k) := nmL_asc _ _ List.Pairwise.nil
  have h3 : ∀ x, (sv (nms s v k) x).isSome = true ↔ x ∈ fvs s v k := fun x => by unfold nms; rw [nmL_dom]; simp [sv]
  have h4 : (nms s v k).map (·.1) = tvR s v k := by
    unfold tvR
    rw [if_pos h]
    refine strict_ext _ _ (map_asc h1) (among_strict _ _) fun x => ?_
    rw [← sv_some, h3 x, among_mem]
    exact ⟨fun hx => by have := fvs_in h x hx; exact ⟨hx, by omega, by omega⟩, fun hx => hx.1⟩
  refine ⟨h1, nmL_nmd _ _ Nmd.nil, h3, h4, ?_⟩
  have h5 := congrArg List.length h4
  rw [List.length_map] at h5
  rw [h5]
  unfold tvR
  rw [if_pos h]
  exact among_len _ _
theorem nms_bof {s v : Int} {k : Fo} (h : okW s v k 16 = true) : Bof (nms s v k) 0 := fun x t ht => by
  obtain ⟨_, h2, _, _, h5⟩ := nms_in h
  obtain ⟨a1, a2, a3, a4⟩ := h2.1 x t ht
  refine ⟨(okN_iff _ _ _).2 ⟨?_, fun _ => ⟨a3, by omega⟩, fun hne => absurd a1 hne⟩, ?_, ?_⟩
  · rw [a1, a2]; simp [flen, ar]
  · rw [a2]; rfl
  · rw [a2]; simp [fsz]
theorem nms_sok {s v : Int} {k : Fo} (h : okW s v k 16 = true) : sok 16 (nms s v k) = true := by
  obtain ⟨h1, _, h3, _, _⟩ := nms_in h
  exact sok_of h1 (fun x hx => fvs_in h x ((h3 x).1 hx)) (fun x t ht => ⟨(nms_bof h x t ht).1, (nms_bof h x t ht).2.1, by have := (nms_bof h x t ht).2.2; omega⟩)
/-- The answer of TermPlain. -/
def plR (s v : Int) (k : Fo) : (Int × Int × Fo) × List Bd := if okW s v k 16 = true then (tsub (sv (nms s v k)) s v k, nms s v k) else ((0, 0, .nil), [])

/-- A row in which variables stand for variables has the same form. -/
theorem fsub_form {σ : Int → Option (Int × Int × Fo)} (h : ∀ x t, σ x = some t → t.1 = 0 ∧ t.2.2 = .nil) : ∀ k : Fo, fok k = true → fsz (fsub σ k) = fsz k ∧ ∀ i, fpl (fsub σ k) i = fpl k i
  | .nil, _ => ⟨rfl, fun _ => rfl⟩
  | .node x y p k r, hk => by
    simp only [fok, Bool.and_eq_true] at hk
    obtain ⟨r1, r2⟩ := fsub_form h r hk.2
    obtain ⟨k1, k2⟩ := fsub_form h k hk.1.2
    simp only [fsub]
    by_cases e : p.1 = 0
    · have hn : k = .nil := kids_none (v := p.2) (by rw [← e]; exact hk.1.1)
      subst hn
      rw [if_pos e]
      cases hs : σ p.2 with
      | none => exact ⟨by simp only [fsz, r1], fun i => by simp only [fpl, r2]⟩
      | some t =>
        have ht := (h _ _ hs).2
        dsimp only
        rw [ht]
        exact ⟨by simp only [fsz, r1], fun i => by simp only [fpl, r2]⟩
    · rw [if_neg e]
      exact ⟨by simp only [fsz, k1, r1], fun i => by simp only [fpl, k2, r2]⟩
theorem tsub_form {σ : Int → Option (Int × Int × Fo)} (h : ∀ x t, σ x = some t → t.1 = 0 ∧ t.2.2 = .nil) {s v : Int} {k : Fo} (h1 : okN s v (flen k) = true) (h2 : fok k = true) : fsz (tsub σ s v k).2.2 = fsz k ∧ places (tsub σ s v k).2.2 = places k := by
  by_cases e : s = 0
  · subst e
    have hn := kids_none h1
    subst hn
    rw [tsub0]
    cases hs : σ v with
    | none => exact ⟨rfl, rfl⟩
    | some t =>
      have ht := (h _ _ hs).2
      simp only [Option.getD]
      rw [ht]; exact ⟨rfl, rfl⟩
  · rw [tsub_sym e]
    obtain ⟨a, b⟩ := fsub_form h k h2
    exact ⟨a, by unfold places; rw [b]⟩
theorem plR_cases {s v : Int} {k : Fo} {s' v' : Int} {k' : Fo} {bs : List Bd} (h : plR s v k = ((s', v', k'), bs)) :
    (okW s v k 16 = false ∧ s' = 0 ∧ v' = 0 ∧ k' = .nil ∧ bs = []) ∨ (okW s v k 16 = true ∧ bs = nms s v k ∧ tsub (sv (nms s v k)) s v k = (s', v', k') ∧ okW s' v' k' 16 = true ∧ fsz k' = fsz k ∧ places k' = places k) := by
  unfold plR at h
  split at h
  · rename_i hok
    simp only [Prod.mk.injEq] at h
    obtain ⟨h1, h2⟩ := h
    obtain ⟨o1, o2, o3⟩ := (okW_iff _ _ _ _).1 hok
    obtain ⟨_, hn, _, _, _⟩ := nms_in hok
    have hf := tsub_form (σ := sv (nms s v k)) (fun x t ht => ⟨(hn.1 x t ht).1, (hn.1 x t ht).2.1⟩) o1 o2
    have ht := tsub_ok (nms_sok hok) hok
    rw [h1] at hf ht
    dsimp only at hf ht
    exact .inr ⟨hok, h2.symm, h1, (okW_iff _ _ _ _).2 ⟨ht.1, ht.2.1, by have := hf.1; omega⟩, hf.1, hf.2⟩
  · rename_i hok
    simp only [Prod.mk.injEq] at h
    exact .inl ⟨by simpa using hok, h.1.1.symm, h.1.2.1.symm, h.1.2.2.symm, h.2.symm⟩
theorem plR_small {s v : Int} {k : Fo} {s' v' : Int} {k' : Fo} {bs : List Bd} (h : plR s v k = ((s', v', k'), bs)) : fsz k' ≤ 15 ∧ bs.length ≤ 12 ∧ ∀ x ∈ bs, fsz x.2.2.2 ≤ 1000000 := by
  rcases plR_cases h with ⟨_, _, _, rfl, rfl⟩ | ⟨hok, rfl, _, ho, _, _⟩
  · exact ⟨by simp [fsz], by simp, fun x hx => by cases hx⟩
  · have h1 := ((okW_iff _ _ _ _).1 ho).2.2
    obtain ⟨ha, _, _, _, h5⟩ := nms_in hok
    exact ⟨by omega, h5, fun x hx => by have := (nms_bof hok x.1 x.2 (sv_mem ha hx)).2.2; omega⟩

/-- The variables of what comes of names. -/
theorem fvl_names {σ : Int → Option (Int × Int × Fo)} : ∀ k : Fo, (∀ x ∈ fvl k, ∃ t, σ x = some t ∧ t.1 = 0) → fvl (fsub σ k) = (fvl k).map fun x => (tsub σ 0 x .nil).2.1
  | .nil, _ => rfl
  | .node x y p k r, h => by
    simp only [fvl, List.mem_append] at h
    have hr := fvl_names r fun z hz => h z (.inr hz)
    rw [fsub_sign]
    by_cases e : p.1 = 0
    · obtain ⟨t, ht, h0⟩ := h p.2 (.inl (by rw [if_pos e]; simp))
      rw [tsub_var e ht]
      simp only [fvl, if_pos h0, if_pos e, hr, List.map_append, List.map_cons, List.map_nil]
      rw [tsub_var rfl ht]
    · rw [tsub_sym e]
      simp only [fvl, if_neg e, hr, List.map_append]
      rw [fvl_names k fun z hz => h z (.inl (by rw [if_neg e]; exact hz))]
theorem fvs_names {bs : List Bd} (hn : Nmd bs) {s v : Int} {k : Fo} (h : ∀ x ∈ fvs s v k, (sv bs x).isSome = true) {s' v' : Int} {k' : Fo} (ht : tsub (sv bs) s v k = (s', v', k')) : fvs s' v' k' = (fvs s v k).map (nmOf bs) := by
  unfold fvs at h
  have hx : ∀ x, (sv bs x).isSome = true → ∃ t, sv bs x = some t ∧ t.1 = 0 := fun x hx => by
    obtain ⟨t, ht⟩ := Option.isSome_iff_exists.1 hx
    exact ⟨t, ht, (hn.1 x t ht).1⟩
  by_cases e : s = 0
  · rw [if_pos e] at h
    obtain ⟨t, h1, h0⟩ := hx v (h v (by simp))
    rw [tsub_var e h1] at ht
    subst ht
    dsimp only at h0
    unfold fvs
    rw [if_pos h0, if_pos e, List.map_cons, List.map_nil, nmOf_some h1]
  · rw [if_neg e] at h
    rw [tsub_sym e] at ht
    simp only [Prod.mk.injEq] at ht
    obtain ⟨rfl, rfl, rfl⟩ := ht
    unfold fvs
    rw [if_neg e, if_neg e]
    exact fvl_names k fun x hxx => hx x (h x hxx)
/-- Named anew, names stay; there are as many. -/
theorem nms_anew (B : List Bd) : ∀ (xs : List Int) (bs cs : List Bd), Ext (nmL bs xs) B → Nmd B → cs.length = bs.length → Nmd bs → (∀ x t, sv bs x = some t → sv cs t.2.1 = some (0, t.2.1, .nil)) → (∀ m, (sv cs m).isSome = true → 0 ≤ m ∧ m < bs.length) →
    (nmL cs (xs.map (nmOf B))).length = (nmL bs xs).length ∧ ∀ x t, sv (nmL bs xs) x = some t → sv (nmL cs (xs.map (nmOf B))) t.2.1 = some (0, t.2.1, .nil)
  | [], bs, cs, _, _, hl, _, hv, _ => ⟨hl, hv⟩
  | x :: r, bs, cs, hB, hNB, hl, hN, hv, hd => by
    simp only [List.map_cons, nmL]
    simp only [nmL] at hB
    cases hs : sv bs x with
    | some t =>
      have hx := hB x t (nmL_ext r _ x t (nm1_ext bs x x t hs))
      have h1 := hv x t hs
      rw [nmOf_some hx, nm1_some h1, nm1_some hs]
      rw [nm1_some hs] at hB
      exact nms_anew B r bs cs hB hNB hl hN hv hd
    | none =>
      have hx0 : sv (nm1 bs x) x = some (0, (bs.length : Int), .nil) := by rw [nm1_none hs, sv_ladd (b := (x, 0, (bs.length : Int), .nil)) hs]; simp
      have hx := hB x _ (nmL_ext r _ x _ hx0)
      have h1 : sv cs (bs.length : Int) = none := by
        cases h : sv cs (bs.length : Int) with
        | none => rfl
        | some u => have := (hd (bs.length : Int) (by rw [h]; rfl)).2; omega
      rw [nmOf_some hx]
      dsimp only
      have hc : nm1 cs (bs.length : Int) = ladd cs ((bs.length : Int), 0, (bs.length : Int), .nil) := by rw [nm1_none h1, hl]
      have hb : nm1 bs x = ladd bs (x, 0, (bs.length : Int), .nil) := nm1_none hs
      refine nms_anew B r (nm1 bs x) (nm1 cs (bs.length : Int)) hB hNB ?_ (nm1_nmd x hN) (fun y t ht => ?_) (fun m hm => ?_)
      · rw [hc, hb, ladd_len, ladd_len, hl]
      · rw [hb, sv_ladd (b := (x, 0, (bs.length : Int), .nil)) hs] at ht
        rw [hc, sv_ladd (b := ((bs.length : Int), 0, (bs.length : Int), .nil)) h1]
        split at ht
        · obtain rfl := Option.some.inj ht; dsimp only; rw [if_pos rfl]
        · have h4 := (hN.1 y t ht).2.2.2
          dsimp only
          rw [if_neg (by omega)]
          exact hv y t ht
      · rw [hc, sv_ladd (b := ((bs.length : Int), 0, (bs.length : Int), .nil)) h1] at hm
        rw [hb, ladd_len]
        split at hm
        · rename_i e; dsimp only at e; omega
        · have := hd m hm; omega
theorem fsub_self {σ : Int → Option (Int × Int × Fo)} : ∀ k : Fo, fok k = true → (∀ x ∈ fvl k, σ x = some (0, x, .nil)) → fsub σ k = k
  | .nil, _, _ => rfl
  | .node x y p k r, hk, h => by
    simp only [fok, Bool.and_eq_true] at hk
    simp only [fvl, List.mem_append] at h
    have hr := fsub_self r hk.2 fun z hz => h z (.inr hz)
    rw [fsub_sign, hr]
    by_cases e : p.1 = 0
    · have hn : k = .nil := kids_none (v := p.2) (by rw [← e]; exact hk.1.1)
      have h0 := h p.2 (.inl (by rw [if_pos e]; simp))
      rw [tsub_var e h0, hn]
      have : p = (0, p.2) := Prod.ext e rfl
      rw [this]
    · rw [tsub_sym e, fsub_self k hk.1.2 fun z hz => h z (.inl (by rw [if_neg e]; exact hz))]
theorem tsub_self {σ : Int → Option (Int × Int × Fo)} {s v : Int} {k : Fo} (h1 : okN s v (flen k) = true) (h2 : fok k = true) (h : ∀ x ∈ fvs s v k, σ x = some (0, x, .nil)) : tsub σ s v k = (s, v, k) := by
  unfold fvs at h
  by_cases e : s = 0
  · subst e
    rw [if_pos rfl] at h
    rw [tsub_var rfl (h v (by simp)), kids_none h1]
  · rw [if_neg e] at h
    rw [tsub_sym e, fsub_self k h2 h]
/-- Named anew twice is named anew once. -/
theorem plain_twice {s v : Int} {k : Fo} {s' v' : Int} {k' : Fo} {bs : List Bd} (h : plR s v k = ((s', v', k'), bs)) (hok : okW s v k 16 = true) : plR s' v' k' = ((s', v', k'), nms s' v' k') ∧ (nms s' v' k').length = (nms s v k).length := by
  rcases plR_cases h with ⟨h0, _⟩ | ⟨_, rfl, ht, ho, _, _⟩
  · rw [hok] at h0; cases h0
  obtain ⟨o1, o2, _⟩ := (okW_iff _ _ _ _).1 ho
  obtain ⟨_, hn, hd, _, _⟩ := nms_in hok
  have hf := fvs_names hn (fun x hx => (hd x).2 hx) ht
  have hA := nms_anew (nms s v k) (fvs s v k) [] [] (fun _ _ h => h) hn rfl Nmd.nil (fun _ _ h => by simp [sv] at h) (fun _ h => by simp [sv] at h)
  have hE : nms s' v' k' = nmL [] ((fvs s v k).map (nmOf (nms s v k))) := by unfold nms; rw [hf]; rfl
  refine ⟨?_, by rw [hE]; exact hA.1⟩
  unfold plR
  rw [if_pos ho]
  refine Prod.ext ?_ rfl
  refine tsub_self o1 o2 fun m hm => ?_
  rw [hf] at hm
  obtain ⟨x, hx, rfl⟩ := List.mem_map.1 hm
  obtain ⟨t, hxt⟩ := Option.isSome_iff_exists.1 ((hd x).2 hx)
  rw [nmOf_some hxt, hE]
  exact hA.2 x t hxt
/-- A plain term is the term but for names. -/
theorem plain_back {s v : Int} {k : Fo} {s' v' : Int} {k' : Fo} {bs : List Bd} (h : plR s v k = ((s', v', k'), bs)) (hok : okW s v k 16 = true) : sdR bs s v k = (s', v', k', true) ∧ (∃ b1, maR s v k s' v' k' = (b1, true)) ∧ ∃ b2, maR s' v' k' s v k = (b2, true) := by
  rcases plR_cases h with ⟨h0, _⟩ | ⟨_, rfl, ht, ho, _, _⟩
  · rw [hok] at h0; cases h0
  obtain ⟨p1, p2, p3⟩ := (okW_iff _ _ _ _).1 ho
  obtain ⟨o1, o2, _⟩ := (okW_iff _ _ _ _).1 hok
  obtain ⟨_, hn, hd, _, _⟩ := nms_in hok
  obtain ⟨b1, hb1, _⟩ := ma_made hok ho ht
  refine ⟨sdR_of (nms_sok hok) hok ht (by omega), ⟨b1, hb1⟩, ?_⟩
  let τ : Int → Option (Int × Int × Fo) := fun m => ((nms s v k).find? fun b => decide (b.2.2.1 = m)).map fun b => (0, b.1, .nil)
  have hτ : ∀ x t, sv (nms s v k) x = some t → τ t.2.1 = some (0, x, .nil) := fun x t hx => by
    have hm := mem_sv hx
    cases hf : (nms s v k).find? fun b => decide (b.2.2.1 = t.2.1) with
    | none =>
      have := List.find?_eq_none.1 hf _ hm
      simp at this
    | some b =>
      have h1 := List.find?_some hf
      have h2 := List.mem_of_find?_eq_some hf
      simp only [decide_eq_true_eq] at h1
      have h3 := sv_mem (nms_in hok).1 h2
      have h4 := hn.2 b.1 x b.2 t h3 hx h1
      show Option.map _ ((nms s v k).find? fun b => decide (b.2.2.1 = t.2.1)) = _
      rw [hf, ← h4]; rfl
  have hc := tsub_comp (σ := sv (nms s v k)) (τ := τ) (s := s) (v := v) (k := k) fun x hx => (hd x).2 hx
  rw [ht] at hc
  dsimp only at hc
  have hs : tsub (comp (sv (nms s v k)) τ) s v k = (s, v, k) := tsub_self o1 o2 fun x hx => by
    obtain ⟨t, hxt⟩ := Option.isSome_iff_exists.1 ((hd x).2 hx)
    obtain ⟨a1, a2, _, _⟩ := hn.1 x t hxt
    rw [comp_some hxt]
    rw [tsub_var a1 (hτ x t hxt)]
  rw [hs] at hc
  obtain ⟨b2, hb2, _⟩ := ma_made ho hok hc
  exact ⟨b2, hb2⟩
end Go.Proofs.Ytpfkhgiiojikbaa
