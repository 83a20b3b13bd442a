/- Several texts in one: XLk. -/
import Derived.Test.YtoafleckcjanaaaKLk19
import Derived.Test.YtoafleckcjanaaaKLk17
import Derived.Test.YtoafleckcjanaaaKLk26
import Derived.Test.YtoafleckcjanaaaKLk33
import Derived.Test.YtoafleckcjanaaaKLk34

/-! XLk: For every slice of equations, term and link, laws.FnExactLinkDo answers true and writes nothing that was there. Written by gen_xl.py. -/
namespace Go.Proofs.Ytoafleckcjanaaa
open Go.RowKit Go.Deep

theorem toTermT_anyL {s v : Int} {a : Option Addr} {c : Nat} {k : Fo} {w : World} (hl : Sl w 0 w.heap.size a k) (hN : fsz k ≤ 1048576) :
    Calls Try.prog 15 #[.agg #[.int .i64 s, .int .i64 v, .slice a (flen k) c]] w (ToPostT s v k w) :=
  toTerm_ofT s v a c k w fun w1 hb1 => toTermS_anyT (fsz k) a c k w1 ((hl.below hb1).mono (Nat.le_refl _) hb1.size) (Nat.le_refl _) hN

set_option maxRecDepth 100000 in
set_option maxHeartbeats 40000000 in
theorem exactLinkDo_walk (A : Option Addr) (C : Nat) (es : List Eqd) (s v : Int) (a : Option Addr) (c : Nat) (k : Fo) (eq : Int) (back : Bool) (pA : Option Addr) (pC : Nat) (place : List Int) (B : Option Addr) (D : Nat) (bs : List Bd) (w : World)
    (h : ESl w 0 w.heap.size A es) (hme : es.length ≤ maxLen) (halle : ∀ x ∈ es, (flen x.1.2.2 ≤ maxLen ∧ fcap x.1.2.2) ∧ flen x.2.2.2 ≤ maxLen ∧ fcap x.2.2.2) (hl : Sl w 0 w.heap.size a k) (hc : fcap k) (hm : flen k ≤ maxLen) (hlk : LkIn w place bs pA B) :
    Calls Try.prog 3 #[.slice A es.length C, .agg #[.int .i64 s, .int .i64 v, .slice a (flen k) c], .agg #[.int .i64 eq, .bool back, .slice pA place.length pC, .slice B bs.length D]] w fun e w' => e = .returned (.bool true) ∧ Below w.heap.size w w' := by
  have hb0 : Below w.heap.size w ((w.alloc (.cells #[.int .i64 s, .int .i64 v, .slice a (flen k) c] 25)).alloc (.cells #[.int .i64 eq, .bool back, .slice pA place.length pC, .slice B bs.length D] 29)) := ((Below.refl _ _).alloc (Nat.le_refl _) _).alloc (by simp) _
  have hz0 : ((w.alloc (.cells #[.int .i64 s, .int .i64 v, .slice a (flen k) c] 25)).alloc (.cells #[.int .i64 eq, .bool back, .slice pA place.length pC, .slice B bs.length D] 29)).heap.size = w.heap.size + 2 := by simp
  obtain ⟨hlp, hlpm, hlb, hlbm, hlall⟩ := hlk
  have Hq : Hid (Tq (w.heap.size + 2) w.heap.size s v a c k ((w.alloc (.cells #[.int .i64 s, .int .i64 v, .slice a (flen k) c] 25)).alloc (.cells #[.int .i64 eq, .bool back, .slice pA place.length pC, .slice B bs.length D] 29))) := ⟨by rw [World.cell?_alloc_lt _ _ _ (by simp), World.cell?_alloc_at _ _ _ _ (by simp)]; rfl, by rw [World.cell?_alloc_lt _ _ _ (by simp), World.cell?_alloc_at _ _ _ _ (by simp)]; rfl, by rw [World.cell?_alloc_lt _ _ _ (by simp), World.cell?_alloc_at _ _ _ _ (by simp)]; rfl, by omega, (hl.below hb0).mono (Nat.le_refl _) (by omega), by omega⟩
  have Hl : Hid (Lq (w.heap.size + 2) (w.heap.size + 1) eq back pA pC place B D bs ((w.alloc (.cells #[.int .i64 s, .int .i64 v, .slice a (flen k) c] 25)).alloc (.cells #[.int .i64 eq, .bool back, .slice pA place.length pC, .slice B bs.length D] 29))) := ⟨by rw [World.cell?_alloc_at _ _ _ _ (by simp)]; rfl, by rw [World.cell?_alloc_at _ _ _ _ (by simp)]; rfl, by rw [World.cell?_alloc_at _ _ _ _ (by simp)]; rfl, by rw [World.cell?_alloc_at _ _ _ _ (by simp)]; rfl, by omega, (hlp.same (Same.of_below hb0)).mono (Nat.le_refl _) (by omega), (hlb.below hb0).mono (Nat.le_refl _) (by omega), by omega⟩
  have HS : Hid (Eqr (w.heap.size + 2) es A ((w.alloc (.cells #[.int .i64 s, .int .i64 v, .slice a (flen k) c] 25)).alloc (.cells #[.int .i64 eq, .bool back, .slice pA place.length pC, .slice B bs.length D] 29))) := ⟨(h.below hb0).mono (Nat.le_refl _) (by omega), by omega⟩
  have Hlow : Hid (Below w.heap.size w ((w.alloc (.cells #[.int .i64 s, .int .i64 v, .slice a (flen k) c] 25)).alloc (.cells #[.int .i64 eq, .bool back, .slice pA place.length pC, .slice B bs.length D] 29))) := hb0
  have HME := Lib.hid hme
  have HALE := Lib.hid halle
  have HC := Lib.hid hc
  have HM := Lib.hid hm
  have HPM := Lib.hid hlpm
  have HBM := Lib.hid hlbm
  have HAB := Lib.hid hlall
  clear h hme halle hl hc hm hb0 hz0 hlp hlpm hlb hlbm hlall
  go_enter Try.func3, Try.ntmps3
  go_wp2_with fail
  with_reducible refine (szEqS_any es A C 1048576 _ HS.out.top HME.out HALE.out (by omega) (by omega)).mono ?_
  rintro e w1 ⟨rfl, hb⟩
  have Hlow' : Hid (Below w.heap.size w w1) := low_next Hlow.out hb
  have Hq' : Hid (Tq (w.heap.size + 2) w.heap.size s v a c k w1) := Hq.out.next hb
  have Hl' : Hid (Lq (w.heap.size + 2) (w.heap.size + 1) eq back pA pC place B D bs w1) := Hl.out.next hb
  have HS' : Hid (Eqr (w.heap.size + 2) es A w1) := HS.out.next hb
  clear Hlow Hq Hl HS
  have Hlow := Hlow'
  clear Hlow'
  have Hq := Hq'
  clear Hq'
  have Hl := Hl'
  clear Hl'
  have HS := HS'
  clear HS'
  clear hb
  rcases szQR_case es 1048576 with hz | hz
  · rw [hz]
    clear hz
    go_wp2_with fail
    go_ret
    exact ⟨rfl, Hlow.out⟩
  have HZE : Hid (∀ x ∈ es, fszE x ≤ 1048576) := fun x hx => by have := szQ_mem hx; have := (szQR_fit hz (by omega)).1; omega
  have hze : szQR es 1048576 + (es.length + szQ es) = 1048576 := by
    have h9 := hz
    unfold szQR at h9 ⊢
    split at h9
    · rename_i h8; rw [if_pos h8]; omega
    · omega
  generalize szQR es 1048576 = z at *
  have qq0 := Hq.out.c0
  have qq1 := Hq.out.c1
  have qq2 := Hq.out.c2
  go_wp2_with fail
  with_reducible refine (szTerm_any Hq.out.top HC.out HM.out hz (by omega)).mono ?_
  rintro e w2 ⟨rfl, hb⟩
  clear qq0 qq1 qq2
  have Hlow' : Hid (Below w.heap.size w w2) := low_next Hlow.out hb
  have Hq' : Hid (Tq (w.heap.size + 2) w.heap.size s v a c k w2) := Hq.out.next hb
  have Hl' : Hid (Lq (w.heap.size + 2) (w.heap.size + 1) eq back pA pC place B D bs w2) := Hl.out.next hb
  have HS' : Hid (Eqr (w.heap.size + 2) es A w2) := HS.out.next hb
  clear Hlow Hq Hl HS
  have Hlow := Hlow'
  clear Hlow'
  have Hq := Hq'
  clear Hq'
  have Hl := Hl'
  clear Hl'
  have HS := HS'
  clear HS'
  clear hb
  rcases szR_case k z with hz2 | hz2
  · rw [hz2]
    clear hz2
    go_wp2_with fail
    go_ret
    exact ⟨rfl, Hlow.out⟩
  have hze2 : szR k z + fsz k = z := by
    have h9 := hz2
    unfold szR at h9 ⊢
    split at h9
    · rename_i h8; rw [if_pos h8]; omega
    · omega
  generalize szR k z = z2 at *
  have hN : fsz k ≤ 1048576 := by omega
  have ql0 := Hl.out.c0
  have ql1 := Hl.out.c1
  have ql2 := Hl.out.c2
  have ql3 := Hl.out.c3
  go_wp2_with fail
  with_reducible refine (szLink_any eq back pA pC place B D bs z2 _ Hl.out.topB HPM.out HBM.out HAB.out hz2 (by omega)).mono ?_
  rintro e w3 ⟨rfl, hb⟩
  clear ql0 ql1 ql2 ql3
  have Hlow' : Hid (Below w.heap.size w w3) := low_next Hlow.out hb
  have Hq' : Hid (Tq (w.heap.size + 2) w.heap.size s v a c k w3) := Hq.out.next hb
  have Hl' : Hid (Lq (w.heap.size + 2) (w.heap.size + 1) eq back pA pC place B D bs w3) := Hl.out.next hb
  have HS' : Hid (Eqr (w.heap.size + 2) es A w3) := HS.out.next hb
  clear Hlow Hq Hl HS
  have Hlow := Hlow'
  clear Hlow'
  have Hq := Hq'
  clear Hq'
  have Hl := Hl'
  clear Hl'
  have HS := HS'
  clear HS'
  clear hb
  rcases szLR_case place bs z2 with hz3 | hz3
  · rw [hz3]
    clear hz3
    go_wp2_with fail
    go_ret
    exact ⟨rfl, Hlow.out⟩
  obtain ⟨hpl, hfit, _⟩ := szLR_fit hz3 (by omega)
  have hpz : (place.length : Int) ≤ z2 := by have h9 := hz3; unfold szLR at h9; split at h9 <;> omega
  have hbl : bs.length ≤ 1048576 := by omega
  have HZB : Hid (∀ x ∈ bs, fsz x.2.2.2 ≤ 1048576) := fun x hx => by have := szT_mem hx; omega
  have hmc : mcn bs ≤ 4000000 := by rw [mcn_szT]; omega
  have hmp := mcn_pos bs
  generalize szLR place bs z2 = z3 at *
  have hmh : mch (hlf es) + 2 * (fsz k : Int) + place.length ≤ 4200000 := by rw [mch_hlf]; omega
  have hmhp := mch_pos (hlf es)
  have hel : es.length ≤ 1048576 := by omega
  have HZM : Hid (∀ x ∈ es, fsz x.1.2.2 ≤ 1048576 ∧ fsz x.2.2.2 ≤ 1048576) := fun x hx => by have := HZE.out x hx; unfold fszE at this; omega
  clear hz hz2 hze hze2 hpz hfit
  have hu0 : ∀ u : After w3.heap.size w3, u.world.cell? ⟨w.heap.size, 0, none⟩ = some (.int .i64 s) := fun u => cell_low u.below Hq.out.c0
  have hu1 : ∀ u : After w3.heap.size w3, u.world.cell? ⟨w.heap.size, 1, none⟩ = some (.int .i64 v) := fun u => cell_low u.below Hq.out.c1
  have hu2 : ∀ u : After w3.heap.size w3, u.world.cell? ⟨w.heap.size, 2, none⟩ = some (.slice a (flen k) c) := fun u => cell_low u.below Hq.out.c2
  have hu3 : ∀ u : After w3.heap.size w3, u.world.cell? ⟨w.heap.size + 1, 0, none⟩ = some (.int .i64 eq) := fun u => cell_low u.below Hl.out.c0
  have hu4 : ∀ u : After w3.heap.size w3, u.world.cell? ⟨w.heap.size + 1, 1, none⟩ = some (.bool back) := fun u => cell_low u.below Hl.out.c1
  have hu5 : ∀ u : After w3.heap.size w3, u.world.cell? ⟨w.heap.size + 1, 2, none⟩ = some (.slice pA place.length pC) := fun u => cell_low u.below Hl.out.c2
  have hu6 : ∀ u : After w3.heap.size w3, u.world.cell? ⟨w.heap.size + 1, 3, none⟩ = some (.slice B bs.length D) := fun u => cell_low u.below Hl.out.c3
  go_wp2_with fail
  obtain ⟨QQ, hQ1, hQ2⟩ : ∃ QQ : Exit → Act → World → Prop, (∀ (y3 y6 y7 y10 y11 y12 y13 y14 y15 y16 y17 y18 y19 y20 y21 y22 y23 y24 y25 y26 y27 y28 y29 y30 y31 y32 y33 y34 y35 y36 y37 y38 y39 y40 y41 y42 y43 y44 y45 y46 y47 y48 y49 y50 y51 y52 y53 y54 y55 y56 y57 y58 y59 y60 y61 y62 y63 y64 y65 y66 y67 y68 y69 y70 y71 y72 y73 y74 y75 y76 y77 y78 y79 y80 y81 y82 y83 y84 y85 y86 y87 y88 y89 y90 y91 y92 y93 y94 y95 y96 y97 y98 y99 y100 y101 y102 y103 y104 y105 y106 y107 y108 y109 y110 y111 y112 y113 y114 y115 y116 y117 y118 y119 y120 y121 y122 y123 y124 y125 y126 y127 y128 y129 y130 y131 y132 y133 y134 y135 y136 y137 y138 y139 y140 y141 : Value) (bw : Nat) (sw vw : Int) (kw : Fo) (aw : Option Addr) (cw : Nat) (tw : Bool) (w' : World), ansR (lkR es (s, v, k) (eq, back, place, bs)) = ((sw, vw, kw), tw) → Below w3.heap.size w3 w' → Tb bw sw vw aw cw kw w' → QQ .normal { tmps := #[.slice A es.length C, .agg #[.int .i64 s, .int .i64 v, .slice a (flen k) c], .agg #[.int .i64 eq, .bool back, .slice pA place.length pC, .slice B bs.length D], y3, .pointer (some ⟨w.heap.size, 0, none⟩), .pointer (some ⟨w.heap.size + 1, 0, none⟩), y6, y7, .pointer (some ⟨bw, 0, none⟩), .bool tw, y10, y11, y12, y13, y14, y15, y16, y17, y18, y19, y20, y21, y22, y23, y24, y25, y26, y27, y28, y29, y30, y31, y32, y33, y34, y35, y36, y37, y38, y39, y40, y41, y42, y43, y44, y45, y46, y47, y48, y49, y50, y51, y52, y53, y54, y55, y56, y57, y58, y59, y60, y61, y62, y63, y64, y65, y66, y67, y68, y69, y70, y71, y72, y73, y74, y75, y76, y77, y78, y79, y80, y81, y82, y83, y84, y85, y86, y87, y88, y89, y90, y91, y92, y93, y94, y95, y96, y97, y98, y99, y100, y101, y102, y103, y104, y105, y106, y107, y108, y109, y110, y111, y112, y113, y114, y115, y116, y117, y118, y119, y120, y121, y122, y123, y124, y125, y126, y127, y128, y129, y130, y131, y132, y133, y134, y135, y136, y137, y138, y139, y140, y141], defers := [] } w') ∧ (∀ e a' w', QQ e a' w' → ∀ K : Exit → Act → World → Prop, (∀ (y3 y6 y7 y10 y11 y12 y13 y14 y15 y16 y17 y18 y19 y20 y21 y22 y23 y24 y25 y26 y27 y28 y29 y30 y31 y32 y33 y34 y35 y36 y37 y38 y39 y40 y41 y42 y43 y44 y45 y46 y47 y48 y49 y50 y51 y52 y53 y54 y55 y56 y57 y58 y59 y60 y61 y62 y63 y64 y65 y66 y67 y68 y69 y70 y71 y72 y73 y74 y75 y76 y77 y78 y79 y80 y81 y82 y83 y84 y85 y86 y87 y88 y89 y90 y91 y92 y93 y94 y95 y96 y97 y98 y99 y100 y101 y102 y103 y104 y105 y106 y107 y108 y109 y110 y111 y112 y113 y114 y115 y116 y117 y118 y119 y120 y121 y122 y123 y124 y125 y126 y127 y128 y129 y130 y131 y132 y133 y134 y135 y136 y137 y138 y139 y140 y141 : Value) (bw : Nat) (sw vw : Int) (kw : Fo) (aw : Option Addr) (cw : Nat) (tw : Bool) (w' : World), ansR (lkR es (s, v, k) (eq, back, place, bs)) = ((sw, vw, kw), tw) → Below w3.heap.size w3 w' → Tb bw sw vw aw cw kw w' → K .normal { tmps := #[.slice A es.length C, .agg #[.int .i64 s, .int .i64 v, .slice a (flen k) c], .agg #[.int .i64 eq, .bool back, .slice pA place.length pC, .slice B bs.length D], y3, .pointer (some ⟨w.heap.size, 0, none⟩), .pointer (some ⟨w.heap.size + 1, 0, none⟩), y6, y7, .pointer (some ⟨bw, 0, none⟩), .bool tw, y10, y11, y12, y13, y14, y15, y16, y17, y18, y19, y20, y21, y22, y23, y24, y25, y26, y27, y28, y29, y30, y31, y32, y33, y34, y35, y36, y37, y38, y39, y40, y41, y42, y43, y44, y45, y46, y47, y48, y49, y50, y51, y52, y53, y54, y55, y56, y57, y58, y59, y60, y61, y62, y63, y64, y65, y66, y67, y68, y69, y70, y71, y72, y73, y74, y75, y76, y77, y78, y79, y80, y81, y82, y83, y84, y85, y86, y87, y88, y89, y90, y91, y92, y93, y94, y95, y96, y97, y98, y99, y100, y101, y102, y103, y104, y105, y106, y107, y108, y109, y110, y111, y112, y113, y114, y115, y116, y117, y118, y119, y120, y121, y122, y123, y124, y125, y126, y127, y128, y129, y130, y131, y132, y133, y134, y135, y136, y137, y138, y139, y140, y141], defers := [] } w') → K e a' w') :=
    ⟨fun e a' w' => ∀ K : Exit → Act → World → Prop, (∀ (y3 y6 y7 y10 y11 y12 y13 y14 y15 y16 y17 y18 y19 y20 y21 y22 y23 y24 y25 y26 y27 y28 y29 y30 y31 y32 y33 y34 y35 y36 y37 y38 y39 y40 y41 y42 y43 y44 y45 y46 y47 y48 y49 y50 y51 y52 y53 y54 y55 y56 y57 y58 y59 y60 y61 y62 y63 y64 y65 y66 y67 y68 y69 y70 y71 y72 y73 y74 y75 y76 y77 y78 y79 y80 y81 y82 y83 y84 y85 y86 y87 y88 y89 y90 y91 y92 y93 y94 y95 y96 y97 y98 y99 y100 y101 y102 y103 y104 y105 y106 y107 y108 y109 y110 y111 y112 y113 y114 y115 y116 y117 y118 y119 y120 y121 y122 y123 y124 y125 y126 y127 y128 y129 y130 y131 y132 y133 y134 y135 y136 y137 y138 y139 y140 y141 : Value) (bw : Nat) (sw vw : Int) (kw : Fo) (aw : Option Addr) (cw : Nat) (tw : Bool) (w' : World), ansR (lkR es (s, v, k) (eq, back, place, bs)) = ((sw, vw, kw), tw) → Below w3.heap.size w3 w' → Tb bw sw vw aw cw kw w' → K .normal { tmps := #[.slice A es.length C, .agg #[.int .i64 s, .int .i64 v, .slice a (flen k) c], .agg #[.int .i64 eq, .bool back, .slice pA place.length pC, .slice B bs.length D], y3, .pointer (some ⟨w.heap.size, 0, none⟩), .pointer (some ⟨w.heap.size + 1, 0, none⟩), y6, y7, .pointer (some ⟨bw, 0, none⟩), .bool tw, y10, y11, y12, y13, y14, y15, y16, y17, y18, y19, y20, y21, y22, y23, y24, y25, y26, y27, y28, y29, y30, y31, y32, y33, y34, y35, y36, y37, y38, y39, y40, y41, y42, y43, y44, y45, y46, y47, y48, y49, y50, y51, y52, y53, y54, y55, y56, y57, y58, y59, y60, y61, y62, y63, y64, y65, y66, y67, y68, y69, y70, y71, y72, y73, y74, y75, y76, y77, y78, y79, y80, y81, y82, y83, y84, y85, y86, y87, y88, y89, y90, y91, y92, y93, y94, y95, y96, y97, y98, y99, y100, y101, y102, y103, y104, y105, y106, y107, y108, y109, y110, y111, y112, y113, y114, y115, y116, y117, y118, y119, y120, y121, y122, y123, y124, y125, y126, y127, y128, y129, y130, y131, y132, y133, y134, y135, y136, y137, y138, y139, y140, y141], defers := [] } w') → K e a' w', fun y3 y6 y7 y10 y11 y12 y13 y14 y15 y16 y17 y18 y19 y20 y21 y22 y23 y24 y25 y26 y27 y28 y29 y30 y31 y32 y33 y34 y35 y36 y37 y38 y39 y40 y41 y42 y43 y44 y45 y46 y47 y48 y49 y50 y51 y52 y53 y54 y55 y56 y57 y58 y59 y60 y61 y62 y63 y64 y65 y66 y67 y68 y69 y70 y71 y72 y73 y74 y75 y76 y77 y78 y79 y80 y81 y82 y83 y84 y85 y86 y87 y88 y89 y90 y91 y92 y93 y94 y95 y96 y97 y98 y99 y100 y101 y102 y103 y104 y105 y106 y107 y108 y109 y110 y111 y112 y113 y114 y115 y116 y117 y118 y119 y120 y121 y122 y123 y124 y125 y126 y127 y128 y129 y130 y131 y132 y133 y134 y135 y136 y137 y138 y139 y140 y141 bw sw vw kw aw cw tw _ h1 h2 h3 K hK => hK y3 y6 y7 y10 y11 y12 y13 y14 y15 y16 y17 y18 y19 y20 y21 y22 y23 y24 y25 y26 y27 y28 y29 y30 y31 y32 y33 y34 y35 y36 y37 y38 y39 y40 y41 y42 y43 y44 y45 y46 y47 y48 y49 y50 y51 y52 y53 y54 y55 y56 y57 y58 y59 y60 y61 y62 y63 y64 y65 y66 y67 y68 y69 y70 y71 y72 y73 y74 y75 y76 y77 y78 y79 y80 y81 y82 y83 y84 y85 y86 y87 y88 y89 y90 y91 y92 y93 y94 y95 y96 y97 y98 y99 y100 y101 y102 y103 y104 y105 y106 y107 y108 y109 y110 y111 y112 y113 y114 y115 y116 y117 y118 y119 y120 y121 y122 y123 y124 y125 y126 y127 y128 y129 y130 y131 y132 y133 y134 y135 y136 y137 y138 y139 y140 y141 bw sw vw kw aw cw tw _ h1 h2 h3, fun _ _ _ h => h⟩
  have HQ1 := Lib.hid hQ1
  have HQ2 := Lib.hid hQ2
  clear hQ1 hQ2
  refine Code.wp_mono (Q := QQ) (fun e a' w' hqq => HQ2.out e a' w' hqq _ ?_) ?_
  rotate_left
  · refine wp_region_anyT (fun w' => ∃ u : After w3.heap.size w3, w' = u.world) (by kernel_rfl) ?_
    have HBD : Hid (Below w3.heap.size w3 w3.drew) := (Below.refl _ _).drew
    generalize w3.drew = wd at *
    refine anyT_look (i := 0) rfl (by kernel_rfl) ⟨⟨_, HBD.out⟩, rfl⟩ (fun K hK => ?_)
    go_simp
    refine hK _ ?_
    clear hK K
    refine anyT_look (i := 2) rfl (by kernel_rfl) ⟨⟨_, HBD.out⟩, rfl⟩ (fun K hK => ?_)
    go_simp
    refine hK _ ?_
    clear hK K
    refine anyT_look (i := 4) rfl (by kernel_rfl) ⟨⟨_, HBD.out⟩, rfl⟩ (fun K hK => ?_)
    go_simp
    refine hK _ ?_
    clear hK K
    clear hu0 hu1 hu2 hu3 hu4 hu5 hu6
    refine anyT_two (i := 1) (j := 10) (by kernel_rfl) rfl rfl (fun K hK => ?_) (fun K hK => ?_)
    · go_simp
      with_reducible refine (toEqS_any es A C _ (HS.out.next HBD.out).top (by omega) HZE.out).mono ?_
      rintro e w4 ⟨A5, C5, rfl, hb, hs5⟩
      have HR5 := Lib.hid (hs5.mono (lo' := 0) (Nat.zero_le _) (Nat.le_refl _))
      clear hs5
      replace HBD := Lib.hid (low_next HBD.out hb)
      refine hK _ _ ⟨⟨_, HBD.out⟩, rfl⟩ ?_
      clear hK K hb
      refine anyT_two (i := 3) (j := 10) (by kernel_rfl) rfl rfl (fun K hK => ?_) (fun K hK => ?_)
      · go_simp
        with_reducible refine (toTerm_any (Hq.out.next HBD.out).top hN).mono ?_
        rintro e w5 ⟨a6, c6, rfl, hb, hl6⟩
        replace HR5 := Lib.hid (HR5.out.next hb)
        have HT6 := Lib.hid (hl6.mono (lo' := 0) (Nat.zero_le _) (Nat.le_refl _))
        clear hl6
        replace HBD := Lib.hid (low_next HBD.out hb)
        refine hK _ _ ⟨⟨_, HBD.out⟩, rfl⟩ ?_
        clear hK K hb
        refine anyT_two (i := 5) (j := 10) (by kernel_rfl) rfl rfl (fun K hK => ?_) (fun K hK => ?_)
        · go_simp
          with_reducible refine (toLink_any eq back pA pC place B D bs _ (Hl.out.next HBD.out).topI (Hl.out.next HBD.out).topB hpl hbl HZB.out).mono ?_
          rintro e w6 ⟨p7, c7, B7, D7, M7, rfl, hb, hM1, hM2, hio, hig, hbs⟩
          replace HR5 := Lib.hid (HR5.out.next hb)
          replace HT6 := Lib.hid (Sl.next HT6.out hb)
          have HI7 := Lib.hid (ISc.mono (lo' := 0) (Nat.zero_le _) (Nat.le_refl _) (isc_of_own hio))
          have HB7 := Lib.hid (hbs.bsl.mono (lo' := 0) (Nat.zero_le _) (Nat.le_refl _))
          clear hM1 hM2 hio hig hbs
          replace HBD := Lib.hid (low_next HBD.out hb)
          refine hK _ _ ⟨⟨_, HBD.out⟩, rfl⟩ ?_
          clear hK K hb
          refine anyT_two (i := 6) (j := 10) (by kernel_rfl) rfl rfl (fun K hK => ?_) (fun K hK => ?_)
          · go_simp
            with_reducible refine (sLinkDo_any es A5 C5 s v a6 c6 k eq back p7 c7 place B7 D7 bs _ HR5.out (by omega) HT6.out HI7.out hpl HB7.out hbl).mono ?_
            rintro e w7 ⟨aw, cw, sw, vw, kw, tw, hd, rfl, hb, hlx⟩
            have HDD := Lib.hid hd
            clear hd
            have hhi := hb.size
            replace HR5 := Lib.hid (HR5.out.next hb)
            replace HT6 := Lib.hid (Sl.next HT6.out hb)
            have HLX := Lib.hid hlx
            clear hlx HR5 HT6 HI7 HB7
            replace HBD := Lib.hid (low_next HBD.out hb)
            refine hK _ _ ⟨⟨_, HBD.out⟩, rfl⟩ ?_
            clear hK K hb
            refine anyT_look (i := 7) rfl (by kernel_rfl) ⟨⟨_, HBD.out⟩, rfl⟩ (fun K hK => ?_)
            go_simp
            refine hK _ ?_
            clear hK K
            refine anyT_look (i := 8) rfl (by kernel_rfl) ⟨⟨_, HBD.out⟩, rfl⟩ (fun K hK => ?_)
            go_simp
            refine hK _ ?_
            clear hK K
            refine anyT_look (i := 9) rfl (by kernel_rfl) ⟨⟨_, HBD.out⟩, rfl⟩ (fun K hK => ?_)
            go_simp
            refine hK _ ?_
            clear hK K
            refine anyT_one (i := 10) (by kernel_rfl) rfl (fun K hK => ?_)
            go_simp
            have HZ := Lib.hid (zb_new w7)
            have hbz : w3.heap.size ≤ w7.heap.size := HBD.out.size
            have hbe : Below w7.heap.size w7 (w7.alloc (.cells #[.int .i64 0, .int .i64 0, .slice none 0 0] 35)) := (Below.refl _ _).alloc (Nat.le_refl _) _
            have hze := hbe.size
            replace HLX := Lib.hid (HLX.out.below hbe)
            replace HBD := Lib.hid (low_next HBD.out hbe)
            refine hK _ _ ⟨⟨_, HBD.out⟩, rfl⟩ ?_
            clear hK K hbe
            generalize hwz : w7.alloc (.cells #[.int .i64 0, .int .i64 0, .slice none 0 0] 35) = wz at *
            clear hwz
            have hzz0 := HZ.out.z0
            have hzz1 := HZ.out.z1
            have hzz2 := HZ.out.z2
            have hzf0 := HZ.out.f 0
            have hzf1 := HZ.out.f 1
            have hzf2 := HZ.out.f 2
            have HFIN : Hid (Below w3.heap.size w3 (((wz.setCell ⟨w7.heap.size, 0, none⟩ (.int .i64 sw)).setCell ⟨w7.heap.size, 1, none⟩ (.int .i64 vw)).setCell ⟨w7.heap.size, 2, none⟩ (.slice aw (flen kw) cw)) ∧ Tb w7.heap.size sw vw aw cw kw (((wz.setCell ⟨w7.heap.size, 0, none⟩ (.int .i64 sw)).setCell ⟨w7.heap.size, 1, none⟩ (.int .i64 vw)).setCell ⟨w7.heap.size, 2, none⟩ (.slice aw (flen kw) cw))) := zb_fin HZ.out HBD.out hbz HLX.out hze (.inr (Nat.le_refl _))
            refine anyT_one (i := 11) (by kernel_rfl) rfl (fun K hK => ?_)
            go_simp
            refine hK _ _ ⟨⟨_, HFIN.out.1⟩, rfl⟩ ?_
            clear hK K hzz0 hzz1 hzz2 hzf0 hzf1 hzf2
            refine anyT_one (i := 12) (by kernel_rfl) rfl (fun K hK => ?_)
            go_simp
            refine hK _ _ ⟨⟨_, HFIN.out.1⟩, rfl⟩ ?_
            clear hK K
            refine anyT_done (by kernel_rfl) ?_
            exact HQ1.out _ _ _ _ _ _ _ _ _ _ _ _ _ _ _ _ _ _ _ _ _ _ _ _ _ _ _ _ _ _ _ _ _ _ _ _ _ _ _ _ _ _ _ _ _ _ _ _ _ _ _ _ _ _ _ _ _ _ _ _ _ _ _ _ _ _ _ _ _ _ _ _ _ _ _ _ _ _ _ _ _ _ _ _ _ _ _ _ _ _ _ _ _ _ _ _ _ _ _ _ _ _ _ _ _ _ _ _ _ _ _ _ _ _ _ _ _ _ _ _ _ _ _ _ _ _ _ _ _ _ _ _ _ _ _ w7.heap.size sw vw kw aw cw tw _ HDD.out HFIN.out.1 HFIN.out.2
          · go_simp
            have HZ := Lib.hid (zb_new w6)
            have hbz : w3.heap.size ≤ w6.heap.size := HBD.out.size
            have hbe : Below w6.heap.size w6 (w6.alloc (.cells #[.int .i64 0, .int .i64 0, .slice none 0 0] 35)) := (Below.refl _ _).alloc (Nat.le_refl _) _
            replace HR5 := Lib.hid (HR5.out.next hbe)
            replace HT6 := Lib.hid (Sl.next HT6.out hbe)
            replace HI7 := Lib.hid (HI7.out.next hbe)
            replace HB7 := Lib.hid (HB7.out.next hbe)
            replace HBD := Lib.hid (low_next HBD.out hbe)
            refine hK _ _ ⟨⟨_, HBD.out⟩, rfl⟩ ?_
            clear hK K hbe
            generalize hwz : w6.alloc (.cells #[.int .i64 0, .int .i64 0, .slice none 0 0] 35) = wz at *
            clear hwz
            refine anyT_one (i := 6) (by kernel_rfl) rfl (fun K hK => ?_)
            go_simp
            with_reducible refine (sLinkDo_any es A5 C5 s v a6 c6 k eq back p7 c7 place B7 D7 bs _ HR5.out (by omega) HT6.out HI7.out hpl HB7.out hbl).mono ?_
            rintro e w8 ⟨aw, cw, sw, vw, kw, tw, hd, rfl, hb, hlx⟩
            have HDD := Lib.hid hd
            clear hd
            have hzl := HZ.out.lt
            have hhi := hb.size
            replace HR5 := Lib.hid (HR5.out.next hb)
            replace HT6 := Lib.hid (Sl.next HT6.out hb)
            replace HZ := Lib.hid (HZ.out.low hb)
            have HLX := Lib.hid hlx
            clear hlx HR5 HT6 HI7 HB7
            replace HBD := Lib.hid (low_next HBD.out hb)
            refine hK _ _ ⟨⟨_, HBD.out⟩, rfl⟩ ?_
            clear hK K hb
            refine anyT_look (i := 7) rfl (by kernel_rfl) ⟨⟨_, HBD.out⟩, rfl⟩ (fun K hK => ?_)
            go_simp
            refine hK _ ?_
            clear hK K
            refine anyT_look (i := 8) rfl (by kernel_rfl) ⟨⟨_, HBD.out⟩, rfl⟩ (fun K hK => ?_)
            go_simp
            refine hK _ ?_
            clear hK K
            refine anyT_look (i := 9) rfl (by kernel_rfl) ⟨⟨_, HBD.out⟩, rfl⟩ (fun K hK => ?_)
            go_simp
            refine hK _ ?_
            clear hK K
            have hzz0 := HZ.out.z0
            have hzz1 := HZ.out.z1
            have hzz2 := HZ.out.z2
            have hzf0 := HZ.out.f 0
            have hzf1 := HZ.out.f 1
            have hzf2 := HZ.out.f 2
            have HFIN : Hid (Below w3.heap.size w3 (((w8.setCell ⟨w6.heap.size, 0, none⟩ (.int .i64 sw)).setCell ⟨w6.heap.size, 1, none⟩ (.int .i64 vw)).setCell ⟨w6.heap.size, 2, none⟩ (.slice aw (flen kw) cw)) ∧ Tb w6.heap.size sw vw aw cw kw (((w8.setCell ⟨w6.heap.size, 0, none⟩ (.int .i64 sw)).setCell ⟨w6.heap.size, 1, none⟩ (.int .i64 vw)).setCell ⟨w6.heap.size, 2, none⟩ (.slice aw (flen kw) cw))) := zb_fin HZ.out HBD.out hbz HLX.out (Nat.le_refl _) (.inl hzl)
            refine anyT_one (i := 11) (by kernel_rfl) rfl (fun K hK => ?_)
            go_simp
            refine hK _ _ ⟨⟨_, HFIN.out.1⟩, rfl⟩ ?_
            clear hK K hzz0 hzz1 hzz2 hzf0 hzf1 hzf2
            refine anyT_one (i := 12) (by kernel_rfl) rfl (fun K hK => ?_)
            go_simp
            refine hK _ _ ⟨⟨_, HFIN.out.1⟩, rfl⟩ ?_
            clear hK K
            refine anyT_done (by kernel_rfl) ?_
            exact HQ1.out _ _ _ _ _ _ _ _ _ _ _ _ _ _ _ _ _ _ _ _ _ _ _ _ _ _ _ _ _ _ _ _ _ _ _ _ _ _ _ _ _ _ _ _ _ _ _ _ _ _ _ _ _ _ _ _ _ _ _ _ _ _ _ _ _ _ _ _ _ _ _ _ _ _ _ _ _ _ _ _ _ _ _ _ _ _ _ _ _ _ _ _ _ _ _ _ _ _ _ _ _ _ _ _ _ _ _ _ _ _ _ _ _ _ _ _ _ _ _ _ _ _ _ _ _ _ _ _ _ _ _ _ _ _ _ w6.heap.size sw vw kw aw cw tw _ HDD.out HFIN.out.1 HFIN.out.2
        · go_simp
          have HZ := Lib.hid (zb_new w5)
          have hbz : w3.heap.size ≤ w5.heap.size := HBD.out.size
          have hbe : Below w5.heap.size w5 (w5.alloc (.cells #[.int .i64 0, .int .i64 0, .slice none 0 0] 35)) := (Below.refl _ _).alloc (Nat.le_refl _) _
          replace HR5 := Lib.hid (HR5.out.next hbe)
          replace HT6 := Lib.hid (Sl.next HT6.out hbe)
          replace HBD := Lib.hid (low_next HBD.out hbe)
          refine hK _ _ ⟨⟨_, HBD.out⟩, rfl⟩ ?_
          clear hK K hbe
          generalize hwz : w5.alloc (.cells #[.int .i64 0, .int .i64 0, .slice none 0 0] 35) = wz at *
          clear hwz
          refine anyT_one (i := 5) (by kernel_rfl) rfl (fun K hK => ?_)
          go_simp
          with_reducible refine (toLink_any eq back pA pC place B D bs _ (Hl.out.next HBD.out).topI (Hl.out.next HBD.out).topB hpl hbl HZB.out).mono ?_
          rintro e w9 ⟨p7, c7, B7, D7, M7, rfl, hb, hM1, hM2, hio, hig, hbs⟩
          replace HR5 := Lib.hid (HR5.out.next hb)
          replace HT6 := Lib.hid (Sl.next HT6.out hb)
          replace HZ := Lib.hid (HZ.out.low hb)
          have HI7 := Lib.hid (ISc.mono (lo' := 0) (Nat.zero_le _) (Nat.le_refl _) (isc_of_own hio))
          have HB7 := Lib.hid (hbs.bsl.mono (lo' := 0) (Nat.zero_le _) (Nat.le_refl _))
          clear hM1 hM2 hio hig hbs
          replace HBD := Lib.hid (low_next HBD.out hb)
          refine hK _ _ ⟨⟨_, HBD.out⟩, rfl⟩ ?_
          clear hK K hb
          refine anyT_one (i := 6) (by kernel_rfl) rfl (fun K hK => ?_)
          go_simp
          with_reducible refine (sLinkDo_any es A5 C5 s v a6 c6 k eq back p7 c7 place B7 D7 bs _ HR5.out (by omega) HT6.out HI7.out hpl HB7.out hbl).mono ?_
          rintro e w10 ⟨aw, cw, sw, vw, kw, tw, hd, rfl, hb, hlx⟩
          have HDD := Lib.hid hd
          clear hd
          have hzl := HZ.out.lt
          have hhi := hb.size
          replace HR5 := Lib.hid (HR5.out.next hb)
          replace HT6 := Lib.hid (Sl.next HT6.out hb)
          replace HZ := Lib.hid (HZ.out.low hb)
          have HLX := Lib.hid hlx
          clear hlx HR5 HT6 HI7 HB7
          replace HBD := Lib.hid (low_next HBD.out hb)
          refine hK _ _ ⟨⟨_, HBD.out⟩, rfl⟩ ?_
          clear hK K hb
          refine anyT_look (i := 7) rfl (by kernel_rfl) ⟨⟨_, HBD.out⟩, rfl⟩ (fun K hK => ?_)
          go_simp
          refine hK _ ?_
          clear hK K
          refine anyT_look (i := 8) rfl (by kernel_rfl) ⟨⟨_, HBD.out⟩, rfl⟩ (fun K hK => ?_)
          go_simp
          refine hK _ ?_
          clear hK K
          refine anyT_look (i := 9) rfl (by kernel_rfl) ⟨⟨_, HBD.out⟩, rfl⟩ (fun K hK => ?_)
          go_simp
          refine hK _ ?_
          clear hK K
          have hzz0 := HZ.out.z0
          have hzz1 := HZ.out.z1
          have hzz2 := HZ.out.z2
          have hzf0 := HZ.out.f 0
          have hzf1 := HZ.out.f 1
          have hzf2 := HZ.out.f 2
          have HFIN : Hid (Below w3.heap.size w3 (((w10.setCell ⟨w5.heap.size, 0, none⟩ (.int .i64 sw)).setCell ⟨w5.heap.size, 1, none⟩ (.int .i64 vw)).setCell ⟨w5.heap.size, 2, none⟩ (.slice aw (flen kw) cw)) ∧ Tb w5.heap.size sw vw aw cw kw (((w10.setCell ⟨w5.heap.size, 0, none⟩ (.int .i64 sw)).setCell ⟨w5.heap.size, 1, none⟩ (.int .i64 vw)).setCell ⟨w5.heap.size, 2, none⟩ (.slice aw (flen kw) cw))) := zb_fin HZ.out HBD.out hbz HLX.out (Nat.le_refl _) (.inl hzl)
          refine anyT_one (i := 11) (by kernel_rfl) rfl (fun K hK => ?_)
          go_simp
          refine hK _ _ ⟨⟨_, HFIN.out.1⟩, rfl⟩ ?_
          clear hK K hzz0 hzz1 hzz2 hzf0 hzf1 hzf2
          refine anyT_one (i := 12) (by kernel_rfl) rfl (fun K hK => ?_)
          go_simp
          refine hK _ _ ⟨⟨_, HFIN.out.1⟩, rfl⟩ ?_
          clear hK K
          refine anyT_done (by kernel_rfl) ?_
          exact HQ1.out _ _ _ _ _ _ _ _ _ _ _ _ _ _ _ _ _ _ _ _ _ _ _ _ _ _ _ _ _ _ _ _ _ _ _ _ _ _ _ _ _ _ _ _ _ _ _ _ _ _ _ _ _ _ _ _ _ _ _ _ _ _ _ _ _ _ _ _ _ _ _ _ _ _ _ _ _ _ _ _ _ _ _ _ _ _ _ _ _ _ _ _ _ _ _ _ _ _ _ _ _ _ _ _ _ _ _ _ _ _ _ _ _ _ _ _ _ _ _ _ _ _ _ _ _ _ _ _ _ _ _ _ _ _ _ w5.heap.size sw vw kw aw cw tw _ HDD.out HFIN.out.1 HFIN.out.2
      · go_simp
        have HZ := Lib.hid (zb_new w4)
        have hbz : w3.heap.size ≤ w4.heap.size := HBD.out.size
        have hbe : Below w4.heap.size w4 (w4.alloc (.cells #[.int .i64 0, .int .i64 0, .slice none 0 0] 35)) := (Below.refl _ _).alloc (Nat.le_refl _) _
        replace HR5 := Lib.hid (HR5.out.next hbe)
        replace HBD := Lib.hid (low_next HBD.out hbe)
        refine hK _ _ ⟨⟨_, HBD.out⟩, rfl⟩ ?_
        clear hK K hbe
        generalize hwz : w4.alloc (.cells #[.int .i64 0, .int .i64 0, .slice none 0 0] 35) = wz at *
        clear hwz
        refine anyT_one (i := 3) (by kernel_rfl) rfl (fun K hK => ?_)
        go_simp
        with_reducible refine (toTerm_any (Hq.out.next HBD.out).top hN).mono ?_
        rintro e w11 ⟨a6, c6, rfl, hb, hl6⟩
        replace HR5 := Lib.hid (HR5.out.next hb)
        replace HZ := Lib.hid (HZ.out.low hb)
        have HT6 := Lib.hid (hl6.mono (lo' := 0) (Nat.zero_le _) (Nat.le_refl _))
        clear hl6
        replace HBD := Lib.hid (low_next HBD.out hb)
        refine hK _ _ ⟨⟨_, HBD.out⟩, rfl⟩ ?_
        clear hK K hb
        refine anyT_one (i := 5) (by kernel_rfl) rfl (fun K hK => ?_)
        go_simp
        with_reducible refine (toLink_any eq back pA pC place B D bs _ (Hl.out.next HBD.out).topI (Hl.out.next HBD.out).topB hpl hbl HZB.out).mono ?_
        rintro e w12 ⟨p7, c7, B7, D7, M7, rfl, hb, hM1, hM2, hio, hig, hbs⟩
        replace HR5 := Lib.hid (HR5.out.next hb)
        replace HT6 := Lib.hid (Sl.next HT6.out hb)
        replace HZ := Lib.hid (HZ.out.low hb)
        have HI7 := Lib.hid (ISc.mono (lo' := 0) (Nat.zero_le _) (Nat.le_refl _) (isc_of_own hio))
        have HB7 := Lib.hid (hbs.bsl.mono (lo' := 0) (Nat.zero_le _) (Nat.le_refl _))
        clear hM1 hM2 hio hig hbs
        replace HBD := Lib.hid (low_next HBD.out hb)
        refine hK _ _ ⟨⟨_, HBD.out⟩, rfl⟩ ?_
        clear hK K hb
        refine anyT_one (i := 6) (by kernel_rfl) rfl (fun K hK => ?_)
        go_simp
        with_reducible refine (sLinkDo_any es A5 C5 s v a6 c6 k eq back p7 c7 place B7 D7 bs _ HR5.out (by omega) HT6.out HI7.out hpl HB7.out hbl).mono ?_
        rintro e w13 ⟨aw, cw, sw, vw, kw, tw, hd, rfl, hb, hlx⟩
        have HDD := Lib.hid hd
        clear hd
        have hzl := HZ.out.lt
        have hhi := hb.size
        replace HR5 := Lib.hid (HR5.out.next hb)
        replace HT6 := Lib.hid (Sl.next HT6.out hb)
        replace HZ := Lib.hid (HZ.out.low hb)
        have HLX := Lib.hid hlx
        clear hlx HR5 HT6 HI7 HB7
        replace HBD := Lib.hid (low_next HBD.out hb)
        refine hK _ _ ⟨⟨_, HBD.out⟩, rfl⟩ ?_
        clear hK K hb
        refine anyT_look (i := 7) rfl (by kernel_rfl) ⟨⟨_, HBD.out⟩, rfl⟩ (fun K hK => ?_)
        go_simp
        refine hK _ ?_
        clear hK K
        refine anyT_look (i := 8) rfl (by kernel_rfl) ⟨⟨_, HBD.out⟩, rfl⟩ (fun K hK => ?_)
        go_simp
        refine hK _ ?_
        clear hK K
        refine anyT_look (i := 9) rfl (by kernel_rfl) ⟨⟨_, HBD.out⟩, rfl⟩ (fun K hK => ?_)
        go_simp
        refine hK _ ?_
        clear hK K
        have hzz0 := HZ.out.z0
        have hzz1 := HZ.out.z1
        have hzz2 := HZ.out.z2
        have hzf0 := HZ.out.f 0
        have hzf1 := HZ.out.f 1
        have hzf2 := HZ.out.f 2
        have HFIN : Hid (Below w3.heap.size w3 (((w13.setCell ⟨w4.heap.size, 0, none⟩ (.int .i64 sw)).setCell ⟨w4.heap.size, 1, none⟩ (.int .i64 vw)).setCell ⟨w4.heap.size, 2, none⟩ (.slice aw (flen kw) cw)) ∧ Tb w4.heap.size sw vw aw cw kw (((w13.setCell ⟨w4.heap.size, 0, none⟩ (.int .i64 sw)).setCell ⟨w4.heap.size, 1, none⟩ (.int .i64 vw)).setCell ⟨w4.heap.size, 2, none⟩ (.slice aw (flen kw) cw))) := zb_fin HZ.out HBD.out hbz HLX.out (Nat.le_refl _) (.inl hzl)
        refine anyT_one (i := 11) (by kernel_rfl) rfl (fun K hK => ?_)
        go_simp
        refine hK _ _ ⟨⟨_, HFIN.out.1⟩, rfl⟩ ?_
        clear hK K hzz0 hzz1 hzz2 hzf0 hzf1 hzf2
        refine anyT_one (i := 12) (by kernel_rfl) rfl (fun K hK => ?_)
        go_simp
        refine hK _ _ ⟨⟨_, HFIN.out.1⟩, rfl⟩ ?_
        clear hK K
        refine anyT_done (by kernel_rfl) ?_
        exact HQ1.out _ _ _ _ _ _ _ _ _ _ _ _ _ _ _ _ _ _ _ _ _ _ _ _ _ _ _ _ _ _ _ _ _ _ _ _ _ _ _ _ _ _ _ _ _ _ _ _ _ _ _ _ _ _ _ _ _ _ _ _ _ _ _ _ _ _ _ _ _ _ _ _ _ _ _ _ _ _ _ _ _ _ _ _ _ _ _ _ _ _ _ _ _ _ _ _ _ _ _ _ _ _ _ _ _ _ _ _ _ _ _ _ _ _ _ _ _ _ _ _ _ _ _ _ _ _ _ _ _ _ _ _ _ _ _ w4.heap.size sw vw kw aw cw tw _ HDD.out HFIN.out.1 HFIN.out.2
    · go_simp
      have HZ := Lib.hid (zb_new wd)
      have hbz : w3.heap.size ≤ wd.heap.size := HBD.out.size
      have hbe : Below wd.heap.size wd (wd.alloc (.cells #[.int .i64 0, .int .i64 0, .slice none 0 0] 35)) := (Below.refl _ _).alloc (Nat.le_refl _) _
      replace HBD := Lib.hid (low_next HBD.out hbe)
      refine hK _ _ ⟨⟨_, HBD.out⟩, rfl⟩ ?_
      clear hK K hbe
      generalize hwz : wd.alloc (.cells #[.int .i64 0, .int .i64 0, .slice none 0 0] 35) = wz at *
      clear hwz
      refine anyT_one (i := 1) (by kernel_rfl) rfl (fun K hK => ?_)
      go_simp
      with_reducible refine (toEqS_any es A C _ (HS.out.next HBD.out).top (by omega) HZE.out).mono ?_
      rintro e w14 ⟨A5, C5, rfl, hb, hs5⟩
      replace HZ := Lib.hid (HZ.out.low hb)
      have HR5 := Lib.hid (hs5.mono (lo' := 0) (Nat.zero_le _) (Nat.le_refl _))
      clear hs5
      replace HBD := Lib.hid (low_next HBD.out hb)
      refine hK _ _ ⟨⟨_, HBD.out⟩, rfl⟩ ?_
      clear hK K hb
      refine anyT_one (i := 3) (by kernel_rfl) rfl (fun K hK => ?_)
      go_simp
      with_reducible refine (toTerm_any (Hq.out.next HBD.out).top hN).mono ?_
      rintro e w15 ⟨a6, c6, rfl, hb, hl6⟩
      replace HR5 := Lib.hid (HR5.out.next hb)
      replace HZ := Lib.hid (HZ.out.low hb)
      have HT6 := Lib.hid (hl6.mono (lo' := 0) (Nat.zero_le _) (Nat.le_refl _))
      clear hl6
      replace HBD := Lib.hid (low_next HBD.out hb)
      refine hK _ _ ⟨⟨_, HBD.out⟩, rfl⟩ ?_
      clear hK K hb
      refine anyT_one (i := 5) (by kernel_rfl) rfl (fun K hK => ?_)
      go_simp
      with_reducible refine (toLink_any eq back pA pC place B D bs _ (Hl.out.next HBD.out).topI (Hl.out.next HBD.out).topB hpl hbl HZB.out).mono ?_
      rintro e w16 ⟨p7, c7, B7, D7, M7, rfl, hb, hM1, hM2, hio, hig, hbs⟩
      replace HR5 := Lib.hid (HR5.out.next hb)
      replace HT6 := Lib.hid (Sl.next HT6.out hb)
      replace HZ := Lib.hid (HZ.out.low hb)
      have HI7 := Lib.hid (ISc.mono (lo' := 0) (Nat.zero_le _) (Nat.le_refl _) (isc_of_own hio))
      have HB7 := Lib.hid (hbs.bsl.mono (lo' := 0) (Nat.zero_le _) (Nat.le_refl _))
      clear hM1 hM2 hio hig hbs
      replace HBD := Lib.hid (low_next HBD.out hb)
      refine hK _ _ ⟨⟨_, HBD.out⟩, rfl⟩ ?_
      clear hK K hb
      refine anyT_one (i := 6) (by kernel_rfl) rfl (fun K hK => ?_)
      go_simp
      with_reducible refine (sLinkDo_any es A5 C5 s v a6 c6 k eq back p7 c7 place B7 D7 bs _ HR5.out (by omega) HT6.out HI7.out hpl HB7.out hbl).mono ?_
      rintro e w17 ⟨aw, cw, sw, vw, kw, tw, hd, rfl, hb, hlx⟩
      have HDD := Lib.hid hd
      clear hd
      have hzl := HZ.out.lt
      have hhi := hb.size
      replace HR5 := Lib.hid (HR5.out.next hb)
      replace HT6 := Lib.hid (Sl.next HT6.out hb)
      replace HZ := Lib.hid (HZ.out.low hb)
      have HLX := Lib.hid hlx
      clear hlx HR5 HT6 HI7 HB7
      replace HBD := Lib.hid (low_next HBD.out hb)
      refine hK _ _ ⟨⟨_, HBD.out⟩, rfl⟩ ?_
      clear hK K hb
      refine anyT_look (i := 7) rfl (by kernel_rfl) ⟨⟨_, HBD.out⟩, rfl⟩ (fun K hK => ?_)
      go_simp
      refine hK _ ?_
      clear hK K
      refine anyT_look (i := 8) rfl (by kernel_rfl) ⟨⟨_, HBD.out⟩, rfl⟩ (fun K hK => ?_)
      go_simp
      refine hK _ ?_
      clear hK K
      refine anyT_look (i := 9) rfl (by kernel_rfl) ⟨⟨_, HBD.out⟩, rfl⟩ (fun K hK => ?_)
      go_simp
      refine hK _ ?_
      clear hK K
      have hzz0 := HZ.out.z0
      have hzz1 := HZ.out.z1
      have hzz2 := HZ.out.z2
      have hzf0 := HZ.out.f 0
      have hzf1 := HZ.out.f 1
      have hzf2 := HZ.out.f 2
      have HFIN : Hid (Below w3.heap.size w3 (((w17.setCell ⟨wd.heap.size, 0, none⟩ (.int .i64 sw)).setCell ⟨wd.heap.size, 1, none⟩ (.int .i64 vw)).setCell ⟨wd.heap.size, 2, none⟩ (.slice aw (flen kw) cw)) ∧ Tb wd.heap.size sw vw aw cw kw (((w17.setCell ⟨wd.heap.size, 0, none⟩ (.int .i64 sw)).setCell ⟨wd.heap.size, 1, none⟩ (.int .i64 vw)).setCell ⟨wd.heap.size, 2, none⟩ (.slice aw (flen kw) cw))) := zb_fin HZ.out HBD.out hbz HLX.out (Nat.le_refl _) (.inl hzl)
      refine anyT_one (i := 11) (by kernel_rfl) rfl (fun K hK => ?_)
      go_simp
      refine hK _ _ ⟨⟨_, HFIN.out.1⟩, rfl⟩ ?_
      clear hK K hzz0 hzz1 hzz2 hzf0 hzf1 hzf2
      refine anyT_one (i := 12) (by kernel_rfl) rfl (fun K hK => ?_)
      go_simp
      refine hK _ _ ⟨⟨_, HFIN.out.1⟩, rfl⟩ ?_
      clear hK K
      refine anyT_done (by kernel_rfl) ?_
      exact HQ1.out _ _ _ _ _ _ _ _ _ _ _ _ _ _ _ _ _ _ _ _ _ _ _ _ _ _ _ _ _ _ _ _ _ _ _ _ _ _ _ _ _ _ _ _ _ _ _ _ _ _ _ _ _ _ _ _ _ _ _ _ _ _ _ _ _ _ _ _ _ _ _ _ _ _ _ _ _ _ _ _ _ _ _ _ _ _ _ _ _ _ _ _ _ _ _ _ _ _ _ _ _ _ _ _ _ _ _ _ _ _ _ _ _ _ _ _ _ _ _ _ _ _ _ _ _ _ _ _ _ _ _ _ _ _ _ wd.heap.size sw vw kw aw cw tw _ HDD.out HFIN.out.1 HFIN.out.2
  clear hu0 hu1 hu2 hu3 hu4 hu5 hu6
  clear hqq e a' w' HQ1 HQ2
  intro y3 y6 y7 y10 y11 y12 y13 y14 y15 y16 y17 y18 y19 y20 y21 y22 y23 y24 y25 y26 y27 y28 y29 y30 y31 y32 y33 y34 y35 y36 y37 y38 y39 y40 y41 y42 y43 y44 y45 y46 y47 y48 y49 y50 y51 y52 y53 y54 y55 y56 y57 y58 y59 y60 y61 y62 y63 y64 y65 y66 y67 y68 y69 y70 y71 y72 y73 y74 y75 y76 y77 y78 y79 y80 y81 y82 y83 y84 y85 y86 y87 y88 y89 y90 y91 y92 y93 y94 y95 y96 y97 y98 y99 y100 y101 y102 y103 y104 y105 y106 y107 y108 y109 y110 y111 y112 y113 y114 y115 y116 y117 y118 y119 y120 y121 y122 y123 y124 y125 y126 y127 y128 y129 y130 y131 y132 y133 y134 y135 y136 y137 y138 y139 y140 y141 bw sw vw kw aw cw tw wew hdw hbe htb
  have HDw := Lib.hid hdw
  clear hdw
  have HTB := Lib.hid htb
  clear htb
  have Hlow' : Hid (Below w.heap.size w wew) := low_next Hlow.out hbe
  have Hq' : Hid (Tq (w.heap.size + 2) w.heap.size s v a c k wew) := Hq.out.next hbe
  have Hl' : Hid (Lq (w.heap.size + 2) (w.heap.size + 1) eq back pA pC place B D bs wew) := Hl.out.next hbe
  have HS' : Hid (Eqr (w.heap.size + 2) es A wew) := HS.out.next hbe
  clear Hlow Hq Hl HS
  have Hlow := Hlow'
  clear Hlow'
  have Hq := Hq'
  clear Hq'
  have Hl := Hl'
  clear Hl'
  have HS := HS'
  clear HS'
  have Hw : Hid (Tq wew.heap.size bw sw vw aw cw kw wew) := ⟨HTB.out.c0, HTB.out.c1, HTB.out.c2, World.block_lt_of_cell? _ _ HTB.out.c0, HTB.out.sl, Nat.le_refl _⟩
  clear HTB hbe
  clear hz3
  have hkw := lk_small HDw.out
  have hnw := Hw.out.le
  have hqn := Hq.out.le
  go_wp2_with fail
  with_reducible refine (toEqS_sx es A C _ HS.out.top hel HZE.out).mono ?_
  rintro e w18 ⟨Ax, Cx, rfl, hb, hsx⟩
  have hsz1 := hb.size
  have Hlow' : Hid (Below w.heap.size w w18) := low_next Hlow.out hb
  have Hq' : Hid (Tq (w.heap.size + 2) w.heap.size s v a c k w18) := Hq.out.next hb
  have Hl' : Hid (Lq (w.heap.size + 2) (w.heap.size + 1) eq back pA pC place B D bs w18) := Hl.out.next hb
  have HS' : Hid (Eqr (w.heap.size + 2) es A w18) := HS.out.next hb
  have Hw' : Hid (Tq wew.heap.size bw sw vw aw cw kw w18) := Hw.out.next hb
  clear Hlow Hq Hl HS Hw
  have Hlow := Hlow'
  clear Hlow'
  have Hq := Hq'
  clear Hq'
  have Hl := Hl'
  clear Hl'
  have HS := HS'
  clear HS'
  have Hw := Hw'
  clear Hw'
  clear hb
  have Hx : Hid (Ec wew.heap.size w18.heap.size es Ax w18) := ⟨hsx, Nat.le_refl _⟩
  clear hsx
  have qq0 := Hq.out.c0
  have qq1 := Hq.out.c1
  have qq2 := Hq.out.c2
  go_wp2_with fail
  with_reducible refine (toTermT_anyL Hq.out.top hN).mono ?_
  rintro e w19 ⟨ay, cy, rfl, hb, hly⟩
  clear qq0 qq1 qq2
  have hsz2 := hb.size
  have Hlow' : Hid (Below w.heap.size w w19) := low_next Hlow.out hb
  have Hq' : Hid (Tq (w.heap.size + 2) w.heap.size s v a c k w19) := Hq.out.next hb
  have Hl' : Hid (Lq (w.heap.size + 2) (w.heap.size + 1) eq back pA pC place B D bs w19) := Hl.out.next hb
  have HS' : Hid (Eqr (w.heap.size + 2) es A w19) := HS.out.next hb
  have Hw' : Hid (Tq wew.heap.size bw sw vw aw cw kw w19) := Hw.out.next hb
  have Hx' : Hid (Ec wew.heap.size w18.heap.size es Ax w19) := Hx.out.next hb
  clear Hlow Hq Hl HS Hw Hx
  have Hlow := Hlow'
  clear Hlow'
  have Hq := Hq'
  clear Hq'
  have Hl := Hl'
  clear Hl'
  have HS := HS'
  clear HS'
  have Hw := Hw'
  clear Hw'
  have Hx := Hx'
  clear Hx'
  clear hb
  have Hyn : Hid (Xb w18.heap.size w19.heap.size w19.heap.size s v ay cy k (w19.alloc (.cells #[.int .i64 s, .int .i64 v, .slice ay (flen k) cy] 35))) := Xb.new hly hsz2 _
  have hb : Below w19.heap.size w19 (w19.alloc (.cells #[.int .i64 s, .int .i64 v, .slice ay (flen k) cy] 35)) := (Below.refl _ _).alloc (Nat.le_refl _) _
  clear hly
  have Hlow' : Hid (Below w.heap.size w (w19.alloc (.cells #[.int .i64 s, .int .i64 v, .slice ay (flen k) cy] 35))) := low_next Hlow.out hb
  have Hq' : Hid (Tq (w.heap.size + 2) w.heap.size s v a c k (w19.alloc (.cells #[.int .i64 s, .int .i64 v, .slice ay (flen k) cy] 35))) := Hq.out.next hb
  have Hl' : Hid (Lq (w.heap.size + 2) (w.heap.size + 1) eq back pA pC place B D bs (w19.alloc (.cells #[.int .i64 s, .int .i64 v, .slice ay (flen k) cy] 35))) := Hl.out.next hb
  have HS' : Hid (Eqr (w.heap.size + 2) es A (w19.alloc (.cells #[.int .i64 s, .int .i64 v, .slice ay (flen k) cy] 35))) := HS.out.next hb
  have Hw' : Hid (Tq wew.heap.size bw sw vw aw cw kw (w19.alloc (.cells #[.int .i64 s, .int .i64 v, .slice ay (flen k) cy] 35))) := Hw.out.next hb
  have Hx' : Hid (Ec wew.heap.size w18.heap.size es Ax (w19.alloc (.cells #[.int .i64 s, .int .i64 v, .slice ay (flen k) cy] 35))) := Hx.out.next hb
  clear Hlow Hq Hl HS Hw Hx
  have Hlow := Hlow'
  clear Hlow'
  have Hq := Hq'
  clear Hq'
  have Hl := Hl'
  clear Hl'
  have HS := HS'
  clear HS'
  have Hw := Hw'
  clear Hw'
  have Hx := Hx'
  clear Hx'
  have Hy := Hyn
  clear Hyn hb
  have ql0 := Hl.out.c0
  have ql1 := Hl.out.c1
  have ql2 := Hl.out.c2
  have ql3 := Hl.out.c3
  go_wp2_with fail
  with_reducible refine (toLink_any eq back pA pC place B D bs _ Hl.out.topI Hl.out.topB hpl hbl HZB.out).mono ?_
  rintro e w20 ⟨px, pcx, Bx, Dx, Mx, rfl, hb, hM1, hM2, hio, hig, hbs⟩
  clear ql0 ql1 ql2 ql3
  have hsz3 : w19.heap.size + 1 ≤ Mx := by have h9 := hM1; simpa using h9
  have Hlow' : Hid (Below w.heap.size w w20) := low_next Hlow.out hb
  have Hq' : Hid (Tq (w.heap.size + 2) w.heap.size s v a c k w20) := Hq.out.next hb
  have Hl' : Hid (Lq (w.heap.size + 2) (w.heap.size + 1) eq back pA pC place B D bs w20) := Hl.out.next hb
  have HS' : Hid (Eqr (w.heap.size + 2) es A w20) := HS.out.next hb
  have Hw' : Hid (Tq wew.heap.size bw sw vw aw cw kw w20) := Hw.out.next hb
  have Hx' : Hid (Ec wew.heap.size w18.heap.size es Ax w20) := Hx.out.next hb
  have Hy' : Hid (Xb w18.heap.size w19.heap.size w19.heap.size s v ay cy k w20) := Hy.out.next hb
  clear Hlow Hq Hl HS Hw Hx Hy
  have Hlow := Hlow'
  clear Hlow'
  have Hq := Hq'
  clear Hq'
  have Hl := Hl'
  clear Hl'
  have HS := HS'
  clear HS'
  have Hw := Hw'
  clear Hw'
  have Hx := Hx'
  clear Hx'
  have Hy := Hy'
  clear Hy'
  clear hb
  have Hun : Hid (Lx (w19.heap.size + 1) Mx w20.heap.size w20.heap.size eq back px pcx place Bx Dx bs (w20.alloc (.cells #[.int .i64 eq, .bool back, .slice px place.length pcx, .slice Bx bs.length Dx] 43))) := Lx.new hsz3 hM2 (hio.base (by simp)) (fun g hg => ⟨by have h9 := (hig g hg).1; simpa using h9, (hig g hg).2⟩) hbs _
  have hb : Below w20.heap.size w20 (w20.alloc (.cells #[.int .i64 eq, .bool back, .slice px place.length pcx, .slice Bx bs.length Dx] 43)) := (Below.refl _ _).alloc (Nat.le_refl _) _
  have Hlow' : Hid (Below w.heap.size w (w20.alloc (.cells #[.int .i64 eq, .bool back, .slice px place.length pcx, .slice Bx bs.length Dx] 43))) := low_next Hlow.out hb
  have Hq' : Hid (Tq (w.heap.size + 2) w.heap.size s v a c k (w20.alloc (.cells #[.int .i64 eq, .bool back, .slice px place.length pcx, .slice Bx bs.length Dx] 43))) := Hq.out.next hb
  have Hl' : Hid (Lq (w.heap.size + 2) (w.heap.size + 1) eq back pA pC place B D bs (w20.alloc (.cells #[.int .i64 eq, .bool back, .slice px place.length pcx, .slice Bx bs.length Dx] 43))) := Hl.out.next hb
  have HS' : Hid (Eqr (w.heap.size + 2) es A (w20.alloc (.cells #[.int .i64 eq, .bool back, .slice px place.length pcx, .slice Bx bs.length Dx] 43))) := HS.out.next hb
  have Hw' : Hid (Tq wew.heap.size bw sw vw aw cw kw (w20.alloc (.cells #[.int .i64 eq, .bool back, .slice px place.length pcx, .slice Bx bs.length Dx] 43))) := Hw.out.next hb
  have Hx' : Hid (Ec wew.heap.size w18.heap.size es Ax (w20.alloc (.cells #[.int .i64 eq, .bool back, .slice px place.length pcx, .slice Bx bs.length Dx] 43))) := Hx.out.next hb
  have Hy' : Hid (Xb w18.heap.size w19.heap.size w19.heap.size s v ay cy k (w20.alloc (.cells #[.int .i64 eq, .bool back, .slice px place.length pcx, .slice Bx bs.length Dx] 43))) := Hy.out.next hb
  clear Hlow Hq Hl HS Hw Hx Hy
  have Hlow := Hlow'
  clear Hlow'
  have Hq := Hq'
  clear Hq'
  have Hl := Hl'
  clear Hl'
  have HS := HS'
  clear HS'
  have Hw := Hw'
  clear Hw'
  have Hx := Hx'
  clear Hx'
  have Hy := Hy'
  clear Hy'
  have Hu := Hun
  clear Hun hb hio hig hbs hM1
  have qy0 := Hy.out.c0
  have qy1 := Hy.out.c1
  have qy2 := Hy.out.c2
  have qu0 := Hu.out.c0
  have qu1 := Hu.out.c1
  have qu2 := Hu.out.c2
  have qu3 := Hu.out.c3
  have HIX := Lib.hid (ISc.mono (lo' := 0) (Nat.zero_le _) (Nat.le_refl _) (isc_of_own Hu.out.io))
  go_wp2_with fail
  with_reducible refine (iLinkDoT_any es Ax Cx s v ay cy k eq back px pcx place Bx Dx bs _ Hx.out.top (by omega) Hy.out.top HIX.out hpl Hu.out.topB hbl).mono ?_
  rintro e w21 ⟨ag, cg, sg, vg, kg, tg, Pg, hdg, rfl, hb, hown, hpp⟩
  rw [HDw.out] at hdg
  simp only [Prod.mk.injEq] at hdg
  obtain ⟨⟨rfl, rfl, rfl⟩, rfl⟩ := hdg
  clear HIX
  clear qy0 qy1 qy2 qu0 qu1 qu2 qu3
  have hsz4 : w20.heap.size + 1 ≤ w21.heap.size := by have h9 := hb.size; simpa using h9
  have hpp2 : ∀ x, Pg x → w20.heap.size + 1 ≤ x ∧ x < w21.heap.size := fun x hx => ⟨by have h9 := (hpp x hx).1; simpa using h9, (hpp x hx).2⟩
  have Hlow' : Hid (Below w.heap.size w w21) := low_next Hlow.out hb
  have Hq' : Hid (Tq (w.heap.size + 2) w.heap.size s v a c k w21) := Hq.out.next hb
  have Hl' : Hid (Lq (w.heap.size + 2) (w.heap.size + 1) eq back pA pC place B D bs w21) := Hl.out.next hb
  have HS' : Hid (Eqr (w.heap.size + 2) es A w21) := HS.out.next hb
  have Hw' : Hid (Tq wew.heap.size bw sw vw aw cw kw w21) := Hw.out.next hb
  have Hx' : Hid (Ec wew.heap.size w18.heap.size es Ax w21) := Hx.out.next hb
  have Hy' : Hid (Xb w18.heap.size w19.heap.size w19.heap.size s v ay cy k w21) := Hy.out.next hb
  have Hu' : Hid (Lx (w19.heap.size + 1) Mx w20.heap.size w20.heap.size eq back px pcx place Bx Dx bs w21) := Hu.out.next hb
  clear Hlow Hq Hl HS Hw Hx Hy Hu
  have Hlow := Hlow'
  clear Hlow'
  have Hq := Hq'
  clear Hq'
  have Hl := Hl'
  clear Hl'
  have HS := HS'
  clear HS'
  have Hw := Hw'
  clear Hw'
  have Hx := Hx'
  clear Hx'
  have Hy := Hy'
  clear Hy'
  have Hu := Hu'
  clear Hu'
  clear hb hpp
  have hb : Below w21.heap.size w21 (w21.alloc (.cells #[.int .i64 sw, .int .i64 vw, .slice ag (flen kw) cg] 35)) := (Below.refl _ _).alloc (Nat.le_refl _) _
  have Hgn : Hid (Yo (w20.heap.size + 1) w21.heap.size w21.heap.size sw vw ag cg kw Pg (w21.alloc (.cells #[.int .i64 sw, .int .i64 vw, .slice ag (flen kw) cg] 35))) := Yo.new hown hpp2 hsz4 _
  have Hlow' : Hid (Below w.heap.size w (w21.alloc (.cells #[.int .i64 sw, .int .i64 vw, .slice ag (flen kw) cg] 35))) := low_next Hlow.out hb
  have Hq' : Hid (Tq (w.heap.size + 2) w.heap.size s v a c k (w21.alloc (.cells #[.int .i64 sw, .int .i64 vw, .slice ag (flen kw) cg] 35))) := Hq.out.next hb
  have Hl' : Hid (Lq (w.heap.size + 2) (w.heap.size + 1) eq back pA pC place B D bs (w21.alloc (.cells #[.int .i64 sw, .int .i64 vw, .slice ag (flen kw) cg] 35))) := Hl.out.next hb
  have HS' : Hid (Eqr (w.heap.size + 2) es A (w21.alloc (.cells #[.int .i64 sw, .int .i64 vw, .slice ag (flen kw) cg] 35))) := HS.out.next hb
  have Hw' : Hid (Tq wew.heap.size bw sw vw aw cw kw (w21.alloc (.cells #[.int .i64 sw, .int .i64 vw, .slice ag (flen kw) cg] 35))) := Hw.out.next hb
  have Hx' : Hid (Ec wew.heap.size w18.heap.size es Ax (w21.alloc (.cells #[.int .i64 sw, .int .i64 vw, .slice ag (flen kw) cg] 35))) := Hx.out.next hb
  have Hy' : Hid (Xb w18.heap.size w19.heap.size w19.heap.size s v ay cy k (w21.alloc (.cells #[.int .i64 sw, .int .i64 vw, .slice ag (flen kw) cg] 35))) := Hy.out.next hb
  have Hu' : Hid (Lx (w19.heap.size + 1) Mx w20.heap.size w20.heap.size eq back px pcx place Bx Dx bs (w21.alloc (.cells #[.int .i64 sw, .int .i64 vw, .slice ag (flen kw) cg] 35))) := Hu.out.next hb
  clear Hlow Hq Hl HS Hw Hx Hy Hu
  have Hlow := Hlow'
  clear Hlow'
  have Hq := Hq'
  clear Hq'
  have Hl := Hl'
  clear Hl'
  have HS := HS'
  clear HS'
  have Hw := Hw'
  clear Hw'
  have Hx := Hx'
  clear Hx'
  have Hy := Hy'
  clear Hy'
  have Hu := Hu'
  clear Hu'
  have Hg := Hgn
  clear Hgn hb hown hpp2
  have eb : (tw != tw) = false := by simp
  have qg0 := Hg.out.c0
  have qg1 := Hg.out.c1
  have qg2 := Hg.out.c2
  have qw0 := Hw.out.c0
  have qw1 := Hw.out.c1
  have qw2 := Hw.out.c2
  go_wp2_with fail
  with_reducible refine (eqTerm_any (k := kw) Hg.out.top Hw.out.top (by omega)).mono ?_
  rintro e w22 ⟨rfl, hb⟩
  clear qg0 qg1 qg2 qw0 qw1 qw2
  have Hlow' : Hid (Below w.heap.size w w22) := low_next Hlow.out hb
  have Hq' : Hid (Tq (w.heap.size + 2) w.heap.size s v a c k w22) := Hq.out.next hb
  have Hl' : Hid (Lq (w.heap.size + 2) (w.heap.size + 1) eq back pA pC place B D bs w22) := Hl.out.next hb
  have HS' : Hid (Eqr (w.heap.size + 2) es A w22) := HS.out.next hb
  have Hw' : Hid (Tq wew.heap.size bw sw vw aw cw kw w22) := Hw.out.next hb
  have Hx' : Hid (Ec wew.heap.size w18.heap.size es Ax w22) := Hx.out.next hb
  have Hy' : Hid (Xb w18.heap.size w19.heap.size w19.heap.size s v ay cy k w22) := Hy.out.next hb
  have Hu' : Hid (Lx (w19.heap.size + 1) Mx w20.heap.size w20.heap.size eq back px pcx place Bx Dx bs w22) := Hu.out.next hb
  have Hg' : Hid (Yo (w20.heap.size + 1) w21.heap.size w21.heap.size sw vw ag cg kw Pg w22) := Hg.out.next hb
  clear Hlow Hq Hl HS Hw Hx Hy Hu Hg
  have Hlow := Hlow'
  clear Hlow'
  have Hq := Hq'
  clear Hq'
  have Hl := Hl'
  clear Hl'
  have HS := HS'
  clear HS'
  have Hw := Hw'
  clear Hw'
  have Hx := Hx'
  clear Hx'
  have Hy := Hy'
  clear Hy'
  have Hu := Hu'
  clear Hu'
  have Hg := Hg'
  clear Hg'
  clear hb
  go_wp2_with fail
  with_reducible refine (toEqS_any es A C _ HS.out.top hel HZE.out).mono ?_
  rintro e w23 ⟨A9, C9, rfl, hb, hs9⟩
  have Hlow' : Hid (Below w.heap.size w w23) := low_next Hlow.out hb
  have Hq' : Hid (Tq (w.heap.size + 2) w.heap.size s v a c k w23) := Hq.out.next hb
  have Hl' : Hid (Lq (w.heap.size + 2) (w.heap.size + 1) eq back pA pC place B D bs w23) := Hl.out.next hb
  have HS' : Hid (Eqr (w.heap.size + 2) es A w23) := HS.out.next hb
  have Hw' : Hid (Tq wew.heap.size bw sw vw aw cw kw w23) := Hw.out.next hb
  have Hx' : Hid (Ec wew.heap.size w18.heap.size es Ax w23) := Hx.out.next hb
  have Hy' : Hid (Xb w18.heap.size w19.heap.size w19.heap.size s v ay cy k w23) := Hy.out.next hb
  have Hu' : Hid (Lx (w19.heap.size + 1) Mx w20.heap.size w20.heap.size eq back px pcx place Bx Dx bs w23) := Hu.out.next hb
  have Hg' : Hid (Yo (w20.heap.size + 1) w21.heap.size w21.heap.size sw vw ag cg kw Pg w23) := Hg.out.next hb
  clear Hlow Hq Hl HS Hw Hx Hy Hu Hg
  have Hlow := Hlow'
  clear Hlow'
  have Hq := Hq'
  clear Hq'
  have Hl := Hl'
  clear Hl'
  have HS := HS'
  clear HS'
  have Hw := Hw'
  clear Hw'
  have Hx := Hx'
  clear Hx'
  have Hy := Hy'
  clear Hy'
  have Hu := Hu'
  clear Hu'
  have Hg := Hg'
  clear Hg'
  clear hb
  have HS9 : Hid (ESl w23 0 w23.heap.size A9 es) := hs9.mono (Nat.zero_le _) (Nat.le_refl _)
  clear hs9
  go_wp2_with fail
  with_reducible refine (eqEqS_same es Ax A9 Cx C9 _ Hx.out.top HS9.out hel HZE.out).mono ?_
  rintro e w24 ⟨rfl, hb⟩
  have Hlow' : Hid (Below w.heap.size w w24) := low_next Hlow.out hb
  have Hq' : Hid (Tq (w.heap.size + 2) w.heap.size s v a c k w24) := Hq.out.next hb
  have Hl' : Hid (Lq (w.heap.size + 2) (w.heap.size + 1) eq back pA pC place B D bs w24) := Hl.out.next hb
  have HS' : Hid (Eqr (w.heap.size + 2) es A w24) := HS.out.next hb
  have Hw' : Hid (Tq wew.heap.size bw sw vw aw cw kw w24) := Hw.out.next hb
  have Hx' : Hid (Ec wew.heap.size w18.heap.size es Ax w24) := Hx.out.next hb
  have Hy' : Hid (Xb w18.heap.size w19.heap.size w19.heap.size s v ay cy k w24) := Hy.out.next hb
  have Hu' : Hid (Lx (w19.heap.size + 1) Mx w20.heap.size w20.heap.size eq back px pcx place Bx Dx bs w24) := Hu.out.next hb
  have Hg' : Hid (Yo (w20.heap.size + 1) w21.heap.size w21.heap.size sw vw ag cg kw Pg w24) := Hg.out.next hb
  clear Hlow Hq Hl HS Hw Hx Hy Hu Hg
  have Hlow := Hlow'
  clear Hlow'
  have Hq := Hq'
  clear Hq'
  have Hl := Hl'
  clear Hl'
  have HS := HS'
  clear HS'
  have Hw := Hw'
  clear Hw'
  have Hx := Hx'
  clear Hx'
  have Hy := Hy'
  clear Hy'
  have Hu := Hu'
  clear Hu'
  have Hg := Hg'
  clear Hg'
  clear hb
  clear HS9
  have hu0 : ∀ u : After w24.heap.size w24, u.world.cell? ⟨w19.heap.size, 0, none⟩ = some (.int .i64 s) := fun u => cell_low u.below Hy.out.c0
  have hu1 : ∀ u : After w24.heap.size w24, u.world.cell? ⟨w19.heap.size, 1, none⟩ = some (.int .i64 v) := fun u => cell_low u.below Hy.out.c1
  have hu2 : ∀ u : After w24.heap.size w24, u.world.cell? ⟨w19.heap.size, 2, none⟩ = some (.slice ay (flen k) cy) := fun u => cell_low u.below Hy.out.c2
  have hu3 : ∀ u : After w24.heap.size w24, u.world.cell? ⟨w.heap.size, 0, none⟩ = some (.int .i64 s) := fun u => cell_low u.below Hq.out.c0
  have hu4 : ∀ u : After w24.heap.size w24, u.world.cell? ⟨w.heap.size, 1, none⟩ = some (.int .i64 v) := fun u => cell_low u.below Hq.out.c1
  have hu5 : ∀ u : After w24.heap.size w24, u.world.cell? ⟨w.heap.size, 2, none⟩ = some (.slice a (flen k) c) := fun u => cell_low u.below Hq.out.c2
  go_wp2_with fail
  refine wp_region_mix (fun w' => ∃ u : After w24.heap.size w24, w' = u.world) [] [(0, 0), (1, 0), (2, 1), (3, 1), (4, 0)] (by kernel_rfl) (by kernel_rfl) ⟨⟨_, (Below.refl _ _).drew⟩, rfl⟩ ?_
  have HBD : Hid (Below w24.heap.size w24 w24.drew) := (Below.refl _ _).drew
  generalize w24.drew = wd at *
  refine mix_see rfl (fun K hK => ?_)
  go_simp
  refine hK _ ?_
  clear hK K
  refine mix_see rfl (fun K hK => ?_)
  go_simp
  refine hK _ ?_
  clear hK K
  refine mix_hold rfl (fun K hK => ?_)
  go_simp
  with_reducible refine (toTerm_any (Hq.out.next HBD.out).top hN).mono ?_
  rintro e w25 ⟨aq9, cq9, rfl, hb, hl9⟩
  have HT9 := Lib.hid (hl9.mono (lo' := 0) (Nat.zero_le _) (Nat.le_refl _))
  clear hl9
  replace HBD := Lib.hid (low_next HBD.out hb)
  refine hK _ _ ⟨⟨_, HBD.out⟩, rfl⟩ ?_
  clear hK K hb
  refine mix_hold rfl (fun K hK => ?_)
  go_simp
  with_reducible refine (eqTerm_any (k := k) (Hy.out.next HBD.out).top HT9.out hN).mono ?_
  rintro e w26 ⟨rfl, hb⟩
  clear HT9
  replace HBD := Lib.hid (low_next HBD.out hb)
  refine hK _ _ ⟨⟨_, HBD.out⟩, rfl⟩ ?_
  clear hK K hb
  refine mix_see rfl (fun K hK => ?_)
  go_simp
  refine hK _ ?_
  clear hK K
  refine mix_end ?_
  clear hu0 hu1 hu2 hu3 hu4 hu5
  have Hlow' : Hid (Below w.heap.size w w26) := low_next Hlow.out HBD.out
  have Hq' : Hid (Tq (w.heap.size + 2) w.heap.size s v a c k w26) := Hq.out.next HBD.out
  have Hl' : Hid (Lq (w.heap.size + 2) (w.heap.size + 1) eq back pA pC place B D bs w26) := Hl.out.next HBD.out
  have HS' : Hid (Eqr (w.heap.size + 2) es A w26) := HS.out.next HBD.out
  have Hw' : Hid (Tq wew.heap.size bw sw vw aw cw kw w26) := Hw.out.next HBD.out
  have Hx' : Hid (Ec wew.heap.size w18.heap.size es Ax w26) := Hx.out.next HBD.out
  have Hy' : Hid (Xb w18.heap.size w19.heap.size w19.heap.size s v ay cy k w26) := Hy.out.next HBD.out
  have Hu' : Hid (Lx (w19.heap.size + 1) Mx w20.heap.size w20.heap.size eq back px pcx place Bx Dx bs w26) := Hu.out.next HBD.out
  have Hg' : Hid (Yo (w20.heap.size + 1) w21.heap.size w21.heap.size sw vw ag cg kw Pg w26) := Hg.out.next HBD.out
  clear Hlow Hq Hl HS Hw Hx Hy Hu Hg
  have Hlow := Hlow'
  clear Hlow'
  have Hq := Hq'
  clear Hq'
  have Hl := Hl'
  clear Hl'
  have HS := HS'
  clear HS'
  have Hw := Hw'
  clear Hw'
  have Hx := Hx'
  clear Hx'
  have Hy := Hy'
  clear Hy'
  have Hu := Hu'
  clear Hu'
  have Hg := Hg'
  clear Hg'
  clear HBD
  have hu0 : ∀ u : After w26.heap.size w26, u.world.cell? ⟨w20.heap.size, 0, none⟩ = some (.int .i64 eq) := fun u => cell_low u.below Hu.out.c0
  have hu1 : ∀ u : After w26.heap.size w26, u.world.cell? ⟨w20.heap.size, 1, none⟩ = some (.bool back) := fun u => cell_low u.below Hu.out.c1
  have hu2 : ∀ u : After w26.heap.size w26, u.world.cell? ⟨w20.heap.size, 2, none⟩ = some (.slice px place.length pcx) := fun u => cell_low u.below Hu.out.c2
  have hu3 : ∀ u : After w26.heap.size w26, u.world.cell? ⟨w20.heap.size, 3, none⟩ = some (.slice Bx bs.length Dx) := fun u => cell_low u.below Hu.out.c3
  have hu4 : ∀ u : After w26.heap.size w26, u.world.cell? ⟨w.heap.size + 1, 0, none⟩ = some (.int .i64 eq) := fun u => cell_low u.below Hl.out.c0
  have hu5 : ∀ u : After w26.heap.size w26, u.world.cell? ⟨w.heap.size + 1, 1, none⟩ = some (.bool back) := fun u => cell_low u.below Hl.out.c1
  have hu6 : ∀ u : After w26.heap.size w26, u.world.cell? ⟨w.heap.size + 1, 2, none⟩ = some (.slice pA place.length pC) := fun u => cell_low u.below Hl.out.c2
  have hu7 : ∀ u : After w26.heap.size w26, u.world.cell? ⟨w.heap.size + 1, 3, none⟩ = some (.slice B bs.length D) := fun u => cell_low u.below Hl.out.c3
  go_wp2_with fail
  refine wp_region_mix (fun w' => ∃ u : After w26.heap.size w26, w' = u.world) [] [(0, 0), (1, 0), (2, 1), (3, 1), (4, 0)] (by kernel_rfl) (by kernel_rfl) ⟨⟨_, (Below.refl _ _).drew⟩, rfl⟩ ?_
  have HBD : Hid (Below w26.heap.size w26 w26.drew) := (Below.refl _ _).drew
  generalize w26.drew = wd at *
  refine mix_see rfl (fun K hK => ?_)
  go_simp
  refine hK _ ?_
  clear hK K
  refine mix_see rfl (fun K hK => ?_)
  go_simp
  refine hK _ ?_
  clear hK K
  refine mix_hold rfl (fun K hK => ?_)
  go_simp
  with_reducible refine (toLink_any eq back pA pC place B D bs _ (Hl.out.next HBD.out).topI (Hl.out.next HBD.out).topB hpl hbl HZB.out).mono ?_
  rintro e w27 ⟨p9, pc9, B9, D9, M9, rfl, hb, _, _, hio9, _, hbs9⟩
  have HI9 := Lib.hid (hio9.sl.mono (lo' := 0) (Nat.zero_le _) (Nat.le_refl _))
  have HB9 := Lib.hid (hbs9.bsl.mono (lo' := 0) (Nat.zero_le _) (Nat.le_refl _))
  clear hio9 hbs9
  replace HBD := Lib.hid (low_next HBD.out hb)
  refine hK _ _ ⟨⟨_, HBD.out⟩, rfl⟩ ?_
  clear hK K hb
  refine mix_hold rfl (fun K hK => ?_)
  go_simp
  with_reducible refine (eqLink_same eq back px pcx place Bx Dx bs p9 pc9 B9 D9 _ (Hu.out.next HBD.out).topI (Hu.out.next HBD.out).topB HI9.out HB9.out hpl hbl HZB.out).mono ?_
  rintro e w28 ⟨rfl, hb⟩
  clear HI9 HB9
  replace HBD := Lib.hid (low_next HBD.out hb)
  refine hK _ _ ⟨⟨_, HBD.out⟩, rfl⟩ ?_
  clear hK K hb
  refine mix_see rfl (fun K hK => ?_)
  go_simp
  refine hK _ ?_
  clear hK K
  refine mix_end ?_
  clear hu0 hu1 hu2 hu3 hu4 hu5 hu6 hu7
  have Hlow' : Hid (Below w.heap.size w w28) := low_next Hlow.out HBD.out
  have Hq' : Hid (Tq (w.heap.size + 2) w.heap.size s v a c k w28) := Hq.out.next HBD.out
  have Hl' : Hid (Lq (w.heap.size + 2) (w.heap.size + 1) eq back pA pC place B D bs w28) := Hl.out.next HBD.out
  have HS' : Hid (Eqr (w.heap.size + 2) es A w28) := HS.out.next HBD.out
  have Hw' : Hid (Tq wew.heap.size bw sw vw aw cw kw w28) := Hw.out.next HBD.out
  have Hx' : Hid (Ec wew.heap.size w18.heap.size es Ax w28) := Hx.out.next HBD.out
  have Hy' : Hid (Xb w18.heap.size w19.heap.size w19.heap.size s v ay cy k w28) := Hy.out.next HBD.out
  have Hu' : Hid (Lx (w19.heap.size + 1) Mx w20.heap.size w20.heap.size eq back px pcx place Bx Dx bs w28) := Hu.out.next HBD.out
  have Hg' : Hid (Yo (w20.heap.size + 1) w21.heap.size w21.heap.size sw vw ag cg kw Pg w28) := Hg.out.next HBD.out
  clear Hlow Hq Hl HS Hw Hx Hy Hu Hg
  have Hlow := Hlow'
  clear Hlow'
  have Hq := Hq'
  clear Hq'
  have Hl := Hl'
  clear Hl'
  have HS := HS'
  clear HS'
  have Hw := Hw'
  clear Hw'
  have Hx := Hx'
  clear Hx'
  have Hy := Hy'
  clear Hy'
  have Hu := Hu'
  clear Hu'
  have Hg := Hg'
  clear Hg'
  clear HBD
  have zxle := Hx.out.le
  have zylt := Hy.out.lt
  have zyhb := Hy.out.hb
  have zylh := Hy.out.lh
  have zult := Hu.out.lt
  have zuhb := Hu.out.hb
  have zulM := Hu.out.lM
  have zuMh := Hu.out.Mh
  have zglt := Hg.out.lt
  have zghb := Hg.out.hb
  have zglh := Hg.out.lh
  have zwle := Hw.out.le
  have zSle := HS.out.le
  have HEX := Lib.hid Hx.out.ex
  go_wp2_with fail
  with_reducible refine (markEqS_any es Ax Cx wew.heap.size w18.heap.size 1 _ HEX.out (by omega) hel HZM.out (by omega) (by omega) (by omega)).mono ?_
  rintro e w29 ⟨rfl, hbm, hfar⟩
  have hslow := Hlow.out.size
  clear Hx HEX
  have Hlow' : Hid (Below w.heap.size w w29) := Hlow.out.trans (hbm.mono (by omega))
  have Hq' : Hid (Tq (w.heap.size + 2) w.heap.size s v a c k w29) := Hq.out.go hbm (by omega)
  have Hl' : Hid (Lq (w.heap.size + 2) (w.heap.size + 1) eq back pA pC place B D bs w29) := Hl.out.go hbm (by omega)
  have HS' : Hid (Eqr (w.heap.size + 2) es A w29) := HS.out.go hbm (by omega)
  have Hw' : Hid (Tq wew.heap.size bw sw vw aw cw kw w29) := Hw.out.go hbm (by omega)
  have Hy' : Hid (Xb w18.heap.size w19.heap.size w19.heap.size s v ay cy k w29) := Hy.out.farL hbm.size hfar (by omega)
  have Hu' : Hid (Lx (w19.heap.size + 1) Mx w20.heap.size w20.heap.size eq back px pcx place Bx Dx bs w29) := Hu.out.farL hbm.size hfar (by omega)
  have Hg' : Hid (Yo (w20.heap.size + 1) w21.heap.size w21.heap.size sw vw ag cg kw Pg w29) := Hg.out.farL hbm.size hfar (by omega)
  clear Hlow Hq Hl HS Hw Hy Hu Hg
  have Hlow := Hlow'
  clear Hlow'
  have Hq := Hq'
  clear Hq'
  have Hl := Hl'
  clear Hl'
  have HS := HS'
  clear HS'
  have Hw := Hw'
  clear Hw'
  have Hy := Hy'
  clear Hy'
  have Hu := Hu'
  clear Hu'
  have Hg := Hg'
  clear Hg'
  clear hbm hfar hslow zxle zylt zyhb zylh zult zuhb zulM zuMh zglt zghb zglh zwle zSle
  have zylt := Hy.out.lt
  have zyhb := Hy.out.hb
  have zylh := Hy.out.lh
  have zult := Hu.out.lt
  have zuhb := Hu.out.hb
  have zulM := Hu.out.lM
  have zuMh := Hu.out.Mh
  have zglt := Hg.out.lt
  have zghb := Hg.out.hb
  have zglh := Hg.out.lh
  have zwle := Hw.out.le
  have zSle := HS.out.le
  have qy0 := Hy.out.c0
  have qy1 := Hy.out.c1
  have qy2 := Hy.out.c2
  have HSX := Lib.hid Hy.out.sx.2
  go_wp2_with fail
  with_reducible refine (markTerm_any s v ay cy k w18.heap.size w19.heap.size (1 + mch (hlf es)) _ HSX.out hN (by omega) (by omega) (by omega) (by omega)).mono ?_
  rintro e w30 ⟨rfl, hmk⟩
  clear qy0 qy1 qy2
  have hslow := Hlow.out.size
  have hbm := hmk.below
  have hfar := hmk.far
  clear hmk
  clear Hy HSX
  have Hlow' : Hid (Below w.heap.size w w30) := Hlow.out.trans (hbm.mono (by omega))
  have Hq' : Hid (Tq (w.heap.size + 2) w.heap.size s v a c k w30) := Hq.out.go hbm (by omega)
  have Hl' : Hid (Lq (w.heap.size + 2) (w.heap.size + 1) eq back pA pC place B D bs w30) := Hl.out.go hbm (by omega)
  have HS' : Hid (Eqr (w.heap.size + 2) es A w30) := HS.out.go hbm (by omega)
  have Hw' : Hid (Tq wew.heap.size bw sw vw aw cw kw w30) := Hw.out.go hbm (by omega)
  have Hu' : Hid (Lx (w19.heap.size + 1) Mx w20.heap.size w20.heap.size eq back px pcx place Bx Dx bs w30) := Hu.out.farL hbm.size hfar (by omega)
  have Hg' : Hid (Yo (w20.heap.size + 1) w21.heap.size w21.heap.size sw vw ag cg kw Pg w30) := Hg.out.farL hbm.size hfar (by omega)
  clear Hlow Hq Hl HS Hw Hu Hg
  have Hlow := Hlow'
  clear Hlow'
  have Hq := Hq'
  clear Hq'
  have Hl := Hl'
  clear Hl'
  have HS := HS'
  clear HS'
  have Hw := Hw'
  clear Hw'
  have Hu := Hu'
  clear Hu'
  have Hg := Hg'
  clear Hg'
  clear hbm hfar hslow zylt zyhb zylh zult zuhb zulM zuMh zglt zghb zglh zwle zSle
  have zult := Hu.out.lt
  have zuhb := Hu.out.hb
  have zulM := Hu.out.lM
  have zuMh := Hu.out.Mh
  have zglt := Hg.out.lt
  have zghb := Hg.out.hb
  have zglh := Hg.out.lh
  have zwle := Hw.out.le
  have zSle := HS.out.le
  have qu0 := Hu.out.c0
  have qu1 := Hu.out.c1
  have qu2 := Hu.out.c2
  have qu3 := Hu.out.c3
  have HIO := Lib.hid Hu.out.io
  have HIG := Lib.hid Hu.out.ig
  have HBS := Lib.hid Hu.out.bs
  go_wp2_with fail
  with_reducible refine (markLink_any eq back px pcx place Bx Dx bs (w19.heap.size + 1) Mx w20.heap.size (1 + mch (hlf es) + 2 * (fsz k : Int)) _ HIO.out HIG.out HBS.out (by omega) (by omega) (by omega) hpl hbl HZB.out (by omega) (by omega) hmc).mono ?_
  rintro e w31 ⟨rfl, hbm, hfar⟩
  clear qu0 qu1 qu2 qu3
  have hslow := Hlow.out.size
  clear Hu HIO HIG HBS
  have Hlow' : Hid (Below w.heap.size w w31) := Hlow.out.trans (hbm.mono (by omega))
  have Hq' : Hid (Tq (w.heap.size + 2) w.heap.size s v a c k w31) := Hq.out.go hbm (by omega)
  have Hl' : Hid (Lq (w.heap.size + 2) (w.heap.size + 1) eq back pA pC place B D bs w31) := Hl.out.go hbm (by omega)
  have HS' : Hid (Eqr (w.heap.size + 2) es A w31) := HS.out.go hbm (by omega)
  have Hw' : Hid (Tq wew.heap.size bw sw vw aw cw kw w31) := Hw.out.go hbm (by omega)
  have Hg' : Hid (Yo (w20.heap.size + 1) w21.heap.size w21.heap.size sw vw ag cg kw Pg w31) := Hg.out.farL hbm.size hfar (by omega)
  clear Hlow Hq Hl HS Hw Hg
  have Hlow := Hlow'
  clear Hlow'
  have Hq := Hq'
  clear Hq'
  have Hl := Hl'
  clear Hl'
  have HS := HS'
  clear HS'
  have Hw := Hw'
  clear Hw'
  have Hg := Hg'
  clear Hg'
  clear hbm hfar hslow zult zuhb zulM zuMh zglt zghb zglh zwle zSle
  have e1 : decide (1 + mch (hlf es) + 2 * (fsz k : Int) + place.length + mcn bs < 0) = false := decide_eq_false (by omega)
  have qg0 := Hg.out.c0
  have qg1 := Hg.out.c1
  have qg2 := Hg.out.c2
  have qw0 := Hw.out.c0
  have qw1 := Hw.out.c1
  have qw2 := Hw.out.c2
  go_wp2_with fail
  with_reducible refine (eqTerm_any (k := kw) Hg.out.top Hw.out.top (by omega)).mono ?_
  rintro e w32 ⟨rfl, hb⟩
  clear qg0 qg1 qg2 qw0 qw1 qw2
  have Hlow' : Hid (Below w.heap.size w w32) := low_next Hlow.out hb
  have Hq' : Hid (Tq (w.heap.size + 2) w.heap.size s v a c k w32) := Hq.out.next hb
  have Hl' : Hid (Lq (w.heap.size + 2) (w.heap.size + 1) eq back pA pC place B D bs w32) := Hl.out.next hb
  have HS' : Hid (Eqr (w.heap.size + 2) es A w32) := HS.out.next hb
  have Hw' : Hid (Tq wew.heap.size bw sw vw aw cw kw w32) := Hw.out.next hb
  have Hg' : Hid (Yo (w20.heap.size + 1) w21.heap.size w21.heap.size sw vw ag cg kw Pg w32) := Hg.out.next hb
  clear Hlow Hq Hl HS Hw Hg
  have Hlow := Hlow'
  clear Hlow'
  have Hq := Hq'
  clear Hq'
  have Hl := Hl'
  clear Hl'
  have HS := HS'
  clear HS'
  have Hw := Hw'
  clear Hw'
  have Hg := Hg'
  clear Hg'
  clear hb
  have zglt := Hg.out.lt
  have zghb := Hg.out.hb
  have zglh := Hg.out.lh
  have zwle := Hw.out.le
  have zSle := HS.out.le
  have qg0 := Hg.out.c0
  have qg1 := Hg.out.c1
  have qg2 := Hg.out.c2
  have HOW := Lib.hid Hg.out.ow
  have HPP := Lib.hid Hg.out.pp
  go_wp2_with fail
  with_reducible refine (markTermOwn_any sw vw ag cg kw Pg (w20.heap.size + 1) w21.heap.size 1 _ HOW.out HPP.out (by omega) (by omega) (by omega) (by omega) (by omega)).mono ?_
  rintro e w33 ⟨rfl, hbm, hfar, hhd⟩
  clear qg0 qg1 qg2
  have hslow := Hlow.out.size
  have Hhn : Hid (Yh (w20.heap.size + 1) w21.heap.size w21.heap.size sw vw ag cg kw 1 w33) := Hg.out.held hbm.size hfar hhd
  clear hhd
  clear Hg HOW HPP
  have Hlow' : Hid (Below w.heap.size w w33) := Hlow.out.trans (hbm.mono (by omega))
  have Hq' : Hid (Tq (w.heap.size + 2) w.heap.size s v a c k w33) := Hq.out.go hbm (by omega)
  have Hl' : Hid (Lq (w.heap.size + 2) (w.heap.size + 1) eq back pA pC place B D bs w33) := Hl.out.go hbm (by omega)
  have HS' : Hid (Eqr (w.heap.size + 2) es A w33) := HS.out.go hbm (by omega)
  have Hw' : Hid (Tq wew.heap.size bw sw vw aw cw kw w33) := Hw.out.go hbm (by omega)
  clear Hlow Hq Hl HS Hw
  have Hlow := Hlow'
  clear Hlow'
  have Hq := Hq'
  clear Hq'
  have Hl := Hl'
  clear Hl'
  have HS := HS'
  clear HS'
  have Hw := Hw'
  clear Hw'
  clear hbm hfar hslow zglt zghb zglh zwle zSle
  have Hh := Hhn
  clear Hhn
  have e2 : decide (1 + 2 * (fsz kw : Int) < 0) = false := decide_eq_false (by omega)
  have e3 : ((1 + 2 * (fsz kw : Int)) != (1 + 2 * (fsz kw : Int))) = false := by simp
  have qh0 := Hh.out.c0
  have qh1 := Hh.out.c1
  have qh2 := Hh.out.c2
  go_wp2_with fail
  with_reducible refine (heldTerm_any sw vw ag cg kw (w20.heap.size + 1) w21.heap.size 1 _ Hh.out.hd (by omega) (by omega) (by omega) (by have := Hh.out.hb; have := Hh.out.lt; omega)).mono ?_
  rintro e w34 ⟨rfl, hb⟩
  clear qh0 qh1 qh2
  have Hlow' : Hid (Below w.heap.size w w34) := low_next Hlow.out hb
  have Hq' : Hid (Tq (w.heap.size + 2) w.heap.size s v a c k w34) := Hq.out.next hb
  have Hl' : Hid (Lq (w.heap.size + 2) (w.heap.size + 1) eq back pA pC place B D bs w34) := Hl.out.next hb
  have HS' : Hid (Eqr (w.heap.size + 2) es A w34) := HS.out.next hb
  have Hw' : Hid (Tq wew.heap.size bw sw vw aw cw kw w34) := Hw.out.next hb
  have Hh' : Hid (Yh (w20.heap.size + 1) w21.heap.size w21.heap.size sw vw ag cg kw 1 w34) := Hh.out.next hb
  clear Hlow Hq Hl HS Hw Hh
  have Hlow := Hlow'
  clear Hlow'
  have Hq := Hq'
  clear Hq'
  have Hl := Hl'
  clear Hl'
  have HS := HS'
  clear HS'
  have Hw := Hw'
  clear Hw'
  have Hh := Hh'
  clear Hh'
  clear hb
  have hu0 : ∀ u : After w34.heap.size w34, u.world.cell? ⟨w.heap.size, 0, none⟩ = some (.int .i64 s) := fun u => cell_low u.below Hq.out.c0
  have hu1 : ∀ u : After w34.heap.size w34, u.world.cell? ⟨w.heap.size, 1, none⟩ = some (.int .i64 v) := fun u => cell_low u.below Hq.out.c1
  have hu2 : ∀ u : After w34.heap.size w34, u.world.cell? ⟨w.heap.size, 2, none⟩ = some (.slice a (flen k) c) := fun u => cell_low u.below Hq.out.c2
  have hu3 : ∀ u : After w34.heap.size w34, u.world.cell? ⟨w.heap.size + 1, 0, none⟩ = some (.int .i64 eq) := fun u => cell_low u.below Hl.out.c0
  have hu4 : ∀ u : After w34.heap.size w34, u.world.cell? ⟨w.heap.size + 1, 1, none⟩ = some (.bool back) := fun u => cell_low u.below Hl.out.c1
  have hu5 : ∀ u : After w34.heap.size w34, u.world.cell? ⟨w.heap.size + 1, 2, none⟩ = some (.slice pA place.length pC) := fun u => cell_low u.below Hl.out.c2
  have hu6 : ∀ u : After w34.heap.size w34, u.world.cell? ⟨w.heap.size + 1, 3, none⟩ = some (.slice B bs.length D) := fun u => cell_low u.below Hl.out.c3
  go_wp2_with fail
  obtain ⟨QQ, hQ1, hQ2⟩ : ∃ QQ : Exit → Act → World → Prop, (∀ (y0 y1 y2 y3 y4 y5 y6 y7 y10 y11 y12 y14 y15 y17 y20 y21 y22 y23 y24 y25 y26 y27 y28 y29 y30 y31 y32 y33 y34 y35 y36 y37 y38 y39 y40 y41 y42 y43 y44 y45 y46 y47 y48 y49 y50 y51 y52 y53 y54 y55 y56 y57 y58 y59 y60 y61 y62 y63 y64 y65 y66 y67 y68 y69 y70 y71 y72 y73 y74 y75 y76 y77 y78 y79 y80 y81 y82 y83 y84 y85 y86 y87 y88 y89 y90 y91 y92 y93 y94 y95 y96 y97 y98 y99 y100 y101 y102 y103 y104 y105 y106 y107 y108 y109 y110 y111 y112 y113 y114 y115 y116 y117 y118 y119 y120 y121 y122 y123 y124 y125 y126 y127 y128 y129 y130 y131 y132 y133 y134 y135 y136 y137 y138 y139 y140 y141 : Value) (bm : Nat) (sm vm : Int) (km : Fo) (am : Option Addr) (cm : Nat) (tm : Bool) (w' : World), ansR (lkR es (s, v, k) (eq, back, place, bs)) = ((sm, vm, km), tm) → Below w34.heap.size w34 w' → Tb bm sm vm am cm km w' → QQ .normal { tmps := #[y0, y1, y2, y3, y4, y5, y6, y7, .pointer (some ⟨bw, 0, none⟩), .bool tw, y10, y11, y12, .pointer (some ⟨w21.heap.size, 0, none⟩), y14, y15, .int .i64 (1 + 2 * (fsz kw : Int)), y17, .pointer (some ⟨bm, 0, none⟩), .bool tm, y20, y21, y22, y23, y24, y25, y26, y27, y28, y29, y30, y31, y32, y33, y34, y35, y36, y37, y38, y39, y40, y41, y42, y43, y44, y45, y46, y47, y48, y49, y50, y51, y52, y53, y54, y55, y56, y57, y58, y59, y60, y61, y62, y63, y64, y65, y66, y67, y68, y69, y70, y71, y72, y73, y74, y75, y76, y77, y78, y79, y80, y81, y82, y83, y84, y85, y86, y87, y88, y89, y90, y91, y92, y93, y94, y95, y96, y97, y98, y99, y100, y101, y102, y103, y104, y105, y106, y107, y108, y109, y110, y111, y112, y113, y114, y115, y116, y117, y118, y119, y120, y121, y122, y123, y124, y125, y126, y127, y128, y129, y130, y131, y132, y133, y134, y135, y136, y137, y138, y139, y140, y141], defers := [] } w') ∧ (∀ e a' w', QQ e a' w' → ∀ K : Exit → Act → World → Prop, (∀ (y0 y1 y2 y3 y4 y5 y6 y7 y10 y11 y12 y14 y15 y17 y20 y21 y22 y23 y24 y25 y26 y27 y28 y29 y30 y31 y32 y33 y34 y35 y36 y37 y38 y39 y40 y41 y42 y43 y44 y45 y46 y47 y48 y49 y50 y51 y52 y53 y54 y55 y56 y57 y58 y59 y60 y61 y62 y63 y64 y65 y66 y67 y68 y69 y70 y71 y72 y73 y74 y75 y76 y77 y78 y79 y80 y81 y82 y83 y84 y85 y86 y87 y88 y89 y90 y91 y92 y93 y94 y95 y96 y97 y98 y99 y100 y101 y102 y103 y104 y105 y106 y107 y108 y109 y110 y111 y112 y113 y114 y115 y116 y117 y118 y119 y120 y121 y122 y123 y124 y125 y126 y127 y128 y129 y130 y131 y132 y133 y134 y135 y136 y137 y138 y139 y140 y141 : Value) (bm : Nat) (sm vm : Int) (km : Fo) (am : Option Addr) (cm : Nat) (tm : Bool) (w' : World), ansR (lkR es (s, v, k) (eq, back, place, bs)) = ((sm, vm, km), tm) → Below w34.heap.size w34 w' → Tb bm sm vm am cm km w' → K .normal { tmps := #[y0, y1, y2, y3, y4, y5, y6, y7, .pointer (some ⟨bw, 0, none⟩), .bool tw, y10, y11, y12, .pointer (some ⟨w21.heap.size, 0, none⟩), y14, y15, .int .i64 (1 + 2 * (fsz kw : Int)), y17, .pointer (some ⟨bm, 0, none⟩), .bool tm, y20, y21, y22, y23, y24, y25, y26, y27, y28, y29, y30, y31, y32, y33, y34, y35, y36, y37, y38, y39, y40, y41, y42, y43, y44, y45, y46, y47, y48, y49, y50, y51, y52, y53, y54, y55, y56, y57, y58, y59, y60, y61, y62, y63, y64, y65, y66, y67, y68, y69, y70, y71, y72, y73, y74, y75, y76, y77, y78, y79, y80, y81, y82, y83, y84, y85, y86, y87, y88, y89, y90, y91, y92, y93, y94, y95, y96, y97, y98, y99, y100, y101, y102, y103, y104, y105, y106, y107, y108, y109, y110, y111, y112, y113, y114, y115, y116, y117, y118, y119, y120, y121, y122, y123, y124, y125, y126, y127, y128, y129, y130, y131, y132, y133, y134, y135, y136, y137, y138, y139, y140, y141], defers := [] } w') → K e a' w') :=
    ⟨fun e a' w' => ∀ K : Exit → Act → World → Prop, (∀ (y0 y1 y2 y3 y4 y5 y6 y7 y10 y11 y12 y14 y15 y17 y20 y21 y22 y23 y24 y25 y26 y27 y28 y29 y30 y31 y32 y33 y34 y35 y36 y37 y38 y39 y40 y41 y42 y43 y44 y45 y46 y47 y48 y49 y50 y51 y52 y53 y54 y55 y56 y57 y58 y59 y60 y61 y62 y63 y64 y65 y66 y67 y68 y69 y70 y71 y72 y73 y74 y75 y76 y77 y78 y79 y80 y81 y82 y83 y84 y85 y86 y87 y88 y89 y90 y91 y92 y93 y94 y95 y96 y97 y98 y99 y100 y101 y102 y103 y104 y105 y106 y107 y108 y109 y110 y111 y112 y113 y114 y115 y116 y117 y118 y119 y120 y121 y122 y123 y124 y125 y126 y127 y128 y129 y130 y131 y132 y133 y134 y135 y136 y137 y138 y139 y140 y141 : Value) (bm : Nat) (sm vm : Int) (km : Fo) (am : Option Addr) (cm : Nat) (tm : Bool) (w' : World), ansR (lkR es (s, v, k) (eq, back, place, bs)) = ((sm, vm, km), tm) → Below w34.heap.size w34 w' → Tb bm sm vm am cm km w' → K .normal { tmps := #[y0, y1, y2, y3, y4, y5, y6, y7, .pointer (some ⟨bw, 0, none⟩), .bool tw, y10, y11, y12, .pointer (some ⟨w21.heap.size, 0, none⟩), y14, y15, .int .i64 (1 + 2 * (fsz kw : Int)), y17, .pointer (some ⟨bm, 0, none⟩), .bool tm, y20, y21, y22, y23, y24, y25, y26, y27, y28, y29, y30, y31, y32, y33, y34, y35, y36, y37, y38, y39, y40, y41, y42, y43, y44, y45, y46, y47, y48, y49, y50, y51, y52, y53, y54, y55, y56, y57, y58, y59, y60, y61, y62, y63, y64, y65, y66, y67, y68, y69, y70, y71, y72, y73, y74, y75, y76, y77, y78, y79, y80, y81, y82, y83, y84, y85, y86, y87, y88, y89, y90, y91, y92, y93, y94, y95, y96, y97, y98, y99, y100, y101, y102, y103, y104, y105, y106, y107, y108, y109, y110, y111, y112, y113, y114, y115, y116, y117, y118, y119, y120, y121, y122, y123, y124, y125, y126, y127, y128, y129, y130, y131, y132, y133, y134, y135, y136, y137, y138, y139, y140, y141], defers := [] } w') → K e a' w', fun y0 y1 y2 y3 y4 y5 y6 y7 y10 y11 y12 y14 y15 y17 y20 y21 y22 y23 y24 y25 y26 y27 y28 y29 y30 y31 y32 y33 y34 y35 y36 y37 y38 y39 y40 y41 y42 y43 y44 y45 y46 y47 y48 y49 y50 y51 y52 y53 y54 y55 y56 y57 y58 y59 y60 y61 y62 y63 y64 y65 y66 y67 y68 y69 y70 y71 y72 y73 y74 y75 y76 y77 y78 y79 y80 y81 y82 y83 y84 y85 y86 y87 y88 y89 y90 y91 y92 y93 y94 y95 y96 y97 y98 y99 y100 y101 y102 y103 y104 y105 y106 y107 y108 y109 y110 y111 y112 y113 y114 y115 y116 y117 y118 y119 y120 y121 y122 y123 y124 y125 y126 y127 y128 y129 y130 y131 y132 y133 y134 y135 y136 y137 y138 y139 y140 y141 bm sm vm km am cm tm _ h1 h2 h3 K hK => hK y0 y1 y2 y3 y4 y5 y6 y7 y10 y11 y12 y14 y15 y17 y20 y21 y22 y23 y24 y25 y26 y27 y28 y29 y30 y31 y32 y33 y34 y35 y36 y37 y38 y39 y40 y41 y42 y43 y44 y45 y46 y47 y48 y49 y50 y51 y52 y53 y54 y55 y56 y57 y58 y59 y60 y61 y62 y63 y64 y65 y66 y67 y68 y69 y70 y71 y72 y73 y74 y75 y76 y77 y78 y79 y80 y81 y82 y83 y84 y85 y86 y87 y88 y89 y90 y91 y92 y93 y94 y95 y96 y97 y98 y99 y100 y101 y102 y103 y104 y105 y106 y107 y108 y109 y110 y111 y112 y113 y114 y115 y116 y117 y118 y119 y120 y121 y122 y123 y124 y125 y126 y127 y128 y129 y130 y131 y132 y133 y134 y135 y136 y137 y138 y139 y140 y141 bm sm vm km am cm tm _ h1 h2 h3, fun _ _ _ h => h⟩
  have HQ1 := Lib.hid hQ1
  have HQ2 := Lib.hid hQ2
  clear hQ1 hQ2
  refine Code.wp_mono (Q := QQ) (fun e a' w' hqq => HQ2.out e a' w' hqq _ ?_) ?_
  rotate_left
  · refine wp_region_anyT (fun w' => ∃ u : After w34.heap.size w34, w' = u.world) (by kernel_rfl) ?_
    have HBD : Hid (Below w34.heap.size w34 w34.drew) := (Below.refl _ _).drew
    generalize w34.drew = wd at *
    refine anyT_look (i := 0) rfl (by kernel_rfl) ⟨⟨_, HBD.out⟩, rfl⟩ (fun K hK => ?_)
    go_simp
    refine hK _ ?_
    clear hK K
    refine anyT_look (i := 2) rfl (by kernel_rfl) ⟨⟨_, HBD.out⟩, rfl⟩ (fun K hK => ?_)
    go_simp
    refine hK _ ?_
    clear hK K
    refine anyT_look (i := 4) rfl (by kernel_rfl) ⟨⟨_, HBD.out⟩, rfl⟩ (fun K hK => ?_)
    go_simp
    refine hK _ ?_
    clear hK K
    clear hu0 hu1 hu2 hu3 hu4 hu5 hu6
    refine anyT_two (i := 1) (j := 10) (by kernel_rfl) rfl rfl (fun K hK => ?_) (fun K hK => ?_)
    · go_simp
      with_reducible refine (toEqS_any es A C _ (HS.out.next HBD.out).top (by omega) HZE.out).mono ?_
      rintro e w35 ⟨A5, C5, rfl, hb, hs5⟩
      have HR5 := Lib.hid (hs5.mono (lo' := 0) (Nat.zero_le _) (Nat.le_refl _))
      clear hs5
      replace HBD := Lib.hid (low_next HBD.out hb)
      refine hK _ _ ⟨⟨_, HBD.out⟩, rfl⟩ ?_
      clear hK K hb
      refine anyT_two (i := 3) (j := 10) (by kernel_rfl) rfl rfl (fun K hK => ?_) (fun K hK => ?_)
      · go_simp
        with_reducible refine (toTerm_any (Hq.out.next HBD.out).top hN).mono ?_
        rintro e w36 ⟨a6, c6, rfl, hb, hl6⟩
        replace HR5 := Lib.hid (HR5.out.next hb)
        have HT6 := Lib.hid (hl6.mono (lo' := 0) (Nat.zero_le _) (Nat.le_refl _))
        clear hl6
        replace HBD := Lib.hid (low_next HBD.out hb)
        refine hK _ _ ⟨⟨_, HBD.out⟩, rfl⟩ ?_
        clear hK K hb
        refine anyT_two (i := 5) (j := 10) (by kernel_rfl) rfl rfl (fun K hK => ?_) (fun K hK => ?_)
        · go_simp
          with_reducible refine (toLink_any eq back pA pC place B D bs _ (Hl.out.next HBD.out).topI (Hl.out.next HBD.out).topB hpl hbl HZB.out).mono ?_
          rintro e w37 ⟨p7, c7, B7, D7, M7, rfl, hb, hM1, hM2, hio, hig, hbs⟩
          replace HR5 := Lib.hid (HR5.out.next hb)
          replace HT6 := Lib.hid (Sl.next HT6.out hb)
          have HI7 := Lib.hid (ISc.mono (lo' := 0) (Nat.zero_le _) (Nat.le_refl _) (isc_of_own hio))
          have HB7 := Lib.hid (hbs.bsl.mono (lo' := 0) (Nat.zero_le _) (Nat.le_refl _))
          clear hM1 hM2 hio hig hbs
          replace HBD := Lib.hid (low_next HBD.out hb)
          refine hK _ _ ⟨⟨_, HBD.out⟩, rfl⟩ ?_
          clear hK K hb
          refine anyT_two (i := 6) (j := 10) (by kernel_rfl) rfl rfl (fun K hK => ?_) (fun K hK => ?_)
          · go_simp
            with_reducible refine (iLinkDo_any es A5 C5 s v a6 c6 k eq back p7 c7 place B7 D7 bs _ HR5.out (by omega) HT6.out HI7.out hpl HB7.out hbl).mono ?_
            rintro e w38 ⟨am, cm, sm, vm, km, tm, hd, rfl, hb, hlx⟩
            have HDD := Lib.hid hd
            clear hd
            have hhi := hb.size
            replace HR5 := Lib.hid (HR5.out.next hb)
            replace HT6 := Lib.hid (Sl.next HT6.out hb)
            have HLX := Lib.hid hlx
            clear hlx HR5 HT6 HI7 HB7
            replace HBD := Lib.hid (low_next HBD.out hb)
            refine hK _ _ ⟨⟨_, HBD.out⟩, rfl⟩ ?_
            clear hK K hb
            refine anyT_look (i := 7) rfl (by kernel_rfl) ⟨⟨_, HBD.out⟩, rfl⟩ (fun K hK => ?_)
            go_simp
            refine hK _ ?_
            clear hK K
            refine anyT_look (i := 8) rfl (by kernel_rfl) ⟨⟨_, HBD.out⟩, rfl⟩ (fun K hK => ?_)
            go_simp
            refine hK _ ?_
            clear hK K
            refine anyT_look (i := 9) rfl (by kernel_rfl) ⟨⟨_, HBD.out⟩, rfl⟩ (fun K hK => ?_)
            go_simp
            refine hK _ ?_
            clear hK K
            refine anyT_one (i := 10) (by kernel_rfl) rfl (fun K hK => ?_)
            go_simp
            have HZ := Lib.hid (zb_new w38)
            have hbz : w34.heap.size ≤ w38.heap.size := HBD.out.size
            have hbe : Below w38.heap.size w38 (w38.alloc (.cells #[.int .i64 0, .int .i64 0, .slice none 0 0] 35)) := (Below.refl _ _).alloc (Nat.le_refl _) _
            have hze := hbe.size
            replace HLX := Lib.hid (HLX.out.below hbe)
            replace HBD := Lib.hid (low_next HBD.out hbe)
            refine hK _ _ ⟨⟨_, HBD.out⟩, rfl⟩ ?_
            clear hK K hbe
            generalize hwz : w38.alloc (.cells #[.int .i64 0, .int .i64 0, .slice none 0 0] 35) = wz at *
            clear hwz
            have hzz0 := HZ.out.z0
            have hzz1 := HZ.out.z1
            have hzz2 := HZ.out.z2
            have hzf0 := HZ.out.f 0
            have hzf1 := HZ.out.f 1
            have hzf2 := HZ.out.f 2
            have HFIN : Hid (Below w34.heap.size w34 (((wz.setCell ⟨w38.heap.size, 0, none⟩ (.int .i64 sm)).setCell ⟨w38.heap.size, 1, none⟩ (.int .i64 vm)).setCell ⟨w38.heap.size, 2, none⟩ (.slice am (flen km) cm)) ∧ Tb w38.heap.size sm vm am cm km (((wz.setCell ⟨w38.heap.size, 0, none⟩ (.int .i64 sm)).setCell ⟨w38.heap.size, 1, none⟩ (.int .i64 vm)).setCell ⟨w38.heap.size, 2, none⟩ (.slice am (flen km) cm))) := zb_fin HZ.out HBD.out hbz HLX.out hze (.inr (Nat.le_refl _))
            refine anyT_one (i := 11) (by kernel_rfl) rfl (fun K hK => ?_)
            go_simp
            refine hK _ _ ⟨⟨_, HFIN.out.1⟩, rfl⟩ ?_
            clear hK K hzz0 hzz1 hzz2 hzf0 hzf1 hzf2
            refine anyT_one (i := 12) (by kernel_rfl) rfl (fun K hK => ?_)
            go_simp
            refine hK _ _ ⟨⟨_, HFIN.out.1⟩, rfl⟩ ?_
            clear hK K
            refine anyT_done (by kernel_rfl) ?_
            exact HQ1.out _ _ _ _ _ _ _ _ _ _ _ _ _ _ _ _ _ _ _ _ _ _ _ _ _ _ _ _ _ _ _ _ _ _ _ _ _ _ _ _ _ _ _ _ _ _ _ _ _ _ _ _ _ _ _ _ _ _ _ _ _ _ _ _ _ _ _ _ _ _ _ _ _ _ _ _ _ _ _ _ _ _ _ _ _ _ _ _ _ _ _ _ _ _ _ _ _ _ _ _ _ _ _ _ _ _ _ _ _ _ _ _ _ _ _ _ _ _ _ _ _ _ _ _ _ _ _ _ _ _ _ _ _ _ _ _ w38.heap.size sm vm km am cm tm _ HDD.out HFIN.out.1 HFIN.out.2
          · go_simp
            have HZ := Lib.hid (zb_new w37)
            have hbz : w34.heap.size ≤ w37.heap.size := HBD.out.size
            have hbe : Below w37.heap.size w37 (w37.alloc (.cells #[.int .i64 0, .int .i64 0, .slice none 0 0] 35)) := (Below.refl _ _).alloc (Nat.le_refl _) _
            replace HR5 := Lib.hid (HR5.out.next hbe)
            replace HT6 := Lib.hid (Sl.next HT6.out hbe)
            replace HI7 := Lib.hid (HI7.out.next hbe)
            replace HB7 := Lib.hid (HB7.out.next hbe)
            replace HBD := Lib.hid (low_next HBD.out hbe)
            refine hK _ _ ⟨⟨_, HBD.out⟩, rfl⟩ ?_
            clear hK K hbe
            generalize hwz : w37.alloc (.cells #[.int .i64 0, .int .i64 0, .slice none 0 0] 35) = wz at *
            clear hwz
            refine anyT_one (i := 6) (by kernel_rfl) rfl (fun K hK => ?_)
            go_simp
            with_reducible refine (iLinkDo_any es A5 C5 s v a6 c6 k eq back p7 c7 place B7 D7 bs _ HR5.out (by omega) HT6.out HI7.out hpl HB7.out hbl).mono ?_
            rintro e w39 ⟨am, cm, sm, vm, km, tm, hd, rfl, hb, hlx⟩
            have HDD := Lib.hid hd
            clear hd
            have hzl := HZ.out.lt
            have hhi := hb.size
            replace HR5 := Lib.hid (HR5.out.next hb)
            replace HT6 := Lib.hid (Sl.next HT6.out hb)
            replace HZ := Lib.hid (HZ.out.low hb)
            have HLX := Lib.hid hlx
            clear hlx HR5 HT6 HI7 HB7
            replace HBD := Lib.hid (low_next HBD.out hb)
            refine hK _ _ ⟨⟨_, HBD.out⟩, rfl⟩ ?_
            clear hK K hb
            refine anyT_look (i := 7) rfl (by kernel_rfl) ⟨⟨_, HBD.out⟩, rfl⟩ (fun K hK => ?_)
            go_simp
            refine hK _ ?_
            clear hK K
            refine anyT_look (i := 8) rfl (by kernel_rfl) ⟨⟨_, HBD.out⟩, rfl⟩ (fun K hK => ?_)
            go_simp
            refine hK _ ?_
            clear hK K
            refine anyT_look (i := 9) rfl (by kernel_rfl) ⟨⟨_, HBD.out⟩, rfl⟩ (fun K hK => ?_)
            go_simp
            refine hK _ ?_
            clear hK K
            have hzz0 := HZ.out.z0
            have hzz1 := HZ.out.z1
            have hzz2 := HZ.out.z2
            have hzf0 := HZ.out.f 0
            have hzf1 := HZ.out.f 1
            have hzf2 := HZ.out.f 2
            have HFIN : Hid (Below w34.heap.size w34 (((w39.setCell ⟨w37.heap.size, 0, none⟩ (.int .i64 sm)).setCell ⟨w37.heap.size, 1, none⟩ (.int .i64 vm)).setCell ⟨w37.heap.size, 2, none⟩ (.slice am (flen km) cm)) ∧ Tb w37.heap.size sm vm am cm km (((w39.setCell ⟨w37.heap.size, 0, none⟩ (.int .i64 sm)).setCell ⟨w37.heap.size, 1, none⟩ (.int .i64 vm)).setCell ⟨w37.heap.size, 2, none⟩ (.slice am (flen km) cm))) := zb_fin HZ.out HBD.out hbz HLX.out (Nat.le_refl _) (.inl hzl)
            refine anyT_one (i := 11) (by kernel_rfl) rfl (fun K hK => ?_)
            go_simp
            refine hK _ _ ⟨⟨_, HFIN.out.1⟩, rfl⟩ ?_
            clear hK K hzz0 hzz1 hzz2 hzf0 hzf1 hzf2
            refine anyT_one (i := 12) (by kernel_rfl) rfl (fun K hK => ?_)
            go_simp
            refine hK _ _ ⟨⟨_, HFIN.out.1⟩, rfl⟩ ?_
            clear hK K
            refine anyT_done (by kernel_rfl) ?_
            exact HQ1.out _ _ _ _ _ _ _ _ _ _ _ _ _ _ _ _ _ _ _ _ _ _ _ _ _ _ _ _ _ _ _ _ _ _ _ _ _ _ _ _ _ _ _ _ _ _ _ _ _ _ _ _ _ _ _ _ _ _ _ _ _ _ _ _ _ _ _ _ _ _ _ _ _ _ _ _ _ _ _ _ _ _ _ _ _ _ _ _ _ _ _ _ _ _ _ _ _ _ _ _ _ _ _ _ _ _ _ _ _ _ _ _ _ _ _ _ _ _ _ _ _ _ _ _ _ _ _ _ _ _ _ _ _ _ _ _ w37.heap.size sm vm km am cm tm _ HDD.out HFIN.out.1 HFIN.out.2
        · go_simp
          have HZ := Lib.hid (zb_new w36)
          have hbz : w34.heap.size ≤ w36.heap.size := HBD.out.size
          have hbe : Below w36.heap.size w36 (w36.alloc (.cells #[.int .i64 0, .int .i64 0, .slice none 0 0] 35)) := (Below.refl _ _).alloc (Nat.le_refl _) _
          replace HR5 := Lib.hid (HR5.out.next hbe)
          replace HT6 := Lib.hid (Sl.next HT6.out hbe)
          replace HBD := Lib.hid (low_next HBD.out hbe)
          refine hK _ _ ⟨⟨_, HBD.out⟩, rfl⟩ ?_
          clear hK K hbe
          generalize hwz : w36.alloc (.cells #[.int .i64 0, .int .i64 0, .slice none 0 0] 35) = wz at *
          clear hwz
          refine anyT_one (i := 5) (by kernel_rfl) rfl (fun K hK => ?_)
          go_simp
          with_reducible refine (toLink_any eq back pA pC place B D bs _ (Hl.out.next HBD.out).topI (Hl.out.next HBD.out).topB hpl hbl HZB.out).mono ?_
          rintro e w40 ⟨p7, c7, B7, D7, M7, rfl, hb, hM1, hM2, hio, hig, hbs⟩
          replace HR5 := Lib.hid (HR5.out.next hb)
          replace HT6 := Lib.hid (Sl.next HT6.out hb)
          replace HZ := Lib.hid (HZ.out.low hb)
          have HI7 := Lib.hid (ISc.mono (lo' := 0) (Nat.zero_le _) (Nat.le_refl _) (isc_of_own hio))
          have HB7 := Lib.hid (hbs.bsl.mono (lo' := 0) (Nat.zero_le _) (Nat.le_refl _))
          clear hM1 hM2 hio hig hbs
          replace HBD := Lib.hid (low_next HBD.out hb)
          refine hK _ _ ⟨⟨_, HBD.out⟩, rfl⟩ ?_
          clear hK K hb
          refine anyT_one (i := 6) (by kernel_rfl) rfl (fun K hK => ?_)
          go_simp
          with_reducible refine (iLinkDo_any es A5 C5 s v a6 c6 k eq back p7 c7 place B7 D7 bs _ HR5.out (by omega) HT6.out HI7.out hpl HB7.out hbl).mono ?_
          rintro e w41 ⟨am, cm, sm, vm, km, tm, hd, rfl, hb, hlx⟩
          have HDD := Lib.hid hd
          clear hd
          have hzl := HZ.out.lt
          have hhi := hb.size
          replace HR5 := Lib.hid (HR5.out.next hb)
          replace HT6 := Lib.hid (Sl.next HT6.out hb)
          replace HZ := Lib.hid (HZ.out.low hb)
          have HLX := Lib.hid hlx
          clear hlx HR5 HT6 HI7 HB7
          replace HBD := Lib.hid (low_next HBD.out hb)
          refine hK _ _ ⟨⟨_, HBD.out⟩, rfl⟩ ?_
          clear hK K hb
          refine anyT_look (i := 7) rfl (by kernel_rfl) ⟨⟨_, HBD.out⟩, rfl⟩ (fun K hK => ?_)
          go_simp
          refine hK _ ?_
          clear hK K
          refine anyT_look (i := 8) rfl (by kernel_rfl) ⟨⟨_, HBD.out⟩, rfl⟩ (fun K hK => ?_)
          go_simp
          refine hK _ ?_
          clear hK K
          refine anyT_look (i := 9) rfl (by kernel_rfl) ⟨⟨_, HBD.out⟩, rfl⟩ (fun K hK => ?_)
          go_simp
          refine hK _ ?_
          clear hK K
          have hzz0 := HZ.out.z0
          have hzz1 := HZ.out.z1
          have hzz2 := HZ.out.z2
          have hzf0 := HZ.out.f 0
          have hzf1 := HZ.out.f 1
          have hzf2 := HZ.out.f 2
          have HFIN : Hid (Below w34.heap.size w34 (((w41.setCell ⟨w36.heap.size, 0, none⟩ (.int .i64 sm)).setCell ⟨w36.heap.size, 1, none⟩ (.int .i64 vm)).setCell ⟨w36.heap.size, 2, none⟩ (.slice am (flen km) cm)) ∧ Tb w36.heap.size sm vm am cm km (((w41.setCell ⟨w36.heap.size, 0, none⟩ (.int .i64 sm)).setCell ⟨w36.heap.size, 1, none⟩ (.int .i64 vm)).setCell ⟨w36.heap.size, 2, none⟩ (.slice am (flen km) cm))) := zb_fin HZ.out HBD.out hbz HLX.out (Nat.le_refl _) (.inl hzl)
          refine anyT_one (i := 11) (by kernel_rfl) rfl (fun K hK => ?_)
          go_simp
          refine hK _ _ ⟨⟨_, HFIN.out.1⟩, rfl⟩ ?_
          clear hK K hzz0 hzz1 hzz2 hzf0 hzf1 hzf2
          refine anyT_one (i := 12) (by kernel_rfl) rfl (fun K hK => ?_)
          go_simp
          refine hK _ _ ⟨⟨_, HFIN.out.1⟩, rfl⟩ ?_
          clear hK K
          refine anyT_done (by kernel_rfl) ?_
          exact HQ1.out _ _ _ _ _ _ _ _ _ _ _ _ _ _ _ _ _ _ _ _ _ _ _ _ _ _ _ _ _ _ _ _ _ _ _ _ _ _ _ _ _ _ _ _ _ _ _ _ _ _ _ _ _ _ _ _ _ _ _ _ _ _ _ _ _ _ _ _ _ _ _ _ _ _ _ _ _ _ _ _ _ _ _ _ _ _ _ _ _ _ _ _ _ _ _ _ _ _ _ _ _ _ _ _ _ _ _ _ _ _ _ _ _ _ _ _ _ _ _ _ _ _ _ _ _ _ _ _ _ _ _ _ _ _ _ _ w36.heap.size sm vm km am cm tm _ HDD.out HFIN.out.1 HFIN.out.2
      · go_simp
        have HZ := Lib.hid (zb_new w35)
        have hbz : w34.heap.size ≤ w35.heap.size := HBD.out.size
        have hbe : Below w35.heap.size w35 (w35.alloc (.cells #[.int .i64 0, .int .i64 0, .slice none 0 0] 35)) := (Below.refl _ _).alloc (Nat.le_refl _) _
        replace HR5 := Lib.hid (HR5.out.next hbe)
        replace HBD := Lib.hid (low_next HBD.out hbe)
        refine hK _ _ ⟨⟨_, HBD.out⟩, rfl⟩ ?_
        clear hK K hbe
        generalize hwz : w35.alloc (.cells #[.int .i64 0, .int .i64 0, .slice none 0 0] 35) = wz at *
        clear hwz
        refine anyT_one (i := 3) (by kernel_rfl) rfl (fun K hK => ?_)
        go_simp
        with_reducible refine (toTerm_any (Hq.out.next HBD.out).top hN).mono ?_
        rintro e w42 ⟨a6, c6, rfl, hb, hl6⟩
        replace HR5 := Lib.hid (HR5.out.next hb)
        replace HZ := Lib.hid (HZ.out.low hb)
        have HT6 := Lib.hid (hl6.mono (lo' := 0) (Nat.zero_le _) (Nat.le_refl _))
        clear hl6
        replace HBD := Lib.hid (low_next HBD.out hb)
        refine hK _ _ ⟨⟨_, HBD.out⟩, rfl⟩ ?_
        clear hK K hb
        refine anyT_one (i := 5) (by kernel_rfl) rfl (fun K hK => ?_)
        go_simp
        with_reducible refine (toLink_any eq back pA pC place B D bs _ (Hl.out.next HBD.out).topI (Hl.out.next HBD.out).topB hpl hbl HZB.out).mono ?_
        rintro e w43 ⟨p7, c7, B7, D7, M7, rfl, hb, hM1, hM2, hio, hig, hbs⟩
        replace HR5 := Lib.hid (HR5.out.next hb)
        replace HT6 := Lib.hid (Sl.next HT6.out hb)
        replace HZ := Lib.hid (HZ.out.low hb)
        have HI7 := Lib.hid (ISc.mono (lo' := 0) (Nat.zero_le _) (Nat.le_refl _) (isc_of_own hio))
        have HB7 := Lib.hid (hbs.bsl.mono (lo' := 0) (Nat.zero_le _) (Nat.le_refl _))
        clear hM1 hM2 hio hig hbs
        replace HBD := Lib.hid (low_next HBD.out hb)
        refine hK _ _ ⟨⟨_, HBD.out⟩, rfl⟩ ?_
        clear hK K hb
        refine anyT_one (i := 6) (by kernel_rfl) rfl (fun K hK => ?_)
        go_simp
        with_reducible refine (iLinkDo_any es A5 C5 s v a6 c6 k eq back p7 c7 place B7 D7 bs _ HR5.out (by omega) HT6.out HI7.out hpl HB7.out hbl).mono ?_
        rintro e w44 ⟨am, cm, sm, vm, km, tm, hd, rfl, hb, hlx⟩
        have HDD := Lib.hid hd
        clear hd
        have hzl := HZ.out.lt
        have hhi := hb.size
        replace HR5 := Lib.hid (HR5.out.next hb)
        replace HT6 := Lib.hid (Sl.next HT6.out hb)
        replace HZ := Lib.hid (HZ.out.low hb)
        have HLX := Lib.hid hlx
        clear hlx HR5 HT6 HI7 HB7
        replace HBD := Lib.hid (low_next HBD.out hb)
        refine hK _ _ ⟨⟨_, HBD.out⟩, rfl⟩ ?_
        clear hK K hb
        refine anyT_look (i := 7) rfl (by kernel_rfl) ⟨⟨_, HBD.out⟩, rfl⟩ (fun K hK => ?_)
        go_simp
        refine hK _ ?_
        clear hK K
        refine anyT_look (i := 8) rfl (by kernel_rfl) ⟨⟨_, HBD.out⟩, rfl⟩ (fun K hK => ?_)
        go_simp
        refine hK _ ?_
        clear hK K
        refine anyT_look (i := 9) rfl (by kernel_rfl) ⟨⟨_, HBD.out⟩, rfl⟩ (fun K hK => ?_)
        go_simp
        refine hK _ ?_
        clear hK K
        have hzz0 := HZ.out.z0
        have hzz1 := HZ.out.z1
        have hzz2 := HZ.out.z2
        have hzf0 := HZ.out.f 0
        have hzf1 := HZ.out.f 1
        have hzf2 := HZ.out.f 2
        have HFIN : Hid (Below w34.heap.size w34 (((w44.setCell ⟨w35.heap.size, 0, none⟩ (.int .i64 sm)).setCell ⟨w35.heap.size, 1, none⟩ (.int .i64 vm)).setCell ⟨w35.heap.size, 2, none⟩ (.slice am (flen km) cm)) ∧ Tb w35.heap.size sm vm am cm km (((w44.setCell ⟨w35.heap.size, 0, none⟩ (.int .i64 sm)).setCell ⟨w35.heap.size, 1, none⟩ (.int .i64 vm)).setCell ⟨w35.heap.size, 2, none⟩ (.slice am (flen km) cm))) := zb_fin HZ.out HBD.out hbz HLX.out (Nat.le_refl _) (.inl hzl)
        refine anyT_one (i := 11) (by kernel_rfl) rfl (fun K hK => ?_)
        go_simp
        refine hK _ _ ⟨⟨_, HFIN.out.1⟩, rfl⟩ ?_
        clear hK K hzz0 hzz1 hzz2 hzf0 hzf1 hzf2
        refine anyT_one (i := 12) (by kernel_rfl) rfl (fun K hK => ?_)
        go_simp
        refine hK _ _ ⟨⟨_, HFIN.out.1⟩, rfl⟩ ?_
        clear hK K
        refine anyT_done (by kernel_rfl) ?_
        exact HQ1.out _ _ _ _ _ _ _ _ _ _ _ _ _ _ _ _ _ _ _ _ _ _ _ _ _ _ _ _ _ _ _ _ _ _ _ _ _ _ _ _ _ _ _ _ _ _ _ _ _ _ _ _ _ _ _ _ _ _ _ _ _ _ _ _ _ _ _ _ _ _ _ _ _ _ _ _ _ _ _ _ _ _ _ _ _ _ _ _ _ _ _ _ _ _ _ _ _ _ _ _ _ _ _ _ _ _ _ _ _ _ _ _ _ _ _ _ _ _ _ _ _ _ _ _ _ _ _ _ _ _ _ _ _ _ _ _ w35.heap.size sm vm km am cm tm _ HDD.out HFIN.out.1 HFIN.out.2
    · go_simp
      have HZ := Lib.hid (zb_new wd)
      have hbz : w34.heap.size ≤ wd.heap.size := HBD.out.size
      have hbe : Below wd.heap.size wd (wd.alloc (.cells #[.int .i64 0, .int .i64 0, .slice none 0 0] 35)) := (Below.refl _ _).alloc (Nat.le_refl _) _
      replace HBD := Lib.hid (low_next HBD.out hbe)
      refine hK _ _ ⟨⟨_, HBD.out⟩, rfl⟩ ?_
      clear hK K hbe
      generalize hwz : wd.alloc (.cells #[.int .i64 0, .int .i64 0, .slice none 0 0] 35) = wz at *
      clear hwz
      refine anyT_one (i := 1) (by kernel_rfl) rfl (fun K hK => ?_)
      go_simp
      with_reducible refine (toEqS_any es A C _ (HS.out.next HBD.out).top (by omega) HZE.out).mono ?_
      rintro e w45 ⟨A5, C5, rfl, hb, hs5⟩
      replace HZ := Lib.hid (HZ.out.low hb)
      have HR5 := Lib.hid (hs5.mono (lo' := 0) (Nat.zero_le _) (Nat.le_refl _))
      clear hs5
      replace HBD := Lib.hid (low_next HBD.out hb)
      refine hK _ _ ⟨⟨_, HBD.out⟩, rfl⟩ ?_
      clear hK K hb
      refine anyT_one (i := 3) (by kernel_rfl) rfl (fun K hK => ?_)
      go_simp
      with_reducible refine (toTerm_any (Hq.out.next HBD.out).top hN).mono ?_
      rintro e w46 ⟨a6, c6, rfl, hb, hl6⟩
      replace HR5 := Lib.hid (HR5.out.next hb)
      replace HZ := Lib.hid (HZ.out.low hb)
      have HT6 := Lib.hid (hl6.mono (lo' := 0) (Nat.zero_le _) (Nat.le_refl _))
      clear hl6
      replace HBD := Lib.hid (low_next HBD.out hb)
      refine hK _ _ ⟨⟨_, HBD.out⟩, rfl⟩ ?_
      clear hK K hb
      refine anyT_one (i := 5) (by kernel_rfl) rfl (fun K hK => ?_)
      go_simp
      with_reducible refine (toLink_any eq back pA pC place B D bs _ (Hl.out.next HBD.out).topI (Hl.out.next HBD.out).topB hpl hbl HZB.out).mono ?_
      rintro e w47 ⟨p7, c7, B7, D7, M7, rfl, hb, hM1, hM2, hio, hig, hbs⟩
      replace HR5 := Lib.hid (HR5.out.next hb)
      replace HT6 := Lib.hid (Sl.next HT6.out hb)
      replace HZ := Lib.hid (HZ.out.low hb)
      have HI7 := Lib.hid (ISc.mono (lo' := 0) (Nat.zero_le _) (Nat.le_refl _) (isc_of_own hio))
      have HB7 := Lib.hid (hbs.bsl.mono (lo' := 0) (Nat.zero_le _) (Nat.le_refl _))
      clear hM1 hM2 hio hig hbs
      replace HBD := Lib.hid (low_next HBD.out hb)
      refine hK _ _ ⟨⟨_, HBD.out⟩, rfl⟩ ?_
      clear hK K hb
      refine anyT_one (i := 6) (by kernel_rfl) rfl (fun K hK => ?_)
      go_simp
      with_reducible refine (iLinkDo_any es A5 C5 s v a6 c6 k eq back p7 c7 place B7 D7 bs _ HR5.out (by omega) HT6.out HI7.out hpl HB7.out hbl).mono ?_
      rintro e w48 ⟨am, cm, sm, vm, km, tm, hd, rfl, hb, hlx⟩
      have HDD := Lib.hid hd
      clear hd
      have hzl := HZ.out.lt
      have hhi := hb.size
      replace HR5 := Lib.hid (HR5.out.next hb)
      replace HT6 := Lib.hid (Sl.next HT6.out hb)
      replace HZ := Lib.hid (HZ.out.low hb)
      have HLX := Lib.hid hlx
      clear hlx HR5 HT6 HI7 HB7
      replace HBD := Lib.hid (low_next HBD.out hb)
      refine hK _ _ ⟨⟨_, HBD.out⟩, rfl⟩ ?_
      clear hK K hb
      refine anyT_look (i := 7) rfl (by kernel_rfl) ⟨⟨_, HBD.out⟩, rfl⟩ (fun K hK => ?_)
      go_simp
      refine hK _ ?_
      clear hK K
      refine anyT_look (i := 8) rfl (by kernel_rfl) ⟨⟨_, HBD.out⟩, rfl⟩ (fun K hK => ?_)
      go_simp
      refine hK _ ?_
      clear hK K
      refine anyT_look (i := 9) rfl (by kernel_rfl) ⟨⟨_, HBD.out⟩, rfl⟩ (fun K hK => ?_)
      go_simp
      refine hK _ ?_
      clear hK K
      have hzz0 := HZ.out.z0
      have hzz1 := HZ.out.z1
      have hzz2 := HZ.out.z2
      have hzf0 := HZ.out.f 0
      have hzf1 := HZ.out.f 1
      have hzf2 := HZ.out.f 2
      have HFIN : Hid (Below w34.heap.size w34 (((w48.setCell ⟨wd.heap.size, 0, none⟩ (.int .i64 sm)).setCell ⟨wd.heap.size, 1, none⟩ (.int .i64 vm)).setCell ⟨wd.heap.size, 2, none⟩ (.slice am (flen km) cm)) ∧ Tb wd.heap.size sm vm am cm km (((w48.setCell ⟨wd.heap.size, 0, none⟩ (.int .i64 sm)).setCell ⟨wd.heap.size, 1, none⟩ (.int .i64 vm)).setCell ⟨wd.heap.size, 2, none⟩ (.slice am (flen km) cm))) := zb_fin HZ.out HBD.out hbz HLX.out (Nat.le_refl _) (.inl hzl)
      refine anyT_one (i := 11) (by kernel_rfl) rfl (fun K hK => ?_)
      go_simp
      refine hK _ _ ⟨⟨_, HFIN.out.1⟩, rfl⟩ ?_
      clear hK K hzz0 hzz1 hzz2 hzf0 hzf1 hzf2
      refine anyT_one (i := 12) (by kernel_rfl) rfl (fun K hK => ?_)
      go_simp
      refine hK _ _ ⟨⟨_, HFIN.out.1⟩, rfl⟩ ?_
      clear hK K
      refine anyT_done (by kernel_rfl) ?_
      exact HQ1.out _ _ _ _ _ _ _ _ _ _ _ _ _ _ _ _ _ _ _ _ _ _ _ _ _ _ _ _ _ _ _ _ _ _ _ _ _ _ _ _ _ _ _ _ _ _ _ _ _ _ _ _ _ _ _ _ _ _ _ _ _ _ _ _ _ _ _ _ _ _ _ _ _ _ _ _ _ _ _ _ _ _ _ _ _ _ _ _ _ _ _ _ _ _ _ _ _ _ _ _ _ _ _ _ _ _ _ _ _ _ _ _ _ _ _ _ _ _ _ _ _ _ _ _ _ _ _ _ _ _ _ _ _ _ _ _ wd.heap.size sm vm km am cm tm _ HDD.out HFIN.out.1 HFIN.out.2
  clear hu0 hu1 hu2 hu3 hu4 hu5 hu6
  clear hqq e a' w' HQ1 HQ2
  intro y0 y1 y2 y3 y4 y5 y6 y7 y10 y11 y12 y14 y15 y17 y20 y21 y22 y23 y24 y25 y26 y27 y28 y29 y30 y31 y32 y33 y34 y35 y36 y37 y38 y39 y40 y41 y42 y43 y44 y45 y46 y47 y48 y49 y50 y51 y52 y53 y54 y55 y56 y57 y58 y59 y60 y61 y62 y63 y64 y65 y66 y67 y68 y69 y70 y71 y72 y73 y74 y75 y76 y77 y78 y79 y80 y81 y82 y83 y84 y85 y86 y87 y88 y89 y90 y91 y92 y93 y94 y95 y96 y97 y98 y99 y100 y101 y102 y103 y104 y105 y106 y107 y108 y109 y110 y111 y112 y113 y114 y115 y116 y117 y118 y119 y120 y121 y122 y123 y124 y125 y126 y127 y128 y129 y130 y131 y132 y133 y134 y135 y136 y137 y138 y139 y140 y141 bm sm vm km am cm tm wem hdm hbe htb
  rw [HDw.out] at hdm
  simp only [Prod.mk.injEq] at hdm
  obtain ⟨⟨rfl, rfl, rfl⟩, rfl⟩ := hdm
  have HTB := Lib.hid htb
  clear htb
  have Hlow' : Hid (Below w.heap.size w wem) := low_next Hlow.out hbe
  have Hq' : Hid (Tq (w.heap.size + 2) w.heap.size s v a c k wem) := Hq.out.next hbe
  have Hl' : Hid (Lq (w.heap.size + 2) (w.heap.size + 1) eq back pA pC place B D bs wem) := Hl.out.next hbe
  have HS' : Hid (Eqr (w.heap.size + 2) es A wem) := HS.out.next hbe
  have Hw' : Hid (Tq wew.heap.size bw sw vw aw cw kw wem) := Hw.out.next hbe
  have Hh' : Hid (Yh (w20.heap.size + 1) w21.heap.size w21.heap.size sw vw ag cg kw 1 wem) := Hh.out.next hbe
  clear Hlow Hq Hl HS Hw Hh
  have Hlow := Hlow'
  clear Hlow'
  have Hq := Hq'
  clear Hq'
  have Hl := Hl'
  clear Hl'
  have HS := HS'
  clear HS'
  have Hw := Hw'
  clear Hw'
  have Hh := Hh'
  clear Hh'
  have Hm : Hid (Tq wem.heap.size bm sw vw am cm kw wem) := ⟨HTB.out.c0, HTB.out.c1, HTB.out.c2, World.block_lt_of_cell? _ _ HTB.out.c0, HTB.out.sl, Nat.le_refl _⟩
  clear HTB hbe
  have qm0 := Hm.out.c0
  have qm1 := Hm.out.c1
  have qm2 := Hm.out.c2
  have qw0 := Hw.out.c0
  have qw1 := Hw.out.c1
  have qw2 := Hw.out.c2
  go_wp2_with fail
  with_reducible refine (eqTerm_any (k := kw) Hm.out.top Hw.out.top (by omega)).mono ?_
  rintro e w49 ⟨rfl, hb⟩
  clear qm0 qm1 qm2 qw0 qw1 qw2
  have Hlow' : Hid (Below w.heap.size w w49) := low_next Hlow.out hb
  have Hq' : Hid (Tq (w.heap.size + 2) w.heap.size s v a c k w49) := Hq.out.next hb
  have Hl' : Hid (Lq (w.heap.size + 2) (w.heap.size + 1) eq back pA pC place B D bs w49) := Hl.out.next hb
  have HS' : Hid (Eqr (w.heap.size + 2) es A w49) := HS.out.next hb
  have Hw' : Hid (Tq wew.heap.size bw sw vw aw cw kw w49) := Hw.out.next hb
  have Hh' : Hid (Yh (w20.heap.size + 1) w21.heap.size w21.heap.size sw vw ag cg kw 1 w49) := Hh.out.next hb
  have Hm' : Hid (Tq wem.heap.size bm sw vw am cm kw w49) := Hm.out.next hb
  clear Hlow Hq Hl HS Hw Hh Hm
  have Hlow := Hlow'
  clear Hlow'
  have Hq := Hq'
  clear Hq'
  have Hl := Hl'
  clear Hl'
  have HS := HS'
  clear HS'
  have Hw := Hw'
  clear Hw'
  have Hh := Hh'
  clear Hh'
  have Hm := Hm'
  clear Hm'
  clear hb
  have qh0 := Hh.out.c0
  have qh1 := Hh.out.c1
  have qh2 := Hh.out.c2
  go_wp2_with fail
  with_reducible refine (heldTerm_any sw vw ag cg kw (w20.heap.size + 1) w21.heap.size 1 _ Hh.out.hd (by omega) (by omega) (by omega) (by have := Hh.out.hb; have := Hh.out.lt; omega)).mono ?_
  rintro e w50 ⟨rfl, hb⟩
  clear qh0 qh1 qh2
  have Hlow' : Hid (Below w.heap.size w w50) := low_next Hlow.out hb
  have Hq' : Hid (Tq (w.heap.size + 2) w.heap.size s v a c k w50) := Hq.out.next hb
  have Hl' : Hid (Lq (w.heap.size + 2) (w.heap.size + 1) eq back pA pC place B D bs w50) := Hl.out.next hb
  have HS' : Hid (Eqr (w.heap.size + 2) es A w50) := HS.out.next hb
  have Hw' : Hid (Tq wew.heap.size bw sw vw aw cw kw w50) := Hw.out.next hb
  have Hh' : Hid (Yh (w20.heap.size + 1) w21.heap.size w21.heap.size sw vw ag cg kw 1 w50) := Hh.out.next hb
  have Hm' : Hid (Tq wem.heap.size bm sw vw am cm kw w50) := Hm.out.next hb
  clear Hlow Hq Hl HS Hw Hh Hm
  have Hlow := Hlow'
  clear Hlow'
  have Hq := Hq'
  clear Hq'
  have Hl := Hl'
  clear Hl'
  have HS := HS'
  clear HS'
  have Hw := Hw'
  clear Hw'
  have Hh := Hh'
  clear Hh'
  have Hm := Hm'
  clear Hm'
  clear hb
  go_wp2_with fail
  go_ret
  exact ⟨rfl, Hlow.out⟩
end Go.Proofs.Ytoafleckcjanaaa
