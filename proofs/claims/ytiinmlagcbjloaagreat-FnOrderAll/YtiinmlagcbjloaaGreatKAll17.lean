/- Several texts in one: WJ0, WK0, A1, WL0, A2, A3. -/
import Derived.Test.YtiinmlagcbjloaaGreatKAll16
import Derived.Test.YtiinmlagcbjloaaGreatKAll6
import Derived.Test.YtiinmlagcbjloaaGreatKAll5
import Derived.Test.YtiinmlagcbjloaaGreatKAll12
import Derived.Test.YtiinmlagcbjloaaGreatKAll2
import Derived.Deep.OwnRows

/-! WJ0: What the drawn functions of one term end with. -/
namespace Go.Proofs.YtiinmlagcbjloaaGreat
open Go.RowKit Go.Deep

/-- A term of at most that size is handed back, in new memory. -/
def TermPost (S : Nat) (w : World) (e : Ending) (w' : World) : Prop :=
  ∃ s v a c k, e = .returned (.agg #[.int .i64 s, .int .i64 v, .slice a (flen k) c]) ∧ 1 + fsz k ≤ S ∧ Below w.heap.size w w' ∧ Sl w' w.heap.size w'.heap.size a k

theorem adv_low {w w1 w2 : World} {n br p : Nat} (hb : Below n w w1) (h1 : n ≤ br) (h2 : n ≤ w1.heap.size) (ha : Adv w1 br p w2) : Below n w w2 :=
  (hb.setCell (p := ⟨br, 1, none⟩) (by simpa using h1) (.int .i64 p)).trans (Below.mono ha h2)

/-- The result's cells, laid at the call's head, in a later world. -/
theorem res_low {w w2 : World} {x y z : Value} {T : TypeId} (hb : Below (w.heap.size + 1) (w.alloc (.cells #[x, y, z] T)) w2) :
    w2.cell? ⟨w.heap.size, 0, none⟩ = some x ∧ w2.cell? ⟨w.heap.size, 1, none⟩ = some y ∧ w2.cell? ⟨w.heap.size, 2, none⟩ = some z ∧
      w2.frozen? ⟨w.heap.size, 0, none⟩ = false ∧ w2.frozen? ⟨w.heap.size, 1, none⟩ = false ∧ w2.frozen? ⟨w.heap.size, 2, none⟩ = false := by
  refine ⟨?_, ?_, ?_, ?_, ?_, ?_⟩
  iterate 3
    · rw [hb.cell (by simp)]; simp
  iterate 3
    · rw [hb.frozen (by simp)]; simp
theorem term_end {w w2 : World} {S : Nat} {s v : Int} {a : Option Addr} {c : Nat} {k : Fo} {o : Obj} {x y z : Value} (hb : Below (w.heap.size + 1) (w.alloc o) w2) (hS : 1 + fsz k ≤ S) (hl : Sl w2 (w.heap.size + 1) w2.heap.size a k) :
    TermPost S w (.returned (.agg #[.int .i64 s, .int .i64 v, .slice a (flen k) c])) (((w2.setCell ⟨w.heap.size, 0, none⟩ x).setCell ⟨w.heap.size, 1, none⟩ y).setCell ⟨w.heap.size, 2, none⟩ z) := by
  refine ⟨s, v, a, c, k, rfl, hS, (((after_top hb).setCell (by simp) _).setCell (by simp) _).setCell (by simp) _, ?_⟩
  exact (((hl.store (q := ⟨w.heap.size, 0, none⟩) (by simp) x).store (q := ⟨w.heap.size, 1, none⟩) (by simp) y).store (q := ⟨w.heap.size, 2, none⟩) (by simp) z).mono (by omega) (by simp)

theorem Bytes.alloc {w : World} {a : Option Addr} {len : Nat} (h : Bytes w a len) (o : Obj) : Bytes (w.alloc o) a len := by
  rcases h with h | ⟨b, o', e, hb, h⟩
  · exact .inl h
  · refine .inr ⟨b, o', e, by simp; omega, fun i hi => ?_⟩
    obtain ⟨x, hx, hc⟩ := h i hi
    exact ⟨x, hx, by rw [World.cell?_alloc_lt _ _ _ hb]; exact hc⟩
end Go.Proofs.YtiinmlagcbjloaaGreat

/-! WK0: l71Some. -/
namespace Go.Proofs.YtiinmlagcbjloaaGreat
open Go.RowKit Go.Deep

set_option maxRecDepth 100000 in
set_option maxHeartbeats 1000000 in
theorem l71Some_any (br p : Nat) (w : World) (hr : Rd w br p) (hp : p ≤ 10000000) :
    Calls Tryz.prog 13 #[.pointer (some ⟨br, 0, none⟩)] w (DrawnPost br p 100 31000 w) := by
  have hlt := hr.lt
  have hr' := hr.alloc (.cells #[.int .i64 0, .int .i64 0, .slice none 0 0] 26)
  have HA0 := Lib.hid (Adv.start hr' (Below.refl _ _))
  have HR0 := Lib.hid hr'
  clear hr hr'
  go_enter Tryz.func13, Tryz.ntmps13
  go_wp2_with fail
  with_reducible refine (pick_any 2 br p _ HR0.out (by omega) (by omega) (by omega)).mono ?_
  rintro e w1 ⟨x, rfl, hx, hb1⟩
  have ha1 := HA0.out.trans hb1
  have hx2 : x < 2 := by omega
  have HR1 := Lib.hid (Adv.rd hb1 HR0.out)
  have HA1 := Lib.hid ha1
  clear hb1 ha1 hx
  have hs1 := HA1.out.size
  simp at hs1
  have hpb : Hid (p + 1 + pkN 4 ≤ 100000000) := by
    have h93 : pkN 4 = 93 := by decide
    unfold Hid
    omega
  go_wp2_with fail
  with_reducible refine (l71Term_any 4 (3 + x) 3 br (p + 1) _ (by omega) (by omega) (by omega) (by omega) (by omega) HR1.out hpb.out).mono ?_
  rintro e w2 ⟨s, v, a2, c2, k, p2, rfl, hp1, hp2, hS2, ha2, hl2⟩
  have hp2' : p2 ≤ p + 1 + 93 := by simpa [pkN] using hp2
  have hS2' : 1 + fsz k ≤ 31 := by simpa [szN] using hS2
  have HR2 := Lib.hid (ha2.rd HR1.out)
  have HA2 := Lib.hid (HA1.out.trans ha2)
  have hs2 := ha2.size
  have HL2 := Lib.hid (hl2.mono (lo' := w.heap.size + 1) (by omega) (Nat.le_refl _))
  clear ha2 hl2 hp2 hS2
  go_wp2_with fail
  with_reducible refine (pick_any 14 br p2 _ (HR2.out.alloc _) (by omega) (by omega) (by omega)).mono ?_
  rintro e w3 ⟨y, rfl, hy, hb3⟩
  have ha3 : Adv (w2.alloc (.cells #[.int .i64 s, .int .i64 v, .slice a2 (flen k) c2] 26)) br (p2 + 1) w3 := hb3
  have hs3 := ha3.size
  simp at hs3
  have hlt2 : br < w2.heap.size := HR2.out.lt
  have HA3 := Lib.hid ((HA2.out.alloc (.cells #[.int .i64 s, .int .i64 v, .slice a2 (flen k) c2] 26)).trans ha3)
  have HR3 := Lib.hid (ha3.rd (HR2.out.alloc _))
  have HL3 := Lib.hid ((HL2.out.low ((Below.refl _ _).alloc (Nat.le_refl _) _)).adv ha3 (by omega))
  have hc0 := ha3.cell (q := ⟨w2.heap.size, 0, none⟩) (v := .int .i64 s) (by simp) (by simp; omega)
  have hc1 := ha3.cell (q := ⟨w2.heap.size, 1, none⟩) (v := .int .i64 v) (by simp) (by simp; omega)
  have hc2 := ha3.cell (q := ⟨w2.heap.size, 2, none⟩) (v := .slice a2 (flen k) c2) (by simp) (by simp; omega)
  clear ha3 hb3 hy
  by_cases hy0 : y = 0
  · subst hy0
    go_wp2_with fail
    with_reducible refine (l71Bad_any s v a2 c2 k br (p2 + 1) 31 _ (HL3.out.mono (Nat.zero_le _) (Nat.le_refl _)) HR3.out (by omega) (by omega) (by omega)).mono ?_
    rintro e w4 ⟨s4, v4, a4, c4, k4, p4, rfl, hp3, hp4, hS4, ha4, hl4⟩
    have ha5 := HA3.out.trans ha4
    obtain ⟨hr0, hr1, hr2, hf0, hf1, hf2⟩ := res_cells ha5 hlt
    have HA5 := Lib.hid ha5
    have HL4 := Lib.hid (hl4.mono (lo' := w.heap.size + 1) (by omega) (Nat.le_refl _))
    clear ha4 hl4 ha5 hc0 hc1 hc2
    go_wp2_with fail
    refine bodyPost_ret (v := .agg #[.int .i64 s4, .int .i64 v4, .slice a4 (flen k4) c4]) ?_ rfl (drawn_end HA5.out hlt (by omega) (by omega) (by omega) HL4.out)
    simp [results, Tryz.results13, go_sem, hr0, hr1, hr2]
  · have y0 : ((y : Int) == 0) = false := by simpa using hy0
    obtain ⟨hr0, hr1, hr2, hf0, hf1, hf2⟩ := res_cells HA3.out hlt
    go_wp2_with fail
    refine bodyPost_ret (v := .agg #[.int .i64 s, .int .i64 v, .slice a2 (flen k) c2]) ?_ rfl (drawn_end HA3.out hlt (by omega) (by omega) (by omega) HL3.out)
    simp [results, Tryz.results13, go_sem, hr0, hr1, hr2]
end Go.Proofs.YtiinmlagcbjloaaGreat

/-! A1: - nodeAt: the node that stands at a place. -/
namespace Go.Proofs.YtiinmlagcbjloaaGreat
open Go.RowKit Go.Deep

theorem isl_get {w : World} {lo B : Nat} {a : Option Addr} {xs : List Int} {i : Nat} (h : ISl w lo B a xs) (hi : i < xs.length) :
    ∃ b o, a = some ⟨b, o, none⟩ ∧ lo ≤ b ∧ b < B ∧ w.cell? ⟨b, o + i, none⟩ = some (.int .i64 xs[i]) := by
  rcases h with rfl | ⟨b, o, e, h1, h2, h3⟩
  · simp at hi
  · exact ⟨b, o, e, h1, h2, h3 i _ (List.getElem?_eq_getElem hi)⟩

/-- What stands at a place. -/
def fat : Int → Int → Fo → List Int → Option (Int × Int × Fo)
  | s, v, k, [] => some (s, v, k)
  | _, _, k, i :: ps => if 0 ≤ i ∧ i < (flen k : Int) then (match fdrop i.toNat k with
    | .node _ _ (s', v') kk _ => fat s' v' kk ps
    | .nil => none) else none

def NaPost (s v : Int) (k : Fo) (place : List Int) (w : World) (e : Ending) (w' : World) : Prop :=
  Below w.heap.size w w' ∧ ((∃ s' v' k' nv, fat s v k place = some (s', v', k') ∧ e = .returned (.tuple #[nv, .bool true]) ∧ NodeIs w 0 w.heap.size nv s' v' k') ∨ (fat s v k place = none ∧ e = .returned (.tuple #[.nilIface, .bool false])))

end Go.Proofs.YtiinmlagcbjloaaGreat

/-! WL0: size of a node. -/
namespace Go.Proofs.YtiinmlagcbjloaaGreat
open Go.RowKit Go.Deep

set_option maxHeartbeats 400000 in
theorem varSize_any (v : Int) (w : World) :
    Calls Tryz.prog 97 #[.int .i64 v] w fun e w' => e = .returned (.int .i64 1) ∧ w = w' := by
  go_enter Tryz.func97, Tryz.ntmps97
  go_wp2_with fail
  go_ret
  exact ⟨rfl, rfl⟩

set_option maxRecDepth 100000 in
set_option maxHeartbeats 1000000 in
theorem symSize_any (N : Nat) : ∀ (s : Int) (a : Option Addr) (c : Nat) (k : Fo) (w : World), NSl w 0 w.heap.size a k → fsz k ≤ N → N ≤ 1000000 →
    Calls Tryz.prog 113 #[.agg #[.int .i64 s, .slice a (flen k) c]] w fun e w' => e = .returned (.int .i64 (1 + fsz k)) ∧ Below w.heap.size w w' := by
  induction N using Nat.strongRecOn with
  | _ N ih =>
    intro s a c k w hl hN hN2
    have hfl := flen_le_sz k
    have IH := Lib.hid ih
    clear ih
    go_enter Tryz.func113, Tryz.ntmps113
    go_wp2_with fail
    go_loopw [3, 9] (fun t i wr => ∃ (j : Nat) (m : Int), j ≤ flen k ∧ i = .int .i64 j ∧ t = .int .i64 m ∧ 0 ≤ m ∧ m ≤ 2000000 ∧ Hid (m + (fsz (fdrop j k) : Int) = 1 + fsz k) ∧ Below (w.heap.size + 1) (w.alloc (.cells #[.int .i64 s, .slice a (flen k) c] 99)) wr) (fun _ i _ => flen k - (intOf i).toNat)
    case atStart => exact ⟨0, 1, by omega, rfl, rfl, by omega, by omega, by simp [Hid, fdrop], Below.refl _ _⟩
    case round =>
      obtain ⟨j, m, hj, rfl, rfl, hm0, hm1, hm2, hbl⟩ := hrel
      have hsr := hbl.size
      simp at hsr
      by_cases hlt : j < flen k
      · rcases hl with rfl | ⟨b, o, rfl, hrow⟩
        · simp [flen] at hlt
        obtain ⟨s', v', kk, val, ⟨x, y, hd⟩, _, hbB, hk0, hn⟩ := nrow_at (hrow.below (after_top hbl)) hlt
        have hkN := fsz_kid hd
        have hd2 := fsz_drop j k
        rw [hd] at hd2
        simp only [fsz] at hd2
        have hm3 := hm2.out
        rw [hd] at hm3
        simp only [fsz] at hm3
        have HM := Lib.hid hm3
        have HBL := Lib.hid hbl
        clear hd hrow hm3 hm2 hbl
        rcases hn with ⟨hs', rfl, rfl⟩ | ⟨hs', a2, c2, rfl, hn2⟩
        · have HM1 : Hid (m + 1 + (fsz (fdrop (j + 1) k) : Int) = 1 + fsz k) := by have := HM.out; simp only [Hid, fsz] at this ⊢; omega
          go_wp2_with fail
          refine upon_method 97 (by kernel_rfl) (by kernel_rfl) ?_
          go_simp
          with_reducible refine (varSize_any v' _).mono ?_
          rintro e w2 ⟨rfl, rfl⟩
          go_wp2_with fail
          refine ⟨⟨j + 1, m + 1, by omega, by go_num, rfl, by omega, by have := HM1.out; omega, HM1, HBL.out⟩, ?_⟩
          simp [intOf]; omega
        · have HM1 : Hid (m + (1 + fsz kk) + (fsz (fdrop (j + 1) k) : Int) = 1 + fsz k) := by have := HM.out; simp only [Hid] at this ⊢; omega
          have HN2 := Lib.hid hn2
          clear hn2
          go_wp2_with fail
          refine upon_method 113 (by kernel_rfl) (by kernel_rfl) ?_
          go_simp
          with_reducible refine (IH.out (fsz kk) (by omega) s' a2 c2 kk _ ?_ (Nat.le_refl _) (by omega)).mono ?_
          · exact HN2.out.mono (Nat.le_refl _) (by omega)
          rintro e w2 ⟨rfl, hb2⟩
          have HB2 := Lib.hid (HBL.out.trans (hb2.mono (by omega)))
          clear hb2
          go_wp2_with fail
          refine ⟨⟨j + 1, m + (1 + fsz kk), by omega, by go_num, rfl, by omega, by have := HM1.out; omega, HM1, HB2.out⟩, ?_⟩
          simp [intOf]; omega
      · have hm3 := hm2.out
        rw [fdrop_all (by omega)] at hm3
        simp only [fsz] at hm3
        have HM : Hid (m = 1 + fsz k) := by simp only [Hid]; omega
        clear hm3 hm2
        go_wp2_with fail
        go_ret
        exact ⟨by rw [← HM.out]; rfl, after_top hbl⟩

end Go.Proofs.YtiinmlagcbjloaaGreat

/-! A2: The term that a node stands for, made anew. -/
namespace Go.Proofs.YtiinmlagcbjloaaGreat
open Go.RowKit Go.Deep
attribute [local go_sem ↓] Go.wp_at_zero Go.wp_at_succ

def TmPost (s v : Int) (k : Fo) (w : World) (e : Ending) (w' : World) : Prop :=
  ∃ a c, e = .returned (.agg #[.int .i64 s, .int .i64 v, .slice a (flen k) c]) ∧ Below w.heap.size w w' ∧ Sl w' w.heap.size w'.heap.size a k

set_option maxRecDepth 100000 in
set_option maxHeartbeats 1000000 in
theorem varTerm_any (v : Int) (w : World) : Calls Tryz.prog 98 #[.int .i64 v] w (TmPost 0 v .nil w) := by
  go_enter Tryz.func98, Tryz.ntmps98
  go_wp2_with fail
  refine bodyPost_ret (v := .agg #[.int .i64 0, .int .i64 v, .slice none 0 0]) ?_ rfl ⟨none, 0, rfl, (Below.refl _ _).alloc (Nat.le_refl _) _, .inl rfl⟩
  simp [results, Tryz.results98, go_sem]

theorem make_termsA (n : Nat) (hn : n ≤ 1048576) (w : World) :
    (Instr.makeSlice 24 (.int .i64 (n : Int)) (.int .i64 (n : Int))).run Tryz.prog w = .ok (.slice (some ⟨w.heap.size, 0, none⟩) n n) (w.alloc (.cells (madeCells #[.int .i64 0, .int .i64 0, .slice none 0 0] (n * 3)) 26)) := by
  obtain ⟨i, hi, hz, hs, hb⟩ := Tryz.infoTerm
  have := run_make (P := Tryz.prog) w 24 26 i _ Tryz.underlying24 hi hz .i64 .i64 (n : Int) (n : Int) (by omega) (by omega) (by rw [hb]; omega) (by omega)
  rw [hs] at this
  simpa [Value.cells] using this
theorem made_atA (n i : Nat) (z : Array Value) (h : i < n) : (madeCells z n)[i]? = some (z[i % z.size]!) := by simp [madeCells, h]

/-- What holds at the head of term's loop: the first j kids are made. -/
structure TmAt (w : World) (s : Int) (k : Fo) (j : Nat) (wr : World) : Prop where
  below : Below w.heap.size w wr
  size : w.heap.size + 4 ≤ wr.heap.size
  t0 : wr.cell? ⟨w.heap.size + 1 + 1, 0, none⟩ = some (.int .i64 s)
  t1 : wr.cell? ⟨w.heap.size + 1 + 1, 1, none⟩ = some (.int .i64 0)
  t2 : wr.cell? ⟨w.heap.size + 1 + 1, 2, none⟩ = some (.slice (some ⟨w.heap.size + 1 + 1 + 1, 0, none⟩) (flen k) (flen k))
  r0 : wr.cell? ⟨w.heap.size + 1, 0, none⟩ = some (.int .i64 0)
  r1 : wr.cell? ⟨w.heap.size + 1, 1, none⟩ = some (.int .i64 0)
  r2 : wr.cell? ⟨w.heap.size + 1, 2, none⟩ = some (.slice none 0 0)
  q0 : wr.frozen? ⟨w.heap.size + 1, 0, none⟩ = false
  q1 : wr.frozen? ⟨w.heap.size + 1, 1, none⟩ = false
  q2 : wr.frozen? ⟨w.heap.size + 1, 2, none⟩ = false
  row : ∃ f : Nat → Value, wr.rowIs (w.heap.size + 1 + 1 + 1) 26 (flen k * 3) f ∧ ∀ i, i < j → ∃ x y s v kk a c, fdrop i k = .node x y (s, v) kk (fdrop (i + 1) k) ∧
    f (i * 3) = .int .i64 s ∧ f (i * 3 + 1) = .int .i64 v ∧ f (i * 3 + 2) = .slice a (flen kk) c ∧ Sl wr (w.heap.size + 4) wr.heap.size a kk

theorem TmAt.start (w : World) (s : Int) (k : Fo) (x : Value) (y : Value) : TmAt w s k 0 ((((w.alloc (.cells #[x, y] 99)).alloc (.cells #[.int .i64 0, .int .i64 0, .slice none 0 0] 26)).alloc (.cells #[.int .i64 s, .int .i64 0, .slice (some ⟨w.heap.size + 1 + 1 + 1, 0, none⟩) (flen k) (flen k)] 26)).alloc (.cells (madeCells #[.int .i64 0, .int .i64 0, .slice none 0 0] (flen k * 3)) 26)) := by
  refine ⟨((((Below.refl _ _).alloc (Nat.le_refl _) _).alloc (by simp) _).alloc (by simp; omega) _).alloc (by simp; omega) _, by simp, ?_, ?_, ?_, ?_, ?_, ?_, ?_, ?_, ?_, ?_⟩
  · rw [World.cell?_alloc_lt _ _ _ (by simp), World.cell?_alloc_at _ _ _ _ (by simp)]; rfl
  · rw [World.cell?_alloc_lt _ _ _ (by simp), World.cell?_alloc_at _ _ _ _ (by simp)]; rfl
  · rw [World.cell?_alloc_lt _ _ _ (by simp), World.cell?_alloc_at _ _ _ _ (by simp)]; rfl
  · rw [World.cell?_alloc_lt _ _ _ (by simp), World.cell?_alloc_lt _ _ _ (by simp), World.cell?_alloc_at _ _ _ _ (by simp)]; rfl
  · rw [World.cell?_alloc_lt _ _ _ (by simp), World.cell?_alloc_lt _ _ _ (by simp), World.cell?_alloc_at _ _ _ _ (by simp)]; rfl
  · rw [World.cell?_alloc_lt _ _ _ (by simp), World.cell?_alloc_lt _ _ _ (by simp), World.cell?_alloc_at _ _ _ _ (by simp)]; rfl
  · rw [World.frozen?_alloc_past _ _ _ (by simp), World.frozen?_alloc_past _ _ _ (by simp), World.frozen?_alloc_at _ _ _ _ (by simp)]
  · rw [World.frozen?_alloc_past _ _ _ (by simp), World.frozen?_alloc_past _ _ _ (by simp), World.frozen?_alloc_at _ _ _ _ (by simp)]
  · rw [World.frozen?_alloc_past _ _ _ (by simp), World.frozen?_alloc_past _ _ _ (by simp), World.frozen?_alloc_at _ _ _ _ (by simp)]
  · refine ⟨fun i => #[Value.int .i64 0, .int .i64 0, .slice none 0 0][i % 3]!, ?_, fun i hi => by omega⟩
    have := World.rowIs_alloc (((w.alloc (.cells #[x, y] 99)).alloc (.cells #[.int .i64 0, .int .i64 0, .slice none 0 0] 26)).alloc (.cells #[.int .i64 s, .int .i64 0, .slice (some ⟨w.heap.size + 1 + 1 + 1, 0, none⟩) (flen k) (flen k)] 26)) (madeCells #[.int .i64 0, .int .i64 0, .slice none 0 0] (flen k * 3)) 26 (fun i => #[Value.int .i64 0, .int .i64 0, .slice none 0 0][i % 3]!) (fun i hi => by
      rw [size_madeCells] at hi
      exact made_atA _ _ _ hi)
    rw [size_madeCells] at this
    simp only [World.size_alloc] at this
    exact this
theorem TmAt.step {w wr w2 : World} {s0 : Int} {k : Fo} {j x y : Nat} {s v : Int} {kk : Fo} {a : Option Addr} {c : Nat} (h : TmAt w s0 k j wr) (hd : fdrop j k = .node x y (s, v) kk (fdrop (j + 1) k)) (hb : Below wr.heap.size wr w2) (hl : Sl w2 wr.heap.size w2.heap.size a kk) :
    TmAt w s0 k (j + 1) (((w2.setCell ⟨w.heap.size + 1 + 1 + 1, j * 3, none⟩ (.int .i64 s)).setCell ⟨w.heap.size + 1 + 1 + 1, j * 3 + 1, none⟩ (.int .i64 v)).setCell ⟨w.heap.size + 1 + 1 + 1, j * 3 + 2, none⟩ (.slice a (flen kk) c)) := by
  have hs := h.size
  have hs2 := hb.size
  obtain ⟨f, hf, hall⟩ := h.row
  have hf2 := hf.of_block (hb.block _ (by omega))
  have hsame : ∀ {L H : Nat}, w.heap.size + 3 < L → Same L H w2 (((w2.setCell ⟨w.heap.size + 1 + 1 + 1, j * 3, none⟩ (.int .i64 s)).setCell ⟨w.heap.size + 1 + 1 + 1, j * 3 + 1, none⟩ (.int .i64 v)).setCell ⟨w.heap.size + 1 + 1 + 1, j * 3 + 2, none⟩ (.slice a (flen kk) c)) := fun hL =>
    ((Same.setCell (fun _ _ _ => rfl) (.inl (by simp; omega)) _).setCell (.inl (by simp; omega)) _).setCell (.inl (by simp; omega)) _
  have hcell : ∀ {q : Addr} {u : Value}, wr.cell? q = some u → q.block < w.heap.size + 3 → (((w2.setCell ⟨w.heap.size + 1 + 1 + 1, j * 3, none⟩ (.int .i64 s)).setCell ⟨w.heap.size + 1 + 1 + 1, j * 3 + 1, none⟩ (.int .i64 v)).setCell ⟨w.heap.size + 1 + 1 + 1, j * 3 + 2, none⟩ (.slice a (flen kk) c)).cell? q = some u := fun {q u} hq hlt => by
    rw [World.cell?_setCell_other _ _ _ _ (by intro h'; have := congrArg Addr.block h'; simp at this; omega), World.cell?_setCell_other _ _ _ _ (by intro h'; have := congrArg Addr.block h'; simp at this; omega), World.cell?_setCell_other _ _ _ _ (by intro h'; have := congrArg Addr.block h'; simp at this; omega), hb.cell (World.block_lt_of_cell? _ _ hq)]
    exact hq
  have hfro : ∀ {q : Addr}, wr.frozen? q = false → q.block < w.heap.size + 3 → (((w2.setCell ⟨w.heap.size + 1 + 1 + 1, j * 3, none⟩ (.int .i64 s)).setCell ⟨w.heap.size + 1 + 1 + 1, j * 3 + 1, none⟩ (.int .i64 v)).setCell ⟨w.heap.size + 1 + 1 + 1, j * 3 + 2, none⟩ (.slice a (flen kk) c)).frozen? q = false := fun {q} hq hlt => by
    rw [World.frozen?_setCell, World.frozen?_setCell, World.frozen?_setCell, hb.frozen (by omega)]
    exact hq
  refine ⟨(((h.below.trans (hb.mono (by omega))).setCell (by simp; omega) _).setCell (by simp; omega) _).setCell (by simp; omega) _, by simp; omega, hcell h.t0 (by simp), hcell h.t1 (by simp), hcell h.t2 (by simp), hcell h.r0 (by simp), hcell h.r1 (by simp), hcell h.r2 (by simp), hfro h.q0 (by simp), hfro h.q1 (by simp), hfro h.q2 (by simp), ⟨_, ((hf2.set _ _).set _ _).set _ _, fun i hi => ?_⟩⟩
  by_cases hij : i = j
  · subst hij
    exact ⟨x, y, s, v, kk, a, c, hd, by simp, by simp, by simp, (hl.same (hsame (by omega))).mono (by omega) (by simp)⟩
  · obtain ⟨x', y', s', v', k', a', c', e, h0, h1, h2, hsl⟩ := hall i (by omega)
    refine ⟨x', y', s', v', k', a', c', e, ?_, ?_, ?_, ((hsl.same (fun b h1 h2 => hb.block b h2)).same (hsame (by omega))).mono (Nat.le_refl _) (by simp; omega)⟩
    · rw [if_neg (by omega), if_neg (by omega), if_neg (by omega)]; exact h0
    · rw [if_neg (by omega), if_neg (by omega), if_neg (by omega)]; exact h1
    · rw [if_neg (by omega), if_neg (by omega), if_neg (by omega)]; exact h2
theorem TmAt.sl {w wr : World} {s : Int} {k : Fo} {j : Nat} (h : TmAt w s k j wr) (hj : flen k ≤ j) : Sl wr (w.heap.size + 3) wr.heap.size (some ⟨w.heap.size + 1 + 1 + 1, 0, none⟩) k := by
  have hs := h.size
  obtain ⟨f, hf, hall⟩ := h.row
  refine .inr ⟨_, 0, rfl, row_of_all k _ 0 (by omega) (by omega) fun i hi => ?_⟩
  obtain ⟨x, y, s, v, kk, a, c, e, h0, h1, h2, hs⟩ := hall i (by omega)
  refine ⟨x, y, s, v, kk, a, c, e, ?_, ?_, ?_, hs.mono (by omega) (Nat.le_refl _)⟩
  · rw [Nat.zero_add, ← h0]; exact hf.cell (by omega)
  · rw [Nat.zero_add, ← h1]; exact hf.cell (by omega)
  · rw [Nat.zero_add, ← h2]; exact hf.cell (by omega)
theorem tm_end {w w1 : World} {s v : Int} {k : Fo} {a : Option Addr} {c : Nat} (hb : Below w.heap.size w w1) (hl : Sl w1 (w.heap.size + 3) w1.heap.size a k) (x y z : Value) :
    TmPost s v k w (.returned (.agg #[.int .i64 s, .int .i64 v, .slice a (flen k) c])) (((w1.setCell ⟨w.heap.size + 1, 0, none⟩ x).setCell ⟨w.heap.size + 1, 1, none⟩ y).setCell ⟨w.heap.size + 1, 2, none⟩ z) := by
  refine ⟨a, c, rfl, ((hb.setCell (by simp) _).setCell (by simp) _).setCell (by simp) _, ?_⟩
  have hs : Same (w.heap.size + 3) w1.heap.size w1 (((w1.setCell ⟨w.heap.size + 1, 0, none⟩ x).setCell ⟨w.heap.size + 1, 1, none⟩ y).setCell ⟨w.heap.size + 1, 2, none⟩ z) :=
    (((Same.setCell (fun _ _ _ => rfl) (.inl (by simp)) _).setCell (.inl (by simp)) _).setCell (.inl (by simp)) _)
  exact (hl.same hs).mono (by omega) (by simp)

set_option maxRecDepth 100000 in
set_option maxHeartbeats 1000000 in
theorem symTerm_any (N : Nat) : ∀ (s : Int) (a : Option Addr) (c : Nat) (k : Fo) (w : World), NSl w 0 w.heap.size a k → fok k = true → fsz k ≤ N → N ≤ 1000000 →
    Calls Tryz.prog 114 #[.agg #[.int .i64 s, .slice a (flen k) c]] w (TmPost s 0 k w) := by
  induction N using Nat.strongRecOn with
  | _ N ih =>
    intro s a c k w hl hok hN hN2
    have hfl := flen_le_sz k
    have IH := Lib.hid ih
    have HOK := Lib.hid hok
    clear ih hok
    by_cases h0 : flen k = 0
    · have hk : k = .nil := by
        cases k with
        | nil => rfl
        | node _ _ _ _ _ => simp [flen] at h0
      subst hk
      clear hl h0
      simp only [flen]
      go_enter Tryz.func114, Tryz.ntmps114
      go_wp2_with fail
      go_loopw [21] (fun i wr => i = .int .i64 0 ∧ wr = (((w.alloc (.cells #[.int .i64 s, .slice a 0 c] 99)).alloc (.cells #[.int .i64 0, .int .i64 0, .slice none 0 0] 26)).alloc (.cells #[.int .i64 s, .int .i64 0, .slice none 0 0] 26))) (fun _ _ => 0)
      case atStart => exact ⟨rfl, rfl⟩
      case round =>
        obtain ⟨rfl, rfl⟩ := hrel
        go_wp2_with fail
        refine bodyPost_ret (v := .agg #[.int .i64 s, .int .i64 0, .slice none 0 0]) ?_ rfl ⟨none, 0, rfl, (((Below.refl _ _).alloc (Nat.le_refl _) _).alloc (by simp) _).alloc (by simp; omega) _, .inl rfl⟩
        simp [results, Tryz.results114, go_sem]
    · have hmk := make_termsA (flen k) (by omega)
      have HST := Lib.hid (TmAt.start w s k (.int .i64 s) (.slice a (flen k) c))
      have hpos : 0 < flen k := by omega
      go_enter Tryz.func114, Tryz.ntmps114
      go_wp2_with fail
      clear hmk
      go_loopw [21] (fun i wr => ∃ j : Nat, j ≤ flen k ∧ i = .int .i64 j ∧ TmAt w s k j wr) (fun i _ => flen k - (intOf i).toNat)
      case atStart => exact ⟨0, by omega, rfl, HST.out⟩
      case round =>
        clear HST
        obtain ⟨j, hj, rfl, hat⟩ := hrel
        have hsr := hat.size
        by_cases hlt : j < flen k
        · rcases hl with rfl | ⟨b, o, rfl, hrow⟩
          · simp [flen] at hlt
          obtain ⟨s', v', kk, val, ⟨x, y, hd⟩, _, hbB, hk0, hn⟩ := nrow_at (hrow.below hat.below) hlt
          have hkN := fsz_kid hd
          have hkok := fok_kid HOK.out hd
          have ht2 := hat.t2
          have hu0 : ∀ u : After wr.heap.size wr, u.world.cell? ⟨w.heap.size + 1 + 1, 2, none⟩ = some (.slice (some ⟨w.heap.size + 1 + 1 + 1, 0, none⟩) (flen k) (flen k)) := fun u => u.cell (by simp; omega) ht2
          have g1 : (0 : Int) ≤ (j : Int) := by omega
          have g2 : (j : Int) < (flen k : Int) := by omega
          have HAT := Lib.hid hat
          have HD := Lib.hid hd
          clear hd hrow hat
          rcases hn with ⟨rfl, rfl, rfl⟩ | ⟨hs', a2, c2, rfl, hn2⟩
          · clear hkok
            go_wp2_with fail
            refine wp_region_mix (fun w' => ∃ u : After wr.heap.size wr, w' = u.world) [6] [(0, 0), (1, 0), (2, 0), (3, 0), (4, 1), (5, 1), (6, 2)] (by kernel_rfl) (by kernel_rfl) ⟨⟨_, (Below.refl _ _).drew⟩, rfl⟩ ?_
            iterate 4
              refine mix_see rfl (fun K hK => ?_)
              go_simp
              refine hK _ ?_
              clear hK K
            clear hu0
            refine mix_hold rfl (fun K hK => ?_)
            go_simp
            refine upon_method 98 (by kernel_rfl) (by kernel_rfl) ?_
            go_simp
            with_reducible refine (varTerm_any v' _).mono ?_
            rintro e w2 ⟨a2', c2', rfl, hb2', hl2⟩
            have hb2 : Below wr.heap.size wr w2 := bl_undrew hb2'
            obtain ⟨f, hf, _⟩ := HAT.out.row
            have hf2 := hf.of_block (hb2.block _ (by omega))
            have hg0 := hf2.cell (i := j * 3) (by omega)
            have hg1 := hf2.cell (i := j * 3 + 1) (by omega)
            have hg2 := hf2.cell (i := j * 3 + 2) (by omega)
            have hz0 := hf2.frozen (j * 3)
            have hz1 := hf2.frozen (j * 3 + 1)
            have hz2 := hf2.frozen (j * 3 + 2)
            have HSTEP := Lib.hid (HAT.out.step (c := c2') HD.out hb2 hl2)
            refine hK _ _ ⟨⟨_, hb2⟩, rfl⟩ ?_
            clear hK K hf hf2 hb2' hl2
            refine mix_hold rfl (fun K hK => ?_)
            go_simp
            refine hK _ _ ⟨⟨_, hb2⟩, rfl⟩ ?_
            clear hK K hb2
            refine mix_late rfl (fun K hK => ?_)
            go_simp
            refine hK _ _ ?_
            clear hK K
            refine mix_end ?_
            clear hg0 hg1 hg2 hz0 hz1 hz2 ht2 hk0
            go_wp2_with fail
            go_roundw
            case rel => exact ⟨j + 1, by omega, by go_num, HSTEP.out⟩
            case measure => simp [intOf]; omega
          · have hv0 : v' = 0 := ((okN_iff _ _ _).1 hkok.1).2.2 hs'
            subst hv0
            have HKK := Lib.hid hkok.2
            have HN2 := Lib.hid hn2
            clear hn2 hkok
            go_wp2_with fail
            refine wp_region_mix (fun w' => ∃ u : After wr.heap.size wr, w' = u.world) [6] [(0, 0), (1, 0), (2, 0), (3, 0), (4, 1), (5, 1), (6, 2)] (by kernel_rfl) (by kernel_rfl) ⟨⟨_, (Below.refl _ _).drew⟩, rfl⟩ ?_
            iterate 4
              refine mix_see rfl (fun K hK => ?_)
              go_simp
              refine hK _ ?_
              clear hK K
            clear hu0
            refine mix_hold rfl (fun K hK => ?_)
            go_simp
            refine upon_method 114 (by kernel_rfl) (by kernel_rfl) ?_
            go_simp
            with_reducible refine (IH.out (fsz kk) (by omega) s' a2 c2 kk _ ?_ HKK.out (Nat.le_refl _) (by omega)).mono ?_
            · exact (HN2.out.below (Below.refl _ _).drew).mono (Nat.le_refl _) (by simp; omega)
            rintro e w2 ⟨a2', c2', rfl, hb2', hl2⟩
            have hb2 : Below wr.heap.size wr w2 := bl_undrew hb2'
            obtain ⟨f, hf, _⟩ := HAT.out.row
            have hf2 := hf.of_block (hb2.block _ (by omega))
            have hg0 := hf2.cell (i := j * 3) (by omega)
            have hg1 := hf2.cell (i := j * 3 + 1) (by omega)
            have hg2 := hf2.cell (i := j * 3 + 2) (by omega)
            have hz0 := hf2.frozen (j * 3)
            have hz1 := hf2.frozen (j * 3 + 1)
            have hz2 := hf2.frozen (j * 3 + 2)
            have HSTEP := Lib.hid (HAT.out.step (c := c2') HD.out hb2 hl2)
            refine hK _ _ ⟨⟨_, hb2⟩, rfl⟩ ?_
            clear hK K hf hf2 hb2' hl2
            refine mix_hold rfl (fun K hK => ?_)
            go_simp
            refine hK _ _ ⟨⟨_, hb2⟩, rfl⟩ ?_
            clear hK K hb2
            refine mix_late rfl (fun K hK => ?_)
            go_simp
            refine hK _ _ ?_
            clear hK K
            refine mix_end ?_
            clear hg0 hg1 hg2 hz0 hz1 hz2 ht2 hk0
            go_wp2_with fail
            go_roundw
            case rel => exact ⟨j + 1, by omega, by go_num, HSTEP.out⟩
            case measure => simp [intOf]; omega
        · have hjk : j = flen k := by omega
          subst hjk
          have HDN := Lib.hid (fun x y z => tm_end (s := s) (v := 0) (c := flen k) hat.below (hat.sl (Nat.le_refl _)) x y z)
          have ht0 := hat.t0
          have ht1 := hat.t1
          have ht2 := hat.t2
          have hr0 := hat.r0
          have hr1 := hat.r1
          have hr2 := hat.r2
          have hq0 := hat.q0
          have hq1 := hat.q1
          have hq2 := hat.q2
          clear hat
          go_wp2_with fail
          refine bodyPost_ret (v := .agg #[.int .i64 s, .int .i64 0, .slice (some ⟨w.heap.size + 1 + 1 + 1, 0, none⟩) (flen k) (flen k)]) ?_ rfl (HDN.out _ _ _)
          simp [results, Tryz.results114, go_sem, hr0, hr1, hr2]
end Go.Proofs.YtiinmlagcbjloaaGreat

/-! A3: - impl.TermAt: what stands at a place of a term, made anew. -/
namespace Go.Proofs.YtiinmlagcbjloaaGreat
open Go.RowKit Go.Deep

/-- TermAt's answer. -/
def atR (s v : Int) (k : Fo) (place : List Int) : Int × Int × Fo × Bool :=
  if okW s v k 16 = true then (match fat s v k place with
    | some (s', v', k') => (s', v', k', true)
    | none => (0, 0, .nil, false)) else (0, 0, .nil, false)

def AtPost (s v : Int) (k : Fo) (place : List Int) (w : World) (e : Ending) (w' : World) : Prop :=
  ∃ a c s' v' k' t, atR s v k place = (s', v', k', t) ∧ e = .returned (.tuple #[.agg #[.int .i64 s', .int .i64 v', .slice a (flen k') c], .bool t]) ∧ Below w.heap.size w w' ∧ Sl w' w.heap.size w'.heap.size a k'

theorem fat_ok : ∀ (place : List Int) (s v : Int) (k : Fo) {s' v' : Int} {k' : Fo}, okN s v (flen k) = true → fok k = true → fat s v k place = some (s', v', k') → okN s' v' (flen k') = true ∧ fok k' = true ∧ fsz k' ≤ fsz k
  | [], s, v, k, s', v', k', h1, h2, h => by
    simp only [fat, Option.some.injEq, Prod.mk.injEq] at h
    obtain ⟨rfl, rfl, rfl⟩ := h
    exact ⟨h1, h2, Nat.le_refl _⟩
  | i :: ps, s, v, k, s', v', k', h1, h2, h => by
    simp only [fat] at h
    split at h
    · split at h
      · rename_i x y s2 v2 kk r hd
        have hk := fok_kid h2 hd
        have hs := fsz_kid hd
        have := fat_ok ps s2 v2 kk hk.1 hk.2 h
        exact ⟨this.1, this.2.1, by omega⟩
      · cases h
    · cases h

theorem at_end {w w1 : World} {s v s' v' : Int} {k k' : Fo} {t : Bool} {place : List Int} {a : Option Addr} {c : Nat} (hr : atR s v k place = (s', v', k', t)) (hb : Below w.heap.size w w1) (hl : Sl w1 (w.heap.size + 2) w1.heap.size a k') (x y z : Value) :
    AtPost s v k place w (.returned (.tuple #[.agg #[.int .i64 s', .int .i64 v', .slice a (flen k') c], .bool t])) (((w1.setCell ⟨w.heap.size + 1, 0, none⟩ x).setCell ⟨w.heap.size + 1, 1, none⟩ y).setCell ⟨w.heap.size + 1, 2, none⟩ z) := by
  refine ⟨a, c, s', v', k', t, hr, rfl, ((hb.setCell (by simp) _).setCell (by simp) _).setCell (by simp) _, ?_⟩
  have hs : Same (w.heap.size + 2) w1.heap.size w1 (((w1.setCell ⟨w.heap.size + 1, 0, none⟩ x).setCell ⟨w.heap.size + 1, 1, none⟩ y).setCell ⟨w.heap.size + 1, 2, none⟩ z) :=
    (((Same.setCell (fun _ _ _ => rfl) (.inl (by simp)) _).setCell (.inl (by simp)) _).setCell (.inl (by simp)) _)
  exact (hl.same hs).mono (by omega) (by simp)

/-- The cells that hold TermAt's answer. -/
theorem at_cells {w w1 : World} {o : Obj} (hb : Below (w.heap.size + 2) ((w.alloc o).alloc (.cells #[.int .i64 0, .int .i64 0, .slice none 0 0] 26)) w1) :
    w1.cell? ⟨w.heap.size + 1, 0, none⟩ = some (.int .i64 0) ∧ w1.cell? ⟨w.heap.size + 1, 1, none⟩ = some (.int .i64 0) ∧ w1.cell? ⟨w.heap.size + 1, 2, none⟩ = some (.slice none 0 0) ∧
      w1.frozen? ⟨w.heap.size + 1, 0, none⟩ = false ∧ w1.frozen? ⟨w.heap.size + 1, 1, none⟩ = false ∧ w1.frozen? ⟨w.heap.size + 1, 2, none⟩ = false := by
  refine ⟨?_, ?_, ?_, ?_, ?_, ?_⟩
  · rw [hb.cell (by simp), World.cell?_alloc_at _ _ _ _ (by simp)]; rfl
  · rw [hb.cell (by simp), World.cell?_alloc_at _ _ _ _ (by simp)]; rfl
  · rw [hb.cell (by simp), World.cell?_alloc_at _ _ _ _ (by simp)]; rfl
  · rw [hb.frozen (by simp), World.frozen?_alloc_at _ _ _ _ (by simp)]
  · rw [hb.frozen (by simp), World.frozen?_alloc_at _ _ _ _ (by simp)]
  · rw [hb.frozen (by simp), World.frozen?_alloc_at _ _ _ _ (by simp)]

end Go.Proofs.YtiinmlagcbjloaaGreat
