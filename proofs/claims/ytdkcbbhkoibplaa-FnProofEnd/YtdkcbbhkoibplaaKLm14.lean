/- Several texts in one: FW, PE0, LL, LP1, TP. -/
import Derived.Test.YtdkcbbhkoibplaaKLm11
import Derived.Test.YtdkcbbhkoibplaaKLm12
import Derived.Test.YtdkcbbhkoibplaaKLm10
import Derived.Test.YtdkcbbhkoibplaaKLm13
import Derived.RangeFuncOwn
import Derived.Test.YtdkcbbhkoibplaaKLm4
import Derived.Test.YtdkcbbhkoibplaaKLm8
import Derived.Test.YtdkcbbhkoibplaaKLm6
import Derived.Test.YtdkcbbhkoibplaaKLm2

/-! FW: follow: a link done within a term in memory of its own. -/
namespace Go.Proofs.Ytdkcbbhkoibplaa
open Go.RowKit Go.Deep Go.Maps

theorem KeepsOthers.of_low {w w' : World} (h : Below w.heap.size w w') : KeepsOthers w w' := ⟨h.size, fun k _ hk _ => (h.block k (Array.getElem?_eq_some_iff.1 hk).1).trans hk⟩
/-- One node alone, in a box of its own. -/
abbrev one3 (s v : Int) (k : Fo) : Fo := .node 0 0 (s, v) k .nil
/-- What follow leaves: r is what comes of it. -/
def FwPost (r : Option Tm3) (wD : World) (e : Nat) (P0 : Nat → Prop) (w : World) (en : Ending) (w' : World) : Prop :=
  ∃ t, en = .returned (.bool t) ∧ Below wD.heap.size wD w' ∧ KeepsOthers w w' ∧ (∀ b, b < w.heap.size → b ≠ e → ¬ P0 b → w'.heap[b]? = w.heap[b]?) ∧ (t = false → r = none) ∧
    (t = true → ∃ s v k P, r = some (s, v, k) ∧ OwR w' (one3 s v k) e 0 P ∧ ¬ P e ∧ (∀ x, P x → P0 x ∨ (w.heap.size ≤ x ∧ x < w'.heap.size)) ∧ e < w'.heap.size)
theorem OwR.low {w w' : World} {k : Fo} {b o : Nat} {P : Nat → Prop} (h : OwR w k b o P) (hP : ∀ x, P x → x < w.heap.size) (hb : b < w.heap.size) (hl : Below w.heap.size w w') : OwR w' k b o P :=
  h.keep fun q hq => by
    have hlt : q.block < w.heap.size := by
      rcases hq with hq | ⟨hq, _⟩
      · exact hP _ hq
      · omega
    exact ⟨hl.cell hlt, hl.frozen hlt⟩
theorem OwR.sl_kids {w : World} {x y : Nat} {s v : Int} {k r : Fo} {b o : Nat} {P : Nat → Prop} (h : OwR w (.node x y (s, v) k r) b o P) (hP : ∀ x, P x → x < w.heap.size) : ∃ a c, w.cell? ⟨b, o, none⟩ = some (.int .i64 s) ∧ w.cell? ⟨b, o + 1, none⟩ = some (.int .i64 v) ∧ w.cell? ⟨b, o + 2, none⟩ = some (.slice a (flen k) c) ∧ Sl w 0 w.heap.size a k ∧ w.frozen? ⟨b, o, none⟩ = false ∧ w.frozen? ⟨b, o + 1, none⟩ = false ∧ w.frozen? ⟨b, o + 2, none⟩ = false := by
  obtain ⟨⟨c0, c1⟩, ⟨f0, f1, f2⟩, a, c, P1, P2, g1, _, _, c2, hk, _⟩ := h
  refine ⟨a, c, c0, c1, c2, ?_, f0, f1, f2⟩
  rcases hk with hk | ⟨b', P3, e, h1, _, h3, h4⟩
  · exact .inl hk
  · exact .inr ⟨b', 0, e, h4.row (fun x hx => ⟨Nat.zero_le _, hP x (g1 x (h3 x hx))⟩) (Nat.zero_le _) (hP _ (g1 _ h1))⟩
/-- What the cells of the part at the way's end hold, wherever memory is added. -/
def PartIs (w : World) (b o : Nat) (s v : Int) (k : Fo) : Prop := ∃ a c, w.cell? ⟨b, o, none⟩ = some (.int .i64 s) ∧ w.cell? ⟨b, o + 1, none⟩ = some (.int .i64 v) ∧ w.cell? ⟨b, o + 2, none⟩ = some (.slice a (flen k) c) ∧ Sl w 0 w.heap.size a k ∧ w.frozen? ⟨b, o, none⟩ = false ∧ w.frozen? ⟨b, o + 1, none⟩ = false ∧ w.frozen? ⟨b, o + 2, none⟩ = false
theorem PartIs.low {w w' : World} {b o : Nat} {s v : Int} {k : Fo} (h : PartIs w b o s v k) (hl : Below w.heap.size w w') : PartIs w' b o s v k := by
  obtain ⟨a, c, c0, c1, c2, hs, f0, f1, f2⟩ := h
  have hlt : b < w.heap.size := World.block_lt_of_cell? _ _ c0
  exact ⟨a, c, cell_low hl c0, cell_low hl c1, cell_low hl c2, Sl.next hs hl, (hl.frozen hlt).trans f0, (hl.frozen hlt).trans f1, (hl.frozen hlt).trans f2⟩
theorem way_low {w w' : World} (hl : Below w.heap.size w w') : ∀ {ps : List Int} {b o b' o' : Nat}, Way w ps b o b' o' → Way w' ps b o b' o'
  | [], _, _, _, _, h => h
  | _ :: _, _, _, _, _, ⟨b1, n, c, h1, h2, h3⟩ => ⟨b1, n, c, cell_low hl h1, h2, way_low hl h3⟩

set_option maxRecDepth 100000 in
set_option maxHeartbeats 8000000 in
theorem follow_any (es : List Eqd) (A : Option Addr) (C : Nat) (wD w : World) (s v : Int) (k : Fo) (e : Nat) (P : Nat → Prop) (eq : Int) (back : Bool) (pA : Option Addr) (pC : Nat) (place : List Int) (B : Option Addr) (D : Nat) (bs : List Bd)
    (hq : QSl wD A es) (hB : Below wD.heap.size wD w) (hok : okEs es = true) (hek : okT3 64 (s, v, k) = true) (ho : OwR w (one3 s v k) e 0 P) (hPe : ¬ P e) (he1 : wD.heap.size ≤ e) (he2 : e < w.heap.size) (hP : ∀ x, P x → wD.heap.size ≤ x ∧ x < w.heap.size)
    (hp : ISl wD 0 wD.heap.size pA place) (hpl : place.length ≤ 1048576) (hb : BSl wD 0 wD.heap.size B bs) (hbl : bs.length ≤ 1000000) :
    Calls Try.prog 78 #[.slice A es.length C, .pointer (some ⟨e, 0, none⟩), .agg #[.int .i64 eq, .bool back, .slice pA place.length pC, .slice B bs.length D]] w (FwPost (lk1 es (s, v, k) (eq, back, place, bs)) wD e P w) := by
  have hbx : Below w.heap.size w (w.alloc (.cells #[.int .i64 eq, .bool back, .slice pA place.length pC, .slice B bs.length D] 43)) := box_low _ _
  have HBX := Lib.hid hbx
  have HBW := Lib.hid hB
  have HQ := Lib.hid (hq.next hB)
  have HPP := Lib.hid (ISl.next hp hB)
  have HBS := Lib.hid (BSl.next (BSl.next hb hB) hbx)
  have HO := Lib.hid ho
  have HPB := Lib.hid hP
  have HPE := Lib.hid hPe
  have HOK := Lib.hid hok
  have HEK := Lib.hid hek
  have hel := ((okEs_iff es).1 hok).1
  have hwD := hB.size
  have HFIN : Hid (∀ w', Below w.heap.size w w' → lk1 es (s, v, k) (eq, back, place, bs) = none → FwPost (lk1 es (s, v, k) (eq, back, place, bs)) wD e P w (.returned (.bool false)) w') := fun w' h1 h2 =>
    ⟨false, rfl, HBW.out.trans (h1.mono hwD), KeepsOthers.of_low h1, fun b hb _ _ => h1.block b hb, fun _ => h2, fun h => by cases h⟩
  have cx : ∀ i, (w.alloc (.cells #[.int .i64 eq, .bool back, .slice pA place.length pC, .slice B bs.length D] 43)).cell? ⟨w.heap.size, i, none⟩ = #[Value.int .i64 eq, .bool back, .slice pA place.length pC, .slice B bs.length D][i]? := fun i => by rw [World.cell?_alloc_at _ _ _ _ (by simp)]
  have HX0 : Hid ((w.alloc (.cells #[.int .i64 eq, .bool back, .slice pA place.length pC, .slice B bs.length D] 43)).cell? ⟨w.heap.size, 0, none⟩ = some (.int .i64 eq)) := cx 0
  have HX1 : Hid ((w.alloc (.cells #[.int .i64 eq, .bool back, .slice pA place.length pC, .slice B bs.length D] 43)).cell? ⟨w.heap.size, 1, none⟩ = some (.bool back)) := cx 1
  have HX2 : Hid ((w.alloc (.cells #[.int .i64 eq, .bool back, .slice pA place.length pC, .slice B bs.length D] 43)).cell? ⟨w.heap.size, 2, none⟩ = some (.slice pA place.length pC)) := cx 2
  clear hbx hq hB hp hb ho hP hPe hok hek cx
  go_enter Try.func78, Try.ntmps78
  go_wp2_with fail
  with_reducible refine (substOf_any bs B D 64 _ HBS.out (by omega) (by omega) (by omega)).mono ?_
  rintro en w1 ⟨hb1, hcase⟩
  have HB1 := Lib.hid (HBX.out.trans (hb1.mono HBX.out.size))
  have HL0 := Lib.hid (cell_low hb1 HX0.out)
  have HL1 := Lib.hid (cell_low hb1 HX1.out)
  have HL2 := Lib.hid (cell_low hb1 HX2.out)
  have hs1 := HB1.out.size
  clear hb1 HX0 HX1 HX2 HBS HBX
  rcases hcase with ⟨hso, mb, rfl, hmb, hmap⟩ | ⟨hso, rfl⟩
  rotate_left
  · have HF := Lib.hid (HFIN.out w1 HB1.out (lk1_sok hso))
    clear hso
    go_wp2_with fail
    go_ret
    exact HF.out
  have HSO := Lib.hid hso
  have HM := Lib.hid hmap
  clear hso hmap
  have l0 := HL0.out
  by_cases hin : 0 ≤ eq ∧ eq < (es.length : Int)
  rotate_left
  · have HF := Lib.hid (HFIN.out w1 HB1.out (lk1_in hin))
    by_cases hn : eq < 0
    · have d1 : decide (eq < 0) = true := by simpa using hn
      go_wp2_with fail
      go_ret
      exact HF.out
    · have d1 : decide (eq < 0) = false := by simpa using hn
      have d2 : decide (eq ≥ (es.length : Int)) = true := by simp; omega
      go_wp2_with fail
      go_ret
      exact HF.out
  obtain ⟨i, rfl⟩ : ∃ i : Nat, eq = i := ⟨eq.toNat, by omega⟩
  have d1 : decide ((i : Int) < 0) = false := by simp
  have d2 : decide ((i : Int) ≥ (es.length : Int)) = false := by simp; omega
  have l2 := HL2.out
  have HO1 := Lib.hid (HO.out.low (fun x hx => (HPB.out x hx).2) he2 HB1.out)
  have HP1 := Lib.hid (HPP.out.next HB1.out)
  go_wp2_with fail
  with_reducible refine (partOf_any s v k 0 0 .nil e 0 P pA pC place w1 HO1.out HP1.out hpl).mono ?_
  rintro en w2 ⟨rfl, hcase⟩
  rcases hcase with ⟨hfat, rfl⟩ | ⟨b', o', s', v', k', x', y', r', P', hfat, rfl, hway, hpart, hsub⟩
  · obtain ⟨x, hx⟩ : ∃ x, es[i]? = some x := ⟨es[i], List.getElem?_eq_getElem (by omega)⟩
    have HF := Lib.hid (HFIN.out w2 HB1.out (by rw [lk1_at hx HSO.out]; exact lkAt_none hfat))
    clear hx hfat l0 l2 d1 d2
    go_wp2_with fail
    go_ret
    exact HF.out
  obtain ⟨⟨⟨es1, ev1, ek1⟩, es2, ev2, ek2⟩, hx⟩ : ∃ x, es[i]? = some x := ⟨es[i], List.getElem?_eq_getElem (by omega)⟩
  obtain ⟨qb, rfl, hqc⟩ : ∃ qb, A = some ⟨qb, 0, none⟩ ∧ ∀ (i : Nat) (x : Eqd), es[i]? = some x → ∃ n1 n2, w2.cell? ⟨qb, i * 2, none⟩ = some n1 ∧ w2.cell? ⟨qb, i * 2 + 1, none⟩ = some n2 ∧ NodeIs w2 0 w2.heap.size n1 x.1.1 x.1.2.1 x.1.2.2 ∧ NodeIs w2 0 w2.heap.size n2 x.2.1 x.2.2.1 x.2.2.2 := by
    rcases HQ.out.next HB1.out with h | ⟨b, h1, h2⟩
    · rw [h] at hx; simp at hx
    · exact ⟨b, h1, h2⟩
  obtain ⟨n1, n2, q1, q2, hn1, hn2⟩ := hqc i _ hx
  dsimp only at hn1 hn2
  obtain ⟨t1, u1, rfl⟩ : ∃ t u, n1 = .iface t u := by rcases hn1 with ⟨_, _, rfl⟩ | ⟨_, _, _, rfl, _⟩ <;> exact ⟨_, _, rfl⟩
  obtain ⟨t2, u2, rfl⟩ : ∃ t u, n2 = .iface t u := by rcases hn2 with ⟨_, _, rfl⟩ | ⟨_, _, _, rfl, _⟩ <;> exact ⟨_, _, rfl⟩
  obtain ⟨fs, fv, fk, tf, uf, gs, gv, gk, tg, ug, hsides, hsd, hfn, hgn⟩ : ∃ fs fv fk tf uf gs gv gk tg ug, sidesR ((es1, ev1, ek1), es2, ev2, ek2) back = ((fs, fv, fk), gs, gv, gk) ∧ (if back = true then (#[.iface t2 u2, .iface t1 u1] : Array Value) else #[.iface t1 u1, .iface t2 u2]) = #[.iface tf uf, .iface tg ug] ∧ NodeIs w2 0 w2.heap.size (.iface tf uf) fs fv fk ∧ NodeIs w2 0 w2.heap.size (.iface tg ug) gs gv gk := by
    cases back with
    | true => exact ⟨es2, ev2, ek2, t2, u2, es1, ev1, ek1, t1, u1, rfl, rfl, hn2, hn1⟩
    | false => exact ⟨es1, ev1, ek1, t1, u1, es2, ev2, ek2, t2, u2, rfl, rfl, hn1, hn2⟩
  have hso2 := sides_ok HOK.out hx back
  rw [hsides] at hso2
  have HSO2 := Lib.hid hso2
  have HLK : Hid (lk1 es (s, v, k) ((i : Int), back, place, bs) = lkAt (s, v, k) place (put3 (sv bs) (fs, fv, fk)) (put3 (sv bs) (gs, gv, gk))) := by rw [Hid, lk1_at hx HSO.out, hsides]
  have HSD := Lib.hid hsd
  have HFN := Lib.hid hfn
  have HGN := Lib.hid hgn
  have HFAT := Lib.hid hfat
  have HWAY := Lib.hid hway
  have hek := (okW_iff _ _ _ _).1 HEK.out
  dsimp only at hek
  have hfo := fat_ok place s v k hek.1 hek.2.1 hfat
  have hokp : okW s' v' k' 64 = true := (okW_iff _ _ _ _).2 ⟨hfo.1, hfo.2.1, by have := hfo.2.2; have := hek.2.2; omega⟩
  have HOKP := Lib.hid hokp
  have HOP : Hid (PartIs w2 b' o' s' v' k') := hpart.sl_kids (fun x hx => Nat.lt_of_lt_of_le (HPB.out x (hsub x hx)).2 hs1)
  have l1 := HL1.out
  have g1 : (0 : Int) ≤ (i : Int) := by omega
  have g2 : (i : Int) < (es.length : Int) := by omega
  have hu0 : ∀ u : After w2.heap.size w2, u.world.cell? ⟨w.heap.size, 0, none⟩ = some (.int .i64 (i : Int)) := fun u => cell_low u.below l0
  have hu1 : ∀ u : After w2.heap.size w2, u.world.cell? ⟨w.heap.size, 1, none⟩ = some (.bool back) := fun u => cell_low u.below l1
  have hu2 : ∀ u : After w2.heap.size w2, u.world.cell? ⟨qb, i * 2, none⟩ = some (.iface t1 u1) := fun u => cell_low u.below q1
  have hu3 : ∀ u : After w2.heap.size w2, u.world.cell? ⟨qb, i * 2 + 1, none⟩ = some (.iface t2 u2) := fun u => cell_low u.below q2
  clear l0 l1 l2 q1 q2 hn1 hn2 hqc hsd hfn hgn hsides hso2 hfat hway hx hek hfo hokp hpart hsub d1 d2 HL0 HL1 HL2
  go_wp2_with fail
  refine wp_region_mix (fun w' => ∃ u : After w2.heap.size w2, w' = u.world) [] [(0, 0), (1, 0), (2, 0), (3, 0), (4, 0), (5, 0), (6, 0), (7, 1), (8, 0), (9, 0), (10, 0), (11, 0), (12, 0)] (by kernel_rfl) (by kernel_rfl) ⟨⟨_, (Below.refl _ _).drew⟩, rfl⟩ ?_
  have HBD : Hid (Below w2.heap.size w2 w2.drew) := (Below.refl _ _).drew
  generalize w2.drew = wd at *
  iterate 7
    refine mix_see rfl (fun K hK => ?_)
    go_simp
    refine hK _ ?_
    clear hK K
  clear hu0 hu1 hu2 hu3
  refine mix_hold rfl (fun K hK => ?_)
  go_simp
  with_reducible refine (sides_any t1 t2 u1 u2 back _).mono ?_
  rintro en wp ⟨he, hbp⟩
  rw [HSD.out] at he
  subst he
  have hbd2 := HBD.out.trans (hbp.mono HBD.out.size)
  refine hK _ _ ⟨⟨_, hbd2⟩, rfl⟩ ?_
  clear hK K hbp HBD
  iterate 5
    refine mix_see rfl (fun K hK => ?_)
    go_simp
    refine hK _ ?_
    clear hK K
  refine mix_end ?_
  have HB3 := Lib.hid (HB1.out.trans (hbd2.mono hs1))
  have hsp := hbd2.size
  have HB23 := Lib.hid hbd2
  have HPART3 := Lib.hid (HOP.out.low hbd2)
  have HM3 := Lib.hid (HM.out.below hbd2)
  have HFN3 := Lib.hid ((HFN.out.below hbd2).mono (Nat.le_refl _) hsp)
  have HGN3 := Lib.hid ((HGN.out.below hbd2).mono (Nat.le_refl _) hsp)
  clear hbd2 HM HFN HGN HOP
  obtain ⟨pa, pc, p0, p1, p2, hpsl, _, _, _⟩ := HPART3.out
  have HPS := Lib.hid hpsl
  clear hpsl
  go_wp2_with fail
  with_reducible refine (nodeOf_any s' v' pa pc k' 64 _ HPS.out (by omega) (by omega)).mono ?_
  rintro en w4 ⟨nv4, he, hb4, hyes⟩
  rw [HOKP.out] at he
  subst he
  have HN4 := Lib.hid ((hyes HOKP.out).mono (lo' := 0) (Nat.zero_le _) (Nat.le_refl _))
  have HB4 := Lib.hid (HB3.out.trans (hb4.mono HB3.out.size))
  have HB24 := Lib.hid (HB23.out.trans (hb4.mono hsp))
  have HM4 := Lib.hid (HM3.out.below hb4)
  have HFN4 := Lib.hid ((HFN3.out.below hb4).mono (Nat.le_refl _) hb4.size)
  have HGN4 := Lib.hid ((HGN3.out.below hb4).mono (Nat.le_refl _) hb4.size)
  have HPART4 := Lib.hid (HPART3.out.low hb4)
  obtain ⟨t4, u4, rfl⟩ : ∃ t u, nv4 = .iface t u := by rcases HN4.out with ⟨_, _, rfl⟩ | ⟨_, _, _, rfl, _⟩ <;> exact ⟨_, _, rfl⟩
  clear hb4 hyes p0 p1 p2 HB3 HM3 HFN3 HGN3 HPART3 HPS
  obtain ⟨hfk1, hfk2, hfk3⟩ := (okW_iff _ _ _ _).1 HSO2.out.1
  obtain ⟨hgk1, hgk2, hgk3⟩ := (okW_iff _ _ _ _).1 HSO2.out.2
  dsimp only at hfk1 hfk2 hfk3 hgk1 hgk2 hgk3
  go_wp2_with fail
  with_reducible refine (apply_any bs mb fs fv fk (.iface tf uf) _ HFN4.out HM4.out hfk1 hfk2 (by omega)).mono ?_
  rintro en w5 ⟨nv5, rfl, hb5, hn5⟩
  have HN5 : Hid (Nj w5 nv5 (tsub (sv bs) fs fv fk).1 (tsub (sv bs) fs fv fk).2.1 (tsub (sv bs) fs fv fk).2.2) := by
    have h1 := put3_ok HSO.out (t := (fs, fv, fk)) hfk1 hfk2
    exact ⟨hn5, h1.1, h1.2, put3_small HSO.out HSO2.out.1⟩
  have HN4j : Hid (Nj w5 (.iface t4 u4) s' v' k') := by
    obtain ⟨h1, h2, h3⟩ := (okW_iff _ _ _ _).1 HOKP.out
    exact ⟨(HN4.out.below hb5).mono (Nat.le_refl _) hb5.size, h1, h2, by omega⟩
  have HB5 := Lib.hid (HB4.out.trans (hb5.mono HB4.out.size))
  have HB25 := Lib.hid (HB24.out.trans (hb5.mono HB24.out.size))
  have HM5 := Lib.hid (HM4.out.below hb5)
  have HGN5 := Lib.hid ((HGN4.out.below hb5).mono (Nat.le_refl _) hb5.size)
  have HPART5 := Lib.hid (HPART4.out.low hb5)
  obtain ⟨t5, u5, rfl⟩ : ∃ t u, nv5 = .iface t u := by rcases hn5 with ⟨_, _, rfl⟩ | ⟨_, _, _, rfl, _⟩ <;> exact ⟨_, _, rfl⟩
  clear hb5 hn5 HB4 HM4 HFN4 HGN4 HPART4 HN4
  go_wp2_with fail
  with_reducible refine (sameNodeI_any HN4j.out HN5.out).mono ?_
  rintro en w6 ⟨rfl, hb6⟩
  have HB6 := Lib.hid (HB5.out.trans (hb6.mono HB5.out.size))
  have HB26 := Lib.hid (HB25.out.trans (hb6.mono HB25.out.size))
  have HM6 := Lib.hid (HM5.out.below hb6)
  have HGN6 := Lib.hid ((HGN5.out.below hb6).mono (Nat.le_refl _) hb6.size)
  have HPART6 := Lib.hid (HPART5.out.low hb6)
  clear hb6 HB5 HM5 HGN5 HPART5 HN4j HN5
  obtain ⟨te, hte⟩ : ∃ te, te = teq s' v' k' (tsub (sv bs) fs fv fk).1 (tsub (sv bs) fs fv fk).2.1 (tsub (sv bs) fs fv fk).2.2 := ⟨_, rfl⟩
  rw [← hte]
  have HTE := Lib.hid hte
  clear hte
  cases te with
  | false =>
    have HF := Lib.hid (HFIN.out w6 HB6.out (by rw [HLK.out]; exact lkAt_other HFAT.out HTE.out.symm))
    go_wp2_with fail
    go_ret
    exact HF.out
  | true =>
    go_wp2_with fail
    with_reducible refine (apply_any bs mb gs gv gk (.iface tg ug) _ HGN6.out HM6.out hgk1 hgk2 (by omega)).mono ?_
    rintro en w7 ⟨nv7, rfl, hb7, hn7⟩
    have HG3 := put3_ok HSO.out (t := (gs, gv, gk)) hgk1 hgk2
    have hgsz := put3_small HSO.out HSO2.out.2
    unfold put3 at HG3 hgsz
    dsimp only at HG3 hgsz
    obtain ⟨⟨os, ov, ok⟩, hout⟩ : ∃ o, fput s v k place (put3 (sv bs) (gs, gv, gk)) = some o := by
      have := fput_there place s v k (put3 (sv bs) (gs, gv, gk))
      rw [HFAT.out] at this
      exact Option.isSome_iff_exists.1 this
    have HOUT : Hid (lk1 es (s, v, k) ((i : Int), back, place, bs) = if okT3 64 (os, ov, ok) = true then some (os, ov, ok) else none) := by rw [Hid, HLK.out]; exact lkAt_out HFAT.out HTE.out.symm hout
    unfold put3 at hout
    dsimp only at hout
    obtain ⟨zs, zv, zk, hz⟩ : ∃ zs zv zk, tsub (sv bs) gs gv gk = (zs, zv, zk) := ⟨_, _, _, rfl⟩
    rw [hz] at hout hn7 HG3 hgsz
    dsimp only at hn7 HG3 hgsz
    have HFP := Lib.hid hout
    have HN7 := Lib.hid hn7
    have HB7 := Lib.hid (HB6.out.trans (hb7.mono HB6.out.size))
    have HB27 := Lib.hid (HB26.out.trans (hb7.mono HB26.out.size))
    have HPART7 := Lib.hid (HPART6.out.low hb7)
    have hs7 := HB7.out.size
    clear hout hn7 hb7 hz HB6 HM6 HGN6 HPART6
    have HEND : Hid (∀ (a7 : Option Addr) (c7 : Nat) (w8 : World), Below w7.heap.size w7 w8 → TXo w8 w7.heap.size w8.heap.size a7 zk → OwR (st3 w8 b' o' zs zv a7 (flen zk) c7) (one3 os ov ok) e 0 (fun x => P x ∨ (w7.heap.size ≤ x ∧ x < w8.heap.size)) ∧ Below wD.heap.size wD (st3 w8 b' o' zs zv a7 (flen zk) c7) ∧ KeepsOthers w (st3 w8 b' o' zs zv a7 (flen zk) c7) ∧ ∀ b, b < w.heap.size → b ≠ e → ¬ P b → (st3 w8 b' o' zs zv a7 (flen zk) c7).heap[b]? = w.heap[b]?) := by
      intro a7 c7 w8 hb8 htx
      have hB8 := HB7.out.trans (hb8.mono hs7)
      have ho8 := HO.out.low (fun x hx => (HPB.out x hx).2) he2 hB8
      have hq8 : OwS w8 a7 zk fun x => w7.heap.size ≤ x ∧ x < w8.heap.size := ow_of_trs htx.2 htx.1
      have hbw : Below w2.heap.size w2 w8 := HB27.out.trans (hb8.mono HB27.out.size)
      have hw8 := way_low hbw HWAY.out
      obtain ⟨hpos, hput⟩ := OwR.put (c2 := c7) hq8 place (one3 s v k) e 0 P 0 0 0 s v k .nil (os, ov, ok) ho8 HPE.out (fun hx => by omega) (fun x hx hx2 => by have := (HPB.out x hx).2; omega) rfl (by simpa using hw8) HFP.out
      have hge : wD.heap.size ≤ b' := by
        rcases hpos with h | ⟨h, _⟩
        · exact (HPB.out _ h).1
        · omega
      refine ⟨hput, ?_, ?_, fun b hb hbe hbP => ?_⟩
      · unfold st3
        exact (((HBW.out.trans (hB8.mono hwD)).setCell hge _).setCell hge _).setCell hge _
      · unfold st3
        exact (((KeepsOthers.of_low hB8).trans (KeepsOthers.setCell _ _ _)).trans (KeepsOthers.setCell _ _ _)).trans (KeepsOthers.setCell _ _ _)
      · have hbb : b ≠ b' := fun h => by
          subst h
          rcases hpos with h | ⟨h, _⟩
          · exact hbP h
          · exact hbe h
        unfold st3
        rw [Below.heap_setCell _ _ _ _ hbb, Below.heap_setCell _ _ _ _ hbb, Below.heap_setCell _ _ _ _ hbb]
        exact hB8.block b hb
    rcases HN7.out with ⟨rfl, rfl, rfl⟩ | ⟨hzs, za, zc, rfl, hzn⟩
    · clear HN7
      go_wp2_with fail
      refine upon_method 142 (by kernel_rfl) (by kernel_rfl) ?_
      go_simp
      with_reducible refine (varTermO_any zv _).mono ?_
      rintro en w8 ⟨a7, c7, rfl, hb8, htx⟩
      obtain ⟨_, _, c0, c1, c2, _, f0, f1, f2⟩ := HPART7.out.low hb8
      obtain ⟨hown, hlowD, hko, hfar⟩ := HEND.out a7 c7 w8 hb8 htx
      have hsz8 := hb8.size
      unfold st3 at hown hlowD hko hfar
      obtain ⟨W9, hW9⟩ : ∃ W9, W9 = (((w8.setCell ⟨b', o', none⟩ (.int .i64 0)).setCell ⟨b', o' + 1, none⟩ (.int .i64 zv)).setCell ⟨b', o' + 2, none⟩ (.slice a7 (flen .nil) c7)) := ⟨_, rfl⟩
      rw [← hW9] at hown hlowD hko hfar
      have hszW : W9.heap.size = w8.heap.size := by rw [hW9]; simp
      have HQB : Hid (∀ x, (P x ∨ (w7.heap.size ≤ x ∧ x < w8.heap.size)) → wD.heap.size ≤ x ∧ x < W9.heap.size) := fun x hx => by
        rcases hx with hx | hx
        · have := HPB.out x hx; omega
        · omega
      have HQE : Hid (¬ (P e ∨ (w7.heap.size ≤ e ∧ e < w8.heap.size))) := fun hx => by
        rcases hx with hx | hx
        · exact HPE.out hx
        · omega
      obtain ⟨ra, rc, r0, r1, r2, rsl, _, _, _⟩ := hown.sl_kids (fun x hx => (HQB.out x hx).2)
      have HOWN := Lib.hid hown
      have HLD := Lib.hid hlowD
      have HKO := Lib.hid hko
      have HFAR := Lib.hid hfar
      have HRSL := Lib.hid rsl
      have heW : e < W9.heap.size := by omega
      rw [hW9] at r0 r1 r2
      simp only [Nat.zero_add] at r1 r2
      clear hown hlowD hko hfar rsl hb8 htx HEND
      go_wp2_with fail
      rw [← hW9]
      clear r0 r1 r2 c0 c1 c2 f0 f1 f2
      with_reducible refine (nodeOf_any os ov ra rc ok 64 _ HRSL.out (by omega) (by omega)).mono ?_
      rintro en w10 ⟨nv10, rfl, hb10, _⟩
      have HFF : Hid (FwPost (lk1 es (s, v, k) ((i : Int), back, place, bs)) wD e P w (.returned (.bool (okW os ov ok 64))) w10) := by
        refine ⟨_, rfl, HLD.out.trans (hb10.mono (HLD.out.size)), HKO.out.trans (KeepsOthers.of_low hb10), fun b hb hbe hbP => (hb10.block b (by omega)).trans (HFAR.out b hb hbe hbP), fun h => ?_, fun h => ⟨os, ov, ok, _, ?_, HOWN.out.low (fun x hx => (HQB.out x hx).2) heW hb10, HQE.out, fun x hx => hx.elim .inl (fun h => .inr ⟨by omega, Nat.lt_of_lt_of_le (HQB.out x (.inr h)).2 hb10.size⟩), Nat.lt_of_lt_of_le heW hb10.size⟩⟩
        · rw [HOUT.out, if_neg (by simp [okT3, h])]
        · rw [HOUT.out, if_pos (by simp [okT3, h])]
      clear hb10
      go_wp2_with fail
      go_ret
      exact HFF.out
    · have hzv : zv = 0 := ((okN_iff _ _ _).1 HG3.1).2.2 hzs
      subst hzv
      have HZN := Lib.hid hzn
      clear HN7 hzn
      go_wp2_with fail
      refine upon_method 159 (by kernel_rfl) (by kernel_rfl) ?_
      go_simp
      with_reducible refine (symTermO_any (fsz zk) zs za zc zk _ HZN.out HG3.2 (Nat.le_refl _) (by omega)).mono ?_
      rintro en w8 ⟨a7, c7, rfl, hb8, htx⟩
      obtain ⟨_, _, c0, c1, c2, _, f0, f1, f2⟩ := HPART7.out.low hb8
      obtain ⟨hown, hlowD, hko, hfar⟩ := HEND.out a7 c7 w8 hb8 htx
      have hsz8 := hb8.size
      unfold st3 at hown hlowD hko hfar
      obtain ⟨W9, hW9⟩ : ∃ W9, W9 = (((w8.setCell ⟨b', o', none⟩ (.int .i64 zs)).setCell ⟨b', o' + 1, none⟩ (.int .i64 0)).setCell ⟨b', o' + 2, none⟩ (.slice a7 (flen zk) c7)) := ⟨_, rfl⟩
      rw [← hW9] at hown hlowD hko hfar
      have hszW : W9.heap.size = w8.heap.size := by rw [hW9]; simp
      have HQB : Hid (∀ x, (P x ∨ (w7.heap.size ≤ x ∧ x < w8.heap.size)) → wD.heap.size ≤ x ∧ x < W9.heap.size) := fun x hx => by
        rcases hx with hx | hx
        · have := HPB.out x hx; omega
        · omega
      have HQE : Hid (¬ (P e ∨ (w7.heap.size ≤ e ∧ e < w8.heap.size))) := fun hx => by
        rcases hx with hx | hx
        · exact HPE.out hx
        · omega
      obtain ⟨ra, rc, r0, r1, r2, rsl, _, _, _⟩ := hown.sl_kids (fun x hx => (HQB.out x hx).2)
      have HOWN := Lib.hid hown
      have HLD := Lib.hid hlowD
      have HKO := Lib.hid hko
      have HFAR := Lib.hid hfar
      have HRSL := Lib.hid rsl
      have heW : e < W9.heap.size := by omega
      rw [hW9] at r0 r1 r2
      simp only [Nat.zero_add] at r1 r2
      clear hown hlowD hko hfar rsl hb8 htx HEND
      go_wp2_with fail
      rw [← hW9]
      clear r0 r1 r2 c0 c1 c2 f0 f1 f2
      with_reducible refine (nodeOf_any os ov ra rc ok 64 _ HRSL.out (by omega) (by omega)).mono ?_
      rintro en w10 ⟨nv10, rfl, hb10, _⟩
      have HFF : Hid (FwPost (lk1 es (s, v, k) ((i : Int), back, place, bs)) wD e P w (.returned (.bool (okW os ov ok 64))) w10) := by
        refine ⟨_, rfl, HLD.out.trans (hb10.mono (HLD.out.size)), HKO.out.trans (KeepsOthers.of_low hb10), fun b hb hbe hbP => (hb10.block b (by omega)).trans (HFAR.out b hb hbe hbP), fun h => ?_, fun h => ⟨os, ov, ok, _, ?_, HOWN.out.low (fun x hx => (HQB.out x hx).2) heW hb10, HQE.out, fun x hx => hx.elim .inl (fun h => .inr ⟨by omega, Nat.lt_of_lt_of_le (HQB.out x (.inr h)).2 hb10.size⟩), Nat.lt_of_lt_of_le heW hb10.size⟩⟩
        · rw [HOUT.out, if_neg (by simp [okT3, h])]
        · rw [HOUT.out, if_pos (by simp [okT3, h])]
      clear hb10
      go_wp2_with fail
      go_ret
      exact HFF.out
end Go.Proofs.Ytdkcbbhkoibplaa

/-! PE0: ProofEnd of the program where it fails at once. -/
namespace Go.Proofs.Ytdkcbbhkoibplaa
open Go.RowKit Go.Deep Go.Shelf

/-- What stays where all cells stay. -/
theorem OwR.keepS {w w' : World} (hk : ∀ (q : Addr) (v : Value), w.cell? q = some v → w'.cell? q = some v ∧ w'.frozen? q = w.frozen? q) : ∀ {k : Fo} {b o : Nat} {P : Nat → Prop}, OwR w k b o P → OwR w' k b o P
  | .nil, _, _, _, _ => trivial
  | .node _ _ p k r, b, o, P, ⟨⟨c0, c1⟩, ⟨f0, f1, f2⟩, a, c, P1, P2, g1, g2, g3, g4, g5, g6⟩ => by
    have k0 := hk _ _ c0
    have k1 := hk _ _ c1
    have k2 := hk _ _ g4
    refine ⟨⟨k0.1, k1.1⟩, ⟨k0.2.trans f0, k1.2.trans f1, k2.2.trans f2⟩, a, c, P1, P2, g1, g2, g3, k2.1, ?_, OwR.keepS hk g6⟩
    rcases g5 with g5 | ⟨b', P3, e, h1, h2, h3, h4⟩
    · exact .inl g5
    · exact .inr ⟨b', P3, e, h1, h2, h3, OwR.keepS hk h4⟩
theorem prR_bad {es : List Eqd} {t : Tm3} {ls : List Lk} (h : okEs es = false ∨ okT3 64 t = false ∨ 40 < ls.length) : prR es t ls = none := by
  unfold prR
  refine if_neg fun h' => ?_
  rcases h with h | h | h
  · rw [h] at h'; cases h'.1
  · rw [h] at h'; cases h'.2.1
  · omega
theorem prR_good {es : List Eqd} {t : Tm3} {ls : List Lk} (h1 : okEs es = true) (h2 : okT3 64 t = true) (h3 : ls.length ≤ 40) : prR es t ls = lkF es t ls := by
  unfold prR
  exact if_pos ⟨h1, h2, h3⟩

/-- The boxes of the term and of both results. -/
structure PeS (w : World) (s v : Int) (T : Value) (u : World) : Prop where
  low : Below w.heap.size w u
  size : w.heap.size + 3 ≤ u.heap.size
  t0 : u.cell? ⟨w.heap.size, 0, none⟩ = some (.int .i64 s)
  t1 : u.cell? ⟨w.heap.size, 1, none⟩ = some (.int .i64 v)
  t2 : u.cell? ⟨w.heap.size, 2, none⟩ = some T
  r0 : u.cell? ⟨w.heap.size + 1, 0, none⟩ = some (.int .i64 0)
  r1 : u.cell? ⟨w.heap.size + 1, 1, none⟩ = some (.int .i64 0)
  r2 : u.cell? ⟨w.heap.size + 1, 2, none⟩ = some (.slice none 0 0)
  b0 : u.cell? ⟨w.heap.size + 1 + 1, 0, none⟩ = some (.bool false)
  f : ∀ i, u.frozen? ⟨w.heap.size + 1, i, none⟩ = false
  g : ∀ i, u.frozen? ⟨w.heap.size + 1 + 1, i, none⟩ = false
theorem PeS.start {w : World} {s v : Int} {T : Value} {T1 T2 T3 : TypeId} : PeS w s v T (((w.alloc (.cells #[.int .i64 s, .int .i64 v, T] T1)).alloc (.cells #[.int .i64 0, .int .i64 0, .slice none 0 0] T2)).alloc (.cells #[.bool false] T3)) := by
  have a0 : ∀ i, (((w.alloc (.cells #[.int .i64 s, .int .i64 v, T] T1)).alloc (.cells #[.int .i64 0, .int .i64 0, .slice none 0 0] T2)).alloc (.cells #[.bool false] T3)).cell? ⟨w.heap.size, i, none⟩ = #[Value.int .i64 s, .int .i64 v, T][i]? := fun i => by
    rw [World.cell?_alloc_lt _ _ _ (by simp; omega), World.cell?_alloc_lt _ _ _ (by simp), World.cell?_alloc_at _ _ _ _ (by simp)]
  have a1 : ∀ i, (((w.alloc (.cells #[.int .i64 s, .int .i64 v, T] T1)).alloc (.cells #[.int .i64 0, .int .i64 0, .slice none 0 0] T2)).alloc (.cells #[.bool false] T3)).cell? ⟨w.heap.size + 1, i, none⟩ = #[Value.int .i64 0, .int .i64 0, .slice none 0 0][i]? := fun i => by
    rw [World.cell?_alloc_lt _ _ _ (by simp), World.cell?_alloc_at _ _ _ _ (by simp)]
  have a2 : ∀ i, (((w.alloc (.cells #[.int .i64 s, .int .i64 v, T] T1)).alloc (.cells #[.int .i64 0, .int .i64 0, .slice none 0 0] T2)).alloc (.cells #[.bool false] T3)).cell? ⟨w.heap.size + 1 + 1, i, none⟩ = #[Value.bool false][i]? := fun i => by
    rw [World.cell?_alloc_at _ _ _ _ (by simp)]
  exact ⟨(((Below.refl _ _).alloc (Nat.le_refl _) _).alloc (by simp) _).alloc (by simp; omega) _, by simp, a0 0, a0 1, a0 2, a1 0, a1 1, a1 2, a2 0, fun i => by rw [((Below.refl _ _).alloc (Nat.le_refl _) _).frozen (by simp), World.frozen?_alloc_at _ _ _ _ (by simp)], fun i => by rw [World.frozen?_alloc_at _ _ _ _ (by simp)]⟩
theorem PeS.next {w : World} {s v : Int} {T : Value} {u u' : World} (h : PeS w s v T u) (hb : Below u.heap.size u u') : PeS w s v T u' :=
  ⟨h.low.trans (hb.mono (by have := h.size; omega)), Nat.le_trans h.size hb.size, cell_low hb h.t0, cell_low hb h.t1, cell_low hb h.t2, cell_low hb h.r0, cell_low hb h.r1, cell_low hb h.r2, cell_low hb h.b0, fun i => (hb.frozen (by have := h.size; simp; omega)).trans (h.f i), fun i => (hb.frozen (by have := h.size; simp; omega)).trans (h.g i)⟩
theorem pe_end {w w1 : World} {r : Option Tm3} {s v : Int} {k : Fo} {t : Bool} {a : Option Addr} {c : Nat} (hr : ansR r = ((s, v, k), t)) (hb : Below w.heap.size w w1) (hl : Sl w1 (w.heap.size + 3) w1.heap.size a k) (p q o z : Value) :
    LkPost r w (.returned (.tuple #[.agg #[.int .i64 s, .int .i64 v, .slice a (flen k) c], .bool t])) ((((w1.setCell ⟨w.heap.size + 1, 0, none⟩ p).setCell ⟨w.heap.size + 1, 1, none⟩ q).setCell ⟨w.heap.size + 1, 2, none⟩ o).setCell ⟨w.heap.size + 1 + 1, 0, none⟩ z) := by
  refine ⟨a, c, s, v, k, t, hr, rfl, (((hb.setCell (by simp) _).setCell (by simp) _).setCell (by simp) _).setCell (by simp; omega) _, ?_⟩
  have hs : Same (w.heap.size + 3) w1.heap.size w1 ((((w1.setCell ⟨w.heap.size + 1, 0, none⟩ p).setCell ⟨w.heap.size + 1, 1, none⟩ q).setCell ⟨w.heap.size + 1, 2, none⟩ o).setCell ⟨w.heap.size + 1 + 1, 0, none⟩ z) :=
    ((((Same.setCell (fun _ _ _ => rfl) (.inl (by simp)) _).setCell (.inl (by simp)) _).setCell (.inl (by simp)) _).setCell (.inl (by simp)) _)
  exact (hl.same hs).mono (by omega) (by simp)

set_option maxRecDepth 100000 in
set_option maxHeartbeats 2000000 in
theorem proofEnd_bad (es : List Eqd) (A : Option Addr) (C : Nat) (s v : Int) (a : Option Addr) (c : Nat) (k : Fo) (A2 : Option Addr) (C2 : Nat) (ls : List Lk) (w : World)
    (hbad : okEs es = false ∨ okT3 64 (s, v, k) = false ∨ 40 < ls.length)
    (hq : ESl w 0 w.heap.size A es) (hel : es.length ≤ 9223372036854775807) (hl : Sl w 0 w.heap.size a k) (hll : ls.length ≤ 9223372036854775807) :
    Calls Try.prog 36 #[.slice A es.length C, .agg #[.int .i64 s, .int .i64 v, .slice a (flen k) c], .slice A2 ls.length C2] w (LkPost (prR es (s, v, k) ls) w) := by
  rw [prR_bad hbad]
  have hb0 : PeS w s v (.slice a (flen k) c) (((w.alloc (.cells #[.int .i64 s, .int .i64 v, .slice a (flen k) c] 35)).alloc (.cells #[.int .i64 0, .int .i64 0, .slice none 0 0] 35)).alloc (.cells #[.bool false] 4)) := PeS.start
  have HS := Lib.hid hb0
  have HQ := Lib.hid (hq.next hb0.low)
  have HL := Lib.hid (Sl.next hl hb0.low)
  have HBAD := Lib.hid hbad
  clear hb0 hq hl hbad
  go_enter Try.func36, Try.ntmps36
  go_wp2_with fail
  with_reducible refine (equationsOf_any es A C _ HQ.out hel).mono ?_
  rintro e w1 ⟨hb1, hcase⟩
  have HS1 := Lib.hid (HS.out.next hb1)
  have HL1 := Lib.hid (Sl.next HL.out hb1)
  clear hb1 HS HL HQ
  obtain ⟨A', n', C', rfl, hbe⟩ : ∃ A' n' C', e = .returned (.tuple #[.slice A' n' C', .bool (okEs es)]) ∧ True := by
    rcases hcase with ⟨h, A', C', rfl, _⟩ | ⟨h, rfl⟩ <;> rw [h] <;> exact ⟨_, _, _, rfl, trivial⟩
  clear hcase hbe
  have hbx : Below w1.heap.size w1 (w1.alloc (.cells #[.slice A' n' C'] 112)) := box_low _ _
  have HS2 := Lib.hid (HS1.out.next hbx)
  have HL2 := Lib.hid (Sl.next HL1.out hbx)
  have c0 := HS2.out.t0
  have c1 := HS2.out.t1
  have c2 := HS2.out.t2
  clear HS1 HL1 hbx
  go_wp2_with fail
  with_reducible refine (nodeOf_any s v a c k 64 _ HL2.out (by omega) (by omega)).mono ?_
  rintro e w3 ⟨nv, rfl, hb3, _⟩
  have HS3 := Lib.hid (HS2.out.next hb3)
  have HOK : Hid (okT3 64 (s, v, k) = okW s v k 64) := rfl
  rw [HOK.out] at HBAD
  have r0 := HS3.out.r0
  have r1 := HS3.out.r1
  have r2 := HS3.out.r2
  have b0 := HS3.out.b0
  have f0 := HS3.out.f 0
  have f1 := HS3.out.f 1
  have f2 := HS3.out.f 2
  have g0 := HS3.out.g 0
  have hsz := HS3.out.size
  clear c0 c1 c2 hb3 HS2 HL2
  have HEND := Lib.hid (pe_end (r := none) (s := 0) (v := 0) (k := .nil) (t := false) (a := none) (c := 0) rfl HS3.out.low (.inl rfl) (.int .i64 0) (.int .i64 0) (.slice none 0 0) (.bool false))
  have hor : (okEs es = true ∧ okW s v k 64 = true) → decide (40 < (ls.length : Int)) = true := fun h => by
    have := HBAD.out
    rw [h.1, h.2] at this
    simp at this
    simp
    omega
  cases h1 : okEs es with
  | false =>
    clear hor
    go_wp2_with fail
    refine bodyPost_ret (v := .tuple #[.agg #[.int .i64 0, .int .i64 0, .slice none 0 0], .bool false]) ?_ rfl HEND.out
    simp [results, Try.results36, go_sem, r0, r1, r2, b0]
  | true =>
    cases h2 : okW s v k 64 with
    | false =>
      clear hor
      go_wp2_with fail
      refine bodyPost_ret (v := .tuple #[.agg #[.int .i64 0, .int .i64 0, .slice none 0 0], .bool false]) ?_ rfl HEND.out
      simp [results, Try.results36, go_sem, r0, r1, r2, b0]
    | true =>
      have h3 := hor ⟨h1, h2⟩
      have h3' : decide ((ls.length : Int) > 40) = true := h3
      clear hor
      go_wp2_with fail
      refine bodyPost_ret (v := .tuple #[.agg #[.int .i64 0, .int .i64 0, .slice none 0 0], .bool false]) ?_ rfl HEND.out
      simp [results, Try.results36, go_sem, r0, r1, r2, b0]
end Go.Proofs.Ytdkcbbhkoibplaa

/-! LL: What the walks of the laws of links hold on to; plain lemmas of links. -/
namespace Go.Proofs.Ytdkcbbhkoibplaa
open Go.RowKit Go.Deep

/-- Block b is a box that holds a link. -/
structure Lb (b : Nat) (eq : Int) (back : Bool) (pA : Option Addr) (pC : Nat) (place : List Int) (B : Option Addr) (D : Nat) (bs : List Bd) (w : World) : Prop where
  c0 : w.cell? ⟨b, 0, none⟩ = some (.int .i64 eq)
  c1 : w.cell? ⟨b, 1, none⟩ = some (.bool back)
  c2 : w.cell? ⟨b, 2, none⟩ = some (.slice pA place.length pC)
  c3 : w.cell? ⟨b, 3, none⟩ = some (.slice B bs.length D)
  hp : ISc w 0 w.heap.size pA pC place
  hb : BSl w 0 w.heap.size B bs
section
variable {b : Nat} {eq : Int} {back : Bool} {pA : Option Addr} {pC : Nat} {place : List Int} {B : Option Addr} {D : Nat} {bs : List Bd} {w w2 : World}
theorem Lb.next (h : Lb b eq back pA pC place B D bs w) (hb : Below w.heap.size w w2) : Lb b eq back pA pC place B D bs w2 :=
  ⟨cell_low hb h.c0, cell_low hb h.c1, cell_low hb h.c2, cell_low hb h.c3, h.hp.next hb, h.hb.next hb⟩
theorem Lb.new (h : ISc w 0 w.heap.size pA pC place) (h2 : BSl w 0 w.heap.size B bs) : Lb w.heap.size eq back pA pC place B D bs (w.alloc (.cells #[.int .i64 eq, .bool back, .slice pA place.length pC, .slice B bs.length D] 43)) := by
  have a1 : ∀ i, (w.alloc (.cells #[.int .i64 eq, .bool back, .slice pA place.length pC, .slice B bs.length D] 43)).cell? ⟨w.heap.size, i, none⟩ = #[Value.int .i64 eq, .bool back, .slice pA place.length pC, .slice B bs.length D][i]? := fun i => by rw [World.cell?_alloc_at _ _ _ _ (by simp)]
  exact ⟨a1 0, a1 1, a1 2, a1 3, h.next (box_low _ _), h2.next (box_low _ _)⟩
end
theorem ansR_cases {r : Option Tm3} {t : Tm3} {b : Bool} (h : ansR r = (t, b)) : (b = false ∧ r = none ∧ t = t0) ∨ (b = true ∧ r = some t) := by
  cases r with
  | none => simp only [ansR, Prod.mk.injEq] at h; exact .inl ⟨h.2.symm, rfl, h.1.symm⟩
  | some x => simp only [ansR, Prod.mk.injEq] at h; exact .inr ⟨h.2.symm, by rw [h.1]⟩
/-- What an answer is in size. -/
theorem lk_small {es : List Eqd} {t : Tm3} {l : Lk} {s v : Int} {k : Fo} {b : Bool} (h : ansR (lkR es t l) = ((s, v, k), b)) : fsz k ≤ 63 := by
  rcases ansR_cases h with ⟨_, _, h2⟩ | ⟨_, h2⟩
  · cases h2; simp [fsz]
  · unfold lkR at h2
    split at h2
    · have h3 := ((okW_iff _ _ _ _).1 (lk1_ok h2)).2.2
      dsimp only at h3
      omega
    · cases h2
theorem pr_small {es : List Eqd} {t : Tm3} {ls : List Lk} {s v : Int} {k : Fo} {b : Bool} (h : ansR (prR es t ls) = ((s, v, k), b)) (ht : fsz t.2.2 ≤ 63) : fsz k ≤ 63 := by
  rcases ansR_cases h with ⟨_, _, h2⟩ | ⟨_, h2⟩
  · cases h2; simp [fsz]
  · unfold prR at h2
    split at h2
    · rename_i hc
      have h3 : ∀ (ls : List Lk) (t x : Tm3), fsz t.2.2 ≤ 63 → lkF es t ls = some x → fsz x.2.2 ≤ 63 := by
        intro ls
        induction ls with
        | nil => intro t x h1 h2; simp only [lkF, Option.some.injEq] at h2; subst h2; exact h1
        | cons l r ih =>
          intro t x h1 h2
          simp only [lkF] at h2
          cases h4 : lk1 es t l with
          | none => rw [h4] at h2; simp at h2
          | some y =>
            rw [h4] at h2
            have h5 := ((okW_iff _ _ _ _).1 (lk1_ok h4)).2.2
            exact ih y x (by omega) h2
      exact h3 ls t _ ht h2
    · cases h2
end Go.Proofs.Ytdkcbbhkoibplaa

/-! LP1: A link taken back; a link elsewhere. Plain lemmas. -/
namespace Go.Proofs.Ytdkcbbhkoibplaa
open Go.RowKit Go.Deep

theorem ans_true {r : Option Tm3} {t : Tm3} (h : ansR r = (t, true)) : r = some t := by
  rcases ansR_cases h with ⟨h, _⟩ | ⟨_, h⟩
  · cases h
  · exact h
/-- The same term but for marks. -/
def Eq3 (a b : Tm3) : Prop := a.1 = b.1 ∧ a.2.1 = b.2.1 ∧ fer a.2.2 = fer b.2.2
theorem eq3_iff {a b : Tm3} : teq a.1 a.2.1 a.2.2 b.1 b.2.1 b.2.2 = true ↔ Eq3 a b := teq_iff
theorem lkAt_parts {t x : Tm3} {pl : List Int} {f g : Tm3} (h : lkAt t pl f g = some x) : ∃ hh, fat t.1 t.2.1 t.2.2 pl = some hh ∧ Eq3 hh f ∧ fput t.1 t.2.1 t.2.2 pl g = some x ∧ okT3 64 x = true := by
  unfold lkAt at h
  split at h
  · cases h
  · rename_i hh hf
    split at h
    · rename_i he
      split at h
      · cases h
      · rename_i out ho
        split at h
        · rename_i hk
          simp only [Option.some.injEq] at h
          subst h
          exact ⟨hh, hf, eq3_iff.1 he, ho, hk⟩
        · cases h
    · cases h
theorem lk1_parts {es : List Eqd} {t x : Tm3} {eq : Int} {back : Bool} {pl : List Int} {bs : List Bd} (h : lk1 es t (eq, back, pl, bs) = some x) : ∃ i e, eq = (i : Nat) ∧ es[i]? = some e ∧ sok 64 bs = true ∧ lkAt t pl (put3 (sv bs) (sidesR e back).1) (put3 (sv bs) (sidesR e back).2) = some x := by
  unfold lk1 at h
  dsimp only at h
  split at h
  · rename_i hc
    obtain ⟨e, he, h⟩ := Option.bind_eq_some_iff.1 h
    exact ⟨eq.toNat, e, by omega, he, hc.1, h⟩
  · cases h
theorem lkR_parts {es : List Eqd} {t x : Tm3} {l : Lk} (h : lkR es t l = some x) : okEs es = true ∧ okT3 64 t = true ∧ lk1 es t l = some x := by
  unfold lkR at h
  split at h
  · rename_i hc; exact ⟨hc.1, hc.2, h⟩
  · cases h
end Go.Proofs.Ytdkcbbhkoibplaa

/-! TP: What TermPlaces answers. -/
namespace Go.Proofs.Ytdkcbbhkoibplaa
open Go.RowKit Go.Deep

theorem isl_nil {w : World} {lo B : Nat} {a : Option Addr} : ISl w lo B a [] := Or.inl rfl

def TpPost (s v : Int) (k : Fo) (w : World) (e : Ending) (w' : World) : Prop :=
  ∃ A C rows, e = .returned (.slice A rows.length C) ∧ rows = (if okW s v k 16 = true then places k else []) ∧ Below w.heap.size w w' ∧ RSl w' w.heap.size w'.heap.size A rows
end Go.Proofs.Ytdkcbbhkoibplaa
