/- Several texts in one: WC, FK, T0, T4, WD. -/
import Derived.Test.YtbnbogdglffkmaaGreatDoorKEb1
import Derived.Deep.OwnRows
import Derived.Lib.Join
import Derived.Lib.ItoaNum

/-! WC: nodeWithin, nodeOf, TermOk. -/
namespace Go.Proofs.YtbnbogdglffkmaaGreatDoor
open Go.RowKit Go.Deep

theorem bl_setBoth {B : Nat} {u v : World} (h : Below B u v) (a : Addr) (y : Value) : Below B (u.setCell a y) (v.setCell a y) := by
  refine ⟨h.os, h.tape, h.output, by simpa [World.setCell] using h.size, fun k hk => ?_⟩
  simp only [World.setCell, Array.getElem?_modify]
  rw [h.block k hk]
theorem setCell_twice (w : World) (a : Addr) (x y : Value) (k : Nat) : ((w.setCell a x).setCell a y).heap[k]? = (w.setCell a y).heap[k]? := by
  simp only [World.setCell, Array.getElem?_modify]
  split
  · cases w.heap[k]? with
    | none => rfl
    | some o => cases o <;> simp <;> split <;> simp
  · rfl
theorem setCell_self (w : World) (a : Addr) (x : Value) (h : w.cell? a = some x) (k : Nat) : (w.setCell a x).heap[k]? = w.heap[k]? := by
  simp only [World.setCell, Array.getElem?_modify]
  split
  · rename_i hk
    subst hk
    unfold World.cell? at h
    cases ho : w.heap[a.block]? with
    | none => rfl
    | some o =>
      rw [ho] at h
      cases o <;> simp at h ⊢
      obtain ⟨h1, h2⟩ := h
      intro _
      obtain ⟨hlt, hv⟩ := Array.getElem?_eq_some_iff.1 h2
      apply Array.ext
      · simp
      · intro i h1' h2'
        rw [Array.getElem_setIfInBounds]
        split
        · rename_i hi; subst hi; exact hv.symm
        · rfl
  · rfl
theorem bl_self {B : Nat} {w w' : World} {a : Addr} {x : Value} (h : Below B w w') (hc : w.cell? a = some x) : Below B (w.setCell a x) w' :=
  ⟨h.os, h.tape, h.output, by simpa [World.setCell] using h.size, fun k hk => by rw [setCell_self w a x hc]; exact h.block k hk⟩
/-- A call that writes the one cell, behind another such call. -/
theorem bl_room {B B' : Nat} {w w1 w2 : World} {a : Addr} {x y : Value} (h : Below B (w.setCell a x) w1) (h' : Below B' (w1.setCell a y) w2) (hB : B ≤ B') : Below B (w.setCell a y) w2 := by
  have g := (bl_setBoth h a y).trans (h'.mono hB)
  exact ⟨g.os, g.tape, g.output, by simpa [World.setCell] using g.size, fun k hk => by rw [g.block k hk, setCell_twice]⟩

theorem box_cells2 {W : World} {n : Nat} (hn : W.heap.size = n) {x y z : Value} {T : TypeId} (u : After (n + 1) (W.alloc (.cells #[x, y, z] T))) :
    u.world.cell? ⟨n, 0, none⟩ = some x ∧ u.world.cell? ⟨n, 1, none⟩ = some y ∧ u.world.cell? ⟨n, 2, none⟩ = some z := by
  subst hn
  exact box_cells u
theorem after_top2 {W w' : World} {n : Nat} (hn : W.heap.size = n) {o : Obj} (h : Below (n + 1) (W.alloc o) w') : Below n W w' := by
  subst hn
  exact after_top h

/-- In form, and of at most that size. -/
def okW (s v : Int) (k : Fo) (room : Int) : Bool := okN s v (flen k) && fok k && decide (1 + (fsz k : Int) ≤ room)
def NwPost (s v : Int) (k : Fo) (room : Int) (br : Nat) (w : World) (e : Ending) (w' : World) : Prop :=
  ∃ nv r', e = .returned (.tuple #[nv, .bool (okW s v k room)]) ∧ Below w.heap.size (w.setCell ⟨br, 0, none⟩ (.int .i64 r')) w' ∧
    (okW s v k room = true → r' = room - (1 + fsz k) ∧ NodeC w' w.heap.size w'.heap.size nv s v k)

theorem okW_bad {s v : Int} {k : Fo} {room : Int} (h : okN s v (flen k) = false) : okW s v k room = false := by simp [okW, h]
theorem okW_small {s v : Int} {k : Fo} {room : Int} (h : room < 1) : okW s v k room = false := by
  unfold okW
  rw [decide_eq_false (by omega)]
  simp
theorem nwPost_no {s v : Int} {k : Fo} {room r' : Int} {br : Nat} {w w' : World} {nv : Value} (h : okW s v k room = false) (hb : Below w.heap.size (w.setCell ⟨br, 0, none⟩ (.int .i64 r')) w') :
    NwPost s v k room br w (.returned (.tuple #[nv, .bool false])) w' := ⟨nv, r', by rw [h], hb, fun h' => by rw [h] at h'; cases h'⟩

theorem vheads (v : Int) (n : Nat) : (decide (0 ≤ v) = false ∧ okN 0 v n = false) ∨ (decide (0 ≤ v) = true ∧ decide (v < 12) = false ∧ okN 0 v n = false) ∨
    (decide (0 ≤ v) = true ∧ decide (v < 12) = true ∧ ((n : Int) == 0) = false ∧ okN 0 v n = false) ∨ (decide (0 ≤ v) = true ∧ decide (v < 12) = true ∧ ((n : Int) == 0) = true ∧ okN 0 v n = true) := by
  by_cases h1 : 0 ≤ v
  · by_cases h2 : v < 12
    · by_cases h3 : (n : Int) = 0
      · exact .inr (.inr (.inr ⟨decide_eq_true h1, decide_eq_true h2, by simpa using h3, (okN_iff _ _ _).2 ⟨by simpa [ar] using h3, fun _ => ⟨h1, by omega⟩, fun h => absurd rfl h⟩⟩))
      · exact .inr (.inr (.inl ⟨decide_eq_true h1, decide_eq_true h2, by simpa using h3, (okN_f _ _ _).2 fun h => h3 (by simpa [ar] using h.1)⟩))
    · exact .inr (.inl ⟨decide_eq_true h1, decide_eq_false h2, (okN_f _ _ _).2 fun h => h2 (by have := (h.2.1 rfl).2; omega)⟩)
  · exact .inl ⟨decide_eq_false h1, (okN_f _ _ _).2 fun h => h1 (h.2.1 rfl).1⟩
theorem sheads {s : Int} (hs : s ≠ 0) (v : Int) (n : Nat) : ((v != 0) = true ∧ okN s v n = false) ∨ ((v != 0) = false ∧ ((n : Int) != ar s) = true ∧ okN s v n = false) ∨ ((v != 0) = false ∧ ((n : Int) != ar s) = false ∧ okN s v n = true) := by
  by_cases h1 : v = 0
  · by_cases h2 : (n : Int) = ar s
    · exact .inr (.inr ⟨by simp [h1], by simp [h2], (okN_iff _ _ _).2 ⟨h2, fun h => absurd h hs, fun _ => h1⟩⟩)
    · exact .inr (.inl ⟨by simp [h1], by simp [h2], (okN_f _ _ _).2 fun h => h2 h.1⟩)
  · exact .inl ⟨by simp [h1], (okN_f _ _ _).2 fun h => h1 (h.2.2 hs)⟩

theorem Tryz.infoNode : (Tryz.prog.info? 54).map (fun i => (i.zero, i.size, i.bytes)) = some (some .nilIface, 1, 16) := by kernel_rfl

/-- What holds at the head of nodeWithin's loop. -/
structure NwAt (w u : World) (k : Fo) (room : Int) (br : Nat) (box : Obj) (j : Nat) (r : Int) (wr : World) : Prop where
  r0 : 0 ≤ r
  r1 : r < room
  ok : fok k = fok (fdrop j k)
  sz : (fsz k : Int) + r = room - 1 + fsz (fdrop j k)
  below : Below (w.heap.size + 1) ((w.alloc box).setCell ⟨br, 0, none⟩ (.int .i64 r)) wr
  gsz : u.heap.size < wr.heap.size
  row : ∃ f, wr.rowIs u.heap.size 54 (flen k) f ∧ ∀ i, i < j → ∃ x y s v kk, fdrop i k = .node x y (s, v) kk (fdrop (i + 1) k) ∧ NodeC wr (u.heap.size + 1) wr.heap.size (f i) s v kk

theorem NwAt.start {w u : World} {k : Fo} {room : Int} {br : Nat} {box : Obj} (hr : 1 ≤ room) (hbr : br < w.heap.size) (hu : Below (w.heap.size + 1) ((w.setCell ⟨br, 0, none⟩ (.int .i64 (room - 1))).alloc box) u) :
    NwAt w u k room br box 0 (room - 1) (u.alloc (.cells (madeCells #[.nilIface] (flen k)) 54)) := by
  refine ⟨by omega, by omega, rfl, by simp only [fdrop]; omega, ?_, by simp, ⟨_, World.rowIs_made u .nilIface (flen k) _, fun i hi => by omega⟩⟩
  rw [World.setCell_alloc_past _ _ _ _ hbr]
  exact hu.alloc (by have := hu.size; simp at this; omega) _
theorem NwAt.room {w u wr : World} {k : Fo} {room r : Int} {br j : Nat} {box : Obj} (h : NwAt w u k room br box j r wr) (hbr : br < w.heap.size) (hrc : w.cell? ⟨br, 0, none⟩ = some (.int .i64 room)) (hrf : w.frozen? ⟨br, 0, none⟩ = false) :
    wr.cell? ⟨br, 0, none⟩ = some (.int .i64 r) ∧ wr.frozen? ⟨br, 0, none⟩ = false := by
  constructor
  · rw [h.below.cell (by simp; omega)]
    exact World.cell?_setCell_same _ _ _ (u := .int .i64 room) (by rw [World.cell?_alloc_lt _ _ _ hbr]; exact hrc)
  · rw [h.below.frozen (by simp; omega), World.frozen?_setCell, World.frozen?_alloc_old _ _ _ (by simp; omega)]
    exact hrf
theorem NwAt.same {w u wr : World} {k : Fo} {room r : Int} {br j B : Nat} {box : Obj} (h : NwAt w u k room br box j r wr) (hbr : br < w.heap.size) (hB : B ≤ br) : Same 0 B w wr := fun b _ hb => by
  rw [h.below.block b (by omega), Below.heap_setCell _ _ _ _ (by simp; omega), Below.heap_alloc _ _ _ (by omega)]
theorem NwAt.box {w u wr : World} {k : Fo} {room r : Int} {br j : Nat} {x y z : Value} {T : TypeId} (h : NwAt w u k room br (.cells #[x, y, z] T) j r wr) (hbr : br < w.heap.size) :
    wr.cell? ⟨w.heap.size, 0, none⟩ = some x ∧ wr.cell? ⟨w.heap.size, 1, none⟩ = some y ∧ wr.cell? ⟨w.heap.size, 2, none⟩ = some z := by
  refine ⟨?_, ?_, ?_⟩
  all_goals
    rw [h.below.cell (by simp), World.cell?_setCell_other _ _ _ _ (by intro h'; have := congrArg Addr.block h'; simp at this; omega)]
    simp
/-- What the call for kid j leaves, not yet stored. -/
theorem NwAt.called {w u wr w2 : World} {k : Fo} {room r r' : Int} {br j : Nat} {box o : Obj} (h : NwAt w u k room br box j r wr) (hbr : br < w.heap.size) (hsz : w.heap.size < u.heap.size)
    (hb : Below (wr.alloc o).heap.size ((wr.alloc o).setCell ⟨br, 0, none⟩ (.int .i64 r')) w2) :
    Below (w.heap.size + 1) ((w.alloc box).setCell ⟨br, 0, none⟩ (.int .i64 r')) w2 ∧ wr.heap.size < w2.heap.size ∧ Same (u.heap.size + 1) wr.heap.size wr w2 ∧
      ∃ f, w2.rowIs u.heap.size 54 (flen k) f ∧ ∀ i, i < j → ∃ x y s v kk, fdrop i k = .node x y (s, v) kk (fdrop (i + 1) k) ∧ NodeC w2 (u.heap.size + 1) w2.heap.size (f i) s v kk := by
  have hs1 := h.below.size
  have hs2 := hb.size
  simp at hs1 hs2
  have hg := h.gsz
  have hsame : Same (u.heap.size + 1) wr.heap.size wr w2 := fun b h1 h2 => by
    rw [hb.block b (by simp; omega), Below.heap_setCell _ _ _ _ (by simp; omega), Below.heap_alloc _ _ _ h2]
  refine ⟨bl_room (h.below.alloc (by omega) o) hb (by simp; omega), by omega, hsame, ?_⟩
  obtain ⟨f, hf, hall⟩ := h.row
  refine ⟨f, ((hf.alloc o).setOther (by simp; omega) _).of_block (hb.block _ (by simp; omega)), fun i hi => ?_⟩
  obtain ⟨x, y, s, v, kk, e, hn⟩ := hall i hi
  exact ⟨x, y, s, v, kk, e, (hn.same hsame).mono (Nat.le_refl _) (by omega)⟩

theorem okW_iff (s v : Int) (k : Fo) (room : Int) : okW s v k room = true ↔ okN s v (flen k) = true ∧ fok k = true ∧ 1 + (fsz k : Int) ≤ room := by
  simp only [okW, Bool.and_eq_true, decide_eq_true_eq]
  exact and_assoc
theorem NwAt.fail {w u wr : World} {s v : Int} {k : Fo} {room r : Int} {br j x y : Nat} {box : Obj} {s' v' : Int} {kk rest : Fo} (h : NwAt w u k room br box j r wr) (hd : fdrop j k = .node x y (s', v') kk rest) (hf : okW s' v' kk r = false) :
    okW s v k room = false := by
  cases ht : okW s v k room with
  | false => rfl
  | true =>
    obtain ⟨_, h2, h3⟩ := (okW_iff _ _ _ _).1 ht
    have h4 := h.ok
    have h5 := h.sz
    rw [hd] at h4 h5
    rw [h2] at h4
    simp only [fok, fsz] at h4 h5
    have h6 := h4.symm
    simp only [Bool.and_eq_true] at h6
    rw [(okW_iff s' v' kk r).2 ⟨h6.1.1, h6.1.2, by omega⟩] at hf
    cases hf
theorem NwAt.step {w u wr w2 : World} {k : Fo} {room r r' : Int} {br j x y : Nat} {box : Obj} {s' v' : Int} {kk : Fo} {nv : Value} {f : Nat → Value} (h : NwAt w u k room br box j r wr) (hsz : w.heap.size < u.heap.size)
    (hd : fdrop j k = .node x y (s', v') kk (fdrop (j + 1) k)) (hok : okW s' v' kk r = true) (hr : r' = r - (1 + fsz kk)) (hbl : Below (w.heap.size + 1) ((w.alloc box).setCell ⟨br, 0, none⟩ (.int .i64 r')) w2) (hw : wr.heap.size < w2.heap.size)
    (hf : w2.rowIs u.heap.size 54 (flen k) f) (hall : ∀ i, i < j → ∃ x y s v kk, fdrop i k = .node x y (s, v) kk (fdrop (i + 1) k) ∧ NodeC w2 (u.heap.size + 1) w2.heap.size (f i) s v kk)
    (hn : NodeC w2 (u.heap.size + 1) w2.heap.size nv s' v' kk) : NwAt w u k room br box (j + 1) r' (w2.setCell ⟨u.heap.size, j, none⟩ nv) := by
  obtain ⟨h1, h2, h3⟩ := (okW_iff _ _ _ _).1 hok
  have h4 := h.ok
  have h5 := h.sz
  have h6 := h.gsz
  have h7 := h.r1
  rw [hd] at h4 h5
  simp only [fok, fsz, h1, h2, Bool.true_and] at h4 h5
  have hs : Same (u.heap.size + 1) w2.heap.size w2 (w2.setCell ⟨u.heap.size, j, none⟩ nv) := Same.setCell (fun _ _ _ => rfl) (.inl (by simp)) _
  refine ⟨by omega, by omega, h4, by omega, hbl.setCell (by simp; omega) _, by simp; omega, ⟨_, hf.set j nv, fun i hi => ?_⟩⟩
  rw [World.size_setCell]
  by_cases hij : i = j
  · subst hij
    exact ⟨x, y, s', v', kk, hd, by simp only [if_true]; exact hn.same hs⟩
  · obtain ⟨x', y', s2, v2, k2, e, hn2⟩ := hall i (by omega)
    exact ⟨x', y', s2, v2, k2, e, by simp only [if_neg hij]; exact hn2.same hs⟩
theorem NwAt.done {w u wr : World} {s v : Int} {k : Fo} {room r : Int} {br j : Nat} {box : Obj} (h : NwAt w u k room br box j r wr) (hs : s ≠ 0) (hbr : br < w.heap.size) (hsz : w.heap.size < u.heap.size) (hj : flen k ≤ j) (hok : okN s v (flen k) = true) :
    NwPost s v k room br w (.returned (.tuple #[.iface 83 (.agg #[.int .i64 s, .slice (some ⟨u.heap.size, 0, none⟩) (flen k) (flen k)]), .bool true])) wr := by
  have h4 := h.ok
  have h5 := h.sz
  have h6 := h.r0
  rw [fdrop_all hj] at h4 h5
  simp only [fok, fsz] at h4 h5
  have hw : okW s v k room = true := (okW_iff _ _ _ _).2 ⟨hok, h4, by omega⟩
  refine ⟨_, r, by rw [hw], ?_, fun _ => ⟨by omega, .inr ⟨hs, _, _, rfl, Nat.le_refl _, .inr ⟨_, _, rfl, ?_⟩⟩⟩⟩
  · have := h.below
    rw [World.setCell_alloc_past _ _ _ _ hbr] at this
    exact after_top2 (by simp) this
  · obtain ⟨f, hf, hall⟩ := h.row
    refine crow_of_all k _ _ (by omega) h.gsz fun i hi => ?_
    obtain ⟨x, y, s', v', kk, e, hn⟩ := hall i (by omega)
    exact ⟨x, y, s', v', kk, e, f i, by rw [Nat.zero_add]; exact hf.cell hi, hn.mono (by omega) (Nat.le_refl _)⟩

set_option maxRecDepth 100000 in
set_option maxHeartbeats 1000000 in
theorem nodeWithin_any (N : Nat) : ∀ (s v : Int) (a : Option Addr) (c : Nat) (k : Fo) (room : Int) (br B : Nat) (w : World), Sl w 0 B a k → B ≤ br → br < w.heap.size → 0 ≤ room → room ≤ 1000 → room ≤ N →
    w.cell? ⟨br, 0, none⟩ = some (.int .i64 room) → w.frozen? ⟨br, 0, none⟩ = false →
    Calls Tryz.prog 39 #[.agg #[.int .i64 s, .int .i64 v, .slice a (flen k) c], .pointer (some ⟨br, 0, none⟩)] w (NwPost s v k room br w) := by
  induction N with
  | zero =>
    intro s v a c k room br B w hl hB hbr h1 h2 h3 hrc hrf
    have e1 : decide (room < 1) = true := by simp; omega
    go_enter Tryz.func39, Tryz.ntmps39
    go_wp2_with fail
    go_ret2
    exact nwPost_no (okW_small (by omega)) (bl_self ((Below.refl _ _).alloc (Nat.le_refl _) _) hrc)
  | succ N ih =>
    intro s v a c k room br B w hl hB hbr h1 h2 h3 hrc hrf
    have IH := Lib.hid ih
    clear ih
    by_cases hz : room < 1
    · have e1 : decide (room < 1) = true := by simp; omega
      go_enter Tryz.func39, Tryz.ntmps39
      go_wp2_with fail
      go_ret2
      exact nwPost_no (okW_small (by omega)) (bl_self ((Below.refl _ _).alloc (Nat.le_refl _) _) hrc)
    have e1 : decide (room < 1) = false := by simp; omega
    have hn : (w.setCell ⟨br, 0, none⟩ (.int .i64 (room - 1))).heap.size = w.heap.size := by simp [World.setCell]
    have HN := Lib.hid hn
    have hc := fun u => @box_cells2 _ _ hn (.int .i64 s) (.int .i64 v) (.slice a (flen k) c) 25 u
    have hc0 := fun u => (hc u).1
    have hc1 := fun u => (hc u).2.1
    have hc2 := fun u => (hc u).2.2
    have HC := Lib.hid hc
    clear hc hn
    by_cases hs : s = 0
    · subst hs
      rcases vheads v (flen k) with ⟨g1, hok⟩ | ⟨g1, g2, hok⟩ | ⟨g1, g2, g3, hok⟩ | ⟨g1, g2, g3, hok⟩
      iterate 3
        · have HO := Lib.hid hok
          clear hok
          go_enter Tryz.func39, Tryz.ntmps39
          go_wp2_with fail
          refine wp_region_after (w.heap.size + 1) (by kernel_rfl) (by kernel_rfl) ?_
          repeat (go_big_quiet_step (fail))
          refine wpQuiet_nil ?_
          rintro _ ⟨u, rfl⟩
          go_wp2_with fail
          go_ret2
          exact nwPost_no (okW_bad HO.out) (after_top2 HN.out u.below)
      · have HO := Lib.hid hok
        clear hok
        go_enter Tryz.func39, Tryz.ntmps39
        go_wp2_with fail
        refine wp_region_after (w.heap.size + 1) (by kernel_rfl) (by kernel_rfl) ?_
        repeat (go_big_quiet_step (fail))
        refine wpQuiet_nil ?_
        rintro _ ⟨u, rfl⟩
        go_wp2_with fail
        go_ret2
        have hk : k = .nil := by
          cases k with
          | nil => rfl
          | node => simp [flen] at g3; omega
        subst hk
        have ew : okW 0 v .nil room = true := by
          have := HO.out
          simp only [okW, this, fok, fsz, Bool.and_true, Bool.true_and]
          exact decide_eq_true (by omega)
        exact ⟨_, _, by rw [ew]; rfl, after_top2 HN.out u.below, fun _ => ⟨by simp [fsz], .inl ⟨rfl, rfl, rfl⟩⟩⟩
    · have gs : (s == 0) = false := by simpa using hs
      rcases sheads hs v (flen k) with ⟨g1, hok⟩ | ⟨g1, g2, hok⟩ | ⟨g1, g2, hok⟩
      iterate 2
        · have HO := Lib.hid hok
          clear hok
          go_enter Tryz.func39, Tryz.ntmps39
          go_wp2_with fail
          refine wp_region_after (w.heap.size + 1) (by kernel_rfl) (by kernel_rfl) ?_
          repeat (go_big_quiet_step ((go_at_call 44; exact Calls.after_same (arityOf_any _ _ hs))))
          refine wpQuiet_nil ?_
          rintro _ ⟨u, rfl⟩
          go_wp2_with fail
          go_ret2
          exact nwPost_no (okW_bad HO.out) (after_top2 HN.out u.below)
      · have hk2 : flen k ≤ 2 := okN_le hok
        have HO := Lib.hid hok
        clear hok
        have hmk := run_make_row' (P := Tryz.prog) 81 54 .nilIface 16 Tryz.underlying81 Tryz.infoNode rfl .i64 .i64 (flen k) (by omega) (by omega)
        go_enter Tryz.func39, Tryz.ntmps39
        go_wp2_with fail
        refine wp_region_after (w.heap.size + 1) (by kernel_rfl) (by kernel_rfl) ?_
        repeat (go_big_quiet_step ((go_at_call 44; exact Calls.after_same (arityOf_any _ _ hs))))
        refine wpQuiet_nil ?_
        rintro u ⟨⟨_, hu⟩, rfl⟩
        have hu0 := hc0 ⟨u, hu⟩
        have hu1 := hc1 ⟨u, hu⟩
        have hu2 := hc2 ⟨u, hu⟩
        dsimp only at hu0 hu1 hu2
        clear hc0 hc1 hc2
        have hsz : w.heap.size < u.heap.size := by have := hu.size; simp at this; omega
        have hsb : br < u.heap.size := by omega
        have hst := NwAt.start (k := k) (by omega) hbr hu
        have HST := Lib.hid hst
        clear hst
        go_wp2_with fail
        go_loopw [59] (fun i wr => ∃ (j : Nat) (r : Int), j ≤ flen k ∧ i = .int .i64 j ∧ NwAt w u k room br (.cells #[.int .i64 s, .int .i64 v, .slice a (flen k) c] 25) j r wr) (fun i _ => flen k - (intOf i).toNat)
        case atStart => exact ⟨0, _, Nat.zero_le _, rfl, HST.out⟩
        case round =>
          clear hu0 hu1 hu2 hu HST
          obtain ⟨j, r, hj, rfl, hat⟩ := hrel
          obtain ⟨hr1, hr2⟩ := hat.room hbr hrc hrf
          obtain ⟨hu0, hu1, hu2⟩ := hat.box hbr
          have hr0 := hat.r0
          have hr3 := hat.r1
          have hgs := hat.gsz
          by_cases hlt : j < flen k
          · rcases hl with rfl | ⟨b, o, rfl, hrow⟩
            · simp [flen] at hlt
            obtain ⟨s', v', kk, a', c', ⟨x, y, hd⟩, _, hbB, hk0, hk1, hk2', hsl⟩ := row_at (hrow.same (hat.same hbr hB)) hlt
            have HD := Lib.hid hd
            have HS := Lib.hid hsl
            clear hd hsl
            go_wp2_with fail
            with_reducible refine (IH.out s' v' a' c' kk r br B _ ?_ ?_ ?_ ?_ ?_ ?_ ?_ ?_).mono ?_
            · exact HS.out.below ((Below.refl _ _).alloc (by omega) _)
            · omega
            · simp; omega
            · omega
            · omega
            · omega
            · rw [World.cell?_alloc_lt _ _ _ (by simp; omega)]; exact hr1
            · rw [World.frozen?_alloc_old _ _ _ (by simp; omega)]; exact hr2
            rintro e w2 ⟨nv, r', rfl, hb2, hyes⟩
            obtain ⟨hbl, hwsz, hsame, f, hf, hall⟩ := hat.called hbr hsz hb2
            cases hok2 : okW s' v' kk r with
            | false =>
              have hno : Hid (okW s v k room = false) := hat.fail HD.out hok2
              clear hyes hall
              go_wp2_with fail
              go_ret2
              refine nwPost_no (r' := r') hno.out ?_
              rw [World.setCell_alloc_past _ _ _ _ hbr] at hbl
              exact after_top2 (by simp) hbl
            | true =>
              obtain ⟨hr', hn⟩ := hyes hok2
              have hstep := hat.step hsz HD.out hok2 hr' hbl hwsz hf hall (hn.mono (by simp; omega) (Nat.le_refl _))
              have HST := Lib.hid hstep
              have hgc := hf.cell hlt
              have hgf := hf.frozen j
              clear hr' hyes hall hstep
              rcases hn with ⟨hs', _, rfl⟩ | ⟨hs', a2, c2, rfl, hn2⟩
              all_goals
                go_wp2_with fail
                go_roundw
                case rel => exact ⟨j + 1, _, by omega, by go_num, HST.out⟩
                case measure => simp [intOf]; omega
          · have hdn := hat.done hs hbr hsz (by omega) HO.out
            have HDN := Lib.hid hdn
            clear hdn
            go_wp2_with fail
            go_ret2
            exact HDN.out
end Go.Proofs.YtbnbogdglffkmaaGreatDoor

/-! FK: The kids of a well-formed term are. -/
namespace Go.Proofs.YtbnbogdglffkmaaGreatDoor
open Go.RowKit Go.Deep

theorem fok_kid {i : Nat} {k : Fo} {x y : Nat} {s v : Int} {kk r : Fo} (h : fok k = true) (hd : fdrop i k = .node x y (s, v) kk r) : okN s v (flen kk) = true ∧ fok kk = true := by
  have hf : ∀ (i : Nat) (k : Fo), fok k = true → fok (fdrop i k) = true := by
    intro i
    induction i with
    | zero => intro k h; exact h
    | succ n ih =>
      intro k h
      cases k with
      | nil => rfl
      | node _ _ p kk r => simp only [fok, Bool.and_eq_true] at h; exact ih r h.2
  have h4 := hf i k h
  rw [hd] at h4
  simp only [fok, Bool.and_eq_true] at h4
  exact h4.1
end Go.Proofs.YtbnbogdglffkmaaGreatDoor

/-! T0: The text of a term, as plain data. Definitions and plain lemmas. -/
namespace Go.Proofs.YtbnbogdglffkmaaGreatDoor
open Go.RowKit Go.Deep

def ltr (s : Int) : List UInt8 := if s = 1 then [97] else if s = 2 then [98] else if s = 3 then [103] else [102]
def tx1 (s v : Int) (ks : List (List UInt8)) : List UInt8 :=
  if s = 0 then 120 :: Lib.decDigits v.toNat else if ks = [] then ltr s else ltr s ++ ([40] ++ (Lib.join ks [44] ++ [41]))
/-- The texts of a list of terms. -/
def fts : Fo → List (List UInt8)
  | .nil => []
  | .node _ _ p k r => tx1 p.1 p.2 (fts k) :: fts r
/-- The text of a term. -/
def tx (s v : Int) (k : Fo) : List UInt8 := tx1 s v (fts k)
def str (l : List UInt8) : ByteArray := ⟨l.toArray⟩

theorem fts_len : ∀ k : Fo, (fts k).length = flen k
  | .nil => rfl
  | .node _ _ _ _ r => by simp [fts, flen, fts_len r]
theorem fts_nil {k : Fo} : fts k = [] ↔ flen k = 0 := by rw [← fts_len, List.length_eq_zero_iff]
theorem tx_var (v : Int) : tx 0 v .nil = 120 :: Lib.decDigits v.toNat := by simp [tx, tx1]
theorem tx_leaf {s v : Int} {k : Fo} (hs : s ≠ 0) (hk : flen k = 0) : tx s v k = ltr s := by
  unfold tx tx1
  rw [if_neg hs, if_pos (fts_nil.2 hk)]
theorem tx_kids {s v : Int} {k : Fo} (hs : s ≠ 0) (hk : flen k ≠ 0) : tx s v k = ltr s ++ ([40] ++ (Lib.join (fts k) [44] ++ [41])) := by
  unfold tx tx1
  rw [if_neg hs, if_neg fun h => hk (fts_nil.1 h)]
theorem str_add (l m : List UInt8) : str l ++ str m = str (l ++ m) := by
  apply ByteArray.ext
  rw [ByteArray.data_append]
  simp [str]
theorem str_size (l : List UInt8) : (str l).size = l.length := by simp [str, ByteArray.size]

theorem fts_at : ∀ (j : Nat) (k : Fo) {x y : Nat} {s v : Int} {kk r : Fo}, fdrop j k = .node x y (s, v) kk r → (fts k)[j]? = some (tx s v kk)
  | 0, .nil, _, _, _, _, _, _, h => by simp [fdrop] at h
  | 0, .node _ _ p k r, x, y, s, v, kk, r', h => by
    simp only [fdrop, BT.node.injEq] at h
    obtain ⟨_, _, rfl, rfl, _⟩ := h
    rfl
  | _ + 1, .nil, _, _, _, _, _, _, h => by simp [fdrop] at h
  | n + 1, .node _ _ _ _ r, _, _, _, _, _, _, h => by
    simp only [fdrop] at h
    simpa [fts] using fts_at n r h

theorem dec_len {n : Nat} (h : n < 100) : (Lib.decDigits n).length ≤ 2 := by
  unfold Lib.decDigits
  split
  · simp
  · unfold Lib.decDigits
    rw [dif_pos (by omega)]
    simp
theorem ltr_len (s : Int) : (ltr s).length = 1 := by
  unfold ltr
  split
  · rfl
  · split
    · rfl
    · split <;> rfl
def lens (ks : List (List UInt8)) : Nat := (ks.map List.length).sum
theorem join_len : ∀ ks : List (List UInt8), (Lib.join ks [44]).length ≤ lens ks + ks.length
  | [] => by simp [Lib.join_nil]
  | [x] => by simp [Lib.join_one, lens]
  | x :: y :: r => by
    have := join_len (y :: r)
    rw [Lib.join_cons] at this ⊢
    simp only [Lib.joinTail, lens, List.map_cons, List.flatten_cons, List.length_append, List.sum_cons, List.length_cons, List.length_nil] at this ⊢
    omega
/-- Well-formed terms have short texts. -/
theorem fts_short : ∀ k : Fo, fok k = true → lens (fts k) + (fts k).length ≤ 6 * fsz k
  | .nil, _ => by simp [fts, lens]
  | .node x y p k r, h => by
    simp only [fok, Bool.and_eq_true] at h
    have hk := fts_short k h.1.2
    have hr := fts_short r h.2
    have hj := join_len (fts k)
    have hl := ltr_len p.1
    have : (tx1 p.1 p.2 (fts k)).length ≤ 5 + 6 * fsz k := by
      unfold tx1
      split
      · rename_i h0
        have hv := ((okN_iff _ _ _).1 h.1.1).2.1 h0
        have := dec_len (n := p.2.toNat) (by omega)
        simp; omega
      · split
        · omega
        · simp only [List.length_append, List.length_cons, List.length_nil]; omega
    simp only [fts, fsz, lens, List.map_cons, List.sum_cons, List.length_cons] at hr ⊢
    omega
end Go.Proofs.YtbnbogdglffkmaaGreatDoor

/-! T4: Terms are the same just if their texts are: plain lemmas. -/
namespace Go.Proofs.YtbnbogdglffkmaaGreatDoor
open Go.RowKit Go.Deep

/-- Terms without the marks of where they were. -/
def fer : Fo → Fo
  | .nil => .nil
  | .node _ _ p k r => .node 0 0 p (fer k) (fer r)

theorem fo_none {k : Fo} (h : flen k = 0) : k = .nil := by
  cases k with
  | nil => rfl
  | node => simp [flen] at h
theorem fo_one {k : Fo} (h : flen k = 1) : ∃ x y p kk, k = .node x y p kk .nil := by
  cases k with
  | nil => simp [flen] at h
  | node x y p kk r =>
    obtain rfl := fo_none (k := r) (by simp [flen] at h; omega)
    exact ⟨x, y, p, kk, rfl⟩
theorem fo_two {k : Fo} (h : flen k = 2) : ∃ x y p kk x' y' p' kk', k = .node x y p kk (.node x' y' p' kk' .nil) := by
  cases k with
  | nil => simp [flen] at h
  | node x y p kk r =>
    obtain ⟨x', y', p', kk', rfl⟩ := fo_one (k := r) (by simp [flen] at h; omega)
    exact ⟨x, y, p, kk, x', y', p', kk', rfl⟩

/-- What a well-formed term looks like. -/
inductive Shape : Int → Int → Fo → Prop
  | var (v : Int) (h0 : 0 ≤ v) (h1 : v ≤ 11) : Shape 0 v .nil
  | leaf (s : Int) (h : s = 1 ∨ s = 2) : Shape s 0 .nil
  | one (x y : Nat) (p : Int × Int) (k : Fo) (h : okN p.1 p.2 (flen k) = true) (hk : fok k = true) : Shape 3 0 (.node x y p k .nil)
  | two (x y : Nat) (p : Int × Int) (k : Fo) (x' y' : Nat) (p' : Int × Int) (k' : Fo) (h : okN p.1 p.2 (flen k) = true) (hk : fok k = true) (h' : okN p'.1 p'.2 (flen k') = true) (hk' : fok k' = true) : Shape 4 0 (.node x y p k (.node x' y' p' k' .nil))

theorem shape_of {s v : Int} {k : Fo} (h : okN s v (flen k) = true) (hk : fok k = true) : Shape s v k := by
  obtain ⟨h1, h2, h3⟩ := (okN_iff _ _ _).1 h
  unfold ar at h1
  by_cases h0 : s = 0
  · subst h0
    obtain rfl := fo_none (k := k) (by simp at h1; omega)
    exact .var v (h2 rfl).1 (h2 rfl).2
  · obtain rfl := h3 h0
    split at h1
    · obtain rfl := fo_none (k := k) (by omega)
      exact .leaf s (by omega)
    · split at h1
      · rename_i h3'
        subst h3'
        obtain ⟨x, y, p, kk, rfl⟩ := fo_one (k := k) (by omega)
        simp only [fok, Bool.and_eq_true] at hk
        exact .one x y p kk hk.1.1 hk.1.2
      · split at h1
        · rename_i h4'
          subst h4'
          obtain ⟨x, y, p, kk, x', y', p', kk', rfl⟩ := fo_two (k := k) (by omega)
          simp only [fok, Bool.and_eq_true] at hk
          exact .two x y p kk x' y' p' kk' hk.1.1 hk.1.2 hk.2.1.1 hk.2.1.2
        · omega

/-- It does not begin with a digit. -/
def nd (l : List UInt8) : Prop := ∀ b r, l = b :: r → b.toNat < 48 ∨ 57 < b.toNat
theorem nd_of {b : UInt8} {r : List UInt8} (h : b.toNat < 48 ∨ 57 < b.toNat) : nd (b :: r) := fun b' r' e => by
  obtain ⟨rfl, _⟩ := List.cons.inj e
  exact h
theorem nd_nil : nd [] := fun b r e => by cases e

theorem digit_toNat {n : Nat} (h : n < 10) : (UInt8.ofNat (48 + n)).toNat = 48 + n := by
  simp [UInt8.toNat_ofNat]
  omega
theorem dec_small {n : Nat} (h : n < 10) : Lib.decDigits n = [UInt8.ofNat (48 + n)] := by
  unfold Lib.decDigits
  rw [dif_pos h]
theorem dec_great {n : Nat} (h : 10 ≤ n) (h1 : n < 20) : Lib.decDigits n = [UInt8.ofNat (48 + 1), UInt8.ofNat (48 + (n - 10))] := by
  unfold Lib.decDigits
  rw [dif_neg (by omega), show n / 10 = 1 from by omega, dec_small (by omega), show n % 10 = n - 10 from by omega]
  rfl
theorem dec_inj {m n : Nat} {r r' : List UInt8} (hm : m < 12) (hn : n < 12) (hr : nd r) (hr' : nd r') (h : Lib.decDigits m ++ r = Lib.decDigits n ++ r') : m = n ∧ r = r' := by
  by_cases h1 : m < 10
  · rw [dec_small h1] at h
    by_cases h2 : n < 10
    · rw [dec_small h2] at h
      obtain ⟨e1, e2⟩ := List.cons.inj h
      have := congrArg UInt8.toNat e1
      rw [digit_toNat h1, digit_toNat h2] at this
      exact ⟨by omega, e2⟩
    · rw [dec_great (by omega) (by omega)] at h
      obtain ⟨_, e2⟩ := List.cons.inj h
      have := hr _ _ e2
      rw [digit_toNat (by omega)] at this
      omega
  · rw [dec_great (by omega) (by omega)] at h
    by_cases h2 : n < 10
    · rw [dec_small h2] at h
      obtain ⟨_, e2⟩ := List.cons.inj h
      have := hr' _ _ e2.symm
      rw [digit_toNat (by omega)] at this
      omega
    · rw [dec_great (by omega) (by omega)] at h
      obtain ⟨_, e2⟩ := List.cons.inj h
      obtain ⟨e3, e4⟩ := List.cons.inj e2
      have := congrArg UInt8.toNat e3
      rw [digit_toNat (by omega), digit_toNat (by omega)] at this
      exact ⟨by omega, e4⟩

theorem tx_l1 : tx 1 0 .nil = [97] := rfl
theorem tx_l2 : tx 2 0 .nil = [98] := rfl
theorem tx_one {x y : Nat} {p : Int × Int} {k : Fo} : tx 3 0 (.node x y p k .nil) = 103 :: 40 :: (tx p.1 p.2 k ++ [41]) := by
  rw [tx_kids (by decide) (by simp [flen])]
  simp only [fts, Lib.join_one]
  rfl
theorem tx_two {x y : Nat} {p : Int × Int} {k : Fo} {x' y' : Nat} {p' : Int × Int} {k' : Fo} : tx 4 0 (.node x y p k (.node x' y' p' k' .nil)) = 102 :: 40 :: (tx p.1 p.2 k ++ (44 :: (tx p'.1 p'.2 k' ++ [41]))) := by
  rw [tx_kids (by decide) (by simp [flen])]
  simp only [fts, Lib.join_cons, Lib.joinTail, List.map_cons, List.map_nil, List.flatten_cons, List.flatten_nil]
  simp [ltr, tx]

theorem tx_inj (N : Nat) : ∀ (s v : Int) (k : Fo) (s' v' : Int) (k' : Fo) (r r' : List UInt8), Shape s v k → Shape s' v' k' → fsz k ≤ N → nd r → nd r' → tx s v k ++ r = tx s' v' k' ++ r' → s = s' ∧ v = v' ∧ fer k = fer k' ∧ r = r' := by
  induction N using Nat.strongRecOn with
  | _ N ih =>
    intro s v k s' v' k' r r' h h' hN hr hr' he
    have nd41 : ∀ q, nd (41 :: q) := fun q => nd_of (by decide)
    have nd44 : ∀ q, nd (44 :: q) := fun q => nd_of (by decide)
    cases h with
    | var _ h0 h1 =>
      rw [tx_var] at he
      cases h' with
      | var _ h0' h1' =>
        rw [tx_var] at he
        obtain ⟨e1, e2⟩ := dec_inj (by omega) (by omega) hr hr' (List.cons.inj he).2
        exact ⟨rfl, by omega, rfl, e2⟩
      | leaf _ hs =>
        rcases hs with rfl | rfl
        · simp [tx_l1] at he
        · simp [tx_l2] at he
      | one => rw [tx_one] at he; simp at he
      | two => rw [tx_two] at he; simp at he
    | leaf _ hs =>
      cases h' with
      | var _ h0' h1' =>
        rw [tx_var] at he
        rcases hs with rfl | rfl
        · simp [tx_l1] at he
        · simp [tx_l2] at he
      | leaf _ hs' =>
        rcases hs with rfl | rfl <;> rcases hs' with rfl | rfl
        all_goals simp [tx_l1, tx_l2] at he
        all_goals exact ⟨rfl, rfl, rfl, he⟩
      | one =>
        rw [tx_one] at he
        rcases hs with rfl | rfl
        · simp [tx_l1] at he
        · simp [tx_l2] at he
      | two =>
        rw [tx_two] at he
        rcases hs with rfl | rfl
        · simp [tx_l1] at he
        · simp [tx_l2] at he
    | one x y p kk ho hk =>
      rw [tx_one] at he
      cases h' with
      | var => rw [tx_var] at he; simp at he
      | leaf _ hs =>
        rcases hs with rfl | rfl
        · simp [tx_l1] at he
        · simp [tx_l2] at he
      | one x' y' p' kk' ho' hk' =>
        rw [tx_one] at he
        simp only [List.append_assoc, List.cons_append, List.nil_append, List.cons.injEq, true_and] at he
        have he2 := he
        obtain ⟨e1, e2, e3, e4⟩ := ih (fsz kk) (by simp [fsz] at hN; omega) p.1 p.2 kk p'.1 p'.2 kk' _ _ (shape_of ho hk) (shape_of ho' hk') (Nat.le_refl _) (nd41 _) (nd41 _) he2
        exact ⟨rfl, rfl, by simp only [fer]; rw [e3, Prod.ext e1 e2], (List.cons.inj e4).2⟩
      | two => rw [tx_two] at he; simp at he
    | two x y p kk x2 y2 p2 kk2 ho hk ho2 hk2 =>
      rw [tx_two] at he
      cases h' with
      | var => rw [tx_var] at he; simp at he
      | leaf _ hs =>
        rcases hs with rfl | rfl
        · simp [tx_l1] at he
        · simp [tx_l2] at he
      | one => rw [tx_one] at he; simp at he
      | two x' y' p' kk' x2' y2' p2' kk2' ho' hk' ho2' hk2' =>
        rw [tx_two] at he
        simp only [List.append_assoc, List.cons_append, List.nil_append, List.cons.injEq, true_and] at he
        have he2 := he
        simp only [fsz] at hN
        obtain ⟨e1, e2, e3, e4⟩ := ih (fsz kk) (by omega) p.1 p.2 kk p'.1 p'.2 kk' _ _ (shape_of ho hk) (shape_of ho' hk') (Nat.le_refl _) (nd44 _) (nd44 _) he2
        obtain ⟨f1, f2, f3, f4⟩ := ih (fsz kk2) (by omega) p2.1 p2.2 kk2 p2'.1 p2'.2 kk2' _ _ (shape_of ho2 hk2) (shape_of ho2' hk2') (Nat.le_refl _) (nd41 _) (nd41 _) (List.cons.inj e4).2
        exact ⟨rfl, rfl, by simp only [fer]; rw [e3, Prod.ext e1 e2, f3, Prod.ext f1 f2], (List.cons.inj f4).2⟩

/-- Equal texts, equal terms. -/
theorem tx_inj' {s v : Int} {k : Fo} {s' v' : Int} {k' : Fo} (h : Shape s v k) (h' : Shape s' v' k') (he : tx s v k = tx s' v' k') : s = s' ∧ v = v' ∧ fer k = fer k' := by
  obtain ⟨h1, h2, h3, _⟩ := tx_inj (fsz k) s v k s' v' k' [] [] h h' (Nat.le_refl _) nd_nil nd_nil (by rw [he])
  exact ⟨h1, h2, h3⟩
theorem fts_fer : ∀ k : Fo, fts (fer k) = fts k
  | .nil => rfl
  | .node _ _ p k r => by simp only [fer, fts, fts_fer k, fts_fer r]
theorem tx_same {s v : Int} {k k' : Fo} (h : fer k = fer k') : tx s v k = tx s v k' := by
  unfold tx
  rw [← fts_fer k, h, fts_fer k']
end Go.Proofs.YtbnbogdglffkmaaGreatDoor

/-! WD: nodeOf, TermOk of the program and of the specification. -/
namespace Go.Proofs.YtbnbogdglffkmaaGreatDoor
open Go.RowKit Go.Deep

def NoPostC (s v : Int) (k : Fo) (room : Int) (w : World) (e : Ending) (w' : World) : Prop :=
  ∃ nv, e = .returned (.tuple #[nv, .bool (okW s v k room)]) ∧ Below w.heap.size w w' ∧ (okW s v k room = true → NodeC w' w.heap.size w'.heap.size nv s v k)
def NoPost (s v : Int) (k : Fo) (room : Int) (w : World) (e : Ending) (w' : World) : Prop :=
  ∃ nv, e = .returned (.tuple #[nv, .bool (okW s v k room)]) ∧ Below w.heap.size w w' ∧ (okW s v k room = true → NodeIs w' w.heap.size w'.heap.size nv s v k)

set_option maxRecDepth 100000 in
set_option maxHeartbeats 400000 in
theorem nodeOf_anyC (s v : Int) (a : Option Addr) (c : Nat) (k : Fo) (room : Int) (w : World) (hl : Sl w 0 w.heap.size a k) (h1 : 0 ≤ room) (h2 : room ≤ 1000) :
    Calls Tryz.prog 26 #[.agg #[.int .i64 s, .int .i64 v, .slice a (flen k) c], .int .i64 room] w (NoPostC s v k room w) := by
  go_enter Tryz.func26, Tryz.ntmps26
  go_wp2_with fail
  with_reducible refine (nodeWithin_any room.toNat s v a c k room (w.heap.size + 1) w.heap.size _ ?_ ?_ ?_ ?_ ?_ ?_ ?_ ?_).mono ?_
  · exact hl.below (((Below.refl _ _).alloc (Nat.le_refl _) _).alloc (by simp) _)
  · omega
  · simp
  · omega
  · omega
  · omega
  · simp [World.cell?_alloc_at]
  · simp [World.frozen?_alloc_at]
  rintro e w2 ⟨nv, r', rfl, hb, hyes⟩
  have hfin : NoPostC s v k room w (.returned (.tuple #[nv, .bool (okW s v k room)])) w2 := by
    refine ⟨nv, rfl, ?_, fun h => (hyes h).2.mono (by simp; omega) (Nat.le_refl _)⟩
    exact ((((Below.refl _ _).alloc (Nat.le_refl _) _).alloc (by simp) _).setCell (by simp) _).trans (hb.mono (by simp; omega))
  have HF := Lib.hid hfin
  clear hfin hyes
  go_wp2_with fail
  go_ret2
  exact HF.out
theorem nodeOf_any (s v : Int) (a : Option Addr) (c : Nat) (k : Fo) (room : Int) (w : World) (hl : Sl w 0 w.heap.size a k) (h1 : 0 ≤ room) (h2 : room ≤ 1000) :
    Calls Tryz.prog 26 #[.agg #[.int .i64 s, .int .i64 v, .slice a (flen k) c], .int .i64 room] w (NoPost s v k room w) :=
  (nodeOf_anyC s v a c k room w hl h1 h2).mono fun _ _ ⟨nv, h1, h2, h3⟩ => ⟨nv, h1, h2, fun h => (h3 h).to⟩

theorem cntT_okW (s v : Int) (k : Fo) (m : Int) : decide (cntT s v k m ≤ m) = okW s v k m := by
  cases h : okW s v k m with
  | true =>
    have h' := (okW_iff _ _ _ _).1 h
    unfold cntT
    rw [if_pos h']
    exact decide_eq_true h'.2.2
  | false =>
    unfold cntT
    rw [if_neg fun h' => by rw [(okW_iff _ _ _ _).2 h'] at h; cases h]
    exact decide_eq_false (by omega)

set_option maxHeartbeats 400000 in
theorem sTermOk_any (s v : Int) (a : Option Addr) (c : Nat) (k : Fo) (w : World) (hl : Sl w 0 w.heap.size a k) :
    Calls Tryz.prog 27 #[.agg #[.int .i64 s, .int .i64 v, .slice a (flen k) c]] w fun e w' => e = .returned (.bool (okW s v k 16)) ∧ Below w.heap.size w w' := by
  have hc := cntT_okW s v k 16
  have HC := Lib.hid hc
  clear hc
  go_enter Tryz.func27, Tryz.ntmps27
  go_wp2_with fail
  with_reducible refine (l1Count_any 16 s v a c k 16 _ ?_ ?_ ?_ ?_).mono ?_
  · exact (hl.below ((Below.refl _ _).alloc (Nat.le_refl _) _)).mono (Nat.le_refl _) (by simp)
  · omega
  · omega
  · omega
  rintro e w2 ⟨rfl, hb⟩
  go_wp2_with fail
  go_ret
  exact ⟨by rw [← HC.out]; rfl, ((Below.refl _ _).alloc (Nat.le_refl _) _).trans (hb.mono (by simp))⟩
end Go.Proofs.YtbnbogdglffkmaaGreatDoor
