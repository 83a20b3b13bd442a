/- Several texts in one: WC, WD, WE, WF. -/
import Derived.Test.YtbnbogdglffkmaaKEw1
import Derived.Deep.OwnRows

/-! WC: nodeWithin, nodeOf, TermOk. -/
namespace Go.Proofs.Ytbnbogdglffkmaa
open Go.RowKit Go.Deep

theorem bl_setBoth {B : Nat} {u v : World} (h : Below B u v) (a : Addr) (y : Value) : Below B (u.setCell a y) (v.setCell a y) := by
  refine ⟨h.os, h.tape, h.output, by simpa [World.setCell] using h.size, fun k hk => ?_⟩
  simp only [World.setCell, Array.getElem?_modify]
  rw [h.block k hk]
theorem setCell_twice (w : World) (a : Addr) (x y : Value) (k : Nat) : ((w.setCell a x).setCell a y).heap[k]? = (w.setCell a y).heap[k]? := by
  simp only [World.setCell, Array.getElem?_modify]
  split
  · cases w.heap[k]? with
    | none => rfl
    | some o => cases o <;> simp <;> split <;> simp
  · rfl
theorem setCell_self (w : World) (a : Addr) (x : Value) (h : w.cell? a = some x) (k : Nat) : (w.setCell a x).heap[k]? = w.heap[k]? := by
  simp only [World.setCell, Array.getElem?_modify]
  split
  · rename_i hk
    subst hk
    unfold World.cell? at h
    cases ho : w.heap[a.block]? with
    | none => rfl
    | some o =>
      rw [ho] at h
      cases o <;> simp at h ⊢
      obtain ⟨h1, h2⟩ := h
      intro _
      obtain ⟨hlt, hv⟩ := Array.getElem?_eq_some_iff.1 h2
      apply Array.ext
      · simp
      · intro i h1' h2'
        rw [Array.getElem_setIfInBounds]
        split
        · rename_i hi; subst hi; exact hv.symm
        · rfl
  · rfl
theorem bl_self {B : Nat} {w w' : World} {a : Addr} {x : Value} (h : Below B w w') (hc : w.cell? a = some x) : Below B (w.setCell a x) w' :=
  ⟨h.os, h.tape, h.output, by simpa [World.setCell] using h.size, fun k hk => by rw [setCell_self w a x hc]; exact h.block k hk⟩
/-- A call that writes the one cell, behind another such call. -/
theorem bl_room {B B' : Nat} {w w1 w2 : World} {a : Addr} {x y : Value} (h : Below B (w.setCell a x) w1) (h' : Below B' (w1.setCell a y) w2) (hB : B ≤ B') : Below B (w.setCell a y) w2 := by
  have g := (bl_setBoth h a y).trans (h'.mono hB)
  exact ⟨g.os, g.tape, g.output, by simpa [World.setCell] using g.size, fun k hk => by rw [g.block k hk, setCell_twice]⟩

theorem box_cells2 {W : World} {n : Nat} (hn : W.heap.size = n) {x y z : Value} {T : TypeId} (u : After (n + 1) (W.alloc (.cells #[x, y, z] T))) :
    u.world.cell? ⟨n, 0, none⟩ = some x ∧ u.world.cell? ⟨n, 1, none⟩ = some y ∧ u.world.cell? ⟨n, 2, none⟩ = some z := by
  subst hn
  exact box_cells u
theorem after_top2 {W w' : World} {n : Nat} (hn : W.heap.size = n) {o : Obj} (h : Below (n + 1) (W.alloc o) w') : Below n W w' := by
  subst hn
  exact after_top h

/-- In form, and of at most that size. -/
def okW (s v : Int) (k : Fo) (room : Int) : Bool := okN s v (flen k) && fok k && decide (1 + (fsz k : Int) ≤ room)
def NwPost (s v : Int) (k : Fo) (room : Int) (br : Nat) (w : World) (e : Ending) (w' : World) : Prop :=
  ∃ nv r', e = .returned (.tuple #[nv, .bool (okW s v k room)]) ∧ Below w.heap.size (w.setCell ⟨br, 0, none⟩ (.int .i64 r')) w' ∧
    (okW s v k room = true → r' = room - (1 + fsz k) ∧ NodeC w' w.heap.size w'.heap.size nv s v k)

theorem okW_bad {s v : Int} {k : Fo} {room : Int} (h : okN s v (flen k) = false) : okW s v k room = false := by simp [okW, h]
theorem okW_small {s v : Int} {k : Fo} {room : Int} (h : room < 1) : okW s v k room = false := by
  unfold okW
  rw [decide_eq_false (by omega)]
  simp
theorem nwPost_no {s v : Int} {k : Fo} {room r' : Int} {br : Nat} {w w' : World} {nv : Value} (h : okW s v k room = false) (hb : Below w.heap.size (w.setCell ⟨br, 0, none⟩ (.int .i64 r')) w') :
    NwPost s v k room br w (.returned (.tuple #[nv, .bool false])) w' := ⟨nv, r', by rw [h], hb, fun h' => by rw [h] at h'; cases h'⟩

theorem vheads (v : Int) (n : Nat) : (decide (0 ≤ v) = false ∧ okN 0 v n = false) ∨ (decide (0 ≤ v) = true ∧ decide (v < 12) = false ∧ okN 0 v n = false) ∨
    (decide (0 ≤ v) = true ∧ decide (v < 12) = true ∧ ((n : Int) == 0) = false ∧ okN 0 v n = false) ∨ (decide (0 ≤ v) = true ∧ decide (v < 12) = true ∧ ((n : Int) == 0) = true ∧ okN 0 v n = true) := by
  by_cases h1 : 0 ≤ v
  · by_cases h2 : v < 12
    · by_cases h3 : (n : Int) = 0
      · exact .inr (.inr (.inr ⟨decide_eq_true h1, decide_eq_true h2, by simpa using h3, (okN_iff _ _ _).2 ⟨by simpa [ar] using h3, fun _ => ⟨h1, by omega⟩, fun h => absurd rfl h⟩⟩))
      · exact .inr (.inr (.inl ⟨decide_eq_true h1, decide_eq_true h2, by simpa using h3, (okN_f _ _ _).2 fun h => h3 (by simpa [ar] using h.1)⟩))
    · exact .inr (.inl ⟨decide_eq_true h1, decide_eq_false h2, (okN_f _ _ _).2 fun h => h2 (by have := (h.2.1 rfl).2; omega)⟩)
  · exact .inl ⟨decide_eq_false h1, (okN_f _ _ _).2 fun h => h1 (h.2.1 rfl).1⟩
theorem sheads {s : Int} (hs : s ≠ 0) (v : Int) (n : Nat) : ((v != 0) = true ∧ okN s v n = false) ∨ ((v != 0) = false ∧ ((n : Int) != ar s) = true ∧ okN s v n = false) ∨ ((v != 0) = false ∧ ((n : Int) != ar s) = false ∧ okN s v n = true) := by
  by_cases h1 : v = 0
  · by_cases h2 : (n : Int) = ar s
    · exact .inr (.inr ⟨by simp [h1], by simp [h2], (okN_iff _ _ _).2 ⟨h2, fun h => absurd h hs, fun _ => h1⟩⟩)
    · exact .inr (.inl ⟨by simp [h1], by simp [h2], (okN_f _ _ _).2 fun h => h2 h.1⟩)
  · exact .inl ⟨by simp [h1], (okN_f _ _ _).2 fun h => h1 (h.2.2 hs)⟩

theorem Try.infoNode : (Try.prog.info? 49).map (fun i => (i.zero, i.size, i.bytes)) = some (some .nilIface, 1, 16) := by kernel_rfl

/-- What holds at the head of nodeWithin's loop. -/
structure NwAt (w u : World) (k : Fo) (room : Int) (br : Nat) (box : Obj) (j : Nat) (r : Int) (wr : World) : Prop where
  r0 : 0 ≤ r
  r1 : r < room
  ok : fok k = fok (fdrop j k)
  sz : (fsz k : Int) + r = room - 1 + fsz (fdrop j k)
  below : Below (w.heap.size + 1) ((w.alloc box).setCell ⟨br, 0, none⟩ (.int .i64 r)) wr
  gsz : u.heap.size < wr.heap.size
  row : ∃ f, wr.rowIs u.heap.size 49 (flen k) f ∧ ∀ i, i < j → ∃ x y s v kk, fdrop i k = .node x y (s, v) kk (fdrop (i + 1) k) ∧ NodeC wr (u.heap.size + 1) wr.heap.size (f i) s v kk

theorem NwAt.start {w u : World} {k : Fo} {room : Int} {br : Nat} {box : Obj} (hr : 1 ≤ room) (hbr : br < w.heap.size) (hu : Below (w.heap.size + 1) ((w.setCell ⟨br, 0, none⟩ (.int .i64 (room - 1))).alloc box) u) :
    NwAt w u k room br box 0 (room - 1) (u.alloc (.cells (madeCells #[.nilIface] (flen k)) 49)) := by
  refine ⟨by omega, by omega, rfl, by simp only [fdrop]; omega, ?_, by simp, ⟨_, World.rowIs_made u .nilIface (flen k) _, fun i hi => by omega⟩⟩
  rw [World.setCell_alloc_past _ _ _ _ hbr]
  exact hu.alloc (by have := hu.size; simp at this; omega) _
theorem NwAt.room {w u wr : World} {k : Fo} {room r : Int} {br j : Nat} {box : Obj} (h : NwAt w u k room br box j r wr) (hbr : br < w.heap.size) (hrc : w.cell? ⟨br, 0, none⟩ = some (.int .i64 room)) (hrf : w.frozen? ⟨br, 0, none⟩ = false) :
    wr.cell? ⟨br, 0, none⟩ = some (.int .i64 r) ∧ wr.frozen? ⟨br, 0, none⟩ = false := by
  constructor
  · rw [h.below.cell (by simp; omega)]
    exact World.cell?_setCell_same _ _ _ (u := .int .i64 room) (by rw [World.cell?_alloc_lt _ _ _ hbr]; exact hrc)
  · rw [h.below.frozen (by simp; omega), World.frozen?_setCell, World.frozen?_alloc_old _ _ _ (by simp; omega)]
    exact hrf
theorem NwAt.same {w u wr : World} {k : Fo} {room r : Int} {br j B : Nat} {box : Obj} (h : NwAt w u k room br box j r wr) (hbr : br < w.heap.size) (hB : B ≤ br) : Same 0 B w wr := fun b _ hb => by
  rw [h.below.block b (by omega), Below.heap_setCell _ _ _ _ (by simp; omega), Below.heap_alloc _ _ _ (by omega)]
theorem NwAt.box {w u wr : World} {k : Fo} {room r : Int} {br j : Nat} {x y z : Value} {T : TypeId} (h : NwAt w u k room br (.cells #[x, y, z] T) j r wr) (hbr : br < w.heap.size) :
    wr.cell? ⟨w.heap.size, 0, none⟩ = some x ∧ wr.cell? ⟨w.heap.size, 1, none⟩ = some y ∧ wr.cell? ⟨w.heap.size, 2, none⟩ = some z := by
  refine ⟨?_, ?_, ?_⟩
  all_goals
    rw [h.below.cell (by simp), World.cell?_setCell_other _ _ _ _ (by intro h'; have := congrArg Addr.block h'; simp at this; omega)]
    simp
/-- What the call for kid j leaves, not yet stored. -/
theorem NwAt.called {w u wr w2 : World} {k : Fo} {room r r' : Int} {br j : Nat} {box o : Obj} (h : NwAt w u k room br box j r wr) (hbr : br < w.heap.size) (hsz : w.heap.size < u.heap.size)
    (hb : Below (wr.alloc o).heap.size ((wr.alloc o).setCell ⟨br, 0, none⟩ (.int .i64 r')) w2) :
    Below (w.heap.size + 1) ((w.alloc box).setCell ⟨br, 0, none⟩ (.int .i64 r')) w2 ∧ wr.heap.size < w2.heap.size ∧ Same (u.heap.size + 1) wr.heap.size wr w2 ∧
      ∃ f, w2.rowIs u.heap.size 49 (flen k) f ∧ ∀ i, i < j → ∃ x y s v kk, fdrop i k = .node x y (s, v) kk (fdrop (i + 1) k) ∧ NodeC w2 (u.heap.size + 1) w2.heap.size (f i) s v kk := by
  have hs1 := h.below.size
  have hs2 := hb.size
  simp at hs1 hs2
  have hg := h.gsz
  have hsame : Same (u.heap.size + 1) wr.heap.size wr w2 := fun b h1 h2 => by
    rw [hb.block b (by simp; omega), Below.heap_setCell _ _ _ _ (by simp; omega), Below.heap_alloc _ _ _ h2]
  refine ⟨bl_room (h.below.alloc (by omega) o) hb (by simp; omega), by omega, hsame, ?_⟩
  obtain ⟨f, hf, hall⟩ := h.row
  refine ⟨f, ((hf.alloc o).setOther (by simp; omega) _).of_block (hb.block _ (by simp; omega)), fun i hi => ?_⟩
  obtain ⟨x, y, s, v, kk, e, hn⟩ := hall i hi
  exact ⟨x, y, s, v, kk, e, (hn.same hsame).mono (Nat.le_refl _) (by omega)⟩

theorem okW_iff (s v : Int) (k : Fo) (room : Int) : okW s v k room = true ↔ okN s v (flen k) = true ∧ fok k = true ∧ 1 + (fsz k : Int) ≤ room := by
  simp only [okW, Bool.and_eq_true, decide_eq_true_eq]
  exact and_assoc
theorem NwAt.fail {w u wr : World} {s v : Int} {k : Fo} {room r : Int} {br j x y : Nat} {box : Obj} {s' v' : Int} {kk rest : Fo} (h : NwAt w u k room br box j r wr) (hd : fdrop j k = .node x y (s', v') kk rest) (hf : okW s' v' kk r = false) :
    okW s v k room = false := by
  cases ht : okW s v k room with
  | false => rfl
  | true =>
    obtain ⟨_, h2, h3⟩ := (okW_iff _ _ _ _).1 ht
    have h4 := h.ok
    have h5 := h.sz
    rw [hd] at h4 h5
    rw [h2] at h4
    simp only [fok, fsz] at h4 h5
    have h6 := h4.symm
    simp only [Bool.and_eq_true] at h6
    rw [(okW_iff s' v' kk r).2 ⟨h6.1.1, h6.1.2, by omega⟩] at hf
    cases hf
theorem NwAt.step {w u wr w2 : World} {k : Fo} {room r r' : Int} {br j x y : Nat} {box : Obj} {s' v' : Int} {kk : Fo} {nv : Value} {f : Nat → Value} (h : NwAt w u k room br box j r wr) (hsz : w.heap.size < u.heap.size)
    (hd : fdrop j k = .node x y (s', v') kk (fdrop (j + 1) k)) (hok : okW s' v' kk r = true) (hr : r' = r - (1 + fsz kk)) (hbl : Below (w.heap.size + 1) ((w.alloc box).setCell ⟨br, 0, none⟩ (.int .i64 r')) w2) (hw : wr.heap.size < w2.heap.size)
    (hf : w2.rowIs u.heap.size 49 (flen k) f) (hall : ∀ i, i < j → ∃ x y s v kk, fdrop i k = .node x y (s, v) kk (fdrop (i + 1) k) ∧ NodeC w2 (u.heap.size + 1) w2.heap.size (f i) s v kk)
    (hn : NodeC w2 (u.heap.size + 1) w2.heap.size nv s' v' kk) : NwAt w u k room br box (j + 1) r' (w2.setCell ⟨u.heap.size, j, none⟩ nv) := by
  obtain ⟨h1, h2, h3⟩ := (okW_iff _ _ _ _).1 hok
  have h4 := h.ok
  have h5 := h.sz
  have h6 := h.gsz
  have h7 := h.r1
  rw [hd] at h4 h5
  simp only [fok, fsz, h1, h2, Bool.true_and] at h4 h5
  have hs : Same (u.heap.size + 1) w2.heap.size w2 (w2.setCell ⟨u.heap.size, j, none⟩ nv) := Same.setCell (fun _ _ _ => rfl) (.inl (by simp)) _
  refine ⟨by omega, by omega, h4, by omega, hbl.setCell (by simp; omega) _, by simp; omega, ⟨_, hf.set j nv, fun i hi => ?_⟩⟩
  rw [World.size_setCell]
  by_cases hij : i = j
  · subst hij
    exact ⟨x, y, s', v', kk, hd, by simp only [if_true]; exact hn.same hs⟩
  · obtain ⟨x', y', s2, v2, k2, e, hn2⟩ := hall i (by omega)
    exact ⟨x', y', s2, v2, k2, e, by simp only [if_neg hij]; exact hn2.same hs⟩
theorem NwAt.done {w u wr : World} {s v : Int} {k : Fo} {room r : Int} {br j : Nat} {box : Obj} (h : NwAt w u k room br box j r wr) (hs : s ≠ 0) (hbr : br < w.heap.size) (hsz : w.heap.size < u.heap.size) (hj : flen k ≤ j) (hok : okN s v (flen k) = true) :
    NwPost s v k room br w (.returned (.tuple #[.iface 63 (.agg #[.int .i64 s, .slice (some ⟨u.heap.size, 0, none⟩) (flen k) (flen k)]), .bool true])) wr := by
  have h4 := h.ok
  have h5 := h.sz
  have h6 := h.r0
  rw [fdrop_all hj] at h4 h5
  simp only [fok, fsz] at h4 h5
  have hw : okW s v k room = true := (okW_iff _ _ _ _).2 ⟨hok, h4, by omega⟩
  refine ⟨_, r, by rw [hw], ?_, fun _ => ⟨by omega, .inr ⟨hs, _, _, rfl, Nat.le_refl _, .inr ⟨_, _, rfl, ?_⟩⟩⟩⟩
  · have := h.below
    rw [World.setCell_alloc_past _ _ _ _ hbr] at this
    exact after_top2 (by simp) this
  · obtain ⟨f, hf, hall⟩ := h.row
    refine crow_of_all k _ _ (by omega) h.gsz fun i hi => ?_
    obtain ⟨x, y, s', v', kk, e, hn⟩ := hall i (by omega)
    exact ⟨x, y, s', v', kk, e, f i, by rw [Nat.zero_add]; exact hf.cell hi, hn.mono (by omega) (Nat.le_refl _)⟩

set_option maxRecDepth 100000 in
set_option maxHeartbeats 1000000 in
theorem nodeWithin_any (N : Nat) : ∀ (s v : Int) (a : Option Addr) (c : Nat) (k : Fo) (room : Int) (br B : Nat) (w : World), Sl w 0 B a k → B ≤ br → br < w.heap.size → 0 ≤ room → room ≤ 1000 → room ≤ N →
    w.cell? ⟨br, 0, none⟩ = some (.int .i64 room) → w.frozen? ⟨br, 0, none⟩ = false →
    Calls Try.prog 22 #[.agg #[.int .i64 s, .int .i64 v, .slice a (flen k) c], .pointer (some ⟨br, 0, none⟩)] w (NwPost s v k room br w) := by
  induction N with
  | zero =>
    intro s v a c k room br B w hl hB hbr h1 h2 h3 hrc hrf
    have e1 : decide (room < 1) = true := by simp; omega
    go_enter Try.func22, Try.ntmps22
    go_wp2_with fail
    go_ret2
    exact nwPost_no (okW_small (by omega)) (bl_self ((Below.refl _ _).alloc (Nat.le_refl _) _) hrc)
  | succ N ih =>
    intro s v a c k room br B w hl hB hbr h1 h2 h3 hrc hrf
    have IH := Lib.hid ih
    clear ih
    by_cases hz : room < 1
    · have e1 : decide (room < 1) = true := by simp; omega
      go_enter Try.func22, Try.ntmps22
      go_wp2_with fail
      go_ret2
      exact nwPost_no (okW_small (by omega)) (bl_self ((Below.refl _ _).alloc (Nat.le_refl _) _) hrc)
    have e1 : decide (room < 1) = false := by simp; omega
    have hn : (w.setCell ⟨br, 0, none⟩ (.int .i64 (room - 1))).heap.size = w.heap.size := by simp [World.setCell]
    have HN := Lib.hid hn
    have hc := fun u => @box_cells2 _ _ hn (.int .i64 s) (.int .i64 v) (.slice a (flen k) c) 31 u
    have hc0 := fun u => (hc u).1
    have hc1 := fun u => (hc u).2.1
    have hc2 := fun u => (hc u).2.2
    have HC := Lib.hid hc
    clear hc hn
    by_cases hs : s = 0
    · subst hs
      rcases vheads v (flen k) with ⟨g1, hok⟩ | ⟨g1, g2, hok⟩ | ⟨g1, g2, g3, hok⟩ | ⟨g1, g2, g3, hok⟩
      iterate 3
        · have HO := Lib.hid hok
          clear hok
          go_enter Try.func22, Try.ntmps22
          go_wp2_with fail
          refine wp_region_after (w.heap.size + 1) (by kernel_rfl) (by kernel_rfl) ?_
          repeat (go_big_quiet_step (fail))
          refine wpQuiet_nil ?_
          rintro _ ⟨u, rfl⟩
          go_wp2_with fail
          go_ret2
          exact nwPost_no (okW_bad HO.out) (after_top2 HN.out u.below)
      · have HO := Lib.hid hok
        clear hok
        go_enter Try.func22, Try.ntmps22
        go_wp2_with fail
        refine wp_region_after (w.heap.size + 1) (by kernel_rfl) (by kernel_rfl) ?_
        repeat (go_big_quiet_step (fail))
        refine wpQuiet_nil ?_
        rintro _ ⟨u, rfl⟩
        go_wp2_with fail
        go_ret2
        have hk : k = .nil := by
          cases k with
          | nil => rfl
          | node => simp [flen] at g3; omega
        subst hk
        have ew : okW 0 v .nil room = true := by
          have := HO.out
          simp only [okW, this, fok, fsz, Bool.and_true, Bool.true_and]
          exact decide_eq_true (by omega)
        exact ⟨_, _, by rw [ew]; rfl, after_top2 HN.out u.below, fun _ => ⟨by simp [fsz], .inl ⟨rfl, rfl, rfl⟩⟩⟩
    · have gs : (s == 0) = false := by simpa using hs
      rcases sheads hs v (flen k) with ⟨g1, hok⟩ | ⟨g1, g2, hok⟩ | ⟨g1, g2, hok⟩
      iterate 2
        · have HO := Lib.hid hok
          clear hok
          go_enter Try.func22, Try.ntmps22
          go_wp2_with fail
          refine wp_region_after (w.heap.size + 1) (by kernel_rfl) (by kernel_rfl) ?_
          repeat (go_big_quiet_step ((go_at_call 25; exact Calls.after_same (arityOf_any _ _ hs))))
          refine wpQuiet_nil ?_
          rintro _ ⟨u, rfl⟩
          go_wp2_with fail
          go_ret2
          exact nwPost_no (okW_bad HO.out) (after_top2 HN.out u.below)
      · have hk2 : flen k ≤ 2 := okN_le hok
        have HO := Lib.hid hok
        clear hok
        have hmk := run_make_row' (P := Try.prog) 61 49 .nilIface 16 Try.underlying61 Try.infoNode rfl .i64 .i64 (flen k) (by omega) (by omega)
        go_enter Try.func22, Try.ntmps22
        go_wp2_with fail
        refine wp_region_after (w.heap.size + 1) (by kernel_rfl) (by kernel_rfl) ?_
        repeat (go_big_quiet_step ((go_at_call 25; exact Calls.after_same (arityOf_any _ _ hs))))
        refine wpQuiet_nil ?_
        rintro u ⟨⟨_, hu⟩, rfl⟩
        have hu0 := hc0 ⟨u, hu⟩
        have hu1 := hc1 ⟨u, hu⟩
        have hu2 := hc2 ⟨u, hu⟩
        dsimp only at hu0 hu1 hu2
        clear hc0 hc1 hc2
        have hsz : w.heap.size < u.heap.size := by have := hu.size; simp at this; omega
        have hsb : br < u.heap.size := by omega
        have hst := NwAt.start (k := k) (by omega) hbr hu
        have HST := Lib.hid hst
        clear hst
        go_wp2_with fail
        go_loopw [59] (fun i wr => ∃ (j : Nat) (r : Int), j ≤ flen k ∧ i = .int .i64 j ∧ NwAt w u k room br (.cells #[.int .i64 s, .int .i64 v, .slice a (flen k) c] 31) j r wr) (fun i _ => flen k - (intOf i).toNat)
        case atStart => exact ⟨0, _, Nat.zero_le _, rfl, HST.out⟩
        case round =>
          clear hu0 hu1 hu2 hu HST
          obtain ⟨j, r, hj, rfl, hat⟩ := hrel
          obtain ⟨hr1, hr2⟩ := hat.room hbr hrc hrf
          obtain ⟨hu0, hu1, hu2⟩ := hat.box hbr
          have hr0 := hat.r0
          have hr3 := hat.r1
          have hgs := hat.gsz
          by_cases hlt : j < flen k
          · rcases hl with rfl | ⟨b, o, rfl, hrow⟩
            · simp [flen] at hlt
            obtain ⟨s', v', kk, a', c', ⟨x, y, hd⟩, _, hbB, hk0, hk1, hk2', hsl⟩ := row_at (hrow.same (hat.same hbr hB)) hlt
            have HD := Lib.hid hd
            have HS := Lib.hid hsl
            clear hd hsl
            go_wp2_with fail
            with_reducible refine (IH.out s' v' a' c' kk r br B _ ?_ ?_ ?_ ?_ ?_ ?_ ?_ ?_).mono ?_
            · exact HS.out.below ((Below.refl _ _).alloc (by omega) _)
            · omega
            · simp; omega
            · omega
            · omega
            · omega
            · rw [World.cell?_alloc_lt _ _ _ (by simp; omega)]; exact hr1
            · rw [World.frozen?_alloc_old _ _ _ (by simp; omega)]; exact hr2
            rintro e w2 ⟨nv, r', rfl, hb2, hyes⟩
            obtain ⟨hbl, hwsz, hsame, f, hf, hall⟩ := hat.called hbr hsz hb2
            cases hok2 : okW s' v' kk r with
            | false =>
              have hno : Hid (okW s v k room = false) := hat.fail HD.out hok2
              clear hyes hall
              go_wp2_with fail
              go_ret2
              refine nwPost_no (r' := r') hno.out ?_
              rw [World.setCell_alloc_past _ _ _ _ hbr] at hbl
              exact after_top2 (by simp) hbl
            | true =>
              obtain ⟨hr', hn⟩ := hyes hok2
              have hstep := hat.step hsz HD.out hok2 hr' hbl hwsz hf hall (hn.mono (by simp; omega) (Nat.le_refl _))
              have HST := Lib.hid hstep
              have hgc := hf.cell hlt
              have hgf := hf.frozen j
              clear hr' hyes hall hstep
              rcases hn with ⟨hs', _, rfl⟩ | ⟨hs', a2, c2, rfl, hn2⟩
              all_goals
                go_wp2_with fail
                go_roundw
                case rel => exact ⟨j + 1, _, by omega, by go_num, HST.out⟩
                case measure => simp [intOf]; omega
          · have hdn := hat.done hs hbr hsz (by omega) HO.out
            have HDN := Lib.hid hdn
            clear hdn
            go_wp2_with fail
            go_ret2
            exact HDN.out
end Go.Proofs.Ytbnbogdglffkmaa

/-! WD: nodeOf, TermOk of the program and of the specification. -/
namespace Go.Proofs.Ytbnbogdglffkmaa
open Go.RowKit Go.Deep

def NoPostC (s v : Int) (k : Fo) (room : Int) (w : World) (e : Ending) (w' : World) : Prop :=
  ∃ nv, e = .returned (.tuple #[nv, .bool (okW s v k room)]) ∧ Below w.heap.size w w' ∧ (okW s v k room = true → NodeC w' w.heap.size w'.heap.size nv s v k)
def NoPost (s v : Int) (k : Fo) (room : Int) (w : World) (e : Ending) (w' : World) : Prop :=
  ∃ nv, e = .returned (.tuple #[nv, .bool (okW s v k room)]) ∧ Below w.heap.size w w' ∧ (okW s v k room = true → NodeIs w' w.heap.size w'.heap.size nv s v k)

set_option maxRecDepth 100000 in
set_option maxHeartbeats 400000 in
theorem nodeOf_anyC (s v : Int) (a : Option Addr) (c : Nat) (k : Fo) (room : Int) (w : World) (hl : Sl w 0 w.heap.size a k) (h1 : 0 ≤ room) (h2 : room ≤ 1000) :
    Calls Try.prog 19 #[.agg #[.int .i64 s, .int .i64 v, .slice a (flen k) c], .int .i64 room] w (NoPostC s v k room w) := by
  go_enter Try.func19, Try.ntmps19
  go_wp2_with fail
  with_reducible refine (nodeWithin_any room.toNat s v a c k room (w.heap.size + 1) w.heap.size _ ?_ ?_ ?_ ?_ ?_ ?_ ?_ ?_).mono ?_
  · exact hl.below (((Below.refl _ _).alloc (Nat.le_refl _) _).alloc (by simp) _)
  · omega
  · simp
  · omega
  · omega
  · omega
  · simp [World.cell?_alloc_at]
  · simp [World.frozen?_alloc_at]
  rintro e w2 ⟨nv, r', rfl, hb, hyes⟩
  have hfin : NoPostC s v k room w (.returned (.tuple #[nv, .bool (okW s v k room)])) w2 := by
    refine ⟨nv, rfl, ?_, fun h => (hyes h).2.mono (by simp; omega) (Nat.le_refl _)⟩
    exact ((((Below.refl _ _).alloc (Nat.le_refl _) _).alloc (by simp) _).setCell (by simp) _).trans (hb.mono (by simp; omega))
  have HF := Lib.hid hfin
  clear hfin hyes
  go_wp2_with fail
  go_ret2
  exact HF.out
theorem nodeOf_any (s v : Int) (a : Option Addr) (c : Nat) (k : Fo) (room : Int) (w : World) (hl : Sl w 0 w.heap.size a k) (h1 : 0 ≤ room) (h2 : room ≤ 1000) :
    Calls Try.prog 19 #[.agg #[.int .i64 s, .int .i64 v, .slice a (flen k) c], .int .i64 room] w (NoPost s v k room w) :=
  (nodeOf_anyC s v a c k room w hl h1 h2).mono fun _ _ ⟨nv, h1, h2, h3⟩ => ⟨nv, h1, h2, fun h => (h3 h).to⟩

theorem cntT_okW (s v : Int) (k : Fo) (m : Int) : decide (cntT s v k m ≤ m) = okW s v k m := by
  cases h : okW s v k m with
  | true =>
    have h' := (okW_iff _ _ _ _).1 h
    unfold cntT
    rw [if_pos h']
    exact decide_eq_true h'.2.2
  | false =>
    unfold cntT
    rw [if_neg fun h' => by rw [(okW_iff _ _ _ _).2 h'] at h; cases h]
    exact decide_eq_false (by omega)

set_option maxHeartbeats 400000 in
theorem sTermOk_any (s v : Int) (a : Option Addr) (c : Nat) (k : Fo) (w : World) (hl : Sl w 0 w.heap.size a k) :
    Calls Try.prog 16 #[.agg #[.int .i64 s, .int .i64 v, .slice a (flen k) c]] w fun e w' => e = .returned (.bool (okW s v k 16)) ∧ Below w.heap.size w w' := by
  have hc := cntT_okW s v k 16
  have HC := Lib.hid hc
  clear hc
  go_enter Try.func16, Try.ntmps16
  go_wp2_with fail
  with_reducible refine (l1Count_any 16 s v a c k 16 _ ?_ ?_ ?_ ?_).mono ?_
  · exact (hl.below ((Below.refl _ _).alloc (Nat.le_refl _) _)).mono (Nat.le_refl _) (by simp)
  · omega
  · omega
  · omega
  rintro e w2 ⟨rfl, hb⟩
  go_wp2_with fail
  go_ret
  exact ⟨by rw [← HC.out]; rfl, ((Below.refl _ _).alloc (Nat.le_refl _) _).trans (hb.mono (by simp))⟩
end Go.Proofs.Ytbnbogdglffkmaa

/-! WE: - The reader of a code: l6Open, pick. -/
namespace Go.Proofs.Ytbnbogdglffkmaa
open Go.RowKit Go.Deep

/-- A reader lies in block br; its place is p. -/
structure Rd (w : World) (br p : Nat) : Prop where
  lt : br < w.heap.size
  place : w.cell? ⟨br, 1, none⟩ = some (.int .i64 p)
  free : w.frozen? ⟨br, 1, none⟩ = false
  text : ∃ a len cap, w.cell? ⟨br, 0, none⟩ = some (.slice a len cap) ∧ len ≤ 2000 ∧
    (len = 0 ∨ ∃ b o, a = some ⟨b, o, none⟩ ∧ b < br ∧ ∀ i, i < len → ∃ x : Nat, x < 256 ∧ w.cell? ⟨b, o + i, none⟩ = some (.int .u8 x))

theorem Rd.next {w w' : World} {br p p' : Nat} (h : Rd w br p) (hb : Below w.heap.size (w.setCell ⟨br, 1, none⟩ (.int .i64 p')) w') : Rd w' br p' := by
  have hs := hb.size
  simp at hs
  have hlt := h.lt
  refine ⟨by omega, ?_, ?_, ?_⟩
  · rw [hb.cell (by simp; omega)]
    exact World.cell?_setCell_same _ _ _ h.place
  · rw [hb.frozen (by simp; omega), World.frozen?_setCell]
    exact h.free
  · obtain ⟨a, len, cap, h0, h1, h2⟩ := h.text
    refine ⟨a, len, cap, ?_, h1, ?_⟩
    · rw [hb.cell (by simp; omega), World.cell?_setCell_other _ _ _ _ (by intro h'; have := congrArg Addr.off h'; simp at this)]
      exact h0
    · rcases h2 with h2 | ⟨b, o, e, h3, h4⟩
      · exact .inl h2
      · refine .inr ⟨b, o, e, h3, fun i hi => ?_⟩
        obtain ⟨x, hx, hc⟩ := h4 i hi
        exact ⟨x, hx, by rw [hb.cell (by simp; omega), World.cell?_setCell_other _ _ _ _ (by intro h'; have := congrArg Addr.block h'; simp at this; omega)]; exact hc⟩

def PickPost (n : Int) (br p : Nat) (w : World) (e : Ending) (w' : World) : Prop :=
  ∃ x : Nat, e = .returned (.int .i64 x) ∧ ((x : Int) < n ∨ n < 1 ∨ x = 0) ∧ Below w.heap.size (w.setCell ⟨br, 1, none⟩ (.int .i64 ((p + 1 : Nat) : Int))) w'

theorem xor_i64 (X : Nat) (h : X < 1000000000000) : ∃ Y : Nat, bits .xor .i64 (X : Int) ((X : Int) / 64) = Y := by
  have e : (X : Int) / 64 = ((X / 64 : Nat) : Int) := by simp
  rw [e]
  have hx : X ^^^ (X / 64) < 2 ^ 60 := Nat.xor_lt_two_pow (by omega) (by omega)
  refine ⟨X ^^^ (X / 64), ?_⟩
  have h1 : (BitVec.ofInt 64 (X : Int)).toNat = X := by
    rw [BitVec.ofInt_natCast, BitVec.toNat_ofNat]; exact Nat.mod_eq_of_lt (by omega)
  have h2 : (BitVec.ofInt 64 ((X / 64 : Nat) : Int)).toNat = X / 64 := by
    rw [BitVec.ofInt_natCast, BitVec.toNat_ofNat]; exact Nat.mod_eq_of_lt (by omega)
  show IntKind.i64.wrap ((BitVec.ofInt 64 (X : Int) ^^^ BitVec.ofInt 64 ((X / 64 : Nat) : Int)).toNat : Int) = _
  rw [BitVec.toNat_xor, h1, h2, IntKind.wrap_i64]
  omega

/-- The bytes that a slice shows. -/
def Bytes (w : World) (a : Option Addr) (len : Nat) : Prop := len = 0 ∨ ∃ b o, a = some ⟨b, o, none⟩ ∧ b < w.heap.size ∧ ∀ i, i < len → ∃ x : Nat, x < 256 ∧ w.cell? ⟨b, o + i, none⟩ = some (.int .u8 x)

def OpenPost (w : World) (e : Ending) (w' : World) : Prop := e = .returned (.pointer (some ⟨w.heap.size, 0, none⟩)) ∧ Below w.heap.size w w' ∧ Rd w' w.heap.size 0

end Go.Proofs.Ytbnbogdglffkmaa

/-! WF: - l71Var, l71Of, l71Term. -/
namespace Go.Proofs.Ytbnbogdglffkmaa
open Go.RowKit Go.Deep

/-- The reader has gone on to p; all else that was there is as it was. -/
def Adv (w : World) (br p : Nat) (w' : World) : Prop := Below w.heap.size (w.setCell ⟨br, 1, none⟩ (.int .i64 p)) w'
theorem Adv.size {w w' : World} {br p : Nat} (h : Adv w br p w') : w.heap.size ≤ w'.heap.size := by have := Below.size h; simpa using this
theorem Adv.rd {w w' : World} {br p p' : Nat} (h : Adv w br p' w') (hr : Rd w br p) : Rd w' br p' := hr.next h
theorem Adv.start {w w' : World} {br p : Nat} (hr : Rd w br p) (h : Below w.heap.size w w') : Adv w br p w' := bl_self h hr.place
theorem Adv.more {w w1 w2 : World} {br p : Nat} (h : Adv w br p w1) (h' : Below w1.heap.size w1 w2) : Adv w br p w2 := Below.trans h (h'.mono h.size)
theorem Adv.trans {w w1 w2 : World} {br p p' : Nat} (h : Adv w br p w1) (h' : Adv w1 br p' w2) : Adv w br p' w2 := bl_room h h' h.size
theorem Adv.store {w w' : World} {br p : Nat} (h : Adv w br p w') {q : Addr} (hq : w.heap.size ≤ q.block) (u : Value) : Adv w br p (w'.setCell q u) := Below.setCell h hq u
theorem Adv.alloc {w w' : World} {br p : Nat} (h : Adv w br p w') (o : Obj) : Adv w br p (w'.alloc o) := Below.alloc h h.size o
theorem Adv.cell {w w' : World} {br p : Nat} (h : Adv w br p w') {q : Addr} {v : Value} (hc : w.cell? q = some v) (hq : q.block ≠ br) : w'.cell? q = some v := by
  rw [Below.cell h (World.block_lt_of_cell? _ _ hc), World.cell?_setCell_other _ _ _ _ (fun h' => hq (by rw [← h']))]
  exact hc
theorem Adv.frozen {w w' : World} {br p : Nat} (h : Adv w br p w') {q : Addr} (hq : q.block < w.heap.size) : w'.frozen? q = w.frozen? q := by
  rw [Below.frozen h hq, World.frozen?_setCell]
theorem Adv.same {w w' : World} {br p lo B : Nat} (h : Adv w br p w') (hB : B ≤ w.heap.size) (hlo : br < lo ∨ B ≤ br) : Same lo B w w' := fun b h1 h2 => by
  rw [Below.block h b (by omega), Below.heap_setCell _ _ _ _ (by simp; omega)]
/-- The call's own result cell, its block laid at the call's head, and what the reader has become. -/
theorem Adv.off {w w' : World} {br p : Nat} {o : Obj} (h : Adv (w.alloc o) br p w') (hbr : br < w.heap.size) : Adv w br p w' := by
  unfold Adv at h ⊢
  rw [World.setCell_alloc_past _ _ _ _ hbr] at h
  exact after_top2 (by simp) (by simpa using h)

def DrawnPost (br p K S : Nat) (w : World) (e : Ending) (w' : World) : Prop :=
  ∃ s v a c k p', e = .returned (.agg #[.int .i64 s, .int .i64 v, .slice a (flen k) c]) ∧ p ≤ p' ∧ p' ≤ p + K ∧ 1 + fsz k ≤ S ∧ Adv w br p' w' ∧ Sl w' w.heap.size w'.heap.size a k

theorem Rd.alloc {w : World} {br p : Nat} (h : Rd w br p) (o : Obj) : Rd (w.alloc o) br p := h.next (bl_self ((Below.refl _ _).alloc (Nat.le_refl _) o) h.place)

theorem res_cells {w w' : World} {br p : Nat} {x y z : Value} {T : TypeId} (h : Adv (w.alloc (.cells #[x, y, z] T)) br p w') (hbr : br < w.heap.size) :
    w'.cell? ⟨w.heap.size, 0, none⟩ = some x ∧ w'.cell? ⟨w.heap.size, 1, none⟩ = some y ∧ w'.cell? ⟨w.heap.size, 2, none⟩ = some z ∧
      w'.frozen? ⟨w.heap.size, 0, none⟩ = false ∧ w'.frozen? ⟨w.heap.size, 1, none⟩ = false ∧ w'.frozen? ⟨w.heap.size, 2, none⟩ = false := by
  refine ⟨h.cell (by simp) (by simp; omega), h.cell (by simp) (by simp; omega), h.cell (by simp) (by simp; omega), ?_, ?_, ?_⟩
  all_goals
    rw [h.frozen (by simp)]
    simp

theorem drawn_end {w w2 : World} {br p p' K S : Nat} {s v : Int} {a : Option Addr} {c : Nat} {k : Fo} {o : Obj} {x y z : Value} (ha : Adv (w.alloc o) br p' w2) (hbr : br < w.heap.size) (h1 : p ≤ p') (h2 : p' ≤ p + K) (h3 : 1 + fsz k ≤ S)
    (hl : Sl w2 (w.heap.size + 1) w2.heap.size a k) : DrawnPost br p K S w (.returned (.agg #[.int .i64 s, .int .i64 v, .slice a (flen k) c])) (((w2.setCell ⟨w.heap.size, 0, none⟩ x).setCell ⟨w.heap.size, 1, none⟩ y).setCell ⟨w.heap.size, 2, none⟩ z) := by
  refine ⟨s, v, a, c, k, p', rfl, h1, h2, h3, (((ha.off hbr).store (by simp) _).store (by simp) _).store (by simp) _, ?_⟩
  have hs : Same (w.heap.size + 1) w2.heap.size w2 (((w2.setCell ⟨w.heap.size, 0, none⟩ x).setCell ⟨w.heap.size, 1, none⟩ y).setCell ⟨w.heap.size, 2, none⟩ z) :=
    (((Same.setCell (fun _ _ _ => rfl) (.inl (by simp)) _).setCell (.inl (by simp)) _).setCell (.inl (by simp)) _)
  exact (hl.same hs).mono (by omega) (by simp)

/-- So many picks at most, so large at most, for a term so deep. -/
def pkN : Nat → Nat
  | 0 => 3
  | d + 1 => 2 * pkN d + 3
def szN : Nat → Nat
  | 0 => 1
  | d + 1 => 2 * szN d + 1
theorem szN_pos : ∀ d, 1 ≤ szN d
  | 0 => Nat.le_refl _
  | d + 1 => by simp only [szN]; omega

/-- One kid, laid into a block of its own. -/
theorem kid1 {w : World} {lo : Nat} {s v : Int} {a : Option Addr} {c : Nat} {k : Fo} {T : TypeId} (hl : Sl w lo w.heap.size a k) (hlo : lo ≤ w.heap.size) :
    Sl (w.alloc (.cells #[.int .i64 s, .int .i64 v, .slice a (flen k) c] T)) lo (w.alloc (.cells #[.int .i64 s, .int .i64 v, .slice a (flen k) c] T)).heap.size (some ⟨w.heap.size, 0, none⟩) (.node 0 0 (s, v) k .nil) := by
  refine .inr ⟨_, _, rfl, hlo, by simp, by simp, by simp, ⟨a, c, by simp, ?_⟩, trivial⟩
  exact (hl.below ((Below.refl _ _).alloc (Nat.le_refl _) _)).mono (Nat.le_refl _) (by simp)
/-- Two kids, laid into a block of their own. -/
theorem kid2 {w : World} {lo : Nat} {s v s' v' : Int} {a a' : Option Addr} {c c' : Nat} {k k' : Fo} {T : TypeId} (hl : Sl w lo w.heap.size a k) (hl' : Sl w lo w.heap.size a' k') (hlo : lo ≤ w.heap.size) :
    Sl (w.alloc (.cells #[.int .i64 s, .int .i64 v, .slice a (flen k) c, .int .i64 s', .int .i64 v', .slice a' (flen k') c'] T)) lo
      (w.alloc (.cells #[.int .i64 s, .int .i64 v, .slice a (flen k) c, .int .i64 s', .int .i64 v', .slice a' (flen k') c'] T)).heap.size (some ⟨w.heap.size, 0, none⟩) (.node 0 0 (s, v) k (.node 0 0 (s', v') k' .nil)) := by
  refine .inr ⟨_, _, rfl, hlo, by simp, by simp, by simp, ⟨a, c, by simp, ?_⟩, ⟨hlo, by simp, by simp, by simp, ⟨a', c', by simp, ?_⟩, trivial⟩⟩
  · exact (hl.below ((Below.refl _ _).alloc (Nat.le_refl _) _)).mono (Nat.le_refl _) (by simp)
  · exact (hl'.below ((Below.refl _ _).alloc (Nat.le_refl _) _)).mono (Nat.le_refl _) (by simp)

end Go.Proofs.Ytbnbogdglffkmaa
