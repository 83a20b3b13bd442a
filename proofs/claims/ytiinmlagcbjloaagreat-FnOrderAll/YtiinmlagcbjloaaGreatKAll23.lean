/- Several texts in one: V5, LO7, S1, S2, S3, S4, S5. -/
import Derived.Test.YtiinmlagcbjloaaGreatKAll22
import Derived.Test.YtiinmlagcbjloaaGreatKAll19
import Derived.Test.YtiinmlagcbjloaaGreatKAll17
import Derived.Test.YtiinmlagcbjloaaGreatKAll3
import Derived.Test.YtiinmlagcbjloaaGreatKAll15
import Derived.Maps.OwnOps
import Derived.Test.YtiinmlagcbjloaaGreatKAll6
import Derived.Laws.OwnMore
import Derived.Test.YtiinmlagcbjloaaGreatKAll2

/-! V5: DrawTermVars; the variables of a term with another put to a place. -/
namespace Go.Proofs.YtiinmlagcbjloaaGreat
open Go.RowKit Go.Deep

theorem fvl_at : ∀ (n : Nat) (k : Fo) {a b : Nat} {s v : Int} {kk r : Fo} {x : Int}, fdrop n k = .node a b (s, v) kk r → x ∈ fvs s v kk → x ∈ fvl k
  | 0, .nil, _, _, _, _, _, _, _, h, _ => by simp [fdrop] at h
  | 0, .node _ _ _ _ _, _, _, _, _, _, _, _, h, hx => by
    simp only [fdrop, BT.node.injEq] at h
    obtain ⟨_, _, rfl, rfl, _⟩ := h
    simp only [fvl, List.mem_append]
    exact .inl hx
  | _ + 1, .nil, _, _, _, _, _, _, _, h, _ => by simp [fdrop] at h
  | n + 1, .node _ _ _ _ r, _, _, _, _, _, _, _, h, hx => by
    simp only [fvl, List.mem_append]
    exact .inr (fvl_at n r (by simpa [fdrop] using h) hx)
theorem fvl_set : ∀ (k : Fo) (n : Nat) (y : Int × Int × Fo) {x : Int}, x ∈ fvl (fset k n y) → x ∈ fvl k ∨ x ∈ fvs y.1 y.2.1 y.2.2
  | .nil, _, _, _, h => .inl h
  | .node _ _ _ _ r, 0, y, x, h => by
    simp only [fset, fvl, List.mem_append] at h ⊢
    rcases h with h | h
    · exact .inr h
    · exact .inl (.inr h)
  | .node _ _ _ _ r, n + 1, y, x, h => by
    simp only [fset, fvl, List.mem_append] at h ⊢
    rcases h with h | h
    · exact .inl (.inl h)
    · rcases fvl_set r n y h with h | h
      · exact .inl (.inr h)
      · exact .inr h
/-- What is put brings its variables alone. -/
theorem fput_vars : ∀ (p : List Int) (s v : Int) (k : Fo) (y : Int × Int × Fo) {s' v' : Int} {k' : Fo} {x : Int}, okN s v (flen k) = true → fok k = true → fput s v k p y = some (s', v', k') → x ∈ fvs s' v' k' → x ∈ fvs s v k ∨ x ∈ fvs y.1 y.2.1 y.2.2
  | [], _, _, _, _, _, _, _, _, _, _, h, hx => by simp only [fput, Option.some.injEq] at h; subst h; exact .inr hx
  | i :: ps, s, v, k, y, s', v', k', x, hok, hfo, h, hx => by
    obtain ⟨n, b, o, s1, v1, kk, ⟨z1, z2, z3⟩, rfl, hn, hd, hz, e⟩ := fput_cons h
    simp only [Prod.mk.injEq] at e
    obtain ⟨rfl, rfl, rfl⟩ := e
    have hs0 : s' ≠ 0 := fun e => by
      subst e
      have := ((okN_iff _ _ _).1 hok).1
      simp [ar] at this
      omega
    have hkid := fok_kid hfo hd
    unfold fvs at hx ⊢
    rw [if_neg hs0] at hx ⊢
    rcases fvl_set k n (z1, z2, z3) hx with h1 | h1
    · exact .inl h1
    · rcases fput_vars ps s1 v1 kk y hkid.1 hkid.2 hz h1 with h2 | h2
      · exact .inl (fvl_at n k hd h2)
      · exact .inr h2
/-- .. and all of them. -/
theorem fput_mine : ∀ (p : List Int) (s v : Int) (k : Fo) (y : Int × Int × Fo) {s' v' : Int} {k' : Fo} {x : Int}, okN s v (flen k) = true → fok k = true → fput s v k p y = some (s', v', k') → x ∈ fvs y.1 y.2.1 y.2.2 → x ∈ fvs s' v' k'
  | [], _, _, _, _, _, _, _, _, _, _, h, hx => by simp only [fput, Option.some.injEq] at h; subst h; exact hx
  | i :: ps, s, v, k, y, s', v', k', x, hok, hfo, h, hx => by
    obtain ⟨n, b, o, s1, v1, kk, ⟨z1, z2, z3⟩, rfl, hn, hd, hz, e⟩ := fput_cons h
    simp only [Prod.mk.injEq] at e
    obtain ⟨rfl, rfl, rfl⟩ := e
    have hs0 : s' ≠ 0 := fun e => by
      subst e
      have := ((okN_iff _ _ _).1 hok).1
      simp [ar] at this
      omega
    have hkid := fok_kid hfo hd
    have h1 := fput_mine ps s1 v1 kk y hkid.1 hkid.2 hz hx
    obtain ⟨b', o', e'⟩ := fset_at k n (z1, z2, z3) hn
    unfold fvs
    rw [if_neg hs0]
    exact fvl_at n _ e' h1

theorem tvR_mem {s v : Int} {k : Fo} (h : okW s v k 16 = true) (x : Int) : x ∈ tvR s v k ↔ x ∈ fvs s v k := by
  unfold tvR
  rw [if_pos h, among_mem]
  constructor
  · exact fun h => h.1
  · intro hx
    have := fvs_in h x hx
    exact ⟨hx, by omega, by omega⟩
end Go.Proofs.YtiinmlagcbjloaaGreat

/-! LO7: Of two terms without variables one is more, unless they are the same: over terms in memory. Plain lemmas. -/
namespace Go.Proofs.YtiinmlagcbjloaaGreat
open Go.RowKit Go.Deep

theorem ground_of : ∀ {t : Tm}, t.vars = [] → t.ground
  | .var _, h => by simp [Tm.vars] at h
  | .leaf _, _ => trivial
  | .one t, h => ground_of (t := t) h
  | .two t u, h => by
    simp only [Tm.vars, List.append_eq_nil_iff] at h
    exact ⟨ground_of h.1, ground_of h.2⟩
theorem tm_fine {s v : Int} {k : Fo} (N : Nat) : Shape s v k → fsz k ≤ N → (tmOf s v k).fine := by
  induction N generalizing s v k with
  | zero =>
    intro h hN
    cases h with
    | var => exact trivial
    | leaf _ hs => rw [tm_leaf hs]; exact hs
    | one => simp [fsz] at hN
    | two => simp [fsz] at hN
  | succ N ih =>
    intro h hN
    cases h with
    | var => exact trivial
    | leaf _ hs => rw [tm_leaf hs]; exact hs
    | one x y p k h1 h2 => rw [tm_one]; exact ih (shape_of h1 h2) (by simp [fsz] at hN; omega)
    | two x y p k x' y' p' k' h1 h2 h3 h4 => rw [tm_two]; exact ⟨ih (shape_of h1 h2) (by simp [fsz] at hN; omega), ih (shape_of h3 h4) (by simp [fsz] at hN; omega)⟩
theorem rk_inj {xs : List Int} (h : rkOk xs = true) (a b : Int) (a1 : 1 ≤ a) (a4 : a ≤ 4) (b1 : 1 ≤ b) (b4 : b ≤ 4) (he : rkN xs a = rkN xs b) : a = b := by
  simp only [rkOk, Bool.and_eq_true, decide_eq_true_eq, List.contains_iff_mem] at h
  obtain ⟨_, m1, m2, m3, m4⟩ := h
  have hm : ∀ z : Int, 1 ≤ z → z ≤ 4 → z ∈ xs := fun z h1 h2 => by
    rcases (by omega : z = 1 ∨ z = 2 ∨ z = 3 ∨ z = 4) with rfl | rfl | rfl | rfl <;> assumption
  have la := List.idxOf_lt_length_of_mem (hm a a1 a4)
  have lb := List.idxOf_lt_length_of_mem (hm b b1 b4)
  have ea : xs[xs.idxOf a]? = some a := by rw [List.getElem?_eq_getElem la, List.getElem_idxOf]
  have eb : xs[xs.idxOf b]? = some b := by rw [List.getElem?_eq_getElem lb, List.getElem_idxOf]
  unfold rkN at he
  rw [he, eb] at ea
  exact (Option.some.inj ea).symm
theorem more_all {xs : List Int} {s v : Int} {k : Fo} {s' v' : Int} {k' : Fo} (hr : rkOk xs = true) (h1 : okW s v k 16 = true) (h2 : okW s' v' k' 16 = true) (g1 : tvR s v k = []) (g2 : tvR s' v' k' = []) : teq s v k s' v' k' = !(moreR xs s v k s' v' k' || moreR xs s' v' k' s v k) := by
  have o1 := (okW_iff _ _ _ _).1 h1
  have o2 := (okW_iff _ _ _ _).1 h2
  have p1 := shape_of o1.1 o1.2.1
  have p2 := shape_of o2.1 o2.2.1
  have e1 : (tmOf s v k).vars = [] := by
    rw [tm_vars _ p1 (Nat.le_refl _)]
    exact List.eq_nil_iff_forall_not_mem.2 fun x hx => by have := (tvR_mem h1 x).2 hx; rw [g1] at this; cases this
  have e2 : (tmOf s' v' k').vars = [] := by
    rw [tm_vars _ p2 (Nat.le_refl _)]
    exact List.eq_nil_iff_forall_not_mem.2 fun x hx => by have := (tvR_mem h2 x).2 hx; rw [g2] at this; cases this
  cases hq : teq s v k s' v' k' with
  | true =>
    have he := (tm_teq p1 p2).1 hq
    have n1 : moreR xs s v k s' v' k' = false := by
      cases hm : moreR xs s v k s' v' k' with
      | false => rfl
      | true => have hg := (moreR_iff.1 hm).2.2.2; rw [he] at hg; exact absurd hg Gt.ne
    have n2 : moreR xs s' v' k' s v k = false := by
      cases hm : moreR xs s' v' k' s v k with
      | false => rfl
      | true => have hg := (moreR_iff.1 hm).2.2.2; rw [he] at hg; exact absurd hg Gt.ne
    rw [n1, n2]; rfl
  | false =>
    have hne : tmOf s v k ≠ tmOf s' v' k' := fun e => by rw [(tm_teq p1 p2).2 e] at hq; cases hq
    rcases Gt.total (rk := rkN xs) (rk_inj hr) _ (Nat.le_refl _) (ground_of e1) (ground_of e2) (tm_fine _ p1 (Nat.le_refl _)) (tm_fine _ p2 (Nat.le_refl _)) with h | h | h
    · exact absurd h hne
    · rw [moreR_iff.2 ⟨hr, h1, h2, h⟩]; rfl
    · rw [moreR_iff.2 ⟨hr, h2, h1, h⟩]; simp
end Go.Proofs.YtiinmlagcbjloaaGreat

/-! S1: substOf: the binds put into a map of nodes. -/
namespace Go.Proofs.YtiinmlagcbjloaaGreat
open Go.RowKit Go.Deep Go.Maps

theorem law : Keyed Tryz.prog 87 := int_keyed (q := .i64) (by kernel_rfl)
theorem underM : Tryz.prog.underlying 57 = some (.map 87 52) := by kernel_rfl
theorem key_of {x : Int} (h : (Lit.int .i64 x).wf = true) : keyOf Tryz.prog 87 (.int .i64 x) = some (.int .i64 x) := keyOf_int_mk (by kernel_rfl) h

/-- What stays where cells stay. -/
theorem NRow.keep {w w' : World} {lo B : Nat} (hk : ∀ q x, w.cell? q = some x → w'.cell? q = some x) : ∀ (k : Fo) (b o : Nat), NRow w lo B k b o → NRow w' lo B k b o
  | .nil, _, _, _ => trivial
  | .node _ _ p k r, b, o, ⟨hl, h0, ⟨val, h1, h2⟩, h5⟩ => by
    refine ⟨hl, h0, ⟨val, hk _ _ h1, ?_⟩, NRow.keep hk r b (o + 1) h5⟩
    rcases h2 with h2 | ⟨e, a, c, e2, h3⟩
    · exact .inl h2
    · refine .inr ⟨e, a, c, e2, ?_⟩
      rcases h3 with h3 | ⟨b', o', e3, h3⟩
      · exact .inl h3
      · exact .inr ⟨b', o', e3, NRow.keep hk k b' o' h3⟩
theorem NodeIs.keep {w w' : World} {lo B : Nat} {val : Value} {s v : Int} {k : Fo} (hk : ∀ q x, w.cell? q = some x → w'.cell? q = some x) (h : NodeIs w lo B val s v k) : NodeIs w' lo B val s v k := by
  rcases h with h | ⟨hs, a, c, e, h⟩
  · exact .inl h
  · refine .inr ⟨hs, a, c, e, ?_⟩
    rcases h with h | ⟨b, o, e2, h⟩
    · exact .inl h
    · exact .inr ⟨b, o, e2, h.keep hk⟩
theorem Row.keep {w w' : World} {lo B : Nat} (hk : ∀ q x, w.cell? q = some x → w'.cell? q = some x) : ∀ (k : Fo) (b o : Nat), Row w lo B k b o → Row w' lo B k b o
  | .nil, _, _, _ => trivial
  | .node _ _ p k r, b, o, ⟨hl, h0, h1, h2, ⟨a, c, h3, h4⟩, h5⟩ => by
    refine ⟨hl, h0, hk _ _ h1, hk _ _ h2, ⟨a, c, hk _ _ h3, ?_⟩, Row.keep hk r b (o + 3) h5⟩
    rcases h4 with h4 | ⟨b', o', e, h4⟩
    · exact .inl h4
    · exact .inr ⟨b', o', e, Row.keep hk k b' o' h4⟩
theorem Sl.keep {w w' : World} {lo B : Nat} {a : Option Addr} {k : Fo} (hk : ∀ q x, w.cell? q = some x → w'.cell? q = some x) (h : Sl w lo B a k) : Sl w' lo B a k := by
  rcases h with h | ⟨b, o, e, h⟩
  · exact .inl h
  · exact .inr ⟨b, o, e, h.keep hk⟩
theorem BSl.keep {w w' : World} {lo B : Nat} {a : Option Addr} {bs : List Bd} (hk : ∀ q x, w.cell? q = some x → w'.cell? q = some x) (h : BSl w lo B a bs) : BSl w' lo B a bs := by
  rcases h with h | ⟨b, o, e, h1, h2, h3⟩
  · exact .inl h
  · refine .inr ⟨b, o, e, h1, h2, fun i x hx => ?_⟩
    obtain ⟨a', c', c0, c1, c2, c3, hl⟩ := h3 i x hx
    exact ⟨a', c', hk _ _ c0, hk _ _ c1, hk _ _ c2, hk _ _ c3, hl.keep hk⟩
/-- Cells stay where a map is written. -/
theorem cells_keep {w w' : World} {b : Nat} {n : Nat} {D : DataW Value} (hm : w.ownsMap Tryz.prog 87 rdV b n D) (hg : w.grownBy w' (some b)) : ∀ q x, w.cell? q = some x → w'.cell? q = some x := fun q x hq => by
  obtain ⟨es, clock, hb, _⟩ := hm
  refine hg.cell hq fun e => ?_
  have : q.block = b := by simpa using e
  unfold World.cell? at hq
  rw [this, hb] at hq
  cases hq

theorem MapIs.start (w : World) : MapIs (w.alloc (.map #[] 0)) w.heap.size [] :=
  ⟨0, .map [], World.ownsMap_made w Tryz.prog 87 rdV, Nat.zero_le _, fun x _ => ⟨fun _ => rfl, fun s v k h => by simp [sv] at h⟩⟩
theorem MapIs.below {w w' : World} {b : Nat} {bs : List Bd} (h : MapIs w b bs) (hb : Below w.heap.size w w') : MapIs w' b bs := by
  obtain ⟨n, D, hm, hn, hx⟩ := h
  have hlt := hm.lt
  refine ⟨n, D, ?_, hn, fun x hw => ⟨(hx x hw).1, fun s v k hs => ?_⟩⟩
  · obtain ⟨es, clock, h1, h2⟩ := hm
    exact ⟨es, clock, by rw [hb.block b hlt]; exact h1, h2⟩
  · obtain ⟨h1, nv, h2, h3⟩ := (hx x hw).2 s v k hs
    exact ⟨h1, nv, h2, (h3.below hb).mono (Nat.le_refl _) hb.size⟩
/-- One more bind. -/
theorem MapIs.put {w w' : World} {b n : Nat} {D : DataW Value} {bs : List Bd} {x : Int} {nv : Value} {s v : Int} {k : Fo} (hn : n ≤ 12 + bs.length) (hx : ∀ x : Int, (Lit.int .i64 x).wf = true →
    (sv bs x = none → Maps.has D (.int .i64 x) = false) ∧ ∀ s v k, sv bs x = some (s, v, k) → Maps.has D (.int .i64 x) = true ∧ ∃ nv, D.atKey (.int .i64 x) (.held .nilIface) = .held nv ∧ NodeIs w 0 w.heap.size nv s v k)
    (hm : w.ownsMap Tryz.prog 87 rdV b n D) (hw : w'.ownsMap Tryz.prog 87 rdV b (n + 1) (D.put (.int .i64 x) (.held nv))) (hg : w.grownBy w' (some b)) (hv : sv bs x = none) (hnv : NodeIs w 0 w.heap.size nv s v k) : MapIs w' b (bs ++ [(x, s, v, k)]) := by
  have hk := cells_keep hm hg
  have hD := (hm.tidy law).isMap
  refine ⟨n + 1, _, hw, by simp; omega, fun y hy => ?_⟩
  rw [sv_snoc (x := (x, s, v, k)) hv]
  by_cases e : x = y
  · subst e
    rw [if_pos rfl]
    refine ⟨fun h => (by cases h), fun s' v' k' h => ?_⟩
    simp only [Option.some.injEq, Prod.mk.injEq] at h
    obtain ⟨rfl, rfl, rfl⟩ := h
    exact ⟨has_put_same hD (by trivial) _, nv, atKey_put_same hD (by trivial) _ _, (hnv.keep hk).mono (Nat.le_refl _) hg.size⟩
  · rw [if_neg (by exact e)]
    have hne : (Lit.int .i64 y) ≠ (Lit.int .i64 x) := by intro h; simp only [Lit.int.injEq, true_and] at h; exact e h.symm
    refine ⟨fun h => ?_, fun s' v' k' h => ?_⟩
    · rw [has_put_other hne]; exact (hx y hy).1 h
    · obtain ⟨h1, nv', h2, h3⟩ := (hx y hy).2 s' v' k' h
      exact ⟨by rw [has_put_other hne]; exact h1, nv', by rw [atKey_put_other hne]; exact h2, (h3.keep hk).mono (Nat.le_refl _) hg.size⟩
end Go.Proofs.YtiinmlagcbjloaaGreat

/-! S2: substOf. -/
namespace Go.Proofs.YtiinmlagcbjloaaGreat
open Go.RowKit Go.Deep Go.Maps

def SoPost (bs : List Bd) (room : Int) (w : World) (e : Ending) (w' : World) : Prop :=
  Below w.heap.size w w' ∧ ((sok room bs = true ∧ ∃ b, e = .returned (.tuple #[.map (some b), .bool true]) ∧ w.heap.size ≤ b ∧ MapIs w' b bs) ∨ (sok room bs = false ∧ e = .returned (.tuple #[.map none, .bool false])))

theorem drop_bd {bs : List Bd} {j : Nat} {x : Bd} (h : bs[j]? = some x) : bs.drop j = x :: bs.drop (j + 1) := by
  obtain ⟨hj, rfl⟩ := List.getElem?_eq_some_iff.1 h
  exact List.drop_eq_getElem_cons hj

set_option maxRecDepth 100000 in
set_option maxHeartbeats 2000000 in
theorem substOf_any (bs : List Bd) (A : Option Addr) (C : Nat) (room : Int) (w : World) (hb : BSl w 0 w.heap.size A bs) (hl : bs.length ≤ 9223372036854775807) (h1 : 0 ≤ room) (h2 : room ≤ 1000) :
    Calls Tryz.prog 22 #[.slice A bs.length C, .int .i64 room] w (SoPost bs room w) := by
  have HB := Lib.hid hb
  have HM0 := Lib.hid (MapIs.start w)
  have HL0 : Hid (Below w.heap.size w (w.alloc (.map #[] 0))) := (Below.refl _ _).alloc (Nat.le_refl _) _
  have hmm := @run_makeMap Tryz.prog
  clear hb
  go_enter Tryz.func22, Tryz.ntmps22
  go_wp2_with fail
  go_loopw [7, 15] (fun t i wr => ∃ (j : Nat) (last : Int), t = .int .i64 last ∧ i = .int .i64 j ∧ j ≤ bs.length ∧ -1 ≤ last ∧ (j : Int) ≤ last + 1 ∧ last < 12 ∧ Hid (sok room bs = sokFrom room last (bs.drop j)) ∧ Hid (MapIs wr w.heap.size (bs.take j)) ∧ Hid (Below w.heap.size w wr) ∧ w.heap.size < wr.heap.size ∧ Hid (∀ x, last < x → sv (bs.take j) x = none)) (fun _ i _ => bs.length - (intOf i).toNat)
  case atStart => exact ⟨0, -1, rfl, rfl, Nat.zero_le _, by omega, by omega, by omega, rfl, HM0, HL0, by simp, fun _ _ => rfl⟩
  case round =>
    clear HM0 HL0
    obtain ⟨j, last, rfl, rfl, hj, hl0, hl1, hl2, HS, HM, HLW, hsz, HN⟩ := hrel
    by_cases hlt : j < bs.length
    · obtain ⟨x, hx⟩ : ∃ x, bs[j]? = some x := ⟨bs[j], List.getElem?_eq_getElem hlt⟩
      obtain ⟨xv, s, v, k⟩ := x
      have hbr := HB.out.below HLW.out
      rcases hbr with hbr | ⟨b, o, rfl, _, hbB, hcells⟩
      · subst hbr; simp at hx
      obtain ⟨a', c', c0, c1, c2, c3, hsl⟩ := hcells j _ hx
      dsimp only at c0 c1 c2 c3 hsl
      clear hcells
      have g1 : (0 : Int) ≤ (j : Int) := by omega
      have g2 : (j : Int) < (bs.length : Int) := by omega
      have HX := Lib.hid hx
      have HD := Lib.hid (drop_bd hx)
      clear hx
      have hba : Below wr.heap.size wr (wr.alloc (.cells #[.int .i64 xv, .int .i64 s, .int .i64 v, .slice a' (flen k) c'] 31)) := (Below.refl _ _).alloc (Nat.le_refl _) _
      have HSL := Lib.hid ((hsl.below (hba.mono (Nat.le_of_lt hsz))).mono (lo' := 0) (B' := (wr.alloc (.cells #[.int .i64 xv, .int .i64 s, .int .i64 v, .slice a' (flen k) c'] 31)).heap.size) (Nat.le_refl _) (by simp; omega))
      have HM1 := Lib.hid (HM.out.below hba)
      have HLW1 := Lib.hid (HLW.out.trans (hba.mono (Nat.le_of_lt hsz)))
      clear hsl hba
      go_wp2_with fail
      with_reducible refine (nodeOf_any s v a' c' k room _ HSL.out h1 h2).mono ?_
      rintro e w2 ⟨nv, rfl, hb2, hyes⟩
      have q0 := cell_low hb2 (q := ⟨wr.heap.size, 0, none⟩) (x := .int .i64 xv) (by simp)
      have HM2 := Lib.hid (HM1.out.below hb2)
      have hs2 := hb2.size
      simp at hs2
      have HLW2 := Lib.hid (HLW1.out.trans (hb2.mono (by simp; omega)))
      have HY := Lib.hid hyes
      clear hb2 hyes c0 c1 c2 c3 HM1 HLW1 HSL HM HLW
      cases hok : okW s v k room with
      | false =>
        have HF : Hid (sok room bs = false) := by rw [Hid, HS.out, HD.out]; simp only [sokFrom, hok, Bool.false_and]
        clear hok
        go_wp2_with fail
        refine bodyPost_ret (v := .tuple #[.map none, .bool false]) ?_ rfl ⟨HLW2.out, .inr ⟨HF.out, rfl⟩⟩
        simp [results, Tryz.results22, go_sem]
      | true =>
        have HY2 := Lib.hid (HY.out hok)
        by_cases hlx : xv ≤ last
        · have HF : Hid (sok room bs = false) := by
            rw [Hid, HS.out, HD.out]; simp only [sokFrom]; rw [decide_eq_false (show ¬ last < xv by omega)]; simp
          have dl : decide (xv ≤ last) = true := decide_eq_true hlx
          clear hok HY
          go_wp2_with fail
          refine bodyPost_ret (v := .tuple #[.map none, .bool false]) ?_ rfl ⟨HLW2.out, .inr ⟨HF.out, rfl⟩⟩
          simp [results, Tryz.results22, go_sem]
        · have dl : decide (xv ≤ last) = false := decide_eq_false hlx
          by_cases h12 : 12 ≤ xv
          · have HF : Hid (sok room bs = false) := by
              rw [Hid, HS.out, HD.out]; simp only [sokFrom]; rw [decide_eq_false (show ¬ xv < 12 by omega)]; simp
            have dg : decide (xv ≥ 12) = true := decide_eq_true h12
            clear hok HY
            go_wp2_with fail
            refine bodyPost_ret (v := .tuple #[.map none, .bool false]) ?_ rfl ⟨HLW2.out, .inr ⟨HF.out, rfl⟩⟩
            simp [results, Tryz.results22, go_sem]
          · have dg : decide (xv ≥ 12) = false := decide_eq_false h12
            have HT : Hid (sok room bs = sokFrom room xv (bs.drop (j + 1))) := by
              rw [Hid, HS.out, HD.out]
              simp only [sokFrom, hok]
              rw [decide_eq_true (show last < xv by omega), decide_eq_true (show xv < 12 by omega)]; simp
            have HWF : Hid ((Lit.int .i64 xv).wf = true) := WalkArith.wf_i64 (by omega)
            have HTK : Hid (bs.take (j + 1) = bs.take j ++ [(xv, s, v, k)]) := by rw [Hid, List.take_add_one, HX.out]; rfl
            obtain ⟨n, D, hown, hn, hsv⟩ := HM2.out
            have HOWN := Lib.hid hown
            have HSV := Lib.hid hsv
            have hn12 : n < 100 := by have : (bs.take j).length ≤ j := by rw [List.length_take]; omega
                                      omega
            have hnm : n < maxLen := by unfold maxLen; omega
            have hnl : Hid (n ≤ 12 + (bs.take j).length) := hn
            have HNV : Hid (NodeIs w2 0 w2.heap.size nv s v k) := HY2.out.mono (Nat.zero_le _) (Nat.le_refl _)
            have HKEY := Lib.hid (key_of HWF.out)
            have HNX := Lib.hid (HN.out xv (by omega))
            clear hok HY hown hsv hn
            go_wp2_with (at_mapUpdate; refine wpList_mapUpdate_own (H := Value) _ rfl _ _ _ 57 rfl 87 52 law underM rdV w.heap.size n D rfl HOWN.out hnm (.int .i64 xv) nv (.int .i64 xv) rfl rfl HKEY.out (.held nv) [] rfl ?_; intro w3 hown3 hgrow3; have HM3 := Lib.hid (MapIs.put hnl.out HSV.out HOWN.out hown3 hgrow3 HNX.out HNV.out); have q3 := cells_keep HOWN.out hgrow3 _ _ q0; have HG3 := Lib.hid hgrow3; clear hown3 hgrow3)
            go_roundw
            case rel =>
              refine ⟨j + 1, xv, rfl, by go_num, by omega, by omega, by omega, by omega, HT, ?_, ?_, ?_, ?_⟩
              · rw [HTK.out]; exact HM3
              · exact HLW2.out.grown HG3.out (by omega) (fun g hg => by cases hg; exact Nat.le_refl _)
              · have := HG3.out.size; omega
              · intro y hy
                rw [HTK.out, sv_snoc (x := (xv, s, v, k)) HNX.out]
                rw [if_neg (show xv ≠ y by omega)]
                exact HN.out y (by omega)
            case measure => simp [intOf]; omega
    · have HE : Hid (sok room bs = true) := by rw [Hid, HS.out, List.drop_eq_nil_of_le (by omega)]; rfl
      have HM4 : Hid (MapIs wr w.heap.size bs) := by have := HM.out; rw [List.take_of_length_le (by omega)] at this; exact this
      go_wp2_with fail
      refine bodyPost_ret (v := .tuple #[.map (some w.heap.size), .bool true]) ?_ rfl ⟨HLW.out, .inl ⟨HE.out, w.heap.size, rfl, Nat.le_refl _, HM4.out⟩⟩
      simp [results, Tryz.results22, go_sem]
end Go.Proofs.YtiinmlagcbjloaaGreat

/-! S3: What is put in: plain; nodes that stay. valueOf, symbolOf. -/
namespace Go.Proofs.YtiinmlagcbjloaaGreat
open Go.RowKit Go.Deep Go.Maps

/-- What variables stand for put into terms of a row. -/
def fsub (σ : Int → Option (Int × Int × Fo)) : Fo → Fo
  | .nil => .nil
  | .node x y p k r => if p.1 = 0 then (match σ p.2 with
      | some t => .node x y (t.1, t.2.1) t.2.2 (fsub σ r)
      | none => .node x y p k (fsub σ r)) else .node x y p (fsub σ k) (fsub σ r)
def tsub (σ : Int → Option (Int × Int × Fo)) (s v : Int) (k : Fo) : Int × Int × Fo := if s = 0 then (σ v).getD (s, v, k) else (s, v, fsub σ k)
theorem fsub_len (σ : Int → Option (Int × Int × Fo)) : ∀ k : Fo, flen (fsub σ k) = flen k
  | .nil => rfl
  | .node _ _ p k r => by
    simp only [fsub]
    split
    · split <;> simp only [flen, fsub_len σ r]
    · simp only [flen, fsub_len σ r]
theorem fsub_at (σ : Int → Option (Int × Int × Fo)) : ∀ (i : Nat) (k : Fo) {x y : Nat} {s v : Int} {kk r : Fo}, fdrop i k = .node x y (s, v) kk r → fdrop i (fsub σ k) = .node x y ((tsub σ s v kk).1, (tsub σ s v kk).2.1) (tsub σ s v kk).2.2 (fdrop (i + 1) (fsub σ k))
  | 0, .nil, _, _, _, _, _, _, h => by simp [fdrop] at h
  | 0, .node _ _ p k r, x, y, s, v, kk, r', h => by
    simp only [fdrop, BT.node.injEq] at h
    obtain ⟨rfl, rfl, rfl, rfl, _⟩ := h
    simp only [fsub, tsub]
    by_cases e : s = 0
    · simp only [if_pos e]
      cases σ v with
      | none => simp [fdrop]
      | some t => simp [fdrop]
    · simp only [if_neg e]
      simp [fdrop]
  | _ + 1, .nil, _, _, _, _, _, _, h => by simp [fdrop] at h
  | n + 1, .node _ _ p k r, x, y, s, v, kk, r', h => by
    simp only [fdrop] at h
    have := fsub_at σ n r h
    simp only [fsub]
    split
    · split <;> simp only [fdrop, this]
    · simp only [fdrop, this]

/-- What stays where all cells but those of no node stay. -/
theorem NRow.keepN {w w' : World} {lo B : Nat} (hk : ∀ q x, w.cell? q = some x → x ≠ .nilIface → w'.cell? q = some x) : ∀ (k : Fo) (b o : Nat), NRow w lo B k b o → NRow w' lo B k b o
  | .nil, _, _, _ => trivial
  | .node _ _ p k r, b, o, ⟨hl, h0, ⟨val, h1, h2⟩, h5⟩ => by
    have hne : val ≠ .nilIface := by
      rcases h2 with ⟨_, _, rfl⟩ | ⟨_, a, c, rfl, _⟩ <;> (intro e; cases e)
    refine ⟨hl, h0, ⟨val, hk _ _ h1 hne, ?_⟩, NRow.keepN hk r b (o + 1) h5⟩
    rcases h2 with h2 | ⟨e, a, c, e2, h3⟩
    · exact .inl h2
    · refine .inr ⟨e, a, c, e2, ?_⟩
      rcases h3 with h3 | ⟨b', o', e3, h3⟩
      · exact .inl h3
      · exact .inr ⟨b', o', e3, NRow.keepN hk k b' o' h3⟩
theorem NodeIs.keepN {w w' : World} {lo B : Nat} {val : Value} {s v : Int} {k : Fo} (hk : ∀ q x, w.cell? q = some x → x ≠ .nilIface → w'.cell? q = some x) (h : NodeIs w lo B val s v k) : NodeIs w' lo B val s v k := by
  rcases h with h | ⟨hs, a, c, e, h⟩
  · exact .inl h
  · refine .inr ⟨hs, a, c, e, ?_⟩
    rcases h with h | ⟨b, o, e2, h⟩
    · exact .inl h
    · exact .inr ⟨b, o, e2, h.keepN hk⟩
theorem nrow_of_allS {w : World} {lo B : Nat} : ∀ (k : Fo) (b o : Nat), lo ≤ b → b < B →
    (∀ i, i < flen k → ∃ x y s v kk val, fdrop i k = .node x y (s, v) kk (fdrop (i + 1) k) ∧ w.cell? ⟨b, o + i, none⟩ = some val ∧ NodeIs w lo B val s v kk) → NRow w lo B k b o
  | .nil, _, _, _, _, _ => trivial
  | .node x y p kk r, b, o, h1, h2, h => by
    obtain ⟨x', y', s, v, kk', val, e, c0, hn⟩ := h 0 (by simp [flen])
    simp only [fdrop, BT.node.injEq] at e
    obtain ⟨_, _, rfl, rfl, _⟩ := e
    refine ⟨h1, h2, ⟨val, by simpa using c0, hn⟩, nrow_of_allS r b (o + 1) h1 h2 fun i hi => ?_⟩
    obtain ⟨x', y', s', v', kk', val', e, c0, hn⟩ := h (i + 1) (by simp [flen]; omega)
    exact ⟨x', y', s', v', kk', val', e, by rw [show o + 1 + i = o + (i + 1) from by omega]; exact c0, hn⟩

theorem zeroE (w : World) : (zeroValue 52).run Tryz.prog w = .ok .nilIface w := by kernel_rfl

def NvPost (s v : Int) (k : Fo) (w : World) (e : Ending) (w' : World) : Prop := ∃ nv, e = .returned nv ∧ Below w.heap.size w w' ∧ NodeIs w' 0 w'.heap.size nv s v k

set_option maxRecDepth 100000 in
set_option maxHeartbeats 1000000 in
theorem valueOf_any (bs : List Bd) (b : Nat) (x : Int) (w : World) (hm : MapIs w b bs) (hw : (Lit.int .i64 x).wf = true) :
    Calls Tryz.prog 46 #[.map (some b), .int .i64 x] w (NvPost (tsub (sv bs) 0 x .nil).1 (tsub (sv bs) 0 x .nil).2.1 (tsub (sv bs) 0 x .nil).2.2 w) := by
  obtain ⟨n, D, hown, hn, hsv⟩ := hm
  have HOWN := Lib.hid hown
  have HKEY := Lib.hid (key_of hw)
  have hx := hsv x hw
  have hz := zeroE
  clear hown hsv
  cases hs : sv bs x with
  | none =>
    have hh := hx.1 hs
    have HT : Hid (tsub (sv bs) 0 x .nil = (0, x, .nil)) := by simp [Hid, tsub, hs]
    clear hx hs
    go_enter Tryz.func46, Tryz.ntmps46
    go_wp2_with (at_lookup; refine wpList_lookup_own_ok (H := Value) _ rfl _ _ 57 rfl 87 52 law underM rdV (zeroE _) (.held .nilIface) [] rfl b n D rfl HOWN.out (.int .i64 x) (.int .i64 x) rfl HKEY.out ?_; intro nv ps hnv; rw [hh]; clear hnv)
    go_ret
    rw [HT.out]
    exact ⟨_, rfl, Below.refl _ _, .inl ⟨rfl, rfl, rfl⟩⟩
  | some t =>
    obtain ⟨s', v', k'⟩ := t
    obtain ⟨hh, nv0, hat, hnode⟩ := hx.2 s' v' k' hs
    have HT : Hid (tsub (sv bs) 0 x .nil = (s', v', k')) := by simp [Hid, tsub, hs]
    have HNODE := Lib.hid hnode
    have HAT := Lib.hid hat
    clear hx hs hnode hat
    go_enter Tryz.func46, Tryz.ntmps46
    go_wp2_with (at_lookup; refine wpList_lookup_own_ok (H := Value) _ rfl _ _ 57 rfl 87 52 law underM rdV (zeroE _) (.held .nilIface) [] rfl b n D rfl HOWN.out (.int .i64 x) (.int .i64 x) rfl HKEY.out ?_; intro nv ps hnv; rw [hh]; have HE : Hid (nv = nv0) := (by have := HAT.out; simp only [rdV, Option.some.injEq, Prod.mk.injEq] at hnv; rw [this] at hnv; exact DataW.held.inj hnv.1); clear hnv)
    go_ret
    rw [HT.out]
    exact ⟨nv, rfl, Below.refl _ _, by rw [HE.out]; exact HNODE.out⟩

set_option maxRecDepth 100000 in
theorem symbolOf_any (s : Int) (a : Option Addr) (n c : Nat) (w : World) :
    Calls Tryz.prog 47 #[.int .i64 s, .slice a n c] w fun e w' => e = .returned (.iface 99 (.agg #[.int .i64 s, .slice a n c])) ∧ w' = w := by
  go_enter Tryz.func47, Tryz.ntmps47
  go_wp2_with fail
  go_ret
  exact ⟨rfl, rfl⟩
end Go.Proofs.YtiinmlagcbjloaaGreat

/-! S4: fold over nodes with valueOf and symbolOf; apply. -/
namespace Go.Proofs.YtiinmlagcbjloaaGreat
open Go.RowKit Go.Deep Go.Maps

/-- What holds at the head of fold's loop: j kids are done. -/
structure FoAt (w : World) (σ : Int → Option (Int × Int × Fo)) (k : Fo) (g j : Nat) (wr : World) : Prop where
  below : Below w.heap.size w wr
  new : w.heap.size ≤ g
  lt : g < wr.heap.size
  row : ∃ vs, wr.ownsRow w.heap.size 52 1 (.slice (some ⟨g, 0, none⟩) (flen k) (flen k)) (flen k) vs ∧ (∀ i, j ≤ i → i < flen k → vs[i]? = some .nilIface) ∧
    ∀ i, i < j → ∃ x y s v kk nv, fdrop i k = .node x y (s, v) kk (fdrop (i + 1) k) ∧ vs[i]? = some nv ∧ NodeIs wr 0 wr.heap.size nv (tsub σ s v kk).1 (tsub σ s v kk).2.1 (tsub σ s v kk).2.2
theorem FoAt.start {w u : World} {σ : Int → Option (Int × Int × Fo)} {k : Fo} (hb : Below w.heap.size w u) (hk : flen k ≤ 1000) : FoAt w σ k u.heap.size 0 (u.alloc (.cells (madeCells #[.nilIface] (flen k)) 52)) := by
  have hs := hb.size
  refine ⟨hb.alloc hs _, hs, by simp, ⟨_, World.ownsRow_lit (base := w.heap.size) (e := 52) (size := 1) u (madeCells #[.nilIface] (flen k)) (flen k) hs (by unfold maxLen; omega) (by simp [madeCells]), fun i _ hi => ?_, fun i hi => by omega⟩⟩
  rw [toList_madeCells_one, List.getElem?_replicate, if_pos hi]
theorem FoAt.step {w wr w2 : World} {σ : Int → Option (Int × Int × Fo)} {k : Fo} {g j x y : Nat} {s v : Int} {kk : Fo} {nv : Value} (h : FoAt w σ k g j wr) (hj : j < flen k) (hd : fdrop j k = .node x y (s, v) kk (fdrop (j + 1) k)) (hb : Below wr.heap.size wr w2)
    (hn : NodeIs w2 0 w2.heap.size nv (tsub σ s v kk).1 (tsub σ s v kk).2.1 (tsub σ s v kk).2.2) : FoAt w σ k g (j + 1) (w2.setCell ⟨g, j, none⟩ nv) := by
  obtain ⟨vs, hown, hnil, hall⟩ := h.row
  have hs := hb.size
  have hl := h.lt
  have hnew := h.new
  have hws := h.below.size
  have hown2 := own_low hb hown
  have hcj : w2.cell? ⟨g, j, none⟩ = some .nilIface := by rw [hown2.cellAt j (by omega)]; exact hnil j (Nat.le_refl _) hj
  have hkeep : ∀ q z, w2.cell? q = some z → z ≠ .nilIface → (w2.setCell ⟨g, j, none⟩ nv).cell? q = some z := fun q z hq hz => by
    by_cases e : q = ⟨g, j, none⟩
    · subst e; rw [hcj] at hq; exact absurd (Option.some.inj hq).symm hz
    · rw [World.cell?_setCell_other _ _ _ _ (fun h' => e h'.symm)]; exact hq
  have hvl : vs.length = flen k := by have := hown.1; omega
  refine ⟨(h.below.trans (hb.mono hws)).setCell hnew _, hnew, by simp; omega, ⟨vs.set j nv, (hown2.stored j nv).1, fun i h1 h2 => ?_, fun i hi => ?_⟩⟩
  · rw [List.getElem?_set_ne (by omega)]; exact hnil i (by omega) h2
  · by_cases e : i = j
    · subst e
      exact ⟨x, y, s, v, kk, nv, hd, List.getElem?_set_self (by omega), (hn.keepN hkeep).mono (Nat.le_refl _) (by simp)⟩
    · obtain ⟨x', y', s', v', kk', nv', e1, e2, e3⟩ := hall i (by omega)
      exact ⟨x', y', s', v', kk', nv', e1, by rw [List.getElem?_set_ne (fun h' => e h'.symm)]; exact e2, (((e3.below hb).mono (Nat.le_refl _) hs).keepN hkeep).mono (Nat.le_refl _) (by simp)⟩
theorem FoAt.done {w wr : World} {σ : Int → Option (Int × Int × Fo)} {k : Fo} {g : Nat} (h : FoAt w σ k g (flen k) wr) : NSl wr 0 wr.heap.size (some ⟨g, 0, none⟩) (fsub σ k) := by
  obtain ⟨vs, hown, _, hall⟩ := h.row
  refine .inr ⟨g, 0, rfl, nrow_of_allS _ _ _ (Nat.zero_le _) h.lt fun i hi => ?_⟩
  rw [fsub_len] at hi
  obtain ⟨x, y, s, v, kk, nv, hd, hv, hn⟩ := hall i hi
  exact ⟨x, y, _, _, _, nv, fsub_at σ i k hd, by rw [Nat.zero_add, hown.cellAt i (by omega)]; exact hv, hn⟩
end Go.Proofs.YtiinmlagcbjloaaGreat

/-! S5: fold; apply. -/
namespace Go.Proofs.YtiinmlagcbjloaaGreat
open Go.RowKit Go.Deep Go.Maps

set_option maxRecDepth 100000 in
theorem signOfS_any (s : Int) (a : Option Addr) (n c : Nat) (w : World) :
    Calls Tryz.prog 39 #[.iface 99 (.agg #[.int .i64 s, .slice a n c])] w fun e w' => e = .returned (.int .i64 s) ∧ Below w.heap.size w w' := by
  have hta := assert_var
  have htb := assert_sym
  go_enter Tryz.func39, Tryz.ntmps39
  go_wp2_with fail
  go_ret
  exact ⟨rfl, (Below.refl _ _).alloc (Nat.le_refl _) _⟩

set_option maxRecDepth 100000 in
set_option maxHeartbeats 2000000 in
theorem fold_any (bs : List Bd) (b : Nat) (N : Nat) : ∀ (s v : Int) (k : Fo) (nv : Value) (w : World), NodeIs w 0 w.heap.size nv s v k → MapIs w b bs → okN s v (flen k) = true → fok k = true → fsz k ≤ N → N ≤ 1000 →
    Calls Tryz.prog 45 #[nv, .func (.func 46) #[.map (some b)] #[], .func (.func 47) #[] #[]] w (NvPost (tsub (sv bs) s v k).1 (tsub (sv bs) s v k).2.1 (tsub (sv bs) s v k).2.2 w) := by
  induction N using Nat.strongRecOn with
  | _ N ih =>
    intro s v k nv w hn hm hok hfk hN hN2
    have IH := Lib.hid ih
    have HM := Lib.hid hm
    have HN := Lib.hid hn
    have HFK := Lib.hid hfk
    have hfl := flen_le_sz k
    have hta := assert_varV
    have htb := assert_symV
    clear ih hm hfk
    rcases hn with ⟨rfl, rfl, rfl⟩ | ⟨hs, a, c, rfl, hns⟩
    · have hv := ((okN_iff _ _ _).1 hok).2.1 rfl
      have HWF : Hid ((Lit.int .i64 v).wf = true) := WalkArith.wf_i64 (by omega)
      clear hok
      go_enter Tryz.func45, Tryz.ntmps45
      go_wp2_with fail
      with_reducible refine (valueOf_any bs b v _ HM.out HWF.out).mono ?_
      rintro e w1 ⟨nv1, rfl, hb1, hn1⟩
      have HB1 := Lib.hid hb1
      have HN1 := Lib.hid hn1
      clear hb1 hn1
      go_wp2_with fail
      go_ret
      exact ⟨nv1, rfl, HB1.out, HN1.out⟩
    · have HT : Hid (tsub (sv bs) s v k = (s, v, fsub (sv bs) k)) := by unfold Hid tsub; rw [if_neg hs]
      have hvs := ((okN_iff _ _ _).1 hok).2.2 hs
      clear hns hok
      go_enter Tryz.func45, Tryz.ntmps45
      go_wp2_with fail
      with_reducible refine (kidsOf_any s v k _ w.heap.size _ HN.out).mono ?_
      rintro e w1 ⟨ak, ck, rfl, hb1, hnk⟩
      have HB1 := Lib.hid hb1
      have HNK := Lib.hid hnk
      have hs1 := hb1.size
      have hmk := run_make_row' (P := Tryz.prog) 84 52 .nilIface 16 Tryz.underlying84 Tryz.infoNode rfl .i64 .i64 (flen k) (by omega) (by omega)
      have HST := Lib.hid (FoAt.start (σ := sv bs) hb1 (k := k) (by omega))
      clear hb1 hnk
      go_wp2_with fail
      go_loopw [29] (fun i wr => ∃ j : Nat, i = .int .i64 j ∧ j ≤ flen k ∧ Hid (FoAt w (sv bs) k w1.heap.size j wr)) (fun i _ => flen k - (intOf i).toNat)
      case atStart => exact ⟨0, rfl, Nat.zero_le _, HST⟩
      case round =>
        clear HST
        obtain ⟨j, rfl, hj, HF⟩ := hrel
        have hws := HF.out.below.size
        by_cases hlt : j < flen k
        · have hnr := HNK.out.below HF.out.below
          rcases hnr with rfl | ⟨kb, ko, rfl, hrow⟩
          · simp [flen] at hlt
          obtain ⟨s', v', kk, val, ⟨x, y, hd⟩, _, hbB, hk0, hnk⟩ := nrow_at hrow hlt
          have hkN := fsz_kid hd
          have hkid := fok_kid HFK.out hd
          have HC := Lib.hid (IH.out (fsz kk) (by omega) s' v' kk val wr (hnk.mono (Nat.le_refl _) hws) (HM.out.below HF.out.below) hkid.1 hkid.2 (Nat.le_refl _) (by omega))
          have HD := Lib.hid hd
          obtain ⟨vs, hown, hnil, _⟩ := HF.out.row
          have hlw := HF.out.lt
          have HOWN := Lib.hid hown
          have hcj0 := hnil j (Nat.le_refl _) hlt
          have HNJ := Lib.hid hcj0
          clear hnk hkid hd hrow hown hnil hcj0
          have g1 : (0 : Int) ≤ (j : Int) := by omega
          have g2 : (j : Int) < (flen k : Int) := by omega
          go_wp2_with fail
          with_reducible refine HC.out.mono ?_
          rintro e w2 ⟨nv2, rfl, hb2, hn2⟩
          obtain ⟨ty2, vv2, rfl⟩ : ∃ ty vv, nv2 = .iface ty vv := by
            rcases hn2 with ⟨_, _, rfl⟩ | ⟨_, _, _, rfl, _⟩
            · exact ⟨_, _, rfl⟩
            · exact ⟨_, _, rfl⟩
          have hown2 := own_low hb2 HOWN.out
          have hz : w2.cell? ⟨w1.heap.size, j, none⟩ = some .nilIface := by rw [hown2.cellAt j (by omega)]; exact HNJ.out
          have hf : w2.frozen? ⟨w1.heap.size, j, none⟩ = false := hown2.frozenAt j
          have HF2 := Lib.hid (HF.out.step hlt HD.out hb2 hn2)
          clear hb2 hn2 hown2 hk0 HC
          go_wp2_with fail
          go_roundw
          case rel => exact ⟨j + 1, by go_num, by omega, HF2⟩
          case measure => simp [intOf]; omega
        · have hjk : j = flen k := by omega
          subst hjk
          have HNS := Lib.hid HF.out.done
          have HBW := Lib.hid HF.out.below
          have hfl2 := fsub_len (sv bs) k
          go_wp2_with fail
          with_reducible refine (signOfS_any s a (flen k) c _).mono ?_
          rintro e w3 ⟨rfl, hb3⟩
          have HB3 := Lib.hid hb3
          clear hb3
          go_wp2_with fail
          with_reducible refine (symbolOf_any s (some ⟨w1.heap.size, 0, none⟩) (flen k) (flen k) _).mono ?_
          rintro e w4 ⟨rfl, rfl⟩
          have HP : Hid (NvPost (tsub (sv bs) s v k).1 (tsub (sv bs) s v k).2.1 (tsub (sv bs) s v k).2.2 w (.returned (.iface 99 (.agg #[.int .i64 s, .slice (some ⟨w1.heap.size, 0, none⟩) (flen k) (flen k)]))) w4) := by
            rw [Hid, HT.out]
            refine ⟨_, rfl, HBW.out.trans (HB3.out.mono hws), .inr ⟨hs, some ⟨w1.heap.size, 0, none⟩, flen k, by rw [hfl2], ?_⟩⟩
            exact (HNS.out.below HB3.out).mono (Nat.le_refl _) HB3.out.size
          clear hfl2
          go_wp2_with fail
          go_ret
          exact HP.out

set_option maxRecDepth 100000 in
theorem apply_any (bs : List Bd) (b : Nat) (s v : Int) (k : Fo) (nv : Value) (w : World) (hn : NodeIs w 0 w.heap.size nv s v k) (hm : MapIs w b bs) (hok : okN s v (flen k) = true) (hfk : fok k = true) (hN : fsz k ≤ 1000) :
    Calls Tryz.prog 23 #[.map (some b), nv] w (NvPost (tsub (sv bs) s v k).1 (tsub (sv bs) s v k).2.1 (tsub (sv bs) s v k).2.2 w) := by
  have HC := Lib.hid (fold_any bs b 1000 s v k nv w hn hm hok hfk hN (Nat.le_refl _))
  clear hn hm hok hfk
  go_enter Tryz.func23, Tryz.ntmps23
  go_wp2_with fail
  with_reducible refine HC.out.mono ?_
  rintro e w1 ⟨nv1, rfl, hb1, hn1⟩
  have HB1 := Lib.hid hb1
  have HN1 := Lib.hid hn1
  clear hb1 hn1
  go_wp2_with fail
  go_ret
  exact ⟨nv1, rfl, HB1.out, HN1.out⟩
end Go.Proofs.YtiinmlagcbjloaaGreat
