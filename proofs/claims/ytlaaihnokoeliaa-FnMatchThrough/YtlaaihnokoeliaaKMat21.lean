/- Several texts in one: PLi, PLs, PL1, V5d, DTp, Read, XA, XB, XBt. -/
import Derived.Test.YtlaaihnokoeliaaKMat20
import Derived.Test.YtlaaihnokoeliaaKMat15
import Derived.Test.YtlaaihnokoeliaaKMat8
import Derived.Test.YtlaaihnokoeliaaKMat10
import Derived.Test.YtlaaihnokoeliaaKMat17
import Derived.Test.YtlaaihnokoeliaaKMat19
import Derived.Test.YtlaaihnokoeliaaKMat13
import Derived.Test.YtlaaihnokoeliaaKMat1
import Derived.Test.YtlaaihnokoeliaaRows
import Derived.ProofKit
import Derived.Lib.SmallJoins
import Derived.WalkKit
import Derived.WalkSpells
import Derived.WalkLawsBesides
import Derived.Lib.Hide
import Derived.Deep.OwnRows

/-! PLi: - The program's plainOf and TermPlain. -/
namespace Go.Proofs.Ytlaaihnokoeliaa
open Go.RowKit Go.Deep Go.Maps

/-- A map in which the variables of bs have nodes of their terms, and no others. -/
def MapE (w : World) (b : Nat) (bs : List Bd) : Prop :=
  ∃ n D, w.ownsMap Try.prog 85 rdV b n D ∧ n ≤ bs.length ∧ Maps.size D = bs.length ∧ ∀ x : Int, (Lit.int .i64 x).wf = true →
    (sv bs x = none → Maps.has D (.int .i64 x) = false) ∧ ∀ s v k, sv bs x = some (s, v, k) → Maps.has D (.int .i64 x) = true ∧ ∃ nv, D.atKey (.int .i64 x) (.held .nilIface) = .held nv ∧ NodeIs w 0 w.heap.size nv s v k
theorem MapE.to {w : World} {b : Nat} {bs : List Bd} (h : MapE w b bs) : MapIs w b bs := by
  obtain ⟨n, D, h1, h2, _, h4⟩ := h
  exact ⟨n, D, h1, by omega, h4⟩
theorem MapE.start (w : World) : MapE (w.alloc (.map #[] 0)) w.heap.size [] :=
  ⟨0, .map [], World.ownsMap_made w Try.prog 85 rdV, Nat.le_refl _, rfl, fun x _ => ⟨fun _ => rfl, fun s v k h => by simp [sv] at h⟩⟩
theorem MapE.below {w w' : World} {b : Nat} {bs : List Bd} (h : MapE w b bs) (hb : Below w.heap.size w w') : MapE w' b bs := by
  obtain ⟨n, D, hm, hn, hz, hx⟩ := h
  have hlt := hm.lt
  refine ⟨n, D, ?_, hn, hz, fun x hw => ⟨(hx x hw).1, fun s v k hs => ?_⟩⟩
  · obtain ⟨es, clock, h1, h2⟩ := hm
    exact ⟨es, clock, by rw [hb.block b hlt]; exact h1, h2⟩
  · obtain ⟨h1, nv, h2, h3⟩ := (hx x hw).2 s v k hs
    exact ⟨h1, nv, h2, (h3.below hb).mono (Nat.le_refl _) hb.size⟩
/-- One more name. -/
theorem MapE.put {w w' : World} {b n : Nat} {D : DataW Value} {bs : List Bd} {x : Int} {nv : Value} {s v : Int} {k : Fo} (hn : n ≤ bs.length) (hz : Maps.size D = bs.length) (hx : ∀ x : Int, (Lit.int .i64 x).wf = true →
    (sv bs x = none → Maps.has D (.int .i64 x) = false) ∧ ∀ s v k, sv bs x = some (s, v, k) → Maps.has D (.int .i64 x) = true ∧ ∃ nv, D.atKey (.int .i64 x) (.held .nilIface) = .held nv ∧ NodeIs w 0 w.heap.size nv s v k)
    (hm : w.ownsMap Try.prog 85 rdV b n D) (hw : w'.ownsMap Try.prog 85 rdV b (n + 1) (D.put (.int .i64 x) (.held nv))) (hg : w.grownBy w' (some b)) (hwf : (Lit.int .i64 x).wf = true) (hv : sv bs x = none) (hnv : NodeIs w 0 w.heap.size nv s v k) : MapE w' b (ladd bs (x, s, v, k)) := by
  have hk := cells_keep hm hg
  have hD := (hm.tidy law).isMap
  refine ⟨n + 1, _, hw, by rw [ladd_len]; omega, ?_, fun y hy => ?_⟩
  · rw [size_put (hm.tidy law), (hx x hwf).1 hv, ladd_len, ← hz]; rfl
  rw [sv_ladd (b := (x, s, v, k)) hv]
  by_cases e : x = y
  · subst e
    rw [if_pos rfl]
    refine ⟨fun h => (by cases h), fun s' v' k' h => ?_⟩
    simp only [Option.some.injEq, Prod.mk.injEq] at h
    obtain ⟨rfl, rfl, rfl⟩ := h
    exact ⟨has_put_same hD (by trivial) _, nv, atKey_put_same hD (by trivial) _ _, (hnv.keep hk).mono (Nat.le_refl _) hg.size⟩
  · rw [if_neg (by exact e)]
    have hne : (Lit.int .i64 y) ≠ (Lit.int .i64 x) := by intro h; simp only [Lit.int.injEq, true_and] at h; exact e h.symm
    refine ⟨fun h => ?_, fun s' v' k' h => ?_⟩
    · rw [has_put_other hne]; exact (hx y hy).1 h
    · obtain ⟨h1, nv', h2, h3⟩ := (hx y hy).2 s' v' k' h
      exact ⟨by rw [has_put_other hne]; exact h1, nv', by rw [atKey_put_other hne]; exact h2, (h3.keep hk).mono (Nat.le_refl _) hg.size⟩
theorem take_nm {ys : List Int} {j : Nat} {y : Int} (h : ys[j]? = some y) (bs : List Bd) : nmL bs (ys.take (j + 1)) = nm1 (nmL bs (ys.take j)) y := by
  rw [List.take_add_one, h, nmL_app]; rfl

def PoPost (s v : Int) (k : Fo) (w : World) (e : Ending) (w' : World) : Prop := ∃ b, e = .returned (.map (some b)) ∧ Below w.heap.size w w' ∧ MapE w' b (nms s v k)

def PlnPost (s v : Int) (k : Fo) (w : World) (e : Ending) (w' : World) : Prop :=
  ∃ a c A C s' v' k' bs, plR s v k = ((s', v', k'), bs) ∧ e = .returned (.tuple #[.agg #[.int .i64 s', .int .i64 v', .slice a (flen k') c], .slice A (List.length bs) C]) ∧ Below w.heap.size w w' ∧ Sl w' 0 w'.heap.size a k' ∧ BSl w' 0 w'.heap.size A bs
theorem pl_end {w w1 : World} {s v s' v' : Int} {k k' : Fo} {a A : Option Addr} {c C : Nat} {bs : List Bd} {o o' : Obj} (hr : plR s v k = ((s', v', k'), bs)) (hb : Below (w.heap.size + 2) ((w.alloc o).alloc o') w1) (hl : Sl w1 (w.heap.size + 2) w1.heap.size a k') (hi : BSl w1 (w.heap.size + 2) w1.heap.size A bs) (x y z : Value) :
    PlnPost s v k w (.returned (.tuple #[.agg #[.int .i64 s', .int .i64 v', .slice a (flen k') c], .slice A (List.length bs) C])) (((w1.setCell ⟨w.heap.size + 1, 0, none⟩ x).setCell ⟨w.heap.size + 1, 1, none⟩ y).setCell ⟨w.heap.size + 1, 2, none⟩ z) := by
  have h0 : Same (w.heap.size + 2) w1.heap.size w1 (((w1.setCell ⟨w.heap.size + 1, 0, none⟩ x).setCell ⟨w.heap.size + 1, 1, none⟩ y).setCell ⟨w.heap.size + 1, 2, none⟩ z) := ((Same.setCell (fun _ _ _ => rfl) (.inl (by simp)) _).setCell (.inl (by simp)) _).setCell (.inl (by simp)) _
  have hb' : Below w.heap.size w w1 := (((Below.refl _ _).alloc (Nat.le_refl _) o).alloc (by simp) o').trans (hb.mono (by omega))
  exact ⟨a, c, A, C, s', v', k', bs, hr, rfl, ((hb'.setCell (by simp) _).setCell (by simp) _).setCell (by simp) _, (hl.same h0).mono (by omega) (by simp), (hi.same h0).mono (by omega) (by simp)⟩
theorem plR_bad {s v : Int} {k : Fo} (h : okW s v k 16 = false) : plR s v k = ((0, 0, .nil), []) := by unfold plR; rw [if_neg (by rw [h]; simp)]
theorem plR_ok {s v : Int} {k : Fo} (h : okW s v k 16 = true) : plR s v k = (tsub (sv (nms s v k)) s v k, nms s v k) := by unfold plR; rw [if_pos h]

end Go.Proofs.Ytlaaihnokoeliaa

/-! PLs: - The specification's l2Names and TermPlain. -/
namespace Go.Proofs.Ytlaaihnokoeliaa
open Go.RowKit Go.Deep

def LnPost (lo : Nat) (bs : List Bd) (s v : Int) (k : Fo) (w : World) (e : Ending) (w' : World) : Prop :=
  ∃ A C, e = .returned (.slice A (List.length (nmL bs (fvs s v k))) C) ∧ Below w.heap.size w w' ∧ BSl w' lo w'.heap.size A (nmL bs (fvs s v k))
/-- No term has kids. -/
def Nils (bs : List Bd) : Prop := ∀ x ∈ bs, x.2.2.2 = .nil
theorem nm1_nils {bs : List Bd} (x : Int) (h : Nils bs) : Nils (nm1 bs x) := by
  cases hs : sv bs x with
  | some t => rw [nm1_some hs]; exact h
  | none =>
    rw [nm1_none hs]
    intro y hy
    rcases ladd_mem.1 hy with rfl | hy
    · rfl
    · exact h y hy
theorem nmL_nils : ∀ (xs : List Int) (bs : List Bd), Nils bs → Nils (nmL bs xs)
  | [], _, h => h
  | x :: r, _, h => nmL_nils r _ (nm1_nils x h)
theorem BRow.bsl_lo {w wr : World} {base lo : Nat} {bs : List Bd} {A : Option Addr} {C : Nat} (h : BRow w base bs A C wr) (hn : Nils bs) (hlo : lo ≤ base) : BSl wr lo wr.heap.size A bs := by
  obtain ⟨xs, hown, hxl, hall⟩ := h.own
  rcases Nat.eq_zero_or_pos bs.length with h0 | h0
  · exact .inl (List.eq_nil_of_length_eq_zero h0)
  · obtain ⟨g, cap, hv, hb, hlt⟩ := hown.form h0
    have hA : A = some ⟨g, 0, none⟩ := by simp only [Value.slice.injEq] at hv; exact hv.1
    subst hA
    refine .inr ⟨g, 0, rfl, by omega, hlt, fun i x hx => ?_⟩
    have hi := (List.getElem?_eq_some_iff.1 hx).1
    obtain ⟨a', c', c0, c1, c2, c3, hl⟩ := hall i x hx
    refine ⟨a', c', ?_, ?_, ?_, ?_, .inl (hn x (List.mem_of_getElem? hx))⟩
    · rw [Nat.zero_add, hown.cellAt _ (by omega)]; exact c0
    · rw [Nat.zero_add, hown.cellAt _ (by omega)]; exact c1
    · rw [Nat.zero_add, hown.cellAt _ (by omega)]; exact c2
    · rw [Nat.zero_add, hown.cellAt _ (by omega)]; exact c3
theorem BSl.go {w w2 : World} {lo : Nat} {a : Option Addr} {bs : List Bd} (h : BSl w lo w.heap.size a bs) (hb : Below w.heap.size w w2) : BSl w2 lo w2.heap.size a bs := (h.below hb).mono (Nat.le_refl _) hb.size
theorem one_box {w wr : World} {x y z : Value} {T : TypeId} (h : Below (w.heap.size + 1) (w.alloc (.cells #[x, y, z] T)) wr) :
    wr.cell? ⟨w.heap.size, 0, none⟩ = some x ∧ wr.cell? ⟨w.heap.size, 1, none⟩ = some y ∧ wr.cell? ⟨w.heap.size, 2, none⟩ = some z := by
  refine ⟨?_, ?_, ?_⟩
  · rw [h.cell (by simp), World.cell?_alloc_at _ _ _ _ (by simp)]; rfl
  · rw [h.cell (by simp), World.cell?_alloc_at _ _ _ _ (by simp)]; rfl
  · rw [h.cell (by simp), World.cell?_alloc_at _ _ _ _ (by simp)]; rfl
theorem fvl_dropN {j x y : Nat} {s v : Int} {k kk : Fo} (h : fdrop j k = .node x y (s, v) kk (fdrop (j + 1) k)) : fvl (fdrop j k) = fvs s v kk ++ fvl (fdrop (j + 1) k) := by
  rw [h]; rfl

end Go.Proofs.Ytlaaihnokoeliaa

/-! PL1: The variables at places, in order; a plain term's are named in order. Plain lemmas. -/
namespace Go.Proofs.Ytlaaihnokoeliaa
open Go.RowKit Go.Deep

/-- The variable that stands there. -/
def pvar : Option (Int × Int × Fo) → Option Int
  | some (s, v, _) => if s = 0 then some v else none
  | none => none
theorem fpl_vars (s v : Int) (K : Fo) : ∀ (r : Fo) (i : Nat), fdrop i K = r → fok r = true → (fpl r i).filterMap (fun p => pvar (fat s v K p)) = fvl r
  | .nil, _, _, _ => rfl
  | .node a b (s', v') kk r, i, hd, hk => by
    have hi : i < flen K := by
      have := flen_drop i K
      rw [hd] at this
      simp [flen] at this
      omega
    have hr : fdrop (i + 1) K = r := by
      obtain ⟨_, _, _, _, _, e⟩ := fdrop_succ i K hi
      rw [hd] at e
      simp only [BT.node.injEq] at e
      exact e.2.2.2.2.symm
    simp only [fok, Bool.and_eq_true] at hk
    have ihr := fpl_vars s v K r (i + 1) hr hk.2
    have ihk := fpl_vars s' v' kk kk 0 rfl hk.1.2
    have hst : ∀ q, fat s v K ((i : Int) :: q) = fat s' v' kk q := fun q => fat_step hi hd
    simp only [fpl, List.filterMap_append, ihr, List.map_cons, List.filterMap_cons, List.filterMap_map, Function.comp_def, hst, ihk]
    simp only [fat, pvar, fvl]
    by_cases e : s' = 0
    · subst e
      have hn : kk = .nil := kids_none hk.1.1
      subst hn
      simp [fvl]
    · simp only [if_neg e]
theorem places_vars {s v : Int} {k : Fo} (ho : okN s v (flen k) = true) (hk : fok k = true) : (places k).filterMap (fun p => pvar (fat s v k p)) = fvs s v k := by
  have h := fpl_vars s v k k 0 rfl hk
  have h0 : pvar (fat s v k []) = if s = 0 then some v else none := rfl
  unfold places
  rw [List.filterMap_cons, h0, h]
  unfold fvs
  by_cases e : s = 0
  · subst e
    obtain rfl := kids_none ho
    rfl
  · simp only [if_neg e]
/-- The variables at the first places. -/
def pvs (s v : Int) (k : Fo) (j : Nat) : List Int := ((places k).take j).filterMap fun p => pvar (fat s v k p)
theorem pvs_all {s v : Int} {k : Fo} (ho : okN s v (flen k) = true) (hk : fok k = true) {j : Nat} (hj : (places k).length ≤ j) : pvs s v k j = fvs s v k := by
  unfold pvs; rw [List.take_of_length_le hj]; exact places_vars ho hk
theorem pvs_step {s v : Int} {k : Fo} {j : Nat} {pl : List Int} (h : (places k)[j]? = some pl) : pvs s v k (j + 1) = pvs s v k j ++ (pvar (fat s v k pl)).toList := by
  unfold pvs
  rw [List.take_add_one, h, List.filterMap_append]
  cases hp : pvar (fat s v k pl) <;> simp [hp]
theorem pvs_pre {s v : Int} {k : Fo} (ho : okN s v (flen k) = true) (hk : fok k = true) (j : Nat) : ∃ r, pvs s v k j ++ r = fvs s v k := by
  refine ⟨((places k).drop j).filterMap fun p => pvar (fat s v k p), ?_⟩
  unfold pvs
  rw [← List.filterMap_append, List.take_append_drop]
  exact places_vars ho hk
/-- Names of a plain term stay. -/
theorem plain_stay {s v : Int} {k : Fo} {s' v' : Int} {k' : Fo} {bs : List Bd} (h : plR s v k = ((s', v', k'), bs)) (hok : okW s v k 16 = true) : ∀ x ∈ fvs s' v' k', sv (nms s' v' k') x = some (0, x, .nil) := by
  rcases plR_cases h with ⟨h0, _⟩ | ⟨_, rfl, ht, ho, _, _⟩
  · rw [hok] at h0; cases h0
  obtain ⟨_, hn, hd, _, _⟩ := nms_in hok
  have hf := fvs_names hn (fun x hx => (hd x).2 hx) ht
  have hA := nms_anew (nms s v k) (fvs s v k) [] [] (fun _ _ h => h) hn rfl Nmd.nil (fun _ _ h => by simp [sv] at h) (fun _ h => by simp [sv] at h)
  have hE : nms s' v' k' = nmL [] ((fvs s v k).map (nmOf (nms s v k))) := by unfold nms; rw [hf]; rfl
  intro m hm
  rw [hf] at hm
  obtain ⟨x, hx, rfl⟩ := List.mem_map.1 hm
  obtain ⟨t, hxt⟩ := Option.isSome_iff_exists.1 ((hd x).2 hx)
  rw [nmOf_some hxt, hE]
  exact hA.2 x t hxt
theorem plain_scan {xs ps : List Int} {y : Int} {r : List Int} (h : ∀ x ∈ xs, sv (nmL [] xs) x = some (0, x, .nil)) (hp : ps ++ y :: r = xs) :
    (y < ((nmL [] ps).length : Int) ∧ (nmL [] (ps ++ [y])).length = (nmL [] ps).length) ∨ (y = ((nmL [] ps).length : Int) ∧ (nmL [] (ps ++ [y])).length = (nmL [] ps).length + 1) := by
  have hy : y ∈ xs := by rw [← hp]; simp
  have hE : nmL [] xs = nmL (nm1 (nmL [] ps) y) r := by rw [← hp, nmL_app]; rfl
  have hN := nmL_nmd ps [] Nmd.nil
  have hA : nmL [] (ps ++ [y]) = nm1 (nmL [] ps) y := by rw [nmL_app]; rfl
  rw [hA]
  cases hs : sv (nmL [] ps) y with
  | some t =>
    left
    have h1 := nmL_ext r _ y t (nm1_ext _ y y t hs)
    rw [← hE, h y hy] at h1
    have h2 := (hN.1 y t hs).2.2.2
    obtain rfl := Option.some.inj h1
    exact ⟨h2, by rw [nm1_some hs]⟩
  | none =>
    right
    have hx0 : sv (nm1 (nmL [] ps) y) y = some (0, ((nmL [] ps).length : Int), .nil) := by rw [nm1_none hs, sv_ladd (b := (y, 0, ((nmL [] ps).length : Int), .nil)) hs]; simp
    have h1 := nmL_ext r _ y _ hx0
    rw [← hE, h y hy] at h1
    have h2 := Option.some.inj h1
    simp only [Prod.mk.injEq, true_and, and_true] at h2
    exact ⟨h2, by rw [nm1_none hs, ladd_len]⟩
/-- A step along the places of a plain term. -/
theorem plain_step {s v : Int} {k : Fo} (hok : okW s v k 16 = true) (h : ∀ x ∈ fvs s v k, sv (nms s v k) x = some (0, x, .nil)) {j : Nat} {pl : List Int} (hp : (places k)[j]? = some pl) {s1 v1 : Int} {k1 : Fo} (hf : fat s v k pl = some (s1, v1, k1)) :
    (s1 ≠ 0 ∧ (nmL [] (pvs s v k (j + 1))).length = (nmL [] (pvs s v k j)).length) ∨ (s1 = 0 ∧ v1 < ((nmL [] (pvs s v k j)).length : Int) ∧ (nmL [] (pvs s v k (j + 1))).length = (nmL [] (pvs s v k j)).length) ∨ (s1 = 0 ∧ v1 = ((nmL [] (pvs s v k j)).length : Int) ∧ (nmL [] (pvs s v k (j + 1))).length = (nmL [] (pvs s v k j)).length + 1) := by
  obtain ⟨o1, o2, _⟩ := (okW_iff _ _ _ _).1 hok
  have hst := pvs_step (s := s) (v := v) hp
  rw [hf] at hst
  by_cases e : s1 = 0
  · right
    simp only [pvar, if_pos e, Option.toList] at hst
    obtain ⟨r, hr⟩ := pvs_pre (s := s) (v := v) o1 o2 (j + 1)
    rw [hst, List.append_assoc, List.singleton_append] at hr
    rw [hst]
    rcases plain_scan (xs := fvs s v k) h hr with ⟨a, b⟩ | ⟨a, b⟩
    · exact .inl ⟨e, a, b⟩
    · exact .inr ⟨e, a, b⟩
  · left
    simp only [pvar, if_neg e, Option.toList, List.append_nil] at hst
    exact ⟨e, by rw [hst]⟩
theorem nms_len {s v : Int} {k : Fo} (h : okW s v k 16 = true) : (nms s v k).length = (tvR s v k).length := by
  have := congrArg List.length (nms_in h).2.2.2.1
  rw [List.length_map] at this
  exact this
end Go.Proofs.Ytlaaihnokoeliaa

/-! V5d: - DrawTermVars. -/
namespace Go.Proofs.Ytlaaihnokoeliaa
open Go.RowKit Go.Deep

end Go.Proofs.Ytlaaihnokoeliaa

/-! DTp: - DrawTermPlain. -/
namespace Go.Proofs.Ytlaaihnokoeliaa
open Go.RowKit Go.Deep

end Go.Proofs.Ytlaaihnokoeliaa

/-! Read: - A term that came in as an argument, as the walks take it. -/
namespace Go.Proofs.Ytlaaihnokoeliaa
open Go.ChangeShapes Go.WideShapes Go.RowKit Go.Deep Go.Joins

theorem add_none (b o n : Nat) : (⟨b, o, none⟩ : Addr).add n = ⟨b, o + n, none⟩ := by unfold Addr.add; split <;> simp_all

theorem Try.cellsInt : Try.prog.cellsOf 3 = 1 := by kernel_rfl
/-- No slice in it is longer than a slice can be. -/
def fcap : Fo → Prop
  | .nil => True
  | .node _ _ _ k r => flen k ≤ maxLen ∧ fcap k ∧ fcap r
theorem fcap_drop : ∀ (i : Nat) (k : Fo), fcap k → fcap (fdrop i k)
  | 0, _, h => h
  | _ + 1, .nil, h => h
  | n + 1, .node _ _ _ _ r, h => fcap_drop n r h.2.2

/-- Elements one by one: a row of terms. -/
theorem row_of_elems {w : World} {b o len : Nat} (h : ∀ i, i < len → ∃ s v a c k, w.cell? ⟨b, o + i * 3, none⟩ = some (.int .i64 s) ∧ w.cell? ⟨b, o + i * 3 + 1, none⟩ = some (.int .i64 v) ∧
      w.cell? ⟨b, o + i * 3 + 2, none⟩ = some (.slice a (flen k) c) ∧ Sl w 0 w.heap.size a k ∧ flen k ≤ maxLen ∧ fcap k) :
    ∀ m, m ≤ len → ∃ k, flen k = m ∧ fcap k ∧ Row w 0 w.heap.size k b (o + (len - m) * 3)
  | 0, _ => ⟨.nil, rfl, trivial, trivial⟩
  | m + 1, hm => by
    obtain ⟨r, hr, hrc, hrow⟩ := row_of_elems h m (by omega)
    obtain ⟨s, v, a, c, k, h0, h1, h2, hs, hk1, hk2⟩ := h (len - (m + 1)) (by omega)
    refine ⟨.node 0 0 (s, v) k r, by simp [flen, hr], ⟨hk1, hk2, hrc⟩, Nat.zero_le _, World.block_lt_of_cell? _ _ h0, h0, h1, ⟨a, c, h2, hs⟩, ?_⟩
    rw [show o + (len - (m + 1)) * 3 + 3 = o + (len - m) * 3 from by omega]
    exact hrow

end Go.Proofs.Ytlaaihnokoeliaa

/-! XA: - szTerm, szTermS: how many terms there are below a term, as long as there are not too many. -/
namespace Go.Proofs.Ytlaaihnokoeliaa
open Go.RowKit Go.Deep

def szR (k : Fo) (left : Int) : Int := if (fsz k : Int) ≤ left then left - fsz k else -1
/-- .. with the terms r still to be looked below. -/
def szG (r : Fo) (l : Int) : Int := if (fsz r : Int) - flen r ≤ l then l - ((fsz r : Int) - flen r) else -1

theorem flen_le {k : Fo} : flen k ≤ fsz k := by
  induction k with
  | nil => exact Nat.le_refl _
  | node _ _ _ k r _ ih => simp only [flen, fsz]; omega
theorem szR_start (k : Fo) (left : Int) : szR k left = szG k (left - flen k) := by
  have := flen_le (k := k)
  unfold szR szG
  split <;> split <;> omega
theorem szR_over {k : Fo} {left : Int} (h : left < flen k) : szR k left = -1 := by
  have := flen_le (k := k)
  unfold szR
  rw [if_neg (by omega)]
theorem szG_node (x y : Nat) (p : Int × Int) (kk r : Fo) : (fsz (.node x y p kk r) : Int) - flen (.node x y p kk r) = fsz kk + ((fsz r : Int) - flen r) := by
  have e1 : fsz (.node x y p kk r) = fsz kk + fsz r + 1 := rfl
  have e2 : flen (.node x y p kk r) = flen r + 1 := rfl
  rw [e1, e2]
  omega
theorem szG_step {x y : Nat} {p : Int × Int} {kk r : Fo} {l : Int} (_h : (fsz kk : Int) ≤ l) : szG (.node x y p kk r) l = szG r (l - fsz kk) := by
  unfold szG
  rw [szG_node]
  split <;> split <;> omega
theorem szG_over {x y : Nat} {p : Int × Int} {kk r : Fo} {l : Int} (h : l < (fsz kk : Int)) : szG (.node x y p kk r) l = -1 := by
  have := flen_le (k := r)
  unfold szG
  rw [szG_node, if_neg (by omega)]
theorem szG_nil {l : Int} (h : 0 ≤ l) : szG .nil l = l := by
  unfold szG
  simp [fsz, flen, h]
theorem fsz_drop' : ∀ (i : Nat) (k : Fo), fsz (fdrop i k) ≤ fsz k
  | 0, _ => Nat.le_refl _
  | _ + 1, .nil => Nat.le_refl _
  | n + 1, .node _ _ _ _ r => by have := fsz_drop' n r; simp only [fdrop, fsz]; omega
theorem fsz_kid' {i : Nat} {k : Fo} {x y : Nat} {p : Int × Int} {kk r : Fo} (h : fdrop i k = .node x y p kk r) : fsz kk < fsz k := by
  have := fsz_drop' i k
  rw [h] at this
  simp only [fsz] at this
  omega
theorem sub_neg {left : Int} {n : Nat} (h0 : 0 ≤ left) (h1 : left ≤ 1048576) (h2 : 1048576 < n) (h3 : n ≤ maxLen) : decide (wrap64 (left - (n : Int)) < 0) = true := by
  unfold maxLen at h3
  have : wrap64 (left - (n : Int)) = left - n := by
    unfold wrap64
    omega
  rw [this]
  exact decide_eq_true (by omega)

theorem box_lowX {w w' : World} {o : Obj} (h : Below (w.heap.size + 1) (w.alloc o) w') : Below w.heap.size w w' :=
  ((Below.refl _ _).alloc (Nat.le_refl _) o).trans (h.mono (Nat.le_succ _))

theorem szR_case (k : Fo) (left : Int) : szR k left = -1 ∨ 0 ≤ szR k left := by unfold szR; split <;> omega

end Go.Proofs.Ytlaaihnokoeliaa

/-! XB: - toTerm, toTermS: a term copied into the program's own type. -/
namespace Go.Proofs.Ytlaaihnokoeliaa
open Go.RowKit Go.Deep

def ToPost (s v : Int) (k : Fo) (w : World) (e : Ending) (w' : World) : Prop :=
  ∃ a c, e = .returned (.agg #[.int .i64 s, .int .i64 v, .slice a (flen k) c]) ∧ Below w.heap.size w w' ∧ Sl w' w.heap.size w'.heap.size a k
def TosPost (k : Fo) (w : World) (e : Ending) (w' : World) : Prop :=
  ∃ a c, e = .returned (.slice a (flen k) c) ∧ Below w.heap.size w w' ∧ Sl w' w.heap.size w'.heap.size a k

theorem to_end {w w1 : World} {s v : Int} {k : Fo} {a : Option Addr} {c : Nat} {n : Nat} (hn : n = w.heap.size) (hb : Below n w w1) (hl : Sl w1 (n + 3) w1.heap.size a k) (u x y z : Value) :
    ToPost s v k w (.returned (.agg #[.int .i64 s, .int .i64 v, .slice a (flen k) c])) ((((w1.setCell ⟨n + 1 + 1, 2, none⟩ u).setCell ⟨n + 1, 0, none⟩ x).setCell ⟨n + 1, 1, none⟩ y).setCell ⟨n + 1, 2, none⟩ z) := by
  subst hn
  refine ⟨a, c, rfl, (((hb.setCell (by simp; omega) _).setCell (by simp) _).setCell (by simp) _).setCell (by simp) _, ?_⟩
  have hs : Same (w.heap.size + 3) w1.heap.size w1 ((((w1.setCell ⟨w.heap.size + 1 + 1, 2, none⟩ u).setCell ⟨w.heap.size + 1, 0, none⟩ x).setCell ⟨w.heap.size + 1, 1, none⟩ y).setCell ⟨w.heap.size + 1, 2, none⟩ z) :=
    ((((Same.setCell (fun _ _ _ => rfl) (.inl (by simp)) _).setCell (.inl (by simp)) _).setCell (.inl (by simp)) _).setCell (.inl (by simp)) _)
  exact (hl.same hs).mono (by omega) (by simp)

theorem Try.infoTermX : ∃ i, Try.prog.info? 25 = some i ∧ i.zero = some (.agg #[.int .i64 0, .int .i64 0, .slice none 0 0]) ∧ i.size = 3 ∧ i.bytes = 40 := by
  have h : (Try.prog.info? 25).map (fun i => (i.zero, i.size, i.bytes)) = some (some (.agg #[.int .i64 0, .int .i64 0, .slice none 0 0]), 3, 40) := by kernel_rfl
  obtain ⟨i, hi, hz⟩ := Option.map_eq_some_iff.1 h
  simp only [Prod.mk.injEq] at hz
  exact ⟨i, hi, hz.1, hz.2.1, hz.2.2⟩
theorem make_terms (n : Nat) (hn : n ≤ 1048576) (w : World) :
    (Instr.makeSlice 23 (.int .i64 (n : Int)) (.int .i64 (n : Int))).run Try.prog w = .ok (.slice (some ⟨w.heap.size, 0, none⟩) n n) (w.alloc (.cells (madeCells #[.int .i64 0, .int .i64 0, .slice none 0 0] (n * 3)) 25)) := by
  obtain ⟨i, hi, hz, hs, hb⟩ := Try.infoTermX
  have := run_make (P := Try.prog) w 23 25 i _ Try.underlying23 hi hz .i64 .i64 (n : Int) (n : Int) (by omega) (by omega) (by rw [hb]; omega) (by omega)
  rw [hs] at this
  simpa [Value.cells] using this
theorem made_at (n i : Nat) (z : Array Value) (h : i < n) : (madeCells z n)[i]? = some (z[i % z.size]!) := by simp [madeCells, h]

/-- What holds at the head of toTermS's loop. -/
structure ToAt (w : World) (k : Fo) (j : Nat) (wr : World) : Prop where
  below : Below w.heap.size w wr
  size : w.heap.size < wr.heap.size
  row : ∃ f : Nat → Value, wr.rowIs w.heap.size 25 (flen k * 3) f ∧ ∀ i, i < j → ∃ x y s v kk a c, fdrop i k = .node x y (s, v) kk (fdrop (i + 1) k) ∧
    f (i * 3) = .int .i64 s ∧ f (i * 3 + 1) = .int .i64 v ∧ f (i * 3 + 2) = .slice a (flen kk) c ∧ Sl wr (w.heap.size + 1) wr.heap.size a kk

theorem ToAt.start (w : World) (k : Fo) : ToAt w k 0 (w.alloc (.cells (madeCells #[.int .i64 0, .int .i64 0, .slice none 0 0] (flen k * 3)) 25)) := by
  refine ⟨(Below.refl _ _).alloc (Nat.le_refl _) _, by simp, ⟨fun i => #[Value.int .i64 0, .int .i64 0, .slice none 0 0][i % 3]!, ?_, fun i hi => by omega⟩⟩
  have := World.rowIs_alloc w (madeCells #[.int .i64 0, .int .i64 0, .slice none 0 0] (flen k * 3)) 25 (fun i => #[Value.int .i64 0, .int .i64 0, .slice none 0 0][i % 3]!) (fun i hi => by
    rw [size_madeCells] at hi
    exact made_at _ _ _ hi)
  rw [size_madeCells] at this
  exact this
theorem ToAt.step {w wr w2 : World} {k : Fo} {j x y : Nat} {s v : Int} {kk : Fo} {a : Option Addr} {c : Nat} (h : ToAt w k j wr) (hd : fdrop j k = .node x y (s, v) kk (fdrop (j + 1) k)) (hb : Below wr.heap.size wr w2) (hl : Sl w2 wr.heap.size w2.heap.size a kk) :
    ToAt w k (j + 1) (((w2.setCell ⟨w.heap.size, j * 3, none⟩ (.int .i64 s)).setCell ⟨w.heap.size, j * 3 + 1, none⟩ (.int .i64 v)).setCell ⟨w.heap.size, j * 3 + 2, none⟩ (.slice a (flen kk) c)) := by
  have hs := h.size
  have hs2 := hb.size
  obtain ⟨f, hf, hall⟩ := h.row
  have hf2 := hf.of_block (hb.block _ hs)
  have hsame : ∀ {L H : Nat}, w.heap.size < L → Same L H w2 (((w2.setCell ⟨w.heap.size, j * 3, none⟩ (.int .i64 s)).setCell ⟨w.heap.size, j * 3 + 1, none⟩ (.int .i64 v)).setCell ⟨w.heap.size, j * 3 + 2, none⟩ (.slice a (flen kk) c)) := fun hL =>
    ((Same.setCell (fun _ _ _ => rfl) (.inl hL) _).setCell (.inl hL) _).setCell (.inl hL) _
  refine ⟨(((h.below.trans (hb.mono (by omega))).setCell (by simp) _).setCell (by simp) _).setCell (by simp) _, by simp; omega, ⟨_, ((hf2.set _ _).set _ _).set _ _, fun i hi => ?_⟩⟩
  by_cases hij : i = j
  · subst hij
    exact ⟨x, y, s, v, kk, a, c, hd, by simp, by simp, by simp, (hl.same (hsame (by omega))).mono (by omega) (by simp)⟩
  · obtain ⟨x', y', s', v', k', a', c', e, h0, h1, h2, hsl⟩ := hall i (by omega)
    refine ⟨x', y', s', v', k', a', c', e, ?_, ?_, ?_, ((hsl.same (fun b h1 h2 => hb.block b h2)).same (hsame (by omega))).mono (Nat.le_refl _) (by simp; omega)⟩
    · rw [if_neg (by omega), if_neg (by omega), if_neg (by omega)]; exact h0
    · rw [if_neg (by omega), if_neg (by omega), if_neg (by omega)]; exact h1
    · rw [if_neg (by omega), if_neg (by omega), if_neg (by omega)]; exact h2
theorem ToAt.sl {w wr : World} {k : Fo} {j : Nat} (h : ToAt w k j wr) (hj : flen k ≤ j) : Sl wr w.heap.size wr.heap.size (some ⟨w.heap.size, 0, none⟩) k := by
  obtain ⟨f, hf, hall⟩ := h.row
  have hrow : ∀ (k' : Fo) (o : Nat), (∀ i, i < flen k' → ∃ x y s v kk a c, fdrop i k' = .node x y (s, v) kk (fdrop (i + 1) k') ∧ wr.cell? ⟨w.heap.size, o + i * 3, none⟩ = some (.int .i64 s) ∧ wr.cell? ⟨w.heap.size, o + i * 3 + 1, none⟩ = some (.int .i64 v) ∧
      wr.cell? ⟨w.heap.size, o + i * 3 + 2, none⟩ = some (.slice a (flen kk) c) ∧ Sl wr w.heap.size wr.heap.size a kk) → Row wr w.heap.size wr.heap.size k' w.heap.size o := by
    intro k'
    induction k' with
    | nil => intro o _; trivial
    | node x y p kk r _ ih =>
      intro o h'
      obtain ⟨x', y', s, v, kk', a, c, e, c0, c1, c2, hs⟩ := h' 0 (by simp [flen])
      simp only [fdrop, BT.node.injEq] at e
      obtain ⟨_, _, rfl, rfl, _⟩ := e
      refine ⟨Nat.le_refl _, h.size, by simpa using c0, by simpa using c1, ⟨a, c, by simpa using c2, hs⟩, ih (o + 3) fun i hi => ?_⟩
      obtain ⟨x', y', s, v, kk', a, c, e, c0, c1, c2, hs⟩ := h' (i + 1) (by simp [flen]; omega)
      have e3 : o + 3 + i * 3 = o + (i + 1) * 3 := by omega
      exact ⟨x', y', s, v, kk', a, c, e, by rw [e3]; exact c0, by rw [e3]; exact c1, by rw [e3]; exact c2, hs⟩
  refine .inr ⟨_, 0, rfl, hrow k 0 fun i hi => ?_⟩
  obtain ⟨x, y, s, v, kk, a, c, e, h0, h1, h2, hs⟩ := hall i (by omega)
  refine ⟨x, y, s, v, kk, a, c, e, ?_, ?_, ?_, hs.mono (by omega) (Nat.le_refl _)⟩
  · rw [Nat.zero_add, ← h0]; exact hf.cell (by omega)
  · rw [Nat.zero_add, ← h1]; exact hf.cell (by omega)
  · rw [Nat.zero_add, ← h2]; exact hf.cell (by omega)

end Go.Proofs.Ytlaaihnokoeliaa

/-! XBt: - toTerm, toTermS once more: the copy is a tree whose rows lie each at the head of a block of its own, not frozen; and what stays of it if its numbers are written over. -/
namespace Go.Proofs.Ytlaaihnokoeliaa
open Go.RowKit Go.Deep

theorem row_of_allX {w : World} {lo B : Nat} : ∀ (k : Fo) (b o : Nat), lo ≤ b → b < B →
    (∀ i, i < flen k → ∃ x y s v kk a c, fdrop i k = .node x y (s, v) kk (fdrop (i + 1) k) ∧ w.cell? ⟨b, o + i * 3, none⟩ = some (.int .i64 s) ∧ w.cell? ⟨b, o + i * 3 + 1, none⟩ = some (.int .i64 v) ∧
      w.cell? ⟨b, o + i * 3 + 2, none⟩ = some (.slice a (flen kk) c) ∧ Sl w lo B a kk) → Row w lo B k b o
  | .nil, _, _, _, _, _ => trivial
  | .node x y p kk r, b, o, h1, h2, h => by
    obtain ⟨x', y', s, v, kk', a, c, e, c0, c1, c2, hs⟩ := h 0 (by simp [flen])
    simp only [fdrop, BT.node.injEq] at e
    obtain ⟨_, _, rfl, rfl, _⟩ := e
    refine ⟨h1, h2, by simpa using c0, by simpa using c1, ⟨a, c, by simpa using c2, hs⟩, row_of_allX r b (o + 3) h1 h2 fun i hi => ?_⟩
    obtain ⟨x', y', s, v, kk', a, c, e, c0, c1, c2, hs⟩ := h (i + 1) (by simp [flen]; omega)
    have e3 : o + 3 + i * 3 = o + (i + 1) * 3 := by omega
    exact ⟨x', y', s, v, kk', a, c, e, by rw [e3]; exact c0, by rw [e3]; exact c1, by rw [e3]; exact c2, hs⟩

/-- The shape of terms: each row in block b from offset o on, its numbers whatever they are, not frozen; the rows below it each at the head of a block. -/
def Sh (w : World) (lo B : Nat) : Fo → Nat → Nat → Prop
  | .nil, _, _ => True
  | .node _ _ _ k r, b, o => lo ≤ b ∧ b < B ∧ (∃ x, w.cell? ⟨b, o, none⟩ = some (.int .i64 x)) ∧ (∃ x, w.cell? ⟨b, o + 1, none⟩ = some (.int .i64 x)) ∧ w.frozen? ⟨b, o, none⟩ = false ∧ w.frozen? ⟨b, o + 1, none⟩ = false ∧
      (∃ a c, w.cell? ⟨b, o + 2, none⟩ = some (.slice a (flen k) c) ∧ (k = .nil ∨ ∃ b', a = some ⟨b', 0, none⟩ ∧ Sh w lo B k b' 0)) ∧ Sh w lo B r b (o + 3)
/-- What a mark leaves: in the blocks from lo on below B numbers may be others. -/
structure Marked (lo B : Nat) (w w' : World) : Prop where
  below : Below lo w w'
  far : ∀ b, B ≤ b → b < w.heap.size → w'.heap[b]? = w.heap[b]?
  kids : ∀ b o, lo ≤ b → b < B → o % 3 = 2 → w'.cell? ⟨b, o, none⟩ = w.cell? ⟨b, o, none⟩
  ints : ∀ b o x, lo ≤ b → b < B → o % 3 ≠ 2 → w.cell? ⟨b, o, none⟩ = some (.int .i64 x) → ∃ y, w'.cell? ⟨b, o, none⟩ = some (.int .i64 y)
  free : ∀ b o, lo ≤ b → b < B → w.frozen? ⟨b, o, none⟩ = false → w'.frozen? ⟨b, o, none⟩ = false
theorem Marked.refl (lo B : Nat) (w : World) : Marked lo B w w := ⟨Below.refl _ _, fun _ _ _ => rfl, fun _ _ _ _ _ => rfl, fun _ _ x _ _ _ h => ⟨x, h⟩, fun _ _ _ _ h => h⟩
theorem Marked.trans {lo B : Nat} {w w' w2 : World} (h : Marked lo B w w') (h' : Marked lo B w' w2) : Marked lo B w w2 :=
  ⟨h.below.trans h'.below, fun b h1 h2 => (h'.far b h1 (Nat.lt_of_lt_of_le h2 h.below.size)).trans (h.far b h1 h2), fun b o h1 h2 h3 => (h'.kids b o h1 h2 h3).trans (h.kids b o h1 h2 h3),
    fun b o x h1 h2 h3 h4 => by obtain ⟨y, hy⟩ := h.ints b o x h1 h2 h3 h4; exact h'.ints b o y h1 h2 h3 hy, fun b o h1 h2 h3 => h'.free b o h1 h2 (h.free b o h1 h2 h3)⟩
theorem Marked.set {lo B : Nat} {w : World} {b o : Nat} {u : Value} (h1 : lo ≤ b) (h2 : b < B) (h3 : o % 3 ≠ 2) (hc : w.cell? ⟨b, o, none⟩ = some u) (x : Int) : Marked lo B w (w.setCell ⟨b, o, none⟩ (.int .i64 x)) := by
  refine ⟨(Below.refl _ _).setCell h1 _, fun b' h4 h5 => Below.heap_setCell _ _ _ _ (by simp; omega), fun b' o' h4 h5 h6 => ?_, fun b' o' x' h4 h5 h6 h7 => ?_, fun b' o' h4 h5 h6 => by rw [World.frozen?_setCell]; exact h6⟩
  · exact World.cell?_setCell_other _ _ _ _ (by intro e; have := congrArg Addr.off e; simp at this; omega)
  · by_cases e : (⟨b, o, none⟩ : Addr) = ⟨b', o', none⟩
    · rw [← e]
      exact ⟨x, World.cell?_setCell_same _ _ _ hc⟩
    · exact ⟨x', by rw [World.cell?_setCell_other _ _ _ _ e]; exact h7⟩
theorem Marked.more {lo B : Nat} {w w' w2 : World} (h : Marked lo B w w') (hb : Below w'.heap.size w' w2) (hB : B ≤ w.heap.size) (hlo : lo ≤ w.heap.size) : Marked lo B w w2 := by
  have hs := h.below.size
  refine ⟨h.below.trans (hb.mono (by omega)), fun b h1 h2 => (hb.block b (by omega)).trans (h.far b h1 h2), fun b o h1 h2 h3 => by rw [hb.cell (by simp; omega)]; exact h.kids b o h1 h2 h3,
    fun b o x h1 h2 h3 h4 => by obtain ⟨y, hy⟩ := h.ints b o x h1 h2 h3 h4; exact ⟨y, by rw [hb.cell (by simp; omega)]; exact hy⟩, fun b o h1 h2 h3 => by rw [hb.frozen (by simp; omega)]; exact h.free b o h1 h2 h3⟩
theorem Sh.marked {w w' : World} {lo B : Nat} (hm : Marked lo B w w') : ∀ (k : Fo) (b o : Nat), o % 3 = 0 → Sh w lo B k b o → Sh w' lo B k b o
  | .nil, _, _, _, _ => trivial
  | .node _ _ _ k r, b, o, ho, ⟨h1, h2, ⟨x, hx⟩, ⟨y, hy⟩, f0, f1, ⟨a, c, hc, hk⟩, hr⟩ => by
    refine ⟨h1, h2, hm.ints b o x h1 h2 (by omega) hx, hm.ints b (o + 1) y h1 h2 (by omega) hy, hm.free b o h1 h2 f0, hm.free b (o + 1) h1 h2 f1, ⟨a, c, by rw [hm.kids b (o + 2) h1 h2 (by omega)]; exact hc, ?_⟩, Sh.marked hm r b (o + 3) (by omega) hr⟩
    rcases hk with hk | ⟨b', e, hk⟩
    · exact .inl hk
    · exact .inr ⟨b', e, Sh.marked hm k b' 0 rfl hk⟩
theorem frozen_same {w w' : World} {b o : Nat} (h : w'.heap[b]? = w.heap[b]?) : w'.frozen? ⟨b, o, none⟩ = w.frozen? ⟨b, o, none⟩ := by simp only [World.frozen?, h]
theorem Sh.same {w w' : World} {lo B : Nat} (hb : Same lo B w w') : ∀ (k : Fo) (b o : Nat), Sh w lo B k b o → Sh w' lo B k b o
  | .nil, _, _, _ => trivial
  | .node _ _ _ k r, b, o, ⟨h1, h2, ⟨x, hx⟩, ⟨y, hy⟩, f0, f1, ⟨a, c, hc, hk⟩, hr⟩ => by
    refine ⟨h1, h2, ⟨x, by rw [hb.cell h1 h2]; exact hx⟩, ⟨y, by rw [hb.cell h1 h2]; exact hy⟩, by rw [frozen_same (hb b h1 h2)]; exact f0, by rw [frozen_same (hb b h1 h2)]; exact f1, ⟨a, c, by rw [hb.cell h1 h2]; exact hc, ?_⟩, Sh.same hb r b (o + 3) hr⟩
    rcases hk with hk | ⟨b', e, hk⟩
    · exact .inl hk
    · exact .inr ⟨b', e, Sh.same hb k b' 0 hk⟩
theorem Sh.mono {w : World} {lo lo' B B' : Nat} (hlo : lo' ≤ lo) (hB : B ≤ B') : ∀ (k : Fo) (b o : Nat), Sh w lo B k b o → Sh w lo' B' k b o
  | .nil, _, _, _ => trivial
  | .node _ _ _ k r, b, o, ⟨h1, h2, hx, hy, f0, f1, ⟨a, c, hc, hk⟩, hr⟩ => by
    refine ⟨by omega, by omega, hx, hy, f0, f1, ⟨a, c, hc, ?_⟩, Sh.mono hlo hB r b (o + 3) hr⟩
    rcases hk with hk | ⟨b', e, hk⟩
    · exact .inl hk
    · exact .inr ⟨b', e, Sh.mono hlo hB k b' 0 hk⟩
theorem Sh.drop {w : World} {lo B : Nat} : ∀ (i : Nat) (k : Fo) (b o : Nat), Sh w lo B k b o → Sh w lo B (fdrop i k) b (o + i * 3)
  | 0, _, _, _, h => by simpa [fdrop] using h
  | _ + 1, .nil, _, _, _ => trivial
  | n + 1, .node _ _ _ _ r, b, o, h => by
    have := Sh.drop n r b (o + 3) h.2.2.2.2.2.2.2
    rw [fdrop, show o + (n + 1) * 3 = o + 3 + n * 3 from by omega]
    exact this
def ShS (w : World) (lo B : Nat) (a : Option Addr) (k : Fo) : Prop := k = .nil ∨ ∃ b, a = some ⟨b, 0, none⟩ ∧ Sh w lo B k b 0
theorem sh_of_all {w : World} {lo B : Nat} : ∀ (k : Fo) (b o : Nat), lo ≤ b → b < B → (∀ j, w.frozen? ⟨b, j, none⟩ = false) →
    (∀ i, i < flen k → ∃ x y s v kk a c, fdrop i k = .node x y (s, v) kk (fdrop (i + 1) k) ∧ w.cell? ⟨b, o + i * 3, none⟩ = some (.int .i64 s) ∧ w.cell? ⟨b, o + i * 3 + 1, none⟩ = some (.int .i64 v) ∧
      w.cell? ⟨b, o + i * 3 + 2, none⟩ = some (.slice a (flen kk) c) ∧ ShS w lo B a kk) → Sh w lo B k b o
  | .nil, _, _, _, _, _, _ => trivial
  | .node x y p kk r, b, o, h1, h2, hf, h => by
    obtain ⟨x', y', s, v, kk', a, c, e, c0, c1, c2, hs⟩ := h 0 (by simp [flen])
    simp only [fdrop, BT.node.injEq] at e
    obtain ⟨_, _, rfl, rfl, _⟩ := e
    refine ⟨h1, h2, ⟨_, by simpa using c0⟩, ⟨_, by simpa using c1⟩, hf _, hf _, ⟨a, c, by simpa using c2, hs⟩, sh_of_all r b (o + 3) h1 h2 hf fun i hi => ?_⟩
    obtain ⟨x', y', s, v, kk', a, c, e, c0, c1, c2, hs⟩ := h (i + 1) (by simp [flen]; omega)
    have e3 : o + 3 + i * 3 = o + (i + 1) * 3 := by omega
    exact ⟨x', y', s, v, kk', a, c, e, by rw [e3]; exact c0, by rw [e3]; exact c1, by rw [e3]; exact c2, hs⟩
/-- The terms k lie there, each row at the head of a block of its own. -/
def SX (w : World) (lo B : Nat) (a : Option Addr) (k : Fo) : Prop := Sl w lo B a k ∧ ShS w lo B a k
theorem SX.same {w w' : World} {lo B : Nat} {a : Option Addr} {k : Fo} (hb : Same lo B w w') (h : SX w lo B a k) : SX w' lo B a k := by
  refine ⟨h.1.same hb, ?_⟩
  rcases h.2 with h | ⟨b, e, h⟩
  · exact .inl h
  · exact .inr ⟨b, e, h.same hb⟩
theorem SX.mono {w : World} {lo lo' B B' : Nat} {a : Option Addr} {k : Fo} (hlo : lo' ≤ lo) (hB : B ≤ B') (h : SX w lo B a k) : SX w lo' B' a k := by
  refine ⟨h.1.mono hlo hB, ?_⟩
  rcases h.2 with h | ⟨b, e, h⟩
  · exact .inl h
  · exact .inr ⟨b, e, h.mono hlo hB⟩

def ToPostT (s v : Int) (k : Fo) (w : World) (e : Ending) (w' : World) : Prop :=
  ∃ a c, e = .returned (.agg #[.int .i64 s, .int .i64 v, .slice a (flen k) c]) ∧ Below w.heap.size w w' ∧ SX w' w.heap.size w'.heap.size a k
def TosPostT (k : Fo) (w : World) (e : Ending) (w' : World) : Prop :=
  ∃ a c, e = .returned (.slice a (flen k) c) ∧ Below w.heap.size w w' ∧ SX w' w.heap.size w'.heap.size a k

theorem to_endT {w w1 : World} {s v : Int} {k : Fo} {a : Option Addr} {c : Nat} {n : Nat} (hn : n = w.heap.size) (hb : Below n w w1) (hl : SX w1 (n + 3) w1.heap.size a k) (u x y z : Value) :
    ToPostT s v k w (.returned (.agg #[.int .i64 s, .int .i64 v, .slice a (flen k) c])) ((((w1.setCell ⟨n + 1 + 1, 2, none⟩ u).setCell ⟨n + 1, 0, none⟩ x).setCell ⟨n + 1, 1, none⟩ y).setCell ⟨n + 1, 2, none⟩ z) := by
  subst hn
  refine ⟨a, c, rfl, (((hb.setCell (by simp; omega) _).setCell (by simp) _).setCell (by simp) _).setCell (by simp) _, ?_⟩
  have hs : Same (w.heap.size + 3) w1.heap.size w1 ((((w1.setCell ⟨w.heap.size + 1 + 1, 2, none⟩ u).setCell ⟨w.heap.size + 1, 0, none⟩ x).setCell ⟨w.heap.size + 1, 1, none⟩ y).setCell ⟨w.heap.size + 1, 2, none⟩ z) :=
    ((((Same.setCell (fun _ _ _ => rfl) (.inl (by simp)) _).setCell (.inl (by simp)) _).setCell (.inl (by simp)) _).setCell (.inl (by simp)) _)
  exact (hl.same hs).mono (by omega) (by simp)

/-- What holds at the head of toTermS's loop. -/
structure ToAtT (w : World) (k : Fo) (j : Nat) (wr : World) : Prop where
  below : Below w.heap.size w wr
  size : w.heap.size < wr.heap.size
  row : ∃ f : Nat → Value, wr.rowIs w.heap.size 25 (flen k * 3) f ∧ ∀ i, i < j → ∃ x y s v kk a c, fdrop i k = .node x y (s, v) kk (fdrop (i + 1) k) ∧
    f (i * 3) = .int .i64 s ∧ f (i * 3 + 1) = .int .i64 v ∧ f (i * 3 + 2) = .slice a (flen kk) c ∧ SX wr (w.heap.size + 1) wr.heap.size a kk

theorem ToAtT.start (w : World) (k : Fo) : ToAtT w k 0 (w.alloc (.cells (madeCells #[.int .i64 0, .int .i64 0, .slice none 0 0] (flen k * 3)) 25)) := by
  refine ⟨(Below.refl _ _).alloc (Nat.le_refl _) _, by simp, ⟨fun i => #[Value.int .i64 0, .int .i64 0, .slice none 0 0][i % 3]!, ?_, fun i hi => by omega⟩⟩
  have := World.rowIs_alloc w (madeCells #[.int .i64 0, .int .i64 0, .slice none 0 0] (flen k * 3)) 25 (fun i => #[Value.int .i64 0, .int .i64 0, .slice none 0 0][i % 3]!) (fun i hi => by
    rw [size_madeCells] at hi
    exact made_at _ _ _ hi)
  rw [size_madeCells] at this
  exact this
theorem ToAtT.step {w wr w2 : World} {k : Fo} {j x y : Nat} {s v : Int} {kk : Fo} {a : Option Addr} {c : Nat} (h : ToAtT w k j wr) (hd : fdrop j k = .node x y (s, v) kk (fdrop (j + 1) k)) (hb : Below wr.heap.size wr w2) (hl : SX w2 wr.heap.size w2.heap.size a kk) :
    ToAtT w k (j + 1) (((w2.setCell ⟨w.heap.size, j * 3, none⟩ (.int .i64 s)).setCell ⟨w.heap.size, j * 3 + 1, none⟩ (.int .i64 v)).setCell ⟨w.heap.size, j * 3 + 2, none⟩ (.slice a (flen kk) c)) := by
  have hs := h.size
  have hs2 := hb.size
  obtain ⟨f, hf, hall⟩ := h.row
  have hf2 := hf.of_block (hb.block _ hs)
  have hsame : ∀ {L H : Nat}, w.heap.size < L → Same L H w2 (((w2.setCell ⟨w.heap.size, j * 3, none⟩ (.int .i64 s)).setCell ⟨w.heap.size, j * 3 + 1, none⟩ (.int .i64 v)).setCell ⟨w.heap.size, j * 3 + 2, none⟩ (.slice a (flen kk) c)) := fun hL =>
    ((Same.setCell (fun _ _ _ => rfl) (.inl hL) _).setCell (.inl hL) _).setCell (.inl hL) _
  refine ⟨(((h.below.trans (hb.mono (by omega))).setCell (by simp) _).setCell (by simp) _).setCell (by simp) _, by simp; omega, ⟨_, ((hf2.set _ _).set _ _).set _ _, fun i hi => ?_⟩⟩
  by_cases hij : i = j
  · subst hij
    exact ⟨x, y, s, v, kk, a, c, hd, by simp, by simp, by simp, (hl.same (hsame (by omega))).mono (by omega) (by simp)⟩
  · obtain ⟨x', y', s', v', k', a', c', e, h0, h1, h2, hsl⟩ := hall i (by omega)
    refine ⟨x', y', s', v', k', a', c', e, ?_, ?_, ?_, ((hsl.same (fun b h1 h2 => hb.block b h2)).same (hsame (by omega))).mono (Nat.le_refl _) (by simp; omega)⟩
    · rw [if_neg (by omega), if_neg (by omega), if_neg (by omega)]; exact h0
    · rw [if_neg (by omega), if_neg (by omega), if_neg (by omega)]; exact h1
    · rw [if_neg (by omega), if_neg (by omega), if_neg (by omega)]; exact h2
theorem ToAtT.sl {w wr : World} {k : Fo} {j : Nat} (h : ToAtT w k j wr) (hj : flen k ≤ j) : SX wr w.heap.size wr.heap.size (some ⟨w.heap.size, 0, none⟩) k := by
  obtain ⟨f, hf, hall⟩ := h.row
  have key : ∀ i, i < flen k → ∃ x y s v kk a c, fdrop i k = .node x y (s, v) kk (fdrop (i + 1) k) ∧ wr.cell? ⟨w.heap.size, 0 + i * 3, none⟩ = some (.int .i64 s) ∧ wr.cell? ⟨w.heap.size, 0 + i * 3 + 1, none⟩ = some (.int .i64 v) ∧
      wr.cell? ⟨w.heap.size, 0 + i * 3 + 2, none⟩ = some (.slice a (flen kk) c) ∧ SX wr w.heap.size wr.heap.size a kk := fun i hi => by
    obtain ⟨x, y, s, v, kk, a, c, e, h0, h1, h2, hs⟩ := hall i (by omega)
    refine ⟨x, y, s, v, kk, a, c, e, ?_, ?_, ?_, hs.mono (by omega) (Nat.le_refl _)⟩
    · rw [Nat.zero_add, ← h0]; exact hf.cell (by omega)
    · rw [Nat.zero_add, ← h1]; exact hf.cell (by omega)
    · rw [Nat.zero_add, ← h2]; exact hf.cell (by omega)
  refine ⟨.inr ⟨_, 0, rfl, row_of_allX k _ 0 (Nat.le_refl _) h.size fun i hi => ?_⟩, .inr ⟨_, rfl, sh_of_all k _ 0 (Nat.le_refl _) h.size (fun j => hf.frozen j) fun i hi => ?_⟩⟩
  · obtain ⟨x, y, s, v, kk, a, c, e, h0, h1, h2, hs⟩ := key i hi
    exact ⟨x, y, s, v, kk, a, c, e, h0, h1, h2, hs.1⟩
  · obtain ⟨x, y, s, v, kk, a, c, e, h0, h1, h2, hs⟩ := key i hi
    exact ⟨x, y, s, v, kk, a, c, e, h0, h1, h2, hs.2⟩

end Go.Proofs.Ytlaaihnokoeliaa
