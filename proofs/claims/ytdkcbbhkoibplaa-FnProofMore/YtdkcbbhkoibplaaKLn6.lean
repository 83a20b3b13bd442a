/- Several texts in one: S5, A1, UM, WL0, A2, A3, S6, C1, PS, T0, T4, TE, MT0. -/
import Derived.Test.YtdkcbbhkoibplaaKLn5
import Derived.Test.YtdkcbbhkoibplaaKLn1
import Derived.Test.YtdkcbbhkoibplaaKLn4
import Derived.Test.YtdkcbbhkoibplaaKLn3
import Derived.Deep.OwnRows
import Derived.Test.YtdkcbbhkoibplaaKLn2
import Derived.Lib.Join
import Derived.Lib.ItoaNum

/-! S5: fold; apply. -/
namespace Go.Proofs.Ytdkcbbhkoibplaa
open Go.RowKit Go.Deep Go.Maps

set_option maxRecDepth 100000 in
theorem signOfS_any (s : Int) (a : Option Addr) (n c : Nat) (w : World) :
    Calls Try.prog 111 #[.iface 165 (.agg #[.int .i64 s, .slice a n c])] w fun e w' => e = .returned (.int .i64 s) ∧ Below w.heap.size w w' := by
  have hta := assert_var
  have htb := assert_sym
  go_enter Try.func111, Try.ntmps111
  go_wp2_with fail
  go_ret
  exact ⟨rfl, (Below.refl _ _).alloc (Nat.le_refl _) _⟩

set_option maxRecDepth 100000 in
set_option maxHeartbeats 2000000 in
theorem fold_any (bs : List Bd) (b : Nat) (N : Nat) : ∀ (s v : Int) (k : Fo) (nv : Value) (w : World), NodeIs w 0 w.heap.size nv s v k → MapIs w b bs → okN s v (flen k) = true → fok k = true → fsz k ≤ N → N ≤ 1000 →
    Calls Try.prog 98 #[nv, .func (.func 99) #[.map (some b)] #[], .func (.func 100) #[] #[]] w (NvPost (tsub (sv bs) s v k).1 (tsub (sv bs) s v k).2.1 (tsub (sv bs) s v k).2.2 w) := by
  induction N using Nat.strongRecOn with
  | _ N ih =>
    intro s v k nv w hn hm hok hfk hN hN2
    have IH := Lib.hid ih
    have HM := Lib.hid hm
    have HN := Lib.hid hn
    have HFK := Lib.hid hfk
    have hfl := flen_le_sz k
    have hta := assert_varV
    have htb := assert_symV
    clear ih hm hfk
    rcases hn with ⟨rfl, rfl, rfl⟩ | ⟨hs, a, c, rfl, hns⟩
    · have hv := ((okN_iff _ _ _).1 hok).2.1 rfl
      have HWF : Hid ((Lit.int .i64 v).wf = true) := WalkArith.wf_i64 (by omega)
      clear hok
      go_enter Try.func98, Try.ntmps98
      go_wp2_with fail
      with_reducible refine (valueOf_any bs b v _ HM.out HWF.out).mono ?_
      rintro e w1 ⟨nv1, rfl, hb1, hn1⟩
      have HB1 := Lib.hid hb1
      have HN1 := Lib.hid hn1
      clear hb1 hn1
      go_wp2_with fail
      go_ret
      exact ⟨nv1, rfl, HB1.out, HN1.out⟩
    · have HT : Hid (tsub (sv bs) s v k = (s, v, fsub (sv bs) k)) := by unfold Hid tsub; rw [if_neg hs]
      have hvs := ((okN_iff _ _ _).1 hok).2.2 hs
      clear hns hok
      go_enter Try.func98, Try.ntmps98
      go_wp2_with fail
      with_reducible refine (kidsOf_any s v k _ w.heap.size _ HN.out).mono ?_
      rintro e w1 ⟨ak, ck, rfl, hb1, hnk⟩
      have HB1 := Lib.hid hb1
      have HNK := Lib.hid hnk
      have hs1 := hb1.size
      have hmk := run_make_row' (P := Try.prog) 147 100 .nilIface 16 Try.underlying147 Try.infoNode rfl .i64 .i64 (flen k) (by omega) (by omega)
      have HST := Lib.hid (FoAt.start (σ := sv bs) hb1 (k := k) (by omega))
      clear hb1 hnk
      go_wp2_with fail
      go_loopw [29] (fun i wr => ∃ j : Nat, i = .int .i64 j ∧ j ≤ flen k ∧ Hid (FoAt w (sv bs) k w1.heap.size j wr)) (fun i _ => flen k - (intOf i).toNat)
      case atStart => exact ⟨0, rfl, Nat.zero_le _, HST⟩
      case round =>
        clear HST
        obtain ⟨j, rfl, hj, HF⟩ := hrel
        have hws := HF.out.below.size
        by_cases hlt : j < flen k
        · have hnr := HNK.out.below HF.out.below
          rcases hnr with rfl | ⟨kb, ko, rfl, hrow⟩
          · simp [flen] at hlt
          obtain ⟨s', v', kk, val, ⟨x, y, hd⟩, _, hbB, hk0, hnk⟩ := nrow_at hrow hlt
          have hkN := fsz_kid hd
          have hkid := fok_kid HFK.out hd
          have HC := Lib.hid (IH.out (fsz kk) (by omega) s' v' kk val wr (hnk.mono (Nat.le_refl _) hws) (HM.out.below HF.out.below) hkid.1 hkid.2 (Nat.le_refl _) (by omega))
          have HD := Lib.hid hd
          obtain ⟨vs, hown, hnil, _⟩ := HF.out.row
          have hlw := HF.out.lt
          have HOWN := Lib.hid hown
          have hcj0 := hnil j (Nat.le_refl _) hlt
          have HNJ := Lib.hid hcj0
          clear hnk hkid hd hrow hown hnil hcj0
          have g1 : (0 : Int) ≤ (j : Int) := by omega
          have g2 : (j : Int) < (flen k : Int) := by omega
          go_wp2_with fail
          with_reducible refine HC.out.mono ?_
          rintro e w2 ⟨nv2, rfl, hb2, hn2⟩
          obtain ⟨ty2, vv2, rfl⟩ : ∃ ty vv, nv2 = .iface ty vv := by
            rcases hn2 with ⟨_, _, rfl⟩ | ⟨_, _, _, rfl, _⟩
            · exact ⟨_, _, rfl⟩
            · exact ⟨_, _, rfl⟩
          have hown2 := own_low hb2 HOWN.out
          have hz : w2.cell? ⟨w1.heap.size, j, none⟩ = some .nilIface := by rw [hown2.cellAt j (by omega)]; exact HNJ.out
          have hf : w2.frozen? ⟨w1.heap.size, j, none⟩ = false := hown2.frozenAt j
          have HF2 := Lib.hid (HF.out.step hlt HD.out hb2 hn2)
          clear hb2 hn2 hown2 hk0 HC
          go_wp2_with fail
          go_roundw
          case rel => exact ⟨j + 1, by go_num, by omega, HF2⟩
          case measure => simp [intOf]; omega
        · have hjk : j = flen k := by omega
          subst hjk
          have HNS := Lib.hid HF.out.done
          have HBW := Lib.hid HF.out.below
          have hfl2 := fsub_len (sv bs) k
          go_wp2_with fail
          with_reducible refine (signOfS_any s a (flen k) c _).mono ?_
          rintro e w3 ⟨rfl, hb3⟩
          have HB3 := Lib.hid hb3
          clear hb3
          go_wp2_with fail
          with_reducible refine (symbolOf_any s (some ⟨w1.heap.size, 0, none⟩) (flen k) (flen k) _).mono ?_
          rintro e w4 ⟨rfl, rfl⟩
          have HP : Hid (NvPost (tsub (sv bs) s v k).1 (tsub (sv bs) s v k).2.1 (tsub (sv bs) s v k).2.2 w (.returned (.iface 165 (.agg #[.int .i64 s, .slice (some ⟨w1.heap.size, 0, none⟩) (flen k) (flen k)]))) w4) := by
            rw [Hid, HT.out]
            refine ⟨_, rfl, HBW.out.trans (HB3.out.mono hws), .inr ⟨hs, some ⟨w1.heap.size, 0, none⟩, flen k, by rw [hfl2], ?_⟩⟩
            exact (HNS.out.below HB3.out).mono (Nat.le_refl _) HB3.out.size
          clear hfl2
          go_wp2_with fail
          go_ret
          exact HP.out

set_option maxRecDepth 100000 in
theorem apply_any (bs : List Bd) (b : Nat) (s v : Int) (k : Fo) (nv : Value) (w : World) (hn : NodeIs w 0 w.heap.size nv s v k) (hm : MapIs w b bs) (hok : okN s v (flen k) = true) (hfk : fok k = true) (hN : fsz k ≤ 1000) :
    Calls Try.prog 75 #[.map (some b), nv] w (NvPost (tsub (sv bs) s v k).1 (tsub (sv bs) s v k).2.1 (tsub (sv bs) s v k).2.2 w) := by
  have HC := Lib.hid (fold_any bs b 1000 s v k nv w hn hm hok hfk hN (Nat.le_refl _))
  clear hn hm hok hfk
  go_enter Try.func75, Try.ntmps75
  go_wp2_with fail
  with_reducible refine HC.out.mono ?_
  rintro e w1 ⟨nv1, rfl, hb1, hn1⟩
  have HB1 := Lib.hid hb1
  have HN1 := Lib.hid hn1
  clear hb1 hn1
  go_wp2_with fail
  go_ret
  exact ⟨nv1, rfl, HB1.out, HN1.out⟩
end Go.Proofs.Ytdkcbbhkoibplaa

/-! A1: nodeAt: the node that stands at a place. -/
namespace Go.Proofs.Ytdkcbbhkoibplaa
open Go.RowKit Go.Deep

theorem isl_get {w : World} {lo B : Nat} {a : Option Addr} {xs : List Int} {i : Nat} (h : ISl w lo B a xs) (hi : i < xs.length) :
    ∃ b o, a = some ⟨b, o, none⟩ ∧ lo ≤ b ∧ b < B ∧ w.cell? ⟨b, o + i, none⟩ = some (.int .i64 xs[i]) := by
  rcases h with rfl | ⟨b, o, e, h1, h2, h3⟩
  · simp at hi
  · exact ⟨b, o, e, h1, h2, h3 i _ (List.getElem?_eq_getElem hi)⟩

/-- What stands at a place. -/
def fat : Int → Int → Fo → List Int → Option (Int × Int × Fo)
  | s, v, k, [] => some (s, v, k)
  | _, _, k, i :: ps => if 0 ≤ i ∧ i < (flen k : Int) then (match fdrop i.toNat k with
    | .node _ _ (s', v') kk _ => fat s' v' kk ps
    | .nil => none) else none

end Go.Proofs.Ytdkcbbhkoibplaa

/-! UM: A method called on an interface value. -/
namespace Go.Proofs.Ytdkcbbhkoibplaa
open Go.RowKit Go.Deep

/-- A method called on an interface value whose method is known. -/
theorem upon_method {P : Program} {o : Oper} {a : Act} {K : Act → World → Prop} {Q : Exit → Act → World → Prop} {n : Nat} {t : TypeId} {v : Value} {nm : String} {w : World} (f : FuncId) (h : (method n t v nm).run P w = .ok (f, v) w)
    (h1 : (callFunc f #[v]).run P w = .ok (.enter f #[v]) w) (h2 : o.upon P a K Q (.ok (.enter f #[v]) w)) : o.upon P a K Q (((method n t v nm).run P w).andThen fun x w' => (callFunc x.1 #[x.2]).run P w') := by
  rw [h]
  show o.upon P a K Q ((callFunc f #[v]).run P w)
  rw [h1]
  exact h2
end Go.Proofs.Ytdkcbbhkoibplaa

/-! A2: The term that a node stands for, made anew. -/
namespace Go.Proofs.Ytdkcbbhkoibplaa
open Go.RowKit Go.Deep
attribute [local go_sem ↓] Go.wp_at_zero Go.wp_at_succ

theorem make_termsA (n : Nat) (hn : n ≤ 1048576) (w : World) :
    (Instr.makeSlice 33 (.int .i64 (n : Int)) (.int .i64 (n : Int))).run Try.prog w = .ok (.slice (some ⟨w.heap.size, 0, none⟩) n n) (w.alloc (.cells (madeCells #[.int .i64 0, .int .i64 0, .slice none 0 0] (n * 3)) 35)) := by
  obtain ⟨i, hi, hz, hs, hb⟩ := Try.infoTerm
  have := run_make (P := Try.prog) w 33 35 i _ Try.underlying33 hi hz .i64 .i64 (n : Int) (n : Int) (by omega) (by omega) (by rw [hb]; omega) (by omega)
  rw [hs] at this
  simpa [Value.cells] using this
theorem made_atA (n i : Nat) (z : Array Value) (h : i < n) : (madeCells z n)[i]? = some (z[i % z.size]!) := by simp [madeCells, h]

end Go.Proofs.Ytdkcbbhkoibplaa

/-! A3: impl.TermAt: what stands at a place of a term, made anew. -/
namespace Go.Proofs.Ytdkcbbhkoibplaa
open Go.RowKit Go.Deep

theorem fat_ok : ∀ (place : List Int) (s v : Int) (k : Fo) {s' v' : Int} {k' : Fo}, okN s v (flen k) = true → fok k = true → fat s v k place = some (s', v', k') → okN s' v' (flen k') = true ∧ fok k' = true ∧ fsz k' ≤ fsz k
  | [], s, v, k, s', v', k', h1, h2, h => by
    simp only [fat, Option.some.injEq, Prod.mk.injEq] at h
    obtain ⟨rfl, rfl, rfl⟩ := h
    exact ⟨h1, h2, Nat.le_refl _⟩
  | i :: ps, s, v, k, s', v', k', h1, h2, h => by
    simp only [fat] at h
    split at h
    · split at h
      · rename_i x y s2 v2 kk r hd
        have hk := fok_kid h2 hd
        have hs := fsz_kid hd
        have := fat_ok ps s2 v2 kk hk.1 hk.2 h
        exact ⟨this.1, this.2.1, by omega⟩
      · cases h
    · cases h

end Go.Proofs.Ytdkcbbhkoibplaa

/-! S6: impl.SubstDo. -/
namespace Go.Proofs.Ytdkcbbhkoibplaa
open Go.RowKit Go.Deep Go.Maps

theorem tb_cellsS {w w' : World} {x y z x' y' z' : Value} {T T' : TypeId} (h : Below (w.heap.size + 2) ((w.alloc (.cells #[x, y, z] T)).alloc (.cells #[x', y', z'] T')) w') :
    w'.cell? ⟨w.heap.size, 0, none⟩ = some x ∧ w'.cell? ⟨w.heap.size, 1, none⟩ = some y ∧ w'.cell? ⟨w.heap.size, 2, none⟩ = some z ∧
      w'.cell? ⟨w.heap.size + 1, 0, none⟩ = some x' ∧ w'.cell? ⟨w.heap.size + 1, 1, none⟩ = some y' ∧ w'.cell? ⟨w.heap.size + 1, 2, none⟩ = some z' := by
  refine ⟨?_, ?_, ?_, ?_, ?_, ?_⟩
  · rw [h.cell (by simp), World.cell?_alloc_lt _ _ _ (by simp), World.cell?_alloc_at _ _ _ _ (by simp)]; rfl
  · rw [h.cell (by simp), World.cell?_alloc_lt _ _ _ (by simp), World.cell?_alloc_at _ _ _ _ (by simp)]; rfl
  · rw [h.cell (by simp), World.cell?_alloc_lt _ _ _ (by simp), World.cell?_alloc_at _ _ _ _ (by simp)]; rfl
  · rw [h.cell (by simp), World.cell?_alloc_at _ _ _ _ (by simp)]; rfl
  · rw [h.cell (by simp), World.cell?_alloc_at _ _ _ _ (by simp)]; rfl
  · rw [h.cell (by simp), World.cell?_alloc_at _ _ _ _ (by simp)]; rfl
theorem tb_freeS {w w' : World} {o o' : Obj} (h : Below (w.heap.size + 2) ((w.alloc o).alloc o') w') (j : Nat) {c c' : Array Value} {T T' : TypeId} (ho : o = .cells c T) (ho' : o' = .cells c' T') :
    w'.frozen? ⟨w.heap.size, j, none⟩ = false ∧ w'.frozen? ⟨w.heap.size + 1, j, none⟩ = false := by
  subst ho
  subst ho'
  constructor
  · rw [h.frozen (by simp), World.frozen?_alloc_past _ _ _ (by simp), World.frozen?_alloc_at _ _ _ _ (by simp)]
  · rw [h.frozen (by simp), World.frozen?_alloc_at _ _ _ _ (by simp)]

end Go.Proofs.Ytdkcbbhkoibplaa

/-! C1: A term with another put to a place. Definitions and plain lemmas. -/
namespace Go.Proofs.Ytdkcbbhkoibplaa
open Go.RowKit Go.Deep

/-- The terms, the n-th of them another. -/
def fset : Fo → Nat → Int × Int × Fo → Fo
  | .nil, _, _ => .nil
  | .node b o _ _ r, 0, x => .node b o (x.1, x.2.1) x.2.2 r
  | .node b o p k r, n + 1, x => .node b o p k (fset r n x)
theorem flen_set : ∀ (k : Fo) (n : Nat) (x : Int × Int × Fo), flen (fset k n x) = flen k
  | .nil, _, _ => rfl
  | .node _ _ _ _ _, 0, _ => rfl
  | .node _ _ _ _ r, n + 1, x => by simp only [fset, flen, flen_set r n x]
theorem fset_at : ∀ (k : Fo) (n : Nat) (x : Int × Int × Fo), n < flen k → ∃ b o, fdrop n (fset k n x) = .node b o (x.1, x.2.1) x.2.2 (fdrop (n + 1) (fset k n x))
  | .nil, _, _, h => by simp [flen] at h
  | .node b o _ _ _, 0, _, _ => ⟨b, o, rfl⟩
  | .node _ _ _ _ r, n + 1, x, h => by
    obtain ⟨b, o, e⟩ := fset_at r n x (by simp [flen] at h; omega)
    exact ⟨b, o, by simp only [fset, fdrop]; exact e⟩
theorem fset_far : ∀ (k : Fo) (n m : Nat) (x : Int × Int × Fo) {b o : Nat} {p : Int × Int} {kk r : Fo}, n ≠ m → fdrop m k = .node b o p kk r → ∃ r', fdrop m (fset k n x) = .node b o p kk r'
  | .nil, _, m, _, _, _, _, _, _, _, h => by cases m <;> simp [fdrop] at h
  | .node _ _ _ _ _, 0, 0, _, _, _, _, _, _, hne, _ => absurd rfl hne
  | .node _ _ _ _ r, 0, m + 1, _, _, _, _, _, _, _, h => ⟨_, by simp only [fset, fdrop] at h ⊢; exact h⟩
  | .node _ _ _ _ r, n + 1, 0, x, _, _, _, _, _, _, h => by
    simp only [fdrop, BT.node.injEq] at h
    obtain ⟨rfl, rfl, rfl, rfl, _⟩ := h
    exact ⟨_, rfl⟩
  | .node _ _ _ _ r, n + 1, m + 1, x, _, _, _, _, _, hne, h => by
    obtain ⟨r', e⟩ := fset_far r n m x (by omega) (by simpa [fdrop] using h)
    exact ⟨r', by simp only [fset, fdrop]; exact e⟩

/-- What comes of it if x is put to a place. -/
def fput : Int → Int → Fo → List Int → Int × Int × Fo → Option (Int × Int × Fo)
  | _, _, _, [], x => some x
  | s, v, k, i :: ps, x => if 0 ≤ i ∧ i < (flen k : Int) then (match fdrop i.toNat k with
    | .node _ _ (s', v') kk _ => (fput s' v' kk ps x).map fun y => (s, v, fset k i.toNat y)
    | .nil => none) else none

/-- One step of it. -/
theorem fput_cons {s v : Int} {k : Fo} {i : Int} {ps : List Int} {x z : Int × Int × Fo} (h : fput s v k (i :: ps) x = some z) :
    ∃ (n b o : Nat) (s' v' : Int) (kk : Fo) (y : Int × Int × Fo), i = n ∧ n < flen k ∧ fdrop n k = .node b o (s', v') kk (fdrop (n + 1) k) ∧ fput s' v' kk ps x = some y ∧ z = (s, v, fset k n y) := by
  simp only [fput] at h
  split at h
  · rename_i hi
    obtain ⟨b, o, s', v', kk, e⟩ := fdrop_succ i.toNat k (by omega)
    rw [e] at h
    obtain ⟨y, hy, rfl⟩ := Option.map_eq_some_iff.1 h
    exact ⟨i.toNat, b, o, s', v', kk, y, by omega, by omega, e, hy, rfl⟩
  · cases h
theorem fput_step {s v : Int} {k : Fo} {n b o : Nat} {ps : List Int} {s' v' : Int} {kk r : Fo} {x y : Int × Int × Fo} (hn : n < flen k) (hd : fdrop n k = .node b o (s', v') kk r) (hy : fput s' v' kk ps x = some y) :
    fput s v k ((n : Int) :: ps) x = some (s, v, fset k n y) := by
  simp only [fput, Int.toNat_natCast]
  rw [if_pos (by omega), hd]
  simp only [hy, Option.map_some]
theorem fput_none {s v : Int} {k : Fo} {n b o : Nat} {ps : List Int} {s' v' : Int} {kk r : Fo} {x : Int × Int × Fo} (hd : fdrop n k = .node b o (s', v') kk r) (hy : fput s' v' kk ps x = none) :
    fput s v k ((n : Int) :: ps) x = none := by
  simp only [fput, Int.toNat_natCast]
  rw [hd]
  simp only [hy, Option.map_none]
  split <;> rfl
theorem fput_out {s v : Int} {k : Fo} {i : Int} {ps : List Int} {x : Int × Int × Fo} (h : ¬(0 ≤ i ∧ i < (flen k : Int))) : fput s v k (i :: ps) x = none := by
  simp only [fput]
  rw [if_neg h]
theorem fat_step {s v : Int} {k : Fo} {n b o : Nat} {ps : List Int} {s' v' : Int} {kk r : Fo} (hn : n < flen k) (hd : fdrop n k = .node b o (s', v') kk r) : fat s v k ((n : Int) :: ps) = fat s' v' kk ps := by
  simp only [fat, Int.toNat_natCast]
  rw [if_pos (by omega), hd]
theorem fat_out {s v : Int} {k : Fo} {i : Int} {ps : List Int} (h : ¬(0 ≤ i ∧ i < (flen k : Int))) : fat s v k (i :: ps) = none := by
  simp only [fat]
  rw [if_neg h]

/-- It can be put just where something stands. -/
theorem fput_there : ∀ (p : List Int) (s v : Int) (k : Fo) (x : Int × Int × Fo), (fput s v k p x).isSome = (fat s v k p).isSome
  | [], _, _, _, _ => rfl
  | i :: ps, s, v, k, x => by
    by_cases hi : 0 ≤ i ∧ i < (flen k : Int)
    · obtain ⟨b, o, s', v', kk, e⟩ := fdrop_succ i.toNat k (by omega)
      have hin : i = (i.toNat : Int) := by omega
      rw [hin, fat_step (by omega) e, ← fput_there ps s' v' kk x]
      cases hy : fput s' v' kk ps x with
      | none => rw [fput_none e hy]
      | some y => rw [fput_step (by omega) e hy]; rfl
    · rw [fput_out hi, fat_out hi]
/-- No one of two places begins with the other. -/
def apart : List Int → List Int → Bool
  | i :: ps, j :: qs => i != j || apart ps qs
  | _, _ => false
end Go.Proofs.Ytdkcbbhkoibplaa

/-! PS: What is put into terms, plain: parts, places, sizes, variables. -/
namespace Go.Proofs.Ytdkcbbhkoibplaa
open Go.RowKit Go.Deep

theorem kids_none {v : Int} {k : Fo} (h : okN 0 v (flen k) = true) : k = .nil := by
  have h1 := ((okN_iff _ _ _).1 h).1
  cases k with
  | nil => rfl
  | node _ _ _ _ r => simp [flen, ar] at h1; omega
end Go.Proofs.Ytdkcbbhkoibplaa

/-! T0: The text of a term, as plain data. Definitions and plain lemmas. -/
namespace Go.Proofs.Ytdkcbbhkoibplaa
open Go.RowKit Go.Deep

def ltr (s : Int) : List UInt8 := if s = 1 then [97] else if s = 2 then [98] else if s = 3 then [103] else [102]
def tx1 (s v : Int) (ks : List (List UInt8)) : List UInt8 :=
  if s = 0 then 120 :: Lib.decDigits v.toNat else if ks = [] then ltr s else ltr s ++ ([40] ++ (Lib.join ks [44] ++ [41]))
/-- The texts of a list of terms. -/
def fts : Fo → List (List UInt8)
  | .nil => []
  | .node _ _ p k r => tx1 p.1 p.2 (fts k) :: fts r
/-- The text of a term. -/
def tx (s v : Int) (k : Fo) : List UInt8 := tx1 s v (fts k)
def str (l : List UInt8) : ByteArray := ⟨l.toArray⟩

theorem fts_len : ∀ k : Fo, (fts k).length = flen k
  | .nil => rfl
  | .node _ _ _ _ r => by simp [fts, flen, fts_len r]
theorem fts_nil {k : Fo} : fts k = [] ↔ flen k = 0 := by rw [← fts_len, List.length_eq_zero_iff]
theorem tx_var (v : Int) : tx 0 v .nil = 120 :: Lib.decDigits v.toNat := by simp [tx, tx1]
theorem tx_leaf {s v : Int} {k : Fo} (hs : s ≠ 0) (hk : flen k = 0) : tx s v k = ltr s := by
  unfold tx tx1
  rw [if_neg hs, if_pos (fts_nil.2 hk)]
theorem tx_kids {s v : Int} {k : Fo} (hs : s ≠ 0) (hk : flen k ≠ 0) : tx s v k = ltr s ++ ([40] ++ (Lib.join (fts k) [44] ++ [41])) := by
  unfold tx tx1
  rw [if_neg hs, if_neg fun h => hk (fts_nil.1 h)]
theorem str_add (l m : List UInt8) : str l ++ str m = str (l ++ m) := by
  apply ByteArray.ext
  rw [ByteArray.data_append]
  simp [str]
theorem str_size (l : List UInt8) : (str l).size = l.length := by simp [str, ByteArray.size]

theorem fts_at : ∀ (j : Nat) (k : Fo) {x y : Nat} {s v : Int} {kk r : Fo}, fdrop j k = .node x y (s, v) kk r → (fts k)[j]? = some (tx s v kk)
  | 0, .nil, _, _, _, _, _, _, h => by simp [fdrop] at h
  | 0, .node _ _ p k r, x, y, s, v, kk, r', h => by
    simp only [fdrop, BT.node.injEq] at h
    obtain ⟨_, _, rfl, rfl, _⟩ := h
    rfl
  | _ + 1, .nil, _, _, _, _, _, _, h => by simp [fdrop] at h
  | n + 1, .node _ _ _ _ r, _, _, _, _, _, _, h => by
    simp only [fdrop] at h
    simpa [fts] using fts_at n r h

theorem dec_len {n : Nat} (h : n < 100) : (Lib.decDigits n).length ≤ 2 := by
  unfold Lib.decDigits
  split
  · simp
  · unfold Lib.decDigits
    rw [dif_pos (by omega)]
    simp
theorem ltr_len (s : Int) : (ltr s).length = 1 := by
  unfold ltr
  split
  · rfl
  · split
    · rfl
    · split <;> rfl
def lens (ks : List (List UInt8)) : Nat := (ks.map List.length).sum
theorem join_len : ∀ ks : List (List UInt8), (Lib.join ks [44]).length ≤ lens ks + ks.length
  | [] => by simp [Lib.join_nil]
  | [x] => by simp [Lib.join_one, lens]
  | x :: y :: r => by
    have := join_len (y :: r)
    rw [Lib.join_cons] at this ⊢
    simp only [Lib.joinTail, lens, List.map_cons, List.flatten_cons, List.length_append, List.sum_cons, List.length_cons, List.length_nil] at this ⊢
    omega
/-- Well-formed terms have short texts. -/
theorem fts_short : ∀ k : Fo, fok k = true → lens (fts k) + (fts k).length ≤ 6 * fsz k
  | .nil, _ => by simp [fts, lens]
  | .node x y p k r, h => by
    simp only [fok, Bool.and_eq_true] at h
    have hk := fts_short k h.1.2
    have hr := fts_short r h.2
    have hj := join_len (fts k)
    have hl := ltr_len p.1
    have : (tx1 p.1 p.2 (fts k)).length ≤ 5 + 6 * fsz k := by
      unfold tx1
      split
      · rename_i h0
        have hv := ((okN_iff _ _ _).1 h.1.1).2.1 h0
        have := dec_len (n := p.2.toNat) (by omega)
        simp; omega
      · split
        · omega
        · simp only [List.length_append, List.length_cons, List.length_nil]; omega
    simp only [fts, fsz, lens, List.map_cons, List.sum_cons, List.length_cons] at hr ⊢
    omega
end Go.Proofs.Ytdkcbbhkoibplaa

/-! T4: Terms are the same just if their texts are: plain lemmas. -/
namespace Go.Proofs.Ytdkcbbhkoibplaa
open Go.RowKit Go.Deep

/-- Terms without the marks of where they were. -/
def fer : Fo → Fo
  | .nil => .nil
  | .node _ _ p k r => .node 0 0 p (fer k) (fer r)

theorem fo_none {k : Fo} (h : flen k = 0) : k = .nil := by
  cases k with
  | nil => rfl
  | node => simp [flen] at h
theorem fo_one {k : Fo} (h : flen k = 1) : ∃ x y p kk, k = .node x y p kk .nil := by
  cases k with
  | nil => simp [flen] at h
  | node x y p kk r =>
    obtain rfl := fo_none (k := r) (by simp [flen] at h; omega)
    exact ⟨x, y, p, kk, rfl⟩
theorem fo_two {k : Fo} (h : flen k = 2) : ∃ x y p kk x' y' p' kk', k = .node x y p kk (.node x' y' p' kk' .nil) := by
  cases k with
  | nil => simp [flen] at h
  | node x y p kk r =>
    obtain ⟨x', y', p', kk', rfl⟩ := fo_one (k := r) (by simp [flen] at h; omega)
    exact ⟨x, y, p, kk, x', y', p', kk', rfl⟩

/-- What a well-formed term looks like. -/
inductive Shape : Int → Int → Fo → Prop
  | var (v : Int) (h0 : 0 ≤ v) (h1 : v ≤ 11) : Shape 0 v .nil
  | leaf (s : Int) (h : s = 1 ∨ s = 2) : Shape s 0 .nil
  | one (x y : Nat) (p : Int × Int) (k : Fo) (h : okN p.1 p.2 (flen k) = true) (hk : fok k = true) : Shape 3 0 (.node x y p k .nil)
  | two (x y : Nat) (p : Int × Int) (k : Fo) (x' y' : Nat) (p' : Int × Int) (k' : Fo) (h : okN p.1 p.2 (flen k) = true) (hk : fok k = true) (h' : okN p'.1 p'.2 (flen k') = true) (hk' : fok k' = true) : Shape 4 0 (.node x y p k (.node x' y' p' k' .nil))

theorem shape_of {s v : Int} {k : Fo} (h : okN s v (flen k) = true) (hk : fok k = true) : Shape s v k := by
  obtain ⟨h1, h2, h3⟩ := (okN_iff _ _ _).1 h
  unfold ar at h1
  by_cases h0 : s = 0
  · subst h0
    obtain rfl := fo_none (k := k) (by simp at h1; omega)
    exact .var v (h2 rfl).1 (h2 rfl).2
  · obtain rfl := h3 h0
    split at h1
    · obtain rfl := fo_none (k := k) (by omega)
      exact .leaf s (by omega)
    · split at h1
      · rename_i h3'
        subst h3'
        obtain ⟨x, y, p, kk, rfl⟩ := fo_one (k := k) (by omega)
        simp only [fok, Bool.and_eq_true] at hk
        exact .one x y p kk hk.1.1 hk.1.2
      · split at h1
        · rename_i h4'
          subst h4'
          obtain ⟨x, y, p, kk, x', y', p', kk', rfl⟩ := fo_two (k := k) (by omega)
          simp only [fok, Bool.and_eq_true] at hk
          exact .two x y p kk x' y' p' kk' hk.1.1 hk.1.2 hk.2.1.1 hk.2.1.2
        · omega

/-- It does not begin with a digit. -/
def nd (l : List UInt8) : Prop := ∀ b r, l = b :: r → b.toNat < 48 ∨ 57 < b.toNat
theorem nd_of {b : UInt8} {r : List UInt8} (h : b.toNat < 48 ∨ 57 < b.toNat) : nd (b :: r) := fun b' r' e => by
  obtain ⟨rfl, _⟩ := List.cons.inj e
  exact h
theorem nd_nil : nd [] := fun b r e => by cases e

theorem digit_toNat {n : Nat} (h : n < 10) : (UInt8.ofNat (48 + n)).toNat = 48 + n := by
  simp [UInt8.toNat_ofNat]
  omega
theorem dec_small {n : Nat} (h : n < 10) : Lib.decDigits n = [UInt8.ofNat (48 + n)] := by
  unfold Lib.decDigits
  rw [dif_pos h]
theorem dec_great {n : Nat} (h : 10 ≤ n) (h1 : n < 20) : Lib.decDigits n = [UInt8.ofNat (48 + 1), UInt8.ofNat (48 + (n - 10))] := by
  unfold Lib.decDigits
  rw [dif_neg (by omega), show n / 10 = 1 from by omega, dec_small (by omega), show n % 10 = n - 10 from by omega]
  rfl
theorem dec_inj {m n : Nat} {r r' : List UInt8} (hm : m < 12) (hn : n < 12) (hr : nd r) (hr' : nd r') (h : Lib.decDigits m ++ r = Lib.decDigits n ++ r') : m = n ∧ r = r' := by
  by_cases h1 : m < 10
  · rw [dec_small h1] at h
    by_cases h2 : n < 10
    · rw [dec_small h2] at h
      obtain ⟨e1, e2⟩ := List.cons.inj h
      have := congrArg UInt8.toNat e1
      rw [digit_toNat h1, digit_toNat h2] at this
      exact ⟨by omega, e2⟩
    · rw [dec_great (by omega) (by omega)] at h
      obtain ⟨_, e2⟩ := List.cons.inj h
      have := hr _ _ e2
      rw [digit_toNat (by omega)] at this
      omega
  · rw [dec_great (by omega) (by omega)] at h
    by_cases h2 : n < 10
    · rw [dec_small h2] at h
      obtain ⟨_, e2⟩ := List.cons.inj h
      have := hr' _ _ e2.symm
      rw [digit_toNat (by omega)] at this
      omega
    · rw [dec_great (by omega) (by omega)] at h
      obtain ⟨_, e2⟩ := List.cons.inj h
      obtain ⟨e3, e4⟩ := List.cons.inj e2
      have := congrArg UInt8.toNat e3
      rw [digit_toNat (by omega), digit_toNat (by omega)] at this
      exact ⟨by omega, e4⟩

theorem tx_l1 : tx 1 0 .nil = [97] := rfl
theorem tx_l2 : tx 2 0 .nil = [98] := rfl
theorem tx_one {x y : Nat} {p : Int × Int} {k : Fo} : tx 3 0 (.node x y p k .nil) = 103 :: 40 :: (tx p.1 p.2 k ++ [41]) := by
  rw [tx_kids (by decide) (by simp [flen])]
  simp only [fts, Lib.join_one]
  rfl
theorem tx_two {x y : Nat} {p : Int × Int} {k : Fo} {x' y' : Nat} {p' : Int × Int} {k' : Fo} : tx 4 0 (.node x y p k (.node x' y' p' k' .nil)) = 102 :: 40 :: (tx p.1 p.2 k ++ (44 :: (tx p'.1 p'.2 k' ++ [41]))) := by
  rw [tx_kids (by decide) (by simp [flen])]
  simp only [fts, Lib.join_cons, Lib.joinTail, List.map_cons, List.map_nil, List.flatten_cons, List.flatten_nil]
  simp [ltr, tx]

theorem tx_inj (N : Nat) : ∀ (s v : Int) (k : Fo) (s' v' : Int) (k' : Fo) (r r' : List UInt8), Shape s v k → Shape s' v' k' → fsz k ≤ N → nd r → nd r' → tx s v k ++ r = tx s' v' k' ++ r' → s = s' ∧ v = v' ∧ fer k = fer k' ∧ r = r' := by
  induction N using Nat.strongRecOn with
  | _ N ih =>
    intro s v k s' v' k' r r' h h' hN hr hr' he
    have nd41 : ∀ q, nd (41 :: q) := fun q => nd_of (by decide)
    have nd44 : ∀ q, nd (44 :: q) := fun q => nd_of (by decide)
    cases h with
    | var _ h0 h1 =>
      rw [tx_var] at he
      cases h' with
      | var _ h0' h1' =>
        rw [tx_var] at he
        obtain ⟨e1, e2⟩ := dec_inj (by omega) (by omega) hr hr' (List.cons.inj he).2
        exact ⟨rfl, by omega, rfl, e2⟩
      | leaf _ hs =>
        rcases hs with rfl | rfl
        · simp [tx_l1] at he
        · simp [tx_l2] at he
      | one => rw [tx_one] at he; simp at he
      | two => rw [tx_two] at he; simp at he
    | leaf _ hs =>
      cases h' with
      | var _ h0' h1' =>
        rw [tx_var] at he
        rcases hs with rfl | rfl
        · simp [tx_l1] at he
        · simp [tx_l2] at he
      | leaf _ hs' =>
        rcases hs with rfl | rfl <;> rcases hs' with rfl | rfl
        all_goals simp [tx_l1, tx_l2] at he
        all_goals exact ⟨rfl, rfl, rfl, he⟩
      | one =>
        rw [tx_one] at he
        rcases hs with rfl | rfl
        · simp [tx_l1] at he
        · simp [tx_l2] at he
      | two =>
        rw [tx_two] at he
        rcases hs with rfl | rfl
        · simp [tx_l1] at he
        · simp [tx_l2] at he
    | one x y p kk ho hk =>
      rw [tx_one] at he
      cases h' with
      | var => rw [tx_var] at he; simp at he
      | leaf _ hs =>
        rcases hs with rfl | rfl
        · simp [tx_l1] at he
        · simp [tx_l2] at he
      | one x' y' p' kk' ho' hk' =>
        rw [tx_one] at he
        simp only [List.append_assoc, List.cons_append, List.nil_append, List.cons.injEq, true_and] at he
        have he2 := he
        obtain ⟨e1, e2, e3, e4⟩ := ih (fsz kk) (by simp [fsz] at hN; omega) p.1 p.2 kk p'.1 p'.2 kk' _ _ (shape_of ho hk) (shape_of ho' hk') (Nat.le_refl _) (nd41 _) (nd41 _) he2
        exact ⟨rfl, rfl, by simp only [fer]; rw [e3, Prod.ext e1 e2], (List.cons.inj e4).2⟩
      | two => rw [tx_two] at he; simp at he
    | two x y p kk x2 y2 p2 kk2 ho hk ho2 hk2 =>
      rw [tx_two] at he
      cases h' with
      | var => rw [tx_var] at he; simp at he
      | leaf _ hs =>
        rcases hs with rfl | rfl
        · simp [tx_l1] at he
        · simp [tx_l2] at he
      | one => rw [tx_one] at he; simp at he
      | two x' y' p' kk' x2' y2' p2' kk2' ho' hk' ho2' hk2' =>
        rw [tx_two] at he
        simp only [List.append_assoc, List.cons_append, List.nil_append, List.cons.injEq, true_and] at he
        have he2 := he
        simp only [fsz] at hN
        obtain ⟨e1, e2, e3, e4⟩ := ih (fsz kk) (by omega) p.1 p.2 kk p'.1 p'.2 kk' _ _ (shape_of ho hk) (shape_of ho' hk') (Nat.le_refl _) (nd44 _) (nd44 _) he2
        obtain ⟨f1, f2, f3, f4⟩ := ih (fsz kk2) (by omega) p2.1 p2.2 kk2 p2'.1 p2'.2 kk2' _ _ (shape_of ho2 hk2) (shape_of ho2' hk2') (Nat.le_refl _) (nd41 _) (nd41 _) (List.cons.inj e4).2
        exact ⟨rfl, rfl, by simp only [fer]; rw [e3, Prod.ext e1 e2, f3, Prod.ext f1 f2], (List.cons.inj f4).2⟩

/-- Equal texts, equal terms. -/
theorem tx_inj' {s v : Int} {k : Fo} {s' v' : Int} {k' : Fo} (h : Shape s v k) (h' : Shape s' v' k') (he : tx s v k = tx s' v' k') : s = s' ∧ v = v' ∧ fer k = fer k' := by
  obtain ⟨h1, h2, h3, _⟩ := tx_inj (fsz k) s v k s' v' k' [] [] h h' (Nat.le_refl _) nd_nil nd_nil (by rw [he])
  exact ⟨h1, h2, h3⟩
theorem fts_fer : ∀ k : Fo, fts (fer k) = fts k
  | .nil => rfl
  | .node _ _ p k r => by simp only [fer, fts, fts_fer k, fts_fer r]
theorem tx_same {s v : Int} {k k' : Fo} (h : fer k = fer k') : tx s v k = tx s v k' := by
  unfold tx
  rw [← fts_fer k, h, fts_fer k']
end Go.Proofs.Ytdkcbbhkoibplaa

/-! TE: Terms compared: plain lemmas. -/
namespace Go.Proofs.Ytdkcbbhkoibplaa
open Go.RowKit Go.Deep

def feq : Fo → Fo → Bool
  | .nil, .nil => true
  | .node _ _ p k r, .node _ _ p' k' r' => decide (p = p') && (feq k k' && feq r r')
  | _, _ => false
/-- The same term. -/
def teq (s v : Int) (k : Fo) (s' v' : Int) (k' : Fo) : Bool := decide (s = s') && (decide (v = v') && feq k k')
theorem feq_iff : ∀ k k' : Fo, feq k k' = true ↔ fer k = fer k'
  | .nil, .nil => by simp [feq, fer]
  | .nil, .node _ _ _ _ _ => by simp [feq, fer]
  | .node _ _ _ _ _, .nil => by simp [feq, fer]
  | .node _ _ p k r, .node _ _ p' k' r' => by
    simp only [feq, fer, Bool.and_eq_true, decide_eq_true_eq, feq_iff k k', feq_iff r r', BT.node.injEq, true_and]
theorem feq_len : ∀ {k k' : Fo}, feq k k' = true → flen k = flen k'
  | .nil, .nil, _ => rfl
  | .nil, .node _ _ _ _ _, h => by simp [feq] at h
  | .node _ _ _ _ _, .nil, h => by simp [feq] at h
  | .node _ _ p k r, .node _ _ p' k' r', h => by
    simp only [feq, Bool.and_eq_true] at h
    simp [flen, feq_len h.2.2]
theorem teq_sign {s v : Int} {k : Fo} {s' v' : Int} {k' : Fo} (h : s ≠ s') : teq s v k s' v' k' = false := by simp [teq, h]
theorem teq_var {s v : Int} {k : Fo} {s' v' : Int} {k' : Fo} (h : v ≠ v') : teq s v k s' v' k' = false := by simp [teq, h]
theorem teq_len {s v : Int} {k : Fo} {s' v' : Int} {k' : Fo} (h : flen k ≠ flen k') : teq s v k s' v' k' = false := by
  cases hf : feq k k' with
  | false => simp [teq, hf]
  | true => exact absurd (feq_len hf) h
theorem teq_kids {s v : Int} {k k' : Fo} : teq s v k s v k' = feq k k' := by simp [teq]
theorem feq_drop {k k' : Fo} {j x y x' y' : Nat} {s v s' v' : Int} {kk kk' : Fo} (h : fdrop j k = .node x y (s, v) kk (fdrop (j + 1) k)) (h' : fdrop j k' = .node x' y' (s', v') kk' (fdrop (j + 1) k')) :
    feq (fdrop j k) (fdrop j k') = (teq s v kk s' v' kk' && feq (fdrop (j + 1) k) (fdrop (j + 1) k')) := by
  rw [h, h']
  simp only [feq, teq, Prod.mk.injEq, Bool.and_assoc]
  by_cases h1 : s = s' <;> by_cases h2 : v = v' <;> simp [h1, h2]
theorem teq_iff {s v : Int} {k : Fo} {s' v' : Int} {k' : Fo} : teq s v k s' v' k' = true ↔ s = s' ∧ v = v' ∧ fer k = fer k' := by
  simp only [teq, Bool.and_eq_true, decide_eq_true_eq, feq_iff]
/-- Texts are the same just if the terms are. -/
theorem tx_teq {s v : Int} {k : Fo} {s' v' : Int} {k' : Fo} (h : Shape s v k) (h' : Shape s' v' k') : (tx s v k = tx s' v' k') ↔ teq s v k s' v' k' = true := by
  rw [teq_iff]
  refine ⟨fun he => tx_inj' h h' he, ?_⟩
  rintro ⟨rfl, rfl, he⟩
  exact tx_same he
end Go.Proofs.Ytdkcbbhkoibplaa

/-! MT0: Matching as plain data: what a pattern binds. Definitions and plain lemmas. -/
namespace Go.Proofs.Ytdkcbbhkoibplaa
open Go.RowKit Go.Deep

/-- Terms of a row without marks of where they lie. -/
def Zf (k : Fo) : Prop := fer k = k
theorem Zf.nil : Zf .nil := rfl
theorem zf_node {x y : Nat} {p : Int × Int} {k r : Fo} : Zf (.node x y p k r) ↔ x = 0 ∧ y = 0 ∧ Zf k ∧ Zf r := by
  simp only [Zf, fer, BT.node.injEq, true_and]
  constructor
  · rintro ⟨h1, h2, h3, h4⟩; exact ⟨h1.symm, h2.symm, h3, h4⟩
  · rintro ⟨h1, h2, h3, h4⟩; exact ⟨h1.symm, h2.symm, h3, h4⟩
theorem sv_ladd {b : Bd} : ∀ {bs : List Bd}, sv bs b.1 = none → ∀ v, sv (ladd bs b) v = if b.1 = v then some b.2 else sv bs v
  | [], _, v => rfl
  | x :: r, h, v => by
    simp only [sv] at h
    by_cases e : x.1 = b.1
    · rw [if_pos e] at h; cases h
    · rw [if_neg e] at h
      simp only [ladd]
      by_cases hlt : b.1 < x.1
      · rw [if_pos hlt]; rfl
      · rw [if_neg hlt]
        simp only [sv]
        rw [sv_ladd h v]
        by_cases e2 : x.1 = v
        · rw [if_pos e2, if_neg (fun e' => e (e2.trans e'.symm))]; simp [e2]
        · rw [if_neg e2, if_neg e2]

/-- What a variable of a pattern binds. -/
def mtV (bs : List Bd) (x : Int) (t : Int × Int × Fo) : Option (List Bd) :=
  match sv bs x with
  | some u => if teq u.1 u.2.1 u.2.2 t.1 t.2.1 t.2.2 = true then some bs else none
  | none => some (ladd bs (x, t))
/-- What patterns of a row bind. -/
def fmt : List Bd → Fo → Fo → Option (List Bd)
  | bs, .nil, .nil => some bs
  | bs, .node _ _ p k r, .node _ _ q l m => (if p.1 = 0 then mtV bs p.2 (q.1, q.2, l) else if p.1 = q.1 then fmt bs k l else none).bind fun b1 => fmt b1 r m
  | _, _, _ => none
/-- What a pattern binds. -/
def tmt (bs : List Bd) (s v : Int) (k : Fo) (s' v' : Int) (k' : Fo) : Option (List Bd) := if s = 0 then mtV bs v (s', v', k') else if s = s' then fmt bs k k' else none
theorem fmt_node (bs : List Bd) (x y : Nat) (p : Int × Int) (k r : Fo) (x' y' : Nat) (q : Int × Int) (l m : Fo) : fmt bs (.node x y p k r) (.node x' y' q l m) = (tmt bs p.1 p.2 k q.1 q.2 l).bind fun b1 => fmt b1 r m := rfl

theorem mtV_cases {bs b1 : List Bd} {x : Int} {t : Int × Int × Fo} (h : mtV bs x t = some b1) : (∃ u, sv bs x = some u ∧ teq u.1 u.2.1 u.2.2 t.1 t.2.1 t.2.2 = true ∧ b1 = bs) ∨ (sv bs x = none ∧ b1 = ladd bs (x, t)) := by
  unfold mtV at h
  cases hs : sv bs x with
  | none => rw [hs] at h; exact .inr ⟨rfl, (Option.some.inj h).symm⟩
  | some u =>
    rw [hs] at h
    dsimp only at h
    split at h
    · rename_i he; exact .inl ⟨u, rfl, he, (Option.some.inj h).symm⟩
    · cases h
/-- What is bound is a part of the term. -/
def Bof (bs : List Bd) (M : Nat) : Prop := ∀ x t, sv bs x = some t → okN t.1 t.2.1 (flen t.2.2) = true ∧ fok t.2.2 = true ∧ fsz t.2.2 ≤ M
theorem Bof.nil (M : Nat) : Bof [] M := fun _ _ h => by simp [sv] at h
theorem mtV_of {bs b1 : List Bd} {x : Int} {t : Int × Int × Fo} {M : Nat} (h : mtV bs x t = some b1) (hb : Bof bs M) (h1 : okN t.1 t.2.1 (flen t.2.2) = true) (h2 : fok t.2.2 = true) (h3 : fsz t.2.2 ≤ M) : Bof b1 M := by
  rcases mtV_cases h with ⟨u, hs, he, rfl⟩ | ⟨hs, rfl⟩
  · exact hb
  · intro y u hu
    rw [sv_ladd (b := (x, t)) hs] at hu
    split at hu
    · obtain rfl := Option.some.inj hu; exact ⟨h1, h2, h3⟩
    · exact hb y u hu
theorem fmt_of {M : Nat} : ∀ (k l : Fo) (bs bs' : List Bd), fmt bs k l = some bs' → Bof bs M → fok l = true → fsz l ≤ M → Bof bs' M
  | .nil, .nil, bs, bs', h, ha, _, _ => by obtain rfl := Option.some.inj h; exact ha
  | .nil, .node _ _ _ _ _, _, _, h, _, _, _ => by simp [fmt] at h
  | .node _ _ _ _ _, .nil, _, _, h, _, _, _ => by simp [fmt] at h
  | .node x' y' p k r, .node _ _ q l m, bs, bs', h, ha, hol, hM => by
    simp only [fok, Bool.and_eq_true] at hol
    simp only [fsz] at hM
    rw [fmt_node] at h
    obtain ⟨b1, h1, h2⟩ := Option.bind_eq_some_iff.1 h
    unfold tmt at h1
    refine fmt_of r m b1 bs' h2 ?_ hol.2 (by omega)
    by_cases e : p.1 = 0
    · rw [if_pos e] at h1
      exact mtV_of h1 ha hol.1.1 hol.1.2 (by dsimp only; omega)
    · rw [if_neg e] at h1
      split at h1
      · exact fmt_of k l bs b1 h1 ha hol.1.2 (by omega)
      · cases h1
theorem tmt_of {bs bs' : List Bd} {s v : Int} {k : Fo} {s' v' : Int} {k' : Fo} {M : Nat} (h : tmt bs s v k s' v' k' = some bs') (ha : Bof bs M) (h1 : okN s' v' (flen k') = true) (h2 : fok k' = true) (h3 : fsz k' ≤ M) : Bof bs' M := by
  unfold tmt at h
  by_cases e : s = 0
  · rw [if_pos e] at h; exact mtV_of h ha h1 h2 h3
  · rw [if_neg e] at h
    split at h
    · exact fmt_of k k' bs bs' h ha h2 h3
    · cases h
theorem mtV_len {bs b1 : List Bd} {x : Int} {t : Int × Int × Fo} (h : mtV bs x t = some b1) : b1.length ≤ bs.length + 1 := by
  rcases mtV_cases h with ⟨u, hs, he, rfl⟩ | ⟨hs, rfl⟩
  · omega
  · rw [ladd_len]; omega
theorem fmt_blen : ∀ (k l : Fo) (bs bs' : List Bd), fmt bs k l = some bs' → bs'.length ≤ bs.length + fsz k
  | .nil, .nil, bs, bs', h => by obtain rfl := Option.some.inj h; omega
  | .nil, .node _ _ _ _ _, _, _, h => by simp [fmt] at h
  | .node _ _ _ _ _, .nil, _, _, h => by simp [fmt] at h
  | .node x' y' p k r, .node _ _ q l m, bs, bs', h => by
    rw [fmt_node] at h
    obtain ⟨b1, h1, h2⟩ := Option.bind_eq_some_iff.1 h
    unfold tmt at h1
    have := fmt_blen r m b1 bs' h2
    simp only [fsz]
    by_cases e : p.1 = 0
    · rw [if_pos e] at h1
      have := mtV_len h1
      omega
    · rw [if_neg e] at h1
      split at h1
      · have := fmt_blen k l bs b1 h1
        omega
      · cases h1
theorem tmt_blen {bs bs' : List Bd} {s v : Int} {k : Fo} {s' v' : Int} {k' : Fo} (h : tmt bs s v k s' v' k' = some bs') : bs'.length ≤ bs.length + (1 + fsz k) := by
  unfold tmt at h
  by_cases e : s = 0
  · rw [if_pos e] at h; have := mtV_len h; omega
  · rw [if_neg e] at h
    split at h
    · have := fmt_blen k k' bs bs' h; omega
    · cases h
/-- Row by row. -/
theorem fmt_step {bs : List Bd} {k l : Fo} {j x y x' y' : Nat} {s v s' v' : Int} {kk kk' : Fo} (h : fdrop j k = .node x y (s, v) kk (fdrop (j + 1) k)) (h' : fdrop j l = .node x' y' (s', v') kk' (fdrop (j + 1) l)) : fmt bs (fdrop j k) (fdrop j l) = (tmt bs s v kk s' v' kk').bind fun b1 => fmt b1 (fdrop (j + 1) k) (fdrop (j + 1) l) := by
  rw [h, h', fmt_node]

end Go.Proofs.Ytdkcbbhkoibplaa
