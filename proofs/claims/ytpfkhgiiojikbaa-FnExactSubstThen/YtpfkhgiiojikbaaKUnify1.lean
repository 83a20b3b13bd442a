/- Several texts in one: MU, FB, G0, G1, SHt. -/
import Derived.Test.YtpfkhgiiojikbaaKThen4
import Derived.Test.YtpfkhgiiojikbaaKThen8
import Derived.Test.YtpfkhgiiojikbaaKThen7
import Derived.Test.YtpfkhgiiojikbaaKThen10
import Derived.Test.YtpfkhgiiojikbaaProg
import Derived.Shelf.Strconv.Itoa3
import Derived.Shelf.Strings.OnBuilder
import Derived.Ground.NamesProg

/-! MU: Operations on maps at which the library has no law: a literal's entry, a look-up without ok, a store in a round of a range over the same map. Plain laws. -/
namespace Go.Proofs.Ytpfkhgiiojikbaa
open Go.RowKit Go.Deep Go.Maps Go.ChangeMaps Go.MapKept Go.WideShapes
open Go.WideElems (Fit rd rg pl rd_key rd_val rg_of)

section
variable {H : Type} {P : Program} (w : World) {ops : Array Oper} {rest : List Oper} {o : Oper} {a : Act} {Q : Exit → Act → World → Prop}

theorem wpList_insert_own (hg : o.guard = none) (m x v : Operand) (t : TypeId) (hop : o.op = Op.insert t m x v)
    (k e : TypeId) (K : Keyed P k) (ht : P.underlying t = some (.map k e)) (R : Value → Option (DataW H × List MemPlace)) (b n : Nat) (D : DataW H)
    (hm : a.eval m = .map (some b)) (hown : w.ownsMap P k R b n D) (hn : n < maxLen) (key val : Value) (kl : Lit) (hx : a.eval x = key) (hv : a.eval v = val) (hkey : keyOf P k key = some kl)
    (d : DataW H) (ps : List MemPlace) (hval : R val = some (d, ps))
    (hK : ∀ w', w'.ownsMap P k R b (n + 1) (D.put kl d) → w.grownBy w' (some b) → wpList P ops Q rest (a.put o.dst undef) w') :
    wpList P ops Q (o :: rest) a w := by
  refine wpList_plain hg fun K' hK' => ?_
  obtain ⟨w', hrun, r1, r2⟩ := hown.update K ht hn hkey hval
  unfold Oper.wp
  simp [execOp, hop, hm, hx, hv, hrun, Result.andThen]
  exact hK' _ _ (hK w' r1 r2)

theorem own_look {t k e : TypeId} {R : Value → Option (DataW H × List MemPlace)} {b n : Nat} {D : DataW H} {w : World} (h : w.ownsMap P k R b n D) (K : Keyed P k) (ht : P.underlying t = some (.map k e)) {z : Value} (hz : (zeroValue e).run P w = .ok z w) {zd : DataW H} {zp : List MemPlace} (hzd : R z = some (zd, zp))
    {key : Value} {kl : Lit} (hkey : keyOf P k key = some kl) : ∃ v ps, (Instr.lookup t (.map (some b)) key false).run P w = .ok v w ∧ R v = some (D.atKey kl zd, ps) := by
  obtain ⟨es, clock, hb, F, _, rfl⟩ := h
  rcases Maps.fit_look false K ht hz hb F hkey with ⟨hrun, _, hat⟩ | ⟨e0, y, _, _, hrun, hRv, hat, _⟩
  · exact ⟨z, zp, by simpa using hrun, by rw [hat zd]; exact hzd⟩
  · exact ⟨e0.val, y.2, by simpa using hrun, by rw [hat zd]; exact hRv⟩
theorem wpList_look_own (hg : o.guard = none) (m x : Operand) (t : TypeId) (hop : o.op = Op.lookup t m x false)
    (k e : TypeId) (K : Keyed P k) (ht : P.underlying t = some (.map k e)) (R : Value → Option (DataW H × List MemPlace)) {z : Value} (hz : (zeroValue e).run P w = .ok z w) (zd : DataW H) (zp : List MemPlace) (hzd : R z = some (zd, zp)) (b n : Nat) (D : DataW H)
    (hm : a.eval m = .map (some b)) (hown : w.ownsMap P k R b n D) (key : Value) (kl : Lit) (hx : a.eval x = key) (hkey : keyOf P k key = some kl)
    (hK : ∀ v ps, R v = some (D.atKey kl zd, ps) → wpList P ops Q rest (a.put o.dst v) w) :
    wpList P ops Q (o :: rest) a w := by
  refine wpList_plain hg fun K' hK' => ?_
  obtain ⟨v, ps, hrun, hv⟩ := own_look hown K ht hz hzd hkey
  unfold Oper.wp
  simp [execOp, hop, hm, hx, hrun, Result.andThen]
  exact hK' _ _ (hK v ps hv)

theorem wpList_store_ranges (hg : o.guard = none) (m x v : Operand) (t : TypeId) (hop : o.op = Op.mapUpdate t m x v)
    (k e : TypeId) (K : Keyed P k) (ht : P.underlying t = some (.map k e)) (R : Value → Option (DataW H × List MemPlace)) (b r n : Nat) (D : DataW H) (left : Lit → Bool) (cnt : Nat)
    (hm : a.eval m = .map (some b)) (h : w.ranges P k R b r n D left cnt) (hn : n < maxLen) (key val : Value) (kl : Lit) (hx : a.eval x = key) (hv : a.eval v = val) (hkey : keyOf P k key = some kl)
    (d : DataW H) (ps : List MemPlace) (hval : R val = some (d, ps)) (hh : Maps.has D kl = true)
    (hK : ∀ w', w'.ranges P k R b r n (D.put kl d) left cnt → w.grownBy w' (some b) → wpList P ops Q rest (a.put o.dst undef) w') :
    wpList P ops Q (o :: rest) a w := by
  refine wpList_plain hg fun K' hK' => ?_
  obtain ⟨w', hrun, r1, r2⟩ := ranges_store h K ht hn hkey hval hh
  unfold Oper.wp
  simp [execOp, hop, hm, hx, hv, hrun, Result.andThen]
  exact hK' _ _ (hK w' r1 r2)
end
end Go.Proofs.Ytpfkhgiiojikbaa

/-! FB: occurs: fold to bools. -/
namespace Go.Proofs.Ytpfkhgiiojikbaa
open Go.RowKit Go.Deep Go.Maps

/-- Of each term of a row, whether a variable occurs in it. -/
def occL (x : Int) : Fo → List Bool
  | .nil => []
  | .node _ _ p k r => decide (x ∈ fvs p.1 p.2 k) :: occL x r
theorem occL_len (x : Int) : ∀ k : Fo, (occL x k).length = flen k
  | .nil => rfl
  | .node _ _ _ _ r => by simp only [occL, List.length_cons, flen, occL_len x r]
theorem occL_at (x : Int) : ∀ (i : Nat) (k : Fo) {a b : Nat} {s v : Int} {kk r : Fo}, fdrop i k = .node a b (s, v) kk r → (occL x k)[i]? = some (decide (x ∈ fvs s v kk))
  | 0, .nil, _, _, _, _, _, _, h => by simp [fdrop] at h
  | 0, .node _ _ p k r, _, _, _, _, _, _, h => by
    simp only [fdrop, BT.node.injEq] at h
    obtain ⟨_, _, rfl, rfl, _⟩ := h
    rfl
  | _ + 1, .nil, _, _, _, _, _, _, h => by simp [fdrop] at h
  | n + 1, .node _ _ p k r, _, _, _, _, _, _, h => by
    simp only [fdrop] at h
    simp only [occL, List.getElem?_cons_succ]
    exact occL_at x n r h
theorem occL_any (x : Int) : ∀ k : Fo, (occL x k).contains true = decide (x ∈ fvl k)
  | .nil => by simp [occL, fvl]
  | .node _ _ p k r => by
    have h := occL_any x r
    simp only [occL, List.contains_cons, h, fvl, fvs, List.mem_append]
    by_cases e : x ∈ (if p.1 = 0 then [p.2] else fvl k)
    · simp [e]
    · simp [e]

set_option maxRecDepth 100000 in
set_option maxHeartbeats 1000000 in
theorem indexB_any (bs : List Bool) (r : Bool) (g C : Nat) (w : World) (hl : bs.length ≤ 100000) (hc : ∀ i b, bs[i]? = some b → w.cell? ⟨g, i, none⟩ = some (.bool b)) (hr : bs.contains true = r) :
    Calls Try.prog 126 #[.slice (some ⟨g, 0, none⟩) bs.length C, .bool true] w fun e w' => w' = w ∧ ∃ i : Int, e = .returned (.int .i64 i) ∧ decide (i ≥ 0) = r := by
  have HC := Lib.hid hc
  have HR := Lib.hid hr
  clear hc hr
  go_enter Try.func126, Try.ntmps126
  go_wp2_with fail
  go_loopw [8] (fun i wr => ∃ j : Nat, i = .int .i64 j ∧ j ≤ bs.length ∧ wr = w ∧ Hid (bs.contains true = (bs.drop j).contains true)) (fun i _ => bs.length - (intOf i).toNat)
  case atStart => exact ⟨0, rfl, Nat.zero_le _, rfl, by simp [Hid]⟩
  case round =>
    obtain ⟨j, rfl, hj, rfl, HS⟩ := hrel
    by_cases hlt : j < bs.length
    · have hd := List.drop_eq_getElem_cons hlt
      have hcj := HC.out j bs[j] (List.getElem?_eq_getElem hlt)
      have g1 : (0 : Int) ≤ (j : Int) := by omega
      have g2 : (j : Int) < (bs.length : Int) := by omega
      cases hb : bs[j] with
      | true =>
        have HE : Hid (r = true) := by rw [Hid, ← HR.out, HS.out, hd, hb]; simp
        rw [hb] at hcj
        clear hb hd HS
        go_wp2_with fail
        go_ret
        exact ⟨rfl, j, rfl, by rw [HE.out]; exact decide_eq_true (by omega)⟩
      | false =>
        have HE : Hid (bs.contains true = (bs.drop (j + 1)).contains true) := by rw [Hid, HS.out, hd, hb]; simp
        rw [hb] at hcj
        clear hb hd HS
        go_wp2_with fail
        go_roundw
        case rel => exact ⟨j + 1, by go_num, by omega, trivial, HE⟩
        case measure => simp [intOf]; omega
    · have HE : Hid (r = false) := by rw [Hid, ← HR.out, HS.out, List.drop_eq_nil_of_le (by omega)]; rfl
      go_wp2_with fail
      go_ret
      exact ⟨rfl, -1, rfl, by rw [HE.out]; rfl⟩

set_option maxRecDepth 100000 in
theorem anyOf_any (s : Int) (bs : List Bool) (r : Bool) (g C : Nat) (w : World) (hl : bs.length ≤ 100000) (hc : ∀ i b, bs[i]? = some b → w.cell? ⟨g, i, none⟩ = some (.bool b)) (hr : bs.contains true = r) :
    Calls Try.prog 123 #[.int .i64 s, .slice (some ⟨g, 0, none⟩) bs.length C] w fun e w' => e = .returned (.bool r) ∧ w' = w := by
  have HI := Lib.hid (indexB_any bs r g C w hl hc hr)
  clear hc hr
  have HC : Hid (Calls Try.prog 125 #[.slice (some ⟨g, 0, none⟩) bs.length C, .bool true] w fun e w' => e = .returned (.bool r) ∧ w' = w) := by
    unfold Hid
    go_enter Try.func125, Try.ntmps125
    go_wp2_with fail
    with_reducible refine HI.out.mono ?_
    rintro e w1 ⟨rfl, i, rfl, hi⟩
    have hg : decide (i ≥ 0) = r := hi
    clear hi
    go_wp2_with fail
    go_ret
    exact ⟨rfl, rfl⟩
  clear HI
  go_enter Try.func123, Try.ntmps123
  go_wp2_with fail
  with_reducible refine HC.out.mono ?_
  rintro e w1 ⟨rfl, rfl⟩
  go_wp2_with fail
  go_ret
  exact ⟨rfl, rfl⟩

set_option maxRecDepth 100000 in
theorem occLeaf_any (y x : Int) (b : Nat) (w : World) (hb : w.cell? ⟨b, 0, none⟩ = some (.int .i64 x)) :
    Calls Try.prog 122 #[.int .i64 y, .pointer (some ⟨b, 0, none⟩)] w fun e w' => e = .returned (.bool (y == x)) ∧ w' = w := by
  go_enter Try.func122, Try.ntmps122
  go_wp2_with fail
  go_ret
  exact ⟨rfl, rfl⟩

/-- What holds at the head of fold's loop: j kids are done. -/
structure FoB (w : World) (x : Int) (k : Fo) (g j : Nat) (wr : World) : Prop where
  below : Below w.heap.size w wr
  new : w.heap.size ≤ g
  lt : g < wr.heap.size
  row : wr.ownsRow w.heap.size 4 1 (.slice (some ⟨g, 0, none⟩) (flen k) (flen k)) (flen k) (((occL x k).take j ++ List.replicate (flen k - j) false).map Value.bool)
theorem FoB.start {w u : World} {x : Int} {k : Fo} (hb : Below w.heap.size w u) (hk : flen k ≤ 1000) : FoB w x k u.heap.size 0 (u.alloc (.cells (madeCells #[.bool false] (flen k)) 4)) := by
  have hs := hb.size
  refine ⟨hb.alloc hs _, hs, by simp, ?_⟩
  have h := World.ownsRow_lit (base := w.heap.size) (e := 4) (size := 1) u (madeCells #[.bool false] (flen k)) (flen k) hs (by unfold maxLen; omega) (by simp [madeCells])
  rw [toList_madeCells_one] at h
  simpa using h
theorem FoB.step {w wr w2 : World} {x : Int} {k : Fo} {g j a b : Nat} {s v : Int} {kk : Fo} (h : FoB w x k g j wr) (hj : j < flen k) (hd : fdrop j k = .node a b (s, v) kk (fdrop (j + 1) k)) (hb : Below wr.heap.size wr w2) : FoB w x k g (j + 1) (w2.setCell ⟨g, j, none⟩ (.bool (decide (x ∈ fvs s v kk)))) := by
  have hs := hb.size
  have hl := h.lt
  have hnew := h.new
  have hws := h.below.size
  have hown2 := own_low hb h.row
  refine ⟨(h.below.trans (hb.mono hws)).setCell hnew _, hnew, by simp; omega, ?_⟩
  have h2 := (hown2.stored j (.bool (decide (x ∈ fvs s v kk)))).1
  have ho := occL_at x j k hd
  have hol := occL_len x k
  have e : (((occL x k).take j ++ List.replicate (flen k - j) false).map Value.bool).set j (.bool (decide (x ∈ fvs s v kk))) = ((occL x k).take (j + 1) ++ List.replicate (flen k - (j + 1)) false).map Value.bool := by
    rw [← List.map_set]
    congr 1
    rw [List.set_append_right (h := by rw [List.length_take]; omega), List.length_take, show j - min j (occL x k).length = 0 from by omega, List.take_add_one, ho, show flen k - j = (flen k - (j + 1)) + 1 from by omega, List.replicate_succ]
    simp
  rw [e] at h2
  exact h2

set_option maxRecDepth 100000 in
set_option maxHeartbeats 2000000 in
theorem foldB_any (x : Int) (b0 : Nat) (N : Nat) : ∀ (s v : Int) (k : Fo) (nv : Value) (w : World), NodeIs w 0 w.heap.size nv s v k → w.cell? ⟨b0, 0, none⟩ = some (.int .i64 x) → okN s v (flen k) = true → fok k = true → fsz k ≤ N → N ≤ 1000 →
    Calls Try.prog 121 #[nv, .func (.func 122) #[] #[.pointer (some ⟨b0, 0, none⟩)], .func (.func 123) #[] #[]] w fun e w' => e = .returned (.bool (decide (x ∈ fvs s v k))) ∧ Below w.heap.size w w' := by
  induction N using Nat.strongRecOn with
  | _ N ih =>
    intro s v k nv w hn hc hok hfk hN hN2
    have IH := Lib.hid ih
    have HC := Lib.hid hc
    have HN := Lib.hid hn
    have HFK := Lib.hid hfk
    have hfl := flen_le_sz k
    have hta := assert_varV
    have htb := assert_symV
    clear ih hc hfk
    rcases hn with ⟨rfl, rfl, rfl⟩ | ⟨hs, a, c, rfl, hns⟩
    · have HT : Hid ((v == x) = decide (x ∈ fvs 0 v .nil)) := by
        unfold Hid fvs
        by_cases e : v = x
        · simp [e]
        · have : ¬ x = v := fun h => e h.symm
          simp [e, this]
      clear hok
      go_enter Try.func121, Try.ntmps121
      go_wp2_with fail
      with_reducible refine (occLeaf_any v x b0 _ HC.out).mono ?_
      rintro e w1 ⟨rfl, rfl⟩
      go_wp2_with fail
      go_ret
      exact ⟨by rw [← HT.out]; rfl, Below.refl _ _⟩
    · have HT : Hid ((occL x k).contains true = decide (x ∈ fvs s v k)) := by unfold Hid fvs; rw [if_neg hs]; exact occL_any x k
      clear hns hok
      go_enter Try.func121, Try.ntmps121
      go_wp2_with fail
      with_reducible refine (kidsOf_any s v k _ w.heap.size _ HN.out).mono ?_
      rintro e w1 ⟨ak, ck, rfl, hb1, hnk⟩
      have HB1 := Lib.hid hb1
      have HNK := Lib.hid hnk
      have hs1 := hb1.size
      have hmk := run_make_row' (P := Try.prog) 166 4 (.bool false) 1 Try.underlying166 (by kernel_rfl) rfl .i64 .i64 (flen k) (by omega) (by omega)
      have HST := Lib.hid (FoB.start (x := x) hb1 (k := k) (by omega))
      clear hb1 hnk
      go_wp2_with fail
      go_loopw [29] (fun i wr => ∃ j : Nat, i = .int .i64 j ∧ j ≤ flen k ∧ Hid (FoB w x k w1.heap.size j wr)) (fun i _ => flen k - (intOf i).toNat)
      case atStart => exact ⟨0, rfl, Nat.zero_le _, HST⟩
      case round =>
        clear HST
        obtain ⟨j, rfl, hj, HF⟩ := hrel
        have hws := HF.out.below.size
        by_cases hlt : j < flen k
        · have hnr := HNK.out.below HF.out.below
          rcases hnr with rfl | ⟨kb, ko, rfl, hrow⟩
          · simp [flen] at hlt
          obtain ⟨s', v', kk, val, ⟨x', y', hd⟩, _, hbB, hk0, hnk⟩ := nrow_at hrow hlt
          have hkN := fsz_kid hd
          have hkid := fok_kid HFK.out hd
          have HCL := Lib.hid (IH.out (fsz kk) (by omega) s' v' kk val wr (hnk.mono (Nat.le_refl _) hws) (cell_low HF.out.below HC.out) hkid.1 hkid.2 (Nat.le_refl _) (by omega))
          have HD := Lib.hid hd
          have hlw := HF.out.lt
          have HOWN := Lib.hid HF.out.row
          clear hnk hkid hd hrow
          have g1 : (0 : Int) ≤ (j : Int) := by omega
          have g2 : (j : Int) < (flen k : Int) := by omega
          go_wp2_with fail
          with_reducible refine HCL.out.mono ?_
          rintro e w2 ⟨rfl, hb2⟩
          have hown2 := own_low hb2 HOWN.out
          have hvl := hown2.1
          obtain ⟨zv, hz⟩ : ∃ zv, w2.cell? ⟨w1.heap.size, j, none⟩ = some zv := by
            have := hown2.cellAt j (by omega)
            exact ⟨_, this.trans (List.getElem?_eq_getElem (by omega))⟩
          have hf : w2.frozen? ⟨w1.heap.size, j, none⟩ = false := hown2.frozenAt j
          have HF2 := Lib.hid (HF.out.step hlt HD.out hb2)
          clear hb2 hown2 hk0 HCL hvl
          go_wp2_with fail
          go_roundw
          case rel => exact ⟨j + 1, by go_num, by omega, HF2⟩
          case measure => simp [intOf]; omega
        · have hjk : j = flen k := by omega
          subst hjk
          have HBW := Lib.hid HF.out.below
          have hol := occL_len x k
          have hrow := HF.out.row
          rw [List.take_of_length_le (by omega), Nat.sub_self, List.replicate_zero, List.append_nil] at hrow
          have HCE : Hid (∀ i bb, (occL x k)[i]? = some bb → wr.cell? ⟨w1.heap.size, i, none⟩ = some (.bool bb)) := fun i bb hi => by
            have hil := (List.getElem?_eq_some_iff.1 hi).1
            rw [hrow.cellAt i (by omega), List.getElem?_map, hi]; rfl
          have HOL : Hid ((occL x k).length = flen k) := hol
          clear hol hrow
          go_wp2_with fail
          with_reducible refine (signOfS_any s a (flen k) c _).mono ?_
          rintro e w3 ⟨rfl, hb3⟩
          have HB3 := Lib.hid hb3
          have HAC := anyOf_any s (occL x k) (decide (x ∈ fvs s v k)) w1.heap.size (flen k) w3 (by rw [HOL.out]; omega) (fun i bb hi => cell_low hb3 (HCE.out i bb hi)) HT.out
          rw [HOL.out] at HAC
          have HAC2 := Lib.hid HAC
          clear hb3 HAC
          go_wp2_with fail
          with_reducible refine HAC2.out.mono ?_
          rintro e w4 ⟨rfl, rfl⟩
          have HP : Hid (Below w.heap.size w w4) := HBW.out.trans (HB3.out.mono hws)
          clear HAC2
          go_wp2_with fail
          go_ret
          exact ⟨rfl, HP.out⟩

set_option maxRecDepth 100000 in
set_option maxHeartbeats 400000 in
theorem occurs_any (x s v : Int) (k : Fo) (nv : Value) (w : World) (hn : NodeIs w 0 w.heap.size nv s v k) (hok : okN s v (flen k) = true) (hfk : fok k = true) (hN : fsz k ≤ 1000) :
    Calls Try.prog 114 #[.int .i64 x, nv] w fun e w' => e = .returned (.bool (decide (x ∈ fvs s v k))) ∧ Below w.heap.size w w' := by
  have hb : Below w.heap.size w (w.alloc (.cells #[.int .i64 x] 114)) := (Below.refl _ _).alloc (Nat.le_refl _) _
  have HB := Lib.hid hb
  have HC := Lib.hid (foldB_any x w.heap.size 1000 s v k nv (w.alloc (.cells #[.int .i64 x] 114)) ((hn.below hb).mono (Nat.le_refl _) hb.size) (by rw [World.cell?_alloc_at _ _ _ _ (by simp)]; rfl) hok hfk hN (Nat.le_refl _))
  clear hn hok hfk hb
  go_enter Try.func114, Try.ntmps114
  go_wp2_with fail
  with_reducible refine HC.out.mono ?_
  rintro e w1 ⟨rfl, hb1⟩
  have HB1 := Lib.hid (HB.out.trans (hb1.mono (by simp)))
  clear hb1
  go_wp2_with fail
  go_ret
  exact ⟨rfl, HB1.out⟩
end Go.Proofs.Ytpfkhgiiojikbaa

/-! G0: The path order on terms, as plain data: it is transitive and irreflexive. Definitions and plain lemmas. -/
namespace Go.Proofs.Ytpfkhgiiojikbaa

/-- Well-formed terms. -/
inductive Tm
  | var (v : Int)
  | leaf (s : Int)
  | one (t : Tm)
  | two (t u : Tm)

def Tm.size : Tm → Nat
  | .var _ => 1
  | .leaf _ => 1
  | .one t => t.size + 1
  | .two t u => t.size + u.size + 1
def Tm.sign : Tm → Int
  | .var _ => 0
  | .leaf s => s
  | .one _ => 3
  | .two _ _ => 4
def Tm.kids : Tm → List Tm
  | .var _ => []
  | .leaf _ => []
  | .one t => [t]
  | .two t u => [t, u]
theorem Tm.kid_size {s u : Tm} (h : u ∈ s.kids) : u.size < s.size := by
  cases s with
  | var => simp [Tm.kids] at h
  | leaf => simp [Tm.kids] at h
  | one t => simp only [Tm.kids, List.mem_singleton] at h; subst h; simp [Tm.size]
  | two t u' =>
    simp only [Tm.kids, List.mem_cons, List.not_mem_nil, or_false] at h
    rcases h with rfl | rfl <;> simp [Tm.size] <;> omega

variable (rk : Int → Nat)
/-- The path order, by where each sign stands. -/
inductive Gt : Tm → Tm → Prop
  | kid {s t : Tm} : t ∈ s.kids → Gt s t
  | sub {s t u : Tm} : u ∈ s.kids → Gt u t → Gt s t
  | rank {s t : Tm} : s.sign ≠ 0 → t.sign ≠ 0 → s.sign ≠ t.sign → rk s.sign < rk t.sign → (∀ u, u ∈ t.kids → Gt s u) → Gt s t
  | one {a b : Tm} : Gt a b → (∀ u, u ∈ (Tm.one b).kids → Gt (.one a) u) → Gt (.one a) (.one b)
  | fst {a b a' b' : Tm} : Gt a a' → (∀ u, u ∈ (Tm.two a' b').kids → Gt (.two a b) u) → Gt (.two a b) (.two a' b')
  | snd {a b b' : Tm} : Gt b b' → (∀ u, u ∈ (Tm.two a b').kids → Gt (.two a b) u) → Gt (.two a b) (.two a b')

variable {rk}
theorem Gt.trans (N : Nat) : ∀ {s t u : Tm}, s.size + t.size + u.size ≤ N → Gt rk s t → Gt rk t u → Gt rk s u := by
  induction N using Nat.strongRecOn with
  | _ N ih =>
    intro s t u hN h h'
    -- what holds where each argument of t is less than s
    have main : (∀ x, x ∈ t.kids → Gt rk s x) → (∀ y, y ∈ u.kids → Gt rk t y → Gt rk s y) ∧ ∀ x, x ∈ t.kids → Gt rk x u → Gt rk s u := by
      intro hk
      refine ⟨fun y hy hty => ?_, fun x hx hxu => ?_⟩
      · have := Tm.kid_size hy
        exact ih (s.size + t.size + y.size) (by omega) (Nat.le_refl _) h hty
      · have := Tm.kid_size hx
        exact ih (s.size + x.size + u.size) (by omega) (Nat.le_refl _) (hk x hx) hxu
    cases h with
    | kid hm => exact .sub hm h'
    | sub hm hg =>
      have := Tm.kid_size hm
      exact .sub hm (ih _ (by omega) (Nat.le_refl _) hg h')
    | rank h0 h1 hne hr hk =>
      obtain ⟨m1, m2⟩ := main hk
      cases h' with
      | kid hm => exact hk _ hm
      | sub hm hg => exact m2 _ hm hg
      | rank h0' h1' hne' hr' hk' =>
        by_cases e : s.sign = u.sign
        · rw [e] at hr; omega
        · exact .rank h0 h1' e (by omega) fun y hy => m1 y hy (hk' y hy)
      | one hg hk' => exact .rank h0 h1 hne hr fun y hy => m1 y hy (hk' y hy)
      | fst hg hk' => exact .rank h0 h1 hne hr fun y hy => m1 y hy (hk' y hy)
      | snd hg hk' => exact .rank h0 h1 hne hr fun y hy => m1 y hy (hk' y hy)
    | one hg hk =>
      obtain ⟨m1, m2⟩ := main hk
      cases h' with
      | kid hm => exact hk _ hm
      | sub hm hg => exact m2 _ hm hg
      | rank h0' h1' hne' hr' hk' => exact .rank h0' h1' hne' hr' fun y hy => m1 y hy (hk' y hy)
      | one hg' hk' => exact .one (ih _ (by simp [Tm.size] at hN; omega) (Nat.le_refl _) hg hg') fun y hy => m1 y hy (hk' y hy)
    | fst hg hk =>
      obtain ⟨m1, m2⟩ := main hk
      cases h' with
      | kid hm => exact hk _ hm
      | sub hm hg => exact m2 _ hm hg
      | rank h0' h1' hne' hr' hk' => exact .rank h0' h1' hne' hr' fun y hy => m1 y hy (hk' y hy)
      | fst hg' hk' => exact .fst (ih _ (by simp [Tm.size] at hN; omega) (Nat.le_refl _) hg hg') fun y hy => m1 y hy (hk' y hy)
      | snd hg' hk' => exact .fst hg fun y hy => m1 y hy (hk' y hy)
    | snd hg hk =>
      obtain ⟨m1, m2⟩ := main hk
      cases h' with
      | kid hm => exact hk _ hm
      | sub hm hg => exact m2 _ hm hg
      | rank h0' h1' hne' hr' hk' => exact .rank h0' h1' hne' hr' fun y hy => m1 y hy (hk' y hy)
      | fst hg' hk' => exact .fst hg' fun y hy => m1 y hy (hk' y hy)
      | snd hg' hk' => exact .snd (ih _ (by simp [Tm.size] at hN; omega) (Nat.le_refl _) hg hg') fun y hy => m1 y hy (hk' y hy)
theorem Gt.tr {s t u : Tm} (h : Gt rk s t) (h' : Gt rk t u) : Gt rk s u := Gt.trans _ (Nat.le_refl _) h h'
theorem Gt.irrefl (N : Nat) : ∀ {s : Tm}, s.size ≤ N → ¬ Gt rk s s := by
  induction N using Nat.strongRecOn with
  | _ N ih =>
    intro s hN h
    cases h with
    | kid hm => have := Tm.kid_size hm; omega
    | sub hm hg =>
      have := Tm.kid_size hm
      exact ih _ (by omega) (Nat.le_refl _) (hg.tr (.kid hm))
    | rank _ _ hne _ _ => exact hne rfl
    | one hg _ => exact ih _ (by simp [Tm.size] at hN; omega) (Nat.le_refl _) hg
    | fst hg _ => exact ih _ (by simp [Tm.size] at hN; omega) (Nat.le_refl _) hg
    | snd hg _ => exact ih _ (by simp [Tm.size] at hN; omega) (Nat.le_refl _) hg
theorem Gt.ne {s : Tm} : ¬ Gt rk s s := Gt.irrefl _ (Nat.le_refl _)

/-- Some kid is it, or more. -/
def Reach (rk : Int → Nat) (l : List Tm) (t : Tm) : Prop := ∃ u, u ∈ l ∧ (u = t ∨ Gt rk u t)
def All (rk : Int → Nat) (s : Tm) (l : List Tm) : Prop := ∀ u, u ∈ l → Gt rk s u

theorem gt_var {v : Int} {t : Tm} : ¬ Gt rk (.var v) t := by
  intro h
  cases h with
  | kid hm => simp [Tm.kids] at hm
  | sub hm => simp [Tm.kids] at hm
  | rank h0 => exact h0 rfl
theorem gt_before {s t : Tm} (h0 : s.sign ≠ 0) (h1 : t.sign ≠ 0) (hne : s.sign ≠ t.sign) (hr : rk s.sign < rk t.sign) : Gt rk s t ↔ All rk s t.kids :=
  ⟨fun h _ hu => h.tr (.kid hu), fun h => .rank h0 h1 hne hr h⟩
theorem gt_behind {s t : Tm} (hne : s.sign ≠ t.sign) (hr : t.sign = 0 ∨ ¬ rk s.sign < rk t.sign) : Gt rk s t ↔ Reach rk s.kids t := by
  constructor
  · intro h
    cases h with
    | kid hm => exact ⟨_, hm, .inl rfl⟩
    | sub hm hg => exact ⟨_, hm, .inr hg⟩
    | rank _ h1 _ h2 => rcases hr with h | h; exact absurd h h1; exact absurd h2 h
    | one => exact absurd rfl hne
    | fst => exact absurd rfl hne
    | snd => exact absurd rfl hne
  · rintro ⟨u, hu, rfl | h⟩
    · exact .kid hu
    · exact .sub hu h
theorem gt_leaf {s : Int} : ¬ Gt rk (.leaf s) (.leaf s) := Gt.ne
theorem gt_one {a b : Tm} (hne : a ≠ b) : Gt rk (.one a) (.one b) ↔ Gt rk a b := by
  constructor
  · intro h
    cases h with
    | kid hm => simp only [Tm.kids, List.mem_singleton] at hm; subst hm; exact .kid (by simp [Tm.kids])
    | sub hm hg => simp only [Tm.kids, List.mem_singleton] at hm; subst hm; exact hg.tr (.kid (by simp [Tm.kids]))
    | rank _ _ h => exact absurd rfl h
    | one hg => exact hg
  · intro h
    refine .one h fun u hu => ?_
    simp only [Tm.kids, List.mem_singleton] at hu
    subst hu
    exact .sub (by simp [Tm.kids]) h
theorem gt_two_more {a b a' b' : Tm} (h : Gt rk a a') : Gt rk (.two a b) (.two a' b') ↔ Gt rk (.two a b) b' := by
  constructor
  · exact fun h' => h'.tr (.kid (by simp [Tm.kids]))
  · intro h'
    refine .fst h fun u hu => ?_
    simp only [Tm.kids, List.mem_cons, List.not_mem_nil, or_false] at hu
    rcases hu with rfl | rfl
    · exact .sub (by simp [Tm.kids]) h
    · exact h'
theorem gt_two_less {a b a' b' : Tm} (hne : a ≠ a') (h : ¬ Gt rk a a') : Gt rk (.two a b) (.two a' b') ↔ Reach rk [b] (.two a' b') := by
  constructor
  · intro h'
    cases h' with
    | kid hm =>
      simp only [Tm.kids, List.mem_cons, List.not_mem_nil, or_false] at hm
      rcases hm with rfl | rfl
      · exact absurd (.kid (by simp [Tm.kids])) h
      · exact ⟨_, by simp, .inl rfl⟩
    | sub hm hg =>
      simp only [Tm.kids, List.mem_cons, List.not_mem_nil, or_false] at hm
      rcases hm with rfl | rfl
      · exact absurd (hg.tr (.kid (by simp [Tm.kids]))) h
      · exact ⟨_, by simp, .inr hg⟩
    | rank _ _ h' => exact absurd rfl h'
    | fst hg => exact absurd hg h
    | snd => exact absurd rfl hne
  · rintro ⟨u, hu, h'⟩
    simp only [List.mem_singleton] at hu
    subst hu
    rcases h' with rfl | h'
    · exact .kid (by simp [Tm.kids])
    · exact .sub (by simp [Tm.kids]) h'
theorem gt_two_snd {a b b' : Tm} (h : Gt rk b b') : Gt rk (.two a b) (.two a b') := by
  refine .snd h fun u hu => ?_
  simp only [Tm.kids, List.mem_cons, List.not_mem_nil, or_false] at hu
  rcases hu with rfl | rfl
  · exact .kid (by simp [Tm.kids])
  · exact .sub (by simp [Tm.kids]) h
theorem gt_two_not {a b b' : Tm} (hne : b ≠ b') (h : ¬ Gt rk b b') : ¬ Gt rk (.two a b) (.two a b') := by
  intro h'
  have hna : ¬ Gt rk a (.two a b') := fun hg => Gt.ne (hg.tr (.kid (by simp [Tm.kids])))
  cases h' with
  | kid hm =>
    simp only [Tm.kids, List.mem_cons, List.not_mem_nil, or_false] at hm
    rcases hm with hm | hm
    · have := congrArg Tm.size hm; simp [Tm.size] at this; omega
    · rw [← hm] at h; exact h (.kid (by simp [Tm.kids]))
  | sub hm hg =>
    simp only [Tm.kids, List.mem_cons, List.not_mem_nil, or_false] at hm
    rcases hm with rfl | rfl
    · exact hna hg
    · exact h (hg.tr (.kid (by simp [Tm.kids])))
  | rank _ _ h' => exact absurd rfl h'
  | fst hg => exact Gt.ne hg
  | snd hg => exact h hg
end Go.Proofs.Ytpfkhgiiojikbaa

/-! G1: Terms in memory as terms of the order. Plain lemmas. -/
namespace Go.Proofs.Ytpfkhgiiojikbaa
open Go.RowKit Go.Deep

def tm1 (s v : Int) (ks : List Tm) : Tm := if s = 0 then .var v else match ks with
  | [] => .leaf s
  | [t] => .one t
  | t :: u :: _ => .two t u
def ftm : Fo → List Tm
  | .nil => []
  | .node _ _ p k r => tm1 p.1 p.2 (ftm k) :: ftm r
def tmOf (s v : Int) (k : Fo) : Tm := tm1 s v (ftm k)

theorem tm_var {v : Int} : tmOf 0 v .nil = .var v := rfl
theorem tm_leaf {s : Int} (h : s = 1 ∨ s = 2) : tmOf s 0 .nil = .leaf s := by rcases h with rfl | rfl <;> rfl
theorem tm_one {x y : Nat} {p : Int × Int} {k : Fo} : tmOf 3 0 (.node x y p k .nil) = .one (tmOf p.1 p.2 k) := rfl
theorem tm_two {x y : Nat} {p : Int × Int} {k : Fo} {x' y' : Nat} {p' : Int × Int} {k' : Fo} : tmOf 4 0 (.node x y p k (.node x' y' p' k' .nil)) = .two (tmOf p.1 p.2 k) (tmOf p'.1 p'.2 k') := rfl
theorem tm_sign {s v : Int} {k : Fo} (h : Shape s v k) : (tmOf s v k).sign = s := by
  cases h with
  | var => rfl
  | leaf _ hs => rw [tm_leaf hs]; rfl
  | one => rfl
  | two => rfl
theorem tm_kids {s v : Int} {k : Fo} (h : Shape s v k) : (tmOf s v k).kids = ftm k := by
  cases h with
  | var => rfl
  | leaf _ hs => rw [tm_leaf hs]; rfl
  | one => rfl
  | two => rfl
theorem ftm_len : ∀ k : Fo, (ftm k).length = flen k
  | .nil => rfl
  | .node _ _ _ _ r => by simp [ftm, flen, ftm_len r]
theorem ftm_at : ∀ (j : Nat) (k : Fo) {x y : Nat} {s v : Int} {kk r : Fo}, fdrop j k = .node x y (s, v) kk r → (ftm k)[j]? = some (tmOf s v kk)
  | 0, .nil, _, _, _, _, _, _, h => by simp [fdrop] at h
  | 0, .node _ _ p k r, x, y, s, v, kk, r', h => by
    simp only [fdrop, BT.node.injEq] at h
    obtain ⟨_, _, rfl, rfl, _⟩ := h
    rfl
  | _ + 1, .nil, _, _, _, _, _, _, h => by simp [fdrop] at h
  | n + 1, .node _ _ _ _ r, _, _, _, _, _, _, h => by
    simp only [fdrop] at h
    simpa [ftm] using ftm_at n r h
theorem ftm_drop : ∀ (j : Nat) (k : Fo), ftm (fdrop j k) = (ftm k).drop j
  | 0, _ => rfl
  | _ + 1, .nil => by simp [fdrop, ftm]
  | n + 1, .node _ _ _ _ r => by simp [fdrop, ftm, ftm_drop n r]
theorem ftm_fer : ∀ k : Fo, ftm (fer k) = ftm k
  | .nil => rfl
  | .node _ _ p k r => by simp only [fer, ftm, ftm_fer k, ftm_fer r]
theorem tm_inj (N : Nat) : ∀ {s v : Int} {k : Fo} {s' v' : Int} {k' : Fo}, Shape s v k → Shape s' v' k' → fsz k ≤ N → tmOf s v k = tmOf s' v' k' → s = s' ∧ v = v' ∧ fer k = fer k' := by
  induction N using Nat.strongRecOn with
  | _ N ih =>
    intro s v k s' v' k' h h' hN he
    have hs := congrArg Tm.sign he
    rw [tm_sign h, tm_sign h'] at hs
    subst hs
    cases h with
    | var =>
      cases h' with
      | var => exact ⟨rfl, by simpa [tm_var] using he, rfl⟩
      | leaf _ hs => rcases hs with h | h <;> omega
    | leaf _ hs =>
      cases h' with
      | var => rcases hs with h | h <;> omega
      | leaf => exact ⟨rfl, rfl, rfl⟩
      | one => rcases hs with h | h <;> omega
      | two => rcases hs with h | h <;> omega
    | one x y p k ho hk =>
      cases h' with
      | leaf _ hs => rcases hs with h | h <;> omega
      | one x' y' p' k' ho' hk' =>
        rw [tm_one, tm_one] at he
        obtain ⟨e1, e2, e3⟩ := ih (fsz k) (by simp [fsz] at hN; omega) (shape_of ho hk) (shape_of ho' hk') (Nat.le_refl _) (Tm.one.inj he)
        exact ⟨rfl, rfl, by simp only [fer]; rw [e3, Prod.ext e1 e2]⟩
    | two x y p k x2 y2 p2 k2 ho hk ho2 hk2 =>
      cases h' with
      | leaf _ hs => rcases hs with h | h <;> omega
      | two x' y' p' k' x2' y2' p2' k2' ho' hk' ho2' hk2' =>
        rw [tm_two, tm_two] at he
        obtain ⟨he1, he2⟩ := Tm.two.inj he
        simp only [fsz] at hN
        obtain ⟨e1, e2, e3⟩ := ih (fsz k) (by omega) (shape_of ho hk) (shape_of ho' hk') (Nat.le_refl _) he1
        obtain ⟨f1, f2, f3⟩ := ih (fsz k2) (by omega) (shape_of ho2 hk2) (shape_of ho2' hk2') (Nat.le_refl _) he2
        exact ⟨rfl, rfl, by simp only [fer]; rw [e3, Prod.ext e1 e2, f3, Prod.ext f1 f2]⟩
theorem tm_teq {s v : Int} {k : Fo} {s' v' : Int} {k' : Fo} (h : Shape s v k) (h' : Shape s' v' k') : teq s v k s' v' k' = true ↔ tmOf s v k = tmOf s' v' k' := by
  constructor
  · intro he
    obtain ⟨rfl, rfl, hf⟩ := teq_iff.1 he
    unfold tmOf
    rw [← ftm_fer k, hf, ftm_fer k']
  · exact fun he => teq_iff.2 (tm_inj _ h h' (Nat.le_refl _) he)
theorem shape_kid {k : Fo} {j x y : Nat} {s' v' : Int} {kk r : Fo} (h : fok k = true) (hd : fdrop j k = .node x y (s', v') kk r) : Shape s' v' kk := by
  have := fok_kid h hd
  exact shape_of this.1 this.2
theorem tm_size {s v : Int} {k : Fo} (N : Nat) : Shape s v k → fsz k ≤ N → (tmOf s v k).size = 1 + fsz k := by
  induction N using Nat.strongRecOn generalizing s v k with
  | _ N ih =>
    intro h hN
    cases h with
    | var => rfl
    | leaf _ hs => rw [tm_leaf hs]; rfl
    | one x y p k ho hk =>
      simp only [fsz] at hN
      rw [tm_one, Tm.size, ih (fsz k) (by omega) (shape_of ho hk) (Nat.le_refl _)]
      simp only [fsz]; omega
    | two x y p k x2 y2 p2 k2 ho hk ho2 hk2 =>
      simp only [fsz] at hN
      rw [tm_two, Tm.size, ih (fsz k) (by omega) (shape_of ho hk) (Nat.le_refl _), ih (fsz k2) (by omega) (shape_of ho2 hk2) (Nat.le_refl _)]
      simp only [fsz]; omega
end Go.Proofs.Ytpfkhgiiojikbaa

/-! SHt: The contracts of strconv.Itoa and strings.Builder at this program. -/
namespace Go.Proofs
open Go.Shelf
def Try.lays171_ren : Go.Shelf.Ren := ⟨fun | 171 => 145 | 243 => 146 | 246 => 147 | 283 => 148 | 284 => 149 | 285 => 150 | 286 => 151 | 129 => 113 | 317 => 152 | 318 => 153 | 319 => 154 | 320 => 155 | 337 => 156 | 338 => 157 | n => n, fun | 3 => 3 | 9 => 9 | 2 => 2 | 4 => 4 | 171 => 184 | 0 => 0 | 53 => 152 | 37 => 22 | 5 => 5 | 173 => 186 | 212 => 189 | 51 => 150 | 20 => 20 | 213 => 190 | 46 => 134 | 232 => 191 | 233 => 192 | n => n, fun | 17 => 0 | 18 => 1 | 19 => 2 | n => n⟩
theorem Try.lays171 : Go.Proofs.Lays.n171 Try.prog Try.lays171_ren := {
  mixed := by kernel_rfl
  f129 := Try.func113.trans (congrArg some (by kernel_rfl))
  f171 := Try.func145.trans (congrArg some (by kernel_rfl))
  f243 := Try.func146.trans (congrArg some (by kernel_rfl))
  f246 := Try.func147.trans (congrArg some (by kernel_rfl))
  f283 := Try.func148.trans (congrArg some (by kernel_rfl))
  f284 := Try.func149.trans (congrArg some (by kernel_rfl))
  f285 := Try.func150.trans (congrArg some (by kernel_rfl))
  f286 := Try.func151.trans (congrArg some (by kernel_rfl))
  f317 := Try.func152.trans (congrArg some (by kernel_rfl))
  f318 := Try.func153.trans (congrArg some (by kernel_rfl))
  f319 := Try.func154.trans (congrArg some (by kernel_rfl))
  f320 := Try.func155.trans (congrArg some (by kernel_rfl))
  f337 := Try.func156.trans (congrArg some (by kernel_rfl))
  f338 := Try.func157.trans (congrArg some (by kernel_rfl))
  t0 := Try.underlying0
  a0 := Try.isAgg0
  z0 := Try.sizeOf0
  v0 := Try.zeroValue0
  t2 := Try.underlying2
  a2 := Try.isAgg2
  z2 := Try.sizeOf2
  v2 := Try.zeroValue2
  t3 := Try.underlying3
  a3 := Try.isAgg3
  z3 := Try.sizeOf3
  v3 := Try.zeroValue3
  t4 := Try.underlying4
  a4 := Try.isAgg4
  z4 := Try.sizeOf4
  v4 := Try.zeroValue4
  t5 := Try.underlying5
  a5 := Try.isAgg5
  z5 := Try.sizeOf5
  v5 := Try.zeroValue5
  t9 := Try.underlying9
  a9 := Try.isAgg9
  z9 := Try.sizeOf9
  v9 := Try.zeroValue9
  t20 := Try.underlying20
  a20 := Try.isAgg20
  z20 := Try.sizeOf20
  v20 := Try.zeroValue20
  t37 := Try.underlying22
  a37 := Try.isAgg22
  z37 := Try.sizeOf22
  v37 := Try.zeroValue22
  t46 := Try.underlying134
  a46 := Try.isAgg134
  z46 := Try.sizeOf134
  v46 := Try.zeroValue134
  t51 := Try.underlying150
  a51 := Try.isAgg150
  z51 := Try.sizeOf150
  v51 := Try.zeroValue150
  t53 := Try.underlying152
  a53 := Try.isAgg152
  z53 := Try.sizeOf152
  v53 := Try.zeroValue152
  t171 := Try.underlying184
  a171 := Try.isAgg184
  z171 := Try.sizeOf184
  v171 := Try.zeroValue184
  t173 := Try.underlying186
  a173 := Try.isAgg186
  z173 := Try.sizeOf186
  v173 := Try.zeroValue186
  t212 := Try.underlying189
  a212 := Try.isAgg189
  z212 := Try.sizeOf189
  v212 := Try.zeroValue189
  t213 := Try.underlying190
  a213 := Try.isAgg190
  z213 := Try.sizeOf190
  t232 := Try.underlying191
  a232 := Try.isAgg191
  z232 := Try.sizeOf191
  v232 := Try.zeroValue191
  t233 := Try.underlying192
  a233 := Try.isAgg192
  z233 := Try.sizeOf192
  v233 := Try.zeroValue192
  g17 := by kernel_rfl
  g18 := by kernel_rfl
  g19 := by kernel_rfl }
def Try.lays156_ren : Go.Shelf.Ren := ⟨fun | 156 => 161 | 165 => 162 | 166 => 163 | 169 => 164 | 240 => 165 | 241 => 166 | 276 => 167 | 277 => 168 | n => n, fun | 31 => 193 | 9 => 9 | 3 => 3 | 4 => 4 | 0 => 0 | 20 => 20 | 72 => 197 | 76 => 201 | 70 => 195 | 37 => 22 | 75 => 200 | 127 => 177 | 164 => 203 | 5 => 5 | 80 => 139 | n => n, fun | n => n⟩
theorem Try.lays156 : Go.Proofs.Lays.n156 Try.prog Try.lays156_ren := {
  mixed := by kernel_rfl
  f156 := Try.func161.trans (congrArg some (by kernel_rfl))
  f165 := Try.func162.trans (congrArg some (by kernel_rfl))
  f166 := Try.func163.trans (congrArg some (by kernel_rfl))
  f169 := Try.func164.trans (congrArg some (by kernel_rfl))
  f240 := Try.func165.trans (congrArg some (by kernel_rfl))
  f241 := Try.func166.trans (congrArg some (by kernel_rfl))
  f276 := Try.func167.trans (congrArg some (by kernel_rfl))
  f277 := Try.func168.trans (congrArg some (by kernel_rfl))
  t0 := Try.underlying0
  a0 := Try.isAgg0
  z0 := Try.sizeOf0
  v0 := Try.zeroValue0
  t3 := Try.underlying3
  a3 := Try.isAgg3
  z3 := Try.sizeOf3
  v3 := Try.zeroValue3
  t4 := Try.underlying4
  a4 := Try.isAgg4
  z4 := Try.sizeOf4
  v4 := Try.zeroValue4
  t9 := Try.underlying9
  a9 := Try.isAgg9
  z9 := Try.sizeOf9
  v9 := Try.zeroValue9
  t20 := Try.underlying20
  a20 := Try.isAgg20
  z20 := Try.sizeOf20
  v20 := Try.zeroValue20
  t31 := Try.underlying193
  a31 := Try.isAgg193
  z31 := Try.sizeOf193
  v31 := Try.zeroValue193
  t37 := Try.underlying22
  a37 := Try.isAgg22
  z37 := Try.sizeOf22
  v37 := Try.zeroValue22
  t70 := Try.underlying195
  a70 := Try.isAgg195
  z70 := Try.sizeOf195
  v70 := Try.zeroValue195
  t72 := Try.underlying197
  a72 := Try.isAgg197
  z72 := Try.sizeOf197
  v72 := Try.zeroValue197
  t75 := Try.underlying200
  a75 := Try.isAgg200
  z75 := Try.sizeOf200
  v75 := Try.zeroValue200
  t76 := Try.underlying201
  a76 := Try.isAgg201
  z76 := Try.sizeOf201
  v76 := Try.zeroValue201
  t127 := Try.underlying177
  a127 := Try.isAgg177
  z127 := Try.sizeOf177
  v127 := Try.zeroValue177
  t164 := Try.underlying203
  a164 := Try.isAgg203
  z164 := Try.sizeOf203
  v164 := Try.zeroValue203 }
end Go.Proofs
