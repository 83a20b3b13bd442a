/- Several texts in one: T1, OK0, G2, MJ. -/
import Derived.Test.YtdkcbbhkoibplaaKLm8
import Derived.Test.YtdkcbbhkoibplaaKLm2
import Derived.Test.YtdkcbbhkoibplaaKLm7
import Derived.Test.YtdkcbbhkoibplaaKLm3
import Derived.Test.YtdkcbbhkoibplaaKLm12
import Derived.Shelf.Strconv.Itoa3
import Derived.Shelf.Strings.OnBuilder
import Derived.Ground.NamesProg
import Derived.Test.YtdkcbbhkoibplaaKLm4
import Derived.Lib.Slices
import Derived.Test.YtdkcbbhkoibplaaKLm6

/-! T1: The text of a node, and TermText of the program. -/
namespace Go.Proofs
open Go.Shelf
theorem Try.builderExtra156 : Builder.Extra Try.prog Try.lays156_ren where
  sizeBuilder := by kernel_rfl
  liesBuilder := by kernel_rfl
  t5 := Try.underlying5
  a5 := Try.isAgg5
  z5 := Try.sizeOf5
  v5 := Try.zeroValue5
  infoByte := by kernel_rfl
  cellsByte := by kernel_rfl
  sizeByte := by kernel_rfl
  neB5 := by decide
end Go.Proofs

namespace Go.Proofs.Ytdkcbbhkoibplaa
open Go.RowKit Go.Deep

theorem itoa_any (v : Int) (h0 : 0 ≤ v) (h1 : v < 100) (w : World) :
    Calls Try.prog 144 #[.int .i64 v] w fun e w' => e = .returned (.string (str (Lib.decDigits v.toNat))) ∧ w' = w := by
  obtain ⟨n, rfl⟩ := Int.eq_ofNat_of_zero_le h0
  exact Any.strconv_Itoa_small Try.lays171 n (by omega) w

set_option maxHeartbeats 400000 in
theorem varText_any (v : Int) (h0 : 0 ≤ v) (h1 : v < 100) (w : World) :
    Calls Try.prog 143 #[.int .i64 v] w fun e w' => e = .returned (.string (str (120 :: Lib.decDigits v.toNat))) ∧ w' = w := by
  have hz : (str (Lib.decDigits v.toNat)).size ≤ 2 := by rw [str_size]; exact dec_len (by omega)
  go_enter Try.func143, Try.ntmps143
  go_wp2_with fail
  with_reducible refine (itoa_any v h0 h1 _).mono ?_
  rintro e w2 ⟨rfl, rfl⟩
  go_wp2_with fail
  go_ret
  exact ⟨by rw [show (120 :: Lib.decDigits v.toNat) = [120] ++ Lib.decDigits v.toNat from rfl, ← str_add]; rfl, rfl⟩

theorem join_any (ks : List (List UInt8)) (bk n c : Nat) (w : World) (hnk : n = ks.length) (hcells : ∀ (j : Nat) l, ks[j]? = some l → w.cell? ⟨bk, j, none⟩ = some (.string (str l))) (hbk : bk < w.heap.size) (hn : ks.length ≤ 1000) (hc : ks.length ≤ c) (hl : lens ks ≤ 1000000) :
    Calls Try.prog 161 #[.slice (some ⟨bk, 0, none⟩) n c, .string ⟨#[44]⟩] w fun e w' => e = .returned (.string (str (Lib.join ks [44]))) ∧ Below w.heap.size w w' := by
  subst hnk
  have hm : (ks.map str).map (·.data.toList) = ks := by
    rw [List.map_map]
    exact (List.map_congr_left fun x _ => by simp [str]).trans (List.map_id ks)
  have hj := join_len ks
  have := Any.strings_Join Try.lays156 Try.builderExtra156 bk 0 c (ks.map str) ⟨#[44]⟩ w (fun j x hx => by
    rw [List.getElem?_map] at hx
    cases hk : ks[j]? with
    | none => rw [hk] at hx; cases hx
    | some l => rw [hk] at hx; obtain rfl := Option.some.inj hx; rw [Nat.zero_add]; exact hcells j l hk) hbk (by rw [List.length_map]; omega) (by rw [List.length_map]; exact hc) (by rw [hm]; show (Lib.join ks [44]).length ≤ _; omega)
  rw [hm, List.length_map] at this
  exact this

theorem Try.infoS : ∃ i, Try.prog.info? 9 = some i ∧ i.zero = some (.string ⟨#[]⟩) ∧ i.size = 1 ∧ i.bytes = 16 := by
  have h : (Try.prog.info? 9).map (fun i => (i.zero, i.size, i.bytes)) = some (some (.string ⟨#[]⟩), 1, 16) := by kernel_rfl
  obtain ⟨i, hi, hz⟩ := Option.map_eq_some_iff.1 h
  simp only [Prod.mk.injEq] at hz
  exact ⟨i, hi, hz.1, hz.2.1, hz.2.2⟩
theorem make_strs (n : Nat) (hn : n ≤ 1048576) (w : World) :
    (Instr.makeSlice 229 (.int .i64 (n : Int)) (.int .i64 (n : Int))).run Try.prog w = .ok (.slice (some ⟨w.heap.size, 0, none⟩) n n) (w.alloc (.cells (madeCells #[.string ⟨#[]⟩] n) 9)) := by
  obtain ⟨i, hi, hz, hs, hb⟩ := Try.infoS
  have := run_make (P := Try.prog) w 229 9 i _ Try.underlying229 hi hz .i64 .i64 (n : Int) (n : Int) (by omega) (by omega) (by rw [hb]; omega) (by omega)
  rw [hs] at this
  simpa [Value.cells] using this
theorem strs_made (w : World) (n : Nat) (hn : n ≤ 1048576) : (w.alloc (.cells (madeCells #[.string ⟨#[]⟩] n) 9)).ownsRow w.heap.size 9 1 (.slice (some ⟨w.heap.size, 0, none⟩) n n) n ((List.replicate n []).map fun l => Value.string (str l)) := by
  refine ⟨by simp, .inr ⟨w.heap.size, n, madeCells #[.string ⟨#[]⟩] n, rfl, Nat.le_refl _, heap_alloc_new _ _, Nat.le_refl _, by unfold maxLen; omega, by simp [size_madeCells], ?_⟩⟩
  rw [toList_madeCells_one, List.map_replicate, List.take_of_length_le (by simp)]
  rfl
theorem sign_slice1 (w : World) : (Instr.slice 9 (.string ⟨#[97, 98, 103, 102]⟩) (some (.int .i64 0)) (some (.int .i64 1)) none).run Try.prog w = .ok (.string (str [97])) w := by kernel_rfl
theorem sign_slice2 (w : World) : (Instr.slice 9 (.string ⟨#[97, 98, 103, 102]⟩) (some (.int .i64 1)) (some (.int .i64 2)) none).run Try.prog w = .ok (.string (str [98])) w := by kernel_rfl
theorem sign_slice3 (w : World) : (Instr.slice 9 (.string ⟨#[97, 98, 103, 102]⟩) (some (.int .i64 2)) (some (.int .i64 3)) none).run Try.prog w = .ok (.string (str [103])) w := by kernel_rfl
theorem sign_slice4 (w : World) : (Instr.slice 9 (.string ⟨#[97, 98, 103, 102]⟩) (some (.int .i64 3)) (some (.int .i64 4)) none).run Try.prog w = .ok (.string (str [102])) w := by kernel_rfl
theorem sign_slice {s : Int} (h0 : 1 ≤ s) (h1 : s ≤ 4) (w : World) :
    (Instr.slice 9 (.string ⟨#[97, 98, 103, 102]⟩) (some (.int .i64 (s - 1))) (some (.int .i64 s)) none).run Try.prog w = .ok (.string (str (ltr s))) w := by
  have : s = 1 ∨ s = 2 ∨ s = 3 ∨ s = 4 := by omega
  rcases this with rfl | rfl | rfl | rfl
  · exact sign_slice1 w
  · exact sign_slice2 w
  · exact sign_slice3 w
  · exact sign_slice4 w
theorem cell_lowT {W w2 : World} {q : Addr} {x : Value} (hb : Below W.heap.size W w2) (h : W.cell? q = some x) : w2.cell? q = some x := by
  rw [hb.cell (World.block_lt_of_cell? _ _ h)]; exact h
theorem okN_signs {s v : Int} {n : Nat} (hs : s ≠ 0) (h : okN s v n = true) : 1 ≤ s ∧ s ≤ 4 := by
  have h' := ((okN_iff _ _ _).1 h).1
  unfold ar at h'
  split at h'
  · omega
  · split at h'
    · omega
    · split at h' <;> omega

set_option maxRecDepth 100000 in
set_option maxHeartbeats 1000000 in
theorem symText_any (N : Nat) : ∀ (s : Int) (a : Option Addr) (c : Nat) (k : Fo) (w : World), NSl w 0 w.heap.size a k → s ≠ 0 → okN s 0 (flen k) = true → fok k = true → fsz k ≤ N → N ≤ 1000 →
    Calls Try.prog 160 #[.agg #[.int .i64 s, .slice a (flen k) c]] w fun e w' => e = .returned (.string (str (tx s 0 k))) ∧ Below w.heap.size w w' := by
  induction N using Nat.strongRecOn with
  | _ N ih =>
    intro s a c k w hl hs hokN hok hN hN2
    have hfl := flen_le_sz k
    obtain ⟨hs1, hs4⟩ := okN_signs hs hokN
    have hsl := fun w => sign_slice hs1 hs4 w
    have hshort := fts_short k hok
    have hjl := join_len (fts k)
    have hfl2 := fts_len k
    have hll := ltr_len s
    have HOK := Lib.hid hok
    have HSH := Lib.hid hshort
    have IH := Lib.hid ih
    have HS := Lib.hid hs
    have hz1 : (str (ltr s)).size = 1 := by rw [str_size]; exact hll
    have hz2 : (str (Lib.join (fts k) [44])).size ≤ 100000 := by rw [str_size]; omega
    have hz3 : (str (ltr s ++ [40])).size = 2 := by rw [str_size]; simp [hll]
    have hz4 : (str ((ltr s ++ [40]) ++ Lib.join (fts k) [44])).size ≤ 100002 := by rw [str_size] at hz2 ⊢; simp [hll]; omega
    have HJ1 : Hid (str (ltr s) ++ ⟨#[40]⟩ = str (ltr s ++ [40])) := (str_add _ [40])
    have HJ2 : Hid (str (ltr s ++ [40]) ++ str (Lib.join (fts k) [44]) = str ((ltr s ++ [40]) ++ Lib.join (fts k) [44])) := (str_add _ _)
    have HJ3 : Hid (str ((ltr s ++ [40]) ++ Lib.join (fts k) [44]) ++ ⟨#[41]⟩ = str (((ltr s ++ [40]) ++ Lib.join (fts k) [44]) ++ [41])) := (str_add _ [41])
    clear ih hok hshort hjl hll hs hokN
    by_cases hk0 : flen k = 0
    · have HT := Lib.hid (tx_leaf (v := 0) HS.out hk0)
      have ek : ((flen k : Int) == 0) = true := by simp [hk0]
      clear hl hfl hN hfl2 hk0
      go_enter Try.func160, Try.ntmps160
      go_wp2_with fail
      go_ret
      exact ⟨by rw [HT.out]; rfl, (Below.refl _ _).alloc (Nat.le_refl _) _⟩
    · have HT := Lib.hid (tx_kids (v := 0) HS.out hk0)
      have ek : ((flen k : Int) == 0) = false := by simp; omega
      have hmk := make_strs (flen k) (by omega)
      have HST := Lib.hid (strs_made (w.alloc (.cells #[.int .i64 s, .slice a (flen k) c] 165)) (flen k) (by omega))
      go_enter Try.func160, Try.ntmps160
      go_wp2_with fail
      clear hmk
      go_loopw [25] (fun i wr => ∃ (j : Nat) (ys : List (List UInt8)), j ≤ flen k ∧ i = .int .i64 j ∧ Hid (ys.length = flen k ∧ ∀ q, q < j → ys[q]? = (fts k)[q]?) ∧ Hid (wr.ownsRow (w.heap.size + 1) 9 1 (.slice (some ⟨w.heap.size + 1, 0, none⟩) (flen k) (flen k)) (flen k) (ys.map fun l => Value.string (str l))) ∧ Below (w.heap.size + 1) (w.alloc (.cells #[.int .i64 s, .slice a (flen k) c] 165)) wr) (fun i _ => flen k - (intOf i).toNat)
      case atStart => exact ⟨0, List.replicate (flen k) [], by omega, rfl, ⟨by simp, fun q hq => by omega⟩, by simpa [Hid] using HST.out, (Below.refl _ _).alloc (by simp) _⟩
      case round =>
        clear HST
        obtain ⟨j, ys, hj, rfl, hys, hown, hbl⟩ := hrel
        have hsr := hbl.size
        simp at hsr
        by_cases hlt : j < flen k
        · rcases hl with rfl | ⟨b, o, rfl, hrow⟩
          · simp [flen] at hlt
          obtain ⟨s', v', kk, val, ⟨x, y, hd⟩, _, hbB, hkc, hn⟩ := nrow_at (hrow.below (after_top hbl)) hlt
          have hkN := fsz_kid hd
          have hkok := fok_kid HOK.out hd
          have HAT := Lib.hid (fts_at j k hd)
          have HBL := Lib.hid hbl
          have g1 : (0 : Int) ≤ (j : Int) := by omega
          have g2 : (j : Int) < (flen k : Int) := by omega
          clear hd hrow hbl hsl hz1 hz2 hz3 hz4
          have hcl : ∃ u, wr.cell? ⟨w.heap.size + 1, j, none⟩ = some u := by
            rw [hown.out.cellAt j (by omega)]
            exact ⟨_, List.getElem?_eq_getElem (by simp [hys.out.1, hlt])⟩
          have hfz := hown.out.frozenAt j
          have HFIN : Hid (∀ w2 : World, Below wr.heap.size wr w2 → (∃ u, w2.cell? ⟨w.heap.size + 1, j, none⟩ = some u) ∧ w2.frozen? ⟨w.heap.size + 1, j, none⟩ = false ∧ (∃ ys' : List (List UInt8), Hid (ys'.length = flen k ∧ ∀ q, q < j + 1 → ys'[q]? = (fts k)[q]?) ∧ Hid ((w2.setCell ⟨w.heap.size + 1, j, none⟩ (.string (str (tx s' v' kk)))).ownsRow (w.heap.size + 1) 9 1 (.slice (some ⟨w.heap.size + 1, 0, none⟩) (flen k) (flen k)) (flen k) (ys'.map fun l => Value.string (str l)))) ∧ Below (w.heap.size + 1) (w.alloc (.cells #[.int .i64 s, .slice (some ⟨b, o, none⟩) (flen k) c] 165)) (w2.setCell ⟨w.heap.size + 1, j, none⟩ (.string (str (tx s' v' kk))))) := by
            intro w2 hb2
            have hown2 := own_low hb2 hown.out
            obtain ⟨u, hcl⟩ := hcl
            refine ⟨⟨u, cell_lowT hb2 hcl⟩, hown2.frozenAt j, ⟨ys.set j (tx s' v' kk), ?_, ?_⟩, (HBL.out.trans (hb2.mono hsr)).setCell (by simp) _⟩
            · refine ⟨by rw [List.length_set]; exact hys.out.1, fun q hq => ?_⟩
              by_cases e : q = j
              · subst e
                rw [List.getElem?_set_self (by rw [hys.out.1]; exact hlt), HAT.out]
              · rw [List.getElem?_set_ne (fun h => e h.symm)]
                exact hys.out.2 q (by omega)
            · obtain ⟨hst, _⟩ := hown2.stored j (.string (str (tx s' v' kk)))
              unfold Hid
              rw [List.map_set]
              exact hst
          clear hown hys hcl hfz HAT
          rcases hn with ⟨rfl, rfl, rfl⟩ | ⟨hs', a2, c2, rfl, hn2⟩
          · have hv := ((okN_iff _ _ _).1 hkok.1).2.1 rfl
            clear hkok
            go_wp2_with fail
            refine upon_method 143 (by kernel_rfl) (by kernel_rfl) ?_
            go_simp
            with_reducible refine (varText_any v' hv.1 (by omega) _).mono ?_
            rintro e w2 ⟨rfl, rfl⟩
            obtain ⟨⟨u, hcl⟩, hfz, ⟨ys', hys', hown'⟩, hbl'⟩ := HFIN.out w2 (Below.refl _ _)
            rw [tx_var] at hown' hbl'
            have HBL' := Lib.hid hbl'
            clear HFIN hbl'
            go_wp2_with fail
            go_roundw
            case rel => exact ⟨j + 1, ys', by omega, by go_num, hys', hown', HBL'.out⟩
            case measure => simp [intOf]; omega
          · have hv0 : v' = 0 := ((okN_iff _ _ _).1 hkok.1).2.2 hs'
            subst hv0
            have HKO := Lib.hid hkok
            have HN2 := Lib.hid hn2
            have HS' := Lib.hid hs'
            clear hn2 hkok hs'
            go_wp2_with fail
            refine upon_method 160 (by kernel_rfl) (by kernel_rfl) ?_
            go_simp
            with_reducible refine (IH.out (fsz kk) (by omega) s' a2 c2 kk _ ?_ HS'.out HKO.out.1 HKO.out.2 (Nat.le_refl _) (by omega)).mono ?_
            · exact HN2.out.mono (Nat.le_refl _) (by omega)
            rintro e w2 ⟨rfl, hb2⟩
            obtain ⟨⟨u, hcl⟩, hfz, ⟨ys', hys', hown'⟩, hbl'⟩ := HFIN.out w2 hb2
            have HBL' := Lib.hid hbl'
            clear HFIN hbl' hb2
            go_wp2_with fail
            go_roundw
            case rel => exact ⟨j + 1, ys', by omega, by go_num, hys', hown', HBL'.out⟩
            case measure => simp [intOf]; omega
        · have hje : j = flen k := by omega
          subst hje
          have HE : Hid (ys = fts k) := by
            refine List.ext_getElem? fun q => ?_
            by_cases hq : q < flen k
            · exact hys.out.2 q hq
            · rw [List.getElem?_eq_none (by rw [hys.out.1]; omega), List.getElem?_eq_none (by rw [fts_len]; omega)]
          have HCE : Hid (∀ (q : Nat) l, (fts k)[q]? = some l → wr.cell? ⟨w.heap.size + 1, q, none⟩ = some (.string (str l))) := fun q l hql => by
            have hq := (List.getElem?_eq_some_iff.1 hql).1
            rw [hown.out.cellAt q (by rw [fts_len] at hq; omega), HE.out, List.getElem?_map, hql]
            rfl
          have hgl : w.heap.size + 1 < wr.heap.size := by
            rcases hown.out.2 with ⟨h, _⟩ | ⟨g, cap, cur, hv, _, hg, _⟩
            · cases h
            · simp only [Value.slice.injEq, Option.some.injEq, Addr.mk.injEq] at hv
              obtain ⟨⟨rfl, _⟩, _⟩ := hv
              exact (Array.getElem?_eq_some_iff.1 hg).1
          have HBL := Lib.hid hbl
          clear hys hown hbl
          go_wp2_with fail
          rw [HJ1.out]
          go_wp2_with fail
          with_reducible refine (join_any (fts k) (w.heap.size + 1) (flen k) (flen k) _ hfl2.symm HCE.out hgl (by omega) (by omega) ?_).mono ?_
          · have := HSH.out; omega
          rintro e w2 ⟨rfl, hb2⟩
          have HB2 := Lib.hid (HBL.out.trans (hb2.mono hsr))
          clear hb2 hgl
          go_wp2_with fail
          rw [HJ2.out]
          go_wp2_with fail
          rw [HJ3.out]
          go_wp2_with fail
          go_ret
          exact ⟨by rw [HT.out]; simp, after_top HB2.out⟩
end Go.Proofs.Ytdkcbbhkoibplaa

/-! G2: sameNode, signOf, kidsOf, a cut of a row of nodes, before. -/
namespace Go.Proofs.Ytdkcbbhkoibplaa
open Go.RowKit Go.Deep

theorem varTx_any (v : Int) (h : okN 0 v (flen (.nil : Fo)) = true) (w : World) :
    Calls Try.prog 143 #[.int .i64 v] w fun e w' => e = .returned (.string (str (tx 0 v .nil))) ∧ Below w.heap.size w w' := by
  have hv := ((okN_iff _ _ _).1 h).2.1 rfl
  rw [tx_var]
  exact (varText_any v hv.1 (by omega) w).mono fun e w' ⟨he, hw⟩ => ⟨he, hw ▸ Below.refl _ _⟩
theorem txt_teq {s v : Int} {k : Fo} {s' v' : Int} {k' : Fo} (h : Shape s v k) (h' : Shape s' v' k') : ((str (tx s v k)).toList == (str (tx s' v' k')).toList) = teq s v k s' v' k' := by
  have hl : ∀ l : List UInt8, (str l).toList = l := fun l => by simp [str]
  rw [hl, hl]
  have := tx_teq h h'
  cases ht : teq s v k s' v' k' with
  | true => exact beq_iff_eq.2 (this.2 ht)
  | false => exact beq_eq_false_iff_ne.2 fun he => by rw [this.1 he] at ht; cases ht

end Go.Proofs.Ytdkcbbhkoibplaa

/-! MJ: sameNode and signOf over any nodes of well-formed terms; what a map's writing keeps. -/
namespace Go.Proofs.Ytdkcbbhkoibplaa
open Go.RowKit Go.Deep Go.Maps

/-- A node of a well-formed term. -/
structure Nj (w : World) (val : Value) (s v : Int) (k : Fo) : Prop where
  node : NodeIs w 0 w.heap.size val s v k
  okn : okN s v (flen k) = true
  ok : fok k = true
  small : fsz k ≤ 1000
theorem Nj.shape {w : World} {val : Value} {s v : Int} {k : Fo} (h : Nj w val s v k) : Shape s v k := shape_of h.okn h.ok

set_option maxRecDepth 100000 in
set_option maxHeartbeats 1000000 in
theorem sameNodeI_any {s v : Int} {k : Fo} {val : Value} {s' v' : Int} {k' : Fo} {val' : Value} {w : World} (h : Nj w val s v k) (h' : Nj w val' s' v' k') :
    Calls Try.prog 104 #[val, val'] w fun e w' => e = .returned (.bool (teq s v k s' v' k')) ∧ Below w.heap.size w w' := by
  have HT := Lib.hid (txt_teq h.shape h'.shape)
  have HO := Lib.hid h.okn
  have HO' := Lib.hid h'.okn
  have HF := Lib.hid h.ok
  have HF' := Lib.hid h'.ok
  have hz := h.small
  have hz' := h'.small
  rcases h.node with ⟨rfl, rfl, rfl⟩ | ⟨hs, a, c, rfl, hl⟩
  · rcases h'.node with ⟨rfl, rfl, rfl⟩ | ⟨hs', a', c', rfl, hl'⟩
    · clear h h'
      go_enter Try.func104, Try.ntmps104
      go_wp2_with fail
      refine upon_method 143 (by kernel_rfl) (by kernel_rfl) ?_
      go_simp
      with_reducible refine (varTx_any v HO.out _).mono ?_
      rintro e w2 ⟨rfl, hb2⟩
      go_wp2_with fail
      refine upon_method 143 (by kernel_rfl) (by kernel_rfl) ?_
      go_simp
      with_reducible refine (varTx_any v' HO'.out _).mono ?_
      rintro e w3 ⟨rfl, hb3⟩
      go_wp2_with fail
      go_ret
      exact ⟨by rw [HT.out]; rfl, hb2.trans (hb3.mono hb2.size)⟩
    · have HL' := Lib.hid hl'
      obtain rfl : v' = 0 := ((okN_iff _ _ _).1 HO'.out).2.2 hs'
      have HS' := Lib.hid hs'
      clear h h' hl' hs'
      go_enter Try.func104, Try.ntmps104
      go_wp2_with fail
      refine upon_method 143 (by kernel_rfl) (by kernel_rfl) ?_
      go_simp
      with_reducible refine (varTx_any v HO.out _).mono ?_
      rintro e w2 ⟨rfl, hb2⟩
      have HB2 := Lib.hid hb2
      clear hb2
      go_wp2_with fail
      refine upon_method 160 (by kernel_rfl) (by kernel_rfl) ?_
      go_simp
      with_reducible refine (symText_any (fsz k') s' a' c' k' _ ((HL'.out.below HB2.out).mono (Nat.le_refl _) HB2.out.size) HS'.out HO'.out HF'.out (Nat.le_refl _) (by omega)).mono ?_
      rintro e w3 ⟨rfl, hb3⟩
      go_wp2_with fail
      go_ret
      exact ⟨by rw [HT.out]; rfl, HB2.out.trans (hb3.mono HB2.out.size)⟩
  · have HL := Lib.hid hl
    obtain rfl : v = 0 := ((okN_iff _ _ _).1 HO.out).2.2 hs
    have HS := Lib.hid hs
    rcases h'.node with ⟨rfl, rfl, rfl⟩ | ⟨hs', a', c', rfl, hl'⟩
    · clear h h' hl hs
      go_enter Try.func104, Try.ntmps104
      go_wp2_with fail
      refine upon_method 160 (by kernel_rfl) (by kernel_rfl) ?_
      go_simp
      with_reducible refine (symText_any (fsz k) s a c k _ HL.out HS.out HO.out HF.out (Nat.le_refl _) (by omega)).mono ?_
      rintro e w2 ⟨rfl, hb2⟩
      have HB2 := Lib.hid hb2
      clear hb2
      go_wp2_with fail
      refine upon_method 143 (by kernel_rfl) (by kernel_rfl) ?_
      go_simp
      with_reducible refine (varTx_any v' HO'.out _).mono ?_
      rintro e w3 ⟨rfl, hb3⟩
      go_wp2_with fail
      go_ret
      exact ⟨by rw [HT.out]; rfl, HB2.out.trans (hb3.mono HB2.out.size)⟩
    · have HL' := Lib.hid hl'
      obtain rfl : v' = 0 := ((okN_iff _ _ _).1 HO'.out).2.2 hs'
      have HS' := Lib.hid hs'
      clear h h' hl hl' hs hs'
      go_enter Try.func104, Try.ntmps104
      go_wp2_with fail
      refine upon_method 160 (by kernel_rfl) (by kernel_rfl) ?_
      go_simp
      with_reducible refine (symText_any (fsz k) s a c k _ HL.out HS.out HO.out HF.out (Nat.le_refl _) (by omega)).mono ?_
      rintro e w2 ⟨rfl, hb2⟩
      have HB2 := Lib.hid hb2
      clear hb2
      go_wp2_with fail
      refine upon_method 160 (by kernel_rfl) (by kernel_rfl) ?_
      go_simp
      with_reducible refine (symText_any (fsz k') s' a' c' k' _ ((HL'.out.below HB2.out).mono (Nat.le_refl _) HB2.out.size) HS'.out HO'.out HF'.out (Nat.le_refl _) (by omega)).mono ?_
      rintro e w3 ⟨rfl, hb3⟩
      go_wp2_with fail
      go_ret
      exact ⟨by rw [HT.out]; rfl, HB2.out.trans (hb3.mono HB2.out.size)⟩

end Go.Proofs.Ytdkcbbhkoibplaa
