/- Several texts in one: T1, OK0, G2, MJ, MA0. -/
import Derived.Test.YtlaaihnokoeliabKPla9
import Derived.Test.YtlaaihnokoeliabKPla2
import Derived.Test.YtlaaihnokoeliabKPla7
import Derived.Test.YtlaaihnokoeliabKPla4
import Derived.Test.YtlaaihnokoeliabKPla12
import Derived.Shelf.Strconv.Itoa3
import Derived.Shelf.Strings.OnBuilder
import Derived.Ground.NamesProg
import Derived.Test.YtlaaihnokoeliabKPla6
import Derived.Test.YtlaaihnokoeliabKPla5
import Derived.Lib.Slices
import Derived.Test.YtlaaihnokoeliabKPla10

/-! T1: The text of a node, and TermText of the program. -/
namespace Go.Proofs
open Go.Shelf
theorem Try.builderExtra156 : Builder.Extra Try.prog Try.lays156_ren where
  sizeBuilder := by kernel_rfl
  liesBuilder := by kernel_rfl
  t5 := Try.underlying5
  a5 := Try.isAgg5
  z5 := Try.sizeOf5
  v5 := Try.zeroValue5
  infoByte := by kernel_rfl
  cellsByte := by kernel_rfl
  sizeByte := by kernel_rfl
  neB5 := by decide
end Go.Proofs

namespace Go.Proofs.Ytlaaihnokoeliab
open Go.RowKit Go.Deep

theorem itoa_any (v : Int) (h0 : 0 ≤ v) (h1 : v < 100) (w : World) :
    Calls Try.prog 115 #[.int .i64 v] w fun e w' => e = .returned (.string (str (Lib.decDigits v.toNat))) ∧ w' = w := by
  obtain ⟨n, rfl⟩ := Int.eq_ofNat_of_zero_le h0
  exact Any.strconv_Itoa_small Try.lays171 n (by omega) w

set_option maxHeartbeats 400000 in
theorem varText_any (v : Int) (h0 : 0 ≤ v) (h1 : v < 100) (w : World) :
    Calls Try.prog 114 #[.int .i64 v] w fun e w' => e = .returned (.string (str (120 :: Lib.decDigits v.toNat))) ∧ w' = w := by
  have hz : (str (Lib.decDigits v.toNat)).size ≤ 2 := by rw [str_size]; exact dec_len (by omega)
  go_enter Try.func114, Try.ntmps114
  go_wp2_with fail
  with_reducible refine (itoa_any v h0 h1 _).mono ?_
  rintro e w2 ⟨rfl, rfl⟩
  go_wp2_with fail
  go_ret
  exact ⟨by rw [show (120 :: Lib.decDigits v.toNat) = [120] ++ Lib.decDigits v.toNat from rfl, ← str_add]; rfl, rfl⟩

theorem join_any (ks : List (List UInt8)) (bk n c : Nat) (w : World) (hnk : n = ks.length) (hcells : ∀ (j : Nat) l, ks[j]? = some l → w.cell? ⟨bk, j, none⟩ = some (.string (str l))) (hbk : bk < w.heap.size) (hn : ks.length ≤ 1000) (hc : ks.length ≤ c) (hl : lens ks ≤ 1000000) :
    Calls Try.prog 131 #[.slice (some ⟨bk, 0, none⟩) n c, .string ⟨#[44]⟩] w fun e w' => e = .returned (.string (str (Lib.join ks [44]))) ∧ Below w.heap.size w w' := by
  subst hnk
  have hm : (ks.map str).map (·.data.toList) = ks := by
    rw [List.map_map]
    exact (List.map_congr_left fun x _ => by simp [str]).trans (List.map_id ks)
  have hj := join_len ks
  have := Any.strings_Join Try.lays156 Try.builderExtra156 bk 0 c (ks.map str) ⟨#[44]⟩ w (fun j x hx => by
    rw [List.getElem?_map] at hx
    cases hk : ks[j]? with
    | none => rw [hk] at hx; cases hx
    | some l => rw [hk] at hx; obtain rfl := Option.some.inj hx; rw [Nat.zero_add]; exact hcells j l hk) hbk (by rw [List.length_map]; omega) (by rw [List.length_map]; exact hc) (by rw [hm]; show (Lib.join ks [44]).length ≤ _; omega)
  rw [hm, List.length_map] at this
  exact this

theorem Try.infoS : ∃ i, Try.prog.info? 9 = some i ∧ i.zero = some (.string ⟨#[]⟩) ∧ i.size = 1 ∧ i.bytes = 16 := by
  have h : (Try.prog.info? 9).map (fun i => (i.zero, i.size, i.bytes)) = some (some (.string ⟨#[]⟩), 1, 16) := by kernel_rfl
  obtain ⟨i, hi, hz⟩ := Option.map_eq_some_iff.1 h
  simp only [Prod.mk.injEq] at hz
  exact ⟨i, hi, hz.1, hz.2.1, hz.2.2⟩
theorem make_strs (n : Nat) (hn : n ≤ 1048576) (w : World) :
    (Instr.makeSlice 162 (.int .i64 (n : Int)) (.int .i64 (n : Int))).run Try.prog w = .ok (.slice (some ⟨w.heap.size, 0, none⟩) n n) (w.alloc (.cells (madeCells #[.string ⟨#[]⟩] n) 9)) := by
  obtain ⟨i, hi, hz, hs, hb⟩ := Try.infoS
  have := run_make (P := Try.prog) w 162 9 i _ Try.underlying162 hi hz .i64 .i64 (n : Int) (n : Int) (by omega) (by omega) (by rw [hb]; omega) (by omega)
  rw [hs] at this
  simpa [Value.cells] using this
theorem strs_made (w : World) (n : Nat) (hn : n ≤ 1048576) : (w.alloc (.cells (madeCells #[.string ⟨#[]⟩] n) 9)).ownsRow w.heap.size 9 1 (.slice (some ⟨w.heap.size, 0, none⟩) n n) n ((List.replicate n []).map fun l => Value.string (str l)) := by
  refine ⟨by simp, .inr ⟨w.heap.size, n, madeCells #[.string ⟨#[]⟩] n, rfl, Nat.le_refl _, heap_alloc_new _ _, Nat.le_refl _, by unfold maxLen; omega, by simp [size_madeCells], ?_⟩⟩
  rw [toList_madeCells_one, List.map_replicate, List.take_of_length_le (by simp)]
  rfl
theorem sign_slice1 (w : World) : (Instr.slice 9 (.string ⟨#[97, 98, 103, 102]⟩) (some (.int .i64 0)) (some (.int .i64 1)) none).run Try.prog w = .ok (.string (str [97])) w := by kernel_rfl
theorem sign_slice2 (w : World) : (Instr.slice 9 (.string ⟨#[97, 98, 103, 102]⟩) (some (.int .i64 1)) (some (.int .i64 2)) none).run Try.prog w = .ok (.string (str [98])) w := by kernel_rfl
theorem sign_slice3 (w : World) : (Instr.slice 9 (.string ⟨#[97, 98, 103, 102]⟩) (some (.int .i64 2)) (some (.int .i64 3)) none).run Try.prog w = .ok (.string (str [103])) w := by kernel_rfl
theorem sign_slice4 (w : World) : (Instr.slice 9 (.string ⟨#[97, 98, 103, 102]⟩) (some (.int .i64 3)) (some (.int .i64 4)) none).run Try.prog w = .ok (.string (str [102])) w := by kernel_rfl
theorem sign_slice {s : Int} (h0 : 1 ≤ s) (h1 : s ≤ 4) (w : World) :
    (Instr.slice 9 (.string ⟨#[97, 98, 103, 102]⟩) (some (.int .i64 (s - 1))) (some (.int .i64 s)) none).run Try.prog w = .ok (.string (str (ltr s))) w := by
  have : s = 1 ∨ s = 2 ∨ s = 3 ∨ s = 4 := by omega
  rcases this with rfl | rfl | rfl | rfl
  · exact sign_slice1 w
  · exact sign_slice2 w
  · exact sign_slice3 w
  · exact sign_slice4 w
theorem cell_lowT {W w2 : World} {q : Addr} {x : Value} (hb : Below W.heap.size W w2) (h : W.cell? q = some x) : w2.cell? q = some x := by
  rw [hb.cell (World.block_lt_of_cell? _ _ h)]; exact h
theorem okN_signs {s v : Int} {n : Nat} (hs : s ≠ 0) (h : okN s v n = true) : 1 ≤ s ∧ s ≤ 4 := by
  have h' := ((okN_iff _ _ _).1 h).1
  unfold ar at h'
  split at h'
  · omega
  · split at h'
    · omega
    · split at h' <;> omega

set_option maxRecDepth 100000 in
set_option maxHeartbeats 1000000 in
theorem symText_any (N : Nat) : ∀ (s : Int) (a : Option Addr) (c : Nat) (k : Fo) (w : World), NSl w 0 w.heap.size a k → s ≠ 0 → okN s 0 (flen k) = true → fok k = true → fsz k ≤ N → N ≤ 1000 →
    Calls Try.prog 130 #[.agg #[.int .i64 s, .slice a (flen k) c]] w fun e w' => e = .returned (.string (str (tx s 0 k))) ∧ Below w.heap.size w w' := by
  induction N using Nat.strongRecOn with
  | _ N ih =>
    intro s a c k w hl hs hokN hok hN hN2
    have hfl := flen_le_sz k
    obtain ⟨hs1, hs4⟩ := okN_signs hs hokN
    have hsl := fun w => sign_slice hs1 hs4 w
    have hshort := fts_short k hok
    have hjl := join_len (fts k)
    have hfl2 := fts_len k
    have hll := ltr_len s
    have HOK := Lib.hid hok
    have HSH := Lib.hid hshort
    have IH := Lib.hid ih
    have HS := Lib.hid hs
    have hz1 : (str (ltr s)).size = 1 := by rw [str_size]; exact hll
    have hz2 : (str (Lib.join (fts k) [44])).size ≤ 100000 := by rw [str_size]; omega
    have hz3 : (str (ltr s ++ [40])).size = 2 := by rw [str_size]; simp [hll]
    have hz4 : (str ((ltr s ++ [40]) ++ Lib.join (fts k) [44])).size ≤ 100002 := by rw [str_size] at hz2 ⊢; simp [hll]; omega
    have HJ1 : Hid (str (ltr s) ++ ⟨#[40]⟩ = str (ltr s ++ [40])) := (str_add _ [40])
    have HJ2 : Hid (str (ltr s ++ [40]) ++ str (Lib.join (fts k) [44]) = str ((ltr s ++ [40]) ++ Lib.join (fts k) [44])) := (str_add _ _)
    have HJ3 : Hid (str ((ltr s ++ [40]) ++ Lib.join (fts k) [44]) ++ ⟨#[41]⟩ = str (((ltr s ++ [40]) ++ Lib.join (fts k) [44]) ++ [41])) := (str_add _ [41])
    clear ih hok hshort hjl hll hs hokN
    by_cases hk0 : flen k = 0
    · have HT := Lib.hid (tx_leaf (v := 0) HS.out hk0)
      have ek : ((flen k : Int) == 0) = true := by simp [hk0]
      clear hl hfl hN hfl2 hk0
      go_enter Try.func130, Try.ntmps130
      go_wp2_with fail
      go_ret
      exact ⟨by rw [HT.out]; rfl, (Below.refl _ _).alloc (Nat.le_refl _) _⟩
    · have HT := Lib.hid (tx_kids (v := 0) HS.out hk0)
      have ek : ((flen k : Int) == 0) = false := by simp; omega
      have hmk := make_strs (flen k) (by omega)
      have HST := Lib.hid (strs_made (w.alloc (.cells #[.int .i64 s, .slice a (flen k) c] 104)) (flen k) (by omega))
      go_enter Try.func130, Try.ntmps130
      go_wp2_with fail
      clear hmk
      go_loopw [25] (fun i wr => ∃ (j : Nat) (ys : List (List UInt8)), j ≤ flen k ∧ i = .int .i64 j ∧ Hid (ys.length = flen k ∧ ∀ q, q < j → ys[q]? = (fts k)[q]?) ∧ Hid (wr.ownsRow (w.heap.size + 1) 9 1 (.slice (some ⟨w.heap.size + 1, 0, none⟩) (flen k) (flen k)) (flen k) (ys.map fun l => Value.string (str l))) ∧ Below (w.heap.size + 1) (w.alloc (.cells #[.int .i64 s, .slice a (flen k) c] 104)) wr) (fun i _ => flen k - (intOf i).toNat)
      case atStart => exact ⟨0, List.replicate (flen k) [], by omega, rfl, ⟨by simp, fun q hq => by omega⟩, by simpa [Hid] using HST.out, (Below.refl _ _).alloc (by simp) _⟩
      case round =>
        clear HST
        obtain ⟨j, ys, hj, rfl, hys, hown, hbl⟩ := hrel
        have hsr := hbl.size
        simp at hsr
        by_cases hlt : j < flen k
        · rcases hl with rfl | ⟨b, o, rfl, hrow⟩
          · simp [flen] at hlt
          obtain ⟨s', v', kk, val, ⟨x, y, hd⟩, _, hbB, hkc, hn⟩ := nrow_at (hrow.below (after_top hbl)) hlt
          have hkN := fsz_kid hd
          have hkok := fok_kid HOK.out hd
          have HAT := Lib.hid (fts_at j k hd)
          have HBL := Lib.hid hbl
          have g1 : (0 : Int) ≤ (j : Int) := by omega
          have g2 : (j : Int) < (flen k : Int) := by omega
          clear hd hrow hbl hsl hz1 hz2 hz3 hz4
          have hcl : ∃ u, wr.cell? ⟨w.heap.size + 1, j, none⟩ = some u := by
            rw [hown.out.cellAt j (by omega)]
            exact ⟨_, List.getElem?_eq_getElem (by simp [hys.out.1, hlt])⟩
          have hfz := hown.out.frozenAt j
          have HFIN : Hid (∀ w2 : World, Below wr.heap.size wr w2 → (∃ u, w2.cell? ⟨w.heap.size + 1, j, none⟩ = some u) ∧ w2.frozen? ⟨w.heap.size + 1, j, none⟩ = false ∧ (∃ ys' : List (List UInt8), Hid (ys'.length = flen k ∧ ∀ q, q < j + 1 → ys'[q]? = (fts k)[q]?) ∧ Hid ((w2.setCell ⟨w.heap.size + 1, j, none⟩ (.string (str (tx s' v' kk)))).ownsRow (w.heap.size + 1) 9 1 (.slice (some ⟨w.heap.size + 1, 0, none⟩) (flen k) (flen k)) (flen k) (ys'.map fun l => Value.string (str l)))) ∧ Below (w.heap.size + 1) (w.alloc (.cells #[.int .i64 s, .slice (some ⟨b, o, none⟩) (flen k) c] 104)) (w2.setCell ⟨w.heap.size + 1, j, none⟩ (.string (str (tx s' v' kk))))) := by
            intro w2 hb2
            have hown2 := own_low hb2 hown.out
            obtain ⟨u, hcl⟩ := hcl
            refine ⟨⟨u, cell_lowT hb2 hcl⟩, hown2.frozenAt j, ⟨ys.set j (tx s' v' kk), ?_, ?_⟩, (HBL.out.trans (hb2.mono hsr)).setCell (by simp) _⟩
            · refine ⟨by rw [List.length_set]; exact hys.out.1, fun q hq => ?_⟩
              by_cases e : q = j
              · subst e
                rw [List.getElem?_set_self (by rw [hys.out.1]; exact hlt), HAT.out]
              · rw [List.getElem?_set_ne (fun h => e h.symm)]
                exact hys.out.2 q (by omega)
            · obtain ⟨hst, _⟩ := hown2.stored j (.string (str (tx s' v' kk)))
              unfold Hid
              rw [List.map_set]
              exact hst
          clear hown hys hcl hfz HAT
          rcases hn with ⟨rfl, rfl, rfl⟩ | ⟨hs', a2, c2, rfl, hn2⟩
          · have hv := ((okN_iff _ _ _).1 hkok.1).2.1 rfl
            clear hkok
            go_wp2_with fail
            refine upon_method 114 (by kernel_rfl) (by kernel_rfl) ?_
            go_simp
            with_reducible refine (varText_any v' hv.1 (by omega) _).mono ?_
            rintro e w2 ⟨rfl, rfl⟩
            obtain ⟨⟨u, hcl⟩, hfz, ⟨ys', hys', hown'⟩, hbl'⟩ := HFIN.out w2 (Below.refl _ _)
            rw [tx_var] at hown' hbl'
            have HBL' := Lib.hid hbl'
            clear HFIN hbl'
            go_wp2_with fail
            go_roundw
            case rel => exact ⟨j + 1, ys', by omega, by go_num, hys', hown', HBL'.out⟩
            case measure => simp [intOf]; omega
          · have hv0 : v' = 0 := ((okN_iff _ _ _).1 hkok.1).2.2 hs'
            subst hv0
            have HKO := Lib.hid hkok
            have HN2 := Lib.hid hn2
            have HS' := Lib.hid hs'
            clear hn2 hkok hs'
            go_wp2_with fail
            refine upon_method 130 (by kernel_rfl) (by kernel_rfl) ?_
            go_simp
            with_reducible refine (IH.out (fsz kk) (by omega) s' a2 c2 kk _ ?_ HS'.out HKO.out.1 HKO.out.2 (Nat.le_refl _) (by omega)).mono ?_
            · exact HN2.out.mono (Nat.le_refl _) (by omega)
            rintro e w2 ⟨rfl, hb2⟩
            obtain ⟨⟨u, hcl⟩, hfz, ⟨ys', hys', hown'⟩, hbl'⟩ := HFIN.out w2 hb2
            have HBL' := Lib.hid hbl'
            clear HFIN hbl' hb2
            go_wp2_with fail
            go_roundw
            case rel => exact ⟨j + 1, ys', by omega, by go_num, hys', hown', HBL'.out⟩
            case measure => simp [intOf]; omega
        · have hje : j = flen k := by omega
          subst hje
          have HE : Hid (ys = fts k) := by
            refine List.ext_getElem? fun q => ?_
            by_cases hq : q < flen k
            · exact hys.out.2 q hq
            · rw [List.getElem?_eq_none (by rw [hys.out.1]; omega), List.getElem?_eq_none (by rw [fts_len]; omega)]
          have HCE : Hid (∀ (q : Nat) l, (fts k)[q]? = some l → wr.cell? ⟨w.heap.size + 1, q, none⟩ = some (.string (str l))) := fun q l hql => by
            have hq := (List.getElem?_eq_some_iff.1 hql).1
            rw [hown.out.cellAt q (by rw [fts_len] at hq; omega), HE.out, List.getElem?_map, hql]
            rfl
          have hgl : w.heap.size + 1 < wr.heap.size := by
            rcases hown.out.2 with ⟨h, _⟩ | ⟨g, cap, cur, hv, _, hg, _⟩
            · cases h
            · simp only [Value.slice.injEq, Option.some.injEq, Addr.mk.injEq] at hv
              obtain ⟨⟨rfl, _⟩, _⟩ := hv
              exact (Array.getElem?_eq_some_iff.1 hg).1
          have HBL := Lib.hid hbl
          clear hys hown hbl
          go_wp2_with fail
          rw [HJ1.out]
          go_wp2_with fail
          with_reducible refine (join_any (fts k) (w.heap.size + 1) (flen k) (flen k) _ hfl2.symm HCE.out hgl (by omega) (by omega) ?_).mono ?_
          · have := HSH.out; omega
          rintro e w2 ⟨rfl, hb2⟩
          have HB2 := Lib.hid (HBL.out.trans (hb2.mono hsr))
          clear hb2 hgl
          go_wp2_with fail
          rw [HJ2.out]
          go_wp2_with fail
          rw [HJ3.out]
          go_wp2_with fail
          go_ret
          exact ⟨by rw [HT.out]; simp, after_top HB2.out⟩
end Go.Proofs.Ytlaaihnokoeliab

/-! OK0: Rankings as plain data: what the program asks of one, and what the specification asks, are the same. -/
namespace Go.Proofs.Ytlaaihnokoeliab
open Go.RowKit Go.Deep

def rkOk (xs : List Int) : Bool := decide (xs.length = 4) && (xs.contains 1 && (xs.contains 2 && (xs.contains 3 && xs.contains 4)))
def RkS (xs : List Int) : Prop := (∀ (i : Nat) (x : Int), xs[i]? = some x → 1 ≤ x ∧ x ≤ 4) ∧ ∀ (i k : Nat) (x y : Int), k < i → xs[k]? = some x → xs[i]? = some y → x ≠ y

theorem rk4 (a b c d : Int) (h1 : a = 1 ∨ b = 1 ∨ c = 1 ∨ d = 1) (h2 : a = 2 ∨ b = 2 ∨ c = 2 ∨ d = 2) (h3 : a = 3 ∨ b = 3 ∨ c = 3 ∨ d = 3) (h4 : a = 4 ∨ b = 4 ∨ c = 4 ∨ d = 4) :
    (1 ≤ a ∧ a ≤ 4) ∧ (1 ≤ b ∧ b ≤ 4) ∧ (1 ≤ c ∧ c ≤ 4) ∧ (1 ≤ d ∧ d ≤ 4) ∧ a ≠ b ∧ a ≠ c ∧ a ≠ d ∧ b ≠ c ∧ b ≠ d ∧ c ≠ d := by
  rcases h1 with h1 | h1 | h1 | h1 <;> rcases h2 with h2 | h2 | h2 | h2 <;> rcases h3 with h3 | h3 | h3 | h3 <;> rcases h4 with h4 | h4 | h4 | h4 <;> omega
theorem rk4' (a b c d n : Int) (hn : 1 ≤ n ∧ n ≤ 4) (ha : 1 ≤ a ∧ a ≤ 4) (hb : 1 ≤ b ∧ b ≤ 4) (hc : 1 ≤ c ∧ c ≤ 4) (hd : 1 ≤ d ∧ d ≤ 4) (h1 : a ≠ b) (h2 : a ≠ c) (h3 : a ≠ d) (h4 : b ≠ c) (h5 : b ≠ d) (h6 : c ≠ d) :
    n = a ∨ n = b ∨ n = c ∨ n = d := by omega
theorem len4 {xs : List Int} (h : xs.length = 4) : ∃ a b c d, xs = [a, b, c, d] := by
  match xs, h with
  | [a, b, c, d], _ => exact ⟨a, b, c, d, rfl⟩

theorem rk_iff {xs : List Int} (h : xs.length = 4) : rkOk xs = true ↔ RkS xs := by
  obtain ⟨a, b, c, d, rfl⟩ := len4 h
  constructor
  · intro hr
    simp only [rkOk, List.contains_eq_mem, List.mem_cons, List.not_mem_nil, or_false, Bool.and_eq_true, decide_eq_true_eq] at hr
    obtain ⟨_, h1, h2, h3, h4⟩ := hr
    obtain ⟨ha, hb, hc, hd, e1, e2, e3, e4, e5, e6⟩ := rk4 a b c d (by omega) (by omega) (by omega) (by omega)
    refine ⟨fun i x hx => ?_, fun i k x y hk hx hy => ?_⟩
    · match i, hx with
      | 0, hx => simp at hx; omega
      | 1, hx => simp at hx; omega
      | 2, hx => simp at hx; omega
      | 3, hx => simp at hx; omega
      | n + 4, hx => simp at hx
    · match i, k, hk, hx, hy with
      | 1, 0, _, hx, hy => simp at hx hy; omega
      | 2, 0, _, hx, hy => simp at hx hy; omega
      | 2, 1, _, hx, hy => simp at hx hy; omega
      | 3, 0, _, hx, hy => simp at hx hy; omega
      | 3, 1, _, hx, hy => simp at hx hy; omega
      | 3, 2, _, hx, hy => simp at hx hy; omega
      | n + 4, _, _, _, hy => simp at hy
  · rintro ⟨h1, h2⟩
    have ha := h1 0 a rfl
    have hb := h1 1 b rfl
    have hc := h1 2 c rfl
    have hd := h1 3 d rfl
    have e1 := h2 1 0 a b (by omega) rfl rfl
    have e2 := h2 2 0 a c (by omega) rfl rfl
    have e3 := h2 3 0 a d (by omega) rfl rfl
    have e4 := h2 2 1 b c (by omega) rfl rfl
    have e5 := h2 3 1 b d (by omega) rfl rfl
    have e6 := h2 3 2 c d (by omega) rfl rfl
    simp only [rkOk, List.contains_eq_mem, List.mem_cons, List.not_mem_nil, or_false, Bool.and_eq_true, decide_eq_true_eq]
    exact ⟨rfl, rk4' a b c d 1 (by omega) ha hb hc hd e1 e2 e3 e4 e5 e6, rk4' a b c d 2 (by omega) ha hb hc hd e1 e2 e3 e4 e5 e6, rk4' a b c d 3 (by omega) ha hb hc hd e1 e2 e3 e4 e5 e6, rk4' a b c d 4 (by omega) ha hb hc hd e1 e2 e3 e4 e5 e6⟩
theorem rk_no {xs : List Int} (h : xs.length ≠ 4) : rkOk xs = false := by simp [rkOk, h]
/-- The numbers from 1 on below j are there. -/
def RkTo (xs : List Int) (j : Int) : Prop := ∀ q, 1 ≤ q → q < j → xs.contains q = true
theorem RkTo.next {xs : List Int} {j : Int} (h : RkTo xs j) (hc : xs.contains j = true) : RkTo xs (j + 1) := fun q h1 h2 => by
  by_cases e : q = j
  · rw [e]; exact hc
  · exact h q h1 (by omega)
theorem rk_all {xs : List Int} (h : xs.length = 4) (ht : RkTo xs 5) : rkOk xs = true := by
  unfold rkOk
  rw [ht 1 (by omega) (by omega), ht 2 (by omega) (by omega), ht 3 (by omega) (by omega), ht 4 (by omega) (by omega), h]
  rfl
theorem rk_miss {xs : List Int} {j : Int} (h0 : 1 ≤ j) (h1 : j ≤ 4) (hc : xs.contains j = false) : rkOk xs = false := by
  have : j = 1 ∨ j = 2 ∨ j = 3 ∨ j = 4 := by omega
  rcases this with rfl | rfl | rfl | rfl <;> simp only [rkOk, hc, Bool.and_false, Bool.false_and]
theorem getD_of {xs : List Int} {j : Nat} (h : j < xs.length) : xs.getD j 0 = xs[j] := by simp [h]
end Go.Proofs.Ytlaaihnokoeliab

/-! G2: sameNode, signOf, kidsOf, a cut of a row of nodes, before. -/
namespace Go.Proofs.Ytlaaihnokoeliab
open Go.RowKit Go.Deep

/-- A node of a well-formed term. -/
structure Nd (w : World) (val : Value) (s v : Int) (k : Fo) : Prop where
  node : NodeC w 0 w.heap.size val s v k
  okn : okN s v (flen k) = true
  ok : fok k = true
  small : fsz k ≤ 100
theorem Nd.next {w w2 : World} {val : Value} {s v : Int} {k : Fo} (h : Nd w val s v k) (hb : Below w.heap.size w w2) : Nd w2 val s v k :=
  ⟨(h.node.below hb).mono (Nat.le_refl _) hb.size, h.okn, h.ok, h.small⟩
theorem Nd.shape {w : World} {val : Value} {s v : Int} {k : Fo} (h : Nd w val s v k) : Shape s v k := shape_of h.okn h.ok

theorem varTx_any (v : Int) (h : okN 0 v (flen (.nil : Fo)) = true) (w : World) :
    Calls Try.prog 114 #[.int .i64 v] w fun e w' => e = .returned (.string (str (tx 0 v .nil))) ∧ Below w.heap.size w w' := by
  have hv := ((okN_iff _ _ _).1 h).2.1 rfl
  rw [tx_var]
  exact (varText_any v hv.1 (by omega) w).mono fun e w' ⟨he, hw⟩ => ⟨he, hw ▸ Below.refl _ _⟩
theorem txt_teq {s v : Int} {k : Fo} {s' v' : Int} {k' : Fo} (h : Shape s v k) (h' : Shape s' v' k') : ((str (tx s v k)).toList == (str (tx s' v' k')).toList) = teq s v k s' v' k' := by
  have hl : ∀ l : List UInt8, (str l).toList = l := fun l => by simp [str]
  rw [hl, hl]
  have := tx_teq h h'
  cases ht : teq s v k s' v' k' with
  | true => exact beq_iff_eq.2 (this.2 ht)
  | false => exact beq_eq_false_iff_ne.2 fun he => by rw [this.1 he] at ht; cases ht

set_option maxRecDepth 100000 in
set_option maxHeartbeats 1000000 in
theorem sameNode_any {s v : Int} {k : Fo} {val : Value} {s' v' : Int} {k' : Fo} {val' : Value} {w : World} (h : Nd w val s v k) (h' : Nd w val' s' v' k') :
    Calls Try.prog 68 #[val, val'] w fun e w' => e = .returned (.bool (teq s v k s' v' k')) ∧ Below w.heap.size w w' := by
  have HT := Lib.hid (txt_teq h.shape h'.shape)
  have HO := Lib.hid h.okn
  have HO' := Lib.hid h'.okn
  have HF := Lib.hid h.ok
  have HF' := Lib.hid h'.ok
  have hz := h.small
  have hz' := h'.small
  rcases h.node with ⟨rfl, rfl, rfl⟩ | ⟨hs, a, c, rfl, _, hl⟩
  · rcases h'.node with ⟨rfl, rfl, rfl⟩ | ⟨hs', a', c', rfl, _, hl'⟩
    · clear h h'
      go_enter Try.func68, Try.ntmps68
      go_wp2_with fail
      refine upon_method 114 (by kernel_rfl) (by kernel_rfl) ?_
      go_simp
      with_reducible refine (varTx_any v HO.out _).mono ?_
      rintro e w2 ⟨rfl, hb2⟩
      go_wp2_with fail
      refine upon_method 114 (by kernel_rfl) (by kernel_rfl) ?_
      go_simp
      with_reducible refine (varTx_any v' HO'.out _).mono ?_
      rintro e w3 ⟨rfl, hb3⟩
      go_wp2_with fail
      go_ret
      exact ⟨by rw [HT.out]; rfl, hb2.trans (hb3.mono hb2.size)⟩
    · have HL' := Lib.hid hl'
      obtain rfl : v' = 0 := ((okN_iff _ _ _).1 HO'.out).2.2 hs'
      have HS' := Lib.hid hs'
      clear h h' hl' hs'
      go_enter Try.func68, Try.ntmps68
      go_wp2_with fail
      refine upon_method 114 (by kernel_rfl) (by kernel_rfl) ?_
      go_simp
      with_reducible refine (varTx_any v HO.out _).mono ?_
      rintro e w2 ⟨rfl, hb2⟩
      have HB2 := Lib.hid hb2
      clear hb2
      go_wp2_with fail
      refine upon_method 130 (by kernel_rfl) (by kernel_rfl) ?_
      go_simp
      with_reducible refine (symText_any (fsz k') s' a' c' k' _ ((HL'.out.below HB2.out).mono (Nat.le_refl _) HB2.out.size).to HS'.out HO'.out HF'.out (Nat.le_refl _) (by omega)).mono ?_
      rintro e w3 ⟨rfl, hb3⟩
      go_wp2_with fail
      go_ret
      exact ⟨by rw [HT.out]; rfl, HB2.out.trans (hb3.mono HB2.out.size)⟩
  · have HL := Lib.hid hl
    obtain rfl : v = 0 := ((okN_iff _ _ _).1 HO.out).2.2 hs
    have HS := Lib.hid hs
    rcases h'.node with ⟨rfl, rfl, rfl⟩ | ⟨hs', a', c', rfl, _, hl'⟩
    · clear h h' hl hs
      go_enter Try.func68, Try.ntmps68
      go_wp2_with fail
      refine upon_method 130 (by kernel_rfl) (by kernel_rfl) ?_
      go_simp
      with_reducible refine (symText_any (fsz k) s a c k _ HL.out.to HS.out HO.out HF.out (Nat.le_refl _) (by omega)).mono ?_
      rintro e w2 ⟨rfl, hb2⟩
      have HB2 := Lib.hid hb2
      clear hb2
      go_wp2_with fail
      refine upon_method 114 (by kernel_rfl) (by kernel_rfl) ?_
      go_simp
      with_reducible refine (varTx_any v' HO'.out _).mono ?_
      rintro e w3 ⟨rfl, hb3⟩
      go_wp2_with fail
      go_ret
      exact ⟨by rw [HT.out]; rfl, HB2.out.trans (hb3.mono HB2.out.size)⟩
    · have HL' := Lib.hid hl'
      obtain rfl : v' = 0 := ((okN_iff _ _ _).1 HO'.out).2.2 hs'
      have HS' := Lib.hid hs'
      clear h h' hl hl' hs hs'
      go_enter Try.func68, Try.ntmps68
      go_wp2_with fail
      refine upon_method 130 (by kernel_rfl) (by kernel_rfl) ?_
      go_simp
      with_reducible refine (symText_any (fsz k) s a c k _ HL.out.to HS.out HO.out HF.out (Nat.le_refl _) (by omega)).mono ?_
      rintro e w2 ⟨rfl, hb2⟩
      have HB2 := Lib.hid hb2
      clear hb2
      go_wp2_with fail
      refine upon_method 130 (by kernel_rfl) (by kernel_rfl) ?_
      go_simp
      with_reducible refine (symText_any (fsz k') s' a' c' k' _ ((HL'.out.below HB2.out).mono (Nat.le_refl _) HB2.out.size).to HS'.out HO'.out HF'.out (Nat.le_refl _) (by omega)).mono ?_
      rintro e w3 ⟨rfl, hb3⟩
      go_wp2_with fail
      go_ret
      exact ⟨by rw [HT.out]; rfl, HB2.out.trans (hb3.mono HB2.out.size)⟩

/-- A row of nodes of well-formed terms. -/
structure Nds (w : World) (a : Option Addr) (c : Nat) (k : Fo) : Prop where
  sl : CSl w 0 w.heap.size a k
  cap : flen k ≤ c
  ok : fok k = true
  small : fsz k ≤ 100
theorem Nds.next {w w2 : World} {a : Option Addr} {c : Nat} {k : Fo} (h : Nds w a c k) (hb : Below w.heap.size w w2) : Nds w2 a c k :=
  ⟨(h.sl.below hb).mono (Nat.le_refl _) hb.size, h.cap, h.ok, h.small⟩
theorem Nds.at {w : World} {a : Option Addr} {c : Nat} {k : Fo} {j : Nat} (h : Nds w a c k) (hj : j < flen k) :
    ∃ b o s v kk val x y, a = some ⟨b, o, none⟩ ∧ fdrop j k = .node x y (s, v) kk (fdrop (j + 1) k) ∧ w.cell? ⟨b, o + j, none⟩ = some val ∧ Nd w val s v kk ∧ fsz kk < fsz k := by
  rcases h.sl with rfl | ⟨b, o, rfl, hr⟩
  · simp [flen] at hj
  · obtain ⟨s, v, kk, val, ⟨x, y, hd⟩, _, _, hc, hn⟩ := crow_at hr hj
    have hk := fok_kid h.ok hd
    have hs := fsz_kid hd
    have := h.small
    exact ⟨b, o, s, v, kk, val, x, y, rfl, hd, hc, ⟨hn, hk.1, hk.2, by omega⟩, by omega⟩

def KidsPostC (k : Fo) (w : World) (e : Ending) (w' : World) : Prop := ∃ a c, e = .returned (.slice a (flen k) c) ∧ Below w.heap.size w w' ∧ Nds w a c k
set_option maxRecDepth 100000 in
set_option maxHeartbeats 400000 in
theorem kidsOfC_any {s v : Int} {k : Fo} {nv : Value} {w : World} (h : Nd w nv s v k) : Calls Try.prog 72 #[nv] w (KidsPostC k w) := by
  have hta := assert_var
  have htb := assert_sym
  have HO := Lib.hid h.ok
  have HZ := Lib.hid h.small
  rcases h.node with ⟨rfl, rfl, rfl⟩ | ⟨hs, a, c, rfl, hcp, hn⟩
  · clear h
    go_enter Try.func72, Try.ntmps72
    go_wp2_with fail
    go_ret
    exact ⟨none, 0, rfl, Below.refl _ _, .inl rfl, Nat.le_refl _, HO.out, HZ.out⟩
  · have HN := Lib.hid hn
    have HC := Lib.hid hcp
    clear hn hcp h
    go_enter Try.func72, Try.ntmps72
    go_wp2_with fail
    go_ret
    exact ⟨a, c, rfl, (Below.refl _ _).alloc (Nat.le_refl _) _, HN.out, HC.out, HO.out, HZ.out⟩
set_option maxRecDepth 100000 in
set_option maxHeartbeats 400000 in
theorem signOf_any {s v : Int} {k : Fo} {nv : Value} {w : World} (h : Nd w nv s v k) : Calls Try.prog 78 #[nv] w fun e w' => e = .returned (.int .i64 s) ∧ Below w.heap.size w w' := by
  have hta := assert_var
  have htb := assert_sym
  rcases h.node with ⟨rfl, rfl, rfl⟩ | ⟨hs, a, c, rfl, hcp, hn⟩
  · clear h
    go_enter Try.func78, Try.ntmps78
    go_wp2_with fail
    go_ret
    exact ⟨rfl, Below.refl _ _⟩
  · clear hn hcp h
    go_enter Try.func78, Try.ntmps78
    go_wp2_with fail
    go_ret
    exact ⟨rfl, (Below.refl _ _).alloc (Nat.le_refl _) _⟩

/-- The nodes from number n on. -/
theorem cut_nodes {a : Option Addr} {c n m : Nat} {k : Fo} (hm : m = flen k) (hn : n ≤ flen k) (hc : flen k ≤ c) : ∃ a' c', (∀ w : World, (Instr.slice 102 (.slice a m c) (some (.int .i64 (n : Int))) none none).run Try.prog w = .ok (.slice a' (flen (fdrop n k)) c') w) ∧
    ∀ w : World, Nds w a c k → Nds w a' c' (fdrop n k) := by
  subst hm
  have hti := Try.infoNode
  obtain ⟨ti, hti, hz⟩ := Option.map_eq_some_iff.1 hti
  simp only [Prod.mk.injEq] at hz
  have hsz : ∀ w : World, (sizeOf (Try.prog.elem 102)).run Try.prog w = .ok 1 w := fun w => by
    have he : Try.prog.elem 102 = 58 := by kernel_rfl
    rw [he]
    simp [sizeOf, typeInfo, hti, hz.2.1]
  have hel : Try.prog.underlying 102 = some (.slice (Try.prog.elem 102)) := by kernel_rfl
  have hrun : ∀ w : World, (Instr.slice 102 (.slice a (flen k) c) (some (.int .i64 (n : Int))) none none).run Try.prog w = .ok (sliced a n (flen k) c 1) w := fun w => by
    rw [run_slice_l (P := Try.prog) w 102 a (flen k) c hel .i64 (n : Int) (by omega) (by omega), hsz]
    simp [Result.andThen]
  refine ⟨if c = n then a else a.map (·.add (n * 1)), c - n, fun w => by rw [hrun w, flen_drop]; rfl, fun w h => ⟨?_, by rw [flen_drop]; omega, ?_, ?_⟩⟩
  · split
    · exact .inl (fdrop_all (by omega))
    · rcases h.sl with rfl | ⟨b, o, rfl, h1⟩
      · exact .inl (fdrop_all (by simp [flen]))
      · refine .inr ⟨b, o + n, ?_, crow_drop n k b o h1⟩
        have ha : (⟨b, o, none⟩ : Addr).add n = ⟨b, o + n, none⟩ := by unfold Addr.add; split <;> simp_all
        simp only [Option.map_some, Nat.mul_one, ha]
  · have : ∀ (n : Nat) (k : Fo), fok k = true → fok (fdrop n k) = true := by
      intro n
      induction n with
      | zero => intro k h; exact h
      | succ n ih =>
        intro k h
        cases k with
        | nil => rfl
        | node x y p kk r => simp only [fok, Bool.and_eq_true] at h; exact ih r h.2
    exact this n k h.ok
  · have := fsz_drop n k
    have := h.small
    omega
end Go.Proofs.Ytlaaihnokoeliab

/-! MJ: sameNode and signOf over any nodes of well-formed terms; what a map's writing keeps. -/
namespace Go.Proofs.Ytlaaihnokoeliab
open Go.RowKit Go.Deep Go.Maps

/-- A node of a well-formed term. -/
structure Nj (w : World) (val : Value) (s v : Int) (k : Fo) : Prop where
  node : NodeIs w 0 w.heap.size val s v k
  okn : okN s v (flen k) = true
  ok : fok k = true
  small : fsz k ≤ 1000
theorem Nj.next {w w2 : World} {val : Value} {s v : Int} {k : Fo} (h : Nj w val s v k) (hb : Below w.heap.size w w2) : Nj w2 val s v k :=
  ⟨(h.node.below hb).mono (Nat.le_refl _) hb.size, h.okn, h.ok, h.small⟩
theorem Nj.shape {w : World} {val : Value} {s v : Int} {k : Fo} (h : Nj w val s v k) : Shape s v k := shape_of h.okn h.ok

set_option maxRecDepth 100000 in
set_option maxHeartbeats 1000000 in
theorem sameNodeI_any {s v : Int} {k : Fo} {val : Value} {s' v' : Int} {k' : Fo} {val' : Value} {w : World} (h : Nj w val s v k) (h' : Nj w val' s' v' k') :
    Calls Try.prog 68 #[val, val'] w fun e w' => e = .returned (.bool (teq s v k s' v' k')) ∧ Below w.heap.size w w' := by
  have HT := Lib.hid (txt_teq h.shape h'.shape)
  have HO := Lib.hid h.okn
  have HO' := Lib.hid h'.okn
  have HF := Lib.hid h.ok
  have HF' := Lib.hid h'.ok
  have hz := h.small
  have hz' := h'.small
  rcases h.node with ⟨rfl, rfl, rfl⟩ | ⟨hs, a, c, rfl, hl⟩
  · rcases h'.node with ⟨rfl, rfl, rfl⟩ | ⟨hs', a', c', rfl, hl'⟩
    · clear h h'
      go_enter Try.func68, Try.ntmps68
      go_wp2_with fail
      refine upon_method 114 (by kernel_rfl) (by kernel_rfl) ?_
      go_simp
      with_reducible refine (varTx_any v HO.out _).mono ?_
      rintro e w2 ⟨rfl, hb2⟩
      go_wp2_with fail
      refine upon_method 114 (by kernel_rfl) (by kernel_rfl) ?_
      go_simp
      with_reducible refine (varTx_any v' HO'.out _).mono ?_
      rintro e w3 ⟨rfl, hb3⟩
      go_wp2_with fail
      go_ret
      exact ⟨by rw [HT.out]; rfl, hb2.trans (hb3.mono hb2.size)⟩
    · have HL' := Lib.hid hl'
      obtain rfl : v' = 0 := ((okN_iff _ _ _).1 HO'.out).2.2 hs'
      have HS' := Lib.hid hs'
      clear h h' hl' hs'
      go_enter Try.func68, Try.ntmps68
      go_wp2_with fail
      refine upon_method 114 (by kernel_rfl) (by kernel_rfl) ?_
      go_simp
      with_reducible refine (varTx_any v HO.out _).mono ?_
      rintro e w2 ⟨rfl, hb2⟩
      have HB2 := Lib.hid hb2
      clear hb2
      go_wp2_with fail
      refine upon_method 130 (by kernel_rfl) (by kernel_rfl) ?_
      go_simp
      with_reducible refine (symText_any (fsz k') s' a' c' k' _ ((HL'.out.below HB2.out).mono (Nat.le_refl _) HB2.out.size) HS'.out HO'.out HF'.out (Nat.le_refl _) (by omega)).mono ?_
      rintro e w3 ⟨rfl, hb3⟩
      go_wp2_with fail
      go_ret
      exact ⟨by rw [HT.out]; rfl, HB2.out.trans (hb3.mono HB2.out.size)⟩
  · have HL := Lib.hid hl
    obtain rfl : v = 0 := ((okN_iff _ _ _).1 HO.out).2.2 hs
    have HS := Lib.hid hs
    rcases h'.node with ⟨rfl, rfl, rfl⟩ | ⟨hs', a', c', rfl, hl'⟩
    · clear h h' hl hs
      go_enter Try.func68, Try.ntmps68
      go_wp2_with fail
      refine upon_method 130 (by kernel_rfl) (by kernel_rfl) ?_
      go_simp
      with_reducible refine (symText_any (fsz k) s a c k _ HL.out HS.out HO.out HF.out (Nat.le_refl _) (by omega)).mono ?_
      rintro e w2 ⟨rfl, hb2⟩
      have HB2 := Lib.hid hb2
      clear hb2
      go_wp2_with fail
      refine upon_method 114 (by kernel_rfl) (by kernel_rfl) ?_
      go_simp
      with_reducible refine (varTx_any v' HO'.out _).mono ?_
      rintro e w3 ⟨rfl, hb3⟩
      go_wp2_with fail
      go_ret
      exact ⟨by rw [HT.out]; rfl, HB2.out.trans (hb3.mono HB2.out.size)⟩
    · have HL' := Lib.hid hl'
      obtain rfl : v' = 0 := ((okN_iff _ _ _).1 HO'.out).2.2 hs'
      have HS' := Lib.hid hs'
      clear h h' hl hl' hs hs'
      go_enter Try.func68, Try.ntmps68
      go_wp2_with fail
      refine upon_method 130 (by kernel_rfl) (by kernel_rfl) ?_
      go_simp
      with_reducible refine (symText_any (fsz k) s a c k _ HL.out HS.out HO.out HF.out (Nat.le_refl _) (by omega)).mono ?_
      rintro e w2 ⟨rfl, hb2⟩
      have HB2 := Lib.hid hb2
      clear hb2
      go_wp2_with fail
      refine upon_method 130 (by kernel_rfl) (by kernel_rfl) ?_
      go_simp
      with_reducible refine (symText_any (fsz k') s' a' c' k' _ ((HL'.out.below HB2.out).mono (Nat.le_refl _) HB2.out.size) HS'.out HO'.out HF'.out (Nat.le_refl _) (by omega)).mono ?_
      rintro e w3 ⟨rfl, hb3⟩
      go_wp2_with fail
      go_ret
      exact ⟨by rw [HT.out]; rfl, HB2.out.trans (hb3.mono HB2.out.size)⟩

set_option maxRecDepth 100000 in
set_option maxHeartbeats 400000 in
theorem signOfI_any {s v : Int} {k : Fo} {nv : Value} {w : World} (h : Nj w nv s v k) : Calls Try.prog 78 #[nv] w fun e w' => e = .returned (.int .i64 s) ∧ Below w.heap.size w w' := by
  have hta := assert_var
  have htb := assert_sym
  rcases h.node with ⟨rfl, rfl, rfl⟩ | ⟨hs, a, c, rfl, hn⟩
  · clear h
    go_enter Try.func78, Try.ntmps78
    go_wp2_with fail
    go_ret
    exact ⟨rfl, Below.refl _ _⟩
  · clear hn h
    go_enter Try.func78, Try.ntmps78
    go_wp2_with fail
    go_ret
    exact ⟨rfl, (Below.refl _ _).alloc (Nat.le_refl _) _⟩

/-- What a map's writing keeps. -/
structure Kp (base : Nat) (w w' : World) : Prop where
  low : Below base w w'
  cell : ∀ q x, w.cell? q = some x → w'.cell? q = some x
theorem Kp.refl (base : Nat) (w : World) : Kp base w w := ⟨Below.refl _ _, fun _ _ h => h⟩
theorem Kp.trans {base : Nat} {w w' w2 : World} (h : Kp base w w') (h2 : Kp base w' w2) : Kp base w w2 := ⟨h.low.trans h2.low, fun q x hq => h2.cell q x (h.cell q x hq)⟩
theorem Kp.of {base : Nat} {w w' : World} (h : Below w.heap.size w w') (hb : base ≤ w.heap.size) : Kp base w w' := ⟨h.mono hb, fun _ _ hq => cell_low h hq⟩
theorem Nj.kp {base : Nat} {w w2 : World} {val : Value} {s v : Int} {k : Fo} (h : Nj w val s v k) (hb : Kp base w w2) : Nj w2 val s v k :=
  ⟨(h.node.keep hb.cell).mono (Nat.le_refl _) hb.low.size, h.okn, h.ok, h.small⟩
theorem NSl.kp {base : Nat} {w w2 : World} {a : Option Addr} {k : Fo} (h : NSl w 0 w.heap.size a k) (hb : Kp base w w2) : NSl w2 0 w2.heap.size a k := by
  rcases h with h | ⟨b, o, e, h⟩
  · exact .inl h
  · exact .inr ⟨b, o, e, (h.keep hb.cell).mono (Nat.le_refl _) hb.low.size⟩
/-- The same map by another list. -/
theorem MapIs.congr {w : World} {b : Nat} {bs bs' : List Bd} (h : MapIs w b bs) (hs : ∀ x, sv bs' x = sv bs x) (hl : bs'.length = bs.length) : MapIs w b bs' := by
  obtain ⟨n, D, hm, hn, hx⟩ := h
  exact ⟨n, D, hm, by omega, fun x hw => by rw [hs x]; exact hx x hw⟩
end Go.Proofs.Ytlaaihnokoeliab

/-! MA0: Matching, plain: steps of a row. -/
namespace Go.Proofs.Ytlaaihnokoeliab
open Go.RowKit Go.Deep

theorem flen_same {s v v' : Int} {k k' : Fo} (h : okN s v (flen k) = true) (h' : okN s v' (flen k') = true) : flen k = flen k' := by
  have h1 := ((okN_iff _ _ _).1 h).1
  have h2 := ((okN_iff _ _ _).1 h').1
  omega
theorem tmt_sym {bs : List Bd} {s v v' : Int} {k k' : Fo} (hs : s ≠ 0) : tmt bs s v k s v' k' = fmt bs k k' := by unfold tmt; rw [if_neg hs, if_pos rfl]
theorem tmt_other {bs : List Bd} {s v s' v' : Int} {k k' : Fo} (hs : s ≠ 0) (hne : s ≠ s') : tmt bs s v k s' v' k' = none := by unfold tmt; rw [if_neg hs, if_neg hne]
theorem fsz_dropN {j x y : Nat} {p : Int × Int} {k kk r : Fo} (h : fdrop j k = .node x y p kk r) : fsz (fdrop j k) = fsz kk + fsz r + 1 := by rw [h]; rfl

theorem mtV_found {bs : List Bd} {x : Int} {u t : Int × Int × Fo} (h : sv bs x = some u) : mtV bs x t = if teq u.1 u.2.1 u.2.2 t.1 t.2.1 t.2.2 = true then some bs else none := by unfold mtV; rw [h]
theorem mtV_none {bs : List Bd} {x : Int} {t : Int × Int × Fo} (h : sv bs x = none) : mtV bs x t = some (ladd bs (x, t)) := by unfold mtV; rw [h]
theorem tmt_zero {bs : List Bd} {v s' v' : Int} {k k' : Fo} : tmt bs 0 v k s' v' k' = mtV bs v (s', v', k') := by unfold tmt; rw [if_pos rfl]
end Go.Proofs.Ytlaaihnokoeliab
