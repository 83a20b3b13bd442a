/- Several texts in one: SHt, T1, T1b, T2, T3, TXL. -/
import Derived.Test.YtbnbogdglffkmaaProg
import Derived.Shelf.Strconv.Itoa3
import Derived.Shelf.Strings.OnBuilder
import Derived.Ground.NamesProg
import Derived.Test.YtbnbogdglffkmaaKEw9
import Derived.Test.YtbnbogdglffkmaaKEw2
import Derived.Test.YtbnbogdglffkmaaKEw7
import Derived.Test.YtbnbogdglffkmaaKEw3
import Derived.Deep.RegionHeld3
import Derived.Laws.IdiomStrings
import Derived.Laws.BitsLemmas

/-! SHt: The contracts of strconv.Itoa and strings.Builder at this program. -/
namespace Go.Proofs
open Go.Shelf
def Try.lays171_ren : Go.Shelf.Ren := ⟨fun | 171 => 45 | 243 => 46 | 246 => 47 | 283 => 48 | 284 => 49 | 285 => 50 | 286 => 51 | 129 => 53 | 317 => 52 | 318 => 54 | 319 => 55 | 320 => 56 | 337 => 57 | 338 => 58 | n => n, fun | 3 => 3 | 9 => 9 | 2 => 2 | 4 => 4 | 171 => 83 | 0 => 0 | 53 => 84 | 37 => 55 | 5 => 5 | 173 => 87 | 212 => 90 | 51 => 71 | 20 => 20 | 213 => 91 | 46 => 93 | 232 => 96 | 233 => 97 | n => n, fun | 17 => 0 | 18 => 1 | 19 => 2 | n => n⟩
theorem Try.lays171 : Go.Proofs.Lays.n171 Try.prog Try.lays171_ren := {
  mixed := by kernel_rfl
  f129 := Try.func53.trans (congrArg some (by kernel_rfl))
  f171 := Try.func45.trans (congrArg some (by kernel_rfl))
  f243 := Try.func46.trans (congrArg some (by kernel_rfl))
  f246 := Try.func47.trans (congrArg some (by kernel_rfl))
  f283 := Try.func48.trans (congrArg some (by kernel_rfl))
  f284 := Try.func49.trans (congrArg some (by kernel_rfl))
  f285 := Try.func50.trans (congrArg some (by kernel_rfl))
  f286 := Try.func51.trans (congrArg some (by kernel_rfl))
  f317 := Try.func52.trans (congrArg some (by kernel_rfl))
  f318 := Try.func54.trans (congrArg some (by kernel_rfl))
  f319 := Try.func55.trans (congrArg some (by kernel_rfl))
  f320 := Try.func56.trans (congrArg some (by kernel_rfl))
  f337 := Try.func57.trans (congrArg some (by kernel_rfl))
  f338 := Try.func58.trans (congrArg some (by kernel_rfl))
  t0 := Try.underlying0
  a0 := Try.isAgg0
  z0 := Try.sizeOf0
  v0 := Try.zeroValue0
  t2 := Try.underlying2
  a2 := Try.isAgg2
  z2 := Try.sizeOf2
  v2 := Try.zeroValue2
  t3 := Try.underlying3
  a3 := Try.isAgg3
  z3 := Try.sizeOf3
  v3 := Try.zeroValue3
  t4 := Try.underlying4
  a4 := Try.isAgg4
  z4 := Try.sizeOf4
  v4 := Try.zeroValue4
  t5 := Try.underlying5
  a5 := Try.isAgg5
  z5 := Try.sizeOf5
  v5 := Try.zeroValue5
  t9 := Try.underlying9
  a9 := Try.isAgg9
  z9 := Try.sizeOf9
  v9 := Try.zeroValue9
  t20 := Try.underlying20
  a20 := Try.isAgg20
  z20 := Try.sizeOf20
  v20 := Try.zeroValue20
  t37 := Try.underlying55
  a37 := Try.isAgg55
  z37 := Try.sizeOf55
  v37 := Try.zeroValue55
  t46 := Try.underlying93
  a46 := Try.isAgg93
  z46 := Try.sizeOf93
  v46 := Try.zeroValue93
  t51 := Try.underlying71
  a51 := Try.isAgg71
  z51 := Try.sizeOf71
  v51 := Try.zeroValue71
  t53 := Try.underlying84
  a53 := Try.isAgg84
  z53 := Try.sizeOf84
  v53 := Try.zeroValue84
  t171 := Try.underlying83
  a171 := Try.isAgg83
  z171 := Try.sizeOf83
  v171 := Try.zeroValue83
  t173 := Try.underlying87
  a173 := Try.isAgg87
  z173 := Try.sizeOf87
  v173 := Try.zeroValue87
  t212 := Try.underlying90
  a212 := Try.isAgg90
  z212 := Try.sizeOf90
  v212 := Try.zeroValue90
  t213 := Try.underlying91
  a213 := Try.isAgg91
  z213 := Try.sizeOf91
  t232 := Try.underlying96
  a232 := Try.isAgg96
  z232 := Try.sizeOf96
  v232 := Try.zeroValue96
  t233 := Try.underlying97
  a233 := Try.isAgg97
  z233 := Try.sizeOf97
  v233 := Try.zeroValue97
  g17 := by kernel_rfl
  g18 := by kernel_rfl
  g19 := by kernel_rfl }
def Try.lays156_ren : Go.Shelf.Ren := ⟨fun | 156 => 62 | 165 => 63 | 166 => 64 | 169 => 65 | 240 => 66 | 241 => 67 | 276 => 68 | 277 => 69 | n => n, fun | 31 => 46 | 9 => 9 | 3 => 3 | 4 => 4 | 0 => 0 | 20 => 20 | 72 => 101 | 76 => 105 | 70 => 99 | 37 => 55 | 75 => 104 | 127 => 75 | 164 => 107 | 5 => 5 | 80 => 52 | n => n, fun | n => n⟩
theorem Try.lays156 : Go.Proofs.Lays.n156 Try.prog Try.lays156_ren := {
  mixed := by kernel_rfl
  f156 := Try.func62.trans (congrArg some (by kernel_rfl))
  f165 := Try.func63.trans (congrArg some (by kernel_rfl))
  f166 := Try.func64.trans (congrArg some (by kernel_rfl))
  f169 := Try.func65.trans (congrArg some (by kernel_rfl))
  f240 := Try.func66.trans (congrArg some (by kernel_rfl))
  f241 := Try.func67.trans (congrArg some (by kernel_rfl))
  f276 := Try.func68.trans (congrArg some (by kernel_rfl))
  f277 := Try.func69.trans (congrArg some (by kernel_rfl))
  t0 := Try.underlying0
  a0 := Try.isAgg0
  z0 := Try.sizeOf0
  v0 := Try.zeroValue0
  t3 := Try.underlying3
  a3 := Try.isAgg3
  z3 := Try.sizeOf3
  v3 := Try.zeroValue3
  t4 := Try.underlying4
  a4 := Try.isAgg4
  z4 := Try.sizeOf4
  v4 := Try.zeroValue4
  t9 := Try.underlying9
  a9 := Try.isAgg9
  z9 := Try.sizeOf9
  v9 := Try.zeroValue9
  t20 := Try.underlying20
  a20 := Try.isAgg20
  z20 := Try.sizeOf20
  v20 := Try.zeroValue20
  t31 := Try.underlying46
  a31 := Try.isAgg46
  z31 := Try.sizeOf46
  v31 := Try.zeroValue46
  t37 := Try.underlying55
  a37 := Try.isAgg55
  z37 := Try.sizeOf55
  v37 := Try.zeroValue55
  t70 := Try.underlying99
  a70 := Try.isAgg99
  z70 := Try.sizeOf99
  v70 := Try.zeroValue99
  t72 := Try.underlying101
  a72 := Try.isAgg101
  z72 := Try.sizeOf101
  v72 := Try.zeroValue101
  t75 := Try.underlying104
  a75 := Try.isAgg104
  z75 := Try.sizeOf104
  v75 := Try.zeroValue104
  t76 := Try.underlying105
  a76 := Try.isAgg105
  z76 := Try.sizeOf105
  v76 := Try.zeroValue105
  t127 := Try.underlying75
  a127 := Try.isAgg75
  z127 := Try.sizeOf75
  v127 := Try.zeroValue75
  t164 := Try.underlying107
  a164 := Try.isAgg107
  z164 := Try.sizeOf107
  v164 := Try.zeroValue107 }
end Go.Proofs

/-! T1: The text of a node, and TermText of the program. -/
namespace Go.Proofs
open Go.Shelf
theorem Try.builderExtra156 : Builder.Extra Try.prog Try.lays156_ren where
  sizeBuilder := by kernel_rfl
  liesBuilder := by kernel_rfl
  t5 := Try.underlying5
  a5 := Try.isAgg5
  z5 := Try.sizeOf5
  v5 := Try.zeroValue5
  infoByte := by kernel_rfl
  cellsByte := by kernel_rfl
  sizeByte := by kernel_rfl
  neB5 := by decide
end Go.Proofs

namespace Go.Proofs.Ytbnbogdglffkmaa
open Go.RowKit Go.Deep

theorem itoa_any (v : Int) (h0 : 0 ≤ v) (h1 : v < 100) (w : World) :
    Calls Try.prog 45 #[.int .i64 v] w fun e w' => e = .returned (.string (str (Lib.decDigits v.toNat))) ∧ w' = w := by
  obtain ⟨n, rfl⟩ := Int.eq_ofNat_of_zero_le h0
  exact Any.strconv_Itoa_small Try.lays171 n (by omega) w

set_option maxHeartbeats 400000 in
theorem varText_any (v : Int) (h0 : 0 ≤ v) (h1 : v < 100) (w : World) :
    Calls Try.prog 44 #[.int .i64 v] w fun e w' => e = .returned (.string (str (120 :: Lib.decDigits v.toNat))) ∧ w' = w := by
  have hz : (str (Lib.decDigits v.toNat)).size ≤ 2 := by rw [str_size]; exact dec_len (by omega)
  go_enter Try.func44, Try.ntmps44
  go_wp2_with fail
  with_reducible refine (itoa_any v h0 h1 _).mono ?_
  rintro e w2 ⟨rfl, rfl⟩
  go_wp2_with fail
  go_ret
  exact ⟨by rw [show (120 :: Lib.decDigits v.toNat) = [120] ++ Lib.decDigits v.toNat from rfl, ← str_add]; rfl, rfl⟩

theorem join_any (ks : List (List UInt8)) (bk n c : Nat) (w : World) (hnk : n = ks.length) (hcells : ∀ (j : Nat) l, ks[j]? = some l → w.cell? ⟨bk, j, none⟩ = some (.string (str l))) (hbk : bk < w.heap.size) (hn : ks.length ≤ 1000) (hc : ks.length ≤ c) (hl : lens ks ≤ 1000000) :
    Calls Try.prog 62 #[.slice (some ⟨bk, 0, none⟩) n c, .string ⟨#[44]⟩] w fun e w' => e = .returned (.string (str (Lib.join ks [44]))) ∧ Below w.heap.size w w' := by
  subst hnk
  have hm : (ks.map str).map (·.data.toList) = ks := by
    rw [List.map_map]
    exact (List.map_congr_left fun x _ => by simp [str]).trans (List.map_id ks)
  have hj := join_len ks
  have := Any.strings_Join Try.lays156 Try.builderExtra156 bk 0 c (ks.map str) ⟨#[44]⟩ w (fun j x hx => by
    rw [List.getElem?_map] at hx
    cases hk : ks[j]? with
    | none => rw [hk] at hx; cases hx
    | some l => rw [hk] at hx; obtain rfl := Option.some.inj hx; rw [Nat.zero_add]; exact hcells j l hk) hbk (by rw [List.length_map]; omega) (by rw [List.length_map]; exact hc) (by rw [hm]; show (Lib.join ks [44]).length ≤ _; omega)
  rw [hm, List.length_map] at this
  exact this

theorem Try.infoS : ∃ i, Try.prog.info? 9 = some i ∧ i.zero = some (.string ⟨#[]⟩) ∧ i.size = 1 ∧ i.bytes = 16 := by
  have h : (Try.prog.info? 9).map (fun i => (i.zero, i.size, i.bytes)) = some (some (.string ⟨#[]⟩), 1, 16) := by kernel_rfl
  obtain ⟨i, hi, hz⟩ := Option.map_eq_some_iff.1 h
  simp only [Prod.mk.injEq] at hz
  exact ⟨i, hi, hz.1, hz.2.1, hz.2.2⟩
theorem make_strs (n : Nat) (hn : n ≤ 1048576) (w : World) :
    (Instr.makeSlice 46 (.int .i64 (n : Int)) (.int .i64 (n : Int))).run Try.prog w = .ok (.slice (some ⟨w.heap.size, 0, none⟩) n n) (w.alloc (.cells (madeCells #[.string ⟨#[]⟩] n) 9)) := by
  obtain ⟨i, hi, hz, hs, hb⟩ := Try.infoS
  have := run_make (P := Try.prog) w 46 9 i _ Try.underlying46 hi hz .i64 .i64 (n : Int) (n : Int) (by omega) (by omega) (by rw [hb]; omega) (by omega)
  rw [hs] at this
  simpa [Value.cells] using this
theorem strs_made (w : World) (n : Nat) (hn : n ≤ 1048576) : (w.alloc (.cells (madeCells #[.string ⟨#[]⟩] n) 9)).ownsRow w.heap.size 9 1 (.slice (some ⟨w.heap.size, 0, none⟩) n n) n ((List.replicate n []).map fun l => Value.string (str l)) := by
  refine ⟨by simp, .inr ⟨w.heap.size, n, madeCells #[.string ⟨#[]⟩] n, rfl, Nat.le_refl _, heap_alloc_new _ _, Nat.le_refl _, by unfold maxLen; omega, by simp [size_madeCells], ?_⟩⟩
  rw [toList_madeCells_one, List.map_replicate, List.take_of_length_le (by simp)]
  rfl
theorem sign_slice1 (w : World) : (Instr.slice 9 (.string ⟨#[97, 98, 103, 102]⟩) (some (.int .i64 0)) (some (.int .i64 1)) none).run Try.prog w = .ok (.string (str [97])) w := by kernel_rfl
theorem sign_slice2 (w : World) : (Instr.slice 9 (.string ⟨#[97, 98, 103, 102]⟩) (some (.int .i64 1)) (some (.int .i64 2)) none).run Try.prog w = .ok (.string (str [98])) w := by kernel_rfl
theorem sign_slice3 (w : World) : (Instr.slice 9 (.string ⟨#[97, 98, 103, 102]⟩) (some (.int .i64 2)) (some (.int .i64 3)) none).run Try.prog w = .ok (.string (str [103])) w := by kernel_rfl
theorem sign_slice4 (w : World) : (Instr.slice 9 (.string ⟨#[97, 98, 103, 102]⟩) (some (.int .i64 3)) (some (.int .i64 4)) none).run Try.prog w = .ok (.string (str [102])) w := by kernel_rfl
theorem sign_slice {s : Int} (h0 : 1 ≤ s) (h1 : s ≤ 4) (w : World) :
    (Instr.slice 9 (.string ⟨#[97, 98, 103, 102]⟩) (some (.int .i64 (s - 1))) (some (.int .i64 s)) none).run Try.prog w = .ok (.string (str (ltr s))) w := by
  have : s = 1 ∨ s = 2 ∨ s = 3 ∨ s = 4 := by omega
  rcases this with rfl | rfl | rfl | rfl
  · exact sign_slice1 w
  · exact sign_slice2 w
  · exact sign_slice3 w
  · exact sign_slice4 w
theorem cell_lowT {W w2 : World} {q : Addr} {x : Value} (hb : Below W.heap.size W w2) (h : W.cell? q = some x) : w2.cell? q = some x := by
  rw [hb.cell (World.block_lt_of_cell? _ _ h)]; exact h
theorem okN_signs {s v : Int} {n : Nat} (hs : s ≠ 0) (h : okN s v n = true) : 1 ≤ s ∧ s ≤ 4 := by
  have h' := ((okN_iff _ _ _).1 h).1
  unfold ar at h'
  split at h'
  · omega
  · split at h'
    · omega
    · split at h' <;> omega

set_option maxRecDepth 100000 in
set_option maxHeartbeats 1000000 in
theorem symText_any (N : Nat) : ∀ (s : Int) (a : Option Addr) (c : Nat) (k : Fo) (w : World), NSl w 0 w.heap.size a k → s ≠ 0 → okN s 0 (flen k) = true → fok k = true → fsz k ≤ N → N ≤ 1000 →
    Calls Try.prog 61 #[.agg #[.int .i64 s, .slice a (flen k) c]] w fun e w' => e = .returned (.string (str (tx s 0 k))) ∧ Below w.heap.size w w' := by
  induction N using Nat.strongRecOn with
  | _ N ih =>
    intro s a c k w hl hs hokN hok hN hN2
    have hfl := flen_le_sz k
    obtain ⟨hs1, hs4⟩ := okN_signs hs hokN
    have hsl := fun w => sign_slice hs1 hs4 w
    have hshort := fts_short k hok
    have hjl := join_len (fts k)
    have hfl2 := fts_len k
    have hll := ltr_len s
    have HOK := Lib.hid hok
    have HSH := Lib.hid hshort
    have IH := Lib.hid ih
    have HS := Lib.hid hs
    have hz1 : (str (ltr s)).size = 1 := by rw [str_size]; exact hll
    have hz2 : (str (Lib.join (fts k) [44])).size ≤ 100000 := by rw [str_size]; omega
    have hz3 : (str (ltr s ++ [40])).size = 2 := by rw [str_size]; simp [hll]
    have hz4 : (str ((ltr s ++ [40]) ++ Lib.join (fts k) [44])).size ≤ 100002 := by rw [str_size] at hz2 ⊢; simp [hll]; omega
    have HJ1 : Hid (str (ltr s) ++ ⟨#[40]⟩ = str (ltr s ++ [40])) := (str_add _ [40])
    have HJ2 : Hid (str (ltr s ++ [40]) ++ str (Lib.join (fts k) [44]) = str ((ltr s ++ [40]) ++ Lib.join (fts k) [44])) := (str_add _ _)
    have HJ3 : Hid (str ((ltr s ++ [40]) ++ Lib.join (fts k) [44]) ++ ⟨#[41]⟩ = str (((ltr s ++ [40]) ++ Lib.join (fts k) [44]) ++ [41])) := (str_add _ [41])
    clear ih hok hshort hjl hll hs hokN
    by_cases hk0 : flen k = 0
    · have HT := Lib.hid (tx_leaf (v := 0) HS.out hk0)
      have ek : ((flen k : Int) == 0) = true := by simp [hk0]
      clear hl hfl hN hfl2 hk0
      go_enter Try.func61, Try.ntmps61
      go_wp2_with fail
      go_ret
      exact ⟨by rw [HT.out]; rfl, (Below.refl _ _).alloc (Nat.le_refl _) _⟩
    · have HT := Lib.hid (tx_kids (v := 0) HS.out hk0)
      have ek : ((flen k : Int) == 0) = false := by simp; omega
      have hmk := make_strs (flen k) (by omega)
      have HST := Lib.hid (strs_made (w.alloc (.cells #[.int .i64 s, .slice a (flen k) c] 63)) (flen k) (by omega))
      go_enter Try.func61, Try.ntmps61
      go_wp2_with fail
      clear hmk
      go_loopw [25] (fun i wr => ∃ (j : Nat) (ys : List (List UInt8)), j ≤ flen k ∧ i = .int .i64 j ∧ Hid (ys.length = flen k ∧ ∀ q, q < j → ys[q]? = (fts k)[q]?) ∧ Hid (wr.ownsRow (w.heap.size + 1) 9 1 (.slice (some ⟨w.heap.size + 1, 0, none⟩) (flen k) (flen k)) (flen k) (ys.map fun l => Value.string (str l))) ∧ Below (w.heap.size + 1) (w.alloc (.cells #[.int .i64 s, .slice a (flen k) c] 63)) wr) (fun i _ => flen k - (intOf i).toNat)
      case atStart => exact ⟨0, List.replicate (flen k) [], by omega, rfl, ⟨by simp, fun q hq => by omega⟩, by simpa [Hid] using HST.out, (Below.refl _ _).alloc (by simp) _⟩
      case round =>
        clear HST
        obtain ⟨j, ys, hj, rfl, hys, hown, hbl⟩ := hrel
        have hsr := hbl.size
        simp at hsr
        by_cases hlt : j < flen k
        · rcases hl with rfl | ⟨b, o, rfl, hrow⟩
          · simp [flen] at hlt
          obtain ⟨s', v', kk, val, ⟨x, y, hd⟩, _, hbB, hkc, hn⟩ := nrow_at (hrow.below (after_top hbl)) hlt
          have hkN := fsz_kid hd
          have hkok := fok_kid HOK.out hd
          have HAT := Lib.hid (fts_at j k hd)
          have HBL := Lib.hid hbl
          have g1 : (0 : Int) ≤ (j : Int) := by omega
          have g2 : (j : Int) < (flen k : Int) := by omega
          clear hd hrow hbl hsl hz1 hz2 hz3 hz4
          have hcl : ∃ u, wr.cell? ⟨w.heap.size + 1, j, none⟩ = some u := by
            rw [hown.out.cellAt j (by omega)]
            exact ⟨_, List.getElem?_eq_getElem (by simp [hys.out.1, hlt])⟩
          have hfz := hown.out.frozenAt j
          have HFIN : Hid (∀ w2 : World, Below wr.heap.size wr w2 → (∃ u, w2.cell? ⟨w.heap.size + 1, j, none⟩ = some u) ∧ w2.frozen? ⟨w.heap.size + 1, j, none⟩ = false ∧ (∃ ys' : List (List UInt8), Hid (ys'.length = flen k ∧ ∀ q, q < j + 1 → ys'[q]? = (fts k)[q]?) ∧ Hid ((w2.setCell ⟨w.heap.size + 1, j, none⟩ (.string (str (tx s' v' kk)))).ownsRow (w.heap.size + 1) 9 1 (.slice (some ⟨w.heap.size + 1, 0, none⟩) (flen k) (flen k)) (flen k) (ys'.map fun l => Value.string (str l)))) ∧ Below (w.heap.size + 1) (w.alloc (.cells #[.int .i64 s, .slice (some ⟨b, o, none⟩) (flen k) c] 63)) (w2.setCell ⟨w.heap.size + 1, j, none⟩ (.string (str (tx s' v' kk))))) := by
            intro w2 hb2
            have hown2 := own_low hb2 hown.out
            obtain ⟨u, hcl⟩ := hcl
            refine ⟨⟨u, cell_lowT hb2 hcl⟩, hown2.frozenAt j, ⟨ys.set j (tx s' v' kk), ?_, ?_⟩, (HBL.out.trans (hb2.mono hsr)).setCell (by simp) _⟩
            · refine ⟨by rw [List.length_set]; exact hys.out.1, fun q hq => ?_⟩
              by_cases e : q = j
              · subst e
                rw [List.getElem?_set_self (by rw [hys.out.1]; exact hlt), HAT.out]
              · rw [List.getElem?_set_ne (fun h => e h.symm)]
                exact hys.out.2 q (by omega)
            · obtain ⟨hst, _⟩ := hown2.stored j (.string (str (tx s' v' kk)))
              unfold Hid
              rw [List.map_set]
              exact hst
          clear hown hys hcl hfz HAT
          rcases hn with ⟨rfl, rfl, rfl⟩ | ⟨hs', a2, c2, rfl, hn2⟩
          · have hv := ((okN_iff _ _ _).1 hkok.1).2.1 rfl
            clear hkok
            go_wp2_with fail
            refine upon_method 44 (by kernel_rfl) (by kernel_rfl) ?_
            go_simp
            with_reducible refine (varText_any v' hv.1 (by omega) _).mono ?_
            rintro e w2 ⟨rfl, rfl⟩
            obtain ⟨⟨u, hcl⟩, hfz, ⟨ys', hys', hown'⟩, hbl'⟩ := HFIN.out w2 (Below.refl _ _)
            rw [tx_var] at hown' hbl'
            have HBL' := Lib.hid hbl'
            clear HFIN hbl'
            go_wp2_with fail
            go_roundw
            case rel => exact ⟨j + 1, ys', by omega, by go_num, hys', hown', HBL'.out⟩
            case measure => simp [intOf]; omega
          · have hv0 : v' = 0 := ((okN_iff _ _ _).1 hkok.1).2.2 hs'
            subst hv0
            have HKO := Lib.hid hkok
            have HN2 := Lib.hid hn2
            have HS' := Lib.hid hs'
            clear hn2 hkok hs'
            go_wp2_with fail
            refine upon_method 61 (by kernel_rfl) (by kernel_rfl) ?_
            go_simp
            with_reducible refine (IH.out (fsz kk) (by omega) s' a2 c2 kk _ ?_ HS'.out HKO.out.1 HKO.out.2 (Nat.le_refl _) (by omega)).mono ?_
            · exact HN2.out.mono (Nat.le_refl _) (by omega)
            rintro e w2 ⟨rfl, hb2⟩
            obtain ⟨⟨u, hcl⟩, hfz, ⟨ys', hys', hown'⟩, hbl'⟩ := HFIN.out w2 hb2
            have HBL' := Lib.hid hbl'
            clear HFIN hbl' hb2
            go_wp2_with fail
            go_roundw
            case rel => exact ⟨j + 1, ys', by omega, by go_num, hys', hown', HBL'.out⟩
            case measure => simp [intOf]; omega
        · have hje : j = flen k := by omega
          subst hje
          have HE : Hid (ys = fts k) := by
            refine List.ext_getElem? fun q => ?_
            by_cases hq : q < flen k
            · exact hys.out.2 q hq
            · rw [List.getElem?_eq_none (by rw [hys.out.1]; omega), List.getElem?_eq_none (by rw [fts_len]; omega)]
          have HCE : Hid (∀ (q : Nat) l, (fts k)[q]? = some l → wr.cell? ⟨w.heap.size + 1, q, none⟩ = some (.string (str l))) := fun q l hql => by
            have hq := (List.getElem?_eq_some_iff.1 hql).1
            rw [hown.out.cellAt q (by rw [fts_len] at hq; omega), HE.out, List.getElem?_map, hql]
            rfl
          have hgl : w.heap.size + 1 < wr.heap.size := by
            rcases hown.out.2 with ⟨h, _⟩ | ⟨g, cap, cur, hv, _, hg, _⟩
            · cases h
            · simp only [Value.slice.injEq, Option.some.injEq, Addr.mk.injEq] at hv
              obtain ⟨⟨rfl, _⟩, _⟩ := hv
              exact (Array.getElem?_eq_some_iff.1 hg).1
          have HBL := Lib.hid hbl
          clear hys hown hbl
          go_wp2_with fail
          rw [HJ1.out]
          go_wp2_with fail
          with_reducible refine (join_any (fts k) (w.heap.size + 1) (flen k) (flen k) _ hfl2.symm HCE.out hgl (by omega) (by omega) ?_).mono ?_
          · have := HSH.out; omega
          rintro e w2 ⟨rfl, hb2⟩
          have HB2 := Lib.hid (HBL.out.trans (hb2.mono hsr))
          clear hb2 hgl
          go_wp2_with fail
          rw [HJ2.out]
          go_wp2_with fail
          rw [HJ3.out]
          go_wp2_with fail
          go_ret
          exact ⟨by rw [HT.out]; simp, after_top HB2.out⟩
end Go.Proofs.Ytbnbogdglffkmaa

/-! T1b: TermText of the program. -/
namespace Go.Proofs.Ytbnbogdglffkmaa
open Go.RowKit Go.Deep

set_option maxRecDepth 100000 in
set_option maxHeartbeats 1000000 in
theorem iTermText_any (s v : Int) (a : Option Addr) (c : Nat) (k : Fo) (w : World) (hl : Sl w 0 w.heap.size a k) :
    Calls Try.prog 13 #[.agg #[.int .i64 s, .int .i64 v, .slice a (flen k) c]] w fun e w' => e = .returned (.string (str (if okW s v k 16 = true then tx s v k else []))) ∧ Below w.heap.size w w' := by
  cases hok : okW s v k 16 with
  | false =>
    have HOK := Lib.hid hok
    clear hok
    go_enter Try.func13, Try.ntmps13
    go_wp2_with fail
    with_reducible refine (nodeOf_any s v a c k 16 _ ?_ (by omega) (by omega)).mono ?_
    · exact (hl.below ((Below.refl _ _).alloc (Nat.le_refl _) _)).mono (Nat.le_refl _) (by simp)
    rintro e w2 ⟨nv, he, hb, hyes⟩
    rw [HOK.out] at he
    subst he
    clear hyes
    go_wp2_with fail
    go_ret
    exact ⟨rfl, ((Below.refl _ _).alloc (Nat.le_refl _) _).trans (hb.mono (by simp))⟩
  | true =>
    have HOK := Lib.hid hok
    obtain ⟨hoN, hof, hsz⟩ := (okW_iff _ _ _ _).1 hok
    clear hok
    go_enter Try.func13, Try.ntmps13
    go_wp2_with fail
    with_reducible refine (nodeOf_any s v a c k 16 _ ?_ (by omega) (by omega)).mono ?_
    · exact (hl.below ((Below.refl _ _).alloc (Nat.le_refl _) _)).mono (Nat.le_refl _) (by simp)
    rintro e w2 ⟨nv, he, hb, hyes⟩
    rw [HOK.out] at he
    subst he
    have hn := hyes HOK.out
    have HB := Lib.hid (((Below.refl _ _).alloc (Nat.le_refl _) _).trans (hb.mono (by simp)))
    clear hyes hb
    rcases hn with ⟨rfl, rfl, rfl⟩ | ⟨hs', a2, c2, rfl, hn2⟩
    · have hv := ((okN_iff _ _ _).1 hoN).2.1 rfl
      go_wp2_with fail
      refine upon_method 44 (by kernel_rfl) (by kernel_rfl) ?_
      go_simp
      with_reducible refine (varText_any v hv.1 (by omega) _).mono ?_
      rintro e w3 ⟨rfl, rfl⟩
      go_wp2_with fail
      go_ret
      exact ⟨by simp [tx_var], HB.out⟩
    · have HN2 := Lib.hid hn2
      have hv0 : v = 0 := ((okN_iff _ _ _).1 hoN).2.2 hs'
      subst hv0
      have HHO := Lib.hid hoN
      have HHF := Lib.hid hof
      have HS := Lib.hid hs'
      clear hn2 hoN hof hs'
      go_wp2_with fail
      refine upon_method 61 (by kernel_rfl) (by kernel_rfl) ?_
      go_simp
      with_reducible refine (symText_any (fsz k) s a2 c2 k _ ?_ HS.out HHO.out HHF.out (Nat.le_refl _) (by omega)).mono ?_
      · exact HN2.out.mono (Nat.zero_le _) (Nat.le_refl _)
      rintro e w3 ⟨rfl, hb3⟩
      go_wp2_with fail
      go_ret
      exact ⟨by simp, HB.out.trans (hb3.mono HB.out.size)⟩
end Go.Proofs.Ytbnbogdglffkmaa

/-! T2: The specification's decimal, its text of a term, its TermText. -/
namespace Go.Proofs.Ytbnbogdglffkmaa
open Go.RowKit Go.Deep

/-- The text of one digit. -/
def dgt (n : Nat) : List UInt8 := [UInt8.ofNat (48 + n)]
theorem dec_dgt {n : Nat} (h : n < 10) : Lib.decDigits n = dgt n := by
  unfold Lib.decDigits dgt
  rw [dif_pos h]
theorem byte_str (g : Nat) (n : Nat) (hn : n < 10) (w : World) (h : w.cell? ⟨g, 0, none⟩ = some (.int .u8 (48 + n))) :
    (convert 55 9 (.slice (some ⟨g, 0, none⟩) 1 1)).run Try.prog w = .ok (.string (str (dgt n))) w :=
  run_convert_bytes_back (P := Try.prog) w 55 9 5 ⟨g, 0, none⟩ 1 (dgt n) Try.underlying55 Try.underlying5 Try.underlying9 (fun j hj => by
    obtain rfl : j = 0 := by simp [dgt] at hj; omega
    show w.cell? ⟨g, 0, none⟩ = _
    rw [h]
    simp [dgt, UInt8.toNat_ofNat]
    omega)

set_option maxRecDepth 100000 in
set_option maxHeartbeats 1000000 in
theorem l6Dec_one (n : Nat) (hn : n < 10) (w : World) :
    Calls Try.prog 17 #[.int .i64 n] w fun e w' => e = .returned (.string (str (dgt n))) ∧ w' = w.alloc (.cells #[.int .u8 (48 + n)] 5) := by
  have hcv := fun (w : World) (g : Nat) => byte_str g n hn w
  go_enter Try.func17, Try.ntmps17
  go_wp2_with fail
  go_ret
  exact ⟨by rfl, rfl⟩

set_option maxRecDepth 100000 in
set_option maxHeartbeats 1000000 in
theorem l6Dec_two (n : Nat) (hn : n < 10) (w : World) :
    Calls Try.prog 17 #[.int .i64 (10 + n)] w fun e w' => e = .returned (.string (str (dgt 1 ++ dgt n))) ∧ Below w.heap.size w w' := by
  have hcv := fun (w : World) (g : Nat) => byte_str g n hn w
  have hq : (10 + (n : Int)).tdiv 10 = 1 := by rw [Int.tdiv_eq_ediv_of_nonneg (by omega)]; omega
  have hr : (10 + (n : Int)).tmod 10 = n := by rw [Int.tmod_eq_emod_of_nonneg (by omega)]; omega
  have hw1 : IntKind.i64.wrap (48 + (n : Int)) = 48 + n := by rw [IntKind.wrap_i64]; omega
  have hw2 : IntKind.u8.wrap (48 + (n : Int)) = 48 + n := by rw [IntKind.wrap_u8]; omega
  have hw3 : IntKind.i64.wrap 1 = 1 := by rw [IntKind.wrap_i64]; omega
  have hz1 : (str (dgt 1)).size = 1 := rfl
  have hz2 : (str (dgt n)).size = 1 := by rw [str_size]; rfl
  have hc1 := byte_str w.heap.size n hn (w.alloc (.cells #[.int .u8 (48 + (n : Int))] 5)).drew (by rw [World.cell?_drew]; simp)
  have hc2 := byte_str w.heap.size n hn ((w.alloc (.cells #[.int .u8 (48 + (n : Int))] 5)).alloc (.cells #[.int .u8 49] 5)).drew (by rw [World.cell?_drew]; simp)
  have hc3 := byte_str (w.heap.size + 1) n hn ((w.alloc (.cells #[.int .u8 49] 5)).alloc (.cells #[.int .u8 (48 + (n : Int))] 5)).drew (by rw [World.cell?_drew]; simp)
  clear hcv
  have HJ : Hid (str (dgt 1) ++ str (dgt n) = str (dgt 1 ++ dgt n)) := str_add _ _
  go_enter Try.func17, Try.ntmps17
  go_wp2_with fail
  go_region_with ((go_at_call 17; refine (l6Dec_one 1 (by omega) _).mono ?_; rintro e w2 ⟨rfl, rfl⟩))
  all_goals
    rw [HJ.out]
    go_wp2_with fail
    go_ret
    exact ⟨by rfl, (((Below.refl _ _).alloc (Nat.le_refl _) _).alloc (by simp) _).drew⟩

theorem l6Dec_any (v : Int) (h0 : 0 ≤ v) (h1 : v < 12) (w : World) :
    Calls Try.prog 17 #[.int .i64 v] w fun e w' => e = .returned (.string (str (Lib.decDigits v.toNat))) ∧ Below w.heap.size w w' := by
  obtain ⟨n, rfl⟩ := Int.eq_ofNat_of_zero_le h0
  by_cases hn : n < 10
  · rw [show Lib.decDigits (Int.toNat (n : Int)) = dgt n from dec_dgt hn]
    exact (l6Dec_one n hn w).mono fun e w' ⟨he, hw⟩ => ⟨he, hw ▸ (Below.refl _ _).alloc (Nat.le_refl _) _⟩
  · obtain ⟨m, rfl⟩ : ∃ m, n = 10 + m := ⟨n - 10, by omega⟩
    have hm : m < 10 := by omega
    have hd : Lib.decDigits (Int.toNat ((10 + m : Nat) : Int)) = dgt 1 ++ dgt m := by
      show Lib.decDigits (10 + m) = _
      unfold Lib.decDigits
      rw [dif_neg (by omega), show (10 + m) / 10 = 1 from by omega, show (10 + m) % 10 = m from by omega, dec_dgt (by omega)]
      rfl
    rw [hd]
    exact l6Dec_two m hm w

/-- What is said when j kids are. -/
def pre (s : Int) (ks : List (List UInt8)) (j : Nat) : List UInt8 := ltr s ++ (if j = 0 then [] else 40 :: Lib.join (ks.take j) [44])
def sp (j : Nat) : List UInt8 := [if j = 0 then 40 else 44]
theorem pre_step {s : Int} {ks : List (List UInt8)} {j : Nat} {x : List UInt8} (h : ks[j]? = some x) : pre s ks (j + 1) = pre s ks j ++ sp j ++ x := by
  unfold pre sp
  rw [if_neg (by omega)]
  obtain ⟨hlt, hx⟩ := List.getElem?_eq_some_iff.1 h
  rw [List.take_succ_eq_append_getElem hlt, hx]
  by_cases h0 : j = 0
  · subst h0
    simp [Lib.join_one]
  · rw [if_neg h0, if_neg h0]
    have hne : ks.take j ≠ [] := by
      intro h'
      rcases List.take_eq_nil_iff.1 h' with h' | h'
      · exact h0 h'
      · rw [h'] at hlt; simp at hlt
    have : Lib.join (ks.take j ++ [x]) [44] = Lib.join (ks.take j) [44] ++ [44] ++ x := by
      cases hl : ks.take j with
      | nil => exact absurd hl hne
      | cons y r =>
        rw [List.cons_append, Lib.join_cons, Lib.join_cons]
        simp [Lib.joinTail]
    rw [this]
    simp
theorem pre_len (s : Int) (ks : List (List UInt8)) (j : Nat) : (pre s ks j).length ≤ 2 + lens ks + ks.length := by
  unfold pre
  have h1 := ltr_len s
  split
  · simp; omega
  · have h2 := join_len (ks.take j)
    have h3 : lens (ks.take j) ≤ lens ks := by
      have := congrArg (fun l => lens l) (List.take_append_drop j ks)
      simp only [lens, List.map_append, List.sum_append] at this
      unfold lens
      omega
    have h4 : (ks.take j).length ≤ ks.length := by simp; omega
    simp; omega
theorem lens_at : ∀ {ks : List (List UInt8)} {j : Nat} {x : List UInt8}, ks[j]? = some x → x.length ≤ lens ks
  | [], _, _, h => by simp at h
  | y :: r, 0, x, h => by
    simp at h
    subst h
    simp [lens]
  | y :: r, j + 1, x, h => by
    have := lens_at (ks := r) (j := j) (x := x) (by simpa using h)
    simp only [lens, List.map_cons, List.sum_cons] at this ⊢
    omega
theorem tx_pre {s v : Int} {k : Fo} (hs : s ≠ 0) (hk : flen k ≠ 0) : tx s v k = pre s (fts k) (flen k) ++ [41] := by
  rw [tx_kids hs hk]
  unfold pre
  rw [if_neg hk, List.take_of_length_le (by rw [fts_len]; omega)]
  simp
theorem sp_cell (W : World) {j : Nat} (hj : j < 2) : (W.alloc (.cells #[.string ⟨#[40]⟩, .string ⟨#[44]⟩] 9)).cell? ⟨W.heap.size, j, none⟩ = some (.string (str (sp j))) := by
  have : j = 0 ∨ j = 1 := by omega
  rcases this with rfl | rfl
  · rw [World.cell?_alloc_at _ _ _ _ rfl]; rfl
  · rw [World.cell?_alloc_at _ _ _ _ rfl]; rfl
theorem say_out_cell (W : World) {s : Int} (h0 : 1 ≤ s) (h1 : s ≤ 4) : (W.alloc (.cells #[.string ⟨#[]⟩, .string ⟨#[97]⟩, .string ⟨#[98]⟩, .string ⟨#[103]⟩, .string ⟨#[102]⟩] 9)).cell? ⟨W.heap.size, s.toNat, none⟩ = some (.string (str (ltr s))) := by
  have : s = 1 ∨ s = 2 ∨ s = 3 ∨ s = 4 := by omega
  rcases this with rfl | rfl | rfl | rfl
  · rw [World.cell?_alloc_at _ _ _ _ rfl]; rfl
  · rw [World.cell?_alloc_at _ _ _ _ rfl]; rfl
  · rw [World.cell?_alloc_at _ _ _ _ rfl]; rfl
  · rw [World.cell?_alloc_at _ _ _ _ rfl]; rfl
theorem cell_lowS {W w2 : World} {q : Addr} {x : Value} (hb : Below W.heap.size W w2) (h : W.cell? q = some x) : w2.cell? q = some x := by
  rw [hb.cell (World.block_lt_of_cell? _ _ h)]; exact h
end Go.Proofs.Ytbnbogdglffkmaa

/-! T3: - The specification's text of a term. -/
namespace Go.Proofs.Ytbnbogdglffkmaa
open Go.RowKit Go.Deep

theorem keepT {W w2 : World} {B : Nat} {b1 o1 b2 o2 : Nat} {x1 x2 x3 x4 : Value} (hb : Below B W w2) (h1 : W.cell? ⟨b1, o1, none⟩ = some x1) (h2 : W.cell? ⟨b2, o2, none⟩ = some x2) (h3 : W.cell? ⟨b2, o2 + 1, none⟩ = some x3) (h4 : W.cell? ⟨b2, o2 + 2, none⟩ = some x4)
    (g1 : b1 < B) (g2 : b2 < B) : w2.cell? ⟨b1, o1, none⟩ = some x1 ∧ w2.cell? ⟨b2, o2, none⟩ = some x2 ∧ w2.cell? ⟨b2, o2 + 1, none⟩ = some x3 ∧ w2.cell? ⟨b2, o2 + 2, none⟩ = some x4 :=
  ⟨by rw [hb.cell g1]; exact h1, by rw [hb.cell g2]; exact h2, by rw [hb.cell g2]; exact h3, by rw [hb.cell g2]; exact h4⟩

set_option maxRecDepth 100000 in
set_option maxHeartbeats 2000000 in
theorem l1Say_any (N : Nat) : ∀ (s v : Int) (a : Option Addr) (c : Nat) (k : Fo) (w : World), Sl w 0 w.heap.size a k → okN s v (flen k) = true → fok k = true → fsz k ≤ N → N ≤ 1000 →
    Calls Try.prog 11 #[.agg #[.int .i64 s, .int .i64 v, .slice a (flen k) c]] w fun e w' => e = .returned (.string (str (tx s v k))) ∧ Below w.heap.size w w' := by
  induction N using Nat.strongRecOn with
  | _ N ih =>
    intro s v a c k w hl hokN hok hN hN2
    have hfl := flen_le_sz k
    have hshort := fts_short k hok
    have HOK := Lib.hid hok
    have HSH := Lib.hid hshort
    have IH := Lib.hid ih
    obtain ⟨har, hv0, _⟩ := (okN_iff _ _ _).1 hokN
    clear ih hok hshort
    by_cases hs : s = 0
    · subst hs
      have hk0 : flen k = 0 := by simp [ar] at har; omega
      have hk : k = .nil := by cases k with
        | nil => rfl
        | node => simp [flen] at hk0
      subst hk
      have hv := hv0 rfl
      have hz : (str (Lib.decDigits v.toNat)).size ≤ 2 := by rw [str_size]; exact dec_len (by omega)
      clear hl hfl hN har hokN hv0
      go_enter Try.func11, Try.ntmps11
      go_wp2_with fail
      with_reducible refine (l6Dec_any v hv.1 (by omega) _).mono ?_
      rintro e w2 ⟨rfl, hb⟩
      go_wp2_with fail
      go_ret
      exact ⟨by rw [tx_var, show (120 :: Lib.decDigits v.toNat) = [120] ++ Lib.decDigits v.toNat from rfl, ← str_add]; rfl, ((Below.refl _ _).alloc (Nat.le_refl _) _).trans (hb.mono (by simp))⟩
    · have hsr : (1 ≤ s ∧ s ≤ 4) ∧ flen k ≤ 2 := by
        unfold ar at har
        split at har
        · omega
        · split at har
          · omega
          · split at har <;> omega
      obtain ⟨⟨hs1, hs4⟩, hk2⟩ := hsr
      have HS := Lib.hid hs
      have es : (s == 0) = false := by simp [hs]
      have hco := say_out_cell (w.alloc (.cells #[.int .i64 s, .int .i64 v, .slice a (flen k) c] 31)) hs1 hs4
      obtain ⟨m, rfl⟩ : ∃ m : Nat, s = m := ⟨s.toNat, by omega⟩
      rw [show Int.toNat (m : Int) = m from rfl] at hco
      simp only [World.size_alloc] at hco
      have HF2 : Hid ((fts k).length = flen k) := fts_len k
      clear har hokN hv0 hs
      go_enter Try.func11, Try.ntmps11
      go_wp2_with fail
      clear hco
      go_loopw [3, 4] (fun o i wr => ∃ j : Nat, j ≤ flen k ∧ i = .int .i64 j ∧ o = .string (str (pre m (fts k) j)) ∧ Below (w.heap.size + 1) (w.alloc (.cells #[.int .i64 (m : Int), .int .i64 v, .slice a (flen k) c] 31)) wr) (fun _ i _ => flen k - (intOf i).toNat)
      case atStart => exact ⟨0, by omega, rfl, by simp [pre], (Below.refl _ _).alloc (by simp) _⟩
      case round =>
        obtain ⟨j, hj, rfl, rfl, hbl⟩ := hrel
        obtain ⟨hc0, hc1, hc2⟩ : wr.cell? ⟨w.heap.size, 0, none⟩ = some (.int .i64 m) ∧ wr.cell? ⟨w.heap.size, 1, none⟩ = some (.int .i64 v) ∧ wr.cell? ⟨w.heap.size, 2, none⟩ = some (.slice a (flen k) c) := box_cells ⟨wr, hbl⟩
        have hsr := hbl.size
        simp at hsr
        have hpl := pre_len m (fts k) j
        have hz1 : (str (pre m (fts k) j)).size ≤ 100000 := by rw [str_size]; have := HSH.out; omega
        by_cases hlt : j < flen k
        · rcases hl with rfl | ⟨b, o, rfl, hrow⟩
          · simp [flen] at hlt
          obtain ⟨s', v', kk, a', c', ⟨x, y, hd⟩, _, hbB, hk0, hk1, hk2', hsl⟩ := row_at (hrow.below (after_top hbl)) hlt
          have hkN := fsz_kid hd
          have HKO := Lib.hid (fok_kid HOK.out hd)
          have hat := fts_at j k hd
          have HST := Lib.hid (pre_step (s := m) hat)
          have hz2 : (str (pre m (fts k) j) ++ str (sp j)).size ≤ 100001 := by rw [str_add, str_size]; rw [str_size] at hz1; simp [sp]; omega
          have hz3 : (str (sp j)).size = 1 := rfl
          have hn1 : ¬ 9223372036854775807 < (str (pre m (fts k) j)).size + (str (sp j)).size := by rw [str_size] at hz1 ⊢; rw [hz3]; omega
          have hz4 : (str (tx s' v' kk)).size ≤ 100000 := by rw [str_size]; have := lens_at hat; have := HSH.out; omega
          have g1 : (0 : Int) ≤ (j : Int) := by omega
          have g2 : (j : Int) < (flen k : Int) := by omega
          have g3 : (j : Int) < 2 := by omega
          have hB1 : Below wr.heap.size wr (wr.alloc (.cells #[.string ⟨#[40]⟩, .string ⟨#[44]⟩] 9)).drew := ((Below.refl _ _).alloc (Nat.le_refl _) _).drew
          have hB0 : Below wr.heap.size wr wr.drew := (Below.refl _ _).drew
          have hcA : (wr.alloc (.cells #[.string ⟨#[40]⟩, .string ⟨#[44]⟩] 9)).drew.cell? ⟨wr.heap.size, j, none⟩ = some (.string (str (sp j))) := sp_cell wr (by omega)
          have HS0 : Hid (Sl wr.drew 0 wr.drew.heap.size a' kk) := (hsl.below (hB0.mono (by omega))).mono (Nat.le_refl _) (by simp; omega)
          have HS1 : Hid (Sl (wr.alloc (.cells #[.string ⟨#[40]⟩, .string ⟨#[44]⟩] 9)).drew 0 (wr.alloc (.cells #[.string ⟨#[40]⟩, .string ⟨#[44]⟩] 9)).drew.heap.size a' kk) := (hsl.below (hB1.mono (by omega))).mono (Nat.le_refl _) (by simp; omega)
          obtain ⟨hq2, hq3, hq4, hq5⟩ := keepT (B := w.heap.size + 1) (hB1.mono (by omega)) hc2 hk0 hk1 hk2' (by omega) (by omega)
          have hq2' : (wr.alloc (.cells #[.string ⟨#[40]⟩, .string ⟨#[44]⟩] 9)).cell? ⟨w.heap.size, 2, none⟩ = some (.slice (some ⟨b, o, none⟩) (flen k) c) := hq2
          have hq3' : (wr.alloc (.cells #[.string ⟨#[40]⟩, .string ⟨#[44]⟩] 9)).cell? ⟨b, o + j * 3, none⟩ = some (.int .i64 s') := hq3
          have hq4' : (wr.alloc (.cells #[.string ⟨#[40]⟩, .string ⟨#[44]⟩] 9)).cell? ⟨b, o + j * 3 + 1, none⟩ = some (.int .i64 v') := hq4
          have hq5' : (wr.alloc (.cells #[.string ⟨#[40]⟩, .string ⟨#[44]⟩] 9)).cell? ⟨b, o + j * 3 + 2, none⟩ = some (.slice a' (flen kk) c') := hq5
          have hcA' : (wr.alloc (.cells #[.string ⟨#[40]⟩, .string ⟨#[44]⟩] 9)).cell? ⟨wr.heap.size, j, none⟩ = some (.string (str (sp j))) := hcA
          have HB0 := Lib.hid hB0
          have HB1 := Lib.hid hB1
          have HBL := Lib.hid hbl
          have HSP : Hid (∀ W : World, (W.alloc (.cells #[.string ⟨#[40]⟩, .string ⟨#[44]⟩] 9)).cell? ⟨W.heap.size, j, none⟩ = some (.string (str (sp j)))) := fun W => sp_cell W (by omega)
          have HN' : Hid (fsz kk < N) := by unfold Hid; omega
          have HN3 : Hid (fsz kk ≤ 1000) := by unfold Hid; omega
          clear hd hrow hbl hsl hat hpl hB0 hB1
          go_wp2_with fail
          go_region_with (first
              | ((go_at_call 11; refine (IH.out (fsz kk) HN'.out s' v' a' c' kk _ HS1.out HKO.out.1 HKO.out.2 (Nat.le_refl _) HN3.out).mono ?_); rintro e w2 ⟨rfl, hb2⟩; have hW2 := HB1.out.trans (hb2.mono (by simp)); have hW2s := hW2.size; have hcB := cell_lowS hb2 hcA)
              | ((go_at_call 11; refine (IH.out (fsz kk) HN'.out s' v' a' c' kk _ HS0.out HKO.out.1 HKO.out.2 (Nat.le_refl _) HN3.out).mono ?_); rintro e w2 ⟨rfl, hb2⟩; have hW2 := HB0.out.trans (hb2.mono (by simp)); have hW2s := hW2.size; have hcC := HSP.out w2))
          all_goals
            go_wp2_with fail
            go_roundw
            case rel => exact ⟨j + 1, by omega, by go_num, by rw [HST.out, ← str_add, ← str_add], by first | exact HBL.out.trans (hW2.mono hsr) | exact (HBL.out.trans (hW2.mono hsr)).alloc (by omega) _⟩
            case measure => simp [intOf]; omega
        · have hje : j = flen k := by omega
          subst hje
          have HBL := Lib.hid hbl
          by_cases hk0 : flen k = 0
          · have HT := Lib.hid (tx_leaf (v := v) HS.out hk0)
            have HPZ : Hid (pre m (fts k) (flen k) = ltr m) := by rw [hk0]; simp [Hid, pre]
            have hkz : (flen k : Int) ≤ 0 := by omega
            clear hbl hl
            go_wp2_with fail
            go_ret
            exact ⟨by rw [HT.out, ← HPZ.out]; rfl, after_top HBL.out⟩
          · have HT := Lib.hid (tx_pre (v := v) HS.out hk0)
            have hkp : (0 : Int) < (flen k : Int) := by omega
            have HJ : Hid (str (pre m (fts k) (flen k)) ++ ⟨#[41]⟩ = str (pre m (fts k) (flen k) ++ [41])) := str_add _ [41]
            clear hbl hl
            go_wp2_with fail
            rw [HJ.out]
            go_wp2_with fail
            go_ret
            exact ⟨by rw [HT.out]; rfl, after_top HBL.out⟩

end Go.Proofs.Ytbnbogdglffkmaa

/-! TXL: A term's text is short, and there is one. -/
namespace Go.Proofs.Ytbnbogdglffkmaa
open Go.RowKit Go.Deep
theorem tx_len {s v : Int} {k : Fo} (h : okW s v k 16 = true) : (tx s v k).length ≤ 200 := by
  obtain ⟨h1, h2, h3⟩ := (okW_iff _ _ _ _).1 h
  have h4 := fts_short k h2
  have h5 := join_len (fts k)
  have h6 := ltr_len s
  unfold tx tx1
  split
  · rename_i hs
    have hv := ((okN_iff _ _ _).1 h1).2.1 hs
    have := dec_len (n := v.toNat) (by omega)
    simp only [List.length_cons]
    omega
  · split
    · omega
    · simp only [List.length_append, List.length_cons, List.length_nil]
      omega
theorem tx_ne {s v : Int} {k : Fo} : tx s v k ≠ [] := by
  unfold tx tx1
  have := ltr_len s
  split
  · simp
  · split
    · intro h; rw [h] at this; simp at this
    · simp
theorem str_toList' (l : List UInt8) : (str l).data.toList = l := rfl
end Go.Proofs.Ytbnbogdglffkmaa
