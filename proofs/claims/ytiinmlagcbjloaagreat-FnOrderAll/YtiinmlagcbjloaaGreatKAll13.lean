/- Several texts in one: SHt, T1, G2, G4. -/
import Derived.Test.YtiinmlagcbjloaaGreatProg
import Derived.Shelf.Strconv.Itoa3
import Derived.Shelf.Strings.OnBuilder
import Derived.Ground.NamesProg
import Derived.Test.YtiinmlagcbjloaaGreatKAll2
import Derived.Test.YtiinmlagcbjloaaGreatKAll3
import Derived.Test.YtiinmlagcbjloaaGreatKAll12
import Derived.Test.YtiinmlagcbjloaaGreatKAll5
import Derived.Test.YtiinmlagcbjloaaGreatKAll6
import Derived.Lib.Slices
import Derived.Test.YtiinmlagcbjloaaGreatKAll8

/-! SHt: The contracts of strconv.Itoa and strings.Builder at this program. -/
namespace Go.Proofs
open Go.Shelf
def Tryz.lays171_ren : Go.Shelf.Ren := ⟨fun | 171 => 100 | 243 => 101 | 246 => 102 | 283 => 103 | 284 => 104 | 285 => 105 | 286 => 106 | 129 => 70 | 317 => 107 | 318 => 108 | 319 => 109 | 320 => 110 | 337 => 111 | 338 => 112 | n => n, fun | 3 => 3 | 9 => 9 | 2 => 2 | 4 => 4 | 171 => 148 | 0 => 0 | 53 => 120 | 37 => 22 | 5 => 5 | 173 => 150 | 212 => 153 | 51 => 118 | 20 => 20 | 213 => 154 | 46 => 102 | 232 => 155 | 233 => 156 | n => n, fun | 17 => 0 | 18 => 1 | 19 => 2 | n => n⟩
theorem Tryz.lays171 : Go.Proofs.Lays.n171 Tryz.prog Tryz.lays171_ren := {
  mixed := by kernel_rfl
  f129 := Tryz.func70.trans (congrArg some (by kernel_rfl))
  f171 := Tryz.func100.trans (congrArg some (by kernel_rfl))
  f243 := Tryz.func101.trans (congrArg some (by kernel_rfl))
  f246 := Tryz.func102.trans (congrArg some (by kernel_rfl))
  f283 := Tryz.func103.trans (congrArg some (by kernel_rfl))
  f284 := Tryz.func104.trans (congrArg some (by kernel_rfl))
  f285 := Tryz.func105.trans (congrArg some (by kernel_rfl))
  f286 := Tryz.func106.trans (congrArg some (by kernel_rfl))
  f317 := Tryz.func107.trans (congrArg some (by kernel_rfl))
  f318 := Tryz.func108.trans (congrArg some (by kernel_rfl))
  f319 := Tryz.func109.trans (congrArg some (by kernel_rfl))
  f320 := Tryz.func110.trans (congrArg some (by kernel_rfl))
  f337 := Tryz.func111.trans (congrArg some (by kernel_rfl))
  f338 := Tryz.func112.trans (congrArg some (by kernel_rfl))
  t0 := Tryz.underlying0
  a0 := Tryz.isAgg0
  z0 := Tryz.sizeOf0
  v0 := Tryz.zeroValue0
  t2 := Tryz.underlying2
  a2 := Tryz.isAgg2
  z2 := Tryz.sizeOf2
  v2 := Tryz.zeroValue2
  t3 := Tryz.underlying3
  a3 := Tryz.isAgg3
  z3 := Tryz.sizeOf3
  v3 := Tryz.zeroValue3
  t4 := Tryz.underlying4
  a4 := Tryz.isAgg4
  z4 := Tryz.sizeOf4
  v4 := Tryz.zeroValue4
  t5 := Tryz.underlying5
  a5 := Tryz.isAgg5
  z5 := Tryz.sizeOf5
  v5 := Tryz.zeroValue5
  t9 := Tryz.underlying9
  a9 := Tryz.isAgg9
  z9 := Tryz.sizeOf9
  v9 := Tryz.zeroValue9
  t20 := Tryz.underlying20
  a20 := Tryz.isAgg20
  z20 := Tryz.sizeOf20
  v20 := Tryz.zeroValue20
  t37 := Tryz.underlying22
  a37 := Tryz.isAgg22
  z37 := Tryz.sizeOf22
  v37 := Tryz.zeroValue22
  t46 := Tryz.underlying102
  a46 := Tryz.isAgg102
  z46 := Tryz.sizeOf102
  v46 := Tryz.zeroValue102
  t51 := Tryz.underlying118
  a51 := Tryz.isAgg118
  z51 := Tryz.sizeOf118
  v51 := Tryz.zeroValue118
  t53 := Tryz.underlying120
  a53 := Tryz.isAgg120
  z53 := Tryz.sizeOf120
  v53 := Tryz.zeroValue120
  t171 := Tryz.underlying148
  a171 := Tryz.isAgg148
  z171 := Tryz.sizeOf148
  v171 := Tryz.zeroValue148
  t173 := Tryz.underlying150
  a173 := Tryz.isAgg150
  z173 := Tryz.sizeOf150
  v173 := Tryz.zeroValue150
  t212 := Tryz.underlying153
  a212 := Tryz.isAgg153
  z212 := Tryz.sizeOf153
  v212 := Tryz.zeroValue153
  t213 := Tryz.underlying154
  a213 := Tryz.isAgg154
  z213 := Tryz.sizeOf154
  t232 := Tryz.underlying155
  a232 := Tryz.isAgg155
  z232 := Tryz.sizeOf155
  v232 := Tryz.zeroValue155
  t233 := Tryz.underlying156
  a233 := Tryz.isAgg156
  z233 := Tryz.sizeOf156
  v233 := Tryz.zeroValue156
  g17 := by kernel_rfl
  g18 := by kernel_rfl
  g19 := by kernel_rfl }
def Tryz.lays156_ren : Go.Shelf.Ren := ⟨fun | 156 => 116 | 165 => 117 | 166 => 118 | 169 => 119 | 240 => 120 | 241 => 121 | 276 => 122 | 277 => 123 | n => n, fun | 31 => 157 | 9 => 9 | 3 => 3 | 4 => 4 | 0 => 0 | 20 => 20 | 72 => 161 | 76 => 165 | 70 => 159 | 37 => 22 | 75 => 164 | 127 => 140 | 164 => 167 | 5 => 5 | 80 => 121 | n => n, fun | n => n⟩
theorem Tryz.lays156 : Go.Proofs.Lays.n156 Tryz.prog Tryz.lays156_ren := {
  mixed := by kernel_rfl
  f156 := Tryz.func116.trans (congrArg some (by kernel_rfl))
  f165 := Tryz.func117.trans (congrArg some (by kernel_rfl))
  f166 := Tryz.func118.trans (congrArg some (by kernel_rfl))
  f169 := Tryz.func119.trans (congrArg some (by kernel_rfl))
  f240 := Tryz.func120.trans (congrArg some (by kernel_rfl))
  f241 := Tryz.func121.trans (congrArg some (by kernel_rfl))
  f276 := Tryz.func122.trans (congrArg some (by kernel_rfl))
  f277 := Tryz.func123.trans (congrArg some (by kernel_rfl))
  t0 := Tryz.underlying0
  a0 := Tryz.isAgg0
  z0 := Tryz.sizeOf0
  v0 := Tryz.zeroValue0
  t3 := Tryz.underlying3
  a3 := Tryz.isAgg3
  z3 := Tryz.sizeOf3
  v3 := Tryz.zeroValue3
  t4 := Tryz.underlying4
  a4 := Tryz.isAgg4
  z4 := Tryz.sizeOf4
  v4 := Tryz.zeroValue4
  t9 := Tryz.underlying9
  a9 := Tryz.isAgg9
  z9 := Tryz.sizeOf9
  v9 := Tryz.zeroValue9
  t20 := Tryz.underlying20
  a20 := Tryz.isAgg20
  z20 := Tryz.sizeOf20
  v20 := Tryz.zeroValue20
  t31 := Tryz.underlying157
  a31 := Tryz.isAgg157
  z31 := Tryz.sizeOf157
  v31 := Tryz.zeroValue157
  t37 := Tryz.underlying22
  a37 := Tryz.isAgg22
  z37 := Tryz.sizeOf22
  v37 := Tryz.zeroValue22
  t70 := Tryz.underlying159
  a70 := Tryz.isAgg159
  z70 := Tryz.sizeOf159
  v70 := Tryz.zeroValue159
  t72 := Tryz.underlying161
  a72 := Tryz.isAgg161
  z72 := Tryz.sizeOf161
  v72 := Tryz.zeroValue161
  t75 := Tryz.underlying164
  a75 := Tryz.isAgg164
  z75 := Tryz.sizeOf164
  v75 := Tryz.zeroValue164
  t76 := Tryz.underlying165
  a76 := Tryz.isAgg165
  z76 := Tryz.sizeOf165
  v76 := Tryz.zeroValue165
  t127 := Tryz.underlying140
  a127 := Tryz.isAgg140
  z127 := Tryz.sizeOf140
  v127 := Tryz.zeroValue140
  t164 := Tryz.underlying167
  a164 := Tryz.isAgg167
  z164 := Tryz.sizeOf167
  v164 := Tryz.zeroValue167 }
end Go.Proofs

/-! T1: The text of a node, and TermText of the program. -/
namespace Go.Proofs
open Go.Shelf
theorem Tryz.builderExtra156 : Builder.Extra Tryz.prog Tryz.lays156_ren where
  sizeBuilder := by kernel_rfl
  liesBuilder := by kernel_rfl
  t5 := Tryz.underlying5
  a5 := Tryz.isAgg5
  z5 := Tryz.sizeOf5
  v5 := Tryz.zeroValue5
  infoByte := by kernel_rfl
  cellsByte := by kernel_rfl
  sizeByte := by kernel_rfl
  neB5 := by decide
end Go.Proofs

namespace Go.Proofs.YtiinmlagcbjloaaGreat
open Go.RowKit Go.Deep

theorem itoa_any (v : Int) (h0 : 0 ≤ v) (h1 : v < 100) (w : World) :
    Calls Tryz.prog 100 #[.int .i64 v] w fun e w' => e = .returned (.string (str (Lib.decDigits v.toNat))) ∧ w' = w := by
  obtain ⟨n, rfl⟩ := Int.eq_ofNat_of_zero_le h0
  exact Any.strconv_Itoa_small Tryz.lays171 n (by omega) w

set_option maxHeartbeats 400000 in
theorem varText_any (v : Int) (h0 : 0 ≤ v) (h1 : v < 100) (w : World) :
    Calls Tryz.prog 99 #[.int .i64 v] w fun e w' => e = .returned (.string (str (120 :: Lib.decDigits v.toNat))) ∧ w' = w := by
  have hz : (str (Lib.decDigits v.toNat)).size ≤ 2 := by rw [str_size]; exact dec_len (by omega)
  go_enter Tryz.func99, Tryz.ntmps99
  go_wp2_with fail
  with_reducible refine (itoa_any v h0 h1 _).mono ?_
  rintro e w2 ⟨rfl, rfl⟩
  go_wp2_with fail
  go_ret
  exact ⟨by rw [show (120 :: Lib.decDigits v.toNat) = [120] ++ Lib.decDigits v.toNat from rfl, ← str_add]; rfl, rfl⟩

theorem join_any (ks : List (List UInt8)) (bk n c : Nat) (w : World) (hnk : n = ks.length) (hcells : ∀ (j : Nat) l, ks[j]? = some l → w.cell? ⟨bk, j, none⟩ = some (.string (str l))) (hbk : bk < w.heap.size) (hn : ks.length ≤ 1000) (hc : ks.length ≤ c) (hl : lens ks ≤ 1000000) :
    Calls Tryz.prog 116 #[.slice (some ⟨bk, 0, none⟩) n c, .string ⟨#[44]⟩] w fun e w' => e = .returned (.string (str (Lib.join ks [44]))) ∧ Below w.heap.size w w' := by
  subst hnk
  have hm : (ks.map str).map (·.data.toList) = ks := by
    rw [List.map_map]
    exact (List.map_congr_left fun x _ => by simp [str]).trans (List.map_id ks)
  have hj := join_len ks
  have := Any.strings_Join Tryz.lays156 Tryz.builderExtra156 bk 0 c (ks.map str) ⟨#[44]⟩ w (fun j x hx => by
    rw [List.getElem?_map] at hx
    cases hk : ks[j]? with
    | none => rw [hk] at hx; cases hx
    | some l => rw [hk] at hx; obtain rfl := Option.some.inj hx; rw [Nat.zero_add]; exact hcells j l hk) hbk (by rw [List.length_map]; omega) (by rw [List.length_map]; exact hc) (by rw [hm]; show (Lib.join ks [44]).length ≤ _; omega)
  rw [hm, List.length_map] at this
  exact this

theorem Tryz.infoS : ∃ i, Tryz.prog.info? 9 = some i ∧ i.zero = some (.string ⟨#[]⟩) ∧ i.size = 1 ∧ i.bytes = 16 := by
  have h : (Tryz.prog.info? 9).map (fun i => (i.zero, i.size, i.bytes)) = some (some (.string ⟨#[]⟩), 1, 16) := by kernel_rfl
  obtain ⟨i, hi, hz⟩ := Option.map_eq_some_iff.1 h
  simp only [Prod.mk.injEq] at hz
  exact ⟨i, hi, hz.1, hz.2.1, hz.2.2⟩
theorem make_strs (n : Nat) (hn : n ≤ 1048576) (w : World) :
    (Instr.makeSlice 157 (.int .i64 (n : Int)) (.int .i64 (n : Int))).run Tryz.prog w = .ok (.slice (some ⟨w.heap.size, 0, none⟩) n n) (w.alloc (.cells (madeCells #[.string ⟨#[]⟩] n) 9)) := by
  obtain ⟨i, hi, hz, hs, hb⟩ := Tryz.infoS
  have := run_make (P := Tryz.prog) w 157 9 i _ Tryz.underlying157 hi hz .i64 .i64 (n : Int) (n : Int) (by omega) (by omega) (by rw [hb]; omega) (by omega)
  rw [hs] at this
  simpa [Value.cells] using this
theorem strs_made (w : World) (n : Nat) (hn : n ≤ 1048576) : (w.alloc (.cells (madeCells #[.string ⟨#[]⟩] n) 9)).ownsRow w.heap.size 9 1 (.slice (some ⟨w.heap.size, 0, none⟩) n n) n ((List.replicate n []).map fun l => Value.string (str l)) := by
  refine ⟨by simp, .inr ⟨w.heap.size, n, madeCells #[.string ⟨#[]⟩] n, rfl, Nat.le_refl _, heap_alloc_new _ _, Nat.le_refl _, by unfold maxLen; omega, by simp [size_madeCells], ?_⟩⟩
  rw [toList_madeCells_one, List.map_replicate, List.take_of_length_le (by simp)]
  rfl
theorem sign_slice1 (w : World) : (Instr.slice 9 (.string ⟨#[97, 98, 103, 102]⟩) (some (.int .i64 0)) (some (.int .i64 1)) none).run Tryz.prog w = .ok (.string (str [97])) w := by kernel_rfl
theorem sign_slice2 (w : World) : (Instr.slice 9 (.string ⟨#[97, 98, 103, 102]⟩) (some (.int .i64 1)) (some (.int .i64 2)) none).run Tryz.prog w = .ok (.string (str [98])) w := by kernel_rfl
theorem sign_slice3 (w : World) : (Instr.slice 9 (.string ⟨#[97, 98, 103, 102]⟩) (some (.int .i64 2)) (some (.int .i64 3)) none).run Tryz.prog w = .ok (.string (str [103])) w := by kernel_rfl
theorem sign_slice4 (w : World) : (Instr.slice 9 (.string ⟨#[97, 98, 103, 102]⟩) (some (.int .i64 3)) (some (.int .i64 4)) none).run Tryz.prog w = .ok (.string (str [102])) w := by kernel_rfl
theorem sign_slice {s : Int} (h0 : 1 ≤ s) (h1 : s ≤ 4) (w : World) :
    (Instr.slice 9 (.string ⟨#[97, 98, 103, 102]⟩) (some (.int .i64 (s - 1))) (some (.int .i64 s)) none).run Tryz.prog w = .ok (.string (str (ltr s))) w := by
  have : s = 1 ∨ s = 2 ∨ s = 3 ∨ s = 4 := by omega
  rcases this with rfl | rfl | rfl | rfl
  · exact sign_slice1 w
  · exact sign_slice2 w
  · exact sign_slice3 w
  · exact sign_slice4 w
theorem cell_lowT {W w2 : World} {q : Addr} {x : Value} (hb : Below W.heap.size W w2) (h : W.cell? q = some x) : w2.cell? q = some x := by
  rw [hb.cell (World.block_lt_of_cell? _ _ h)]; exact h
theorem okN_signs {s v : Int} {n : Nat} (hs : s ≠ 0) (h : okN s v n = true) : 1 ≤ s ∧ s ≤ 4 := by
  have h' := ((okN_iff _ _ _).1 h).1
  unfold ar at h'
  split at h'
  · omega
  · split at h'
    · omega
    · split at h' <;> omega

set_option maxRecDepth 100000 in
set_option maxHeartbeats 1000000 in
theorem symText_any (N : Nat) : ∀ (s : Int) (a : Option Addr) (c : Nat) (k : Fo) (w : World), NSl w 0 w.heap.size a k → s ≠ 0 → okN s 0 (flen k) = true → fok k = true → fsz k ≤ N → N ≤ 1000 →
    Calls Tryz.prog 115 #[.agg #[.int .i64 s, .slice a (flen k) c]] w fun e w' => e = .returned (.string (str (tx s 0 k))) ∧ Below w.heap.size w w' := by
  induction N using Nat.strongRecOn with
  | _ N ih =>
    intro s a c k w hl hs hokN hok hN hN2
    have hfl := flen_le_sz k
    obtain ⟨hs1, hs4⟩ := okN_signs hs hokN
    have hsl := fun w => sign_slice hs1 hs4 w
    have hshort := fts_short k hok
    have hjl := join_len (fts k)
    have hfl2 := fts_len k
    have hll := ltr_len s
    have HOK := Lib.hid hok
    have HSH := Lib.hid hshort
    have IH := Lib.hid ih
    have HS := Lib.hid hs
    have hz1 : (str (ltr s)).size = 1 := by rw [str_size]; exact hll
    have hz2 : (str (Lib.join (fts k) [44])).size ≤ 100000 := by rw [str_size]; omega
    have hz3 : (str (ltr s ++ [40])).size = 2 := by rw [str_size]; simp [hll]
    have hz4 : (str ((ltr s ++ [40]) ++ Lib.join (fts k) [44])).size ≤ 100002 := by rw [str_size] at hz2 ⊢; simp [hll]; omega
    have HJ1 : Hid (str (ltr s) ++ ⟨#[40]⟩ = str (ltr s ++ [40])) := (str_add _ [40])
    have HJ2 : Hid (str (ltr s ++ [40]) ++ str (Lib.join (fts k) [44]) = str ((ltr s ++ [40]) ++ Lib.join (fts k) [44])) := (str_add _ _)
    have HJ3 : Hid (str ((ltr s ++ [40]) ++ Lib.join (fts k) [44]) ++ ⟨#[41]⟩ = str (((ltr s ++ [40]) ++ Lib.join (fts k) [44]) ++ [41])) := (str_add _ [41])
    clear ih hok hshort hjl hll hs hokN
    by_cases hk0 : flen k = 0
    · have HT := Lib.hid (tx_leaf (v := 0) HS.out hk0)
      have ek : ((flen k : Int) == 0) = true := by simp [hk0]
      clear hl hfl hN hfl2 hk0
      go_enter Tryz.func115, Tryz.ntmps115
      go_wp2_with fail
      go_ret
      exact ⟨by rw [HT.out]; rfl, (Below.refl _ _).alloc (Nat.le_refl _) _⟩
    · have HT := Lib.hid (tx_kids (v := 0) HS.out hk0)
      have ek : ((flen k : Int) == 0) = false := by simp; omega
      have hmk := make_strs (flen k) (by omega)
      have HST := Lib.hid (strs_made (w.alloc (.cells #[.int .i64 s, .slice a (flen k) c] 99)) (flen k) (by omega))
      go_enter Tryz.func115, Tryz.ntmps115
      go_wp2_with fail
      clear hmk
      go_loopw [25] (fun i wr => ∃ (j : Nat) (ys : List (List UInt8)), j ≤ flen k ∧ i = .int .i64 j ∧ Hid (ys.length = flen k ∧ ∀ q, q < j → ys[q]? = (fts k)[q]?) ∧ Hid (wr.ownsRow (w.heap.size + 1) 9 1 (.slice (some ⟨w.heap.size + 1, 0, none⟩) (flen k) (flen k)) (flen k) (ys.map fun l => Value.string (str l))) ∧ Below (w.heap.size + 1) (w.alloc (.cells #[.int .i64 s, .slice a (flen k) c] 99)) wr) (fun i _ => flen k - (intOf i).toNat)
      case atStart => exact ⟨0, List.replicate (flen k) [], by omega, rfl, ⟨by simp, fun q hq => by omega⟩, by simpa [Hid] using HST.out, (Below.refl _ _).alloc (by simp) _⟩
      case round =>
        clear HST
        obtain ⟨j, ys, hj, rfl, hys, hown, hbl⟩ := hrel
        have hsr := hbl.size
        simp at hsr
        by_cases hlt : j < flen k
        · rcases hl with rfl | ⟨b, o, rfl, hrow⟩
          · simp [flen] at hlt
          obtain ⟨s', v', kk, val, ⟨x, y, hd⟩, _, hbB, hkc, hn⟩ := nrow_at (hrow.below (after_top hbl)) hlt
          have hkN := fsz_kid hd
          have hkok := fok_kid HOK.out hd
          have HAT := Lib.hid (fts_at j k hd)
          have HBL := Lib.hid hbl
          have g1 : (0 : Int) ≤ (j : Int) := by omega
          have g2 : (j : Int) < (flen k : Int) := by omega
          clear hd hrow hbl hsl hz1 hz2 hz3 hz4
          have hcl : ∃ u, wr.cell? ⟨w.heap.size + 1, j, none⟩ = some u := by
            rw [hown.out.cellAt j (by omega)]
            exact ⟨_, List.getElem?_eq_getElem (by simp [hys.out.1, hlt])⟩
          have hfz := hown.out.frozenAt j
          have HFIN : Hid (∀ w2 : World, Below wr.heap.size wr w2 → (∃ u, w2.cell? ⟨w.heap.size + 1, j, none⟩ = some u) ∧ w2.frozen? ⟨w.heap.size + 1, j, none⟩ = false ∧ (∃ ys' : List (List UInt8), Hid (ys'.length = flen k ∧ ∀ q, q < j + 1 → ys'[q]? = (fts k)[q]?) ∧ Hid ((w2.setCell ⟨w.heap.size + 1, j, none⟩ (.string (str (tx s' v' kk)))).ownsRow (w.heap.size + 1) 9 1 (.slice (some ⟨w.heap.size + 1, 0, none⟩) (flen k) (flen k)) (flen k) (ys'.map fun l => Value.string (str l)))) ∧ Below (w.heap.size + 1) (w.alloc (.cells #[.int .i64 s, .slice (some ⟨b, o, none⟩) (flen k) c] 99)) (w2.setCell ⟨w.heap.size + 1, j, none⟩ (.string (str (tx s' v' kk))))) := by
            intro w2 hb2
            have hown2 := own_low hb2 hown.out
            obtain ⟨u, hcl⟩ := hcl
            refine ⟨⟨u, cell_lowT hb2 hcl⟩, hown2.frozenAt j, ⟨ys.set j (tx s' v' kk), ?_, ?_⟩, (HBL.out.trans (hb2.mono hsr)).setCell (by simp) _⟩
            · refine ⟨by rw [List.length_set]; exact hys.out.1, fun q hq => ?_⟩
              by_cases e : q = j
              · subst e
                rw [List.getElem?_set_self (by rw [hys.out.1]; exact hlt), HAT.out]
              · rw [List.getElem?_set_ne (fun h => e h.symm)]
                exact hys.out.2 q (by omega)
            · obtain ⟨hst, _⟩ := hown2.stored j (.string (str (tx s' v' kk)))
              unfold Hid
              rw [List.map_set]
              exact hst
          clear hown hys hcl hfz HAT
          rcases hn with ⟨rfl, rfl, rfl⟩ | ⟨hs', a2, c2, rfl, hn2⟩
          · have hv := ((okN_iff _ _ _).1 hkok.1).2.1 rfl
            clear hkok
            go_wp2_with fail
            refine upon_method 99 (by kernel_rfl) (by kernel_rfl) ?_
            go_simp
            with_reducible refine (varText_any v' hv.1 (by omega) _).mono ?_
            rintro e w2 ⟨rfl, rfl⟩
            obtain ⟨⟨u, hcl⟩, hfz, ⟨ys', hys', hown'⟩, hbl'⟩ := HFIN.out w2 (Below.refl _ _)
            rw [tx_var] at hown' hbl'
            have HBL' := Lib.hid hbl'
            clear HFIN hbl'
            go_wp2_with fail
            go_roundw
            case rel => exact ⟨j + 1, ys', by omega, by go_num, hys', hown', HBL'.out⟩
            case measure => simp [intOf]; omega
          · have hv0 : v' = 0 := ((okN_iff _ _ _).1 hkok.1).2.2 hs'
            subst hv0
            have HKO := Lib.hid hkok
            have HN2 := Lib.hid hn2
            have HS' := Lib.hid hs'
            clear hn2 hkok hs'
            go_wp2_with fail
            refine upon_method 115 (by kernel_rfl) (by kernel_rfl) ?_
            go_simp
            with_reducible refine (IH.out (fsz kk) (by omega) s' a2 c2 kk _ ?_ HS'.out HKO.out.1 HKO.out.2 (Nat.le_refl _) (by omega)).mono ?_
            · exact HN2.out.mono (Nat.le_refl _) (by omega)
            rintro e w2 ⟨rfl, hb2⟩
            obtain ⟨⟨u, hcl⟩, hfz, ⟨ys', hys', hown'⟩, hbl'⟩ := HFIN.out w2 hb2
            have HBL' := Lib.hid hbl'
            clear HFIN hbl' hb2
            go_wp2_with fail
            go_roundw
            case rel => exact ⟨j + 1, ys', by omega, by go_num, hys', hown', HBL'.out⟩
            case measure => simp [intOf]; omega
        · have hje : j = flen k := by omega
          subst hje
          have HE : Hid (ys = fts k) := by
            refine List.ext_getElem? fun q => ?_
            by_cases hq : q < flen k
            · exact hys.out.2 q hq
            · rw [List.getElem?_eq_none (by rw [hys.out.1]; omega), List.getElem?_eq_none (by rw [fts_len]; omega)]
          have HCE : Hid (∀ (q : Nat) l, (fts k)[q]? = some l → wr.cell? ⟨w.heap.size + 1, q, none⟩ = some (.string (str l))) := fun q l hql => by
            have hq := (List.getElem?_eq_some_iff.1 hql).1
            rw [hown.out.cellAt q (by rw [fts_len] at hq; omega), HE.out, List.getElem?_map, hql]
            rfl
          have hgl : w.heap.size + 1 < wr.heap.size := by
            rcases hown.out.2 with ⟨h, _⟩ | ⟨g, cap, cur, hv, _, hg, _⟩
            · cases h
            · simp only [Value.slice.injEq, Option.some.injEq, Addr.mk.injEq] at hv
              obtain ⟨⟨rfl, _⟩, _⟩ := hv
              exact (Array.getElem?_eq_some_iff.1 hg).1
          have HBL := Lib.hid hbl
          clear hys hown hbl
          go_wp2_with fail
          rw [HJ1.out]
          go_wp2_with fail
          with_reducible refine (join_any (fts k) (w.heap.size + 1) (flen k) (flen k) _ hfl2.symm HCE.out hgl (by omega) (by omega) ?_).mono ?_
          · have := HSH.out; omega
          rintro e w2 ⟨rfl, hb2⟩
          have HB2 := Lib.hid (HBL.out.trans (hb2.mono hsr))
          clear hb2 hgl
          go_wp2_with fail
          rw [HJ2.out]
          go_wp2_with fail
          rw [HJ3.out]
          go_wp2_with fail
          go_ret
          exact ⟨by rw [HT.out]; simp, after_top HB2.out⟩
end Go.Proofs.YtiinmlagcbjloaaGreat

/-! G2: sameNode, signOf, kidsOf, a cut of a row of nodes, before. -/
namespace Go.Proofs.YtiinmlagcbjloaaGreat
open Go.RowKit Go.Deep

/-- A node of a well-formed term. -/
structure Nd (w : World) (val : Value) (s v : Int) (k : Fo) : Prop where
  node : NodeC w 0 w.heap.size val s v k
  okn : okN s v (flen k) = true
  ok : fok k = true
  small : fsz k ≤ 100
theorem Nd.next {w w2 : World} {val : Value} {s v : Int} {k : Fo} (h : Nd w val s v k) (hb : Below w.heap.size w w2) : Nd w2 val s v k :=
  ⟨(h.node.below hb).mono (Nat.le_refl _) hb.size, h.okn, h.ok, h.small⟩
theorem Nd.shape {w : World} {val : Value} {s v : Int} {k : Fo} (h : Nd w val s v k) : Shape s v k := shape_of h.okn h.ok

theorem varTx_any (v : Int) (h : okN 0 v (flen (.nil : Fo)) = true) (w : World) :
    Calls Tryz.prog 99 #[.int .i64 v] w fun e w' => e = .returned (.string (str (tx 0 v .nil))) ∧ Below w.heap.size w w' := by
  have hv := ((okN_iff _ _ _).1 h).2.1 rfl
  rw [tx_var]
  exact (varText_any v hv.1 (by omega) w).mono fun e w' ⟨he, hw⟩ => ⟨he, hw ▸ Below.refl _ _⟩
theorem txt_teq {s v : Int} {k : Fo} {s' v' : Int} {k' : Fo} (h : Shape s v k) (h' : Shape s' v' k') : ((str (tx s v k)).toList == (str (tx s' v' k')).toList) = teq s v k s' v' k' := by
  have hl : ∀ l : List UInt8, (str l).toList = l := fun l => by simp [str]
  rw [hl, hl]
  have := tx_teq h h'
  cases ht : teq s v k s' v' k' with
  | true => exact beq_iff_eq.2 (this.2 ht)
  | false => exact beq_eq_false_iff_ne.2 fun he => by rw [this.1 he] at ht; cases ht

set_option maxRecDepth 100000 in
set_option maxHeartbeats 1000000 in
theorem sameNode_any {s v : Int} {k : Fo} {val : Value} {s' v' : Int} {k' : Fo} {val' : Value} {w : World} (h : Nd w val s v k) (h' : Nd w val' s' v' k') :
    Calls Tryz.prog 57 #[val, val'] w fun e w' => e = .returned (.bool (teq s v k s' v' k')) ∧ Below w.heap.size w w' := by
  have HT := Lib.hid (txt_teq h.shape h'.shape)
  have HO := Lib.hid h.okn
  have HO' := Lib.hid h'.okn
  have HF := Lib.hid h.ok
  have HF' := Lib.hid h'.ok
  have hz := h.small
  have hz' := h'.small
  rcases h.node with ⟨rfl, rfl, rfl⟩ | ⟨hs, a, c, rfl, _, hl⟩
  · rcases h'.node with ⟨rfl, rfl, rfl⟩ | ⟨hs', a', c', rfl, _, hl'⟩
    · clear h h'
      go_enter Tryz.func57, Tryz.ntmps57
      go_wp2_with fail
      refine upon_method 99 (by kernel_rfl) (by kernel_rfl) ?_
      go_simp
      with_reducible refine (varTx_any v HO.out _).mono ?_
      rintro e w2 ⟨rfl, hb2⟩
      go_wp2_with fail
      refine upon_method 99 (by kernel_rfl) (by kernel_rfl) ?_
      go_simp
      with_reducible refine (varTx_any v' HO'.out _).mono ?_
      rintro e w3 ⟨rfl, hb3⟩
      go_wp2_with fail
      go_ret
      exact ⟨by rw [HT.out]; rfl, hb2.trans (hb3.mono hb2.size)⟩
    · have HL' := Lib.hid hl'
      obtain rfl : v' = 0 := ((okN_iff _ _ _).1 HO'.out).2.2 hs'
      have HS' := Lib.hid hs'
      clear h h' hl' hs'
      go_enter Tryz.func57, Tryz.ntmps57
      go_wp2_with fail
      refine upon_method 99 (by kernel_rfl) (by kernel_rfl) ?_
      go_simp
      with_reducible refine (varTx_any v HO.out _).mono ?_
      rintro e w2 ⟨rfl, hb2⟩
      have HB2 := Lib.hid hb2
      clear hb2
      go_wp2_with fail
      refine upon_method 115 (by kernel_rfl) (by kernel_rfl) ?_
      go_simp
      with_reducible refine (symText_any (fsz k') s' a' c' k' _ ((HL'.out.below HB2.out).mono (Nat.le_refl _) HB2.out.size).to HS'.out HO'.out HF'.out (Nat.le_refl _) (by omega)).mono ?_
      rintro e w3 ⟨rfl, hb3⟩
      go_wp2_with fail
      go_ret
      exact ⟨by rw [HT.out]; rfl, HB2.out.trans (hb3.mono HB2.out.size)⟩
  · have HL := Lib.hid hl
    obtain rfl : v = 0 := ((okN_iff _ _ _).1 HO.out).2.2 hs
    have HS := Lib.hid hs
    rcases h'.node with ⟨rfl, rfl, rfl⟩ | ⟨hs', a', c', rfl, _, hl'⟩
    · clear h h' hl hs
      go_enter Tryz.func57, Tryz.ntmps57
      go_wp2_with fail
      refine upon_method 115 (by kernel_rfl) (by kernel_rfl) ?_
      go_simp
      with_reducible refine (symText_any (fsz k) s a c k _ HL.out.to HS.out HO.out HF.out (Nat.le_refl _) (by omega)).mono ?_
      rintro e w2 ⟨rfl, hb2⟩
      have HB2 := Lib.hid hb2
      clear hb2
      go_wp2_with fail
      refine upon_method 99 (by kernel_rfl) (by kernel_rfl) ?_
      go_simp
      with_reducible refine (varTx_any v' HO'.out _).mono ?_
      rintro e w3 ⟨rfl, hb3⟩
      go_wp2_with fail
      go_ret
      exact ⟨by rw [HT.out]; rfl, HB2.out.trans (hb3.mono HB2.out.size)⟩
    · have HL' := Lib.hid hl'
      obtain rfl : v' = 0 := ((okN_iff _ _ _).1 HO'.out).2.2 hs'
      have HS' := Lib.hid hs'
      clear h h' hl hl' hs hs'
      go_enter Tryz.func57, Tryz.ntmps57
      go_wp2_with fail
      refine upon_method 115 (by kernel_rfl) (by kernel_rfl) ?_
      go_simp
      with_reducible refine (symText_any (fsz k) s a c k _ HL.out.to HS.out HO.out HF.out (Nat.le_refl _) (by omega)).mono ?_
      rintro e w2 ⟨rfl, hb2⟩
      have HB2 := Lib.hid hb2
      clear hb2
      go_wp2_with fail
      refine upon_method 115 (by kernel_rfl) (by kernel_rfl) ?_
      go_simp
      with_reducible refine (symText_any (fsz k') s' a' c' k' _ ((HL'.out.below HB2.out).mono (Nat.le_refl _) HB2.out.size).to HS'.out HO'.out HF'.out (Nat.le_refl _) (by omega)).mono ?_
      rintro e w3 ⟨rfl, hb3⟩
      go_wp2_with fail
      go_ret
      exact ⟨by rw [HT.out]; rfl, HB2.out.trans (hb3.mono HB2.out.size)⟩

/-- A row of nodes of well-formed terms. -/
structure Nds (w : World) (a : Option Addr) (c : Nat) (k : Fo) : Prop where
  sl : CSl w 0 w.heap.size a k
  cap : flen k ≤ c
  ok : fok k = true
  small : fsz k ≤ 100
theorem Nds.next {w w2 : World} {a : Option Addr} {c : Nat} {k : Fo} (h : Nds w a c k) (hb : Below w.heap.size w w2) : Nds w2 a c k :=
  ⟨(h.sl.below hb).mono (Nat.le_refl _) hb.size, h.cap, h.ok, h.small⟩
theorem Nds.at {w : World} {a : Option Addr} {c : Nat} {k : Fo} {j : Nat} (h : Nds w a c k) (hj : j < flen k) :
    ∃ b o s v kk val x y, a = some ⟨b, o, none⟩ ∧ fdrop j k = .node x y (s, v) kk (fdrop (j + 1) k) ∧ w.cell? ⟨b, o + j, none⟩ = some val ∧ Nd w val s v kk ∧ fsz kk < fsz k := by
  rcases h.sl with rfl | ⟨b, o, rfl, hr⟩
  · simp [flen] at hj
  · obtain ⟨s, v, kk, val, ⟨x, y, hd⟩, _, _, hc, hn⟩ := crow_at hr hj
    have hk := fok_kid h.ok hd
    have hs := fsz_kid hd
    have := h.small
    exact ⟨b, o, s, v, kk, val, x, y, rfl, hd, hc, ⟨hn, hk.1, hk.2, by omega⟩, by omega⟩

def KidsPostC (k : Fo) (w : World) (e : Ending) (w' : World) : Prop := ∃ a c, e = .returned (.slice a (flen k) c) ∧ Below w.heap.size w w' ∧ Nds w a c k
set_option maxRecDepth 100000 in
set_option maxHeartbeats 400000 in
theorem kidsOfC_any {s v : Int} {k : Fo} {nv : Value} {w : World} (h : Nd w nv s v k) : Calls Tryz.prog 43 #[nv] w (KidsPostC k w) := by
  have hta := assert_var
  have htb := assert_sym
  have HO := Lib.hid h.ok
  have HZ := Lib.hid h.small
  rcases h.node with ⟨rfl, rfl, rfl⟩ | ⟨hs, a, c, rfl, hcp, hn⟩
  · clear h
    go_enter Tryz.func43, Tryz.ntmps43
    go_wp2_with fail
    go_ret
    exact ⟨none, 0, rfl, Below.refl _ _, .inl rfl, Nat.le_refl _, HO.out, HZ.out⟩
  · have HN := Lib.hid hn
    have HC := Lib.hid hcp
    clear hn hcp h
    go_enter Tryz.func43, Tryz.ntmps43
    go_wp2_with fail
    go_ret
    exact ⟨a, c, rfl, (Below.refl _ _).alloc (Nat.le_refl _) _, HN.out, HC.out, HO.out, HZ.out⟩
set_option maxRecDepth 100000 in
set_option maxHeartbeats 400000 in
theorem signOf_any {s v : Int} {k : Fo} {nv : Value} {w : World} (h : Nd w nv s v k) : Calls Tryz.prog 39 #[nv] w fun e w' => e = .returned (.int .i64 s) ∧ Below w.heap.size w w' := by
  have hta := assert_var
  have htb := assert_sym
  rcases h.node with ⟨rfl, rfl, rfl⟩ | ⟨hs, a, c, rfl, hcp, hn⟩
  · clear h
    go_enter Tryz.func39, Tryz.ntmps39
    go_wp2_with fail
    go_ret
    exact ⟨rfl, Below.refl _ _⟩
  · clear hn hcp h
    go_enter Tryz.func39, Tryz.ntmps39
    go_wp2_with fail
    go_ret
    exact ⟨rfl, (Below.refl _ _).alloc (Nat.le_refl _) _⟩

/-- The nodes from number n on. -/
theorem cut_nodes {a : Option Addr} {c n m : Nat} {k : Fo} (hm : m = flen k) (hn : n ≤ flen k) (hc : flen k ≤ c) : ∃ a' c', (∀ w : World, (Instr.slice 84 (.slice a m c) (some (.int .i64 (n : Int))) none none).run Tryz.prog w = .ok (.slice a' (flen (fdrop n k)) c') w) ∧
    ∀ w : World, Nds w a c k → Nds w a' c' (fdrop n k) := by
  subst hm
  have hti := Tryz.infoNode
  obtain ⟨ti, hti, hz⟩ := Option.map_eq_some_iff.1 hti
  simp only [Prod.mk.injEq] at hz
  have hsz : ∀ w : World, (sizeOf (Tryz.prog.elem 84)).run Tryz.prog w = .ok 1 w := fun w => by
    have he : Tryz.prog.elem 84 = 52 := by kernel_rfl
    rw [he]
    simp [sizeOf, typeInfo, hti, hz.2.1]
  have hel : Tryz.prog.underlying 84 = some (.slice (Tryz.prog.elem 84)) := by kernel_rfl
  have hrun : ∀ w : World, (Instr.slice 84 (.slice a (flen k) c) (some (.int .i64 (n : Int))) none none).run Tryz.prog w = .ok (sliced a n (flen k) c 1) w := fun w => by
    rw [run_slice_l (P := Tryz.prog) w 84 a (flen k) c hel .i64 (n : Int) (by omega) (by omega), hsz]
    simp [Result.andThen]
  refine ⟨if c = n then a else a.map (·.add (n * 1)), c - n, fun w => by rw [hrun w, flen_drop]; rfl, fun w h => ⟨?_, by rw [flen_drop]; omega, ?_, ?_⟩⟩
  · split
    · exact .inl (fdrop_all (by omega))
    · rcases h.sl with rfl | ⟨b, o, rfl, h1⟩
      · exact .inl (fdrop_all (by simp [flen]))
      · refine .inr ⟨b, o + n, ?_, crow_drop n k b o h1⟩
        have ha : (⟨b, o, none⟩ : Addr).add n = ⟨b, o + n, none⟩ := by unfold Addr.add; split <;> simp_all
        simp only [Option.map_some, Nat.mul_one, ha]
  · have : ∀ (n : Nat) (k : Fo), fok k = true → fok (fdrop n k) = true := by
      intro n
      induction n with
      | zero => intro k h; exact h
      | succ n ih =>
        intro k h
        cases k with
        | nil => rfl
        | node x y p kk r => simp only [fok, Bool.and_eq_true] at h; exact ih r h.2
    exact this n k h.ok
  · have := fsz_drop n k
    have := h.small
    omega
end Go.Proofs.YtiinmlagcbjloaaGreat

/-! G4: before, firstDifference, moreThanAll, anyReaches. -/
namespace Go.Proofs.YtiinmlagcbjloaaGreat
open Go.RowKit Go.Deep

set_option maxRecDepth 100000 in
set_option maxHeartbeats 1000000 in
theorem indexR_any (xs : List Int) (A : Option Addr) (C : Nat) (x : Int) (w : World) (h : ISl w 0 w.heap.size A xs) (h4 : xs.length = 4) (hx : x ∈ xs) :
    Calls Tryz.prog 56 #[.slice A xs.length C, .int .i64 x] w fun e w' => e = .returned (.int .i64 (rkN xs x)) ∧ w' = w := by
  have HI := Lib.hid h
  have HX := Lib.hid hx
  have H4 := Lib.hid h4
  have h4' : xs.length ≤ 4 := by omega
  clear h hx h4
  go_enter Tryz.func56, Tryz.ntmps56
  go_wp2_with fail
  go_loopw [8] (fun i wr => ∃ j : Nat, i = .int .i64 j ∧ j ≤ xs.length ∧ Hid (NotTo xs x j) ∧ wr = w) (fun i _ => xs.length - (intOf i).toNat)
  case atStart => exact ⟨0, rfl, by omega, fun q y hq => by omega, rfl⟩
  case round =>
    obtain ⟨j, rfl, hj, hne, rfl⟩ := hrel
    by_cases hlt : j < xs.length
    · obtain ⟨b, o, rfl, _, hb1, hc⟩ := isl_at HI.out hlt
      have HZ : Hid (xs[j]? = some xs[j]) := List.getElem?_eq_getElem hlt
      generalize xs[j] = z at hc HZ
      have g1 : (0 : Int) ≤ (j : Int) := by omega
      have g2 : (j : Int) < (xs.length : Int) := by omega
      by_cases hxz : x = z
      · have ex : (x == z) = true := by simp [hxz]
        have HR : Hid (rkN xs x = j) := idx_hit hne.out (by rw [HZ.out, hxz])
        clear hxz hne
        go_wp2_with fail
        go_ret
        exact ⟨by rw [HR.out]; rfl, rfl⟩
      · have ex : (x == z) = false := by simp [hxz]
        have HN : Hid (NotTo xs x (j + 1)) := fun q y hq hy => by
          by_cases e : q = j
          · subst e; rw [HZ.out] at hy; obtain rfl := Option.some.inj hy; exact fun e => hxz e.symm
          · exact hne.out q y (by omega) hy
        clear hxz hne
        go_wp2_with fail
        go_roundw
        case rel => exact ⟨j + 1, by go_num, by omega, HN, by first | trivial | rfl⟩
        case measure => simp [intOf]; omega
    · exfalso
      obtain ⟨q, hq, he⟩ := List.getElem_of_mem HX.out
      exact hne.out q x (by omega) (by rw [List.getElem?_eq_getElem hq, he]) rfl

set_option maxRecDepth 100000 in
set_option maxHeartbeats 400000 in
theorem before_any (xs : List Int) (A : Option Addr) (C : Nat) (x y : Int) (w : World) (h : ISl w 0 w.heap.size A xs) (h4 : xs.length = 4) (hx : x ∈ xs) (hy : y ∈ xs) :
    Calls Tryz.prog 41 #[.slice A xs.length C, .int .i64 x, .int .i64 y] w fun e w' => e = .returned (.bool (decide (rkN xs x < rkN xs y))) ∧ w' = w := by
  have HI := Lib.hid h
  have H4 := Lib.hid h4
  have HX := Lib.hid hx
  have HY := Lib.hid hy
  have HD : Hid (decide ((rkN xs x : Int) < (rkN xs y : Int)) = decide (rkN xs x < rkN xs y)) := by unfold Hid; rw [Bool.eq_iff_iff]; simp
  clear h h4 hx hy
  go_enter Tryz.func41, Tryz.ntmps41
  go_wp2_with fail
  with_reducible refine (indexR_any xs A C x _ HI.out H4.out HX.out).mono ?_
  rintro e w2 ⟨rfl, rfl⟩
  go_wp2_with fail
  with_reducible refine (indexR_any xs A C y _ HI.out H4.out HY.out).mono ?_
  rintro e w3 ⟨rfl, rfl⟩
  go_wp2_with fail
  go_ret
  exact ⟨by rw [← HD.out]; rfl, rfl⟩

set_option maxRecDepth 100000 in
set_option maxHeartbeats 1000000 in
theorem firstDiff_any {k k' : Fo} {a a' : Option Addr} {c c' : Nat} {w : World} (h : Nds w a c k) (h' : Nds w a' c' k') (hk : flen k = flen k') :
    Calls Tryz.prog 55 #[.slice a (flen k) c, .slice a' (flen k') c'] w fun e w' => e = .returned (.int .i64 (fdif k k')) ∧ Below w.heap.size w w' := by
  have HN := Lib.hid h
  have HN' := Lib.hid h'
  have hkl : flen k ≤ flen k' := by omega
  have hsm := h.small
  have hfl := flen_le_sz k
  clear h h' hk
  go_enter Tryz.func55, Tryz.ntmps55
  go_wp2_with fail
  go_loopw [9] (fun i wr => ∃ j : Nat, i = .int .i64 j ∧ j ≤ flen k ∧ Hid (fdif k k' = j + fdif (fdrop j k) (fdrop j k')) ∧ Below w.heap.size w wr) (fun i _ => flen k - (intOf i).toNat)
  case atStart => exact ⟨0, rfl, by omega, by simp [Hid, fdrop], Below.refl _ _⟩
  case round =>
    obtain ⟨j, rfl, hj, hfd, hbl⟩ := hrel
    have hbs := hbl.size
    by_cases hlt : j < flen k
    · obtain ⟨b, o, s1, v1, k1, val, x, y, rfl, hd, hc, hn, _⟩ := (HN.out.next hbl).at hlt
      obtain ⟨b', o', s2, v2, k2, val', x', y', rfl, hd', hc', hn', _⟩ := (HN'.out.next hbl).at (show j < flen k' by omega)
      have g1 : (0 : Int) ≤ (j : Int) := by omega
      have g2 : (j : Int) < (flen k : Int) := by omega
      have g3 : (j : Int) < (flen k' : Int) := by omega
      have HNN := Lib.hid hn
      have HNN' := Lib.hid hn'
      have HBL := Lib.hid hbl
      clear hn hn' hbl
      cases hte : teq s1 v1 k1 s2 v2 k2 with
      | true =>
        have HFD : Hid (fdif k k' = (j + 1) + fdif (fdrop (j + 1) k) (fdrop (j + 1) k')) := by have := hfd.out; rw [fdif_same hd hd' hte] at this; unfold Hid; omega
        have HTE := Lib.hid hte
        clear hte hfd hd hd'
        go_wp2_with fail
        with_reducible refine (sameNode_any HNN.out HNN'.out).mono ?_
        rw [HTE.out]
        rintro e w2 ⟨rfl, hb2⟩
        have HB2 := Lib.hid (HBL.out.trans (hb2.mono hbs))
        clear hb2 hc hc'
        go_wp2_with fail
        go_roundw
        case rel => exact ⟨j + 1, by go_num, by omega, HFD, HB2.out⟩
        case measure => simp [intOf]; omega
      | false =>
        have HFD : Hid (fdif k k' = j) := by have := hfd.out; rw [fdif_unlike hd hd' hte] at this; unfold Hid; omega
        have HTE := Lib.hid hte
        clear hte hfd hd hd'
        go_wp2_with fail
        with_reducible refine (sameNode_any HNN.out HNN'.out).mono ?_
        rw [HTE.out]
        rintro e w2 ⟨rfl, hb2⟩
        have HB2 := Lib.hid (HBL.out.trans (hb2.mono hbs))
        clear hb2 hc hc'
        go_wp2_with fail
        go_ret
        exact ⟨by rw [HFD.out]; rfl, HB2.out⟩
    · have HFD : Hid (fdif k k' = flen k) := by have := hfd.out; rw [fdrop_all (k := k) (by omega)] at this; simp only [fdif] at this; unfold Hid; omega
      have hje : j = flen k := by omega
      subst hje
      clear hfd
      go_wp2_with fail
      go_ret
      exact ⟨by rw [HFD.out]; rfl, hbl⟩

/-- The comparison at all smaller terms. -/
def MoreTo (xs : List Int) (rA : Option Addr) (rC : Nat) (M : Nat) : Prop :=
  ∀ {s v : Int} {k : Fo} {val : Value} {s' v' : Int} {k' : Fo} {val' : Value} {w : World}, Nd w val s v k → Nd w val' s' v' k' → ISl w 0 w.heap.size rA xs → fsz k + fsz k' < M →
    Calls Tryz.prog 21 #[.slice rA xs.length rC, val, val'] w fun e w' => e = .returned (.bool (pB (Gt (rkN xs) (tmOf s v k) (tmOf s' v' k')))) ∧ Below w.heap.size w w'

set_option maxRecDepth 100000 in
set_option maxHeartbeats 1000000 in
theorem moreThanAll_any {xs : List Int} {rA : Option Addr} {rC M : Nat} (H : MoreTo xs rA rC M) {s v : Int} {k : Fo} {val : Value} {a : Option Addr} {c : Nat} {l : Fo} {w : World} (h : Nd w val s v k) (hl : Nds w a c l) (hr : ISl w 0 w.heap.size rA xs) (hM : fsz k + fsz l ≤ M) :
    Calls Tryz.prog 42 #[val, .slice a (flen l) c, .func (.func 21) #[.slice rA xs.length rC] #[]] w fun e w' => e = .returned (.bool (pB (All (rkN xs) (tmOf s v k) (ftm l)))) ∧ Below w.heap.size w w' := by
  have HN := Lib.hid h
  have HL := Lib.hid hl
  have HR := Lib.hid hr
  have HH : Hid (MoreTo xs rA rC M) := H
  have hsm := hl.small
  have hfl := flen_le_sz l
  clear h hl hr H
  go_enter Tryz.func42, Tryz.ntmps42
  go_wp2_with fail
  go_loopw [11] (fun i wr => ∃ j : Nat, i = .int .i64 j ∧ j ≤ flen l ∧ Hid (pB (All (rkN xs) (tmOf s v k) (ftm l)) = pB (All (rkN xs) (tmOf s v k) ((ftm l).drop j))) ∧ Below w.heap.size w wr) (fun i _ => flen l - (intOf i).toNat)
  case atStart => exact ⟨0, rfl, by omega, by simp [Hid], Below.refl _ _⟩
  case round =>
    obtain ⟨j, rfl, hj, hal, hbl⟩ := hrel
    have hbs := hbl.size
    by_cases hlt : j < flen l
    · obtain ⟨b, o, s1, v1, k1, val1, x, y, rfl, hd, hc, hn, hsz⟩ := (HL.out.next hbl).at hlt
      have HAT := Lib.hid (drop_at (ftm_at j l hd))
      have g1 : (0 : Int) ≤ (j : Int) := by omega
      have g2 : (j : Int) < (flen l : Int) := by omega
      have HNN := Lib.hid hn
      have HBL := Lib.hid hbl
      have HCALL := Lib.hid (HH.out (HN.out.next hbl) hn ((HR.out.below hbl).mono (Nat.le_refl _) hbs) (by omega))
      clear hn hbl hd
      cases hg : pB (Gt (rkN xs) (tmOf s v k) (tmOf s1 v1 k1)) with
      | true =>
        have HAL : Hid (pB (All (rkN xs) (tmOf s v k) (ftm l)) = pB (All (rkN xs) (tmOf s v k) ((ftm l).drop (j + 1)))) := by
          unfold Hid
          rw [hal.out, HAT.out]
          exact pB_congr (all_cons.trans ⟨fun h => h.2, fun h => ⟨pB_t.1 hg, h⟩⟩)
        rw [hg] at HCALL
        clear hg hal
        go_wp2_with fail
        with_reducible refine HCALL.out.mono ?_
        rintro e w2 ⟨rfl, hb2⟩
        have HB2 := Lib.hid (HBL.out.trans (hb2.mono hbs))
        clear hb2 hc
        go_wp2_with fail
        go_roundw
        case rel => exact ⟨j + 1, by go_num, by omega, HAL, HB2.out⟩
        case measure => simp [intOf]; omega
      | false =>
        have HAL : Hid (pB (All (rkN xs) (tmOf s v k) (ftm l)) = false) := by
          unfold Hid
          rw [hal.out, HAT.out]
          exact pB_false fun h => pB_f.1 hg (all_cons.1 h).1
        rw [hg] at HCALL
        clear hg hal
        go_wp2_with fail
        with_reducible refine HCALL.out.mono ?_
        rintro e w2 ⟨rfl, hb2⟩
        have HB2 := Lib.hid (HBL.out.trans (hb2.mono hbs))
        clear hb2 hc
        go_wp2_with fail
        go_ret
        exact ⟨by rw [HAL.out]; rfl, HB2.out⟩
    · have HAL : Hid (pB (All (rkN xs) (tmOf s v k) (ftm l)) = true) := by
        unfold Hid
        rw [hal.out, List.drop_eq_nil_of_le (by rw [ftm_len]; omega)]
        exact pB_true all_nil
      clear hal
      go_wp2_with fail
      go_ret
      exact ⟨by rw [HAL.out]; rfl, hbl⟩
end Go.Proofs.YtiinmlagcbjloaaGreat
