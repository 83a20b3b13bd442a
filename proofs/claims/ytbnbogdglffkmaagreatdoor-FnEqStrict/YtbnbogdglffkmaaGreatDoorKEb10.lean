/- Several texts in one: T1, RD2, RD3, RD4, RD5. -/
import Derived.Test.YtbnbogdglffkmaaGreatDoorKEb2
import Derived.Test.YtbnbogdglffkmaaGreatDoorKEb6
import Derived.Test.YtbnbogdglffkmaaGreatDoorKEb4
import Derived.Test.YtbnbogdglffkmaaGreatDoorKEb9
import Derived.Shelf.Strconv.Itoa3
import Derived.Shelf.Strings.OnBuilder
import Derived.Ground.NamesProg
import Derived.Test.YtbnbogdglffkmaaGreatDoorKEb1

/-! T1: The text of a node, and TermText of the program. -/
namespace Go.Proofs
open Go.Shelf
theorem Tryz.builderExtra156 : Builder.Extra Tryz.prog Tryz.lays156_ren where
  sizeBuilder := by kernel_rfl
  liesBuilder := by kernel_rfl
  t5 := Tryz.underlying5
  a5 := Tryz.isAgg5
  z5 := Tryz.sizeOf5
  v5 := Tryz.zeroValue5
  infoByte := by kernel_rfl
  cellsByte := by kernel_rfl
  sizeByte := by kernel_rfl
  neB5 := by decide
end Go.Proofs

namespace Go.Proofs.YtbnbogdglffkmaaGreatDoor
open Go.RowKit Go.Deep

theorem itoa_any (v : Int) (h0 : 0 ≤ v) (h1 : v < 100) (w : World) :
    Calls Tryz.prog 57 #[.int .i64 v] w fun e w' => e = .returned (.string (str (Lib.decDigits v.toNat))) ∧ w' = w := by
  obtain ⟨n, rfl⟩ := Int.eq_ofNat_of_zero_le h0
  exact Any.strconv_Itoa_small Tryz.lays171 n (by omega) w

set_option maxHeartbeats 400000 in
theorem varText_any (v : Int) (h0 : 0 ≤ v) (h1 : v < 100) (w : World) :
    Calls Tryz.prog 116 #[.int .i64 v] w fun e w' => e = .returned (.string (str (120 :: Lib.decDigits v.toNat))) ∧ w' = w := by
  have hz : (str (Lib.decDigits v.toNat)).size ≤ 2 := by rw [str_size]; exact dec_len (by omega)
  go_enter Tryz.func116, Tryz.ntmps116
  go_wp2_with fail
  with_reducible refine (itoa_any v h0 h1 _).mono ?_
  rintro e w2 ⟨rfl, rfl⟩
  go_wp2_with fail
  go_ret
  exact ⟨by rw [show (120 :: Lib.decDigits v.toNat) = [120] ++ Lib.decDigits v.toNat from rfl, ← str_add]; rfl, rfl⟩

theorem join_any (ks : List (List UInt8)) (bk n c : Nat) (w : World) (hnk : n = ks.length) (hcells : ∀ (j : Nat) l, ks[j]? = some l → w.cell? ⟨bk, j, none⟩ = some (.string (str l))) (hbk : bk < w.heap.size) (hn : ks.length ≤ 1000) (hc : ks.length ≤ c) (hl : lens ks ≤ 1000000) :
    Calls Tryz.prog 120 #[.slice (some ⟨bk, 0, none⟩) n c, .string ⟨#[44]⟩] w fun e w' => e = .returned (.string (str (Lib.join ks [44]))) ∧ Below w.heap.size w w' := by
  subst hnk
  have hm : (ks.map str).map (·.data.toList) = ks := by
    rw [List.map_map]
    exact (List.map_congr_left fun x _ => by simp [str]).trans (List.map_id ks)
  have hj := join_len ks
  have := Any.strings_Join Tryz.lays156 Tryz.builderExtra156 bk 0 c (ks.map str) ⟨#[44]⟩ w (fun j x hx => by
    rw [List.getElem?_map] at hx
    cases hk : ks[j]? with
    | none => rw [hk] at hx; cases hx
    | some l => rw [hk] at hx; obtain rfl := Option.some.inj hx; rw [Nat.zero_add]; exact hcells j l hk) hbk (by rw [List.length_map]; omega) (by rw [List.length_map]; exact hc) (by rw [hm]; show (Lib.join ks [44]).length ≤ _; omega)
  rw [hm, List.length_map] at this
  exact this

theorem Tryz.infoS : ∃ i, Tryz.prog.info? 9 = some i ∧ i.zero = some (.string ⟨#[]⟩) ∧ i.size = 1 ∧ i.bytes = 16 := by
  have h : (Tryz.prog.info? 9).map (fun i => (i.zero, i.size, i.bytes)) = some (some (.string ⟨#[]⟩), 1, 16) := by kernel_rfl
  obtain ⟨i, hi, hz⟩ := Option.map_eq_some_iff.1 h
  simp only [Prod.mk.injEq] at hz
  exact ⟨i, hi, hz.1, hz.2.1, hz.2.2⟩
theorem make_strs (n : Nat) (hn : n ≤ 1048576) (w : World) :
    (Instr.makeSlice 46 (.int .i64 (n : Int)) (.int .i64 (n : Int))).run Tryz.prog w = .ok (.slice (some ⟨w.heap.size, 0, none⟩) n n) (w.alloc (.cells (madeCells #[.string ⟨#[]⟩] n) 9)) := by
  obtain ⟨i, hi, hz, hs, hb⟩ := Tryz.infoS
  have := run_make (P := Tryz.prog) w 46 9 i _ Tryz.underlying46 hi hz .i64 .i64 (n : Int) (n : Int) (by omega) (by omega) (by rw [hb]; omega) (by omega)
  rw [hs] at this
  simpa [Value.cells] using this
theorem strs_made (w : World) (n : Nat) (hn : n ≤ 1048576) : (w.alloc (.cells (madeCells #[.string ⟨#[]⟩] n) 9)).ownsRow w.heap.size 9 1 (.slice (some ⟨w.heap.size, 0, none⟩) n n) n ((List.replicate n []).map fun l => Value.string (str l)) := by
  refine ⟨by simp, .inr ⟨w.heap.size, n, madeCells #[.string ⟨#[]⟩] n, rfl, Nat.le_refl _, heap_alloc_new _ _, Nat.le_refl _, by unfold maxLen; omega, by simp [size_madeCells], ?_⟩⟩
  rw [toList_madeCells_one, List.map_replicate, List.take_of_length_le (by simp)]
  rfl
theorem sign_slice1 (w : World) : (Instr.slice 9 (.string ⟨#[97, 98, 103, 102]⟩) (some (.int .i64 0)) (some (.int .i64 1)) none).run Tryz.prog w = .ok (.string (str [97])) w := by kernel_rfl
theorem sign_slice2 (w : World) : (Instr.slice 9 (.string ⟨#[97, 98, 103, 102]⟩) (some (.int .i64 1)) (some (.int .i64 2)) none).run Tryz.prog w = .ok (.string (str [98])) w := by kernel_rfl
theorem sign_slice3 (w : World) : (Instr.slice 9 (.string ⟨#[97, 98, 103, 102]⟩) (some (.int .i64 2)) (some (.int .i64 3)) none).run Tryz.prog w = .ok (.string (str [103])) w := by kernel_rfl
theorem sign_slice4 (w : World) : (Instr.slice 9 (.string ⟨#[97, 98, 103, 102]⟩) (some (.int .i64 3)) (some (.int .i64 4)) none).run Tryz.prog w = .ok (.string (str [102])) w := by kernel_rfl
theorem sign_slice {s : Int} (h0 : 1 ≤ s) (h1 : s ≤ 4) (w : World) :
    (Instr.slice 9 (.string ⟨#[97, 98, 103, 102]⟩) (some (.int .i64 (s - 1))) (some (.int .i64 s)) none).run Tryz.prog w = .ok (.string (str (ltr s))) w := by
  have : s = 1 ∨ s = 2 ∨ s = 3 ∨ s = 4 := by omega
  rcases this with rfl | rfl | rfl | rfl
  · exact sign_slice1 w
  · exact sign_slice2 w
  · exact sign_slice3 w
  · exact sign_slice4 w
theorem cell_lowT {W w2 : World} {q : Addr} {x : Value} (hb : Below W.heap.size W w2) (h : W.cell? q = some x) : w2.cell? q = some x := by
  rw [hb.cell (World.block_lt_of_cell? _ _ h)]; exact h
theorem okN_signs {s v : Int} {n : Nat} (hs : s ≠ 0) (h : okN s v n = true) : 1 ≤ s ∧ s ≤ 4 := by
  have h' := ((okN_iff _ _ _).1 h).1
  unfold ar at h'
  split at h'
  · omega
  · split at h'
    · omega
    · split at h' <;> omega

set_option maxRecDepth 100000 in
set_option maxHeartbeats 1000000 in
theorem symText_any (N : Nat) : ∀ (s : Int) (a : Option Addr) (c : Nat) (k : Fo) (w : World), NSl w 0 w.heap.size a k → s ≠ 0 → okN s 0 (flen k) = true → fok k = true → fsz k ≤ N → N ≤ 1000 →
    Calls Tryz.prog 119 #[.agg #[.int .i64 s, .slice a (flen k) c]] w fun e w' => e = .returned (.string (str (tx s 0 k))) ∧ Below w.heap.size w w' := by
  induction N using Nat.strongRecOn with
  | _ N ih =>
    intro s a c k w hl hs hokN hok hN hN2
    have hfl := flen_le_sz k
    obtain ⟨hs1, hs4⟩ := okN_signs hs hokN
    have hsl := fun w => sign_slice hs1 hs4 w
    have hshort := fts_short k hok
    have hjl := join_len (fts k)
    have hfl2 := fts_len k
    have hll := ltr_len s
    have HOK := Lib.hid hok
    have HSH := Lib.hid hshort
    have IH := Lib.hid ih
    have HS := Lib.hid hs
    have hz1 : (str (ltr s)).size = 1 := by rw [str_size]; exact hll
    have hz2 : (str (Lib.join (fts k) [44])).size ≤ 100000 := by rw [str_size]; omega
    have hz3 : (str (ltr s ++ [40])).size = 2 := by rw [str_size]; simp [hll]
    have hz4 : (str ((ltr s ++ [40]) ++ Lib.join (fts k) [44])).size ≤ 100002 := by rw [str_size] at hz2 ⊢; simp [hll]; omega
    have HJ1 : Hid (str (ltr s) ++ ⟨#[40]⟩ = str (ltr s ++ [40])) := (str_add _ [40])
    have HJ2 : Hid (str (ltr s ++ [40]) ++ str (Lib.join (fts k) [44]) = str ((ltr s ++ [40]) ++ Lib.join (fts k) [44])) := (str_add _ _)
    have HJ3 : Hid (str ((ltr s ++ [40]) ++ Lib.join (fts k) [44]) ++ ⟨#[41]⟩ = str (((ltr s ++ [40]) ++ Lib.join (fts k) [44]) ++ [41])) := (str_add _ [41])
    clear ih hok hshort hjl hll hs hokN
    by_cases hk0 : flen k = 0
    · have HT := Lib.hid (tx_leaf (v := 0) HS.out hk0)
      have ek : ((flen k : Int) == 0) = true := by simp [hk0]
      clear hl hfl hN hfl2 hk0
      go_enter Tryz.func119, Tryz.ntmps119
      go_wp2_with fail
      go_ret
      exact ⟨by rw [HT.out]; rfl, (Below.refl _ _).alloc (Nat.le_refl _) _⟩
    · have HT := Lib.hid (tx_kids (v := 0) HS.out hk0)
      have ek : ((flen k : Int) == 0) = false := by simp; omega
      have hmk := make_strs (flen k) (by omega)
      have HST := Lib.hid (strs_made (w.alloc (.cells #[.int .i64 s, .slice a (flen k) c] 83)) (flen k) (by omega))
      go_enter Tryz.func119, Tryz.ntmps119
      go_wp2_with fail
      clear hmk
      go_loopw [25] (fun i wr => ∃ (j : Nat) (ys : List (List UInt8)), j ≤ flen k ∧ i = .int .i64 j ∧ Hid (ys.length = flen k ∧ ∀ q, q < j → ys[q]? = (fts k)[q]?) ∧ Hid (wr.ownsRow (w.heap.size + 1) 9 1 (.slice (some ⟨w.heap.size + 1, 0, none⟩) (flen k) (flen k)) (flen k) (ys.map fun l => Value.string (str l))) ∧ Below (w.heap.size + 1) (w.alloc (.cells #[.int .i64 s, .slice a (flen k) c] 83)) wr) (fun i _ => flen k - (intOf i).toNat)
      case atStart => exact ⟨0, List.replicate (flen k) [], by omega, rfl, ⟨by simp, fun q hq => by omega⟩, by simpa [Hid] using HST.out, (Below.refl _ _).alloc (by simp) _⟩
      case round =>
        clear HST
        obtain ⟨j, ys, hj, rfl, hys, hown, hbl⟩ := hrel
        have hsr := hbl.size
        simp at hsr
        by_cases hlt : j < flen k
        · rcases hl with rfl | ⟨b, o, rfl, hrow⟩
          · simp [flen] at hlt
          obtain ⟨s', v', kk, val, ⟨x, y, hd⟩, _, hbB, hkc, hn⟩ := nrow_at (hrow.below (after_top hbl)) hlt
          have hkN := fsz_kid hd
          have hkok := fok_kid HOK.out hd
          have HAT := Lib.hid (fts_at j k hd)
          have HBL := Lib.hid hbl
          have g1 : (0 : Int) ≤ (j : Int) := by omega
          have g2 : (j : Int) < (flen k : Int) := by omega
          clear hd hrow hbl hsl hz1 hz2 hz3 hz4
          have hcl : ∃ u, wr.cell? ⟨w.heap.size + 1, j, none⟩ = some u := by
            rw [hown.out.cellAt j (by omega)]
            exact ⟨_, List.getElem?_eq_getElem (by simp [hys.out.1, hlt])⟩
          have hfz := hown.out.frozenAt j
          have HFIN : Hid (∀ w2 : World, Below wr.heap.size wr w2 → (∃ u, w2.cell? ⟨w.heap.size + 1, j, none⟩ = some u) ∧ w2.frozen? ⟨w.heap.size + 1, j, none⟩ = false ∧ (∃ ys' : List (List UInt8), Hid (ys'.length = flen k ∧ ∀ q, q < j + 1 → ys'[q]? = (fts k)[q]?) ∧ Hid ((w2.setCell ⟨w.heap.size + 1, j, none⟩ (.string (str (tx s' v' kk)))).ownsRow (w.heap.size + 1) 9 1 (.slice (some ⟨w.heap.size + 1, 0, none⟩) (flen k) (flen k)) (flen k) (ys'.map fun l => Value.string (str l)))) ∧ Below (w.heap.size + 1) (w.alloc (.cells #[.int .i64 s, .slice (some ⟨b, o, none⟩) (flen k) c] 83)) (w2.setCell ⟨w.heap.size + 1, j, none⟩ (.string (str (tx s' v' kk))))) := by
            intro w2 hb2
            have hown2 := own_low hb2 hown.out
            obtain ⟨u, hcl⟩ := hcl
            refine ⟨⟨u, cell_lowT hb2 hcl⟩, hown2.frozenAt j, ⟨ys.set j (tx s' v' kk), ?_, ?_⟩, (HBL.out.trans (hb2.mono hsr)).setCell (by simp) _⟩
            · refine ⟨by rw [List.length_set]; exact hys.out.1, fun q hq => ?_⟩
              by_cases e : q = j
              · subst e
                rw [List.getElem?_set_self (by rw [hys.out.1]; exact hlt), HAT.out]
              · rw [List.getElem?_set_ne (fun h => e h.symm)]
                exact hys.out.2 q (by omega)
            · obtain ⟨hst, _⟩ := hown2.stored j (.string (str (tx s' v' kk)))
              unfold Hid
              rw [List.map_set]
              exact hst
          clear hown hys hcl hfz HAT
          rcases hn with ⟨rfl, rfl, rfl⟩ | ⟨hs', a2, c2, rfl, hn2⟩
          · have hv := ((okN_iff _ _ _).1 hkok.1).2.1 rfl
            clear hkok
            go_wp2_with fail
            refine upon_method 116 (by kernel_rfl) (by kernel_rfl) ?_
            go_simp
            with_reducible refine (varText_any v' hv.1 (by omega) _).mono ?_
            rintro e w2 ⟨rfl, rfl⟩
            obtain ⟨⟨u, hcl⟩, hfz, ⟨ys', hys', hown'⟩, hbl'⟩ := HFIN.out w2 (Below.refl _ _)
            rw [tx_var] at hown' hbl'
            have HBL' := Lib.hid hbl'
            clear HFIN hbl'
            go_wp2_with fail
            go_roundw
            case rel => exact ⟨j + 1, ys', by omega, by go_num, hys', hown', HBL'.out⟩
            case measure => simp [intOf]; omega
          · have hv0 : v' = 0 := ((okN_iff _ _ _).1 hkok.1).2.2 hs'
            subst hv0
            have HKO := Lib.hid hkok
            have HN2 := Lib.hid hn2
            have HS' := Lib.hid hs'
            clear hn2 hkok hs'
            go_wp2_with fail
            refine upon_method 119 (by kernel_rfl) (by kernel_rfl) ?_
            go_simp
            with_reducible refine (IH.out (fsz kk) (by omega) s' a2 c2 kk _ ?_ HS'.out HKO.out.1 HKO.out.2 (Nat.le_refl _) (by omega)).mono ?_
            · exact HN2.out.mono (Nat.le_refl _) (by omega)
            rintro e w2 ⟨rfl, hb2⟩
            obtain ⟨⟨u, hcl⟩, hfz, ⟨ys', hys', hown'⟩, hbl'⟩ := HFIN.out w2 hb2
            have HBL' := Lib.hid hbl'
            clear HFIN hbl' hb2
            go_wp2_with fail
            go_roundw
            case rel => exact ⟨j + 1, ys', by omega, by go_num, hys', hown', HBL'.out⟩
            case measure => simp [intOf]; omega
        · have hje : j = flen k := by omega
          subst hje
          have HE : Hid (ys = fts k) := by
            refine List.ext_getElem? fun q => ?_
            by_cases hq : q < flen k
            · exact hys.out.2 q hq
            · rw [List.getElem?_eq_none (by rw [hys.out.1]; omega), List.getElem?_eq_none (by rw [fts_len]; omega)]
          have HCE : Hid (∀ (q : Nat) l, (fts k)[q]? = some l → wr.cell? ⟨w.heap.size + 1, q, none⟩ = some (.string (str l))) := fun q l hql => by
            have hq := (List.getElem?_eq_some_iff.1 hql).1
            rw [hown.out.cellAt q (by rw [fts_len] at hq; omega), HE.out, List.getElem?_map, hql]
            rfl
          have hgl : w.heap.size + 1 < wr.heap.size := by
            rcases hown.out.2 with ⟨h, _⟩ | ⟨g, cap, cur, hv, _, hg, _⟩
            · cases h
            · simp only [Value.slice.injEq, Option.some.injEq, Addr.mk.injEq] at hv
              obtain ⟨⟨rfl, _⟩, _⟩ := hv
              exact (Array.getElem?_eq_some_iff.1 hg).1
          have HBL := Lib.hid hbl
          clear hys hown hbl
          go_wp2_with fail
          rw [HJ1.out]
          go_wp2_with fail
          with_reducible refine (join_any (fts k) (w.heap.size + 1) (flen k) (flen k) _ hfl2.symm HCE.out hgl (by omega) (by omega) ?_).mono ?_
          · have := HSH.out; omega
          rintro e w2 ⟨rfl, hb2⟩
          have HB2 := Lib.hid (HBL.out.trans (hb2.mono hsr))
          clear hb2 hgl
          go_wp2_with fail
          rw [HJ2.out]
          go_wp2_with fail
          rw [HJ3.out]
          go_wp2_with fail
          go_ret
          exact ⟨by rw [HT.out]; simp, after_top HB2.out⟩
end Go.Proofs.YtbnbogdglffkmaaGreatDoor

/-! RD2: The reader of texts: a mark is skipped, a letter's sign, a variable. -/
namespace Go.Proofs.YtbnbogdglffkmaaGreatDoor
open Go.RowKit Go.Deep

/-- The two errors of the library that a number's reader hands on lie below block B. -/
structure ErrAt (w : World) (B : Nat) : Prop where
  syn : ∃ tp p, w.cell? ⟨1, 0, none⟩ = some (.iface tp p)
  rng : ∃ tp p, w.cell? ⟨2, 0, none⟩ = some (.iface tp p)
  b1 : 1 < B
  b2 : 2 < B
theorem ErrAt.same {w w' : World} {B : Nat} (h : ErrAt w B) (hs : Same 0 B w w') : ErrAt w' B := by
  obtain ⟨⟨t1, p1, h1⟩, ⟨t2, p2, h2⟩, b1, b2⟩ := h
  exact ⟨⟨t1, p1, by rw [hs.cell (Nat.zero_le _) b1]; exact h1⟩, ⟨t2, p2, by rw [hs.cell (Nat.zero_le _) b2]; exact h2⟩, b1, b2⟩
theorem ErrAt.mono {w : World} {B B' : Nat} (h : ErrAt w B) (hB : B ≤ B') : ErrAt w B' := ⟨h.syn, h.rng, Nat.lt_of_lt_of_le h.b1 hB, Nat.lt_of_lt_of_le h.b2 hB⟩

/-- The reader in block br holds the text l, and room for so many. -/
structure RdAt (w : World) (br : Nat) (l : List UInt8) (room : Int) : Prop where
  lt : br < w.heap.size
  c0 : w.cell? ⟨br, 0, none⟩ = some (.string (str l))
  c1 : w.cell? ⟨br, 1, none⟩ = some (.int .i64 room)
  f0 : w.frozen? ⟨br, 0, none⟩ = false
  f1 : w.frozen? ⟨br, 1, none⟩ = false
theorem RdAt.of_block {w w' : World} {br : Nat} {l : List UInt8} {room : Int} (h : RdAt w br l room) (hb : w'.heap[br]? = w.heap[br]?) (hs : w.heap.size ≤ w'.heap.size) : RdAt w' br l room := by
  have hc : ∀ o, w'.cell? ⟨br, o, none⟩ = w.cell? ⟨br, o, none⟩ := fun o => by simp only [World.cell?, hb]
  have hf : ∀ o, w'.frozen? ⟨br, o, none⟩ = w.frozen? ⟨br, o, none⟩ := fun o => by simp only [World.frozen?, hb]
  exact ⟨Nat.lt_of_lt_of_le h.lt hs, by rw [hc]; exact h.c0, by rw [hc]; exact h.c1, by rw [hf]; exact h.f0, by rw [hf]; exact h.f1⟩
theorem RdAt.below {w w' : World} {br B : Nat} {l : List UInt8} {room : Int} (h : RdAt w br l room) (hb : Below B w w') (hB : br < B) : RdAt w' br l room := h.of_block (hb.block br hB) hb.size
theorem ne_cell {b i j : Nat} (h : i ≠ j) : (⟨b, i, none⟩ : Addr) ≠ ⟨b, j, none⟩ := fun e => h (congrArg Addr.off e)
theorem RdAt.rest {w : World} {br : Nat} {l : List UInt8} {room : Int} (h : RdAt w br l room) (l' : List UInt8) : RdAt (w.setCell ⟨br, 0, none⟩ (.string (str l'))) br l' room :=
  ⟨by rw [World.size_setCell]; exact h.lt, World.cell?_setCell_same _ _ _ h.c0, by rw [World.cell?_setCell_other _ _ _ _ (ne_cell (by omega))]; exact h.c1, by rw [World.frozen?_setCell]; exact h.f0, by rw [World.frozen?_setCell]; exact h.f1⟩
theorem RdAt.room {w : World} {br : Nat} {l : List UInt8} {room : Int} (h : RdAt w br l room) (r' : Int) : RdAt (w.setCell ⟨br, 1, none⟩ (.int .i64 r')) br l r' :=
  ⟨by rw [World.size_setCell]; exact h.lt, by rw [World.cell?_setCell_other _ _ _ _ (ne_cell (by omega))]; exact h.c0, World.cell?_setCell_same _ _ _ h.c1, by rw [World.frozen?_setCell]; exact h.f0, by rw [World.frozen?_setCell]; exact h.f1⟩

/-- Nothing that was there has changed but what block br holds. -/
structure Rk (br : Nat) (w w' : World) : Prop where
  os : w'.os = w.os
  tape : w'.tape = w.tape
  output : w'.output = w.output
  size : w.heap.size ≤ w'.heap.size
  block : ∀ k, k < w.heap.size → k ≠ br → w'.heap[k]? = w.heap[k]?
theorem Rk.refl (br : Nat) (w : World) : Rk br w w := ⟨rfl, rfl, rfl, Nat.le_refl _, fun _ _ _ => rfl⟩
theorem Rk.trans {br : Nat} {w w1 w2 : World} (h : Rk br w w1) (h' : Rk br w1 w2) : Rk br w w2 :=
  ⟨h'.os.trans h.os, h'.tape.trans h.tape, h'.output.trans h.output, Nat.le_trans h.size h'.size, fun k hk hn => (h'.block k (Nat.lt_of_lt_of_le hk h.size) hn).trans (h.block k hk hn)⟩
theorem Rk.of_below {br : Nat} {w w' : World} (h : Below w.heap.size w w') : Rk br w w' := ⟨h.os, h.tape, h.output, h.size, fun k hk _ => h.block k hk⟩
theorem Rk.set (br : Nat) (w : World) (o : Nat) (v : Value) : Rk br w (w.setCell ⟨br, o, none⟩ v) :=
  ⟨rfl, rfl, rfl, by rw [World.size_setCell]; exact Nat.le_refl _, fun k _ hn => Below.heap_setCell _ _ _ _ (by simpa using hn)⟩
theorem Rk.to {br B : Nat} {w w' : World} (h : Rk br w w') (hB : B ≤ br) (hw : B ≤ w.heap.size) : Below B w w' :=
  ⟨h.os, h.tape, h.output, h.size, fun k hk => h.block k (by omega) (by omega)⟩
theorem Rk.same {br B : Nat} {w w' : World} (h : Rk br w w') (hB : B ≤ br) (hw : B ≤ w.heap.size) : Same 0 B w w' := fun k _ hk => h.block k (by omega) (by omega)

theorem cutPrefix_any (m : UInt8) (l : List UInt8) (w : World) :
    Calls Tryz.prog 54 #[.string (str l), .string ⟨#[m]⟩] w fun e w' => e = .returned (.tuple #[.string (str ((skp m l).getD l)), .bool (skp m l).isSome]) ∧ w' = w := by
  have h := Any.strings_CutPrefix Tryz.lays103 (str l) ⟨#[m]⟩ w
  refine Calls.mono h fun e w' ⟨he, hw⟩ => ⟨?_, hw⟩
  rw [he]
  rcases skp_has (m := m) (l := l) with ⟨h1, r, _, h2, h3⟩ | ⟨h1, h2, h3⟩
  · show Ending.returned (.tuple #[.string (str (Lib.trimPrefix l [m])), .bool (Lib.hasPrefix l [m])]) = _
    rw [h1, h2, h3]; rfl
  · show Ending.returned (.tuple #[.string (str (Lib.trimPrefix l [m])), .bool (Lib.hasPrefix l [m])]) = _
    rw [h1, h2, h3]; rfl

set_option maxHeartbeats 400000 in
theorem skip_any (br : Nat) (m : UInt8) (l : List UInt8) (room : Int) (w : World) (h : RdAt w br l room) :
    Calls Tryz.prog 46 #[.pointer (some ⟨br, 0, none⟩), .string ⟨#[m]⟩] w fun e w' =>
      e = .returned (.bool (skp m l).isSome) ∧ Rk br w w' ∧ RdAt w' br ((skp m l).getD l) room := by
  have h0 := h.c0
  have h2 := h.f0
  have HH := Lib.hid h
  clear h
  go_enter Tryz.func46, Tryz.ntmps46
  go_wp2_with (go_at_call 54; refine (cutPrefix_any _ _ _).mono ?_; rintro e w2 ⟨rfl, rfl⟩)
  go_ret
  exact ⟨rfl, Rk.set _ _ _ _, HH.out.rest _⟩

theorem sgnI_range (b : UInt8) : 0 ≤ sgnI b ∧ sgnI b ≤ 4 := by
  unfold sgnI
  split
  · omega
  · split
    · omega
    · split
      · omega
      · split <;> omega
set_option maxHeartbeats 400000 in
theorem signLetter_any (b : UInt8) (w : World) :
    Calls Tryz.prog 48 #[.int .u8 b.toNat] w fun e w' => e = .returned (.int .i64 (sgnI b)) ∧ w = w' := by
  have hi := Any.strings_IndexByte Tryz.lays137 ⟨#[97, 98, 103, 102]⟩ (b.toNat : Int) w
  have hb : (b.toNat : Int).toNat.toUInt8 = b := by
    rw [Int.toNat_natCast]
    exact UInt8.ofNat_toNat
  rw [hb] at hi
  have hx := index_letter b
  obtain ⟨hr0, hr1⟩ := sgnI_range b
  obtain ⟨x, hxx⟩ : ∃ x, x = Lib.indexByte [97, 98, 103, 102] b := ⟨_, rfl⟩
  have hi : Calls Tryz.prog 58 #[.string ⟨#[97, 98, 103, 102]⟩, .int .u8 b.toNat] w fun e w' => e = .returned (.int .i64 x) ∧ w' = w := by rw [hxx]; exact hi
  rw [← hxx] at hx
  clear hb hxx
  have HX := Lib.hid hx
  clear hx
  go_enter Tryz.func48, Tryz.ntmps48
  go_wp2_with (go_at_call 58; refine hi.mono ?_; rintro e w2 ⟨rfl, rfl⟩)
  go_ret
  refine ⟨?_, rfl⟩
  rw [show wrap64 (1 + x) = sgnI b from by have := HX.out; unfold wrap64; omega]
  rfl

/-- A reading's answer: the node, and what is left. -/
def NdPost (br : Nat) (w : World) (o : Option ((Int × Int × Fo) × Nat × List UInt8)) (e : Ending) (w' : World) : Prop :=
  ∃ nv l' room', e = .returned (.tuple #[nv, .bool o.isSome]) ∧ Rk br w w' ∧ RdAt w' br l' room' ∧
    ∀ s v k m r, o = some ((s, v, k), m, r) → l' = r ∧ room' = (m : Int) ∧ NodeC w' w.heap.size w'.heap.size nv s v k

theorem itoaI_any (v : Int) (h0 : 0 ≤ v) (h1 : v < 100) (w : World) :
    Calls Tryz.prog 57 #[.int .i64 v] w fun e w' => e = .returned (.string (str (Lib.decDigits v.toNat))) ∧ w' = w := itoa_any v h0 h1 w
/-- A number's text is read: a number, or an error. -/
theorem atoi_any (d : List UInt8) (hd : d.length ≤ 1048576) (w : World) {B : Nat} (hE : ErrAt w B) :
    Calls Tryz.prog 56 #[.string (str d)] w fun e w' => Below w.heap.size w w' ∧
      ((∃ v, Lib.atoiAll d = .ok v ∧ e = .returned (.tuple #[.int .i64 v, .nilIface])) ∨ ((∀ v, Lib.atoiAll d ≠ .ok v) ∧ ∃ v t p, e = .returned (.tuple #[.int .i64 v, .iface t p]))) := by
  have hs : (str d).size ≤ 1048576 := by rw [str_size]; exact hd
  cases hA : Lib.atoiAll d with
  | ok v =>
    refine Calls.mono (Any.strconv_Atoi_ok Tryz.laysC172 (str d) (by omega) v hA w) fun e w' ⟨he, hw⟩ => ⟨?_, .inl ⟨v, rfl, he⟩⟩
    rcases hw with rfl | ⟨t, rfl⟩
    · exact Below.refl _ _
    · exact Lib.bytesWorld_below _ _ _
  | «syntax» =>
    obtain ⟨tp, p, hc⟩ := hE.syn
    exact Calls.mono (Any.strconv_Atoi_syntax Tryz.laysC172 (str d) (by omega) hA (.iface tp p) w hc (.inr ⟨tp, p, rfl⟩)) fun e w' ⟨N, he, _, _, hb⟩ => ⟨hb, .inr ⟨(fun v h => by cases h), _, _, _, he⟩⟩
  | range =>
    obtain ⟨tp, p, hc⟩ := hE.rng
    exact Calls.mono (Any.strconv_Atoi_range Tryz.laysC172 (str d) (by omega) hA (.iface tp p) w hc (.inr ⟨tp, p, rfl⟩)) fun e w' ⟨N, he, _, _, hb⟩ => ⟨hb, .inr ⟨(fun v h => by cases h), _, _, _, he⟩⟩
theorem str_toList (l : List UInt8) : (str l).data.toList = l := rfl
theorem str_inj {l m : List UInt8} (h : str l = str m) : l = m := by
  have := congrArg (fun s : ByteArray => s.data.toList) h
  exact this
theorem str_of {s : ByteArray} {l : List UInt8} (h : s.data.toList = l) : s = str l := by
  apply ByteArray.ext
  rw [← h]
  simp [str]
theorem trimLeft_any (l : List UInt8) (w : World) :
    Calls Tryz.prog 55 #[.string (str l), .string ⟨#[48, 49, 50, 51, 52, 53, 54, 55, 56, 57]⟩] w fun e w' => e = .returned (.string (str (l.dropWhile isDig))) ∧ Below w.heap.size w w' := by
  refine Calls.mono (Any.strings_TrimLeft_laid Tryz.lays161 (by kernel_rfl) (str l) ⟨#[48, 49, 50, 51, 52, 53, 54, 55, 56, 57]⟩ w (by decide) (ascii_of_all (by decide))) fun e w' ⟨he, hb⟩ => ⟨?_, hb⟩
  rw [he, ← trim_digs]
  rfl
end Go.Proofs.YtbnbogdglffkmaaGreatDoor

/-! RD3: A term read from a text, kid by kid. Plain lemmas. -/
namespace Go.Proofs.YtbnbogdglffkmaaGreatDoor
open Go.RowKit Go.Deep

/-- So many terms, each behind a mark: the first mark is m, the others commas. -/
def rdKs (fuel : Nat) : Nat → UInt8 → Nat → List UInt8 → Option (Fo × Nat × List UInt8)
  | 0, _, room, l => some (.nil, room, l)
  | n + 1, m, room, l => (skp m l).bind fun r1 => (rdN fuel room r1).bind fun x => (rdKs fuel n 44 x.2.1 x.2.2).map fun y => (.node 0 0 (x.1.1, x.1.2.1) x.1.2.2 y.1, y.2.1, y.2.2)
/-- What stands behind a sign. -/
def rdS (fuel : Nat) (s : Int) (room : Nat) (l : List UInt8) : Option ((Int × Int × Fo) × Nat × List UInt8) :=
  (rdKs fuel (ar s).toNat 40 room l).bind fun y => if ar s = 0 then some ((s, 0, y.1), y.2.1, y.2.2) else (skp 41 y.2.2).map fun r3 => ((s, 0, y.1), y.2.1, r3)

theorem rdN_none {fuel room : Nat} (h : room < 1) (l : List UInt8) : rdN fuel room l = none := by
  cases fuel with
  | zero => rfl
  | succ n => cases l with
    | nil => rfl
    | cons b r => simp only [rdN]; rw [if_pos h]
theorem rdN_nil (fuel room : Nat) : rdN fuel room [] = none := by cases fuel <;> rfl
theorem rdN_var {fuel room : Nat} (h : 1 ≤ room) (r : List UInt8) : rdN (fuel + 1) room (120 :: r) = (numV (r.takeWhile isDig)).map fun (n : Nat) => ((0, (n : Int), .nil), room - 1, r.dropWhile isDig) := by
  unfold rdN
  rw [if_neg (by omega), if_pos rfl]
theorem rdN_bad {fuel room : Nat} {b : UInt8} (hb : b ≠ 120) (hs : sgnI b = 0) (r : List UInt8) : rdN (fuel + 1) room (b :: r) = none := by
  have h1 : b ≠ 97 := fun e => by subst e; exact absurd hs (by decide)
  have h2 : b ≠ 98 := fun e => by subst e; exact absurd hs (by decide)
  have h3 : b ≠ 103 := fun e => by subst e; exact absurd hs (by decide)
  have h4 : b ≠ 102 := fun e => by subst e; exact absurd hs (by decide)
  unfold rdN
  rw [if_neg hb, if_neg h1, if_neg h2, if_neg h3, if_neg h4, ite_self]
theorem rdN_sym {fuel room : Nat} {b : UInt8} (h : 1 ≤ room) (hb : b ≠ 120) (hs : sgnI b ≠ 0) (r : List UInt8) : rdN (fuel + 1) room (b :: r) = rdS fuel (sgnI b) (room - 1) r := by
  have hc : b = 97 ∨ b = 98 ∨ b = 103 ∨ b = 102 := by
    unfold sgnI at hs
    by_cases h1 : b = 97
    · exact .inl h1
    by_cases h2 : b = 98
    · exact .inr (.inl h2)
    by_cases h3 : b = 103
    · exact .inr (.inr (.inl h3))
    by_cases h4 : b = 102
    · exact .inr (.inr (.inr h4))
    rw [if_neg h1, if_neg h2, if_neg h3, if_neg h4] at hs
    exact absurd rfl hs
  rcases hc with rfl | rfl | rfl | rfl
  · show rdN (fuel + 1) room (97 :: r) = rdS fuel 1 (room - 1) r
    unfold rdN
    rw [if_neg (by omega), if_neg (by decide), if_pos rfl]
    rfl
  · show rdN (fuel + 1) room (98 :: r) = rdS fuel 2 (room - 1) r
    unfold rdN
    rw [if_neg (by omega), if_neg (by decide), if_neg (by decide), if_pos rfl]
    rfl
  · show rdN (fuel + 1) room (103 :: r) = rdS fuel 3 (room - 1) r
    unfold rdN
    rw [if_neg (by omega), if_neg (by decide), if_neg (by decide), if_neg (by decide), if_pos rfl]
    show _ = (((skp 40 r).bind fun r1 => (rdN fuel (room - 1) r1).bind fun x => some (BT.node 0 0 (x.1.1, x.1.2.1) x.1.2.2 .nil, x.2.1, x.2.2)).bind fun y => (skp 41 y.2.2).map fun r3 => ((3, 0, y.1), y.2.1, r3))
    cases skp 40 r with
    | none => rfl
    | some r1 =>
      simp only [Option.bind_some]
      cases rdN fuel (room - 1) r1 with
      | none => rfl
      | some x => rfl
  · show rdN (fuel + 1) room (102 :: r) = rdS fuel 4 (room - 1) r
    unfold rdN
    rw [if_neg (by omega), if_neg (by decide), if_neg (by decide), if_neg (by decide), if_neg (by decide), if_pos rfl]
    show _ = (((skp 40 r).bind fun r1 => (rdN fuel (room - 1) r1).bind fun x => ((skp 44 x.2.2).bind fun r2 => (rdN fuel x.2.1 r2).bind fun y => some (BT.node 0 0 (y.1.1, y.1.2.1) y.1.2.2 .nil, y.2.1, y.2.2)).map fun y => (BT.node 0 0 (x.1.1, x.1.2.1) x.1.2.2 y.1, y.2.1, y.2.2)).bind fun y => (skp 41 y.2.2).map fun r3 => ((4, 0, y.1), y.2.1, r3))
    cases skp 40 r with
    | none => rfl
    | some r1 =>
      simp only [Option.bind_some]
      cases rdN fuel (room - 1) r1 with
      | none => rfl
      | some x =>
        simp only [Option.bind_some]
        cases skp 44 x.2.2 with
        | none => rfl
        | some r2 =>
          simp only [Option.bind_some]
          cases rdN fuel x.2.1 r2 with
          | none => rfl
          | some y => rfl
theorem rdN_room {fuel room : Nat} {l : List UInt8} {t : Int × Int × Fo} {room' : Nat} {r : List UInt8} (h : rdN fuel room l = some (t, room', r)) : room' ≤ room := by
  obtain ⟨s, v, k⟩ := t
  have := (rdN_sound fuel room l h).2.2.1
  omega
theorem rdN_len {fuel room : Nat} {l : List UInt8} {t : Int × Int × Fo} {room' : Nat} {r : List UInt8} (h : rdN fuel room l = some (t, room', r)) : r.length ≤ l.length := by
  obtain ⟨s, v, k⟩ := t
  have := (rdN_sound fuel room l h).2.2.2
  rw [this, List.length_append]
  omega
theorem skp_len {m : UInt8} {l r : List UInt8} (h : skp m l = some r) : r.length ≤ l.length := by
  rw [skp_some h, List.length_cons]
  omega

/-- Terms ahead of a row of terms. -/
def kpre : List (Int × Int × Fo) → Fo → Fo
  | [], f => f
  | x :: r, f => .node 0 0 (x.1, x.2.1) x.2.2 (kpre r f)
theorem kpre_snoc : ∀ (ks : List (Int × Int × Fo)) (x : Int × Int × Fo) (f : Fo), kpre (ks ++ [x]) f = kpre ks (.node 0 0 (x.1, x.2.1) x.2.2 f)
  | [], _, _ => rfl
  | y :: r, x, f => by show BT.node 0 0 _ _ (kpre (r ++ [x]) f) = _; rw [kpre_snoc r x f]; rfl
theorem flen_kpre : ∀ (ks : List (Int × Int × Fo)) (f : Fo), flen (kpre ks f) = ks.length + flen f
  | [], f => by simp [kpre]
  | y :: r, f => by simp only [kpre, flen, List.length_cons, flen_kpre r f]; omega
theorem fdrop_kpre : ∀ (i : Nat) (ks : List (Int × Int × Fo)) (f : Fo) {x : Int × Int × Fo}, ks[i]? = some x → fdrop i (kpre ks f) = .node 0 0 (x.1, x.2.1) x.2.2 (fdrop (i + 1) (kpre ks f))
  | _, [], _, _, h => by simp at h
  | 0, y :: r, f, x, h => by
    simp only [List.getElem?_cons_zero, Option.some.injEq] at h
    subst h
    simp only [kpre, fdrop]
  | i + 1, y :: r, f, x, h => by
    simp only [List.getElem?_cons_succ] at h
    simp only [kpre]
    rw [fdrop, fdrop]
    exact fdrop_kpre i r f h

/-- What is read so far, and what is still to be read. -/
def RdSt (fuel n room0 : Nat) (l0 : List UInt8) (ks : List (Int × Int × Fo)) (m : UInt8) (room : Nat) (l : List UInt8) : Prop :=
  rdKs fuel n 40 room0 l0 = (rdKs fuel (n - ks.length) m room l).map fun y => (kpre ks y.1, y.2.1, y.2.2)
theorem RdSt.start (fuel n room0 : Nat) (l0 : List UInt8) : RdSt fuel n room0 l0 [] 40 room0 l0 := by
  unfold RdSt
  show _ = (rdKs fuel n 40 room0 l0).map fun y => (y.1, y.2.1, y.2.2)
  cases rdKs fuel n 40 room0 l0 <;> rfl
theorem RdSt.no_mark {fuel n room0 room : Nat} {l0 l : List UInt8} {ks : List (Int × Int × Fo)} {m : UInt8} (h : RdSt fuel n room0 l0 ks m room l) (hn : ks.length < n) (hs : skp m l = none) : rdKs fuel n 40 room0 l0 = none := by
  unfold RdSt at h
  obtain ⟨q, hq⟩ : ∃ q, n - ks.length = q + 1 := ⟨n - ks.length - 1, by omega⟩
  rw [h, hq, rdKs, hs]
  rfl
theorem RdSt.no_kid {fuel n room0 room : Nat} {l0 l r : List UInt8} {ks : List (Int × Int × Fo)} {m : UInt8} (h : RdSt fuel n room0 l0 ks m room l) (hn : ks.length < n) (hs : skp m l = some r) (hr : rdN fuel room r = none) : rdKs fuel n 40 room0 l0 = none := by
  unfold RdSt at h
  obtain ⟨q, hq⟩ : ∃ q, n - ks.length = q + 1 := ⟨n - ks.length - 1, by omega⟩
  rw [h, hq, rdKs, hs]
  simp only [Option.bind_some, hr, Option.bind_none, Option.map_none]
theorem RdSt.step {fuel n room0 room : Nat} {l0 l r : List UInt8} {ks : List (Int × Int × Fo)} {m : UInt8} {t : Int × Int × Fo} {room' : Nat} {r' : List UInt8} (h : RdSt fuel n room0 l0 ks m room l) (hn : ks.length < n) (hs : skp m l = some r) (hr : rdN fuel room r = some (t, room', r')) :
    RdSt fuel n room0 l0 (ks ++ [t]) 44 room' r' := by
  unfold RdSt at h ⊢
  obtain ⟨q, hq⟩ : ∃ q, n - ks.length = q + 1 := ⟨n - ks.length - 1, by omega⟩
  have hq' : n - (ks ++ [t]).length = q := by rw [List.length_append, List.length_singleton]; omega
  rw [h, hq, hq', rdKs, hs]
  simp only [Option.bind_some, hr]
  cases rdKs fuel q 44 room' r' with
  | none => rfl
  | some y => simp only [Option.map_some, kpre_snoc]
theorem RdSt.done {fuel n room0 room : Nat} {l0 l : List UInt8} {ks : List (Int × Int × Fo)} {m : UInt8} (h : RdSt fuel n room0 l0 ks m room l) (hn : ks.length = n) : rdKs fuel n 40 room0 l0 = some (kpre ks .nil, room, l) := by
  unfold RdSt at h
  rw [h, show n - ks.length = 0 from by omega]
  rfl
end Go.Proofs.YtbnbogdglffkmaaGreatDoor

/-! RD4: The reader of texts: a variable. -/
namespace Go.Proofs.YtbnbogdglffkmaaGreatDoor
open Go.RowKit Go.Deep

theorem drop_le (l : List UInt8) : (l.dropWhile isDig).length ≤ l.length := by
  have := congrArg List.length (List.takeWhile_append_dropWhile (p := isDig) (l := l))
  rw [List.length_append] at this
  omega
theorem take_ext (l : List UInt8) (n : Int) (hn : n = (l.length : Int) - ((l.dropWhile isDig).length : Int)) : (str l).extract 0 n.toNat = str (l.takeWhile isDig) := by
  apply str_of
  rw [Lib.extract_data, str_toList, List.drop_zero, ← take_digs]
  congr 1
  have := drop_le l
  omega

set_option maxRecDepth 100000 in
set_option maxHeartbeats 1000000 in
theorem variable_any (br : Nat) (l : List UInt8) (room : Nat) (w : World) (h : RdAt w br l room) (hl : l.length ≤ 1048576) (hE : ErrAt w br) :
    Calls Tryz.prog 47 #[.pointer (some ⟨br, 0, none⟩)] w (NdPost br w ((numV (l.takeWhile isDig)).map fun (n : Nat) => ((0, (n : Int), .nil), room, l.dropWhile isDig))) := by
  have hle := drop_le l
  have hz1 : (str l).size = l.length := str_size l
  have hz2 : (str (l.dropWhile isDig)).size = (l.dropWhile isDig).length := str_size _
  have h0 := h.c0
  have HH := Lib.hid h
  have HE := Lib.hid hE
  clear h hE
  go_enter Tryz.func47, Tryz.ntmps47
  go_wp2_with (go_at_call 55; refine (trimLeft_any _ _).mono ?_; rintro e w2 ⟨rfl, hb⟩)
  have hR := HH.out.below hb HH.out.lt
  have hc0 := hR.c0
  have hf0 := hR.f0
  have hcu : ∀ u : After w2.heap.size w2, u.world.cell? ⟨br, 0, none⟩ = some (.string (str l)) := fun u => u.cell hR.lt hc0
  refine wp_region_after w2.heap.size (by kernel_rfl) (by kernel_rfl) ?_
  repeat (go_big_quiet_step (fail))
  refine wpQuiet_nil ?_
  rintro _ ⟨u, rfl⟩
  have hR2 := (hR.below u.below hR.lt).rest (l.dropWhile isDig)
  have hK2 := ((Rk.of_below (br := br) hb).trans (Rk.of_below u.below)).trans (Rk.set br u.world 0 (.string (str (l.dropWhile isDig))))
  have hE2 := HE.out.same (hK2.same (Nat.le_refl _) (Nat.le_of_lt HH.out.lt))
  have HR2 := Lib.hid hR2
  have HK2 := Lib.hid hK2
  have HE2 := Lib.hid hE2
  have htk0 := take_ext l _ rfl
  rw [show ((l.length : Int) - ((l.dropWhile isDig).length : Int)).toNat = l.length - (l.dropWhile isDig).length from by omega] at htk0
  have htk := Lib.hid htk0
  clear htk0
  clear hR2 hK2 hE2
  have hdd := mem_take_dig (l := l)
  have hdl : (l.takeWhile isDig).length ≤ 1048576 := by
    have := congrArg List.length (List.takeWhile_append_dropWhile (p := isDig) (l := l))
    rw [List.length_append] at this
    omega
  have HDD := Lib.hid hdd
  clear hdd hcu
  have hR1 := hR.below u.below hR.lt
  have huc := hR1.c0
  have huf := hR1.f0
  clear hR1
  have hsz12 : ∀ n : Nat, n < 12 → (str (Lib.decDigits n)).size ≤ 2 := fun n hn => by rw [str_size]; exact dec_len (by omega)
  have HSZ := Lib.hid hsz12
  clear hsz12
  go_wp2_with fail
  rw [htk.out]
  clear htk huc huf
  with_reducible refine (atoi_any (l.takeWhile isDig) hdl _ (B := br) ?_).mono ?_
  · exact HE2.out
  rintro e w3 ⟨hb3, hcase⟩
  have HR3 := Lib.hid (HR2.out.below hb3 HR2.out.lt)
  have HK3 := Lib.hid (HK2.out.trans (Rk.of_below hb3))
  clear hb3
  cases hn : numV (l.takeWhile isDig) with
  | some n =>
    have hA := atoi_num hn
    obtain ⟨hn1, hn2⟩ := numV_some hn
    rcases hcase with ⟨v, hv, rfl⟩ | ⟨hno, _⟩
    · obtain rfl : v = (n : Int) := by rw [hA] at hv; injection hv with hv; exact hv.symm
      have HN2 := Lib.hid hn2
      have HNV := Lib.hid hn
      clear hA hv hn
      go_wp2_with (go_at_call 57; refine (itoa_any _ (by omega) (by omega) _).mono ?_; rintro e w4 ⟨rfl, rfl⟩)
      go_ret2
      show NdPost br w _ _ _
      rw [HNV.out]
      refine ⟨_, _, _, rfl, HK3.out, HR3.out, fun s v k m r e => ?_⟩
      simp only [Option.map_some, Option.some.injEq, Prod.mk.injEq] at e
      obtain ⟨⟨rfl, rfl, rfl⟩, rfl, rfl⟩ := e
      exact ⟨rfl, rfl, .inl ⟨rfl, rfl, rfl⟩⟩
    · exact absurd hA (hno _)
  | none =>
    have HNV := Lib.hid hn
    rcases hcase with ⟨v, hv, rfl⟩ | ⟨_, v, t, p, rfl⟩
    · have h0 := atoi_pos HDD.out hv
      by_cases h12 : v < 12
      · have hne : Lib.decDigits v.toNat ≠ l.takeWhile isDig := fun e => by have := num_small HDD.out hv h12 e; rw [hn] at this; cases this
        have hq : ((str (Lib.decDigits v.toNat)).toList == (str (l.takeWhile isDig)).toList) = false := by
          rw [Lib.toList_data, Lib.toList_data, str_toList, str_toList]
          simpa using hne
        clear hne
        go_wp2_with (go_at_call 57; refine (itoa_any _ (by omega) (by omega) _).mono ?_; rintro e w4 ⟨rfl, rfl⟩)
        go_ret2
        show NdPost br w _ _ _
        rw [HNV.out]
        exact ⟨_, _, _, rfl, HK3.out, HR3.out, fun s v k m r e => by cases e⟩
      · go_wp2_with fail
        go_ret2
        show NdPost br w _ _ _
        rw [HNV.out]
        exact ⟨_, _, _, rfl, HK3.out, HR3.out, fun s v k m r e => by cases e⟩
    · go_wp2_with fail
      go_ret2
      show NdPost br w _ _ _
      rw [HNV.out]
      exact ⟨_, _, _, rfl, HK3.out, HR3.out, fun s v k m r e => by cases e⟩
end Go.Proofs.YtbnbogdglffkmaaGreatDoor

/-! RD5: The reader of texts: a sign with its terms. -/
namespace Go.Proofs.YtbnbogdglffkmaaGreatDoor
open Go.RowKit Go.Deep

/-- What a reading of one term does, with so much fuel. -/
def NdSpec (fuel : Nat) : Prop := ∀ (br : Nat) (l : List UInt8) (room : Nat) (w : World), room ≤ fuel → RdAt w br l room → l.length ≤ 1048576 → ErrAt w br →
  Calls Tryz.prog 41 #[.pointer (some ⟨br, 0, none⟩)] w (NdPost br w (rdN fuel room l))

/-- What holds at the head of the loop over a sign's terms. -/
structure SyAt (w : World) (br fuel n room0 : Nat) (l0 : List UInt8) (j : Nat) (mk : UInt8) (wr : World) : Prop where
  rk : Rk br w wr
  gsz : w.heap.size < wr.heap.size
  st : ∃ ks room l, ks.length = j ∧ room ≤ room0 ∧ l.length ≤ l0.length ∧ RdAt wr br l (room : Nat) ∧ RdSt fuel n room0 l0 ks mk room l ∧
    ∃ f, wr.rowIs w.heap.size 54 n f ∧ ∀ i x, ks[i]? = some x → NodeC wr (w.heap.size + 1) wr.heap.size (f i) x.1 x.2.1 x.2.2
theorem SyAt.start {w : World} {br fuel n room0 : Nat} {l0 : List UInt8} (h : RdAt w br l0 (room0 : Nat)) : SyAt w br fuel n room0 l0 0 40 (w.alloc (.cells (madeCells #[.nilIface] n) 54)) :=
  ⟨Rk.of_below ((Below.refl _ _).alloc (Nat.le_refl _) _), by simp, [], room0, l0, rfl, Nat.le_refl _, Nat.le_refl _, h.below ((Below.refl _ _).alloc (Nat.le_refl _) _) h.lt, RdSt.start _ _ _ _, _, World.rowIs_made w .nilIface n _, fun i x hx => by simp at hx⟩
theorem Rk.row {br b n : Nat} {w w' : World} {t : TypeId} {f : Nat → Value} (h : Rk br w w') (hr : w.rowIs b t n f) (hb : b ≠ br) : w'.rowIs b t n f := hr.of_block (h.block b hr.lt hb)
theorem Rk.node {br lo : Nat} {w w' : World} {val : Value} {s v : Int} {k : Fo} (h : Rk br w w') (hn : NodeC w lo w.heap.size val s v k) (hlo : br < lo) : NodeC w' lo w'.heap.size val s v k :=
  (hn.same (fun b h1 h2 => h.block b h2 (by omega))).mono (Nat.le_refl _) h.size
theorem SyAt.step {w wr w2 : World} {br fuel n room0 : Nat} {l0 : List UInt8} {mk : UInt8} {ks : List (Int × Int × Fo)} {room room' : Nat} {l r r' : List UInt8} {f : Nat → Value} {s v : Int} {k : Fo} {nv : Value} (hbr : br < w.heap.size) (hk0 : Rk br w wr) (hg : w.heap.size < wr.heap.size)
    (hroom : room ≤ room0) (hlen : l.length ≤ l0.length) (hst : RdSt fuel n room0 l0 ks mk room l) (hf : wr.rowIs w.heap.size 54 n f) (hall : ∀ i x, ks[i]? = some x → NodeC wr (w.heap.size + 1) wr.heap.size (f i) x.1 x.2.1 x.2.2)
    (hn : ks.length < n) (hs : skp mk l = some r) (hr : rdN fuel room r = some ((s, v, k), room', r')) (hk : Rk br wr w2) (hR : RdAt w2 br r' (room' : Nat)) (hnode : NodeC w2 wr.heap.size w2.heap.size nv s v k) :
    SyAt w br fuel n room0 l0 (ks.length + 1) 44 (w2.setCell ⟨w.heap.size, ks.length, none⟩ nv) := by
  have hsz := hk.size
  have hs2 : Same (w.heap.size + 1) w2.heap.size w2 (w2.setCell ⟨w.heap.size, ks.length, none⟩ nv) := Same.setCell (fun _ _ _ => rfl) (.inl (by simp)) _
  refine ⟨⟨(hk0.trans hk).os, (hk0.trans hk).tape, (hk0.trans hk).output, by rw [World.size_setCell]; exact (hk0.trans hk).size, fun b hb hne => by rw [Below.heap_setCell _ _ _ _ (by simp; omega)]; exact (hk0.trans hk).block b hb hne⟩, by rw [World.size_setCell]; omega,
    ks ++ [(s, v, k)], room', r', by simp, by have := rdN_room hr; omega, by have := rdN_len hr; have := skp_len hs; omega, ?_, hst.step hn hs hr, _, (hk.row hf (by omega)).set ks.length nv, fun i x hx => ?_⟩
  · exact hR.of_block (Below.heap_setCell _ _ _ _ (by simp; omega)) (by rw [World.size_setCell]; exact Nat.le_refl _)
  · rw [World.size_setCell]
    by_cases hi : i = ks.length
    · subst hi
      rw [List.getElem?_append_right (Nat.le_refl _), Nat.sub_self] at hx
      simp only [List.getElem?_cons_zero, Option.some.injEq] at hx
      subst hx
      simp only [if_true]
      exact (hnode.same (fun b h1 h2 => hs2 b (by omega) h2)).mono (by omega) (Nat.le_refl _)
    · have hlt : i < ks.length := by
        rcases Nat.lt_trichotomy i ks.length with h | h | h
        · exact h
        · exact absurd h hi
        · rw [List.getElem?_eq_none (by simp; omega)] at hx; cases hx
      rw [List.getElem?_append_left hlt] at hx
      simp only [if_neg hi]
      exact (hk.node (hall i x hx) (by omega)).same hs2
/-- All terms are read: the sign's node. -/
theorem SyAt.node {w wr : World} {n : Nat} {s : Int} {ks : List (Int × Int × Fo)} {f : Nat → Value} (hs : s ≠ 0) (hg : w.heap.size < wr.heap.size) (hn : ks.length = n) (hf : wr.rowIs w.heap.size 54 n f) (hall : ∀ i x, ks[i]? = some x → NodeC wr (w.heap.size + 1) wr.heap.size (f i) x.1 x.2.1 x.2.2) :
    NodeC wr w.heap.size wr.heap.size (.iface 83 (.agg #[.int .i64 s, .slice (some ⟨w.heap.size, 0, none⟩) n n])) s 0 (kpre ks .nil) := by
  have hfl : flen (kpre ks .nil) = n := by rw [flen_kpre, hn]; simp [flen]
  refine .inr ⟨hs, _, _, by rw [hfl], by rw [hfl]; exact Nat.le_refl _, .inr ⟨_, _, rfl, crow_of_all _ _ _ (Nat.le_refl _) hg fun i hi => ?_⟩⟩
  rw [hfl, ← hn] at hi
  have hx : ks[i]? = some ks[i] := List.getElem?_eq_getElem hi
  refine ⟨0, 0, _, _, _, fdrop_kpre i ks .nil hx, f i, by rw [Nat.zero_add]; exact hf.cell (by omega), (hall i _ hx).mono (by omega) (Nat.le_refl _)⟩
end Go.Proofs.YtbnbogdglffkmaaGreatDoor
