/- Several texts in one: T1b, T2, T3, XText. -/
import Derived.Test.YtbgjdkpdjclagabKOre13
import Derived.Test.YtbgjdkpdjclagabKOre2
import Derived.Test.YtbgjdkpdjclagabKOre3
import Derived.Test.YtbgjdkpdjclagabKOre5
import Derived.Deep.RegionHeld3
import Derived.Laws.IdiomStrings
import Derived.Laws.BitsLemmas
import Derived.Test.YtbgjdkpdjclagabKOre15
import Derived.Test.YtbgjdkpdjclagabKOre4

/-! T1b: TermText of the program. -/
namespace Go.Proofs.Ytbgjdkpdjclagab
open Go.RowKit Go.Deep

set_option maxRecDepth 100000 in
set_option maxHeartbeats 1000000 in
theorem iTermText_any (s v : Int) (a : Option Addr) (c : Nat) (k : Fo) (w : World) (hl : Sl w 0 w.heap.size a k) :
    Calls Try.prog 20 #[.agg #[.int .i64 s, .int .i64 v, .slice a (flen k) c]] w fun e w' => e = .returned (.string (str (if okW s v k 16 = true then tx s v k else []))) ∧ Below w.heap.size w w' := by
  cases hok : okW s v k 16 with
  | false =>
    have HOK := Lib.hid hok
    clear hok
    go_enter Try.func20, Try.ntmps20
    go_wp2_with fail
    with_reducible refine (nodeOf_any s v a c k 16 _ ?_ (by omega) (by omega)).mono ?_
    · exact (hl.below ((Below.refl _ _).alloc (Nat.le_refl _) _)).mono (Nat.le_refl _) (by simp)
    rintro e w2 ⟨nv, he, hb, hyes⟩
    rw [HOK.out] at he
    subst he
    clear hyes
    go_wp2_with fail
    go_ret
    exact ⟨rfl, ((Below.refl _ _).alloc (Nat.le_refl _) _).trans (hb.mono (by simp))⟩
  | true =>
    have HOK := Lib.hid hok
    obtain ⟨hoN, hof, hsz⟩ := (okW_iff _ _ _ _).1 hok
    clear hok
    go_enter Try.func20, Try.ntmps20
    go_wp2_with fail
    with_reducible refine (nodeOf_any s v a c k 16 _ ?_ (by omega) (by omega)).mono ?_
    · exact (hl.below ((Below.refl _ _).alloc (Nat.le_refl _) _)).mono (Nat.le_refl _) (by simp)
    rintro e w2 ⟨nv, he, hb, hyes⟩
    rw [HOK.out] at he
    subst he
    have hn := hyes HOK.out
    have HB := Lib.hid (((Below.refl _ _).alloc (Nat.le_refl _) _).trans (hb.mono (by simp)))
    clear hyes hb
    rcases hn with ⟨rfl, rfl, rfl⟩ | ⟨hs', a2, c2, rfl, hn2⟩
    · have hv := ((okN_iff _ _ _).1 hoN).2.1 rfl
      go_wp2_with fail
      refine upon_method 108 (by kernel_rfl) (by kernel_rfl) ?_
      go_simp
      with_reducible refine (varText_any v hv.1 (by omega) _).mono ?_
      rintro e w3 ⟨rfl, rfl⟩
      go_wp2_with fail
      go_ret
      exact ⟨by simp [tx_var], HB.out⟩
    · have HN2 := Lib.hid hn2
      have hv0 : v = 0 := ((okN_iff _ _ _).1 hoN).2.2 hs'
      subst hv0
      have HHO := Lib.hid hoN
      have HHF := Lib.hid hof
      have HS := Lib.hid hs'
      clear hn2 hoN hof hs'
      go_wp2_with fail
      refine upon_method 124 (by kernel_rfl) (by kernel_rfl) ?_
      go_simp
      with_reducible refine (symText_any (fsz k) s a2 c2 k _ ?_ HS.out HHO.out HHF.out (Nat.le_refl _) (by omega)).mono ?_
      · exact HN2.out.mono (Nat.zero_le _) (Nat.le_refl _)
      rintro e w3 ⟨rfl, hb3⟩
      go_wp2_with fail
      go_ret
      exact ⟨by simp, HB.out.trans (hb3.mono HB.out.size)⟩
end Go.Proofs.Ytbgjdkpdjclagab

/-! T2: The specification's decimal, its text of a term, its TermText. -/
namespace Go.Proofs.Ytbgjdkpdjclagab
open Go.RowKit Go.Deep

/-- The text of one digit. -/
def dgt (n : Nat) : List UInt8 := [UInt8.ofNat (48 + n)]
theorem dec_dgt {n : Nat} (h : n < 10) : Lib.decDigits n = dgt n := by
  unfold Lib.decDigits dgt
  rw [dif_pos h]
theorem byte_str (g : Nat) (n : Nat) (hn : n < 10) (w : World) (h : w.cell? ⟨g, 0, none⟩ = some (.int .u8 (48 + n))) :
    (convert 22 9 (.slice (some ⟨g, 0, none⟩) 1 1)).run Try.prog w = .ok (.string (str (dgt n))) w :=
  run_convert_bytes_back (P := Try.prog) w 22 9 5 ⟨g, 0, none⟩ 1 (dgt n) Try.underlying22 Try.underlying5 Try.underlying9 (fun j hj => by
    obtain rfl : j = 0 := by simp [dgt] at hj; omega
    show w.cell? ⟨g, 0, none⟩ = _
    rw [h]
    simp [dgt, UInt8.toNat_ofNat]
    omega)

set_option maxRecDepth 100000 in
set_option maxHeartbeats 1000000 in
theorem l6Dec_one (n : Nat) (hn : n < 10) (w : World) :
    Calls Try.prog 62 #[.int .i64 n] w fun e w' => e = .returned (.string (str (dgt n))) ∧ w' = w.alloc (.cells #[.int .u8 (48 + n)] 5) := by
  have hcv := fun (w : World) (g : Nat) => byte_str g n hn w
  go_enter Try.func62, Try.ntmps62
  go_wp2_with fail
  go_ret
  exact ⟨by rfl, rfl⟩

set_option maxRecDepth 100000 in
set_option maxHeartbeats 1000000 in
theorem l6Dec_two (n : Nat) (hn : n < 10) (w : World) :
    Calls Try.prog 62 #[.int .i64 (10 + n)] w fun e w' => e = .returned (.string (str (dgt 1 ++ dgt n))) ∧ Below w.heap.size w w' := by
  have hcv := fun (w : World) (g : Nat) => byte_str g n hn w
  have hq : (10 + (n : Int)).tdiv 10 = 1 := by rw [Int.tdiv_eq_ediv_of_nonneg (by omega)]; omega
  have hr : (10 + (n : Int)).tmod 10 = n := by rw [Int.tmod_eq_emod_of_nonneg (by omega)]; omega
  have hw1 : IntKind.i64.wrap (48 + (n : Int)) = 48 + n := by rw [IntKind.wrap_i64]; omega
  have hw2 : IntKind.u8.wrap (48 + (n : Int)) = 48 + n := by rw [IntKind.wrap_u8]; omega
  have hw3 : IntKind.i64.wrap 1 = 1 := by rw [IntKind.wrap_i64]; omega
  have hz1 : (str (dgt 1)).size = 1 := rfl
  have hz2 : (str (dgt n)).size = 1 := by rw [str_size]; rfl
  have hc1 := byte_str w.heap.size n hn (w.alloc (.cells #[.int .u8 (48 + (n : Int))] 5)).drew (by rw [World.cell?_drew]; simp)
  have hc2 := byte_str w.heap.size n hn ((w.alloc (.cells #[.int .u8 (48 + (n : Int))] 5)).alloc (.cells #[.int .u8 49] 5)).drew (by rw [World.cell?_drew]; simp)
  have hc3 := byte_str (w.heap.size + 1) n hn ((w.alloc (.cells #[.int .u8 49] 5)).alloc (.cells #[.int .u8 (48 + (n : Int))] 5)).drew (by rw [World.cell?_drew]; simp)
  clear hcv
  have HJ : Hid (str (dgt 1) ++ str (dgt n) = str (dgt 1 ++ dgt n)) := str_add _ _
  go_enter Try.func62, Try.ntmps62
  go_wp2_with fail
  go_region_with ((go_at_call 62; refine (l6Dec_one 1 (by omega) _).mono ?_; rintro e w2 ⟨rfl, rfl⟩))
  all_goals
    rw [HJ.out]
    go_wp2_with fail
    go_ret
    exact ⟨by rfl, (((Below.refl _ _).alloc (Nat.le_refl _) _).alloc (by simp) _).drew⟩

theorem l6Dec_any (v : Int) (h0 : 0 ≤ v) (h1 : v < 12) (w : World) :
    Calls Try.prog 62 #[.int .i64 v] w fun e w' => e = .returned (.string (str (Lib.decDigits v.toNat))) ∧ Below w.heap.size w w' := by
  obtain ⟨n, rfl⟩ := Int.eq_ofNat_of_zero_le h0
  by_cases hn : n < 10
  · rw [show Lib.decDigits (Int.toNat (n : Int)) = dgt n from dec_dgt hn]
    exact (l6Dec_one n hn w).mono fun e w' ⟨he, hw⟩ => ⟨he, hw ▸ (Below.refl _ _).alloc (Nat.le_refl _) _⟩
  · obtain ⟨m, rfl⟩ : ∃ m, n = 10 + m := ⟨n - 10, by omega⟩
    have hm : m < 10 := by omega
    have hd : Lib.decDigits (Int.toNat ((10 + m : Nat) : Int)) = dgt 1 ++ dgt m := by
      show Lib.decDigits (10 + m) = _
      unfold Lib.decDigits
      rw [dif_neg (by omega), show (10 + m) / 10 = 1 from by omega, show (10 + m) % 10 = m from by omega, dec_dgt (by omega)]
      rfl
    rw [hd]
    exact l6Dec_two m hm w

/-- What is said when j kids are. -/
def pre (s : Int) (ks : List (List UInt8)) (j : Nat) : List UInt8 := ltr s ++ (if j = 0 then [] else 40 :: Lib.join (ks.take j) [44])
def sp (j : Nat) : List UInt8 := [if j = 0 then 40 else 44]
theorem pre_step {s : Int} {ks : List (List UInt8)} {j : Nat} {x : List UInt8} (h : ks[j]? = some x) : pre s ks (j + 1) = pre s ks j ++ sp j ++ x := by
  unfold pre sp
  rw [if_neg (by omega)]
  obtain ⟨hlt, hx⟩ := List.getElem?_eq_some_iff.1 h
  rw [List.take_succ_eq_append_getElem hlt, hx]
  by_cases h0 : j = 0
  · subst h0
    simp [Lib.join_one]
  · rw [if_neg h0, if_neg h0]
    have hne : ks.take j ≠ [] := by
      intro h'
      rcases List.take_eq_nil_iff.1 h' with h' | h'
      · exact h0 h'
      · rw [h'] at hlt; simp at hlt
    have : Lib.join (ks.take j ++ [x]) [44] = Lib.join (ks.take j) [44] ++ [44] ++ x := by
      cases hl : ks.take j with
      | nil => exact absurd hl hne
      | cons y r =>
        rw [List.cons_append, Lib.join_cons, Lib.join_cons]
        simp [Lib.joinTail]
    rw [this]
    simp
theorem pre_len (s : Int) (ks : List (List UInt8)) (j : Nat) : (pre s ks j).length ≤ 2 + lens ks + ks.length := by
  unfold pre
  have h1 := ltr_len s
  split
  · simp; omega
  · have h2 := join_len (ks.take j)
    have h3 : lens (ks.take j) ≤ lens ks := by
      have := congrArg (fun l => lens l) (List.take_append_drop j ks)
      simp only [lens, List.map_append, List.sum_append] at this
      unfold lens
      omega
    have h4 : (ks.take j).length ≤ ks.length := by simp; omega
    simp; omega
theorem lens_at : ∀ {ks : List (List UInt8)} {j : Nat} {x : List UInt8}, ks[j]? = some x → x.length ≤ lens ks
  | [], _, _, h => by simp at h
  | y :: r, 0, x, h => by
    simp at h
    subst h
    simp [lens]
  | y :: r, j + 1, x, h => by
    have := lens_at (ks := r) (j := j) (x := x) (by simpa using h)
    simp only [lens, List.map_cons, List.sum_cons] at this ⊢
    omega
theorem tx_pre {s v : Int} {k : Fo} (hs : s ≠ 0) (hk : flen k ≠ 0) : tx s v k = pre s (fts k) (flen k) ++ [41] := by
  rw [tx_kids hs hk]
  unfold pre
  rw [if_neg hk, List.take_of_length_le (by rw [fts_len]; omega)]
  simp
theorem sp_cell (W : World) {j : Nat} (hj : j < 2) : (W.alloc (.cells #[.string ⟨#[40]⟩, .string ⟨#[44]⟩] 9)).cell? ⟨W.heap.size, j, none⟩ = some (.string (str (sp j))) := by
  have : j = 0 ∨ j = 1 := by omega
  rcases this with rfl | rfl
  · rw [World.cell?_alloc_at _ _ _ _ rfl]; rfl
  · rw [World.cell?_alloc_at _ _ _ _ rfl]; rfl
theorem say_out_cell (W : World) {s : Int} (h0 : 1 ≤ s) (h1 : s ≤ 4) : (W.alloc (.cells #[.string ⟨#[]⟩, .string ⟨#[97]⟩, .string ⟨#[98]⟩, .string ⟨#[103]⟩, .string ⟨#[102]⟩] 9)).cell? ⟨W.heap.size, s.toNat, none⟩ = some (.string (str (ltr s))) := by
  have : s = 1 ∨ s = 2 ∨ s = 3 ∨ s = 4 := by omega
  rcases this with rfl | rfl | rfl | rfl
  · rw [World.cell?_alloc_at _ _ _ _ rfl]; rfl
  · rw [World.cell?_alloc_at _ _ _ _ rfl]; rfl
  · rw [World.cell?_alloc_at _ _ _ _ rfl]; rfl
  · rw [World.cell?_alloc_at _ _ _ _ rfl]; rfl
theorem cell_lowS {W w2 : World} {q : Addr} {x : Value} (hb : Below W.heap.size W w2) (h : W.cell? q = some x) : w2.cell? q = some x := by
  rw [hb.cell (World.block_lt_of_cell? _ _ h)]; exact h
end Go.Proofs.Ytbgjdkpdjclagab

/-! T3: The specification's text of a term. -/
namespace Go.Proofs.Ytbgjdkpdjclagab
open Go.RowKit Go.Deep

theorem keepT {W w2 : World} {B : Nat} {b1 o1 b2 o2 : Nat} {x1 x2 x3 x4 : Value} (hb : Below B W w2) (h1 : W.cell? ⟨b1, o1, none⟩ = some x1) (h2 : W.cell? ⟨b2, o2, none⟩ = some x2) (h3 : W.cell? ⟨b2, o2 + 1, none⟩ = some x3) (h4 : W.cell? ⟨b2, o2 + 2, none⟩ = some x4)
    (g1 : b1 < B) (g2 : b2 < B) : w2.cell? ⟨b1, o1, none⟩ = some x1 ∧ w2.cell? ⟨b2, o2, none⟩ = some x2 ∧ w2.cell? ⟨b2, o2 + 1, none⟩ = some x3 ∧ w2.cell? ⟨b2, o2 + 2, none⟩ = some x4 :=
  ⟨by rw [hb.cell g1]; exact h1, by rw [hb.cell g2]; exact h2, by rw [hb.cell g2]; exact h3, by rw [hb.cell g2]; exact h4⟩

set_option maxRecDepth 100000 in
set_option maxHeartbeats 2000000 in
theorem l1Say_any (N : Nat) : ∀ (s v : Int) (a : Option Addr) (c : Nat) (k : Fo) (w : World), Sl w 0 w.heap.size a k → okN s v (flen k) = true → fok k = true → fsz k ≤ N → N ≤ 1000 →
    Calls Try.prog 41 #[.agg #[.int .i64 s, .int .i64 v, .slice a (flen k) c]] w fun e w' => e = .returned (.string (str (tx s v k))) ∧ Below w.heap.size w w' := by
  induction N using Nat.strongRecOn with
  | _ N ih =>
    intro s v a c k w hl hokN hok hN hN2
    have hfl := flen_le_sz k
    have hshort := fts_short k hok
    have HOK := Lib.hid hok
    have HSH := Lib.hid hshort
    have IH := Lib.hid ih
    obtain ⟨har, hv0, _⟩ := (okN_iff _ _ _).1 hokN
    clear ih hok hshort
    by_cases hs : s = 0
    · subst hs
      have hk0 : flen k = 0 := by simp [ar] at har; omega
      have hk : k = .nil := by cases k with
        | nil => rfl
        | node => simp [flen] at hk0
      subst hk
      have hv := hv0 rfl
      have hz : (str (Lib.decDigits v.toNat)).size ≤ 2 := by rw [str_size]; exact dec_len (by omega)
      clear hl hfl hN har hokN hv0
      go_enter Try.func41, Try.ntmps41
      go_wp2_with fail
      with_reducible refine (l6Dec_any v hv.1 (by omega) _).mono ?_
      rintro e w2 ⟨rfl, hb⟩
      go_wp2_with fail
      go_ret
      exact ⟨by rw [tx_var, show (120 :: Lib.decDigits v.toNat) = [120] ++ Lib.decDigits v.toNat from rfl, ← str_add]; rfl, ((Below.refl _ _).alloc (Nat.le_refl _) _).trans (hb.mono (by simp))⟩
    · have hsr : (1 ≤ s ∧ s ≤ 4) ∧ flen k ≤ 2 := by
        unfold ar at har
        split at har
        · omega
        · split at har
          · omega
          · split at har <;> omega
      obtain ⟨⟨hs1, hs4⟩, hk2⟩ := hsr
      have HS := Lib.hid hs
      have es : (s == 0) = false := by simp [hs]
      have hco := say_out_cell (w.alloc (.cells #[.int .i64 s, .int .i64 v, .slice a (flen k) c] 26)) hs1 hs4
      obtain ⟨m, rfl⟩ : ∃ m : Nat, s = m := ⟨s.toNat, by omega⟩
      rw [show Int.toNat (m : Int) = m from rfl] at hco
      simp only [World.size_alloc] at hco
      have HF2 : Hid ((fts k).length = flen k) := fts_len k
      clear har hokN hv0 hs
      go_enter Try.func41, Try.ntmps41
      go_wp2_with fail
      clear hco
      go_loopw [3, 4] (fun o i wr => ∃ j : Nat, j ≤ flen k ∧ i = .int .i64 j ∧ o = .string (str (pre m (fts k) j)) ∧ Below (w.heap.size + 1) (w.alloc (.cells #[.int .i64 (m : Int), .int .i64 v, .slice a (flen k) c] 26)) wr) (fun _ i _ => flen k - (intOf i).toNat)
      case atStart => exact ⟨0, by omega, rfl, by simp [pre], (Below.refl _ _).alloc (by simp) _⟩
      case round =>
        obtain ⟨j, hj, rfl, rfl, hbl⟩ := hrel
        obtain ⟨hc0, hc1, hc2⟩ : wr.cell? ⟨w.heap.size, 0, none⟩ = some (.int .i64 m) ∧ wr.cell? ⟨w.heap.size, 1, none⟩ = some (.int .i64 v) ∧ wr.cell? ⟨w.heap.size, 2, none⟩ = some (.slice a (flen k) c) := box_cells ⟨wr, hbl⟩
        have hsr := hbl.size
        simp at hsr
        have hpl := pre_len m (fts k) j
        have hz1 : (str (pre m (fts k) j)).size ≤ 100000 := by rw [str_size]; have := HSH.out; omega
        by_cases hlt : j < flen k
        · rcases hl with rfl | ⟨b, o, rfl, hrow⟩
          · simp [flen] at hlt
          obtain ⟨s', v', kk, a', c', ⟨x, y, hd⟩, _, hbB, hk0, hk1, hk2', hsl⟩ := row_at (hrow.below (after_top hbl)) hlt
          have hkN := fsz_kid hd
          have HKO := Lib.hid (fok_kid HOK.out hd)
          have hat := fts_at j k hd
          have HST := Lib.hid (pre_step (s := m) hat)
          have hz2 : (str (pre m (fts k) j) ++ str (sp j)).size ≤ 100001 := by rw [str_add, str_size]; rw [str_size] at hz1; simp [sp]; omega
          have hz3 : (str (sp j)).size = 1 := rfl
          have hn1 : ¬ 9223372036854775807 < (str (pre m (fts k) j)).size + (str (sp j)).size := by rw [str_size] at hz1 ⊢; rw [hz3]; omega
          have hz4 : (str (tx s' v' kk)).size ≤ 100000 := by rw [str_size]; have := lens_at hat; have := HSH.out; omega
          have g1 : (0 : Int) ≤ (j : Int) := by omega
          have g2 : (j : Int) < (flen k : Int) := by omega
          have g3 : (j : Int) < 2 := by omega
          have hB1 : Below wr.heap.size wr (wr.alloc (.cells #[.string ⟨#[40]⟩, .string ⟨#[44]⟩] 9)).drew := ((Below.refl _ _).alloc (Nat.le_refl _) _).drew
          have hB0 : Below wr.heap.size wr wr.drew := (Below.refl _ _).drew
          have hcA : (wr.alloc (.cells #[.string ⟨#[40]⟩, .string ⟨#[44]⟩] 9)).drew.cell? ⟨wr.heap.size, j, none⟩ = some (.string (str (sp j))) := sp_cell wr (by omega)
          have HS0 : Hid (Sl wr.drew 0 wr.drew.heap.size a' kk) := (hsl.below (hB0.mono (by omega))).mono (Nat.le_refl _) (by simp; omega)
          have HS1 : Hid (Sl (wr.alloc (.cells #[.string ⟨#[40]⟩, .string ⟨#[44]⟩] 9)).drew 0 (wr.alloc (.cells #[.string ⟨#[40]⟩, .string ⟨#[44]⟩] 9)).drew.heap.size a' kk) := (hsl.below (hB1.mono (by omega))).mono (Nat.le_refl _) (by simp; omega)
          obtain ⟨hq2, hq3, hq4, hq5⟩ := keepT (B := w.heap.size + 1) (hB1.mono (by omega)) hc2 hk0 hk1 hk2' (by omega) (by omega)
          have hq2' : (wr.alloc (.cells #[.string ⟨#[40]⟩, .string ⟨#[44]⟩] 9)).cell? ⟨w.heap.size, 2, none⟩ = some (.slice (some ⟨b, o, none⟩) (flen k) c) := hq2
          have hq3' : (wr.alloc (.cells #[.string ⟨#[40]⟩, .string ⟨#[44]⟩] 9)).cell? ⟨b, o + j * 3, none⟩ = some (.int .i64 s') := hq3
          have hq4' : (wr.alloc (.cells #[.string ⟨#[40]⟩, .string ⟨#[44]⟩] 9)).cell? ⟨b, o + j * 3 + 1, none⟩ = some (.int .i64 v') := hq4
          have hq5' : (wr.alloc (.cells #[.string ⟨#[40]⟩, .string ⟨#[44]⟩] 9)).cell? ⟨b, o + j * 3 + 2, none⟩ = some (.slice a' (flen kk) c') := hq5
          have hcA' : (wr.alloc (.cells #[.string ⟨#[40]⟩, .string ⟨#[44]⟩] 9)).cell? ⟨wr.heap.size, j, none⟩ = some (.string (str (sp j))) := hcA
          have HB0 := Lib.hid hB0
          have HB1 := Lib.hid hB1
          have HBL := Lib.hid hbl
          have HSP : Hid (∀ W : World, (W.alloc (.cells #[.string ⟨#[40]⟩, .string ⟨#[44]⟩] 9)).cell? ⟨W.heap.size, j, none⟩ = some (.string (str (sp j)))) := fun W => sp_cell W (by omega)
          have HN' : Hid (fsz kk < N) := by unfold Hid; omega
          have HN3 : Hid (fsz kk ≤ 1000) := by unfold Hid; omega
          clear hd hrow hbl hsl hat hpl hB0 hB1
          go_wp2_with fail
          go_region_with (first
              | ((go_at_call 41; refine (IH.out (fsz kk) HN'.out s' v' a' c' kk _ HS1.out HKO.out.1 HKO.out.2 (Nat.le_refl _) HN3.out).mono ?_); rintro e w2 ⟨rfl, hb2⟩; have hW2 := HB1.out.trans (hb2.mono (by simp)); have hW2s := hW2.size; have hcB := cell_lowS hb2 hcA)
              | ((go_at_call 41; refine (IH.out (fsz kk) HN'.out s' v' a' c' kk _ HS0.out HKO.out.1 HKO.out.2 (Nat.le_refl _) HN3.out).mono ?_); rintro e w2 ⟨rfl, hb2⟩; have hW2 := HB0.out.trans (hb2.mono (by simp)); have hW2s := hW2.size; have hcC := HSP.out w2))
          all_goals
            go_wp2_with fail
            go_roundw
            case rel => exact ⟨j + 1, by omega, by go_num, by rw [HST.out, ← str_add, ← str_add], by first | exact HBL.out.trans (hW2.mono hsr) | exact (HBL.out.trans (hW2.mono hsr)).alloc (by omega) _⟩
            case measure => simp [intOf]; omega
        · have hje : j = flen k := by omega
          subst hje
          have HBL := Lib.hid hbl
          by_cases hk0 : flen k = 0
          · have HT := Lib.hid (tx_leaf (v := v) HS.out hk0)
            have HPZ : Hid (pre m (fts k) (flen k) = ltr m) := by rw [hk0]; simp [Hid, pre]
            have hkz : (flen k : Int) ≤ 0 := by omega
            clear hbl hl
            go_wp2_with fail
            go_ret
            exact ⟨by rw [HT.out, ← HPZ.out]; rfl, after_top HBL.out⟩
          · have HT := Lib.hid (tx_pre (v := v) HS.out hk0)
            have hkp : (0 : Int) < (flen k : Int) := by omega
            have HJ : Hid (str (pre m (fts k) (flen k)) ++ ⟨#[41]⟩ = str (pre m (fts k) (flen k) ++ [41])) := str_add _ [41]
            clear hbl hl
            go_wp2_with fail
            rw [HJ.out]
            go_wp2_with fail
            go_ret
            exact ⟨by rw [HT.out]; rfl, after_top HBL.out⟩

set_option maxRecDepth 100000 in
set_option maxHeartbeats 1000000 in
theorem sTermText_any (s v : Int) (a : Option Addr) (c : Nat) (k : Fo) (w : World) (hl : Sl w 0 w.heap.size a k) :
    Calls Try.prog 19 #[.agg #[.int .i64 s, .int .i64 v, .slice a (flen k) c]] w fun e w' => e = .returned (.string (str (if okW s v k 16 = true then tx s v k else []))) ∧ Below w.heap.size w w' := by
  have hl1 := (hl.below ((Below.refl _ _).alloc (Nat.le_refl _) (.cells #[.int .i64 s, .int .i64 v, .slice a (flen k) c] 26))).mono (Nat.le_refl _) (show w.heap.size ≤ (w.alloc (.cells #[.int .i64 s, .int .i64 v, .slice a (flen k) c] 26)).heap.size by simp)
  have HL1 := Lib.hid hl1
  clear hl1
  cases hok : okW s v k 16 with
  | false =>
    have HOK := Lib.hid hok
    clear hok
    go_enter Try.func19, Try.ntmps19
    go_wp2_with fail
    with_reducible refine (sTermOk_any s v a c k _ HL1.out).mono ?_
    rw [HOK.out]
    rintro e w2 ⟨rfl, hb⟩
    go_wp2_with fail
    go_ret
    exact ⟨rfl, ((Below.refl _ _).alloc (Nat.le_refl _) _).trans (hb.mono (by simp))⟩
  | true =>
    have HOK := Lib.hid hok
    have HOW := Lib.hid ((okW_iff _ _ _ _).1 hok)
    clear hok
    go_enter Try.func19, Try.ntmps19
    go_wp2_with fail
    with_reducible refine (sTermOk_any s v a c k _ HL1.out).mono ?_
    rw [HOK.out]
    rintro e w2 ⟨rfl, hb⟩
    obtain ⟨hc0, hc1, hc2⟩ := box_cells (w := w) ⟨w2, by simpa using hb⟩
    dsimp only at hc0 hc1 hc2
    have HL2 := Lib.hid ((HL1.out.below hb).mono (Nat.le_refl _) hb.size)
    have HB := Lib.hid (((Below.refl w.heap.size w).alloc (Nat.le_refl _) _).trans (hb.mono (by simp)))
    clear hb
    go_wp2_with fail
    with_reducible refine (l1Say_any (fsz k) s v a c k _ HL2.out HOW.out.1 HOW.out.2.1 (Nat.le_refl _) (by have := HOW.out.2.2; omega)).mono ?_
    rintro e w3 ⟨rfl, hb3⟩
    go_wp2_with fail
    go_ret
    exact ⟨by simp, HB.out.trans (hb3.mono HB.out.size)⟩
end Go.Proofs.Ytbgjdkpdjclagab

/-! XText: For every term, laws.FnExactTermText answers true and writes nothing that was there. -/
namespace Go.Proofs.Ytbgjdkpdjclagab
open Go.RowKit Go.Deep

set_option maxRecDepth 100000 in
set_option maxHeartbeats 1000000 in
theorem exactText_walk (s v : Int) (a : Option Addr) (c : Nat) (k : Fo) (w : World) (hl : Sl w 0 w.heap.size a k) (hc : fcap k) (hm : flen k ≤ maxLen) :
    Calls Try.prog 6 #[.agg #[.int .i64 s, .int .i64 v, .slice a (flen k) c]] w fun e w' => e = .returned (.bool true) ∧ Below w.heap.size w w' := by
  have HL0 := Lib.hid ((hl.below ((Below.refl _ _).alloc (Nat.le_refl _) (.cells #[.int .i64 s, .int .i64 v, .slice a (flen k) c] 35))).mono (Nat.le_refl _) (show w.heap.size ≤ (w.alloc (.cells #[.int .i64 s, .int .i64 v, .slice a (flen k) c] 35)).heap.size by simp))
  have HC := Lib.hid hc
  have HM := Lib.hid hm
  clear hl hc hm
  go_enter Try.func6, Try.ntmps6
  go_wp2_with fail
  with_reducible refine (szTerm_any HL0.out HC.out HM.out (by omega) (by omega)).mono ?_
  rintro e w1 ⟨rfl, hb1⟩
  have hb1' : Below (w.heap.size + 1) (w.alloc (.cells #[.int .i64 s, .int .i64 v, .slice a (flen k) c] 35)) w1 := by simpa using hb1
  have hs1 := hb1.size
  simp at hs1
  have HL1 := Lib.hid ((HL0.out.below hb1).mono (Nat.le_refl _) hb1.size)
  have HB1 := Lib.hid hb1'
  obtain ⟨hc0, hc1, hc2⟩ : w1.cell? ⟨w.heap.size, 0, none⟩ = some (.int .i64 s) ∧ w1.cell? ⟨w.heap.size, 1, none⟩ = some (.int .i64 v) ∧ w1.cell? ⟨w.heap.size, 2, none⟩ = some (.slice a (flen k) c) := box_cells ⟨w1, hb1'⟩
  clear hb1 hb1'
  rcases szR_case k 1048576 with hz | hz
  · rw [hz]
    clear hz
    go_wp2_with fail
    go_ret
    exact ⟨rfl, box_lowX HB1.out⟩
  have hN := szR_fit hz
  generalize szR k 1048576 = z at *
  go_wp2_with fail
  with_reducible refine (toTerm_any HL1.out hN).mono ?_
  rintro e w2 ⟨a2, c2, rfl, hb2, hl2⟩
  have HB2 := Lib.hid (HB1.out.trans (hb2.mono (by omega)))
  have HL2 := Lib.hid ((HL1.out.below hb2).mono (Nat.le_refl _) hb2.size)
  have HM2 := Lib.hid (hl2.mono (Nat.zero_le _) (Nat.le_refl _))
  have hd0 := cell_lowX hb2 hc0
  have hd1 := cell_lowX hb2 hc1
  have hd2 := cell_lowX hb2 hc2
  have hs2 := hb2.size
  clear hb2 hl2 hc0 hc1 hc2
  go_wp2_with fail
  with_reducible refine (sTermText_any s v a2 c2 k _ HM2.out).mono ?_
  rintro e w3 ⟨rfl, hb3⟩
  have HB3 := Lib.hid (HB2.out.trans (hb3.mono (by omega)))
  have HL3 := Lib.hid ((HL2.out.below hb3).mono (Nat.le_refl _) hb3.size)
  have hc0 := cell_lowX hb3 hd0
  have hc1 := cell_lowX hb3 hd1
  have hc2 := cell_lowX hb3 hd2
  have hs3 := hb3.size
  clear hb3 hd0 hd1 hd2
  generalize hok : str (if okW s v k 16 = true then tx s v k else []) = ok
  have HOK := Lib.hid hok
  clear hok
  go_wp2_with fail
  with_reducible refine (toTerm_any HL3.out hN).mono ?_
  rintro e w4 ⟨a4, c4, rfl, hb4, hl4⟩
  have HB4 := Lib.hid ((HB3.out.trans (hb4.mono (by omega))).alloc (by have := hb4.size; omega) (.cells #[.int .i64 s, .int .i64 v, .slice a4 (flen k) c4] 26))
  have hba : Below w4.heap.size w4 (w4.alloc (.cells #[.int .i64 s, .int .i64 v, .slice a4 (flen k) c4] 26)) := (Below.refl _ _).alloc (Nat.le_refl _) _
  have HL4 := Lib.hid ((((HL3.out.below hb4).mono (Nat.le_refl _) hb4.size).below hba).mono (Nat.le_refl _) hba.size)
  have HM4 := Lib.hid (((hl4.mono (Nat.zero_le _) (Nat.le_refl _)).below hba).mono (Nat.le_refl _) hba.size)
  have hd0 := cell_lowX hba (cell_lowX hb4 hc0)
  have hd1 := cell_lowX hba (cell_lowX hb4 hc1)
  have hd2 := cell_lowX hba (cell_lowX hb4 hc2)
  have hs4 := hb4.size
  clear hb4 hl4 hc0 hc1 hc2 hba
  go_wp2_with fail
  with_reducible refine (iTermText_any s v a4 c4 k _ HM4.out).mono ?_
  rw [HOK.out]
  rintro e w5 ⟨rfl, hb5⟩
  have HB5 := Lib.hid (HB4.out.trans (hb5.mono (by simp; omega)))
  have HL5 := Lib.hid ((HL4.out.below hb5).mono (Nat.le_refl _) hb5.size)
  have HM5 := Lib.hid ((HM4.out.below hb5).mono (Nat.le_refl _) hb5.size)
  have hc0 := cell_lowX hb5 hd0
  have hc1 := cell_lowX hb5 hd1
  have hc2 := cell_lowX hb5 hd2
  have hx0 := cell_lowX hb5 (q := ⟨w4.heap.size, 0, none⟩) (x := .int .i64 s) (by simp)
  have hx1 := cell_lowX hb5 (q := ⟨w4.heap.size, 1, none⟩) (x := .int .i64 v) (by simp)
  have hx2 := cell_lowX hb5 (q := ⟨w4.heap.size, 2, none⟩) (x := .slice a4 (flen k) c4) (by simp)
  have hs5 := hb5.size
  simp at hs5
  clear hb5 hd0 hd1 hd2
  have hu0 : ∀ u : After w5.heap.size w5, u.world.cell? ⟨w.heap.size, 0, none⟩ = some (.int .i64 s) := fun u => u.cell (by simp; omega) hc0
  have hu1 : ∀ u : After w5.heap.size w5, u.world.cell? ⟨w.heap.size, 1, none⟩ = some (.int .i64 v) := fun u => u.cell (by simp; omega) hc1
  have hu2 : ∀ u : After w5.heap.size w5, u.world.cell? ⟨w.heap.size, 2, none⟩ = some (.slice a (flen k) c) := fun u => u.cell (by simp; omega) hc2
  have hu3 : ∀ u : After w5.heap.size w5, u.world.cell? ⟨w4.heap.size, 0, none⟩ = some (.int .i64 s) := fun u => u.cell (by simp; omega) hx0
  have hu4 : ∀ u : After w5.heap.size w5, u.world.cell? ⟨w4.heap.size, 1, none⟩ = some (.int .i64 v) := fun u => u.cell (by simp; omega) hx1
  have hu5 : ∀ u : After w5.heap.size w5, u.world.cell? ⟨w4.heap.size, 2, none⟩ = some (.slice a4 (flen k) c4) := fun u => u.cell (by simp; omega) hx2
  go_wp2_with fail
  refine wp_region_mix (fun w' => ∃ u : After w5.heap.size w5, w' = u.world) [] [(0, 0), (1, 0), (2, 1), (3, 1), (4, 1)] (by kernel_rfl) (by kernel_rfl) ⟨⟨_, (Below.refl _ _).drew⟩, rfl⟩ ?_
  iterate 2
    refine mix_see rfl (fun K hK => ?_)
    go_simp
    refine hK _ ?_
    clear hK K
  clear hu0 hu1 hu2 hu3 hu4 hu5
  refine mix_hold rfl (fun K hK => ?_)
  go_simp
  with_reducible refine (toTerm_any (k := k) (c := c) ?_ hN).mono ?_
  · exact HL5.out.below (Below.refl _ _).drew
  rintro e w6 ⟨a6, c6, rfl, hb6', hl6⟩
  have hb6 : Below w5.heap.size w5 w6 := ⟨hb6'.os, hb6'.tape, hb6'.output, hb6'.size, hb6'.block⟩
  have hs6 := hb6.size
  have HM6 := Lib.hid ((HM5.out.below hb6).mono (Nat.le_refl _) hb6.size)
  have HN6 := Lib.hid (hl6.mono (Nat.zero_le _) (Nat.le_refl _))
  refine hK _ _ ⟨⟨_, hb6⟩, rfl⟩ ?_
  clear hK K hb6' hl6
  refine mix_hold rfl (fun K hK => ?_)
  go_simp
  with_reducible refine (eqTerm_any (k := k) HM6.out HN6.out hN).mono ?_
  rintro e w7 ⟨rfl, hb7⟩
  have hb8 := hb6.trans (hb7.mono hs6)
  refine hK _ _ ⟨⟨_, hb8⟩, rfl⟩ ?_
  clear hK K
  refine mix_hold rfl (fun K hK => ?_)
  go_simp
  refine hK _ _ ⟨⟨_, hb8⟩, rfl⟩ ?_
  clear hK K
  refine mix_end ?_
  have HB8 := Lib.hid (HB5.out.trans (hb8.mono (by omega)))
  clear hb6 hb7 hb8 hc0 hc1 hc2 hx0 hx1 hx2
  go_wp2_with fail
  go_ret
  exact ⟨rfl, box_lowX HB8.out⟩
end Go.Proofs.Ytbgjdkpdjclagab
