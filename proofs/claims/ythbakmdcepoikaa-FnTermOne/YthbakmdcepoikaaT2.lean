/- The specification's decimal, its text of a term, its TermText. -/
import Derived.Test.YthbakmdcepoikaaT0
import Derived.Test.YthbakmdcepoikaaWD
import Derived.Test.YthbakmdcepoikaaWG
import Derived.Deep.RegionHeld3
import Derived.Laws.IdiomStrings
import Derived.Laws.BitsLemmas
namespace Go.Proofs.Ythbakmdcepoikaa
open Go.RowKit Go.Deep

/-- The text of one digit. -/
def dgt (n : Nat) : List UInt8 := [UInt8.ofNat (48 + n)]
theorem dec_dgt {n : Nat} (h : n < 10) : Lib.decDigits n = dgt n := by
  unfold Lib.decDigits dgt
  rw [dif_pos h]
theorem byte_str (g : Nat) (n : Nat) (hn : n < 10) (w : World) (h : w.cell? ⟨g, 0, none⟩ = some (.int .u8 (48 + n))) :
    (convert 22 9 (.slice (some ⟨g, 0, none⟩) 1 1)).run Try.prog w = .ok (.string (str (dgt n))) w :=
  run_convert_bytes_back (P := Try.prog) w 22 9 5 ⟨g, 0, none⟩ 1 (dgt n) Try.underlying22 Try.underlying5 Try.underlying9 (fun j hj => by
    obtain rfl : j = 0 := by simp [dgt] at hj; omega
    show w.cell? ⟨g, 0, none⟩ = _
    rw [h]
    simp [dgt, UInt8.toNat_ofNat]
    omega)

set_option maxRecDepth 100000 in
set_option maxHeartbeats 1000000 in
theorem l6Dec_one (n : Nat) (hn : n < 10) (w : World) :
    Calls Try.prog 38 #[.int .i64 n] w fun e w' => e = .returned (.string (str (dgt n))) ∧ w' = w.alloc (.cells #[.int .u8 (48 + n)] 5) := by
  have hcv := fun (w : World) (g : Nat) => byte_str g n hn w
  go_enter Try.func38, Try.ntmps38
  go_wp2_with fail
  go_ret
  exact ⟨by rfl, rfl⟩

set_option maxRecDepth 100000 in
set_option maxHeartbeats 1000000 in
theorem l6Dec_two (n : Nat) (hn : n < 10) (w : World) :
    Calls Try.prog 38 #[.int .i64 (10 + n)] w fun e w' => e = .returned (.string (str (dgt 1 ++ dgt n))) ∧ Below w.heap.size w w' := by
  have hcv := fun (w : World) (g : Nat) => byte_str g n hn w
  have hq : (10 + (n : Int)).tdiv 10 = 1 := by rw [Int.tdiv_eq_ediv_of_nonneg (by omega)]; omega
  have hr : (10 + (n : Int)).tmod 10 = n := by rw [Int.tmod_eq_emod_of_nonneg (by omega)]; omega
  have hw1 : IntKind.i64.wrap (48 + (n : Int)) = 48 + n := by rw [IntKind.wrap_i64]; omega
  have hw2 : IntKind.u8.wrap (48 + (n : Int)) = 48 + n := by rw [IntKind.wrap_u8]; omega
  have hw3 : IntKind.i64.wrap 1 = 1 := by rw [IntKind.wrap_i64]; omega
  have hz1 : (str (dgt 1)).size = 1 := rfl
  have hz2 : (str (dgt n)).size = 1 := by rw [str_size]; rfl
  have hc1 := byte_str w.heap.size n hn (w.alloc (.cells #[.int .u8 (48 + (n : Int))] 5)).drew (by rw [World.cell?_drew]; simp)
  have hc2 := byte_str w.heap.size n hn ((w.alloc (.cells #[.int .u8 (48 + (n : Int))] 5)).alloc (.cells #[.int .u8 49] 5)).drew (by rw [World.cell?_drew]; simp)
  have hc3 := byte_str (w.heap.size + 1) n hn ((w.alloc (.cells #[.int .u8 49] 5)).alloc (.cells #[.int .u8 (48 + (n : Int))] 5)).drew (by rw [World.cell?_drew]; simp)
  clear hcv
  have HJ : Hid (str (dgt 1) ++ str (dgt n) = str (dgt 1 ++ dgt n)) := str_add _ _
  go_enter Try.func38, Try.ntmps38
  go_wp2_with fail
  go_region_with ((go_at_call 38; refine (l6Dec_one 1 (by omega) _).mono ?_; rintro e w2 ⟨rfl, rfl⟩))
  all_goals
    rw [HJ.out]
    go_wp2_with fail
    go_ret
    exact ⟨by rfl, (((Below.refl _ _).alloc (Nat.le_refl _) _).alloc (by simp) _).drew⟩

theorem l6Dec_any (v : Int) (h0 : 0 ≤ v) (h1 : v < 12) (w : World) :
    Calls Try.prog 38 #[.int .i64 v] w fun e w' => e = .returned (.string (str (Lib.decDigits v.toNat))) ∧ Below w.heap.size w w' := by
  obtain ⟨n, rfl⟩ := Int.eq_ofNat_of_zero_le h0
  by_cases hn : n < 10
  · rw [show Lib.decDigits (Int.toNat (n : Int)) = dgt n from dec_dgt hn]
    exact (l6Dec_one n hn w).mono fun e w' ⟨he, hw⟩ => ⟨he, hw ▸ (Below.refl _ _).alloc (Nat.le_refl _) _⟩
  · obtain ⟨m, rfl⟩ : ∃ m, n = 10 + m := ⟨n - 10, by omega⟩
    have hm : m < 10 := by omega
    have hd : Lib.decDigits (Int.toNat ((10 + m : Nat) : Int)) = dgt 1 ++ dgt m := by
      show Lib.decDigits (10 + m) = _
      unfold Lib.decDigits
      rw [dif_neg (by omega), show (10 + m) / 10 = 1 from by omega, show (10 + m) % 10 = m from by omega, dec_dgt (by omega)]
      rfl
    rw [hd]
    exact l6Dec_two m hm w

/-- What is said when j kids are. -/
def pre (s : Int) (ks : List (List UInt8)) (j : Nat) : List UInt8 := ltr s ++ (if j = 0 then [] else 40 :: Lib.join (ks.take j) [44])
def sp (j : Nat) : List UInt8 := [if j = 0 then 40 else 44]
theorem pre_step {s : Int} {ks : List (List UInt8)} {j : Nat} {x : List UInt8} (h : ks[j]? = some x) : pre s ks (j + 1) = pre s ks j ++ sp j ++ x := by
  unfold pre sp
  rw [if_neg (by omega)]
  obtain ⟨hlt, hx⟩ := List.getElem?_eq_some_iff.1 h
  rw [List.take_succ_eq_append_getElem hlt, hx]
  by_cases h0 : j = 0
  · subst h0
    simp [Lib.join_one]
  · rw [if_neg h0, if_neg h0]
    have hne : ks.take j ≠ [] := by
      intro h'
      rcases List.take_eq_nil_iff.1 h' with h' | h'
      · exact h0 h'
      · rw [h'] at hlt; simp at hlt
    have : Lib.join (ks.take j ++ [x]) [44] = Lib.join (ks.take j) [44] ++ [44] ++ x := by
      cases hl : ks.take j with
      | nil => exact absurd hl hne
      | cons y r =>
        rw [List.cons_append, Lib.join_cons, Lib.join_cons]
        simp [Lib.joinTail]
    rw [this]
    simp
theorem pre_len (s : Int) (ks : List (List UInt8)) (j : Nat) : (pre s ks j).length ≤ 2 + lens ks + ks.length := by
  unfold pre
  have h1 := ltr_len s
  split
  · simp; omega
  · have h2 := join_len (ks.take j)
    have h3 : lens (ks.take j) ≤ lens ks := by
      have := congrArg (fun l => lens l) (List.take_append_drop j ks)
      simp only [lens, List.map_append, List.sum_append] at this
      unfold lens
      omega
    have h4 : (ks.take j).length ≤ ks.length := by simp; omega
    simp; omega
theorem lens_at : ∀ {ks : List (List UInt8)} {j : Nat} {x : List UInt8}, ks[j]? = some x → x.length ≤ lens ks
  | [], _, _, h => by simp at h
  | y :: r, 0, x, h => by
    simp at h
    subst h
    simp [lens]
  | y :: r, j + 1, x, h => by
    have := lens_at (ks := r) (j := j) (x := x) (by simpa using h)
    simp only [lens, List.map_cons, List.sum_cons] at this ⊢
    omega
theorem tx_pre {s v : Int} {k : Fo} (hs : s ≠ 0) (hk : flen k ≠ 0) : tx s v k = pre s (fts k) (flen k) ++ [41] := by
  rw [tx_kids hs hk]
  unfold pre
  rw [if_neg hk, List.take_of_length_le (by rw [fts_len]; omega)]
  simp
theorem sp_cell (W : World) {j : Nat} (hj : j < 2) : (W.alloc (.cells #[.string ⟨#[40]⟩, .string ⟨#[44]⟩] 9)).cell? ⟨W.heap.size, j, none⟩ = some (.string (str (sp j))) := by
  have : j = 0 ∨ j = 1 := by omega
  rcases this with rfl | rfl
  · rw [World.cell?_alloc_at _ _ _ _ rfl]; rfl
  · rw [World.cell?_alloc_at _ _ _ _ rfl]; rfl
theorem say_out_cell (W : World) {s : Int} (h0 : 1 ≤ s) (h1 : s ≤ 4) : (W.alloc (.cells #[.string ⟨#[]⟩, .string ⟨#[97]⟩, .string ⟨#[98]⟩, .string ⟨#[103]⟩, .string ⟨#[102]⟩] 9)).cell? ⟨W.heap.size, s.toNat, none⟩ = some (.string (str (ltr s))) := by
  have : s = 1 ∨ s = 2 ∨ s = 3 ∨ s = 4 := by omega
  rcases this with rfl | rfl | rfl | rfl
  · rw [World.cell?_alloc_at _ _ _ _ rfl]; rfl
  · rw [World.cell?_alloc_at _ _ _ _ rfl]; rfl
  · rw [World.cell?_alloc_at _ _ _ _ rfl]; rfl
  · rw [World.cell?_alloc_at _ _ _ _ rfl]; rfl
theorem cell_lowS {W w2 : World} {q : Addr} {x : Value} (hb : Below W.heap.size W w2) (h : W.cell? q = some x) : w2.cell? q = some x := by
  rw [hb.cell (World.block_lt_of_cell? _ _ h)]; exact h
end Go.Proofs.Ythbakmdcepoikaa
