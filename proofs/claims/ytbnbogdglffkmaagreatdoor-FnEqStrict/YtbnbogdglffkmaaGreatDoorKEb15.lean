/- Several texts in one: ER1, T2, T3, RD11, LB, EQ. -/
import Derived.Test.YtbnbogdglffkmaaGreatDoorKEb13
import Derived.Test.YtbnbogdglffkmaaGreatDoorKEb14
import Derived.Test.YtbnbogdglffkmaaGreatDoorKEb6
import Derived.Test.YtbnbogdglffkmaaGreatDoorKEb2
import Derived.Test.YtbnbogdglffkmaaGreatDoorKEb4
import Derived.Deep.RegionHeld3
import Derived.Laws.IdiomStrings
import Derived.Laws.BitsLemmas
import Derived.Test.YtbnbogdglffkmaaGreatDoorKEb12

/-! ER1: A text cut at each blank: what the specification's l31Split answers. -/
namespace Go.Proofs.YtbnbogdglffkmaaGreatDoor
open Go.RowKit Go.Deep
attribute [local go_sem ↓] Go.wp_at_zero Go.wp_at_succ

theorem Tryz.infoString : ∃ i, Tryz.prog.info? 9 = some i ∧ i.zero = some (.string ⟨#[]⟩) ∧ i.size = 1 ∧ i.bytes = 16 := by
  have h : (Tryz.prog.info? 9).map (fun i => (i.zero, i.size, i.bytes)) = some (some (.string ⟨#[]⟩), 1, 16) := by kernel_rfl
  obtain ⟨i, hi, hz⟩ := Option.map_eq_some_iff.1 h
  simp only [Prod.mk.injEq] at hz
  exact ⟨i, hi, hz.1, hz.2.1, hz.2.2⟩
def SOwn (w : World) (base : Nat) (xs : List (List UInt8)) (A : Option Addr) (C : Nat) : Prop := w.ownsRow base 9 1 (.slice A xs.length C) xs.length (xs.map fun l => Value.string (str l))
/-- Texts that lie in a block. -/
def Wd (w : World) (lo : Nat) (A : Option Addr) (xs : List (List UInt8)) : Prop := ∃ b, A = some ⟨b, 0, none⟩ ∧ lo ≤ b ∧ b < w.heap.size ∧ ∀ i x, xs[i]? = some x → w.cell? ⟨b, i, none⟩ = some (.string (str x))
theorem wd_of_own {w : World} {base : Nat} {A : Option Addr} {C n : Nat} {xs : List (List UInt8)} (h : w.ownsRow base 9 1 (.slice A n C) n (xs.map fun l => Value.string (str l))) (h0 : 0 < n) : Wd w base A xs := by
  obtain ⟨g, cap, hv, hb, hlt⟩ := h.form h0
  have hA : A = some ⟨g, 0, none⟩ := by simp only [Value.slice.injEq] at hv; exact hv.1
  have hc := h.cells (g := g) (by rw [hA]; rfl)
  have ha : ∀ n, (⟨g, 0, none⟩ : Addr).add n = ⟨g, 0 + n, none⟩ := fun n => by unfold Addr.add; split <;> simp_all
  refine ⟨g, hA, hb, hlt, fun i x hx => ?_⟩
  have := hc i (.string (str x)) (by simp [hx])
  rw [ha, Nat.zero_add] at this
  exact this
theorem own_emptyS {W : World} {base g : Nat} (h : W.heap[g]? = some (.cells #[] 9 (0, 0))) (hb : base ≤ g) : W.ownsRow base 9 1 (.slice (some ⟨g, 0, none⟩) 0 0) 0 [] :=
  ⟨rfl, .inr ⟨g, 0, #[], rfl, hb, h, Nat.le_refl _, Nat.zero_le _, rfl, rfl⟩⟩
theorem str_cut (l : List UInt8) (f p : Nat) : (str l).extract f p = str ((l.drop f).take (p - f)) := by
  apply ByteArray.ext
  rw [ByteArray.data_extract]
  apply Array.toList_inj.1
  rw [Array.toList_extract]
  show List.extract l f p = (l.drop f).take (p - f)
  rw [List.extract_eq_take_drop]
theorem str_sub {l : List UInt8} {f p : Nat} (h1 : f ≤ p) (h2 : p ≤ l.length) (wx : World) : (Instr.slice 9 (.string (str l)) (some (.int .i64 (f : Int))) (some (.int .i64 (p : Int))) none).run Tryz.prog wx = .ok (.string (str ((l.drop f).take (p - f)))) wx := by
  have hs := str_size l
  rw [run_slice_string _ _ _ _ _ _ _ Tryz.underlying9 (by omega) (by omega) (by omega), Int.toNat_natCast, Int.toNat_natCast, str_cut]
theorem str_from {l : List UInt8} {f : Nat} (h1 : f ≤ l.length) (wx : World) : (Instr.slice 9 (.string (str l)) (some (.int .i64 (f : Int))) none none).run Tryz.prog wx = .ok (.string (str (l.drop f))) wx := by
  have hs := str_size l
  rw [run_slice_string_l _ _ _ Tryz.underlying9 _ _ (by omega) (by omega), Int.toNat_natCast, hs, str_cut, List.take_of_length_le (by simp)]

def SplPost (l : List UInt8) (w : World) (e : Ending) (w' : World) : Prop :=
  ∃ A C, e = .returned (.slice A (spl l).length C) ∧ Below w.heap.size w w' ∧ Wd w' w.heap.size A (spl l)
/-- Where the cutting stands. -/
def SpSt (l : List UInt8) (ws : List (List UInt8)) (f p : Nat) : Prop := f ≤ p ∧ p ≤ l.length ∧ spl l = ws ++ spl (l.drop f) ∧ (32 : UInt8) ∉ (l.drop f).take (p - f) ∧ ws.length ≤ l.length
theorem spst_start (l : List UInt8) : SpSt l [] 0 0 := ⟨Nat.le_refl _, Nat.zero_le _, rfl, by simp, Nat.zero_le _⟩
theorem spst_len {l : List UInt8} {ws : List (List UInt8)} {f : Nat} (h : spl l = ws ++ spl (l.drop f)) : ws.length ≤ l.length := by
  have h1 := congrArg List.length h
  have h2 := spl_len l
  have h3 : 0 < (spl (l.drop f)).length := List.length_pos_iff.2 (spl_ne _)
  simp only [List.length_append] at h1
  omega
theorem spst_hit {l : List UInt8} {ws : List (List UInt8)} {f p : Nat} (h : SpSt l ws f p) (hb : l[p]? = some 32) : SpSt l (ws ++ [(l.drop f).take (p - f)]) (p + 1) (p + 1) := by
  obtain ⟨h1, h2, h3, h4, h5⟩ := h
  have hlt := (List.getElem?_eq_some_iff.1 hb).1
  have hd : l.drop p = 32 :: l.drop (p + 1) := by
    rw [List.drop_eq_getElem_cons hlt, (List.getElem?_eq_some_iff.1 hb).2]
  have hs : spl l = (ws ++ [(l.drop f).take (p - f)]) ++ spl (l.drop (p + 1)) := by
    rw [h3]
    have : l.drop f = (l.drop f).take (p - f) ++ 32 :: l.drop (p + 1) := by
      conv => lhs; rw [← List.take_append_drop (p - f) (l.drop f)]
      rw [List.drop_drop, show f + (p - f) = p from by omega, hd]
    rw [this, spl_cut _ h4, ← this]
    simp
  exact ⟨Nat.le_refl _, hlt, hs, by simp, spst_len hs⟩
theorem spst_miss {l : List UInt8} {ws : List (List UInt8)} {f p : Nat} {b : UInt8} (h : SpSt l ws f p) (hb : l[p]? = some b) (hne : b ≠ 32) : SpSt l ws f (p + 1) := by
  obtain ⟨h1, h2, h3, h4, h5⟩ := h
  have hlt := (List.getElem?_eq_some_iff.1 hb).1
  refine ⟨by omega, hlt, h3, ?_, h5⟩
  rw [show p + 1 - f = (p - f) + 1 from by omega, List.take_add_one, List.getElem?_drop, show f + (p - f) = p from by omega, hb]
  simp only [Option.toList_some, List.mem_append, List.mem_singleton, not_or]
  exact ⟨h4, fun e => hne e.symm⟩
theorem spst_end {l : List UInt8} {ws : List (List UInt8)} {f p : Nat} (h : SpSt l ws f p) (hp : l.length ≤ p) : spl l = ws ++ [l.drop f] ∧ f ≤ l.length := by
  obtain ⟨h1, h2, h3, h4, h5⟩ := h
  rw [List.take_of_length_le (by simp; omega)] at h4
  rw [spl_no h4] at h3
  exact ⟨h3, by omega⟩

set_option maxRecDepth 100000 in
set_option maxHeartbeats 1000000 in
theorem l31Split_any (l : List UInt8) (w : World) (hl : l.length ≤ 1048576) :
    Calls Tryz.prog 22 #[.string (str l), .int .u8 32] w (SplPost l w) := by
  have hz := str_size l
  obtain ⟨ti, hti, htz, hts, htb⟩ := Tryz.infoString
  have HTI : Hid (Tryz.prog.info? 9 = some ti ∧ ti.zero = some (.string ⟨#[]⟩) ∧ ti.size = 1 ∧ ti.bytes = 16) := ⟨hti, htz, hts, htb⟩
  have HST : Hid (SOwn (w.alloc (.cells #[] 9)) w.heap.size [] (some ⟨w.heap.size, 0, none⟩) 0) := own_emptyS (heap_alloc_new _ _) (Nat.le_refl _)
  have HST2 := Lib.hid (spst_start l)
  have HL := Lib.hid hl
  clear hti htz hts htb hl
  go_enter Tryz.func22, Tryz.ntmps22
  go_wp2_with fail
  go_loopw [5, 6, 7] (fun o f i wr => ∃ (ws : List (List UInt8)) (ff p : Nat) (A : Option Addr) (C : Nat), o = .slice A ws.length C ∧ f = .int .i64 (ff : Int) ∧ i = .int .i64 (p : Int) ∧ Hid (SpSt l ws ff p) ∧ Hid (SOwn wr w.heap.size ws A C) ∧ Hid (Below w.heap.size w wr)) (fun _ _ i _ => l.length - (intOf i).toNat)
  case atStart => exact ⟨[], 0, 0, _, 0, rfl, rfl, rfl, HST2, HST, (Below.refl _ _).alloc (Nat.le_refl _) _⟩
  case round =>
    clear HST HST2
    obtain ⟨ws, ff, p, A, C, rfl, rfl, rfl, HS, HO, HB⟩ := hrel
    have hbs := HB.out.size
    have hs := HS.out
    have hL := HL.out
    have HLT : Hid (∀ g, (Value.slice A ws.length C).ownBlock = some g → w.heap.size ≤ g) := fun g hg => (HO.out.lt g hg).1
    have hwl : ws.length ≤ 1048576 := by have := hs.2.2.2.2; omega
    by_cases hlt : p < l.length
    · obtain ⟨b, hb⟩ : ∃ b, l[p]? = some b := ⟨_, List.getElem?_eq_getElem hlt⟩
      have hidx := fun wx => str_index hb wx
      have e0 : decide ((p : Int) < (l.length : Int)) = true := decide_eq_true (by omega)
      have hf : ff ≤ p := hs.1
      have hsub := fun wx => str_sub hf (Nat.le_of_lt hlt) wx
      by_cases h32 : b = 32
      · subst h32
        have HS2 := Lib.hid (spst_hit hs hb)
        obtain ⟨seg, hseg⟩ : ∃ seg, seg = (l.drop ff).take (p - ff) := ⟨_, rfl⟩
        rw [← hseg] at hsub HS2
        have hlen : (ws ++ [seg]).length = ws.length + 1 := by simp
        clear hb hs hseg hf
        go_wp2_with (at_builtin; refine wpList_append_lies _ rfl _ _ 46 rfl w.heap.size 9 ti _ 1 16 Tryz.underlying46 HTI.out.1 HTI.out.2.1 HTI.out.2.2.1 HTI.out.2.2.2 rfl (by omega) (.slice A ws.length C) ws.length (ws.map fun l => Value.string (str l)) rfl (HO.out.alloc _) ⟨wr.heap.size, 0, none⟩ 1 1 [.string (str seg)] rfl rfl (World.news_of_block (heap_alloc_new _ _)) (by simp [Value.oneCell']) (by omega) (by unfold maxLen; omega) (by omega) (by simp; omega) (wr.heap.size + 1) (by simp) ?_; intro g cap w3 hown3 hgrow3 hat3 hg3; have HO3 : Hid (SOwn w3 w.heap.size (ws ++ [seg]) (some ⟨g, 0, none⟩) cap) := (by unfold Hid SOwn; rw [hlen, List.map_append]; exact hown3); have HB3 : Hid (Below w.heap.size w w3) := (HB.out.alloc hbs _).grown hgrow3 (by simp; omega) HLT.out; clear hown3 hgrow3 hat3 hg3)
        go_roundw
        case rel => exact ⟨ws ++ [seg], p + 1, p + 1, _, cap, by rw [hlen], by go_num, by go_num, HS2, HO3, HB3⟩
        case measure => simp [intOf]; omega
      · have HS2 := Lib.hid (spst_miss hs hb h32)
        have e1 : ((b.toNat : Int) == 32) = false := beq_eq_false_iff_ne.2 fun e => h32 (UInt8.toNat_inj.1 (by have : (32 : UInt8).toNat = 32 := rfl; omega))
        clear hb hs hf hsub h32
        go_wp2_with fail
        go_roundw
        case rel => exact ⟨ws, ff, p + 1, A, C, rfl, rfl, by go_num, HS2, HO, HB⟩
        case measure => simp [intOf]; omega
    · have e0 : decide ((p : Int) < (l.length : Int)) = false := decide_eq_false (by omega)
      obtain ⟨hE, hf⟩ := spst_end hs (by omega)
      have HE := Lib.hid hE
      have hsub := fun wx => str_from hf wx
      obtain ⟨seg, hseg⟩ : ∃ seg, seg = l.drop ff := ⟨_, rfl⟩
      rw [← hseg] at hsub HE
      have hlen : (ws ++ [seg]).length = ws.length + 1 := by simp
      clear hs hseg hE hf
      go_wp2_with (at_builtin; refine wpList_append_lies _ rfl _ _ 46 rfl w.heap.size 9 ti _ 1 16 Tryz.underlying46 HTI.out.1 HTI.out.2.1 HTI.out.2.2.1 HTI.out.2.2.2 rfl (by omega) (.slice A ws.length C) ws.length (ws.map fun l => Value.string (str l)) rfl (HO.out.alloc _) ⟨wr.heap.size, 0, none⟩ 1 1 [.string (str seg)] rfl rfl (World.news_of_block (heap_alloc_new _ _)) (by simp [Value.oneCell']) (by omega) (by unfold maxLen; omega) (by omega) (by simp; omega) (wr.heap.size + 1) (by simp) ?_; intro g cap w3 hown3 hgrow3 hat3 hg3; have HO3 : Hid (SOwn w3 w.heap.size (ws ++ [seg]) (some ⟨g, 0, none⟩) cap) := (by unfold Hid SOwn; rw [hlen, List.map_append]; exact hown3); have HB3 : Hid (Below w.heap.size w w3) := (HB.out.alloc hbs _).grown hgrow3 (by simp; omega) HLT.out; clear hown3 hgrow3 hat3 hg3)
      go_ret
      refine ⟨some ⟨g, 0, none⟩, cap, ?_, HB3.out, ?_⟩
      · rw [HE.out, hlen]; rfl
      · rw [HE.out]; exact wd_of_own HO3.out (by omega)
end Go.Proofs.YtbnbogdglffkmaaGreatDoor

/-! T2: The specification's decimal, its text of a term, its TermText. -/
namespace Go.Proofs.YtbnbogdglffkmaaGreatDoor
open Go.RowKit Go.Deep

/-- The text of one digit. -/
def dgt (n : Nat) : List UInt8 := [UInt8.ofNat (48 + n)]
theorem dec_dgt {n : Nat} (h : n < 10) : Lib.decDigits n = dgt n := by
  unfold Lib.decDigits dgt
  rw [dif_pos h]
theorem byte_str (g : Nat) (n : Nat) (hn : n < 10) (w : World) (h : w.cell? ⟨g, 0, none⟩ = some (.int .u8 (48 + n))) :
    (convert 22 9 (.slice (some ⟨g, 0, none⟩) 1 1)).run Tryz.prog w = .ok (.string (str (dgt n))) w :=
  run_convert_bytes_back (P := Tryz.prog) w 22 9 5 ⟨g, 0, none⟩ 1 (dgt n) Tryz.underlying22 Tryz.underlying5 Tryz.underlying9 (fun j hj => by
    obtain rfl : j = 0 := by simp [dgt] at hj; omega
    show w.cell? ⟨g, 0, none⟩ = _
    rw [h]
    simp [dgt, UInt8.toNat_ofNat]
    omega)

set_option maxRecDepth 100000 in
set_option maxHeartbeats 1000000 in
theorem l6Dec_one (n : Nat) (hn : n < 10) (w : World) :
    Calls Tryz.prog 28 #[.int .i64 n] w fun e w' => e = .returned (.string (str (dgt n))) ∧ w' = w.alloc (.cells #[.int .u8 (48 + n)] 5) := by
  have hcv := fun (w : World) (g : Nat) => byte_str g n hn w
  go_enter Tryz.func28, Tryz.ntmps28
  go_wp2_with fail
  go_ret
  exact ⟨by rfl, rfl⟩

set_option maxRecDepth 100000 in
set_option maxHeartbeats 1000000 in
theorem l6Dec_two (n : Nat) (hn : n < 10) (w : World) :
    Calls Tryz.prog 28 #[.int .i64 (10 + n)] w fun e w' => e = .returned (.string (str (dgt 1 ++ dgt n))) ∧ Below w.heap.size w w' := by
  have hcv := fun (w : World) (g : Nat) => byte_str g n hn w
  have hq : (10 + (n : Int)).tdiv 10 = 1 := by rw [Int.tdiv_eq_ediv_of_nonneg (by omega)]; omega
  have hr : (10 + (n : Int)).tmod 10 = n := by rw [Int.tmod_eq_emod_of_nonneg (by omega)]; omega
  have hw1 : IntKind.i64.wrap (48 + (n : Int)) = 48 + n := by rw [IntKind.wrap_i64]; omega
  have hw2 : IntKind.u8.wrap (48 + (n : Int)) = 48 + n := by rw [IntKind.wrap_u8]; omega
  have hw3 : IntKind.i64.wrap 1 = 1 := by rw [IntKind.wrap_i64]; omega
  have hz1 : (str (dgt 1)).size = 1 := rfl
  have hz2 : (str (dgt n)).size = 1 := by rw [str_size]; rfl
  have hc1 := byte_str w.heap.size n hn (w.alloc (.cells #[.int .u8 (48 + (n : Int))] 5)).drew (by rw [World.cell?_drew]; simp)
  have hc2 := byte_str w.heap.size n hn ((w.alloc (.cells #[.int .u8 (48 + (n : Int))] 5)).alloc (.cells #[.int .u8 49] 5)).drew (by rw [World.cell?_drew]; simp)
  have hc3 := byte_str (w.heap.size + 1) n hn ((w.alloc (.cells #[.int .u8 49] 5)).alloc (.cells #[.int .u8 (48 + (n : Int))] 5)).drew (by rw [World.cell?_drew]; simp)
  clear hcv
  have HJ : Hid (str (dgt 1) ++ str (dgt n) = str (dgt 1 ++ dgt n)) := str_add _ _
  go_enter Tryz.func28, Tryz.ntmps28
  go_wp2_with fail
  go_region_with ((go_at_call 28; refine (l6Dec_one 1 (by omega) _).mono ?_; rintro e w2 ⟨rfl, rfl⟩))
  all_goals
    rw [HJ.out]
    go_wp2_with fail
    go_ret
    exact ⟨by rfl, (((Below.refl _ _).alloc (Nat.le_refl _) _).alloc (by simp) _).drew⟩

theorem l6Dec_any (v : Int) (h0 : 0 ≤ v) (h1 : v < 12) (w : World) :
    Calls Tryz.prog 28 #[.int .i64 v] w fun e w' => e = .returned (.string (str (Lib.decDigits v.toNat))) ∧ Below w.heap.size w w' := by
  obtain ⟨n, rfl⟩ := Int.eq_ofNat_of_zero_le h0
  by_cases hn : n < 10
  · rw [show Lib.decDigits (Int.toNat (n : Int)) = dgt n from dec_dgt hn]
    exact (l6Dec_one n hn w).mono fun e w' ⟨he, hw⟩ => ⟨he, hw ▸ (Below.refl _ _).alloc (Nat.le_refl _) _⟩
  · obtain ⟨m, rfl⟩ : ∃ m, n = 10 + m := ⟨n - 10, by omega⟩
    have hm : m < 10 := by omega
    have hd : Lib.decDigits (Int.toNat ((10 + m : Nat) : Int)) = dgt 1 ++ dgt m := by
      show Lib.decDigits (10 + m) = _
      unfold Lib.decDigits
      rw [dif_neg (by omega), show (10 + m) / 10 = 1 from by omega, show (10 + m) % 10 = m from by omega, dec_dgt (by omega)]
      rfl
    rw [hd]
    exact l6Dec_two m hm w

/-- What is said when j kids are. -/
def pre (s : Int) (ks : List (List UInt8)) (j : Nat) : List UInt8 := ltr s ++ (if j = 0 then [] else 40 :: Lib.join (ks.take j) [44])
def sp (j : Nat) : List UInt8 := [if j = 0 then 40 else 44]
theorem pre_step {s : Int} {ks : List (List UInt8)} {j : Nat} {x : List UInt8} (h : ks[j]? = some x) : pre s ks (j + 1) = pre s ks j ++ sp j ++ x := by
  unfold pre sp
  rw [if_neg (by omega)]
  obtain ⟨hlt, hx⟩ := List.getElem?_eq_some_iff.1 h
  rw [List.take_succ_eq_append_getElem hlt, hx]
  by_cases h0 : j = 0
  · subst h0
    simp [Lib.join_one]
  · rw [if_neg h0, if_neg h0]
    have hne : ks.take j ≠ [] := by
      intro h'
      rcases List.take_eq_nil_iff.1 h' with h' | h'
      · exact h0 h'
      · rw [h'] at hlt; simp at hlt
    have : Lib.join (ks.take j ++ [x]) [44] = Lib.join (ks.take j) [44] ++ [44] ++ x := by
      cases hl : ks.take j with
      | nil => exact absurd hl hne
      | cons y r =>
        rw [List.cons_append, Lib.join_cons, Lib.join_cons]
        simp [Lib.joinTail]
    rw [this]
    simp
theorem pre_len (s : Int) (ks : List (List UInt8)) (j : Nat) : (pre s ks j).length ≤ 2 + lens ks + ks.length := by
  unfold pre
  have h1 := ltr_len s
  split
  · simp; omega
  · have h2 := join_len (ks.take j)
    have h3 : lens (ks.take j) ≤ lens ks := by
      have := congrArg (fun l => lens l) (List.take_append_drop j ks)
      simp only [lens, List.map_append, List.sum_append] at this
      unfold lens
      omega
    have h4 : (ks.take j).length ≤ ks.length := by simp; omega
    simp; omega
theorem lens_at : ∀ {ks : List (List UInt8)} {j : Nat} {x : List UInt8}, ks[j]? = some x → x.length ≤ lens ks
  | [], _, _, h => by simp at h
  | y :: r, 0, x, h => by
    simp at h
    subst h
    simp [lens]
  | y :: r, j + 1, x, h => by
    have := lens_at (ks := r) (j := j) (x := x) (by simpa using h)
    simp only [lens, List.map_cons, List.sum_cons] at this ⊢
    omega
theorem tx_pre {s v : Int} {k : Fo} (hs : s ≠ 0) (hk : flen k ≠ 0) : tx s v k = pre s (fts k) (flen k) ++ [41] := by
  rw [tx_kids hs hk]
  unfold pre
  rw [if_neg hk, List.take_of_length_le (by rw [fts_len]; omega)]
  simp
theorem sp_cell (W : World) {j : Nat} (hj : j < 2) : (W.alloc (.cells #[.string ⟨#[40]⟩, .string ⟨#[44]⟩] 9)).cell? ⟨W.heap.size, j, none⟩ = some (.string (str (sp j))) := by
  have : j = 0 ∨ j = 1 := by omega
  rcases this with rfl | rfl
  · rw [World.cell?_alloc_at _ _ _ _ rfl]; rfl
  · rw [World.cell?_alloc_at _ _ _ _ rfl]; rfl
theorem say_out_cell (W : World) {s : Int} (h0 : 1 ≤ s) (h1 : s ≤ 4) : (W.alloc (.cells #[.string ⟨#[]⟩, .string ⟨#[97]⟩, .string ⟨#[98]⟩, .string ⟨#[103]⟩, .string ⟨#[102]⟩] 9)).cell? ⟨W.heap.size, s.toNat, none⟩ = some (.string (str (ltr s))) := by
  have : s = 1 ∨ s = 2 ∨ s = 3 ∨ s = 4 := by omega
  rcases this with rfl | rfl | rfl | rfl
  · rw [World.cell?_alloc_at _ _ _ _ rfl]; rfl
  · rw [World.cell?_alloc_at _ _ _ _ rfl]; rfl
  · rw [World.cell?_alloc_at _ _ _ _ rfl]; rfl
  · rw [World.cell?_alloc_at _ _ _ _ rfl]; rfl
theorem cell_lowS {W w2 : World} {q : Addr} {x : Value} (hb : Below W.heap.size W w2) (h : W.cell? q = some x) : w2.cell? q = some x := by
  rw [hb.cell (World.block_lt_of_cell? _ _ h)]; exact h
end Go.Proofs.YtbnbogdglffkmaaGreatDoor

/-! T3: The specification's text of a term. -/
namespace Go.Proofs.YtbnbogdglffkmaaGreatDoor
open Go.RowKit Go.Deep

theorem keepT {W w2 : World} {B : Nat} {b1 o1 b2 o2 : Nat} {x1 x2 x3 x4 : Value} (hb : Below B W w2) (h1 : W.cell? ⟨b1, o1, none⟩ = some x1) (h2 : W.cell? ⟨b2, o2, none⟩ = some x2) (h3 : W.cell? ⟨b2, o2 + 1, none⟩ = some x3) (h4 : W.cell? ⟨b2, o2 + 2, none⟩ = some x4)
    (g1 : b1 < B) (g2 : b2 < B) : w2.cell? ⟨b1, o1, none⟩ = some x1 ∧ w2.cell? ⟨b2, o2, none⟩ = some x2 ∧ w2.cell? ⟨b2, o2 + 1, none⟩ = some x3 ∧ w2.cell? ⟨b2, o2 + 2, none⟩ = some x4 :=
  ⟨by rw [hb.cell g1]; exact h1, by rw [hb.cell g2]; exact h2, by rw [hb.cell g2]; exact h3, by rw [hb.cell g2]; exact h4⟩

set_option maxRecDepth 100000 in
set_option maxHeartbeats 2000000 in
theorem l1Say_any (N : Nat) : ∀ (s v : Int) (a : Option Addr) (c : Nat) (k : Fo) (w : World), Sl w 0 w.heap.size a k → okN s v (flen k) = true → fok k = true → fsz k ≤ N → N ≤ 1000 →
    Calls Tryz.prog 16 #[.agg #[.int .i64 s, .int .i64 v, .slice a (flen k) c]] w fun e w' => e = .returned (.string (str (tx s v k))) ∧ Below w.heap.size w w' := by
  induction N using Nat.strongRecOn with
  | _ N ih =>
    intro s v a c k w hl hokN hok hN hN2
    have hfl := flen_le_sz k
    have hshort := fts_short k hok
    have HOK := Lib.hid hok
    have HSH := Lib.hid hshort
    have IH := Lib.hid ih
    obtain ⟨har, hv0, _⟩ := (okN_iff _ _ _).1 hokN
    clear ih hok hshort
    by_cases hs : s = 0
    · subst hs
      have hk0 : flen k = 0 := by simp [ar] at har; omega
      have hk : k = .nil := by cases k with
        | nil => rfl
        | node => simp [flen] at hk0
      subst hk
      have hv := hv0 rfl
      have hz : (str (Lib.decDigits v.toNat)).size ≤ 2 := by rw [str_size]; exact dec_len (by omega)
      clear hl hfl hN har hokN hv0
      go_enter Tryz.func16, Tryz.ntmps16
      go_wp2_with fail
      with_reducible refine (l6Dec_any v hv.1 (by omega) _).mono ?_
      rintro e w2 ⟨rfl, hb⟩
      go_wp2_with fail
      go_ret
      exact ⟨by rw [tx_var, show (120 :: Lib.decDigits v.toNat) = [120] ++ Lib.decDigits v.toNat from rfl, ← str_add]; rfl, ((Below.refl _ _).alloc (Nat.le_refl _) _).trans (hb.mono (by simp))⟩
    · have hsr : (1 ≤ s ∧ s ≤ 4) ∧ flen k ≤ 2 := by
        unfold ar at har
        split at har
        · omega
        · split at har
          · omega
          · split at har <;> omega
      obtain ⟨⟨hs1, hs4⟩, hk2⟩ := hsr
      have HS := Lib.hid hs
      have es : (s == 0) = false := by simp [hs]
      have hco := say_out_cell (w.alloc (.cells #[.int .i64 s, .int .i64 v, .slice a (flen k) c] 25)) hs1 hs4
      obtain ⟨m, rfl⟩ : ∃ m : Nat, s = m := ⟨s.toNat, by omega⟩
      rw [show Int.toNat (m : Int) = m from rfl] at hco
      simp only [World.size_alloc] at hco
      have HF2 : Hid ((fts k).length = flen k) := fts_len k
      clear har hokN hv0 hs
      go_enter Tryz.func16, Tryz.ntmps16
      go_wp2_with fail
      clear hco
      go_loopw [3, 4] (fun o i wr => ∃ j : Nat, j ≤ flen k ∧ i = .int .i64 j ∧ o = .string (str (pre m (fts k) j)) ∧ Below (w.heap.size + 1) (w.alloc (.cells #[.int .i64 (m : Int), .int .i64 v, .slice a (flen k) c] 25)) wr) (fun _ i _ => flen k - (intOf i).toNat)
      case atStart => exact ⟨0, by omega, rfl, by simp [pre], (Below.refl _ _).alloc (by simp) _⟩
      case round =>
        obtain ⟨j, hj, rfl, rfl, hbl⟩ := hrel
        obtain ⟨hc0, hc1, hc2⟩ : wr.cell? ⟨w.heap.size, 0, none⟩ = some (.int .i64 m) ∧ wr.cell? ⟨w.heap.size, 1, none⟩ = some (.int .i64 v) ∧ wr.cell? ⟨w.heap.size, 2, none⟩ = some (.slice a (flen k) c) := box_cells ⟨wr, hbl⟩
        have hsr := hbl.size
        simp at hsr
        have hpl := pre_len m (fts k) j
        have hz1 : (str (pre m (fts k) j)).size ≤ 100000 := by rw [str_size]; have := HSH.out; omega
        by_cases hlt : j < flen k
        · rcases hl with rfl | ⟨b, o, rfl, hrow⟩
          · simp [flen] at hlt
          obtain ⟨s', v', kk, a', c', ⟨x, y, hd⟩, _, hbB, hk0, hk1, hk2', hsl⟩ := row_at (hrow.below (after_top hbl)) hlt
          have hkN := fsz_kid hd
          have HKO := Lib.hid (fok_kid HOK.out hd)
          have hat := fts_at j k hd
          have HST := Lib.hid (pre_step (s := m) hat)
          have hz2 : (str (pre m (fts k) j) ++ str (sp j)).size ≤ 100001 := by rw [str_add, str_size]; rw [str_size] at hz1; simp [sp]; omega
          have hz3 : (str (sp j)).size = 1 := rfl
          have hn1 : ¬ 9223372036854775807 < (str (pre m (fts k) j)).size + (str (sp j)).size := by rw [str_size] at hz1 ⊢; rw [hz3]; omega
          have hz4 : (str (tx s' v' kk)).size ≤ 100000 := by rw [str_size]; have := lens_at hat; have := HSH.out; omega
          have g1 : (0 : Int) ≤ (j : Int) := by omega
          have g2 : (j : Int) < (flen k : Int) := by omega
          have g3 : (j : Int) < 2 := by omega
          have hB1 : Below wr.heap.size wr (wr.alloc (.cells #[.string ⟨#[40]⟩, .string ⟨#[44]⟩] 9)).drew := ((Below.refl _ _).alloc (Nat.le_refl _) _).drew
          have hB0 : Below wr.heap.size wr wr.drew := (Below.refl _ _).drew
          have hcA : (wr.alloc (.cells #[.string ⟨#[40]⟩, .string ⟨#[44]⟩] 9)).drew.cell? ⟨wr.heap.size, j, none⟩ = some (.string (str (sp j))) := sp_cell wr (by omega)
          have HS0 : Hid (Sl wr.drew 0 wr.drew.heap.size a' kk) := (hsl.below (hB0.mono (by omega))).mono (Nat.le_refl _) (by simp; omega)
          have HS1 : Hid (Sl (wr.alloc (.cells #[.string ⟨#[40]⟩, .string ⟨#[44]⟩] 9)).drew 0 (wr.alloc (.cells #[.string ⟨#[40]⟩, .string ⟨#[44]⟩] 9)).drew.heap.size a' kk) := (hsl.below (hB1.mono (by omega))).mono (Nat.le_refl _) (by simp; omega)
          obtain ⟨hq2, hq3, hq4, hq5⟩ := keepT (B := w.heap.size + 1) (hB1.mono (by omega)) hc2 hk0 hk1 hk2' (by omega) (by omega)
          have hq2' : (wr.alloc (.cells #[.string ⟨#[40]⟩, .string ⟨#[44]⟩] 9)).cell? ⟨w.heap.size, 2, none⟩ = some (.slice (some ⟨b, o, none⟩) (flen k) c) := hq2
          have hq3' : (wr.alloc (.cells #[.string ⟨#[40]⟩, .string ⟨#[44]⟩] 9)).cell? ⟨b, o + j * 3, none⟩ = some (.int .i64 s') := hq3
          have hq4' : (wr.alloc (.cells #[.string ⟨#[40]⟩, .string ⟨#[44]⟩] 9)).cell? ⟨b, o + j * 3 + 1, none⟩ = some (.int .i64 v') := hq4
          have hq5' : (wr.alloc (.cells #[.string ⟨#[40]⟩, .string ⟨#[44]⟩] 9)).cell? ⟨b, o + j * 3 + 2, none⟩ = some (.slice a' (flen kk) c') := hq5
          have hcA' : (wr.alloc (.cells #[.string ⟨#[40]⟩, .string ⟨#[44]⟩] 9)).cell? ⟨wr.heap.size, j, none⟩ = some (.string (str (sp j))) := hcA
          have HB0 := Lib.hid hB0
          have HB1 := Lib.hid hB1
          have HBL := Lib.hid hbl
          have HSP : Hid (∀ W : World, (W.alloc (.cells #[.string ⟨#[40]⟩, .string ⟨#[44]⟩] 9)).cell? ⟨W.heap.size, j, none⟩ = some (.string (str (sp j)))) := fun W => sp_cell W (by omega)
          have HN' : Hid (fsz kk < N) := by unfold Hid; omega
          have HN3 : Hid (fsz kk ≤ 1000) := by unfold Hid; omega
          clear hd hrow hbl hsl hat hpl hB0 hB1
          go_wp2_with fail
          go_region_with (first
              | ((go_at_call 16; refine (IH.out (fsz kk) HN'.out s' v' a' c' kk _ HS1.out HKO.out.1 HKO.out.2 (Nat.le_refl _) HN3.out).mono ?_); rintro e w2 ⟨rfl, hb2⟩; have hW2 := HB1.out.trans (hb2.mono (by simp)); have hW2s := hW2.size; have hcB := cell_lowS hb2 hcA)
              | ((go_at_call 16; refine (IH.out (fsz kk) HN'.out s' v' a' c' kk _ HS0.out HKO.out.1 HKO.out.2 (Nat.le_refl _) HN3.out).mono ?_); rintro e w2 ⟨rfl, hb2⟩; have hW2 := HB0.out.trans (hb2.mono (by simp)); have hW2s := hW2.size; have hcC := HSP.out w2))
          all_goals
            go_wp2_with fail
            go_roundw
            case rel => exact ⟨j + 1, by omega, by go_num, by rw [HST.out, ← str_add, ← str_add], by first | exact HBL.out.trans (hW2.mono hsr) | exact (HBL.out.trans (hW2.mono hsr)).alloc (by omega) _⟩
            case measure => simp [intOf]; omega
        · have hje : j = flen k := by omega
          subst hje
          have HBL := Lib.hid hbl
          by_cases hk0 : flen k = 0
          · have HT := Lib.hid (tx_leaf (v := v) HS.out hk0)
            have HPZ : Hid (pre m (fts k) (flen k) = ltr m) := by rw [hk0]; simp [Hid, pre]
            have hkz : (flen k : Int) ≤ 0 := by omega
            clear hbl hl
            go_wp2_with fail
            go_ret
            exact ⟨by rw [HT.out, ← HPZ.out]; rfl, after_top HBL.out⟩
          · have HT := Lib.hid (tx_pre (v := v) HS.out hk0)
            have hkp : (0 : Int) < (flen k : Int) := by omega
            have HJ : Hid (str (pre m (fts k) (flen k)) ++ ⟨#[41]⟩ = str (pre m (fts k) (flen k) ++ [41])) := str_add _ [41]
            clear hbl hl
            go_wp2_with fail
            rw [HJ.out]
            go_wp2_with fail
            go_ret
            exact ⟨by rw [HT.out]; rfl, after_top HBL.out⟩

set_option maxRecDepth 100000 in
set_option maxHeartbeats 1000000 in
theorem sTermText_any (s v : Int) (a : Option Addr) (c : Nat) (k : Fo) (w : World) (hl : Sl w 0 w.heap.size a k) :
    Calls Tryz.prog 36 #[.agg #[.int .i64 s, .int .i64 v, .slice a (flen k) c]] w fun e w' => e = .returned (.string (str (if okW s v k 16 = true then tx s v k else []))) ∧ Below w.heap.size w w' := by
  have hl1 := (hl.below ((Below.refl _ _).alloc (Nat.le_refl _) (.cells #[.int .i64 s, .int .i64 v, .slice a (flen k) c] 25))).mono (Nat.le_refl _) (show w.heap.size ≤ (w.alloc (.cells #[.int .i64 s, .int .i64 v, .slice a (flen k) c] 25)).heap.size by simp)
  have HL1 := Lib.hid hl1
  clear hl1
  cases hok : okW s v k 16 with
  | false =>
    have HOK := Lib.hid hok
    clear hok
    go_enter Tryz.func36, Tryz.ntmps36
    go_wp2_with fail
    with_reducible refine (sTermOk_any s v a c k _ HL1.out).mono ?_
    rw [HOK.out]
    rintro e w2 ⟨rfl, hb⟩
    go_wp2_with fail
    go_ret
    exact ⟨rfl, ((Below.refl _ _).alloc (Nat.le_refl _) _).trans (hb.mono (by simp))⟩
  | true =>
    have HOK := Lib.hid hok
    have HOW := Lib.hid ((okW_iff _ _ _ _).1 hok)
    clear hok
    go_enter Tryz.func36, Tryz.ntmps36
    go_wp2_with fail
    with_reducible refine (sTermOk_any s v a c k _ HL1.out).mono ?_
    rw [HOK.out]
    rintro e w2 ⟨rfl, hb⟩
    obtain ⟨hc0, hc1, hc2⟩ := box_cells (w := w) ⟨w2, by simpa using hb⟩
    dsimp only at hc0 hc1 hc2
    have HL2 := Lib.hid ((HL1.out.below hb).mono (Nat.le_refl _) hb.size)
    have HB := Lib.hid (((Below.refl w.heap.size w).alloc (Nat.le_refl _) _).trans (hb.mono (by simp)))
    clear hb
    go_wp2_with fail
    with_reducible refine (l1Say_any (fsz k) s v a c k _ HL2.out HOW.out.1 HOW.out.2.1 (Nat.le_refl _) (by have := HOW.out.2.2; omega)).mono ?_
    rintro e w3 ⟨rfl, hb3⟩
    go_wp2_with fail
    go_ret
    exact ⟨by simp, HB.out.trans (hb3.mono HB.out.size)⟩
end Go.Proofs.YtbnbogdglffkmaaGreatDoor

/-! RD11: TermRead of the specification. -/
namespace Go.Proofs.YtbnbogdglffkmaaGreatDoor
open Go.RowKit Go.Deep

def RsPost (l : List UInt8) (w : World) (e : Ending) (w' : World) : Prop :=
  ∃ a c s v k t, rdA l = (s, v, k, t) ∧ e = .returned (.tuple #[.agg #[.int .i64 s, .int .i64 v, .slice a (flen k) c], .bool t]) ∧ Below w.heap.size w w' ∧ Sl w' w.heap.size w'.heap.size a k
theorem rs_end {w w1 : World} {l : List UInt8} {s v : Int} {k : Fo} {t : Bool} {a : Option Addr} {c : Nat} (hr : rdA l = (s, v, k, t)) (hb : Below w.heap.size w w1) (hl : Sl w1 (w.heap.size + 1) w1.heap.size a k) (x y z : Value) :
    RsPost l w (.returned (.tuple #[.agg #[.int .i64 s, .int .i64 v, .slice a (flen k) c], .bool t])) (((w1.setCell ⟨w.heap.size, 0, none⟩ x).setCell ⟨w.heap.size, 1, none⟩ y).setCell ⟨w.heap.size, 2, none⟩ z) := by
  refine ⟨a, c, s, v, k, t, hr, rfl, ((hb.setCell (by simp) _).setCell (by simp) _).setCell (by simp) _, ?_⟩
  have hs : Same (w.heap.size + 1) w1.heap.size w1 (((w1.setCell ⟨w.heap.size, 0, none⟩ x).setCell ⟨w.heap.size, 1, none⟩ y).setCell ⟨w.heap.size, 2, none⟩ z) :=
    (((Same.setCell (fun _ _ _ => rfl) (.inl (by simp)) _).setCell (.inl (by simp)) _).setCell (.inl (by simp)) _)
  exact (hl.same hs).mono (by omega) (by simp)

set_option maxRecDepth 100000 in
set_option maxHeartbeats 1000000 in
theorem sTermRead_any (l : List UInt8) (w : World) (hl : l.length ≤ 1048576) :
    Calls Tryz.prog 23 #[.string (str l)] w (RsPost l w) := by
  have hb0 : Below w.heap.size w (w.alloc (.cells #[.int .i64 0, .int .i64 0, .slice none 0 0] 25)) := (Below.refl _ _).alloc (Nat.le_refl _) _
  have hhear : Calls Tryz.prog 35 #[.string (str l), .int .i64 0, .int .i64 16] (w.alloc (.cells #[.int .i64 0, .int .i64 0, .slice none 0 0] 25)) (HePost l 0 16 (w.alloc (.cells #[.int .i64 0, .int .i64 0, .slice none 0 0] 25))) := l1Hear_any 16 (by omega) l 0 (w.alloc (.cells #[.int .i64 0, .int .i64 0, .slice none 0 0] 25)) hl (by omega)
  have HH := Lib.hid hhear
  have HB0 := Lib.hid hb0
  clear hhear hb0 hl
  go_enter Tryz.func23, Tryz.ntmps23
  go_wp2_with fail
  with_reducible refine HH.out.mono ?_
  rintro e w2 ⟨a2, c2, s, v, k, n', z, hr, hz, rfl, hb2, hl2⟩
  rw [List.drop_zero] at hr
  have hs2 := hb2.size
  simp at hs2
  have hb2' : Below (w.heap.size + 1) (w.alloc (.cells #[.int .i64 0, .int .i64 0, .slice none 0 0] 25)) w2 := by simpa using hb2
  have hb3 : Below (w.heap.size + 1) (w.alloc (.cells #[.int .i64 0, .int .i64 0, .slice none 0 0] 25)) (w2.alloc (.cells #[.int .i64 s, .int .i64 v, .slice a2 (flen k) c2] 25)) := hb2'.alloc (by omega) _
  have HB3 := Lib.hid hb3
  have HB3' := Lib.hid (HB0.out.trans (hb3.mono (Nat.le_succ _)))
  have hl3 : Sl (w2.alloc (.cells #[.int .i64 s, .int .i64 v, .slice a2 (flen k) c2] 25)) (w.heap.size + 1) (w2.alloc (.cells #[.int .i64 s, .int .i64 v, .slice a2 (flen k) c2] 25)).heap.size a2 k := (hl2.below ((Below.refl _ _).alloc (Nat.le_refl _) _)).mono (by simp) (by simp)
  have HL3 := Lib.hid hl3
  clear hb2 hb2' hb3 hl2 hl3 hz
  obtain ⟨hr0, hr1, hr2, hq0, hq1, hq2⟩ := he_cells HB3.out
  have hx0 : (w2.alloc (.cells #[.int .i64 s, .int .i64 v, .slice a2 (flen k) c2] 25)).heap.size = w2.heap.size + 1 := World.size_alloc _ _
  have HX0 := Lib.hid hx0
  clear hx0
  cases l with
  | nil =>
    have HA : Hid (rdA [] = (0, 0, .nil, false)) := rfl
    have e2 : (str []).toList.isEmpty = true := by rw [Lib.toList_data, str_toList]; rfl
    go_wp2_with fail
    refine bodyPost_ret (v := .tuple #[.agg #[.int .i64 0, .int .i64 0, .slice none 0 0], .bool false]) ?_ rfl (rs_end (k := .nil) HA.out HB3'.out (.inl rfl) _ _ _)
    simp [results, Tryz.results23, go_sem, hr0, hr1, hr2]
  | cons b r =>
    have e2 : (str (b :: r)).toList.isEmpty = false := by rw [Lib.toList_data, str_toList]; rfl
    have hcase := hear_read (b :: r)
    rw [hr] at hcase
    have HC := Lib.hid hcase
    clear hcase hr
    go_wp2_with fail
    with_reducible refine (sTermText_any s v a2 c2 k _ ?_).mono ?_
    · exact HL3.out.mono (Nat.zero_le _) (Nat.le_refl _)
    rintro e w4 ⟨rfl, hb4⟩
    have HB4 := Lib.hid (HB3'.out.trans (hb4.mono (by have := HX0.out; omega)))
    have hb4' := HB3.out.trans (hb4.mono (by have := HX0.out; omega))
    obtain ⟨hg0, hg1, hg2, hp0, hp1, hp2⟩ := he_cells hb4'
    have HL4 := Lib.hid ((HL3.out.below hb4).mono (Nat.le_refl _) hb4.size)
    have ht0 : w4.cell? ⟨w2.heap.size, 0, none⟩ = some (.int .i64 s) := by rw [hb4.cell (by simp)]; simp
    have ht1 : w4.cell? ⟨w2.heap.size, 1, none⟩ = some (.int .i64 v) := by rw [hb4.cell (by simp)]; simp
    have ht2 : w4.cell? ⟨w2.heap.size, 2, none⟩ = some (.slice a2 (flen k) c2) := by rw [hb4.cell (by simp)]; simp
    clear hb4 hb4' hr0 hr1 hr2 hq0 hq1 hq2
    obtain ⟨X, hX⟩ : ∃ X, X = if okW s v k 16 = true then tx s v k else [] := ⟨_, rfl⟩
    rw [← hX]
    rcases HC.out with ⟨h1, h2⟩ | ⟨h1, h2, h3⟩
    · have HA : Hid (rdA (b :: r) = (0, 0, .nil, false)) := by unfold Hid rdA; rw [h1]
      have hne : X ≠ b :: r := by
        rw [hX]
        by_cases hok : okW s v k 16 = true
        · rw [if_pos hok]; exact fun e => h2 ⟨hok, e⟩
        · rw [if_neg hok]; exact fun e => by cases e
      have hq : ((str X).toList == (str (b :: r)).toList) = false := by
        rw [Lib.toList_data, Lib.toList_data, str_toList, str_toList]
        simpa using hne
      clear hne hX h1 h2
      go_wp2_with fail
      refine bodyPost_ret (v := .tuple #[.agg #[.int .i64 0, .int .i64 0, .slice none 0 0], .bool false]) ?_ rfl (rs_end (k := .nil) HA.out HB4.out (.inl rfl) _ _ _)
      simp [results, Tryz.results23, go_sem, hg0, hg1, hg2]
    · have HA : Hid (rdA (b :: r) = (s, v, k, true)) := by unfold Hid rdA; rw [h1]
      have hXl : X = b :: r := by rw [hX, if_pos h2]; exact h3
      have hq : ((str X).toList == (str (b :: r)).toList) = true := by rw [hXl]; simp
      clear hXl hX h1 h2 h3
      go_wp2_with fail
      refine bodyPost_ret (v := .tuple #[.agg #[.int .i64 s, .int .i64 v, .slice a2 (flen k) c2], .bool true]) ?_ rfl (rs_end HA.out HB4.out HL4.out _ _ _)
      simp [results, Tryz.results23, go_sem, hg0, hg1, hg2]
end Go.Proofs.YtbnbogdglffkmaaGreatDoor

/-! LB: What the walks of laws hold on to: boxes of terms, and what stays when memory is added. Plain lemmas. -/
namespace Go.Proofs.YtbnbogdglffkmaaGreatDoor
open Go.RowKit Go.Deep

/-- Block b is a box that holds the term s v k; what it leads to lies in memory. -/
structure Tb (b : Nat) (s v : Int) (a : Option Addr) (c : Nat) (k : Fo) (w : World) : Prop where
  c0 : w.cell? ⟨b, 0, none⟩ = some (.int .i64 s)
  c1 : w.cell? ⟨b, 1, none⟩ = some (.int .i64 v)
  c2 : w.cell? ⟨b, 2, none⟩ = some (.slice a (flen k) c)
  sl : Sl w 0 w.heap.size a k
theorem Tb.next {b : Nat} {s v : Int} {a : Option Addr} {c : Nat} {k : Fo} {w w2 : World} (h : Tb b s v a c k w) (hb : Below w.heap.size w w2) : Tb b s v a c k w2 :=
  ⟨cell_low hb h.c0, cell_low hb h.c1, cell_low hb h.c2, (h.sl.below hb).mono (Nat.le_refl _) hb.size⟩
theorem Tb.new {s v : Int} {a : Option Addr} {c : Nat} {k : Fo} {w : World} {lo : Nat} (h : Sl w lo w.heap.size a k) : Tb w.heap.size s v a c k (w.alloc (.cells #[.int .i64 s, .int .i64 v, .slice a (flen k) c] 25)) := by
  have hb : Below w.heap.size w (w.alloc (.cells #[.int .i64 s, .int .i64 v, .slice a (flen k) c] 25)) := (Below.refl _ _).alloc (Nat.le_refl _) _
  refine ⟨?_, ?_, ?_, ((h.mono (Nat.zero_le _) (Nat.le_refl _)).below hb).mono (Nat.le_refl _) hb.size⟩
  · rw [World.cell?_alloc_at _ _ _ _ (by simp)]; rfl
  · rw [World.cell?_alloc_at _ _ _ _ (by simp)]; rfl
  · rw [World.cell?_alloc_at _ _ _ _ (by simp)]; rfl
theorem box_low (w : World) (o : Obj) : Below w.heap.size w (w.alloc o) := (Below.refl _ _).alloc (Nat.le_refl _) o
theorem Sl.next {w w2 : World} {lo : Nat} {a : Option Addr} {k : Fo} (h : Sl w lo w.heap.size a k) (hb : Below w.heap.size w w2) : Sl w2 0 w2.heap.size a k := ((h.mono (Nat.zero_le _) (Nat.le_refl _)).below hb).mono (Nat.le_refl _) hb.size
theorem BSl.next {w w2 : World} {lo : Nat} {a : Option Addr} {bs : List Bd} (h : BSl w lo w.heap.size a bs) (hb : Below w.heap.size w w2) : BSl w2 0 w2.heap.size a bs := ((h.mono (Nat.zero_le _) (Nat.le_refl _)).below hb).mono (Nat.le_refl _) hb.size
theorem ISl.next {w w2 : World} {lo : Nat} {a : Option Addr} {xs : List Int} (h : ISl w lo w.heap.size a xs) (hb : Below w.heap.size w w2) : ISl w2 0 w2.heap.size a xs := ((h.mono (Nat.zero_le _) (Nat.le_refl _)).below hb).mono (Nat.le_refl _) hb.size
theorem ISc.next {w w2 : World} {lo : Nat} {a : Option Addr} {c : Nat} {xs : List Int} (h : ISc w lo w.heap.size a c xs) (hb : Below w.heap.size w w2) : ISc w2 0 w2.heap.size a c xs := ⟨h.1.next hb, h.2⟩
theorem RSl.next {w w2 : World} {lo : Nat} {a : Option Addr} {rows : List (List Int)} (h : RSl w lo w.heap.size a rows) (hb : Below w.heap.size w w2) : RSl w2 0 w2.heap.size a rows := ((h.mono (Nat.zero_le _) (Nat.le_refl _)).below hb).mono (Nat.le_refl _) hb.size
theorem below_next {w0 w w2 : World} (h : Below w0.heap.size w0 w) (hb : Below w.heap.size w w2) : Below w0.heap.size w0 w2 := h.trans (hb.mono h.size)
theorem Bytes.next {w wn : World} {a : Option Addr} {len : Nat} (h : Bytes w a len) (hb : Below w.heap.size w wn) : Bytes wn a len := by
  rcases h with h | ⟨b, o, e, h1, h2⟩
  · exact .inl h
  · refine .inr ⟨b, o, e, Nat.lt_of_lt_of_le h1 hb.size, fun i hi => ?_⟩
    obtain ⟨x, hx, hc⟩ := h2 i hi
    exact ⟨x, hx, cell_low hb hc⟩
end Go.Proofs.YtbnbogdglffkmaaGreatDoor

/-! EQ: Lists of equations as plain data, and in memory as rows of six cells. Definitions and plain lemmas. -/
namespace Go.Proofs.YtbnbogdglffkmaaGreatDoor
open Go.RowKit Go.Deep

/-- A sign, a variable, the kids. -/
abbrev Tm3 := Int × Int × Fo
/-- Both sides of an equation. -/
abbrev Eqd := Tm3 × Tm3
def okT3 (room : Int) (t : Tm3) : Bool := okW t.1 t.2.1 t.2.2 room
/-- A slice's address at which the equations es lie. -/
def ESl (w : World) (lo B : Nat) (a : Option Addr) (es : List Eqd) : Prop :=
  es = [] ∨ ∃ b o, a = some ⟨b, o, none⟩ ∧ lo ≤ b ∧ b < B ∧ ∀ (i : Nat) (x : Eqd), es[i]? = some x → ∃ a1 c1 a2 c2, w.cell? ⟨b, o + i * 6, none⟩ = some (.int .i64 x.1.1) ∧ w.cell? ⟨b, o + i * 6 + 1, none⟩ = some (.int .i64 x.1.2.1) ∧ w.cell? ⟨b, o + i * 6 + 2, none⟩ = some (.slice a1 (flen x.1.2.2) c1) ∧
    w.cell? ⟨b, o + i * 6 + 3, none⟩ = some (.int .i64 x.2.1) ∧ w.cell? ⟨b, o + i * 6 + 3 + 1, none⟩ = some (.int .i64 x.2.2.1) ∧ w.cell? ⟨b, o + i * 6 + 3 + 2, none⟩ = some (.slice a2 (flen x.2.2.2) c2) ∧ Sl w lo B a1 x.1.2.2 ∧ Sl w lo B a2 x.2.2.2
theorem ESl.same {w w' : World} {lo B : Nat} {a : Option Addr} {es : List Eqd} (hb : Same lo B w w') (h : ESl w lo B a es) : ESl w' lo B a es := by
  rcases h with h | ⟨b, o, e, h1, h2, h3⟩
  · exact .inl h
  · refine .inr ⟨b, o, e, h1, h2, fun i x hx => ?_⟩
    obtain ⟨a1, k1, a2, k2, c0, c1, c2, c3, c4, c5, hl, hl2⟩ := h3 i x hx
    exact ⟨a1, k1, a2, k2, by rw [hb.cell h1 h2]; exact c0, by rw [hb.cell h1 h2]; exact c1, by rw [hb.cell h1 h2]; exact c2, by rw [hb.cell h1 h2]; exact c3, by rw [hb.cell h1 h2]; exact c4, by rw [hb.cell h1 h2]; exact c5, hl.same hb, hl2.same hb⟩
theorem ESl.mono {w : World} {lo lo' B B' : Nat} {a : Option Addr} {es : List Eqd} (hlo : lo' ≤ lo) (hB : B ≤ B') (h : ESl w lo B a es) : ESl w lo' B' a es := by
  rcases h with h | ⟨b, o, e, h1, h2, h3⟩
  · exact .inl h
  · refine .inr ⟨b, o, e, by omega, by omega, fun i x hx => ?_⟩
    obtain ⟨a1, k1, a2, k2, c0, c1, c2, c3, c4, c5, hl, hl2⟩ := h3 i x hx
    exact ⟨a1, k1, a2, k2, c0, c1, c2, c3, c4, c5, hl.mono hlo hB, hl2.mono hlo hB⟩
theorem ESl.below {w w' : World} {lo B : Nat} {a : Option Addr} {es : List Eqd} (hb : Below B w w') (h : ESl w lo B a es) : ESl w' lo B a es := h.same (Same.of_below hb)
theorem ESl.next {w w' : World} {a : Option Addr} {es : List Eqd} (h : ESl w 0 w.heap.size a es) (hb : Below w.heap.size w w') : ESl w' 0 w'.heap.size a es := (h.below hb).mono (Nat.le_refl _) hb.size
/-- What the cells of an equation hold. -/
theorem ESl.at {w : World} {lo B : Nat} {a : Option Addr} {es : List Eqd} (h : ESl w lo B a es) {i : Nat} {x : Eqd} (hx : es[i]? = some x) :
    ∃ b o, a = some ⟨b, o, none⟩ ∧ lo ≤ b ∧ b < B ∧ ∃ a1 c1 a2 c2, w.cell? ⟨b, o + i * 6, none⟩ = some (.int .i64 x.1.1) ∧ w.cell? ⟨b, o + i * 6 + 1, none⟩ = some (.int .i64 x.1.2.1) ∧ w.cell? ⟨b, o + i * 6 + 2, none⟩ = some (.slice a1 (flen x.1.2.2) c1) ∧
    w.cell? ⟨b, o + i * 6 + 3, none⟩ = some (.int .i64 x.2.1) ∧ w.cell? ⟨b, o + i * 6 + 3 + 1, none⟩ = some (.int .i64 x.2.2.1) ∧ w.cell? ⟨b, o + i * 6 + 3 + 2, none⟩ = some (.slice a2 (flen x.2.2.2) c2) ∧ Sl w lo B a1 x.1.2.2 ∧ Sl w lo B a2 x.2.2.2 := by
  rcases h with rfl | ⟨b, o, e, h1, h2, h3⟩
  · simp at hx
  · exact ⟨b, o, e, h1, h2, h3 i x hx⟩

/-- An equation of valid terms. -/
def okE (x : Eqd) : Bool := okT3 16 x.1 && okT3 16 x.2
/-- A valid equation list. -/
def okEs (es : List Eqd) : Bool := decide (es.length ≤ 6) && es.all okE
theorem okEs_iff (es : List Eqd) : okEs es = true ↔ es.length ≤ 6 ∧ ∀ x ∈ es, okE x = true := by simp [okEs]
theorem all_take {es : List Eqd} {j : Nat} {x : Eqd} (h : (es.take j).all okE = true) (hx : es[j]? = some x) (h1 : okE x = true) : (es.take (j + 1)).all okE = true := by
  rw [List.take_add_one, hx]
  simp only [Option.toList_some, List.all_append, h, List.all_cons, h1, List.all_nil, Bool.and_true]
theorem all_no {es : List Eqd} {j : Nat} {x : Eqd} (hx : es[j]? = some x) (h1 : okE x = false) : okEs es = false := by
  cases h : okEs es with
  | false => rfl
  | true => rw [((okEs_iff es).1 h).2 x (List.mem_of_getElem? hx)] at h1; cases h1
end Go.Proofs.YtbnbogdglffkmaaGreatDoor
