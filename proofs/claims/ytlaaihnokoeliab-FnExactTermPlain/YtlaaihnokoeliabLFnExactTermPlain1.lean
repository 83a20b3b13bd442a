/- Several texts in one: XW2, PLiT. -/
import Derived.Test.YtlaaihnokoeliabKPla23
import Derived.Test.YtlaaihnokoeliabKPla18
import Derived.Test.YtlaaihnokoeliabKPla24

/-! XW2: What the walks of exact laws hold on to: boxes of answers. Plain lemmas. -/
namespace Go.Proofs.Ytlaaihnokoeliab
open Go.RowKit Go.Deep

/-- A box of a term of the answer's own. -/
structure Yb (lo hi b : Nat) (s v : Int) (a : Option Addr) (c : Nat) (k : Fo) (w : World) : Prop where
  c0 : w.cell? ⟨b, 0, none⟩ = some (.int .i64 s)
  c1 : w.cell? ⟨b, 1, none⟩ = some (.int .i64 v)
  c2 : w.cell? ⟨b, 2, none⟩ = some (.slice a (flen k) c)
  tx : TX w lo hi a k
  lh : lo ≤ hi
  hb : hi ≤ b
  lt : b < w.heap.size
theorem Yb.next {lo hi b : Nat} {s v : Int} {a : Option Addr} {c : Nat} {k : Fo} {w w2 : World} (h : Yb lo hi b s v a c k w) (hb : Below w.heap.size w w2) : Yb lo hi b s v a c k w2 := by
  have h1 := h.hb
  have h2 := h.lt
  exact ⟨cell_low hb h.c0, cell_low hb h.c1, cell_low hb h.c2, h.tx.same (Same.of_below (hb.mono (by omega))), h.lh, h.hb, Nat.lt_of_lt_of_le h.lt hb.size⟩
theorem Yb.far {lo hi b : Nat} {s v : Int} {a : Option Addr} {c : Nat} {k : Fo} {w w2 : World} {lo' hi' : Nat} (h : Yb lo hi b s v a c k w) (hm : Marked lo' hi' w w2) (hd : hi' ≤ lo) : Yb lo hi b s v a c k w2 := by
  have h0 := h.lh
  have h1 := h.hb
  have h2 := h.lt
  have e := hm.far b (by omega) h2
  exact ⟨by rw [World.cell?_of_block (a := ⟨b, 0, none⟩) e]; exact h.c0, by rw [World.cell?_of_block (a := ⟨b, 1, none⟩) e]; exact h.c1, by rw [World.cell?_of_block (a := ⟨b, 2, none⟩) e]; exact h.c2, h.tx.same (fun q q1 q2 => hm.far q (by omega) (by omega)), h.lh, h.hb, Nat.lt_of_lt_of_le h.lt hm.below.size⟩
theorem Yb.top {lo hi b : Nat} {s v : Int} {a : Option Addr} {c : Nat} {k : Fo} {w : World} (h : Yb lo hi b s v a c k w) : Sl w 0 w.heap.size a k := h.tx.1.mono (Nat.zero_le _) (by have := h.hb; have := h.lt; omega)
theorem Yb.new {s v : Int} {a : Option Addr} {c : Nat} {k : Fo} {w : World} {lo : Nat} (h : TX w lo w.heap.size a k) (hl : lo ≤ w.heap.size) (T : TypeId) : Yb lo w.heap.size w.heap.size s v a c k (w.alloc (.cells #[.int .i64 s, .int .i64 v, .slice a (flen k) c] T)) := by
  have hb : Below w.heap.size w (w.alloc (.cells #[.int .i64 s, .int .i64 v, .slice a (flen k) c] T)) := (Below.refl _ _).alloc (Nat.le_refl _) _
  refine ⟨?_, ?_, ?_, h.same (Same.of_below hb), hl, Nat.le_refl _, by simp⟩
  · rw [World.cell?_alloc_at _ _ _ _ (by simp)]; rfl
  · rw [World.cell?_alloc_at _ _ _ _ (by simp)]; rfl
  · rw [World.cell?_alloc_at _ _ _ _ (by simp)]; rfl
/-- The same, its tree holding numbers from m on. -/
structure Yh (lo hi b : Nat) (s v : Int) (a : Option Addr) (c : Nat) (k : Fo) (m : Int) (w : World) : Prop where
  c0 : w.cell? ⟨b, 0, none⟩ = some (.int .i64 s)
  c1 : w.cell? ⟨b, 1, none⟩ = some (.int .i64 v)
  c2 : w.cell? ⟨b, 2, none⟩ = some (.slice a (flen k) c)
  hd : HdS w lo hi a k m
  lh : lo ≤ hi
  hb : hi ≤ b
  lt : b < w.heap.size
theorem Yh.next {lo hi b : Nat} {s v : Int} {a : Option Addr} {c : Nat} {k : Fo} {m : Int} {w w2 : World} (h : Yh lo hi b s v a c k m w) (hb : Below w.heap.size w w2) : Yh lo hi b s v a c k m w2 := by
  have h1 := h.hb
  have h2 := h.lt
  exact ⟨cell_low hb h.c0, cell_low hb h.c1, cell_low hb h.c2, h.hd.same (Same.of_below (hb.mono (by omega))), h.lh, h.hb, Nat.lt_of_lt_of_le h.lt hb.size⟩
theorem Yh.far {lo hi b : Nat} {s v : Int} {a : Option Addr} {c : Nat} {k : Fo} {m : Int} {w w2 : World} {top : Nat} (h : Yh lo hi b s v a c k m w) (hs : w.heap.size ≤ w2.heap.size) (hm : ∀ q, top ≤ q → q < w.heap.size → w2.heap[q]? = w.heap[q]?) (hd : top ≤ lo) : Yh lo hi b s v a c k m w2 := by
  have h0 := h.lh
  have h1 := h.hb
  have h2 := h.lt
  have e := hm b (by omega) h2
  exact ⟨by rw [World.cell?_of_block (a := ⟨b, 0, none⟩) e]; exact h.c0, by rw [World.cell?_of_block (a := ⟨b, 1, none⟩) e]; exact h.c1, by rw [World.cell?_of_block (a := ⟨b, 2, none⟩) e]; exact h.c2, h.hd.same (fun q q1 q2 => hm q (by omega) (by omega)), h.lh, h.hb, Nat.lt_of_lt_of_le h.lt hs⟩
theorem Yb.held {lo hi b : Nat} {s v : Int} {a : Option Addr} {c : Nat} {k : Fo} {m : Int} {w w2 : World} (h : Yb lo hi b s v a c k w) (hm : Marked lo hi w w2) (hd : HdS w2 lo hi a k m) : Yh lo hi b s v a c k m w2 := by
  have h1 := h.hb
  have h2 := h.lt
  have e := hm.far b h1 h2
  exact ⟨by rw [World.cell?_of_block (a := ⟨b, 0, none⟩) e]; exact h.c0, by rw [World.cell?_of_block (a := ⟨b, 1, none⟩) e]; exact h.c1, by rw [World.cell?_of_block (a := ⟨b, 2, none⟩) e]; exact h.c2, hd, h.lh, h.hb, Nat.lt_of_lt_of_le h.lt hm.below.size⟩
theorem Gx.low {lo hi : Nat} {bs : List Bd} {A : Option Addr} {w w2 : World} {B : Nat} (h : Gx lo hi bs A w) (hb : Below B w w2) (hB : hi ≤ B) : Gx lo hi bs A w2 := ⟨h.bx.same (Same.of_below (hb.mono hB)), Nat.le_trans h.le hb.size⟩
end Go.Proofs.Ytlaaihnokoeliab

/-! PLiT: The program's TermPlain: its answers own their memory. -/
namespace Go.Proofs.Ytlaaihnokoeliab
open Go.RowKit Go.Deep Go.Maps

def PlnPostT (s v : Int) (k : Fo) (w : World) (e : Ending) (w' : World) : Prop :=
  ∃ a c A C s' v' k' bs n, plR s v k = ((s', v', k'), bs) ∧ e = .returned (.tuple #[.agg #[.int .i64 s', .int .i64 v', .slice a (flen k') c], .slice A (List.length bs) C]) ∧ Below w.heap.size w w' ∧ BX w' w.heap.size n bs A ∧ TX w' n w'.heap.size a k' ∧ w.heap.size ≤ n ∧ n ≤ w'.heap.size
theorem pl_endT {w w1 : World} {s v s' v' : Int} {k k' : Fo} {a A : Option Addr} {c C n : Nat} {bs : List Bd} {o o' : Obj} (hr : plR s v k = ((s', v', k'), bs)) (hb : Below (w.heap.size + 2) ((w.alloc o).alloc o') w1) (hi : BX w1 (w.heap.size + 2) n bs A) (hl : TX w1 n w1.heap.size a k') (hn : w.heap.size + 2 ≤ n) (hn2 : n ≤ w1.heap.size) (x y z : Value) :
    PlnPostT s v k w (.returned (.tuple #[.agg #[.int .i64 s', .int .i64 v', .slice a (flen k') c], .slice A (List.length bs) C])) (((w1.setCell ⟨w.heap.size + 1, 0, none⟩ x).setCell ⟨w.heap.size + 1, 1, none⟩ y).setCell ⟨w.heap.size + 1, 2, none⟩ z) := by
  have h0 : Same (w.heap.size + 2) w1.heap.size w1 (((w1.setCell ⟨w.heap.size + 1, 0, none⟩ x).setCell ⟨w.heap.size + 1, 1, none⟩ y).setCell ⟨w.heap.size + 1, 2, none⟩ z) := ((Same.setCell (fun _ _ _ => rfl) (.inl (by simp)) _).setCell (.inl (by simp)) _).setCell (.inl (by simp)) _
  have hb' : Below w.heap.size w w1 := (((Below.refl _ _).alloc (Nat.le_refl _) o).alloc (by simp) o').trans (hb.mono (by omega))
  refine ⟨a, c, A, C, s', v', k', bs, n, hr, rfl, ((hb'.setCell (by simp) _).setCell (by simp) _).setCell (by simp) _, (hi.same (h0.mono (Nat.le_refl _) hn2)).mono (by omega) (Nat.le_refl _), ?_, by omega, by simpa using hn2⟩
  simpa using hl.same (h0.mono hn (Nat.le_refl _))

set_option maxRecDepth 100000 in
set_option maxHeartbeats 2000000 in
theorem iTermPlainT_any (s v : Int) (a : Option Addr) (c : Nat) (k : Fo) (w : World) (hl : Sl w 0 w.heap.size a k) :
    Calls Try.prog 11 #[.agg #[.int .i64 s, .int .i64 v, .slice a (flen k) c]] w (PlnPostT s v k w) := by
  have hb0 : Below w.heap.size w ((w.alloc (.cells #[.int .i64 s, .int .i64 v, .slice a (flen k) c] 25)).alloc (.cells #[.int .i64 0, .int .i64 0, .slice none 0 0] 25)) := ((Below.refl _ _).alloc (Nat.le_refl _) _).alloc (by simp) _
  have HL0 := Lib.hid (hl.next hb0)
  have HB0 : Hid (Below (w.heap.size + 2) ((w.alloc (.cells #[.int .i64 s, .int .i64 v, .slice a (flen k) c] 25)).alloc (.cells #[.int .i64 0, .int .i64 0, .slice none 0 0] 25)) ((w.alloc (.cells #[.int .i64 s, .int .i64 v, .slice a (flen k) c] 25)).alloc (.cells #[.int .i64 0, .int .i64 0, .slice none 0 0] 25))) := Below.refl _ _
  have hsz : w.heap.size + 2 ≤ ((w.alloc (.cells #[.int .i64 s, .int .i64 v, .slice a (flen k) c] 25)).alloc (.cells #[.int .i64 0, .int .i64 0, .slice none 0 0] 25)).heap.size := by simp
  clear hb0 hl
  go_enter Try.func11, Try.ntmps11
  go_wp2_with fail
  with_reducible refine (nodeOf_any s v a c k 16 _ HL0.out (by omega) (by omega)).mono ?_
  rintro e w1 ⟨nv, rfl, hb1, hyes⟩
  have hb1' := HB0.out.trans (hb1.mono hsz)
  have hs1 : w.heap.size + 2 ≤ w1.heap.size := Nat.le_trans hsz hb1.size
  have HB1 := Lib.hid hb1'
  have HY := Lib.hid hyes
  clear hb1 hyes HB0 hsz HL0
  cases hok : okW s v k 16 with
  | false =>
    obtain ⟨_, _, _, hr3, hr4, hr5⟩ := tb_cellsS hb1'
    obtain ⟨_, hf3⟩ := tb_freeS hb1' 0 rfl rfl
    obtain ⟨_, hf4⟩ := tb_freeS hb1' 1 rfl rfl
    obtain ⟨_, hf5⟩ := tb_freeS hb1' 2 rfl rfl
    have HR := Lib.hid (plR_bad hok)
    clear hok hb1'
    go_wp2_with fail
    refine bodyPost_ret (v := .tuple #[.agg #[.int .i64 0, .int .i64 0, .slice none 0 0], .slice none 0 0]) ?_ rfl (pl_endT (k' := .nil) (bs := []) (n := w1.heap.size) HR.out HB1.out (.inl rfl) ⟨.inl rfl, .inl rfl⟩ hs1 (Nat.le_refl _) _ _ _)
    simp [results, Try.results11, go_sem, hr3, hr4, hr5]
  | true =>
    have HOK := Lib.hid hok
    obtain ⟨o1, o2, o3⟩ := (okW_iff _ _ _ _).1 hok
    have HO1 := Lib.hid o1
    have HO2 := Lib.hid o2
    have HN1 : Hid (NodeIs w1 0 w1.heap.size nv s v k) := (HY.out hok).mono (Nat.zero_le _) (Nat.le_refl _)
    have HFI := Lib.hid (fvs_in hok)
    have HR := Lib.hid (plR_ok hok)
    clear hok o1 o2 hb1' HY
    go_wp2_with fail
    with_reducible refine (plainOf_any s v k nv _ HN1.out (by omega) HFI.out).mono ?_
    rintro e w2 ⟨b, rfl, hb2, hm2⟩
    have HB2 := Lib.hid (HB1.out.trans (hb2.mono hs1))
    have HN2 : Hid (NodeIs w2 0 w2.heap.size nv s v k) := (HN1.out.below hb2).mono (Nat.le_refl _) hb2.size
    have hs2 := hb2.size
    have HM2 := Lib.hid hm2.to
    clear hb2 hm2 HN1 HB1
    obtain ⟨i1, i2, i3, i4, i5⟩ := nms_in HOK.out
    have HBI := Lib.hid (bindsT_any (nms s v k) b 16 w2 HM2.out i1 (fun x hx => HFI.out x ((i3 x).1 hx)) ((nms_bof HOK.out).mono (by omega)))
    have HFIT := Lib.hid (fits_of i1 ((nms_bof HOK.out).mono (by omega)))
    clear i1 i2 i3 i4 i5
    go_wp2_with fail
    with_reducible refine HBI.out.mono ?_
    rintro e w3 ⟨hb3, hc3⟩
    rcases hc3 with ⟨_, A, C, rfl, ho⟩ | ⟨hno, _⟩
    case inr => rw [HFIT.out] at hno; cases hno
    have HB3 := Lib.hid (HB2.out.trans (hb3.mono (by omega)))
    have HN3 : Hid (NodeIs w3 0 w3.heap.size nv s v k) := (HN2.out.below hb3).mono (Nat.le_refl _) hb3.size
    have HM3 := Lib.hid (HM2.out.below hb3)
    have HS3 : Hid (BX w3 (w.heap.size + 2) w3.heap.size (nms s v k) A) := ho.mono (by omega) (Nat.le_refl _)
    have hs3 := hb3.size
    clear hb3 ho HN2 HM2 HB2 HBI HFIT
    go_wp2_with fail
    with_reducible refine (apply_any (nms s v k) b s v k nv _ HN3.out HM3.out HO1.out HO2.out (by omega)).mono ?_
    obtain ⟨t1, t2, t3⟩ := tsub_ok (nms_sok HOK.out) HOK.out
    have HT1 := Lib.hid t1
    have HT2 := Lib.hid t2
    clear t1 t2
    generalize htt : tsub (sv (nms s v k)) s v k = tt at *
    obtain ⟨s', v', k'⟩ := tt
    dsimp only at HT1 HT2 t3
    rintro e w4 ⟨nv', rfl, hb4, hn'⟩
    dsimp only at hn'
    have hs4 := hb4.size
    have HB4 := Lib.hid (HB3.out.trans (hb4.mono (by omega)))
    have HS4 : Hid (BX w4 (w.heap.size + 2) w3.heap.size (nms s v k) A) := HS3.out.same (Same.of_below hb4)
    clear hb4 HB3 HN3 HM3 HS3 htt
    rcases hn' with ⟨rfl, rfl, rfl⟩ | ⟨hs', a5, c5, rfl, hn2⟩
    · go_wp2_with fail
      refine upon_method 113 (by kernel_rfl) (by kernel_rfl) ?_
      go_simp
      with_reducible refine (varTermT_any v' _).mono ?_
      rintro e w6 ⟨a6, c6, rfl, hb6, hl6⟩
      have hs6 := hb6.size
      have hb6' := HB4.out.trans (hb6.mono (by omega))
      have HBE := Lib.hid hb6'
      have HSE : Hid (BX w6 (w.heap.size + 2) w3.heap.size (nms s v k) A) := HS4.out.same (Same.of_below (hb6.mono hs4))
      obtain ⟨_, _, _, hr3, hr4, hr5⟩ := tb_cellsS hb6'
      obtain ⟨_, hf3⟩ := tb_freeS hb6' 0 rfl rfl
      obtain ⟨_, hf4⟩ := tb_freeS hb6' 1 rfl rfl
      obtain ⟨_, hf5⟩ := tb_freeS hb6' 2 rfl rfl
      have HL6 := Lib.hid (hl6.mono (lo' := w3.heap.size) hs4 (Nat.le_refl _))
      clear hb6 hl6 hb6'
      go_wp2_with fail
      refine bodyPost_ret (v := .tuple #[.agg #[.int .i64 0, .int .i64 v', .slice a6 (flen .nil) c6], .slice A (nms s v k).length C]) ?_ rfl (pl_endT HR.out HBE.out HSE.out HL6.out (by omega) (by omega) _ _ _)
      simp [results, Try.results11, go_sem, hr3, hr4, hr5]
    · have hv0 : v' = 0 := ((okN_iff _ _ _).1 HT1.out).2.2 hs'
      subst hv0
      have HNS := Lib.hid hn2
      clear hn2
      go_wp2_with fail
      refine upon_method 129 (by kernel_rfl) (by kernel_rfl) ?_
      go_simp
      with_reducible refine (symTermT_any (fsz k') s' a5 c5 k' _ HNS.out HT2.out (Nat.le_refl _) (by omega)).mono ?_
      rintro e w6 ⟨a6, c6, rfl, hb6, hl6⟩
      have hs6 := hb6.size
      have hb6' := HB4.out.trans (hb6.mono (by omega))
      have HBE := Lib.hid hb6'
      have HSE : Hid (BX w6 (w.heap.size + 2) w3.heap.size (nms s v k) A) := HS4.out.same (Same.of_below (hb6.mono hs4))
      obtain ⟨_, _, _, hr3, hr4, hr5⟩ := tb_cellsS hb6'
      obtain ⟨_, hf3⟩ := tb_freeS hb6' 0 rfl rfl
      obtain ⟨_, hf4⟩ := tb_freeS hb6' 1 rfl rfl
      obtain ⟨_, hf5⟩ := tb_freeS hb6' 2 rfl rfl
      have HL6 := Lib.hid (hl6.mono (lo' := w3.heap.size) hs4 (Nat.le_refl _))
      clear hb6 hl6 hb6'
      go_wp2_with fail
      refine bodyPost_ret (v := .tuple #[.agg #[.int .i64 s', .int .i64 0, .slice a6 (flen k') c6], .slice A (nms s v k).length C]) ?_ rfl (pl_endT HR.out HBE.out HSE.out HL6.out (by omega) (by omega) _ _ _)
      simp [results, Try.results11, go_sem, hr3, hr4, hr5]
end Go.Proofs.Ytlaaihnokoeliab
